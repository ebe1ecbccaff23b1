/-
  The reference's steps with a letter.
-/
import Derived.Test.YtdlldljgogbiaabQuietR
namespace Go.Proofs.Ytdlldljgogbiaab
open Go.RowKit
set_option linter.unusedVariables false
set_option maxRecDepth 20000

/-- what stands all through loud -/
structure LStands (w : World) (x y : Int) (a : Option Addr) (cap : Nat) (ts : List Flow.Tr) (out : List Nat) (o : Option Addr) (co : Nat) (wr : World) : Prop where
  net : Blk wr w.heap.size (netQ x y a ts.length cap) 48
  row : wr.ownsRow (w.heap.size + 1) 3 1 (.slice o out.length co) out.length (cellsN out)
  bel : Below w.heap.size w wr
theorem LStands.below {w : World} {x y : Int} {a : Option Addr} {cap : Nat} {ts : List Flow.Tr} {out : List Nat} {o : Option Addr} {co : Nat} {wr w2 : World} (h : LStands w x y a cap ts out o co wr) (hb : Below wr.heap.size wr w2) : LStands w x y a cap ts out o co w2 :=
  ⟨h.net.below hb h.net.lt, owns_below h.row hb (Nat.le_refl _), h.bel.trans (hb.mono h.bel.size)⟩
theorem LStands.push {w : World} {x y : Int} {a : Option Addr} {cap : Nat} {ts : List Flow.Tr} {out : List Nat} {o : Option Addr} {co : Nat} {wr w2 : World} {m g cg : Nat} (h : LStands w x y a cap ts out o co wr)
    (ho : w2.ownsRow (w.heap.size + 1) 3 1 (.slice (some ⟨g, 0, none⟩) (out.length + 1) cg) (out.length + 1) (cellsN (out ++ [m]))) (hg : wr.grownBy w2 (obk o)) : LStands w x y a cap ts (out ++ [m]) (some ⟨g, 0, none⟩) cg w2 := by
  refine ⟨h.net.grown hg ?_, by rw [List.length_append]; exact ho, h.bel.grown hg h.bel.size ?_⟩
  · intro e; have := (owns_lt h.row e.symm).1; omega
  · intro k hk; have := (owns_lt h.row hk).1; omega

set_option maxHeartbeats 4000000 in
theorem loudR_any (ts : List Flow.Tr) (x y : Int) (a b : Option Addr) (cap cb c base0 base1 : Nat) (l : List Nat) (w : World) (hc : c < 256) (hts : ∀ t ∈ ts, Flow.Small t) (hlen : ts.length ≤ 16) (hnd : l.Nodup) (hsm : ∀ m ∈ l, m < 65536)
    (hown : w.ownsRow base0 60 3 (.slice a ts.length cap) ts.length (cellsR ts)) (hrow : w.ownsRow base1 3 1 (.slice b l.length cb) l.length (cellsN l)) :
    Calls Try.prog 54 #[.agg (netQ x y a ts.length cap), .slice b l.length cb, .int .u8 c] w fun e w' => ∃ o co out, e = .returned (.slice o out.length co) ∧ Flow.LUpto ts l out c l.length 0 ∧ w'.ownsRow (w.heap.size + 1) 3 1 (.slice o out.length co) out.length (cellsN out) ∧ Below w.heap.size w w' ∧ w.heap.size < w'.heap.size := by
  have HT : Hid (∀ t ∈ ts, Flow.Small t) := hts
  have OW : Hid (w.ownsRow base0 60 3 (.slice a ts.length cap) ts.length (cellsR ts)) := hown
  have RW : Hid (w.ownsRow base1 3 1 (.slice b l.length cb) l.length (cellsN l)) := hrow
  have SM : Hid (∀ m ∈ l, m < 65536) := hsm
  have h65 := nodup_size hnd hsm
  have ST0 : Hid (LStands w x y a cap ts [] none 0 (w.alloc (.cells (netQ x y a ts.length cap) 48))) := ⟨Blk.new w _ _, World.ownsRow_nil _ _ _ _, (Below.refl _ _).alloc (Nat.le_refl _) _⟩
  clear hts hnd hsm hown hrow
  go_enter Try.func54, Try.ntmps54
  go_wp2
  go_loopw [7, 8] (fun s' i' wr => ∃ (i : Nat) (out : List Nat) (o : Option Addr) (co : Nat), i ≤ l.length ∧ i' = .int .i64 i ∧ s' = .slice o out.length co ∧ Hid (LStands w x y a cap ts out o co wr) ∧ Hid (Flow.LUpto ts l out c i 0)) (fun _ i' _ => l.length - (intOf i').toNat)
  case atStart => exact ⟨0, [], none, 0, by omega, rfl, rfl, ST0, Flow.LUpto.start ts l c⟩
  case round =>
    clear ST0
    obtain ⟨i, out, o, co, hil, rfl, rfl, ST, U⟩ := hrel
    by_cases hlt : i < l.length
    · go_wp2
      obtain ⟨wo, rfl⟩ : ∃ wo : World, wo = wr := ⟨_, rfl⟩
      go_loopw [7, 9] (fun s' k' wr => ∃ (k : Nat) (out : List Nat) (o : Option Addr) (co : Nat), k ≤ ts.length ∧ k' = .int .i64 k ∧ s' = .slice o out.length co ∧ Hid (LStands w x y a cap ts out o co wr) ∧ Hid (Flow.LUpto ts l out c i k)) (fun _ k' _ => ts.length - (intOf k').toNat)
      case atStart => exact ⟨0, out, o, co, by omega, rfl, rfl, ST, U⟩
      case round =>
        clear ST U hil
        obtain ⟨k, out, o, co, hkl, rfl, rfl, ST, U⟩ := hrel
        have n0 : wr.cell? ⟨w.heap.size, 0, none⟩ = some (.int .i64 x) := ST.out.net.cell 0
        have n1 : wr.cell? ⟨w.heap.size, 1, none⟩ = some (.int .i64 y) := ST.out.net.cell 1
        have n2 : wr.cell? ⟨w.heap.size, 2, none⟩ = some (.slice a ts.length cap) := ST.out.net.cell 2
        have z0 := ST.out.net.lt
        by_cases hk : k < ts.length
        · obtain ⟨m, hm⟩ : ∃ m, l[i]? = some m := ⟨_, List.getElem?_eq_getElem hlt⟩
          have hm6 := SM.out m (List.mem_of_getElem? hm)
          obtain ⟨t, ht⟩ : ∃ t, ts[k]? = some t := ⟨_, List.getElem?_eq_getElem hk⟩
          have rwr := owns_below RW.out ST.out.bel (Nat.le_refl _)
          have owr := owns_below OW.out ST.out.bel (Nat.le_refl _)
          obtain ⟨gl, cl, hv, _, hgl⟩ := rwr.form (by omega)
          injection hv with hv1 _ hv3
          subst hv1 hv3
          have e0 := rwr.cellAt i (by omega)
          rw [cellsN_get hm] at e0
          obtain ⟨ga, ca, hva, _, hga⟩ := owr.form (by omega)
          injection hva with hva1 _ hva3
          subst hva1 hva3
          have t0 := owr.cellAt (k * 3) (by omega)
          rw [(cellsR_get ht).1] at t0
          have OWr : Hid (wr.ownsRow base0 60 3 (.slice (some ⟨ga, 0, none⟩) ts.length cap) ts.length (cellsR ts)) := owr
          have c2 : ∀ W, W.ownsRow base0 60 3 (.slice (some ⟨ga, 0, none⟩) ts.length cap) ts.length (cellsR ts) → Calls Try.prog 77 #[.agg (netQ x y (some ⟨ga, 0, none⟩) ts.length cap), .int .i64 m, .int .i64 k] W fun e w' => e = .returned (.int .i64 (Flow.nextI ts m k)) ∧ Below W.heap.size W w' := fun W ho => nextR_any ts x y _ cap m k base0 W hm6 HT.out hlen hk ho
          have hI0 : (0 : Int) ≤ (i : Int) := by omega
          have hI1 : (i : Int) < (l.length : Int) := by omega
          have hJ0 : (0 : Int) ≤ (k : Int) := by omega
          have hJ1 : (k : Int) < (ts.length : Int) := by omega
          have M : Hid (l[i]? = some m) := hm
          have LB : Hid (Flow.lab ts k = some c ↔ t.label = c ∧ c ≠ 45) := lab_is ht
          clear hm ht rwr owr
          cases hnx : Flow.nextM ts m k with
          | none =>
            have e1 : Flow.nextI ts m k = -1 := by unfold Flow.nextI; rw [hnx]
            rw [e1] at c2
            have U' : Hid (Flow.LUpto ts l out c i (k + 1)) := U.out.pass M.out (fun m' h1 _ => by rw [hnx] at h1; cases h1)
            clear hnx e1 U
            go_wp2
            go_region_with (go_at_call 77; refine (c2 _ (OWr.out.drew)).mono ?_; rintro e w2 ⟨rfl, hb2⟩; have BW2 : Hid (Below wr.heap.size wr w2) := (Below.refl _ _).drew.trans hb2; clear hb2)
            all_goals go_wp2
            all_goals go_roundw
            all_goals (first | (simp [intOf]; omega) | exact ⟨k + 1, out, o, co, by omega, by go_num, rfl, ST.out.below BW2.out, U'⟩)
          | some m' =>
            have e1 : Flow.nextI ts m k = (m' : Int) := by unfold Flow.nextI; rw [hnx]
            rw [e1] at c2
            have hJ : (0 : Int) ≤ (m' : Int) := by omega
            have M6 : Hid (m' < 65536) := nextM_lt HT.out hm6 hnx
            by_cases hlb : t.label = c ∧ c ≠ 45
            · have te : ((t.label : Int) == (c : Int)) = true := by rw [hlb.1]; simp
              have te2 : ((c : Int) != 45) = true := by have := hlb.2; simp; omega
              have h6o := nodup_size U.out.nodup U.out.small
              have HL : Hid (out.length ≤ 65536) := h6o
              by_cases hin : m' ∈ out
              · have U' : Hid (Flow.LUpto ts l out c i (k + 1)) := U.out.pass M.out (fun m2 h1 _ => by rw [hnx] at h1; injection h1 with h1; rw [← h1]; exact hin)
                have c3 : ∀ W, W.ownsRow (w.heap.size + 1) 3 1 (.slice o out.length co) out.length (cellsN out) → Calls Try.prog 79 #[.slice o out.length co, .int .i64 m'] W fun e w' => e = .returned (.slice o out.length co) ∧ W = w' := fun W ho => with_old out m' _ co _ W HL.out hin ho
                clear hnx e1 U hin hlb h6o
                go_wp2
                go_region_with (go_at_call 77; refine (c2 _ (OWr.out.drew)).mono ?_; rintro e w2 ⟨rfl, hb2⟩; have BW2 : Hid (Below wr.heap.size wr w2) := (Below.refl _ _).drew.trans hb2; have v2 : w2.cell? ⟨w.heap.size, 2, none⟩ = some (.slice (some ⟨ga, 0, none⟩) ts.length cap) := (BW2.out.cell (p := ⟨w.heap.size, 2, none⟩) z0).trans n2; have v3 : w2.cell? ⟨ga, k * 3, none⟩ = some (.int .u8 t.label) := (BW2.out.cell (p := ⟨ga, k * 3, none⟩) hga).trans t0; have ST2 : Hid (LStands w x y (some ⟨ga, 0, none⟩) cap ts out o co w2) := ST.out.below BW2.out; clear hb2)
                all_goals go_wp2_with (go_at_call 79; refine (c3 _ ST2.out.row).mono ?_; rintro e w' ⟨rfl, rfl⟩)
                all_goals go_roundw
                all_goals (first | (simp [intOf]; omega) | exact ⟨k + 1, out, o, co, by omega, by go_num, rfl, ST2, U'⟩)
              · have U' : Hid (Flow.LUpto ts l (out ++ [m']) c i (k + 1)) := U.out.new M.out hnx (LB.out.2 hlb) M6.out hin
                have HF : Hid (out.length < 65536) := by
                  have := nodup_size U'.out.nodup U'.out.small
                  simp at this
                  show _ < _
                  omega
                have c3 : ∀ W, w.heap.size + 1 ≤ W.heap.size → W.ownsRow (w.heap.size + 1) 3 1 (.slice o out.length co) out.length (cellsN out) → Calls Try.prog 79 #[.slice o out.length co, .int .i64 m'] W fun e w' => ∃ g cap', e = .returned (.slice (some ⟨g, 0, none⟩) (out.length + 1) cap') ∧ w'.ownsRow (w.heap.size + 1) 3 1 (.slice (some ⟨g, 0, none⟩) (out.length + 1) cap') (out.length + 1) (cellsN (out ++ [m'])) ∧ W.grownBy w' (obk o) ∧ (obk o = some g ∨ W.heap.size < g) := fun W hb ho => with_new out m' _ co _ W HF.out hin hb ho
                clear hnx e1 U hin hlb h6o
                go_wp2
                go_region_with (go_at_call 77; refine (c2 _ (OWr.out.drew)).mono ?_; rintro e w2 ⟨rfl, hb2⟩; have BW2 : Hid (Below wr.heap.size wr w2) := (Below.refl _ _).drew.trans hb2; have v2 : w2.cell? ⟨w.heap.size, 2, none⟩ = some (.slice (some ⟨ga, 0, none⟩) ts.length cap) := (BW2.out.cell (p := ⟨w.heap.size, 2, none⟩) z0).trans n2; have v3 : w2.cell? ⟨ga, k * 3, none⟩ = some (.int .u8 t.label) := (BW2.out.cell (p := ⟨ga, k * 3, none⟩) hga).trans t0; have ST2 : Hid (LStands w x y (some ⟨ga, 0, none⟩) cap ts out o co w2) := ST.out.below BW2.out; clear hb2)
                all_goals go_wp2_with (go_at_call 79; refine (c3 _ ST2.out.net.lt ST2.out.row).mono ?_; rintro e w3 ⟨g, cg, rfl, ho3, hg3, hat3⟩; have ST3 : Hid (LStands w x y (some ⟨ga, 0, none⟩) cap ts (out ++ [m']) (some ⟨g, 0, none⟩) cg w3) := ST2.out.push ho3 hg3; clear ho3 hg3 hat3)
                all_goals go_roundw
                all_goals (first | (simp [intOf]; omega) | exact ⟨k + 1, out ++ [m'], some ⟨g, 0, none⟩, cg, by omega, by go_num, by simp, ST3, U'⟩)
            · have U' : Hid (Flow.LUpto ts l out c i (k + 1)) := U.out.pass M.out (fun m2 _ h2 => absurd (LB.out.1 h2) hlb)
              by_cases h1 : t.label = c
              · have te : ((t.label : Int) == (c : Int)) = true := by rw [h1]; simp
                have te2 : ((c : Int) != 45) = false := by
                  have : c = 45 := Classical.byContradiction (fun h => hlb ⟨h1, h⟩)
                  rw [this]; rfl
                clear hnx e1 U hlb h1
                go_wp2
                go_region_with (go_at_call 77; refine (c2 _ (OWr.out.drew)).mono ?_; rintro e w2 ⟨rfl, hb2⟩; have BW2 : Hid (Below wr.heap.size wr w2) := (Below.refl _ _).drew.trans hb2; have v2 : w2.cell? ⟨w.heap.size, 2, none⟩ = some (.slice (some ⟨ga, 0, none⟩) ts.length cap) := (BW2.out.cell (p := ⟨w.heap.size, 2, none⟩) z0).trans n2; have v3 : w2.cell? ⟨ga, k * 3, none⟩ = some (.int .u8 t.label) := (BW2.out.cell (p := ⟨ga, k * 3, none⟩) hga).trans t0; clear hb2)
                all_goals go_wp2
                all_goals go_roundw
                all_goals (first | (simp [intOf]; omega) | exact ⟨k + 1, out, o, co, by omega, by go_num, rfl, ST.out.below BW2.out, U'⟩)
              · have te : ((t.label : Int) == (c : Int)) = false := by simp; omega
                clear hnx e1 U hlb h1
                go_wp2
                go_region_with (go_at_call 77; refine (c2 _ (OWr.out.drew)).mono ?_; rintro e w2 ⟨rfl, hb2⟩; have BW2 : Hid (Below wr.heap.size wr w2) := (Below.refl _ _).drew.trans hb2; have v2 : w2.cell? ⟨w.heap.size, 2, none⟩ = some (.slice (some ⟨ga, 0, none⟩) ts.length cap) := (BW2.out.cell (p := ⟨w.heap.size, 2, none⟩) z0).trans n2; have v3 : w2.cell? ⟨ga, k * 3, none⟩ = some (.int .u8 t.label) := (BW2.out.cell (p := ⟨ga, k * 3, none⟩) hga).trans t0; clear hb2)
                all_goals go_wp2
                all_goals go_roundw
                all_goals (first | (simp [intOf]; omega) | exact ⟨k + 1, out, o, co, by omega, by go_num, rfl, ST.out.below BW2.out, U'⟩)
        · obtain rfl : k = ts.length := by omega
          clear n0 n1
          go_wp2
          go_roundw
          case rel => exact ⟨i + 1, out, o, co, by omega, by go_num, rfl, ST, U.out.row⟩
          case measure => simp [intOf]; omega
    · obtain rfl : i = l.length := by omega
      go_wp2
      go_ret
      exact ⟨o, co, out, rfl, U.out, ST.out.row, ST.out.bel, ST.out.net.lt⟩
end Go.Proofs.Ytdlldljgogbiaab
