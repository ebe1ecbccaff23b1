/-
  The reference's closure of markings under silent steps, and its steps with a letter.
-/
import Derived.Test.YtdlldljgogbiaabListR
import Derived.Test.YtdlldljgogbiaabBlk
namespace Go.Proofs.Ytdlldljgogbiaab
open Go.RowKit
set_option linter.unusedVariables false
set_option maxRecDepth 20000

/-- the cells of a net that was boxed -/
abbrev netQ (x y : Int) (a : Option Addr) (n cap : Nat) : Array Value := #[.int .i64 x, .int .i64 y, .slice a n cap]

theorem lab_at {ts : List Flow.Tr} {k : Nat} {t : Flow.Tr} (h : ts[k]? = some t) : (Flow.lab ts k = none ↔ t.label = 45) := by
  unfold Flow.lab; rw [h]; dsimp only
  by_cases e : t.label = 45
  · rw [if_pos e]; simp [e]
  · rw [if_neg e]; simp [e]
theorem lab_is {ts : List Flow.Tr} {k c : Nat} {t : Flow.Tr} (h : ts[k]? = some t) : (Flow.lab ts k = some c ↔ t.label = c ∧ c ≠ 45) := by
  unfold Flow.lab; rw [h]; dsimp only
  by_cases e : t.label = 45
  · rw [if_pos e]; simp [e]; omega
  · rw [if_neg e]; simp; intro h1; rw [← h1]; exact e
theorem grown_trans {w w1 w2 : World} {r s : Option Nat} (h : w.grownBy w1 r) (g : w1.grownBy w2 s) (hs : s = r ∨ ∀ k, s = some k → w.heap.size ≤ k) : w.grownBy w2 r := by
  refine ⟨g.os.trans h.os, g.tape.trans h.tape, g.output.trans h.output, Nat.le_trans h.size g.size, ?_⟩
  intro k hk hr
  refine (g.block k (Nat.lt_of_lt_of_le hk h.size) ?_).trans (h.block k hk hr)
  rcases hs with rfl | hs
  · exact hr
  · intro e
    have := hs k e.symm
    omega
theorem grown_below {w w1 w2 : World} {r : Option Nat} (h : w.grownBy w1 r) (g : Below w1.heap.size w1 w2) : w.grownBy w2 r :=
  ⟨g.os.trans h.os, g.tape.trans h.tape, g.output.trans h.output, Nat.le_trans h.size g.size, fun k hk hr => (g.block k (Nat.lt_of_lt_of_le hk h.size)).trans (h.block k hk hr)⟩

/-- what stands all through quiet: the net at block w.heap.size, the list -/
structure QStands (w : World) (base0 base1 : Nat) (x y : Int) (a : Option Addr) (cap : Nat) (ts : List Flow.Tr) (b : Option Addr) (l : List Nat) (b' : Option Addr) (cb' : Nat) (wr : World) : Prop where
  net : Blk wr w.heap.size (netQ x y a ts.length cap) 48
  own : wr.ownsRow base0 60 3 (.slice a ts.length cap) ts.length (cellsR ts)
  row : wr.ownsRow base1 3 1 (.slice b' l.length cb') l.length (cellsN l)
  grw : w.grownBy wr (obk b)
  apart : ∀ g, obk a = some g → obk b' ≠ some g
  place : obk b' = obk b ∨ ∃ g, obk b' = some g ∧ w.heap.size < g
  old : ∀ g, obk b = some g → g < w.heap.size
theorem QStands.below {w : World} {base0 base1 : Nat} {x y : Int} {a : Option Addr} {cap : Nat} {ts : List Flow.Tr} {b : Option Addr} {l : List Nat} {b' : Option Addr} {cb' : Nat} {wr w2 : World} (h : QStands w base0 base1 x y a cap ts b l b' cb' wr) (hb : Below wr.heap.size wr w2) : QStands w base0 base1 x y a cap ts b l b' cb' w2 :=
  ⟨h.net.below hb h.net.lt, owns_below h.own hb (Nat.le_refl _), owns_below h.row hb (Nat.le_refl _), grown_below h.grw hb, h.apart, h.place, h.old⟩
theorem QStands.push {w : World} {base0 base1 : Nat} {x y : Int} {a : Option Addr} {cap : Nat} {ts : List Flow.Tr} {b : Option Addr} {l : List Nat} {b' : Option Addr} {cb' : Nat} {wr w2 : World} {m g cg : Nat} (h : QStands w base0 base1 x y a cap ts b l b' cb' wr)
    (ho : w2.ownsRow base1 3 1 (.slice (some ⟨g, 0, none⟩) (l.length + 1) cg) (l.length + 1) (cellsN (l ++ [m]))) (hg : wr.grownBy w2 (obk b')) (hat : obk b' = some g ∨ wr.heap.size < g) : QStands w base0 base1 x y a cap ts b (l ++ [m]) (some ⟨g, 0, none⟩) cg w2 := by
  have hsz := h.grw.size
  refine ⟨h.net.grown hg ?_, h.own.kept hg ?_, by rw [List.length_append]; exact ho, grown_trans h.grw hg ?_, ?_, ?_, h.old⟩
  · intro e
    rcases h.place with p | ⟨q, p, hq⟩
    · rw [← e] at p; have := h.old _ p.symm; omega
    · rw [p] at e; injection e with e; omega
  · rw [ownBlock_slice]
    cases e : obk a with
    | none => exact .inl rfl
    | some q => exact .inr (fun y => h.apart q e y.symm)
  · rcases h.place with p | ⟨q, p, hq⟩
    · exact .inl p
    · exact .inr (fun k hk => by rw [p] at hk; injection hk with hk; omega)
  · intro q hq e
    have e' : g = q := by simpa [obk] using e
    subst e'
    rcases hat with p | p
    · exact h.apart g hq p
    · have := (owns_lt h.own hq).2; omega
  · rcases hat with p | p
    · rcases h.place with q | ⟨q, q1, q2⟩
      · exact .inl (by rw [← q, p]; rfl)
      · exact .inr ⟨g, rfl, by rw [q1] at p; injection p with p; omega⟩
    · exact .inr ⟨g, rfl, by omega⟩

set_option maxHeartbeats 4000000 in
theorem quietR_any (ts : List Flow.Tr) (x y : Int) (a b : Option Addr) (cap cb base0 base1 : Nat) (l0 : List Nat) (w : World) (hts : ∀ t ∈ ts, Flow.Small t) (hlen : ts.length ≤ 16) (hnd : l0.Nodup) (hsm : ∀ m ∈ l0, m < 65536) (hb1 : base1 ≤ w.heap.size)
    (hown : w.ownsRow base0 60 3 (.slice a ts.length cap) ts.length (cellsR ts)) (hrow : w.ownsRow base1 3 1 (.slice b l0.length cb) l0.length (cellsN l0)) (hap : ∀ g, obk a = some g → obk b ≠ some g) :
    Calls Try.prog 53 #[.agg (netQ x y a ts.length cap), .slice b l0.length cb] w fun e w' => ∃ b' cb' l, e = .returned (.slice b' l.length cb') ∧ Flow.QUpto ts l0 l l.length 0 ∧ QStands w base0 base1 x y a cap ts b l b' cb' w' := by
  have HT : Hid (∀ t ∈ ts, Flow.Small t) := hts
  have ST0 : Hid (QStands w base0 base1 x y a cap ts b l0 b cb (w.alloc (.cells (netQ x y a ts.length cap) 48))) :=
    ⟨Blk.new w _ _, hown.alloc _, hrow.alloc _, ⟨rfl, rfl, rfl, by simp, fun k hk _ => Below.heap_alloc w _ k hk⟩, hap, .inl rfl, fun g hg => (owns_lt hrow hg).2⟩
  have U0 : Hid (Flow.QUpto ts l0 l0 0 0) := Flow.QUpto.start hnd hsm
  clear hts hnd hsm hown hrow hap
  go_enter Try.func53, Try.ntmps53
  go_wp2
  go_loopw [1, 5] (fun s' i' wr => ∃ (i : Nat) (l : List Nat) (b' : Option Addr) (cb' : Nat), i ≤ l.length ∧ i' = .int .i64 i ∧ s' = .slice b' l.length cb' ∧ Hid (QStands w base0 base1 x y a cap ts b l b' cb' wr) ∧ Hid (Flow.QUpto ts l0 l i 0)) (fun _ i' _ => 65536 - (intOf i').toNat)
  case atStart => exact ⟨0, l0, b, cb, by omega, rfl, rfl, ST0, U0⟩
  case round =>
    clear ST0 U0
    obtain ⟨i, l, b', cb', hil, rfl, rfl, ST, U⟩ := hrel
    have h65 := nodup_size U.out.nodup U.out.small
    by_cases hlt : i < l.length
    · go_wp2
      obtain ⟨wo, rfl⟩ : ∃ wo : World, wo = wr := ⟨_, rfl⟩
      go_loopw [1, 6] (fun s' k' wr => ∃ (k : Nat) (l : List Nat) (b' : Option Addr) (cb' : Nat), k ≤ ts.length ∧ i < l.length ∧ k' = .int .i64 k ∧ s' = .slice b' l.length cb' ∧ Hid (QStands w base0 base1 x y a cap ts b l b' cb' wr) ∧ Hid (Flow.QUpto ts l0 l i k)) (fun _ k' _ => ts.length - (intOf k').toNat)
      case atStart => exact ⟨0, l, b', cb', by omega, hlt, rfl, rfl, ST, U⟩
      case round =>
        clear ST U hlt hil h65
        obtain ⟨k, l, b', cb', hkl, hlt, rfl, rfl, ST, U⟩ := hrel
        have h65 := nodup_size U.out.nodup U.out.small
        have n0 : wr.cell? ⟨w.heap.size, 0, none⟩ = some (.int .i64 x) := ST.out.net.cell 0
        have n1 : wr.cell? ⟨w.heap.size, 1, none⟩ = some (.int .i64 y) := ST.out.net.cell 1
        have n2 : wr.cell? ⟨w.heap.size, 2, none⟩ = some (.slice a ts.length cap) := ST.out.net.cell 2
        have z0 := ST.out.net.lt
        by_cases hk : k < ts.length
        · obtain ⟨m, hm⟩ : ∃ m, l[i]? = some m := ⟨_, List.getElem?_eq_getElem hlt⟩
          have hm6 := U.out.small m (List.mem_of_getElem? hm)
          obtain ⟨t, ht⟩ : ∃ t, ts[k]? = some t := ⟨_, List.getElem?_eq_getElem hk⟩
          obtain ⟨gl, cl, hv, _, hgl⟩ := ST.out.row.form (by omega)
          injection hv with hv1 _ hv3
          subst hv1 hv3
          have e0 := ST.out.row.cellAt i (by omega)
          rw [cellsN_get hm] at e0
          have OWr : Hid (wr.ownsRow base0 60 3 (.slice a ts.length cap) ts.length (cellsR ts)) := ST.out.own
          have c2 : ∀ W, W.ownsRow base0 60 3 (.slice a ts.length cap) ts.length (cellsR ts) → Calls Try.prog 77 #[.agg (netQ x y a ts.length cap), .int .i64 m, .int .i64 k] W fun e w' => e = .returned (.int .i64 (Flow.nextI ts m k)) ∧ Below W.heap.size W w' := fun W ho => nextR_any ts x y a cap m k base0 W hm6 HT.out hlen hk ho
          have hI0 : (0 : Int) ≤ (i : Int) := by omega
          have hI1 : (i : Int) < (l.length : Int) := by omega
          have hJ0 : (0 : Int) ≤ (k : Int) := by omega
          have hJ1 : (k : Int) < (ts.length : Int) := by omega
          have M : Hid (l[i]? = some m) := hm
          have T : Hid (ts[k]? = some t) := ht
          obtain ⟨ga, ca, hva, _, hga⟩ := ST.out.own.form (by omega)
          injection hva with hva1 _ hva3
          subst hva1 hva3
          have t0 := ST.out.own.cellAt (k * 3) (by omega)
          rw [(cellsR_get ht).1] at t0
          have LT := HT.out t (List.mem_of_getElem? ht)
          have LB : Hid (Flow.lab ts k = none ↔ t.label = 45) := lab_at ht
          have HL : Hid (l.length ≤ 65536) := h65
          have hl5 : (l.length : Int) ≤ 65536 := by omega
          clear hm ht h65 LT
          cases hnx : Flow.nextM ts m k with
          | none =>
            have e1 : Flow.nextI ts m k = -1 := by unfold Flow.nextI; rw [hnx]
            rw [e1] at c2
            have U' : Hid (Flow.QUpto ts l0 l i (k + 1)) := U.out.pass M.out (fun m' h1 _ => by rw [hnx] at h1; cases h1)
            clear hnx e1 U
            go_wp2
            go_region_with (go_at_call 77; refine (c2 _ (OWr.out.drew)).mono ?_; rintro e w2 ⟨rfl, hb2⟩; have BW2 : Hid (Below wr.heap.size wr w2) := (Below.refl _ _).drew.trans hb2; clear hb2)
            all_goals go_wp2
            all_goals go_roundw
            all_goals (first | (simp [intOf]; omega) | exact ⟨k + 1, l, _, _, by omega, hlt, by go_num, rfl, ST.out.below BW2.out, U'⟩)
          | some m' =>
            have e1 : Flow.nextI ts m k = (m' : Int) := by unfold Flow.nextI; rw [hnx]
            rw [e1] at c2
            have hJ : (0 : Int) ≤ (m' : Int) := by omega
            have M6 : Hid (m' < 65536) := nextM_lt HT.out hm6 hnx
            by_cases hlb : t.label = 45
            · have te : ((t.label : Int) == 45) = true := by rw [hlb]; rfl
              by_cases hin : m' ∈ l
              · have U' : Hid (Flow.QUpto ts l0 l i (k + 1)) := U.out.pass M.out (fun m2 h1 _ => by rw [hnx] at h1; injection h1 with h1; rw [← h1]; exact hin)
                have c3 : ∀ W, W.ownsRow base1 3 1 (.slice (some ⟨gl, 0, none⟩) l.length cb') l.length (cellsN l) → Calls Try.prog 79 #[.slice (some ⟨gl, 0, none⟩) l.length cb', .int .i64 m'] W fun e w' => e = .returned (.slice (some ⟨gl, 0, none⟩) l.length cb') ∧ W = w' := fun W ho => with_old l m' _ cb' base1 W HL.out hin ho
                clear hnx e1 U hin hlb
                go_wp2
                go_region_with (go_at_call 77; refine (c2 _ (OWr.out.drew)).mono ?_; rintro e w2 ⟨rfl, hb2⟩; have BW2 : Hid (Below wr.heap.size wr w2) := (Below.refl _ _).drew.trans hb2; have v2 : w2.cell? ⟨w.heap.size, 2, none⟩ = some (.slice (some ⟨ga, 0, none⟩) ts.length cap) := (BW2.out.cell (p := ⟨w.heap.size, 2, none⟩) z0).trans n2; have v3 : w2.cell? ⟨ga, k * 3, none⟩ = some (.int .u8 t.label) := (BW2.out.cell (p := ⟨ga, k * 3, none⟩) hga).trans t0; have RW2 : Hid (w2.ownsRow base1 3 1 (.slice (some ⟨gl, 0, none⟩) l.length cb') l.length (cellsN l)) := owns_below ST.out.row BW2.out (Nat.le_refl _); clear hb2)
                all_goals go_wp2_with (go_at_call 79; refine (c3 _ RW2.out).mono ?_; rintro e w' ⟨rfl, rfl⟩)
                all_goals go_roundw
                all_goals (first | (simp [intOf]; omega) | exact ⟨k + 1, l, _, _, by omega, hlt, by go_num, rfl, ST.out.below BW2.out, U'⟩)
              · have U' : Hid (Flow.QUpto ts l0 (l ++ [m']) i (k + 1)) := U.out.new M.out hnx (LB.out.2 hlb) M6.out hin
                have HF : Hid (l.length < 65536) := by
                  have := nodup_size U'.out.nodup U'.out.small
                  simp at this
                  show _ < _
                  omega
                have c3 : ∀ W, base1 ≤ W.heap.size → W.ownsRow base1 3 1 (.slice (some ⟨gl, 0, none⟩) l.length cb') l.length (cellsN l) → Calls Try.prog 79 #[.slice (some ⟨gl, 0, none⟩) l.length cb', .int .i64 m'] W fun e w' => ∃ g cap', e = .returned (.slice (some ⟨g, 0, none⟩) (l.length + 1) cap') ∧ w'.ownsRow base1 3 1 (.slice (some ⟨g, 0, none⟩) (l.length + 1) cap') (l.length + 1) (cellsN (l ++ [m'])) ∧ W.grownBy w' (some gl) ∧ (some gl = some g ∨ W.heap.size < g) := fun W hb ho => with_new l m' _ cb' base1 W HF.out hin hb ho
                clear hnx e1 U hin hlb
                go_wp2
                go_region_with (go_at_call 77; refine (c2 _ (OWr.out.drew)).mono ?_; rintro e w2 ⟨rfl, hb2⟩; have BW2 : Hid (Below wr.heap.size wr w2) := (Below.refl _ _).drew.trans hb2; have v2 : w2.cell? ⟨w.heap.size, 2, none⟩ = some (.slice (some ⟨ga, 0, none⟩) ts.length cap) := (BW2.out.cell (p := ⟨w.heap.size, 2, none⟩) z0).trans n2; have v3 : w2.cell? ⟨ga, k * 3, none⟩ = some (.int .u8 t.label) := (BW2.out.cell (p := ⟨ga, k * 3, none⟩) hga).trans t0; have ST2 : Hid (QStands w base0 base1 x y (some ⟨ga, 0, none⟩) cap ts b l (some ⟨gl, 0, none⟩) cb' w2) := ST.out.below BW2.out; clear hb2)
                all_goals go_wp2_with (go_at_call 79; refine (c3 _ (by have := ST2.out.grw.size; omega) ST2.out.row).mono ?_; rintro e w3 ⟨g, cg, rfl, ho3, hg3, hat3⟩; have ST3 : Hid (QStands w base0 base1 x y (some ⟨ga, 0, none⟩) cap ts b (l ++ [m']) (some ⟨g, 0, none⟩) cg w3) := ST2.out.push ho3 hg3 hat3; clear ho3 hg3 hat3)
                all_goals go_roundw
                all_goals (first | (simp [intOf]; omega) | exact ⟨k + 1, l ++ [m'], some ⟨g, 0, none⟩, cg, by omega, by simp; omega, by go_num, by simp, ST3, U'⟩)
            · have te : ((t.label : Int) == 45) = false := by simp; omega
              have U' : Hid (Flow.QUpto ts l0 l i (k + 1)) := U.out.pass M.out (fun m2 _ h2 => absurd (LB.out.1 h2) hlb)
              clear hnx e1 U hlb
              go_wp2
              go_region_with (go_at_call 77; refine (c2 _ (OWr.out.drew)).mono ?_; rintro e w2 ⟨rfl, hb2⟩; have BW2 : Hid (Below wr.heap.size wr w2) := (Below.refl _ _).drew.trans hb2; have v2 : w2.cell? ⟨w.heap.size, 2, none⟩ = some (.slice (some ⟨ga, 0, none⟩) ts.length cap) := (BW2.out.cell (p := ⟨w.heap.size, 2, none⟩) z0).trans n2; have v3 : w2.cell? ⟨ga, k * 3, none⟩ = some (.int .u8 t.label) := (BW2.out.cell (p := ⟨ga, k * 3, none⟩) hga).trans t0; clear hb2)
              all_goals go_wp2
              all_goals go_roundw
              all_goals (first | (simp [intOf]; omega) | exact ⟨k + 1, l, _, _, by omega, hlt, by go_num, rfl, ST.out.below BW2.out, U'⟩)
        · obtain rfl : k = ts.length := by omega
          clear n0 n1
          go_wp2
          go_roundw
          case rel => exact ⟨i + 1, l, b', cb', by omega, by go_num, rfl, ST, U.out.row⟩
          case measure => simp [intOf]; omega
    · obtain rfl : i = l.length := by omega
      go_wp2
      go_ret
      exact ⟨b', cb', l, rfl, U.out, ST.out⟩
end Go.Proofs.Ytdlldljgogbiaab
