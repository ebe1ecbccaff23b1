/-
  The program's search.
-/
import Derived.Test.YtpmepchidikopaaSeaF
import Derived.Test.YtpmepchidikopaaWalkR
import Derived.Test.YtpmepchidikopaaPlayF
import Derived.RegionCalls
import Derived.Deep.RegionWith
import Derived.Deep.RegionHeld3
namespace Go.Proofs.Ytpmepchidikopaa
open Go.RowKit
set_option linter.unusedVariables false
set_option maxRecDepth 20000

theorem made_one (z : Value) (n m : Nat) (h : m < n) : (madeCells #[z] n)[m]? = some z := by
  simp [madeCells, h, Nat.mod_one]
theorem makeO_at (W : World) : ∃ MC : Array Value, MC.size = 65536 ∧ (∀ m, m < 65536 → MC[m]? = some (.bool false)) ∧ ∀ W : World, (Instr.makeSlice 68 (.int .i64 65536) (.int .i64 65536)).run Try.prog W = .ok (.slice (some ⟨W.heap.size, 0, none⟩) 65536 65536) (W.alloc (.cells MC 4)) := by
  obtain ⟨i0, hi, hz0, hz1, hz2⟩ := info_parts Try.infoO
  refine ⟨madeCells (Value.bool false).cells (65536 * 1), size_madeCells _ _, ?_, fun W => ?_⟩
  · intro m hm
    exact made_one (.bool false) (65536 * 1) m (by omega)
  · have := run_make (P := Try.prog) W 68 4 i0 (.bool false) Try.underlying68 hi hz0 .i64 .i64 65536 65536 (by omega) (by omega) (by rw [hz2]; decide) (by omega)
    rw [hz1] at this
    exact this

theorem SeaRows.farR {w : World} {base A : Nat} {l : List Flow.Node} {aV : Option Addr} {cV : Nat} {arr : Array Value} (h : SeaRows w base A l aV cV arr) {x : Nat} (hx : x < base) (j : Nat) (v : Value) : SeaRows (w.setCell ⟨x, j, none⟩ v) base A l aV cV arr :=
  ⟨h.baseA, owns_far h.rV (by rw [ownBlock_slice]; intro e; have h1 : base ≤ x := (owns_lt h.rV e).1; omega) _, h.rA.far _ _ (by have := h.baseA; show A ≠ x; omega), h.sA, h.ap, h.has⟩
/-- what explore answers -/
def ExpPost (ts : List Flow.Tr) (m : Nat) (w : World) (e : Ending) (w' : World) : Prop :=
  ∃ aV cV A l arr, e = .returned (.agg (seaC aV l.length cV A)) ∧ Flow.Bfs ts m l ∧ SeaRows w' w.heap.size A l aV cV arr ∧ Below w.heap.size w w'

theorem fireAt_some {ts : List Flow.Tr} {k q m' : Nat} {t : Flow.Tr} (ht : ts[k]? = some t) (h : Flow.nextM ts q k = some m') : Flow.fireErr t q = 0 ∧ Flow.fireTo t q = m' := by
  rw [nextM_at ht] at h
  by_cases f : Flow.fireErr t q = 0
  · rw [if_pos f] at h
    injection h with h
    exact ⟨f, by unfold Flow.fireTo; rw [if_pos f, h]⟩
  · rw [if_neg f] at h; cases h
theorem fireAt_none {ts : List Flow.Tr} {k q : Nat} {t : Flow.Tr} (ht : ts[k]? = some t) (h : Flow.nextM ts q k = none) : Flow.fireErr t q ≠ 0 := by
  rw [nextM_at ht] at h
  intro f
  rw [if_pos f] at h; cases h

set_option maxHeartbeats 4000000 in
theorem explore_any (ts : List Flow.Tr) (a : Option Addr) (cap m base : Nat) (w : World) (hm : m < 65536) (hts : ∀ t ∈ ts, Flow.Small t) (hlen : ts.length ≤ 16)
    (hown : w.ownsRow base 83 2 (.slice a ts.length cap) ts.length (cellsF ts)) :
    Calls Try.prog 41 #[.slice a ts.length cap, .int .i64 m] w (ExpPost ts m w) := by
  obtain ⟨MC, hMC, hcell, hmk⟩ := makeO_at w
  have OW : Hid (w.ownsRow base 83 2 (.slice a ts.length cap) ts.length (cellsF ts)) := hown
  have HT : Hid (∀ t ∈ ts, Flow.Small t) := hts
  have HM : Hid (m < 65536) := hm
  have HC : Hid (∀ m, m < 65536 → MC[m]? = some (.bool false)) := hcell
  have HS : Hid (MC.size = 65536) := hMC
  clear hown hts hm hcell hMC
  have c1 : ∀ W B, SeaIn W (w.heap.size + 1) B [] → w.heap.size + 1 ≤ W.heap.size → Calls Try.prog 67 #[.pointer (some ⟨B, 0, none⟩), .int .i64 m, .int .i64 0, .int .i64 0] W fun e w' => e = .returned (.tuple #[]) ∧ SeaIn w' (w.heap.size + 1) B [⟨m, -1, -1⟩] ∧ Below (w.heap.size + 1) W w' := fun W B hW hz => visit_new [] ⟨m, -1, -1⟩ 0 0 (w.heap.size + 1) B W rfl rfl (by simp) HM.out (by simp [atI]) hz hW
  have W0 : Hid (SeaIn (((w.alloc (.cells #[.slice none 0 0, .slice none 0 0] 70)).alloc (.cells MC 4)).alloc (.cells #[.slice none 0 0, .slice (some ⟨w.heap.size + 1, 0, none⟩) 65536 65536] 70)) (w.heap.size + 1) (w.heap.size + 1 + 1) []) := by
    refine ⟨none, 0, w.heap.size + 1, MC, by omega, by omega, by simp [obk], Blk.new_at (by simp) _ _, by omega, World.ownsRow_nil _ _ _ _, (Blk.new_at (by simp) _ _).alloc _, HS.out, by simp [obk], ?_⟩
    intro j hj; rw [HC.out j hj]; rfl
  have B0 : Hid (Blk (((w.alloc (.cells #[.slice none 0 0, .slice none 0 0] 70)).alloc (.cells MC 4)).alloc (.cells #[.slice none 0 0, .slice (some ⟨w.heap.size + 1, 0, none⟩) 65536 65536] 70)) w.heap.size #[.slice none 0 0, .slice none 0 0] 70) := ((Blk.new w _ _).alloc _).alloc _
  have HW : Hid (Below w.heap.size w (((w.alloc (.cells #[.slice none 0 0, .slice none 0 0] 70)).alloc (.cells MC 4)).alloc (.cells #[.slice none 0 0, .slice (some ⟨w.heap.size + 1, 0, none⟩) 65536 65536] 70))) := (((Below.refl _ _).alloc (Nat.le_refl _) _).alloc (by simp) _).alloc (by simp; omega) _
  go_enter Try.func41, Try.ntmps41
  go_wp2_with (go_at_call 67; refine (c1 _ _ W0.out (by simp <;> omega)).mono ?_; rintro e w1 ⟨rfl, hin, hbel⟩; have IN : Hid (SeaIn w1 (w.heap.size + 1) (w.heap.size + 1 + 1) [⟨m, -1, -1⟩]) := hin; have BL : Hid _ := hbel; clear hin hbel)
  clear hmk c1
  have B1 : Hid (Blk w1 w.heap.size #[.slice none 0 0, .slice none 0 0] 70) := B0.out.below BL.out (by omega)
  have HW1 : Hid (Below w.heap.size w w1) := HW.out.trans (BL.out.mono (by omega))
  clear W0 B0 HW BL HC HS
  go_loopw [6] (fun i' wr => ∃ (i : Nat) (l : List Flow.Node), i ≤ l.length ∧ i' = .int .i64 i ∧ SeaIn wr (w.heap.size + 1) (w.heap.size + 1 + 1) l ∧ Blk wr w.heap.size #[.slice none 0 0, .slice none 0 0] 70 ∧ Below w.heap.size w wr ∧ Hid (Flow.Upto ts m l (i * 16 + 0))) (fun i' _ => 65536 - (intOf i').toNat)
  case atStart => exact ⟨0, [⟨m, -1, -1⟩], by simp, rfl, IN.out, B1.out, HW1.out, Flow.Upto.start ts m HM.out⟩
  case round =>
    clear IN B1 HW1
    obtain ⟨i, l, hil, rfl, hin, hb0, hbw, HU⟩ := hrel
    have h65 := HU.out.size
    have B0 : Hid (Blk wr w.heap.size #[.slice none 0 0, .slice none 0 0] 70) := hb0
    have HW : Hid _ := hbw
    have IN : Hid (SeaIn wr (w.heap.size + 1) (w.heap.size + 1 + 1) l) := hin
    by_cases hlt : i < l.length
    · obtain ⟨aV, cV, A, x0, x1, zB, zA, _, _, _⟩ := hin.look
      clear hbw hb0 hin x1 zA
      go_wp2
      clear x0 zB
      obtain ⟨wo, rfl⟩ : ∃ wo : World, wo = wr := ⟨_, rfl⟩
      go_loopw [7] (fun k' wr => ∃ (k : Nat) (l : List Flow.Node), k ≤ ts.length ∧ i < l.length ∧ k' = .int .i64 k ∧ SeaIn wr (w.heap.size + 1) (w.heap.size + 1 + 1) l ∧ Blk wr w.heap.size #[.slice none 0 0, .slice none 0 0] 70 ∧ Below w.heap.size w wr ∧ Hid (Flow.Upto ts m l (i * 16 + k))) (fun k' _ => ts.length - (intOf k').toNat)
      case atStart => exact ⟨0, l, by omega, hlt, rfl, IN.out, B0.out, HW.out, HU⟩
      case round =>
        clear HU IN B0 HW hlt hil h65
        obtain ⟨k, l, hkl, hlt, rfl, hin, hb0, hbw, HU⟩ := hrel
        have B0 : Hid (Blk wr w.heap.size #[.slice none 0 0, .slice none 0 0] 70) := hb0
        have HW : Hid _ := hbw
        have IN : Hid (SeaIn wr (w.heap.size + 1) (w.heap.size + 1 + 1) l) := hin
        have h65 := HU.out.size
        by_cases hk : k < ts.length
        · obtain ⟨aV, cV, A, x0, x1, zB, zA, _, _, hno⟩ := hin.look
          obtain ⟨n, hn⟩ : ∃ n, l[i]? = some n := ⟨_, List.getElem?_eq_getElem hlt⟩
          obtain ⟨gV, rfl, l1, d1, _, _⟩ := hno i n hn
          have hnm := HU.out.small i n hn
          obtain ⟨t, ht⟩ : ∃ t, ts[k]? = some t := ⟨_, List.getElem?_eq_getElem hk⟩
          obtain ⟨s1, s2, s3⟩ := HT.out t (List.mem_of_getElem? ht)
          have ow2 := owns_below OW.out hbw (Nat.le_refl _)
          obtain ⟨g, cap', hv, _, hg2⟩ := ow2.form (by omega)
          injection hv with hv1 _ hv3
          subst hv1 hv3
          have t0 := ow2.cellAt (k * 2) (by omega)
          have t1 := ow2.cellAt (k * 2 + 1) (by omega)
          obtain ⟨f0, f1⟩ := cellsF_get ht
          rw [f0] at t0
          rw [f1] at t1
          have cf : ∀ W, Calls Try.prog 68 #[.agg (trF t), .int .i64 n.mark] W fun e w' => e = .returned (.tuple #[.int .i64 (Flow.fireTo t n.mark), .int .i64 (Flow.fireErr t n.mark)]) ∧ w' = W.alloc (.cells (trF t) 83) := fun W => fireAt_any t n.mark W hnm s2 s3
          have hI0 : (0 : Int) ≤ (i : Int) := by omega
          have hI1 : (i : Int) < (l.length : Int) := by omega
          have hJ0 : (0 : Int) ≤ (k : Int) := by omega
          have hJ1 : (k : Int) < (ts.length : Int) := by omega
          have N : Hid (l[i]? = some n) := hn
          have T : Hid (ts[k]? = some t) := ht
          have NM : Hid (n.mark < 65536) := hnm
          have hwb := hbw.size
          have hl5 : (l.length : Int) ≤ 65536 := by omega
          clear hn hno hin hb0 hbw x1 zA ow2 f0 f1 s1 s2 s3 ht hnm h65
          cases hnx : Flow.nextM ts n.mark k with
          | none =>
            have te : ((Flow.fireErr t n.mark : Int) == 0) = false := by
              have := fireAt_none T.out hnx
              simp; omega
            have U : Hid (Flow.Upto ts m l (i * 16 + (k + 1))) := HU.out.pass (by omega) (fun n' m' h1 h2 => by rw [N.out] at h1; injection h1 with h1; subst h1; rw [hnx] at h2; cases h2)
            clear hnx HU
            go_wp2
            go_region_with (go_at_call 68; refine (cf _).mono ?_; rintro e w2 ⟨rfl, rfl⟩)
            all_goals go_wp2
            all_goals go_roundw
            all_goals (first | (simp [intOf]; omega) | exact ⟨k + 1, l, by omega, hlt, by go_num, (IN.out.below ((Below.refl _ _).alloc (Nat.le_refl _) _)).drew, (B0.out.alloc _).drew, (HW.out.alloc hwb _).drew, U⟩)
          | some m' =>
            obtain ⟨e1, e2⟩ := fireAt_some T.out hnx
            rw [e1, e2] at cf
            have M' : Hid (m' < 65536) := nextM_lt HT.out NM.out hnx
            have IN2 : Hid (SeaIn (wr.alloc (.cells (trF t) 83)).drew (w.heap.size + 1) (w.heap.size + 1 + 1) l) := (IN.out.below ((Below.refl _ _).alloc (Nat.le_refl _) _)).drew
            have hz2 : w.heap.size + 1 ≤ ((wr.alloc (.cells (trF t) 83)).drew).heap.size := by simp <;> omega
            by_cases hne : atI l m' < 0
            · have U : Hid (Flow.Upto ts m (l ++ [⟨m', i, k⟩]) (i * 16 + (k + 1))) := HU.out.new (by omega) N.out hnx M'.out (fun q' nq hq' => atI_none.1 hne q' nq hq')
              have HF : Hid (l.length < 65536) := upto_fresh HU.out M'.out hne
              have c3 : ∀ W, SeaIn W (w.heap.size + 1) (w.heap.size + 1 + 1) l → w.heap.size + 1 ≤ W.heap.size → Calls Try.prog 67 #[.pointer (some ⟨w.heap.size + 1 + 1, 0, none⟩), .int .i64 m', .int .i64 i, .int .i64 k] W fun e w' => e = .returned (.tuple #[]) ∧ SeaIn w' (w.heap.size + 1) (w.heap.size + 1 + 1) (l ++ [⟨m', i, k⟩]) ∧ Below (w.heap.size + 1) W w' := fun W hW hz => visit_new l ⟨m', i, k⟩ i k _ _ W (by simp) (by simp) HF.out M'.out hne hz hW
              clear hnx HU hne e1 e2
              go_wp2
              go_region_with (go_at_call 68; refine (cf _).mono ?_; rintro e w2 ⟨rfl, rfl⟩)
              all_goals go_wp2_with (go_at_call 67; refine (c3 _ IN2.out hz2).mono ?_; rintro e w3 ⟨rfl, hin, hbel⟩; have IN3 : Hid (SeaIn w3 (w.heap.size + 1) (w.heap.size + 1 + 1) (l ++ [⟨m', i, k⟩])) := hin; have BL3 : Hid _ := hbel; clear hin hbel)
              all_goals go_roundw
              all_goals (first | (simp [intOf]; omega) | exact ⟨k + 1, l ++ [⟨m', i, k⟩], by omega, by simp; omega, by go_num, IN3.out, ((B0.out.alloc _).drew).below BL3.out (by omega), ((HW.out.alloc hwb _).drew).trans (BL3.out.mono (by omega)), U⟩)
            · have U : Hid (Flow.Upto ts m l (i * 16 + (k + 1))) := HU.out.pass (by omega) (fun n' m'' h1 h2 => by
                rw [N.out] at h1; injection h1 with h1; subst h1; rw [hnx] at h2; injection h2 with h2; subst h2
                obtain ⟨nq, hq, hqm⟩ := atI_some (l := l) (m := m') (by omega)
                exact ⟨_, nq, hq, hqm⟩)
              have hat : 0 ≤ atI l m' := by omega
              have c3 : ∀ W, SeaIn W (w.heap.size + 1) (w.heap.size + 1 + 1) l → Calls Try.prog 67 #[.pointer (some ⟨w.heap.size + 1 + 1, 0, none⟩), .int .i64 m', .int .i64 i, .int .i64 k] W fun e w' => e = .returned (.tuple #[]) ∧ W = w' := fun W hW => visit_old l m' i k _ _ W M'.out hat hW
              clear hnx HU hne e1 e2 hat
              go_wp2
              go_region_with (go_at_call 68; refine (cf _).mono ?_; rintro e w2 ⟨rfl, rfl⟩)
              all_goals go_wp2_with (go_at_call 67; refine (c3 _ IN2.out).mono ?_; rintro e w3 ⟨rfl, rfl⟩)
              all_goals go_roundw
              all_goals (first | (simp [intOf]; omega) | exact ⟨k + 1, l, by omega, hlt, by go_num, IN2.out, (B0.out.alloc _).drew, (HW.out.alloc hwb _).drew, U⟩)
        · obtain rfl : k = ts.length := by omega
          clear hin hb0 hbw
          go_wp2
          go_roundw
          case rel => exact ⟨i + 1, l, by omega, by go_num, IN.out, B0.out, HW.out, HU.out.row hlen⟩
          case measure => simp [intOf]; omega
    · obtain rfl : i = l.length := by omega
      obtain ⟨aV, cV, A, arr, _, hne, hap, hblk, hrows⟩ := IN.out
      have x0 : wr.cell? ⟨w.heap.size + 1 + 1, 0, none⟩ = some (.slice aV l.length cV) := hblk.cell 0
      have x1 : wr.cell? ⟨w.heap.size + 1 + 1, 1, none⟩ = some (.slice (some ⟨A, 0, none⟩) 65536 65536) := hblk.cell 1
      have r0 : wr.cell? ⟨w.heap.size, 0, none⟩ = some (.slice none 0 0) := hb0.cell 0
      have r1 : wr.cell? ⟨w.heap.size, 1, none⟩ = some (.slice none 0 0) := hb0.cell 1
      have y0 := hb0.froz 0
      have y1 := hb0.froz 1
      have z0 := hb0.lt
      have zB := hblk.lt
      have RW : Hid (SeaRows wr (w.heap.size + 1) A l aV cV arr) := hrows
      clear hb0 hbw hin hrows hblk IN h65
      go_wp2
      exact bodyPost_ret (v := .agg (seaC aV l.length cV A)) (by simp [results, Try.results41, go_sem, r0, r1]) rfl ⟨aV, cV, A, l, arr, rfl, HU.out, ((RW.out.farR (by omega) 0 _).farR (by omega) 1 _).lower (by omega), (HW.out.setCell (p := ⟨w.heap.size, 0, none⟩) (Nat.le_refl _) _).setCell (p := ⟨w.heap.size, 1, none⟩) (Nat.le_refl _) _⟩
end Go.Proofs.Ytpmepchidikopaa
