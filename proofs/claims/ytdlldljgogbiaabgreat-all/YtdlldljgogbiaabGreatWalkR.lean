/-
  The reference's search.
-/
import Derived.Test.YtdlldljgogbiaabGreatLayR
import Derived.RegionCalls
import Derived.Deep.RegionWith
import Derived.Laws.MakeOwn
namespace Go.Proofs.YtdlldljgogbiaabGreat
open Go.RowKit
set_option linter.unusedVariables false
set_option maxRecDepth 20000

/-- the cells of a net that was boxed, as the reference holds it -/
abbrev netC (x y : Int) (a : Option Addr) (n cap : Nat) : Array Value := #[.int .i64 x, .int .i64 y, .slice a n cap]

theorem make_at (W : World) : ∃ MC : Array Value, MC.size = 65536 ∧ ∀ W : World, (Instr.makeSlice 86 (.int .i64 65536) (.int .i64 65536)).run Tryz.prog W = .ok (.slice (some ⟨W.heap.size, 0, none⟩) 65536 65536) (W.alloc (.cells MC 3)) := by
  obtain ⟨i0, hi, hz0, hz1, hz2⟩ := info_parts Tryz.infoI
  refine ⟨madeCells (Value.int .i64 0).cells (65536 * 1), size_madeCells _ _, fun W => ?_⟩
  have := run_make (P := Tryz.prog) W 86 3 i0 (.int .i64 0) Tryz.underlying86 hi hz0 .i64 .i64 65536 65536 (by omega) (by omega) (by rw [hz2]; decide) (by omega)
  rw [hz1] at this
  exact this

theorem marksI_get {l : List Flow.Node} {i : Nat} {n : Flow.Node} (h : l[i]? = some n) : (cellsI (marksI l))[i]? = some (.int .i64 (n.mark : Int)) := by simp [cellsI, marksI, h]
theorem frmsI_get {l : List Flow.Node} {i : Nat} {n : Flow.Node} (h : l[i]? = some n) : (cellsI (frmsI l))[i]? = some (.int .i64 n.frm) := by simp [cellsI, frmsI, h]
theorem viasI_get {l : List Flow.Node} {i : Nat} {n : Flow.Node} (h : l[i]? = some n) : (cellsI (viasI l))[i]? = some (.int .i64 n.via) := by simp [cellsI, viasI, h]

theorem WalkIn.drew {w : World} {base B : Nat} {l : List Flow.Node} (h : WalkIn w base B l) : WalkIn w.drew base B l := by
  obtain ⟨aM, aF, aB, cM, cF, cB, A, arr, h, g⟩ := h
  exact ⟨aM, aF, aB, cM, cF, cB, A, arr, h.drew, g⟩
theorem WalkIn.lower {w : World} {base base' B : Nat} {l : List Flow.Node} (h : WalkIn w base B l) (hb : base' ≤ base) : WalkIn w base' B l := by
  obtain ⟨aM, aF, aB, cM, cF, cB, A, arr, h, g⟩ := h
  exact ⟨aM, aF, aB, cM, cF, cB, A, arr, ⟨Nat.le_trans hb h.baseB, Nat.le_trans hb h.baseA, h.ne, h.blk, owns_base h.rM hb, owns_base h.rF hb, owns_base h.rB hb, h.rA, h.sA, h.apart⟩, g⟩
/-- what the walk reads of a search in memory -/
theorem WalkIn.look {w : World} {base B : Nat} {l : List Flow.Node} (h : WalkIn w base B l) : ∃ aM aF aB cM cF cB A, w.cell? ⟨B, 0, none⟩ = some (.slice aM l.length cM) ∧ w.cell? ⟨B, 1, none⟩ = some (.slice aF l.length cF) ∧ w.cell? ⟨B, 2, none⟩ = some (.slice aB l.length cB) ∧ w.cell? ⟨B, 3, none⟩ = some (.slice (some ⟨A, 0, none⟩) 65536 65536) ∧
    B < w.heap.size ∧ A < w.heap.size ∧ base ≤ B ∧ (∀ m, m < 65536 → w.cell? ⟨A, m, none⟩ = some (.int .i64 (atI l m))) ∧
    (∀ (i : Nat) (n : Flow.Node), l[i]? = some n → ∃ gM gF gB, aM = some ⟨gM, 0, none⟩ ∧ aF = some ⟨gF, 0, none⟩ ∧ aB = some ⟨gB, 0, none⟩ ∧ gM < w.heap.size ∧ gF < w.heap.size ∧ gB < w.heap.size ∧ w.cell? ⟨gM, i, none⟩ = some (.int .i64 n.mark) ∧ w.cell? ⟨gF, i, none⟩ = some (.int .i64 n.frm) ∧ w.cell? ⟨gB, i, none⟩ = some (.int .i64 n.via)) := by
  obtain ⟨aM, aF, aB, cM, cF, cB, A, arr, h, g⟩ := h
  refine ⟨aM, aF, aB, cM, cF, cB, A, ?_, ?_, ?_, h.blk.cell 3, h.blk.lt, h.rA.lt, h.baseB, ?_, ?_⟩
  · have := h.blk.cell 0; rw [marksI_len] at this; exact this
  · have := h.blk.cell 1; rw [frmsI_len] at this; exact this
  · have := h.blk.cell 2; rw [viasI_len] at this; exact this
  · intro m hm; rw [h.rA.cell]; exact g m hm
  · intro i n hi
    have hil := (List.getElem?_eq_some_iff.1 hi).1
    have rM := h.rM
    have rF := h.rF
    have rB := h.rB
    rw [marksI_len] at rM
    rw [frmsI_len] at rF
    rw [viasI_len] at rB
    obtain ⟨gM, c1, e1, _, l1⟩ := rM.form (by omega)
    obtain ⟨gF, c2, e2, _, l2⟩ := rF.form (by omega)
    obtain ⟨gB, c3, e3, _, l3⟩ := rB.form (by omega)
    injection e1 with e1 _ f1
    injection e2 with e2 _ f2
    injection e3 with e3 _ f3
    subst e1 e2 e3
    refine ⟨gM, gF, gB, rfl, rfl, rfl, l1, l2, l3, ?_, ?_, ?_⟩
    · rw [rM.cellAt i (by omega)]; exact marksI_get hi
    · rw [rF.cellAt i (by omega)]; exact frmsI_get hi
    · rw [rB.cellAt i (by omega)]; exact viasI_get hi

theorem upto_fresh {ts : List Flow.Tr} {m : Nat} {l : List Flow.Node} {P m' : Nat} (h : Flow.Upto ts m l P) (hm' : m' < 65536) (hno : atI l m' < 0) : l.length < 65536 := by
  have hsz := h.size
  rcases Nat.lt_or_ge l.length 65536 with g | g
  · exact g
  · have hnd : (m' :: l.map Flow.Node.mark).Nodup := by
      rw [List.nodup_cons]
      refine ⟨?_, ?_⟩
      · intro hx
        obtain ⟨x, hx, e⟩ := List.mem_map.1 hx
        obtain ⟨q, hq⟩ := List.mem_iff_getElem?.1 hx
        exact atI_none.1 hno q x hq e
      · rw [List.nodup_iff_pairwise_ne, List.pairwise_iff_getElem]
        intro i j hi hj hij heq
        have hj' : j < l.length := by simpa using hj
        have hi' : i < l.length := by omega
        simp only [List.getElem_map] at heq
        have := h.once i j _ _ (List.getElem?_eq_getElem hi') (List.getElem?_eq_getElem hj') heq
        omega
    have hsub : ∀ z ∈ (m' :: l.map Flow.Node.mark), z ∈ List.range 65536 := by
      intro z hz
      rcases List.mem_cons.1 hz with rfl | hz
      · exact List.mem_range.2 hm'
      · obtain ⟨x, hx, rfl⟩ := List.mem_map.1 hz
        obtain ⟨j, hj⟩ := List.mem_iff_getElem?.1 hx
        exact List.mem_range.2 (h.small j x hj)
    have := hnd.length_le_of_subset hsub
    simp at this
    omega

set_option maxRecDepth 400000 in
set_option maxHeartbeats 4000000 in
theorem walkR_any (ts : List Flow.Tr) (x y : Int) (a : Option Addr) (cap m base : Nat) (w : World) (hm : m < 65536) (hts : ∀ t ∈ ts, Flow.Small t) (hlen : ts.length ≤ 16)
    (hown : w.ownsRow base 108 3 (.slice a ts.length cap) ts.length (cellsR ts)) :
    Calls Tryz.prog 44 #[.agg (netC x y a ts.length cap), .int .i64 m] w fun e w' => ∃ B l, e = .returned (.pointer (some ⟨B, 0, none⟩)) ∧ Flow.Bfs ts m l ∧ WalkIn w' w.heap.size B l ∧ Below w.heap.size w w' := by
  obtain ⟨MC, hMC, hmk⟩ := make_at w
  have OW : Hid (w.ownsRow base 108 3 (.slice a ts.length cap) ts.length (cellsR ts)) := hown
  have HT : Hid (∀ t ∈ ts, Flow.Small t) := hts
  clear hown hts
  go_enter Tryz.func44, Tryz.ntmps44
  go_wp2
  go_loopw [6] (fun i' wr => ∃ (k : Nat) (arr : Array Value), k ≤ 65536 ∧ i' = .int .i64 k ∧ Blk wr w.heap.size (netC x y a ts.length cap) 64 ∧ Blk wr (w.heap.size + 1 + 1) #[.slice none 0 0, .slice none 0 0, .slice none 0 0, .slice (some ⟨w.heap.size + 1, 0, none⟩) 65536 65536] 88 ∧ Blk wr (w.heap.size + 1) arr 3 ∧ arr.size = 65536 ∧ (∀ j, j < k → arr[j]? = some (.int .i64 (-1))) ∧ Below w.heap.size w wr) (fun i' _ => 65536 - (intOf i').toNat)
  case atStart =>
    refine ⟨0, MC, by omega, rfl, ?_, ?_, ?_, hMC, fun j hj => by omega, ?_⟩
    · exact ((Blk.new w _ _).alloc _).alloc _
    · exact Blk.new_at (by simp) _ _
    · exact (Blk.new_at (by simp) _ _).alloc _
    · exact (((Below.refl _ _).alloc (Nat.le_refl _) _).alloc (by simp) _).alloc (by simp; omega) _
  case round =>
    obtain ⟨k, arr, hk, rfl, hb0, hb2, hb1, hsz, harr, hbw⟩ := hrel
    have z0 := hb0.lt
    have z1 := hb1.lt
    have z2 := hb2.lt
    by_cases hlt : k < 65536
    · have x3 : wr.cell? ⟨w.heap.size + 1 + 1, 3, none⟩ = some (.slice (some ⟨w.heap.size + 1, 0, none⟩) 65536 65536) := hb2.cell 3
      obtain ⟨v, hv⟩ : ∃ v, arr[k]? = some v := ⟨_, Array.getElem?_eq_getElem (by omega)⟩
      have xa : wr.cell? ⟨w.heap.size + 1, k, none⟩ = some v := by rw [hb1.cell]; exact hv
      have ya := hb1.froz k
      have hI0 : (0 : Int) ≤ (k : Int) := by omega
      have hI1 : (k : Int) < 65536 := by omega
      have B0 : Hid (Blk wr w.heap.size (netC x y a ts.length cap) 64) := hb0
      have B1 : Hid (Blk wr (w.heap.size + 1) arr 3) := hb1
      have B2 : Hid (Blk wr (w.heap.size + 1 + 1) #[.slice none 0 0, .slice none 0 0, .slice none 0 0, .slice (some ⟨w.heap.size + 1, 0, none⟩) 65536 65536] 88) := hb2
      have HA : Hid (∀ j, j < k → arr[j]? = some (.int .i64 (-1))) := harr
      have HW : Hid _ := hbw
      clear hb0 hb1 hb2 harr hbw hv
      go_wp2
      go_roundw
      case rel =>
        refine ⟨k + 1, arr.setIfInBounds k (.int .i64 (-1)), by omega, by go_num, B0.out.far _ _ (by simp), B2.out.far _ _ (by simp), B1.out.set k _, by simp [hsz], ?_, HW.out.setCell (by simp) _⟩
        intro j hj
        by_cases e : k = j
        · subst e; rw [Array.getElem?_setIfInBounds_self_of_lt (by omega)]
        · rw [Array.getElem?_setIfInBounds_ne e]; exact HA.out j (by omega)
      case measure => simp [intOf]; omega
    · obtain rfl : k = 65536 := by omega
      have hrows : WalkIn wr (w.heap.size + 1) (w.heap.size + 1 + 1) [] := by
        refine ⟨none, none, none, 0, 0, 0, w.heap.size + 1, arr, ⟨by omega, by omega, by omega, hb2, World.ownsRow_nil _ _ _ _, World.ownsRow_nil _ _ _ _, World.ownsRow_nil _ _ _ _, hb1, hsz, ⟨by simp [obk], by simp [obk], by simp [obk], by simp [obk], by simp [obk], by simp [obk], by simp [obk], by simp [obk], by simp [obk]⟩⟩, ?_⟩
        intro j hj; rw [harr j hj]; rfl
      have x3 : wr.cell? ⟨w.heap.size + 1 + 1, 3, none⟩ = some (.slice (some ⟨w.heap.size + 1, 0, none⟩) 65536 65536) := hb2.cell 3
      have HR : Hid (WalkIn wr (w.heap.size + 1) (w.heap.size + 1 + 1) []) := hrows
      have B0 : Hid (Blk wr w.heap.size (netC x y a ts.length cap) 64) := hb0
      have HW : Hid _ := hbw
      have hu := Flow.Upto.start ts m hm
      have HU : Hid _ := hu
      have c1 : ∀ W, WalkIn W (w.heap.size + 1) (w.heap.size + 1 + 1) [] → w.heap.size + 1 ≤ W.heap.size → Calls Tryz.prog 81 #[.pointer (some ⟨w.heap.size + 1 + 1, 0, none⟩), .int .i64 m, .int .i64 (-1), .int .i64 (-1)] W fun e w' => e = .returned (.tuple #[]) ∧ WalkIn w' (w.heap.size + 1) (w.heap.size + 1 + 1) [⟨m, -1, -1⟩] ∧ Below (w.heap.size + 1) W w' := fun W hW hz => layR_any [] ⟨m, -1, -1⟩ _ _ W (by simp) hm (by simp [atI]) hz hW
      clear hb0 hb1 hb2 harr hbw hrows hu hmk
      go_wp2_with (go_at_call 81; refine (c1 _ HR.out (by omega)).mono ?_; rintro e w1 ⟨rfl, hin, hbel⟩; have IN : Hid (WalkIn w1 (w.heap.size + 1) (w.heap.size + 1 + 1) [⟨m, -1, -1⟩]) := hin; have BL : Hid _ := hbel; clear hin hbel)
      go_loopw [7] (fun i' wr => ∃ (i : Nat) (l : List Flow.Node), i ≤ l.length ∧ i' = .int .i64 i ∧ WalkIn wr (w.heap.size + 1) (w.heap.size + 1 + 1) l ∧ Blk wr w.heap.size (netC x y a ts.length cap) 64 ∧ Below w.heap.size w wr ∧ Hid (Flow.Upto ts m l (i * 16 + 0))) (fun i' _ => 65536 - (intOf i').toNat)
      case atStart =>
        exact ⟨0, [⟨m, -1, -1⟩], by simp, rfl, IN.out, B0.out.below BL.out (by omega), HW.out.trans (BL.out.mono (by omega)), HU.out⟩
      case round =>
        clear HU IN BL HR B0 HW x3 z0 z1 z2 hk hlt c1 hsz
        obtain ⟨i, l, hil, rfl, hin, hb0, hbw, HU⟩ := hrel
        have h65 := HU.out.size
        obtain ⟨aM, aF, aB, cM, cF, cB, A, arr, hr3, harr⟩ := hin
        have x0 : wr.cell? ⟨w.heap.size + 1 + 1, 0, none⟩ = some (.slice aM l.length cM) := by have := hr3.blk.cell 0; rw [marksI_len] at this; exact this
        by_cases hlt : i < l.length
        · have B0 : Hid (Blk wr w.heap.size (netC x y a ts.length cap) 64) := hb0
          have HW : Hid _ := hbw
          have IN : Hid (WalkIn wr (w.heap.size + 1) (w.heap.size + 1 + 1) l) := ⟨aM, aF, aB, cM, cF, cB, A, arr, hr3, harr⟩
          clear hbw hb0 hr3 harr
          go_wp2
          obtain ⟨wo, rfl⟩ : ∃ wo : World, wo = wr := ⟨_, rfl⟩
          go_loopw [8] (fun k' wr => ∃ (k : Nat) (l : List Flow.Node), k ≤ ts.length ∧ i < l.length ∧ k' = .int .i64 k ∧ WalkIn wr (w.heap.size + 1) (w.heap.size + 1 + 1) l ∧ Blk wr w.heap.size (netC x y a ts.length cap) 64 ∧ Below w.heap.size w wr ∧ Hid (Flow.Upto ts m l (i * 16 + k))) (fun k' _ => ts.length - (intOf k').toNat)
          case atStart => exact ⟨0, l, by omega, hlt, rfl, IN.out, B0.out, HW.out, HU⟩
          case round =>
            clear HU IN B0 HW x0 hlt hil h65
            obtain ⟨k, l, hkl, hlt, rfl, hin, hb0, hbw, HU⟩ := hrel
            have n0 : wr.cell? ⟨w.heap.size, 0, none⟩ = some (.int .i64 x) := hb0.cell 0
            have n1 : wr.cell? ⟨w.heap.size, 1, none⟩ = some (.int .i64 y) := hb0.cell 1
            have n2 : wr.cell? ⟨w.heap.size, 2, none⟩ = some (.slice a ts.length cap) := hb0.cell 2
            have B0 : Hid (Blk wr w.heap.size (netC x y a ts.length cap) 64) := hb0
            have HW : Hid _ := hbw
            have IN : Hid (WalkIn wr (w.heap.size + 1) (w.heap.size + 1 + 1) l) := hin
            by_cases hk : k < ts.length
            · obtain ⟨aM, aF, aB, cM, cF, cB, A, x0, x1, x2, x3, zB, zA, _, hat, hno⟩ := hin.look
              obtain ⟨n, hn⟩ : ∃ n, l[i]? = some n := ⟨_, List.getElem?_eq_getElem hlt⟩
              obtain ⟨gM, gF, gB, rfl, rfl, rfl, l1, l2, l3, d1, d2, d3⟩ := hno i n hn
              have hnm := HU.out.small i n hn
              have h65 := HU.out.size
              have OW2 : Hid (wr.ownsRow base 108 3 (.slice a ts.length cap) ts.length (cellsR ts)) := owns_below OW.out hbw (Nat.le_refl _)
              have c2 : ∀ W, W.ownsRow base 108 3 (.slice a ts.length cap) ts.length (cellsR ts) → Calls Tryz.prog 82 #[.agg (netC x y a ts.length cap), .int .i64 n.mark, .int .i64 k] W fun e w' => e = .returned (.int .i64 (Flow.nextI ts n.mark k)) ∧ Below W.heap.size W w' := fun W ho => nextR_any ts x y a cap n.mark k base W hnm HT.out hlen hk ho
              have hI0 : (0 : Int) ≤ (i : Int) := by omega
              have hI1 : (i : Int) < (l.length : Int) := by omega
              have hkI : (k : Int) < (ts.length : Int) := by omega
              have N : Hid (l[i]? = some n) := hn
              have hwb := hbw.size
              have AT : Hid (∀ m, m < 65536 → wr.cell? ⟨A, m, none⟩ = some (.int .i64 (atI l m))) := hat
              clear x1 x2 d2 d3 l2 l3 hno hn hin hb0 hbw hat
              cases hnx : Flow.nextM ts n.mark k with
              | none =>
                have e1 : Flow.nextI ts n.mark k = -1 := by unfold Flow.nextI; rw [hnx]
                rw [e1] at c2
                have U : Hid (Flow.Upto ts m l (i * 16 + (k + 1))) := HU.out.pass (by omega) (fun n' m' h1 h2 => by rw [N.out] at h1; injection h1 with h1; subst h1; rw [hnx] at h2; cases h2)
                clear e1 hnx HU
                go_wp2
                go_region_with (go_at_call 82; refine (c2 _ ((OW2.out).drew)).mono ?_; rintro e w2 ⟨rfl, hb2⟩; have HB2 : Hid _ := hb2; clear hb2)
                all_goals go_wp2
                all_goals go_roundw
                all_goals (first | (simp [intOf]; omega) | exact ⟨k + 1, l, by omega, hlt, by go_num, IN.out.drew.below HB2.out, B0.out.drew.below HB2.out B0.out.lt, (HW.out.drew).trans (HB2.out.mono hwb), U⟩)
              | some m' =>
                have e1 : Flow.nextI ts n.mark k = (m' : Int) := by unfold Flow.nextI; rw [hnx]
                rw [e1] at c2
                have hm' := nextM_lt HT.out hnm hnx
                have xa := AT.out m' hm'
                have hJ0 : (0 : Int) ≤ (m' : Int) := by omega
                have hJ1 : (m' : Int) < 65536 := by omega
                by_cases hne : atI l m' < 0
                · have hfr := upto_fresh HU.out hm' hne
                  have U : Hid (Flow.Upto ts m (l ++ [⟨m', i, k⟩]) (i * 16 + (k + 1))) := HU.out.new (by omega) N.out hnx hm' (fun q' nq hq' => atI_none.1 hne q' nq hq')
                  have c3 : ∀ W, WalkIn W (w.heap.size + 1) (w.heap.size + 1 + 1) l → w.heap.size + 1 ≤ W.heap.size → Calls Tryz.prog 81 #[.pointer (some ⟨w.heap.size + 1 + 1, 0, none⟩), .int .i64 m', .int .i64 i, .int .i64 k] W fun e w' => e = .returned (.tuple #[]) ∧ WalkIn w' (w.heap.size + 1) (w.heap.size + 1 + 1) (l ++ [⟨m', i, k⟩]) ∧ Below (w.heap.size + 1) W w' := fun W hW hz => layR_any l ⟨m', i, k⟩ _ _ W hfr hm' hne hz hW
                  obtain ⟨q, hq⟩ : ∃ q : Int, q = atI l m' := ⟨_, rfl⟩
                  rw [← hq] at xa
                  have hq0 : q < 0 := by omega
                  clear e1 hnx HU AT hne hq hfr
                  go_wp2
                  go_region_with (go_at_call 82; refine (c2 _ ((OW2.out).drew)).mono ?_; rintro e w2 ⟨rfl, hb2⟩; have HB2 : Hid _ := hb2; have v3 : w2.cell? ⟨w.heap.size + 1 + 1, 3, none⟩ = some (.slice (some ⟨A, 0, none⟩) 65536 65536) := (hb2.cell (p := ⟨w.heap.size + 1 + 1, 3, none⟩) zB).trans x3; have va : w2.cell? ⟨A, m', none⟩ = some (.int .i64 q) := (hb2.cell (p := ⟨A, m', none⟩) zA).trans xa; clear hb2)
                  all_goals have hz2 := HB2.out.size
                  all_goals have hz2' : w.heap.size + 1 ≤ w2.heap.size := by (simp at hz2; omega)
                  all_goals clear c2 hz2
                  all_goals go_wp2_with (go_at_call 81; refine (c3 _ (IN.out.drew.below HB2.out) hz2').mono ?_; rintro e w3 ⟨rfl, hin, hbel⟩; have IN3 : Hid (WalkIn w3 (w.heap.size + 1) (w.heap.size + 1 + 1) (l ++ [⟨m', i, k⟩])) := hin; have BL3 : Hid _ := hbel; clear hin hbel)
                  all_goals go_roundw
                  all_goals (first | (simp [intOf]; omega) | exact ⟨k + 1, l ++ [⟨m', i, k⟩], by omega, by simp; omega, by go_num, IN3.out, (B0.out.drew.below HB2.out B0.out.lt).below BL3.out (by omega), ((HW.out.drew).trans (HB2.out.mono hwb)).trans (BL3.out.mono (by omega)), U⟩)
                · have U : Hid (Flow.Upto ts m l (i * 16 + (k + 1))) := HU.out.pass (by omega) (fun n' m'' h1 h2 => by
                    rw [N.out] at h1; injection h1 with h1; subst h1; rw [hnx] at h2; injection h2 with h2; subst h2
                    obtain ⟨nq, hq, hqm⟩ := atI_some (l := l) (m := m') (by omega)
                    exact ⟨_, nq, hq, hqm⟩)
                  obtain ⟨q, hq⟩ : ∃ q : Int, q = atI l m' := ⟨_, rfl⟩
                  rw [← hq] at xa
                  have hq0 : 0 ≤ q := by omega
                  clear e1 hnx HU AT hne hq
                  go_wp2
                  go_region_with (go_at_call 82; refine (c2 _ ((OW2.out).drew)).mono ?_; rintro e w2 ⟨rfl, hb2⟩; have HB2 : Hid _ := hb2; have v3 : w2.cell? ⟨w.heap.size + 1 + 1, 3, none⟩ = some (.slice (some ⟨A, 0, none⟩) 65536 65536) := (hb2.cell (p := ⟨w.heap.size + 1 + 1, 3, none⟩) zB).trans x3; have va : w2.cell? ⟨A, m', none⟩ = some (.int .i64 q) := (hb2.cell (p := ⟨A, m', none⟩) zA).trans xa; clear hb2)
                  all_goals go_wp2
                  all_goals go_roundw
                  all_goals (first | (simp [intOf]; omega) | exact ⟨k + 1, l, by omega, hlt, by go_num, IN.out.drew.below HB2.out, B0.out.drew.below HB2.out B0.out.lt, (HW.out.drew).trans (HB2.out.mono hwb), U⟩)
            · have h65 := HU.out.size
              obtain rfl : k = ts.length := by omega
              clear hin hb0 hbw
              go_wp2
              go_roundw
              case rel => exact ⟨i + 1, l, by omega, by go_num, IN.out, B0.out, HW.out, HU.out.row hlen⟩
              case measure => simp [intOf]; omega
        · obtain rfl : i = l.length := by omega
          go_wp2
          go_ret
          exact ⟨w.heap.size + 1 + 1, l, rfl, HU.out, WalkIn.lower ⟨aM, aF, aB, cM, cF, cB, A, arr, hr3, harr⟩ (by omega), hbw⟩
end Go.Proofs.YtdlldljgogbiaabGreat
