/-
  The program's search.
-/
import Derived.Test.YtdlldljgogbiaabGreatSeaF
import Derived.Test.YtdlldljgogbiaabGreatWalkR
import Derived.Test.YtdlldljgogbiaabGreatPlayF
import Derived.RegionCalls
import Derived.Deep.RegionWith
import Derived.Deep.RegionHeld3
namespace Go.Proofs.YtdlldljgogbiaabGreat
open Go.RowKit
set_option linter.unusedVariables false
set_option maxRecDepth 20000

theorem made_one (z : Value) (n m : Nat) (h : m < n) : (madeCells #[z] n)[m]? = some z := by
  simp [madeCells, h, Nat.mod_one]
theorem makeO_at (W : World) : ∃ MC : Array Value, MC.size = 65536 ∧ (∀ m, m < 65536 → MC[m]? = some (.bool false)) ∧ ∀ W : World, (Instr.makeSlice 77 (.int .i64 65536) (.int .i64 65536)).run Tryz.prog W = .ok (.slice (some ⟨W.heap.size, 0, none⟩) 65536 65536) (W.alloc (.cells MC 4)) := by
  obtain ⟨i0, hi, hz0, hz1, hz2⟩ := info_parts Tryz.infoO
  refine ⟨madeCells (Value.bool false).cells (65536 * 1), size_madeCells _ _, ?_, fun W => ?_⟩
  · intro m hm
    exact made_one (.bool false) (65536 * 1) m (by omega)
  · have := run_make (P := Tryz.prog) W 77 4 i0 (.bool false) Tryz.underlying77 hi hz0 .i64 .i64 65536 65536 (by omega) (by omega) (by rw [hz2]; decide) (by omega)
    rw [hz1] at this
    exact this

theorem SeaRows.farR {w : World} {base A : Nat} {l : List Flow.Node} {aV : Option Addr} {cV : Nat} {arr : Array Value} (h : SeaRows w base A l aV cV arr) {x : Nat} (hx : x < base) (j : Nat) (v : Value) : SeaRows (w.setCell ⟨x, j, none⟩ v) base A l aV cV arr :=
  ⟨h.baseA, owns_far h.rV (by rw [ownBlock_slice]; intro e; have h1 : base ≤ x := (owns_lt h.rV e).1; omega) _, h.rA.far _ _ (by have := h.baseA; show A ≠ x; omega), h.sA, h.ap, h.has⟩
/-- what explore answers -/
def ExpPost (ts : List Flow.Tr) (m : Nat) (w : World) (e : Ending) (w' : World) : Prop :=
  ∃ aV cV A l arr, e = .returned (.agg (seaC aV l.length cV A)) ∧ Flow.Bfs ts m l ∧ SeaRows w' w.heap.size A l aV cV arr ∧ Below w.heap.size w w'

theorem fireAt_some {ts : List Flow.Tr} {k q m' : Nat} {t : Flow.Tr} (ht : ts[k]? = some t) (h : Flow.nextM ts q k = some m') : Flow.fireErr t q = 0 ∧ Flow.fireTo t q = m' := by
  rw [nextM_at ht] at h
  by_cases f : Flow.fireErr t q = 0
  · rw [if_pos f] at h
    injection h with h
    exact ⟨f, by unfold Flow.fireTo; rw [if_pos f, h]⟩
  · rw [if_neg f] at h; cases h
theorem fireAt_none {ts : List Flow.Tr} {k q : Nat} {t : Flow.Tr} (ht : ts[k]? = some t) (h : Flow.nextM ts q k = none) : Flow.fireErr t q ≠ 0 := by
  rw [nextM_at ht] at h
  intro f
  rw [if_pos f] at h; cases h

/-- no marking twice, all small -/
structure Flow.Fine (l : List Flow.Node) : Prop where
  once : ∀ (i j : Nat) (ni nj : Flow.Node), l[i]? = some ni → l[j]? = some nj → ni.mark = nj.mark → i = j
  small : ∀ (j : Nat) (n : Flow.Node), l[j]? = some n → n.mark < 65536
theorem Flow.Fine.nodup {l : List Flow.Node} (h : Flow.Fine l) : (l.map Flow.Node.mark).Nodup := by
  rw [List.nodup_iff_pairwise_ne, List.pairwise_iff_getElem]
  intro i j hi hj hij heq
  have hj' : j < l.length := by simpa using hj
  have hi' : i < l.length := by omega
  simp only [List.getElem_map] at heq
  have := h.once i j _ _ (List.getElem?_eq_getElem hi') (List.getElem?_eq_getElem hj') heq
  omega
theorem Flow.Fine.fresh {l : List Flow.Node} {m' : Nat} (h : Flow.Fine l) (hm' : m' < 65536) (hno : atI l m' < 0) : l.length < 65536 := by
  have hnd : (m' :: l.map Flow.Node.mark).Nodup := by
    rw [List.nodup_cons]
    refine ⟨?_, h.nodup⟩
    intro hx
    obtain ⟨x, hx, e⟩ := List.mem_map.1 hx
    obtain ⟨q, hq⟩ := List.mem_iff_getElem?.1 hx
    exact atI_none.1 hno q x hq e
  have hsub : ∀ m ∈ m' :: l.map Flow.Node.mark, m ∈ List.range 65536 := by
    intro m hm
    rcases List.mem_cons.1 hm with rfl | hm
    · exact List.mem_range.2 hm'
    · obtain ⟨x, hx, rfl⟩ := List.mem_map.1 hm
      obtain ⟨j, hj⟩ := List.mem_iff_getElem?.1 hx
      exact List.mem_range.2 (h.small j x hj)
  have := hnd.length_le_of_subset hsub
  simp at this
  omega
theorem Flow.Fine.size {l : List Flow.Node} (h : Flow.Fine l) : l.length ≤ 65536 := by
  have hsub : ∀ m ∈ l.map Flow.Node.mark, m ∈ List.range 65536 := by
    intro m hm
    obtain ⟨x, hx, rfl⟩ := List.mem_map.1 hm
    obtain ⟨j, hj⟩ := List.mem_iff_getElem?.1 hx
    exact List.mem_range.2 (h.small j x hj)
  have := h.nodup.length_le_of_subset hsub
  simpa using this
theorem Flow.Fine.nil : Flow.Fine [] := ⟨fun i j ni nj hi => by simp at hi, fun j n hj => by simp at hj⟩
theorem snoc_get {l : List Flow.Node} {n x : Flow.Node} {i : Nat} (h : (l ++ [n])[i]? = some x) : (i < l.length ∧ l[i]? = some x) ∨ (i = l.length ∧ n = x) := by
  by_cases e : i < l.length
  · rw [List.getElem?_append_left e] at h; exact .inl ⟨e, h⟩
  · rw [List.getElem?_append_right (by omega)] at h
    by_cases e2 : i = l.length
    · subst e2; simp at h; exact .inr ⟨rfl, h⟩
    · have : i - l.length ≠ 0 := by omega
      obtain ⟨j, hj⟩ : ∃ j, i - l.length = j + 1 := ⟨i - l.length - 1, by omega⟩
      rw [hj] at h; simp at h
theorem Flow.Fine.snoc {l : List Flow.Node} {n : Flow.Node} (h : Flow.Fine l) (hm' : n.mark < 65536) (hno : atI l n.mark < 0) : Flow.Fine (l ++ [n]) := by
  refine ⟨?_, ?_⟩
  · intro i j ni nj hi hj he
    rcases snoc_get hi with ⟨a1, a2⟩ | ⟨a1, a2⟩ <;> rcases snoc_get hj with ⟨b1, b2⟩ | ⟨b1, b2⟩
    · exact h.once i j ni nj a2 b2 he
    · rw [← b2] at he; exact absurd he (atI_none.1 hno i ni a2)
    · rw [← a2] at he; exact absurd he.symm (atI_none.1 hno j nj b2)
    · omega
  · intro j x hj
    rcases snoc_get hj with ⟨a1, a2⟩ | ⟨a1, a2⟩
    · exact h.small j x a2
    · rw [← a2]; exact hm'

/-- what visitNext makes of a list, one transition -/
def Flow.seen1 (ts : List Flow.Tr) (q p : Nat) (l : List Flow.Node) (k : Nat) : List Flow.Node :=
  match Flow.nextM ts q k with
  | none => l
  | some m' => if atI l m' < 0 then l ++ [⟨m', p, k⟩] else l
/-- .. the first transitions -/
def Flow.seenTo (ts : List Flow.Tr) (q p : Nat) (l : List Flow.Node) : Nat → List Flow.Node
  | 0 => l
  | k + 1 => Flow.seen1 ts q p (Flow.seenTo ts q p l k) k
theorem seen1_none {ts : List Flow.Tr} {q p k : Nat} {l : List Flow.Node} (h : Flow.nextM ts q k = none) : Flow.seen1 ts q p l k = l := by unfold Flow.seen1; rw [h]
theorem seen1_new {ts : List Flow.Tr} {q p k m' : Nat} {l : List Flow.Node} (h : Flow.nextM ts q k = some m') (hn : atI l m' < 0) : Flow.seen1 ts q p l k = l ++ [⟨m', p, k⟩] := by unfold Flow.seen1; rw [h]; exact if_pos hn
theorem seen1_old {ts : List Flow.Tr} {q p k m' : Nat} {l : List Flow.Node} (h : Flow.nextM ts q k = some m') (hn : ¬ atI l m' < 0) : Flow.seen1 ts q p l k = l := by unfold Flow.seen1; rw [h]; exact if_neg hn
theorem seen1_fine {ts : List Flow.Tr} {q p k : Nat} {l : List Flow.Node} (hts : ∀ t ∈ ts, Flow.Small t) (hq : q < 65536) (h : Flow.Fine l) : Flow.Fine (Flow.seen1 ts q p l k) := by
  cases e : Flow.nextM ts q k with
  | none => rw [seen1_none e]; exact h
  | some m' =>
    by_cases hn : atI l m' < 0
    · rw [seen1_new e hn]; exact h.snoc (nextM_lt hts hq e) hn
    · rw [seen1_old e hn]; exact h
theorem seenTo_fine {ts : List Flow.Tr} {q p : Nat} {l : List Flow.Node} (hts : ∀ t ∈ ts, Flow.Small t) (hq : q < 65536) (h : Flow.Fine l) (k : Nat) : Flow.Fine (Flow.seenTo ts q p l k) := by
  induction k with
  | zero => exact h
  | succ k ih => exact seen1_fine hts hq ih
theorem seen1_ext (ts : List Flow.Tr) (q p k : Nat) (l : List Flow.Node) : ∃ r, Flow.seen1 ts q p l k = l ++ r := by
  cases e : Flow.nextM ts q k with
  | none => exact ⟨[], by rw [seen1_none e, List.append_nil]⟩
  | some m' =>
    by_cases hn : atI l m' < 0
    · exact ⟨_, seen1_new e hn⟩
    · exact ⟨[], by rw [seen1_old e hn, List.append_nil]⟩
theorem seenTo_ext (ts : List Flow.Tr) (q p : Nat) (l : List Flow.Node) (k : Nat) : ∃ r, Flow.seenTo ts q p l k = l ++ r := by
  induction k with
  | zero => exact ⟨[], (List.append_nil _).symm⟩
  | succ k ih =>
    obtain ⟨r, hr⟩ := ih
    obtain ⟨r', hr'⟩ := seen1_ext ts q p k (Flow.seenTo ts q p l k)
    exact ⟨r ++ r', by show Flow.seen1 ts q p (Flow.seenTo ts q p l k) k = _; rw [hr', hr, List.append_assoc]⟩

set_option maxHeartbeats 2000000 in
theorem visitNext_any (ts : List Flow.Tr) (S : Nat → Prop) (a : Option Addr) (cap q p base0 B : Nat) (l : List Flow.Node) (w : World) (hq : q < 65536) (hts : ∀ t ∈ ts, Flow.Small t) (hlen : ts.length ≤ 16) (hf : Flow.Fine l) (hS : ∀ g, S g → g < w.heap.size) (hrow : ∀ g, obk a = some g → S g)
    (hown : w.ownsRow base0 93 3 (.slice a ts.length cap) ts.length (cellsF ts)) (h : SeaS w S B l) :
    Calls Tryz.prog 104 #[.pointer (some ⟨B, 0, none⟩), .slice a ts.length cap, .int .i64 q, .int .i64 p] w fun e w' => e = .returned (.tuple #[]) ∧ SeaS w' S B (Flow.seenTo ts q p l ts.length) ∧ Kept S w w' := by
  have OW : Hid (w.ownsRow base0 93 3 (.slice a ts.length cap) ts.length (cellsF ts)) := hown
  have HT : Hid (∀ t ∈ ts, Flow.Small t) := hts
  have HR : Hid (∀ g, obk a = some g → S g) := hrow
  have HS : Hid (∀ g, S g → g < w.heap.size) := hS
  have IN0 : Hid (SeaS w S B l) := h
  have HF : Hid (Flow.Fine l) := hf
  have HQ : Hid (q < 65536) := hq
  clear hown hts hrow hS h hf hq
  go_enter Tryz.func104, Tryz.ntmps104
  go_wp2
  go_loopw [8] (fun k' wr => ∃ (k : Nat), k ≤ ts.length ∧ k' = .int .i64 k ∧ Hid (SeaS wr S B (Flow.seenTo ts q p l k)) ∧ Hid (Kept S w wr)) (fun k' _ => ts.length - (intOf k').toNat)
  case atStart => exact ⟨0, by omega, rfl, IN0, Kept.refl _ _⟩
  case round =>
    clear IN0
    obtain ⟨k, hkl, rfl, IN, HW⟩ := hrel
    have HS2 : Hid (∀ g, S g → g < wr.heap.size) := fun g hg => Nat.lt_of_lt_of_le (HS.out g hg) HW.out.size
    by_cases hk : k < ts.length
    · obtain ⟨t, ht⟩ : ∃ t, ts[k]? = some t := ⟨_, List.getElem?_eq_getElem hk⟩
      obtain ⟨s1, s2, s3⟩ := HT.out t (List.mem_of_getElem? ht)
      have ow2 := owns_kept OW.out HW.out HR.out
      obtain ⟨g, cap', hv, _, hg2⟩ := ow2.form (by omega)
      injection hv with hv1 _ hv3
      subst hv1 hv3
      have t0 := ow2.cellAt (k * 3) (by omega)
      have t1 := ow2.cellAt (k * 3 + 1) (by omega)
      have t2 := ow2.cellAt (k * 3 + 2) (by omega)
      obtain ⟨f0, f1, f2⟩ := cellsF_get ht
      rw [f0] at t0
      rw [f1] at t1
      rw [f2] at t2
      have cf : ∀ W, Calls Tryz.prog 84 #[.agg (trF t), .int .i64 q] W fun e w' => e = .returned (.tuple #[.int .i64 (Flow.fireTo t q), .int .i64 (Flow.fireErr t q)]) ∧ w' = W.alloc (.cells (trF t) 93) := fun W => fireAt_any t q W HQ.out s2 s3
      have hJ0 : (0 : Int) ≤ (k : Int) := by omega
      have hJ1 : (k : Int) < (ts.length : Int) := by omega
      have T : Hid (ts[k]? = some t) := ht
      clear ow2 f0 f1 f2 s1 s2 s3 ht
      have IN2 : Hid (SeaS (wr.alloc (.cells (trF t) 93)) S B (Flow.seenTo ts q p l k)) := IN.out.below ((Below.refl _ _).alloc (Nat.le_refl _) _)
      have HW2 : Hid (Kept S w (wr.alloc (.cells (trF t) 93))) := HW.out.alloc HS2.out _
      have HF2 : Hid (Flow.Fine (Flow.seenTo ts q p l k)) := seenTo_fine HT.out HQ.out HF.out k
      cases hnx : Flow.nextM ts q k with
      | none =>
        have te : ((Flow.fireErr t q : Int) == 0) = false := by
          have := fireAt_none T.out hnx
          simp; omega
        have E : Hid (Flow.seenTo ts q p l (k + 1) = Flow.seenTo ts q p l k) := seen1_none hnx
        clear hnx
        go_wp2_with (go_at_call 84; refine (cf _).mono ?_; rintro e w2 ⟨rfl, rfl⟩)
        all_goals go_roundw
        all_goals (first | (simp [intOf]; omega) | exact ⟨k + 1, by omega, by go_num, by rw [E.out]; exact IN2, HW2⟩)
      | some m' =>
        obtain ⟨e1, e2⟩ := fireAt_some T.out hnx
        rw [e1, e2] at cf
        have M' : Hid (m' < 65536) := nextM_lt HT.out HQ.out hnx
        by_cases hne : atI (Flow.seenTo ts q p l k) m' < 0
        · have E : Hid (Flow.seenTo ts q p l (k + 1) = Flow.seenTo ts q p l k ++ [⟨m', p, k⟩]) := seen1_new hnx hne
          have HL : Hid ((Flow.seenTo ts q p l k).length < 65536) := HF2.out.fresh M'.out hne
          have c3 : ∀ W, SeaS W S B (Flow.seenTo ts q p l k) → (∀ g, S g → g < W.heap.size) → Calls Tryz.prog 79 #[.pointer (some ⟨B, 0, none⟩), .int .i64 m', .int .i64 p, .int .i64 k] W fun e w' => e = .returned (.tuple #[]) ∧ SeaS w' S B (Flow.seenTo ts q p l k ++ [⟨m', p, k⟩]) ∧ Kept S W w' := fun W hW hz => visit_new _ S ⟨m', p, k⟩ p k B W (by simp) (by simp) HL.out M'.out hne hz hW
          clear hnx hne e1 e2
          go_wp2_with (first | (go_at_call 84; refine (cf _).mono ?_; rintro e w2 ⟨rfl, rfl⟩) | (go_at_call 79; refine (c3 _ IN2.out (fun g hg => by have := HS2.out g hg; simp; omega)).mono ?_; rintro e w3 ⟨rfl, hin, hbel⟩; have IN3 : Hid (SeaS w3 S B (Flow.seenTo ts q p l k ++ [⟨m', p, k⟩])) := hin; have BL3 : Hid _ := hbel; clear hin hbel))
          all_goals go_roundw
          all_goals (first | (simp [intOf]; omega) | exact ⟨k + 1, by omega, by go_num, by rw [E.out]; exact IN3, HW2.out.trans BL3.out⟩)
        · have E : Hid (Flow.seenTo ts q p l (k + 1) = Flow.seenTo ts q p l k) := seen1_old hnx hne
          have c3 : ∀ W, SeaS W S B (Flow.seenTo ts q p l k) → Calls Tryz.prog 79 #[.pointer (some ⟨B, 0, none⟩), .int .i64 m', .int .i64 p, .int .i64 k] W fun e w' => e = .returned (.tuple #[]) ∧ W = w' := fun W hW => visit_old _ S m' p k B W M'.out (by omega) hW
          clear hnx hne e1 e2
          go_wp2_with (first | (go_at_call 84; refine (cf _).mono ?_; rintro e w2 ⟨rfl, rfl⟩) | (go_at_call 79; refine (c3 _ IN2.out).mono ?_; rintro e w3 ⟨rfl, rfl⟩))
          all_goals go_roundw
          all_goals (first | (simp [intOf]; omega) | exact ⟨k + 1, by omega, by go_num, by rw [E.out]; exact IN2, HW2⟩)
    · obtain rfl : k = ts.length := by omega
      go_wp2
      go_end0
      exact ⟨rfl, IN.out, HW.out⟩

/-- the first rounds of spread -/
def Flow.spreadTo (ts : List Flow.Tr) (l : List Flow.Node) : Nat → List Flow.Node
  | 0 => l
  | i + 1 => match (Flow.spreadTo ts l i)[i]? with
    | none => Flow.spreadTo ts l i
    | some n => Flow.seenTo ts n.mark i (Flow.spreadTo ts l i) ts.length
theorem spreadTo_at {ts : List Flow.Tr} {l : List Flow.Node} {i : Nat} {n : Flow.Node} (h : (Flow.spreadTo ts l i)[i]? = some n) : Flow.spreadTo ts l (i + 1) = Flow.seenTo ts n.mark i (Flow.spreadTo ts l i) ts.length := by
  show (match (Flow.spreadTo ts l i)[i]? with | none => _ | some n => _) = _
  rw [h]
theorem spreadTo_fine {ts : List Flow.Tr} {l : List Flow.Node} (hts : ∀ t ∈ ts, Flow.Small t) (h : Flow.Fine l) (i : Nat) : Flow.Fine (Flow.spreadTo ts l i) := by
  induction i with
  | zero => exact h
  | succ i ih =>
    cases e : (Flow.spreadTo ts l i)[i]? with
    | none => show Flow.Fine (match (Flow.spreadTo ts l i)[i]? with | none => _ | some n => _); rw [e]; exact ih
    | some n => rw [spreadTo_at e]; exact seenTo_fine hts (ih.small i n e) ih _
/-- spread has come to its end: each round but the last had a marking to go on from -/
def Flow.Spread (ts : List Flow.Tr) (l l' : List Flow.Node) : Prop := ∃ i, l' = Flow.spreadTo ts l i ∧ i = l'.length ∧ ∀ j, j < i → j < (Flow.spreadTo ts l j).length

set_option maxHeartbeats 2000000 in
theorem spread_any (ts : List Flow.Tr) (S : Nat → Prop) (a : Option Addr) (cap base0 B : Nat) (l : List Flow.Node) (w : World) (hts : ∀ t ∈ ts, Flow.Small t) (hlen : ts.length ≤ 16) (hf : Flow.Fine l) (hS : ∀ g, S g → g < w.heap.size) (hrow : ∀ g, obk a = some g → S g)
    (hown : w.ownsRow base0 93 3 (.slice a ts.length cap) ts.length (cellsF ts)) (h : SeaS w S B l) :
    Calls Tryz.prog 80 #[.pointer (some ⟨B, 0, none⟩), .slice a ts.length cap] w fun e w' => ∃ l', e = .returned (.tuple #[]) ∧ Flow.Spread ts l l' ∧ Flow.Fine l' ∧ SeaS w' S B l' ∧ Kept S w w' := by
  have OW : Hid (w.ownsRow base0 93 3 (.slice a ts.length cap) ts.length (cellsF ts)) := hown
  have HT : Hid (∀ t ∈ ts, Flow.Small t) := hts
  have HR : Hid (∀ g, obk a = some g → S g) := hrow
  have HS : Hid (∀ g, S g → g < w.heap.size) := hS
  have IN0 : Hid (SeaS w S B l) := h
  have HF : Hid (Flow.Fine l) := hf
  have LE : Hid (ts.length ≤ 16) := hlen
  clear hown hts hrow hS h hf hlen
  go_enter Tryz.func80, Tryz.ntmps80
  go_wp2
  go_loopw [4] (fun i' wr => ∃ (i : Nat) (l' : List Flow.Node), i ≤ l'.length ∧ i' = .int .i64 i ∧ Hid (l' = Flow.spreadTo ts l i) ∧ Hid (∀ j, j < i → j < (Flow.spreadTo ts l j).length) ∧ Hid (SeaS wr S B l') ∧ Hid (Kept S w wr)) (fun i' _ => 65536 - (intOf i').toNat)
  case atStart => exact ⟨0, l, by omega, rfl, rfl, fun j hj => by omega, IN0, Kept.refl _ _⟩
  case round =>
    clear IN0
    obtain ⟨i, l', hil, rfl, EL, HA, IN, HW⟩ := hrel
    have HS2 : Hid (∀ g, S g → g < wr.heap.size) := fun g hg => Nat.lt_of_lt_of_le (HS.out g hg) HW.out.size
    have FN : Hid (Flow.Fine l') := by rw [EL.out]; exact spreadTo_fine HT.out HF.out i
    have h65 := FN.out.size
    obtain ⟨aV, cV, A, x0, x1, zB, zA, _, _, hno⟩ := (IN.out.sea (base := 0) (fun k hk => by omega)).look
    clear x1 zA
    by_cases hlt : i < l'.length
    · obtain ⟨n, hn⟩ : ∃ n, l'[i]? = some n := ⟨_, List.getElem?_eq_getElem hlt⟩
      obtain ⟨gV, rfl, l1, d1, _, _⟩ := hno i n hn
      have hnm := FN.out.small i n hn
      have hI0 : (0 : Int) ≤ (i : Int) := by omega
      have hI1 : (i : Int) < (l'.length : Int) := by omega
      have c1 : Calls Tryz.prog 104 #[.pointer (some ⟨B, 0, none⟩), .slice a ts.length cap, .int .i64 n.mark, .int .i64 i] wr fun e w' => e = .returned (.tuple #[]) ∧ SeaS w' S B (Flow.seenTo ts n.mark i l' ts.length) ∧ Kept S wr w' := visitNext_any ts S a cap n.mark i base0 B l' wr hnm HT.out LE.out FN.out HS2.out HR.out (owns_kept OW.out HW.out HR.out) IN.out
      have E : Hid (Flow.seenTo ts n.mark i l' ts.length = Flow.spreadTo ts l (i + 1)) := by
        show _ = _
        rw [EL.out] at hn ⊢
        exact (spreadTo_at hn).symm
      have F2 : Hid (Flow.Fine (Flow.seenTo ts n.mark i l' ts.length)) := seenTo_fine HT.out hnm FN.out _
      have G : Hid (i + 1 ≤ (Flow.seenTo ts n.mark i l' ts.length).length) := by
        show _ ≤ _
        obtain ⟨r, hr⟩ := seenTo_ext ts n.mark i l' ts.length
        rw [hr, List.length_append]; omega
      have A2 : Hid (∀ j, j < i + 1 → j < (Flow.spreadTo ts l j).length) := by
        intro j hj
        by_cases e : j = i
        · subst e; rw [← EL.out]; exact hlt
        · exact HA.out j (by omega)
      have hl5 : (l'.length : Int) ≤ 65536 := by omega
      clear hno hn hnm h65 hil
      go_wp2_with (go_at_call 104; refine c1.mono ?_; rintro e w2 ⟨rfl, hin, hbel⟩; have IN3 : Hid (SeaS w2 S B (Flow.seenTo ts n.mark i l' ts.length)) := hin; have BL3 : Hid _ := hbel; clear hin hbel)
      all_goals go_roundw
      all_goals (first | (simp [intOf]; omega) | exact ⟨i + 1, _, G.out, by go_num, E, A2, IN3, HW.out.trans BL3.out⟩)
    · obtain rfl : i = l'.length := by omega
      clear hno
      go_wp2
      go_end0
      exact ⟨l', rfl, ⟨_, EL.out, rfl, HA.out⟩, FN.out, IN.out, HW.out⟩

/-- the rounds keep the order of first runs -/
theorem upto_seen {ts : List Flow.Tr} {m i : Nat} {n : Flow.Node} {l : List Flow.Node} (hts : ∀ t ∈ ts, Flow.Small t) (hlen : ts.length ≤ 16) (hn : l[i]? = some n) (h : Flow.Upto ts m l (i * 16 + 0)) : ∀ k, k ≤ ts.length → Flow.Upto ts m (Flow.seenTo ts n.mark i l k) (i * 16 + k) := by
  intro k
  induction k with
  | zero => intro _; exact h
  | succ k ih =>
    intro hk
    have U := ih (by omega)
    have hn' : (Flow.seenTo ts n.mark i l k)[i]? = some n := by
      obtain ⟨r, hr⟩ := seenTo_ext ts n.mark i l k
      rw [hr, List.getElem?_append_left (List.getElem?_eq_some_iff.1 hn).1]; exact hn
    show Flow.Upto ts m (Flow.seen1 ts n.mark i (Flow.seenTo ts n.mark i l k) k) (i * 16 + (k + 1))
    cases e : Flow.nextM ts n.mark k with
    | none =>
      rw [seen1_none e]
      exact U.pass (by omega) (fun n' m' h1 h2 => by rw [hn'] at h1; injection h1 with h1; subst h1; rw [e] at h2; cases h2)
    | some m' =>
      by_cases hne : atI (Flow.seenTo ts n.mark i l k) m' < 0
      · rw [seen1_new e hne]
        exact U.new (by omega) hn' e (nextM_lt hts (U.small i n hn') e) (fun q' nq hq' => atI_none.1 hne q' nq hq')
      · rw [seen1_old e hne]
        exact U.pass (by omega) (fun n' m'' h1 h2 => by
          rw [hn'] at h1; injection h1 with h1; subst h1; rw [e] at h2; injection h2 with h2; subst h2
          obtain ⟨nq, hq, hqm⟩ := atI_some (l := Flow.seenTo ts n.mark i l k) (m := m') (by omega)
          exact ⟨_, nq, hq, hqm⟩)
theorem upto_spread {ts : List Flow.Tr} {m : Nat} {l : List Flow.Node} (hts : ∀ t ∈ ts, Flow.Small t) (hlen : ts.length ≤ 16) (h : Flow.Upto ts m l 0) : ∀ i, (∀ j, j < i → j < (Flow.spreadTo ts l j).length) → Flow.Upto ts m (Flow.spreadTo ts l i) (i * 16 + 0) := by
  intro i
  induction i with
  | zero => intro _; exact h
  | succ i ih =>
    intro hall
    have U := ih (fun j hj => hall j (by omega))
    have hn := List.getElem?_eq_getElem (hall i (by omega))
    rw [spreadTo_at hn]
    exact (upto_seen hts hlen hn U ts.length (Nat.le_refl _)).row hlen
theorem bfs_spread {ts : List Flow.Tr} {m : Nat} {l' : List Flow.Node} (hts : ∀ t ∈ ts, Flow.Small t) (hlen : ts.length ≤ 16) (hm : m < 65536) (h : Flow.Spread ts [⟨m, -1, -1⟩] l') : Flow.Bfs ts m l' := by
  obtain ⟨i, e, hi, hall⟩ := h
  have := upto_spread hts hlen (Flow.Upto.start ts m hm) i hall
  rw [← e, hi] at this
  exact this

set_option maxHeartbeats 4000000 in
/-- the whole of explore -/
theorem exploreS_any (ts : List Flow.Tr) (a : Option Addr) (cap m base : Nat) (w : World) (hm : m < 65536) (hts : ∀ t ∈ ts, Flow.Small t) (hlen : ts.length ≤ 16)
    (hown : w.ownsRow base 93 3 (.slice a ts.length cap) ts.length (cellsF ts)) :
    Calls Tryz.prog 41 #[.slice a ts.length cap, .int .i64 m] w fun e w' => ∃ aV cV A l arr, e = .returned (.agg (seaC aV l.length cV A)) ∧ Flow.Spread ts [⟨m, -1, -1⟩] l ∧ Flow.Fine l ∧ SeaRows w' w.heap.size A l aV cV arr ∧ Below w.heap.size w w' := by
  obtain ⟨MC, hMC, hcell, hmk⟩ := makeO_at w
  have OW : Hid (w.ownsRow base 93 3 (.slice a ts.length cap) ts.length (cellsF ts)) := hown
  have HT : Hid (∀ t ∈ ts, Flow.Small t) := hts
  have HM : Hid (m < 65536) := hm
  have HC : Hid (∀ m, m < 65536 → MC[m]? = some (.bool false)) := hcell
  have HS : Hid (MC.size = 65536) := hMC
  have LE : Hid (ts.length ≤ 16) := hlen
  clear hown hts hm hcell hMC hlen
  have W0 : Hid (SeaS (((w.alloc (.cells #[.slice none 0 0, .slice none 0 0] 79)).alloc (.cells MC 4)).alloc (.cells #[.slice none 0 0, .slice (some ⟨w.heap.size + 1, 0, none⟩) 65536 65536] 79)) (fun g => g < w.heap.size + 1) (w.heap.size + 1 + 1) []) := by
    refine ⟨none, 0, w.heap.size + 1, MC, by omega, by omega, by simp [obk], by omega, by simp [obk], Blk.new_at (by simp) _ _, by omega, World.ownsRow_nil _ _ _ _, (Blk.new_at (by simp) _ _).alloc _, HS.out, by simp [obk], ?_⟩
    intro j hj; rw [HC.out j hj]; rfl
  have B0 : Hid (Blk (((w.alloc (.cells #[.slice none 0 0, .slice none 0 0] 79)).alloc (.cells MC 4)).alloc (.cells #[.slice none 0 0, .slice (some ⟨w.heap.size + 1, 0, none⟩) 65536 65536] 79)) w.heap.size #[.slice none 0 0, .slice none 0 0] 79) := ((Blk.new w _ _).alloc _).alloc _
  have HW : Hid (Below w.heap.size w (((w.alloc (.cells #[.slice none 0 0, .slice none 0 0] 79)).alloc (.cells MC 4)).alloc (.cells #[.slice none 0 0, .slice (some ⟨w.heap.size + 1, 0, none⟩) 65536 65536] 79))) := (((Below.refl _ _).alloc (Nat.le_refl _) _).alloc (by simp) _).alloc (by simp; omega) _
  have Z0 : Hid (∀ g, g < w.heap.size + 1 → g < (((w.alloc (.cells #[.slice none 0 0, .slice none 0 0] 79)).alloc (.cells MC 4)).alloc (.cells #[.slice none 0 0, .slice (some ⟨w.heap.size + 1, 0, none⟩) 65536 65536] 79)).heap.size) := by intro g hg; simp; omega
  have FS : Hid (Flow.Fine [⟨m, -1, -1⟩]) := Flow.Fine.nil.snoc (n := ⟨m, -1, -1⟩) HM.out (by simp [atI])
  go_enter Tryz.func41, Tryz.ntmps41
  go_wp2_with (first
    | (go_at_call 79; refine (visit_new [] (fun g => g < w.heap.size + 1) ⟨m, -1, -1⟩ 0 0 _ _ rfl rfl (by simp) HM.out (by simp [atI]) Z0.out W0.out).mono ?_; rintro e w1 ⟨rfl, hin, hbel⟩; have IN : Hid (SeaS w1 (fun g => g < w.heap.size + 1) (w.heap.size + 1 + 1) [⟨m, -1, -1⟩]) := hin; have BL : Hid (Below (w.heap.size + 1) _ w1) := hbel.below (fun k hk => hk); have HW1 : Hid (Below w.heap.size w w1) := HW.out.trans (BL.out.mono (by omega)); have Z1 : Hid (∀ g, g < w.heap.size + 1 → g < w1.heap.size) := (fun g hg => Nat.lt_of_lt_of_le (Z0.out g hg) BL.out.size); clear hin hbel)
    | (go_at_call 80; refine (spread_any ts (fun g => g < w.heap.size + 1) a cap base _ [⟨m, -1, -1⟩] w1 HT.out LE.out FS.out Z1.out (fun g hg => Nat.lt_succ_of_lt (owns_lt OW.out hg).2) (owns_below OW.out HW1.out (Nat.le_refl _)) IN.out).mono ?_; rintro e w2 ⟨l, rfl, hsp, hfi, hin, hbel⟩; have SP : Hid (Flow.Spread ts [⟨m, -1, -1⟩] l) := hsp; have FI : Hid (Flow.Fine l) := hfi; have IN2 : Hid (SeaS w2 (fun g => g < w.heap.size + 1) (w.heap.size + 1 + 1) l) := hin; have BL2 : Hid (Below (w.heap.size + 1) w1 w2) := hbel.below (fun k hk => hk); obtain ⟨aV, cV, A, arr, _, _, hap, hblk, hrows⟩ := hin.sea (base := w.heap.size + 1) (fun k hk => hk); have x0 : w2.cell? ⟨w.heap.size + 1 + 1, 0, none⟩ = some (.slice aV l.length cV) := hblk.cell 0; have x1 : w2.cell? ⟨w.heap.size + 1 + 1, 1, none⟩ = some (.slice (some ⟨A, 0, none⟩) 65536 65536) := hblk.cell 1; have hb0 : Blk w2 w.heap.size #[.slice none 0 0, .slice none 0 0] 79 := (B0.out.below BL.out (by omega)).below BL2.out (by omega); have r0 : w2.cell? ⟨w.heap.size, 0, none⟩ = some (.slice none 0 0) := hb0.cell 0; have r1 : w2.cell? ⟨w.heap.size, 1, none⟩ = some (.slice none 0 0) := hb0.cell 1; have y0 := hb0.froz 0; have y1 := hb0.froz 1; have z0 := hb0.lt; have zB := hblk.lt; have RW : Hid (SeaRows w2 (w.heap.size + 1) A l aV cV arr) := hrows; have HW2 : Hid (Below w.heap.size w w2) := HW1.out.trans (BL2.out.mono (by omega)); clear hsp hfi hin hbel hrows hblk hb0))
  exact bodyPost_ret (v := .agg (seaC aV l.length cV A)) (by simp [results, Tryz.results41, go_sem, r0, r1]) rfl ⟨aV, cV, A, l, arr, rfl, SP.out, FI.out, ((RW.out.farR (by omega) 0 _).farR (by omega) 1 _).lower (by omega), (HW2.out.setCell (p := ⟨w.heap.size, 0, none⟩) (Nat.le_refl _) _).setCell (p := ⟨w.heap.size, 1, none⟩) (Nat.le_refl _) _⟩
theorem explore_any (ts : List Flow.Tr) (a : Option Addr) (cap m base : Nat) (w : World) (hm : m < 65536) (hts : ∀ t ∈ ts, Flow.Small t) (hlen : ts.length ≤ 16)
    (hown : w.ownsRow base 93 3 (.slice a ts.length cap) ts.length (cellsF ts)) :
    Calls Tryz.prog 41 #[.slice a ts.length cap, .int .i64 m] w (ExpPost ts m w) := by
  refine (exploreS_any ts a cap m base w hm hts hlen hown).mono ?_
  rintro e w' ⟨aV, cV, A, l, arr, rfl, h1, h2, h3, h4⟩
  exact ⟨aV, cV, A, l, arr, rfl, bfs_spread hts hlen hm h1, h3, h4⟩
end Go.Proofs.YtdlldljgogbiaabGreat
