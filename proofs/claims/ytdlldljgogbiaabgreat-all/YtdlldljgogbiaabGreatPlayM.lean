/-
  Laid as one: LabF, StepOn, PlyF, PlTop.
-/
import Derived.Test.YtdlldljgogbiaabGreatRunF
import Derived.Test.YtdlldljgogbiaabGreatWordM
import Derived.RegionTactic
import Derived.BigRegion
import Derived.Test.YtdlldljgogbiaabGreatStepM
import Derived.Test.YtdlldljgogbiaabGreatNetN
import Derived.Test.YtdlldljgogbiaabGreatScanM
namespace Go.Proofs.YtdlldljgogbiaabGreat
open Go.RowKit
set_option linter.unusedVariables false
set_option maxRecDepth 20000

/-- the transitions that have the label c -/
def Flow.labelled (ts : List Flow.Tr) (c : Nat) : List Flow.Tr := ts.filter fun t => t.label == c
theorem labelled_snoc {ts : List Flow.Tr} {k c : Nat} {t : Flow.Tr} (h : ts[k]? = some t) : Flow.labelled (ts.take (k + 1)) c = if t.label = c then Flow.labelled (ts.take k) c ++ [t] else Flow.labelled (ts.take k) c := by
  rw [List.take_add_one, h]
  unfold Flow.labelled
  rw [List.filter_append]
  by_cases e : t.label = c
  · rw [if_pos e]; simp [e]
  · rw [if_neg e]; simp [e]
theorem labelled_le (ts : List Flow.Tr) (c : Nat) : (Flow.labelled ts c).length ≤ ts.length := List.length_filter_le _ _
theorem labelled_small {ts : List Flow.Tr} (c : Nat) (h : ∀ t ∈ ts, Flow.Small t) : ∀ t ∈ Flow.labelled ts c, Flow.Small t := fun t ht => h t (List.mem_filter.1 ht).1
theorem nextM_mem {ts : List Flow.Tr} {m m' : Nat} : (∃ j, Flow.nextM ts m j = some m') ↔ ∃ t ∈ ts, Flow.fireErr t m = 0 ∧ Flow.after t m = m' := by
  constructor
  · rintro ⟨j, hj⟩
    cases e : ts[j]? with
    | none => unfold Flow.nextM at hj; rw [e] at hj; cases hj
    | some t =>
      rw [nextM_at e] at hj
      by_cases f : Flow.fireErr t m = 0
      · rw [if_pos f] at hj; injection hj with hj; exact ⟨t, List.mem_of_getElem? e, f, hj⟩
      · rw [if_neg f] at hj; cases hj
  · rintro ⟨t, ht, f, e⟩
    obtain ⟨j, hj⟩ := List.mem_iff_getElem?.1 ht
    exact ⟨j, by rw [nextM_at hj, if_pos f, e]⟩
theorem labelled_next {ts : List Flow.Tr} {c m m' : Nat} : (∃ j, Flow.nextM (Flow.labelled ts c) m j = some m') ↔ ∃ (k : Nat) (t : Flow.Tr), ts[k]? = some t ∧ t.label = c ∧ Flow.nextM ts m k = some m' := by
  rw [nextM_mem]
  constructor
  · rintro ⟨t, ht, f, e⟩
    obtain ⟨h1, h2⟩ := List.mem_filter.1 ht
    obtain ⟨k, hk⟩ := List.mem_iff_getElem?.1 h1
    exact ⟨k, t, hk, by simpa using h2, by rw [nextM_at hk, if_pos f, e]⟩
  · rintro ⟨k, t, hk, hc, hn⟩
    rw [nextM_at hk] at hn
    by_cases f : Flow.fireErr t m = 0
    · rw [if_pos f] at hn; injection hn with hn
      exact ⟨t, List.mem_filter.2 ⟨List.mem_of_getElem? hk, by simpa using hc⟩, f, hn⟩
    · rw [if_neg f] at hn; cases hn
theorem labF_at {ts : List Flow.Tr} {k : Nat} {t : Flow.Tr} (h : ts[k]? = some t) : Flow.lab ts k = if t.label = 45 then none else some t.label := by unfold Flow.lab; rw [h]
theorem labelled_quiet {ts : List Flow.Tr} {m m' : Nat} : (∃ j, Flow.nextM (Flow.labelled ts 45) m j = some m') ↔ ∃ k, Flow.nextM ts m k = some m' ∧ Flow.lab ts k = none := by
  rw [labelled_next]
  constructor
  · rintro ⟨k, t, hk, hc, hn⟩
    exact ⟨k, hn, by rw [labF_at hk, if_pos hc]⟩
  · rintro ⟨k, hn, hl⟩
    cases e : ts[k]? with
    | none => unfold Flow.nextM at hn; rw [e] at hn; cases hn
    | some t =>
      rw [labF_at e] at hl
      by_cases f : t.label = 45
      · exact ⟨k, t, e, f, hn⟩
      · rw [if_neg f] at hl; cases hl
theorem labelled_loud {ts : List Flow.Tr} {m m' c : Nat} (hc : c ≠ 45) : (∃ j, Flow.nextM (Flow.labelled ts c) m j = some m') ↔ ∃ k, Flow.nextM ts m k = some m' ∧ Flow.lab ts k = some c := by
  rw [labelled_next]
  constructor
  · rintro ⟨k, t, hk, h, hn⟩
    exact ⟨k, hn, by rw [labF_at hk, if_neg (by omega), h]⟩
  · rintro ⟨k, hn, hl⟩
    cases e : ts[k]? with
    | none => unfold Flow.nextM at hn; rw [e] at hn; cases hn
    | some t =>
      rw [labF_at e] at hl
      by_cases f : t.label = 45
      · rw [if_pos f] at hl; cases hl
      · rw [if_neg f] at hl; injection hl with hl; exact ⟨k, t, e, hl, hn⟩
theorem goes_quiet {ts : List Flow.Tr} {m : Nat} : ∀ {m0 : Nat}, (∃ ks, Flow.goes (Flow.labelled ts 45) m0 ks = some m) ↔ ∃ ks, Flow.goes ts m0 ks = some m ∧ Flow.spelt ts ks = [] := by
  intro m0
  constructor
  · rintro ⟨ks, h⟩
    induction ks generalizing m0 with
    | nil => exact ⟨[], h, rfl⟩
    | cons j ks ih =>
      unfold Flow.goes at h
      cases e : Flow.nextM (Flow.labelled ts 45) m0 j with
      | none => rw [e] at h; cases h
      | some m1 =>
        rw [e] at h
        obtain ⟨k, h1, h2⟩ := labelled_quiet.1 ⟨j, e⟩
        obtain ⟨ks', h3, h4⟩ := ih h
        refine ⟨k :: ks', by unfold Flow.goes; rw [h1]; exact h3, ?_⟩
        unfold Flow.spelt at h4 ⊢
        rw [List.filterMap_cons, h2]; exact h4
  · rintro ⟨ks, h, hs⟩
    induction ks generalizing m0 with
    | nil => exact ⟨[], h⟩
    | cons k ks ih =>
      unfold Flow.goes at h
      cases e : Flow.nextM ts m0 k with
      | none => rw [e] at h; cases h
      | some m1 =>
        rw [e] at h
        unfold Flow.spelt at hs
        cases el : Flow.lab ts k with
        | some c => rw [List.filterMap_cons, el] at hs; cases hs
        | none =>
          rw [List.filterMap_cons, el] at hs
          obtain ⟨j, h1⟩ := labelled_quiet.2 ⟨k, e, el⟩
          obtain ⟨ks', h2⟩ := ih h hs
          exact ⟨j :: ks', by unfold Flow.goes; rw [h1]; exact h2⟩

/-- the markings of a list -/
def Flow.marks (l : List Flow.Node) : List Nat := l.map Flow.Node.mark
theorem marks_get {l : List Flow.Node} {m : Nat} : m ∈ Flow.marks l ↔ ∃ (j : Nat) (n : Flow.Node), l[j]? = some n ∧ n.mark = m := by
  unfold Flow.marks
  constructor
  · intro h
    obtain ⟨n, hn, e⟩ := List.mem_map.1 h
    obtain ⟨j, hj⟩ := List.mem_iff_getElem?.1 hn
    exact ⟨j, n, hj, e⟩
  · rintro ⟨j, n, h1, h2⟩
    exact List.mem_map.2 ⟨n, List.mem_of_getElem? h1, h2⟩
theorem marks_at {l : List Flow.Node} {m : Nat} : 0 ≤ atI l m ↔ m ∈ Flow.marks l := by
  rw [marks_get]
  constructor
  · intro h
    obtain ⟨n, h1, h2⟩ := atI_some h
    exact ⟨_, n, h1, h2⟩
  · rintro ⟨j, x, h1, h2⟩
    rcases Int.lt_or_le (atI l m) 0 with g | g
    · exact absurd h2 (atI_none.1 g j x h1)
    · exact g
theorem seen1_mem (ts : List Flow.Tr) (q p k : Nat) (l : List Flow.Node) (m : Nat) : m ∈ Flow.marks (Flow.seen1 ts q p l k) ↔ m ∈ Flow.marks l ∨ Flow.nextM ts q k = some m := by
  cases e : Flow.nextM ts q k with
  | none => rw [seen1_none e]; simp
  | some m' =>
    by_cases hn : atI l m' < 0
    · rw [seen1_new e hn]
      unfold Flow.marks
      simp only [List.map_append, List.map_cons, List.map_nil, List.mem_append, List.mem_singleton, Option.some.injEq]
      constructor
      · rintro (h | h)
        · exact .inl h
        · exact .inr h.symm
      · rintro (h | h)
        · exact .inl h
        · exact .inr h.symm
    · rw [seen1_old e hn]
      constructor
      · exact .inl
      · rintro (h | h)
        · exact h
        · injection h with h; subst h; exact marks_at.1 (by omega)
theorem seenTo_mem (ts : List Flow.Tr) (q p : Nat) (l : List Flow.Node) (K m : Nat) : m ∈ Flow.marks (Flow.seenTo ts q p l K) ↔ m ∈ Flow.marks l ∨ ∃ k, k < K ∧ Flow.nextM ts q k = some m := by
  induction K with
  | zero => simp [Flow.seenTo]
  | succ K ih =>
    show m ∈ Flow.marks (Flow.seen1 ts q p (Flow.seenTo ts q p l K) K) ↔ _
    rw [seen1_mem, ih]
    constructor
    · rintro ((h | ⟨k, h1, h2⟩) | h)
      · exact .inl h
      · exact .inr ⟨k, by omega, h2⟩
      · exact .inr ⟨K, by omega, h⟩
    · rintro (h | ⟨k, h1, h2⟩)
      · exact .inl (.inl h)
      · by_cases e : k = K
        · subst e; exact .inr h2
        · exact .inl (.inr ⟨k, by omega, h2⟩)
theorem next_short {ts : List Flow.Tr} {q k m : Nat} (h : Flow.nextM ts q k = some m) : k < ts.length := by
  rcases Nat.lt_or_ge k ts.length with g | g
  · exact g
  · unfold Flow.nextM at h; rw [List.getElem?_eq_none g] at h; cases h
theorem seenAll_mem (ts : List Flow.Tr) (q p : Nat) (l : List Flow.Node) (m : Nat) : m ∈ Flow.marks (Flow.seenTo ts q p l ts.length) ↔ m ∈ Flow.marks l ∨ ∃ k, Flow.nextM ts q k = some m := by
  rw [seenTo_mem]
  constructor
  · rintro (h | ⟨k, _, h⟩)
    · exact .inl h
    · exact .inr ⟨k, h⟩
  · rintro (h | ⟨k, h⟩)
    · exact .inl h
    · exact .inr ⟨k, next_short h, h⟩
theorem spreadTo_facts (ts : List Flow.Tr) (l : List Flow.Node) (i : Nat) :
    (∃ r, Flow.spreadTo ts l i = l ++ r) ∧ (∀ m ∈ Flow.marks (Flow.spreadTo ts l i), ∃ m0 ∈ Flow.marks l, ∃ ks, Flow.goes ts m0 ks = some m) ∧
    (∀ (j k m' : Nat) (n : Flow.Node), j < i → (Flow.spreadTo ts l i)[j]? = some n → Flow.nextM ts n.mark k = some m' → m' ∈ Flow.marks (Flow.spreadTo ts l i)) := by
  induction i with
  | zero => exact ⟨⟨[], (List.append_nil _).symm⟩, fun m hm => ⟨m, hm, [], rfl⟩, fun j k m' n hj => by omega⟩
  | succ i ih =>
    obtain ⟨⟨r, hr⟩, h2, h3⟩ := ih
    cases e : (Flow.spreadTo ts l i)[i]? with
    | none =>
      have E : Flow.spreadTo ts l (i + 1) = Flow.spreadTo ts l i := by
        show (match (Flow.spreadTo ts l i)[i]? with | none => _ | some n => _) = _
        rw [e]
      rw [E]
      refine ⟨⟨r, hr⟩, h2, ?_⟩
      intro j k m' n hj hn hx
      by_cases ej : j = i
      · subst ej; rw [e] at hn; cases hn
      · exact h3 j k m' n (by omega) hn hx
    | some n0 =>
      rw [spreadTo_at e]
      obtain ⟨r2, hr2⟩ := seenTo_ext ts n0.mark i (Flow.spreadTo ts l i) ts.length
      refine ⟨⟨r ++ r2, by rw [hr2, hr, List.append_assoc]⟩, ?_, ?_⟩
      · intro m hm
        rcases (seenAll_mem ts n0.mark i _ m).1 hm with hm | ⟨k, hk⟩
        · exact h2 m hm
        · obtain ⟨m0, h0, ks, h4⟩ := h2 n0.mark (marks_get.2 ⟨i, n0, e, rfl⟩)
          exact ⟨m0, h0, ks ++ [k], by rw [Flow.goes_snoc, h4]; exact hk⟩
      · intro j k m' n hj hn hx
        refine (seenAll_mem ts n0.mark i _ m').2 ?_
        have hil := (List.getElem?_eq_some_iff.1 e).1
        rw [hr2, List.getElem?_append_left (by omega)] at hn
        by_cases ej : j = i
        · subst ej; rw [e] at hn; injection hn with hn; subst hn; exact .inr ⟨k, hx⟩
        · exact .inl (h3 j k m' n (by omega) hn hx)
/-- spread comes to just what steps come to -/
theorem spread_mem {ts : List Flow.Tr} {l l' : List Flow.Node} (h : Flow.Spread ts l l') (m : Nat) : m ∈ Flow.marks l' ↔ ∃ m0 ∈ Flow.marks l, ∃ ks, Flow.goes ts m0 ks = some m := by
  obtain ⟨i, e, hi, _⟩ := h
  obtain ⟨⟨r, hr⟩, h2, h3⟩ := spreadTo_facts ts l i
  rw [← e] at hr h2 h3
  constructor
  · exact h2 m
  · rintro ⟨m0, h0, ks, hk⟩
    have h0' : m0 ∈ Flow.marks l' := by rw [hr]; unfold Flow.marks; rw [List.map_append]; exact List.mem_append_left _ h0
    clear h0
    induction ks generalizing m0 with
    | nil => have : m0 = m := by simpa [Flow.goes] using hk
             rw [← this]; exact h0'
    | cons k ks ih =>
      unfold Flow.goes at hk
      cases e1 : Flow.nextM ts m0 k with
      | none => rw [e1] at hk; cases hk
      | some m1 =>
        rw [e1] at hk
        obtain ⟨j, n, hj, hm⟩ := marks_get.1 h0'
        subst hm
        exact ih m1 hk (h3 j k m1 n (by rw [hi]; exact (List.getElem?_eq_some_iff.1 hj).1) hj e1)
/-- the first rounds of stepOn -/
def Flow.stepTo (ts : List Flow.Tr) (lb : List Flow.Node) : Nat → List Flow.Node
  | 0 => []
  | i + 1 => match lb[i]? with
    | none => Flow.stepTo ts lb i
    | some n => Flow.seenTo ts n.mark 0 (Flow.stepTo ts lb i) ts.length
theorem stepTo_at {ts : List Flow.Tr} {lb : List Flow.Node} {i : Nat} {n : Flow.Node} (h : lb[i]? = some n) : Flow.stepTo ts lb (i + 1) = Flow.seenTo ts n.mark 0 (Flow.stepTo ts lb i) ts.length := by
  show (match lb[i]? with | none => _ | some n => _) = _
  rw [h]
theorem stepTo_fine {ts : List Flow.Tr} {lb : List Flow.Node} (hts : ∀ t ∈ ts, Flow.Small t) (h : Flow.Fine lb) (i : Nat) : Flow.Fine (Flow.stepTo ts lb i) := by
  induction i with
  | zero => exact Flow.Fine.nil
  | succ i ih =>
    cases e : lb[i]? with
    | none => show Flow.Fine (match lb[i]? with | none => _ | some n => _); rw [e]; exact ih
    | some n => rw [stepTo_at e]; exact seenTo_fine hts (h.small i n e) ih _
theorem stepTo_mem (ts : List Flow.Tr) (lb : List Flow.Node) (i m : Nat) : m ∈ Flow.marks (Flow.stepTo ts lb i) ↔ ∃ (j k : Nat) (n : Flow.Node), j < i ∧ lb[j]? = some n ∧ Flow.nextM ts n.mark k = some m := by
  induction i with
  | zero =>
    constructor
    · intro h; cases h
    · rintro ⟨j, k, n, hj, _⟩; omega
  | succ i ih =>
    cases e : lb[i]? with
    | none =>
      have E : Flow.stepTo ts lb (i + 1) = Flow.stepTo ts lb i := by
        show (match lb[i]? with | none => _ | some n => _) = _
        rw [e]
      rw [E, ih]
      constructor
      · rintro ⟨j, k, n, h1, h2⟩; exact ⟨j, k, n, by omega, h2⟩
      · rintro ⟨j, k, n, h1, h2, h3⟩
        by_cases ej : j = i
        · subst ej; rw [e] at h2; cases h2
        · exact ⟨j, k, n, by omega, h2, h3⟩
    | some n0 =>
      rw [stepTo_at e, seenAll_mem, ih]
      constructor
      · rintro (⟨j, k, n, h1, h2⟩ | ⟨k, hk⟩)
        · exact ⟨j, k, n, by omega, h2⟩
        · exact ⟨i, k, n0, by omega, e, hk⟩
      · rintro ⟨j, k, n, h1, h2, h3⟩
        by_cases ej : j = i
        · subst ej; rw [e] at h2; injection h2 with h2; subst h2; exact .inr ⟨k, h3⟩
        · exact .inl ⟨j, k, n, by omega, h2, h3⟩
theorem stepAll_mem (ts : List Flow.Tr) (lb : List Flow.Node) (m : Nat) : m ∈ Flow.marks (Flow.stepTo ts lb lb.length) ↔ ∃ m0 ∈ Flow.marks lb, ∃ k, Flow.nextM ts m0 k = some m := by
  rw [stepTo_mem]
  constructor
  · rintro ⟨j, k, n, _, h2, h3⟩; exact ⟨n.mark, marks_get.2 ⟨j, n, h2, rfl⟩, k, h3⟩
  · rintro ⟨m0, h0, k, hk⟩
    obtain ⟨j, n, hj, rfl⟩ := marks_get.1 h0
    exact ⟨j, k, n, (List.getElem?_eq_some_iff.1 hj).1, hj, hk⟩

/-- the first letters of a word: what playsWord holds -/
theorem plays_first {ts : List Flow.Tr} {m0 : Nat} {l : List Flow.Node} (h : Flow.Spread (Flow.labelled ts 45) [⟨m0, -1, -1⟩] l) (m : Nat) : m ∈ Flow.marks l ↔ Flow.Spells ts m0 [] m := by
  rw [spread_mem h]
  constructor
  · rintro ⟨m1, h1, hg⟩
    have : m1 = m0 := by simpa [Flow.marks] using h1
    subst this
    exact goes_quiet.1 hg
  · intro hg
    exact ⟨m0, by simp [Flow.marks], goes_quiet.2 hg⟩
theorem plays_next {ts : List Flow.Tr} {m0 c : Nat} {u : List Nat} {l l' : List Flow.Node} (hc : c ≠ 45) (h : ∀ m, m ∈ Flow.marks l ↔ Flow.Spells ts m0 u m) (hs : Flow.Spread (Flow.labelled ts 45) (Flow.stepTo (Flow.labelled ts c) l l.length) l') (m : Nat) : m ∈ Flow.marks l' ↔ Flow.Spells ts m0 (u ++ [c]) m := by
  refine spells_next (l := Flow.marks l) (out := Flow.marks (Flow.stepTo (Flow.labelled ts c) l l.length)) (l' := Flow.marks l') h ?_ ?_ m
  · intro m'
    rw [stepAll_mem]
    constructor
    · rintro ⟨m1, h1, hk⟩
      obtain ⟨k, h2, h3⟩ := (labelled_loud hc).1 hk
      exact ⟨m1, k, h1, h2, h3⟩
    · rintro ⟨m1, k, h1, h2, h3⟩
      exact ⟨m1, h1, (labelled_loud hc).2 ⟨k, h2, h3⟩⟩
  · intro m'
    rw [spread_mem hs]
    constructor
    · rintro ⟨m1, h1, hg⟩
      obtain ⟨ks, h2, h3⟩ := goes_quiet.1 hg
      exact ⟨m1, h1, ks, h2, h3⟩
    · rintro ⟨m1, h1, ks, h2, h3⟩
      exact ⟨m1, h1, goes_quiet.2 ⟨ks, h2, h3⟩⟩

set_option maxHeartbeats 1000000 in
theorem labelled_any (ts : List Flow.Tr) (a : Option Addr) (cap base c : Nat) (w : World) (hlen : ts.length ≤ 16) (hown : w.ownsRow base 93 3 (.slice a ts.length cap) ts.length (cellsF ts)) :
    Calls Tryz.prog 86 #[.slice a ts.length cap, .int .u8 c] w fun e w' => ∃ a' cap', e = .returned (.slice a' (Flow.labelled ts c).length cap') ∧ w'.ownsRow w.heap.size 93 3 (.slice a' (Flow.labelled ts c).length cap') (Flow.labelled ts c).length (cellsF (Flow.labelled ts c)) ∧ Below w.heap.size w w' := by
  obtain ⟨i0, hi, hz0, hz1, hz2⟩ := info_parts Tryz.infoF
  have OW : Hid (w.ownsRow base 93 3 (.slice a ts.length cap) ts.length (cellsF ts)) := hown
  clear hown
  go_enter Tryz.func86, Tryz.ntmps86
  go_wp2
  go_loopw [5, 6] (fun s' k' wr => ∃ (k : Nat) (L : List Flow.Tr) (a' : Option Addr) (cap' : Nat), k ≤ ts.length ∧ k' = .int .i64 k ∧ L.length ≤ k ∧ s' = .slice a' L.length cap' ∧ Hid (L = Flow.labelled (ts.take k) c) ∧ Hid (wr.ownsRow w.heap.size 93 3 (.slice a' L.length cap') L.length (cellsF L)) ∧ Hid (Below w.heap.size w wr)) (fun _ k' _ => ts.length - (intOf k').toNat)
  case atStart => exact ⟨0, [], none, 0, by omega, rfl, by simp, rfl, rfl, World.ownsRow_nil _ _ _ _, Below.refl _ _⟩
  case round =>
    obtain ⟨k, L, a', cap', hk, rfl, hL, rfl, EL, HO, HW⟩ := hrel
    have hwb := HW.out.size
    by_cases hlt : k < ts.length
    · obtain ⟨t, ht⟩ : ∃ t, ts[k]? = some t := ⟨_, List.getElem?_eq_getElem hlt⟩
      have ow2 := owns_below OW.out HW.out (Nat.le_refl _)
      obtain ⟨g, capx, hv, _, hg2⟩ := ow2.form (by omega)
      injection hv with hv1 _ hv3
      subst hv1 hv3
      have t0 := ow2.cellAt (k * 3) (by omega)
      have t1 := ow2.cellAt (k * 3 + 1) (by omega)
      have t2 := ow2.cellAt (k * 3 + 2) (by omega)
      obtain ⟨f0, f1, f2⟩ := cellsF_get ht
      rw [f0] at t0
      rw [f1] at t1
      rw [f2] at t2
      have S := labelled_snoc (c := c) ht
      have hI0 : (0 : Int) ≤ (k : Int) := by omega
      have hI1 : (k : Int) < (ts.length : Int) := by omega
      clear ow2 f0 f1 f2 ht
      by_cases e : t.label = c
      · rw [if_pos e] at S
        have S' : Hid (Flow.labelled (ts.take (k + 1)) c = Flow.labelled (ts.take k) c ++ [t]) := S
        have te : ((t.label : Int) == (c : Int)) = true := by simp; omega
        clear S e
        go_wp2_with (at_builtin; go_must (refine wpList_append_lies _ rfl _ _ 57 rfl w.heap.size 93 i0 (.agg #[.int .u8 0, .int .i64 0, .int .i64 0]) 3 24 Tryz.underlying57 hi hz0 hz1 hz2 rfl (by decide) (.slice a' L.length cap') _ _ rfl (HO.out.alloc _) ⟨wr.heap.size, 0, none⟩ 1 1 [.int .u8 t.label, .int .i64 t.inn, .int .i64 t.out] rfl rfl (cell_three_at _ _ (by simp) _ _ _ _) (fun x hx => by simp at hx; rcases hx with rfl | rfl | rfl <;> rfl) (by decide) (by unfold maxLen; omega) (by omega) (by simp; omega) _ rfl ?_; intro g1 c1 w1 own1 gr1 at1 lt1; have O3 : Hid (w1.ownsRow w.heap.size 93 3 (.slice (some ⟨g1, 0, none⟩) (L.length + 1) c1) (L.length + 1) (cellsF L ++ [.int .u8 t.label, .int .i64 t.inn, .int .i64 t.out])) := own1; have B3 : Hid (Below w.heap.size w w1) := (HW.out.alloc hwb _).grown gr1 (by simp; omega) (fun i hi => (HO.out.lt _ hi).1); clear gr1 own1 at1 lt1))
        go_roundw
        case rel =>
          refine ⟨k + 1, L ++ [t], some ⟨g1, 0, none⟩, c1, by omega, by go_num, by simp; omega, by simp, ?_, ?_, B3⟩
          · show _ = _; rw [S'.out, EL.out]
          · show World.ownsRow _ _ _ _ _ _ _; rw [cellsF_snoc, List.length_append]; exact O3.out
        case measure => simp [intOf]; omega
      · rw [if_neg e] at S
        have S' : Hid (Flow.labelled (ts.take (k + 1)) c = Flow.labelled (ts.take k) c) := S
        have te : ((t.label : Int) == (c : Int)) = false := by simp; omega
        clear S e
        go_wp2
        go_roundw
        case rel => exact ⟨k + 1, L, a', cap', by omega, by go_num, by omega, rfl, by show _ = _; rw [S'.out, EL.out], HO, HW⟩
        case measure => simp [intOf]; omega
    · obtain rfl : k = ts.length := by omega
      have E : Hid (L = Flow.labelled ts c) := by show _ = _; rw [EL.out, List.take_length]
      go_wp2
      go_ret
      have o := HO.out
      refine ⟨a', cap', ?_, ?_, HW.out⟩
      · rw [← E.out]; rfl
      · rw [← E.out]; exact o
end Go.Proofs.YtdlldljgogbiaabGreat
namespace Go.Proofs.YtdlldljgogbiaabGreat
open Go.RowKit
set_option linter.unusedVariables false
set_option maxRecDepth 40000

theorem has_raw (B A m : Nat) (b : Bool) (w : World) (hm : m < 65536) (x1 : w.cell? ⟨B, 1, none⟩ = some (.slice (some ⟨A, 0, none⟩) 65536 65536)) (xa : w.cell? ⟨A, m, none⟩ = some (.bool b)) (zB : B < w.heap.size) (zA : A < w.heap.size) :
    Calls Tryz.prog 88 #[.pointer (some ⟨B, 0, none⟩), .int .i64 m] w fun e w' => e = .returned (.bool b) ∧ w = w' := by
  have hI0 : (0 : Int) ≤ (m : Int) := by omega
  have hI1 : (m : Int) < 65536 := by omega
  have d1 : decide ((0 : Int) ≤ (m : Int)) = true := decide_eq_true (by omega)
  have d2 : decide ((m : Int) < 65536) = true := decide_eq_true (by omega)
  clear hm
  go_enter Tryz.func88, Tryz.ntmps88
  go_wp2
  go_ret
  exact ⟨rfl, rfl⟩

theorem word_drop {l : List Flow.Node} {i : Nat} {n : Flow.Node} (h : l[i]? = some n) : l.drop i = n :: l.drop (i + 1) := by
  have hl := (List.getElem?_eq_some_iff.1 h).1
  rw [List.drop_eq_getElem_cons hl]
  have : l[i] = n := by rw [List.getElem?_eq_getElem hl] at h; injection h
  rw [this]
theorem drop_on {l : List Flow.Node} {i : Nat} {n : Flow.Node} (h : l[i]? = some n) : 0 ≤ atI (l.drop i) n.mark := by
  rw [word_drop h]; unfold atI; rw [if_pos rfl]; omega
theorem drop_next {l : List Flow.Node} {i m : Nat} {n : Flow.Node} (h : l[i]? = some n) (hm : n.mark ≠ m) : (0 ≤ atI (l.drop i) m) ↔ 0 ≤ atI (l.drop (i + 1)) m := by
  rw [word_drop h]
  show 0 ≤ (if n.mark = m then (0 : Int) else if atI (l.drop (i + 1)) m < 0 then -1 else atI (l.drop (i + 1)) m + 1) ↔ _
  rw [if_neg hm]
  by_cases g : atI (l.drop (i + 1)) m < 0
  · rw [if_pos g]; omega
  · rw [if_neg g]; omega
theorem drop_off {l : List Flow.Node} {i : Nat} {n : Flow.Node} (hf : Flow.Fine l) (h : l[i]? = some n) : ¬ 0 ≤ atI (l.drop (i + 1)) n.mark := by
  intro hx
  obtain ⟨x, h1, h2⟩ := atI_some hx
  rw [List.getElem?_drop] at h1
  have := hf.once i _ n x h h1 h2.symm
  omega

set_option maxHeartbeats 4000000 in
theorem stepOn_any (ts : List Flow.Tr) (S : Nat → Prop) (a : Option Addr) (cap base0 B : Nat) (l : List Flow.Node) (w : World) (hts : ∀ t ∈ ts, Flow.Small t) (hlen : ts.length ≤ 16) (hf : Flow.Fine l) (hS : ∀ g, S g → g < w.heap.size) (hrow : ∀ g, obk a = some g → S g)
    (hown : w.ownsRow base0 93 3 (.slice a ts.length cap) ts.length (cellsF ts)) (h : SeaS w S B l) :
    Calls Tryz.prog 87 #[.pointer (some ⟨B, 0, none⟩), .slice a ts.length cap] w fun e w' => e = .returned (.tuple #[]) ∧ SeaS w' S B (Flow.stepTo ts l l.length) ∧ Kept S w w' := by
  obtain ⟨aV, cV, A, arr, hB, hA, hV, hne, hap, hblk, hrows⟩ := h
  have OW : Hid (w.ownsRow base0 93 3 (.slice a ts.length cap) ts.length (cellsF ts)) := hown
  have HT : Hid (∀ t ∈ ts, Flow.Small t) := hts
  have HR : Hid (∀ g, obk a = some g → S g) := hrow
  have FN : Hid (Flow.Fine l) := hf
  have LE : Hid (ts.length ≤ 16) := hlen
  have h65 := hf.size
  have T0 : Hid (∀ g, (S g ∨ obk aV = some g) → g < w.heap.size) := by
    rintro g (hg | hg)
    · exact hS g hg
    · exact (owns_lt hrows.rV hg).2
  have TB : Hid (¬ (S B ∨ obk aV = some B)) := by rintro (x | x); exact hB x; exact hap x
  have TA : Hid (¬ (S A ∨ obk aV = some A)) := by rintro (x | x); exact hA x; exact hrows.ap x
  have x0 : w.cell? ⟨B, 0, none⟩ = some (.slice aV l.length cV) := hblk.cell 0
  have y0 := hblk.froz 0
  have zB := hblk.lt
  have K1 : Hid (Blk (w.setCell ⟨B, 0, none⟩ (.slice none 0 0)) B (seaC none 0 0 A) 79) := by
    show Blk _ _ _ _
    have := hblk.set 0 (.slice none 0 0)
    simpa using this
  have A1 : Hid (Blk (w.setCell ⟨B, 0, none⟩ (.slice none 0 0)) A arr 4) := hrows.rA.far _ _ hne
  have R0 : Hid (w.ownsRow 0 124 3 (.slice aV l.length cV) l.length (cellsV l)) := hrows.rV
  have SZ : Hid (arr.size = 65536) := hrows.sA
  have HH : Hid (∀ m, m < 65536 → arr[m]? = some (.bool (decide (0 ≤ atI (l.drop 0) m)))) := by
    intro m hm; rw [List.drop_zero]; exact hrows.has m hm
  have W1 : Hid (Kept (fun g => S g ∨ obk aV = some g) w (w.setCell ⟨B, 0, none⟩ (.slice none 0 0))) := (Kept.refl _ w).setCell (p := ⟨B, 0, none⟩) TB.out _
  have NE : Hid (A ≠ B) := hne
  clear hown hts hrow hf hlen hS hB hA hV hap hblk hrows hne
  go_enter Tryz.func87, Tryz.ntmps87
  go_wp2
  clear x0 y0 zB
  go_loopw [5] (fun i' wr => ∃ (i : Nat) (arr' : Array Value), i ≤ l.length ∧ i' = .int .i64 i ∧ Hid (Blk wr B (seaC none 0 0 A) 79) ∧ Hid (Blk wr A arr' 4) ∧ Hid (arr'.size = 65536) ∧ Hid (∀ m, m < 65536 → arr'[m]? = some (.bool (decide (0 ≤ atI (l.drop i) m)))) ∧ Hid (Kept (fun g => S g ∨ obk aV = some g) w wr)) (fun i' _ => l.length - (intOf i').toNat)
  case atStart => exact ⟨0, arr, by omega, rfl, K1, A1, SZ, HH, W1⟩
  case round =>
    clear K1 A1 SZ HH W1
    obtain ⟨i, arr', hil, rfl, KB, KA, SZ, HH, HW⟩ := hrel
    by_cases hlt : i < l.length
    · obtain ⟨n, hn⟩ : ∃ n, l[i]? = some n := ⟨_, List.getElem?_eq_getElem hlt⟩
      have hnm := FN.out.small i n hn
      have ro := owns_kept R0.out HW.out (fun g hg => .inr hg)
      obtain ⟨gV, cx, hv, _, l1⟩ := ro.form (by omega)
      injection hv with hv1 _ hv3
      subst hv1 hv3
      obtain ⟨d0, _, _⟩ := cellsV_get hn
      have e0 := ro.cellAt (i * 3) (by omega)
      rw [d0] at e0
      have x1 : wr.cell? ⟨B, 1, none⟩ = some (.slice (some ⟨A, 0, none⟩) 65536 65536) := KB.out.cell 1
      have xa : wr.cell? ⟨A, n.mark, none⟩ = some (.bool true) := by
        rw [KA.out.cell, HH.out n.mark hnm, decide_eq_true (drop_on hn)]
      have ya := KA.out.froz n.mark
      have zB := KB.out.lt
      have zA := KA.out.lt
      have ch := has_raw B A n.mark true wr hnm x1 xa zB zA
      have N : Hid (l[i]? = some n) := hn
      have NM : Hid (n.mark < 65536) := hnm
      have hI0 : (0 : Int) ≤ (i : Int) := by omega
      have hI1 : (i : Int) < (l.length : Int) := by omega
      have hM0 : (0 : Int) ≤ (n.mark : Int) := by omega
      have hM1 : (n.mark : Int) < 65536 := by omega
      have KB2 : Hid (Blk (wr.setCell ⟨A, n.mark, none⟩ (.bool false)) B (seaC none 0 0 A) 79) := KB.out.far _ _ (fun x => NE.out x.symm)
      have KA2 : Hid (Blk (wr.setCell ⟨A, n.mark, none⟩ (.bool false)) A (arr'.setIfInBounds n.mark (.bool false)) 4) := KA.out.set _ _
      have HW2 : Hid (Kept (fun g => S g ∨ obk (some ⟨gV, 0, none⟩) = some g) w (wr.setCell ⟨A, n.mark, none⟩ (.bool false))) := HW.out.setCell (p := ⟨A, n.mark, none⟩) TA.out _
      have HH2 : Hid (∀ m, m < 65536 → (arr'.setIfInBounds n.mark (.bool false))[m]? = some (.bool (decide (0 ≤ atI (l.drop (i + 1)) m)))) := by
        intro m hm
        by_cases e : n.mark = m
        · subst e
          rw [Array.getElem?_setIfInBounds_self_of_lt (by rw [SZ.out]; exact hm), decide_eq_false (drop_off FN.out hn)]
        · rw [Array.getElem?_setIfInBounds_ne e, HH.out m hm]
          congr 2
          rw [decide_eq_decide]
          exact drop_next hn e
      clear ro d0 hn hnm KB KA HW
      go_wp2_with (go_at_call 88; refine ch.mono ?_; rintro e w' ⟨rfl, rfl⟩)
      go_region
      all_goals go_wp2
      all_goals go_roundw
      all_goals (first | (simp [intOf]; omega) | exact ⟨i + 1, _, by omega, by go_num, KB2, KA2, by show _ = _; rw [Array.size_setIfInBounds]; exact SZ.out, HH2, HW2.out.drew⟩)
    · obtain rfl : i = l.length := by omega
      have IN0 : Hid (SeaS wr (fun g => S g ∨ obk aV = some g) B []) := by
        refine ⟨none, 0, A, arr', TB.out, TA.out, fun g hg => by simp [obk] at hg, NE.out, by simp [obk], KB.out, Nat.zero_le _, World.ownsRow_nil _ _ _ _, KA.out, SZ.out, by simp [obk], ?_⟩
        intro m hm
        rw [HH.out m hm, List.drop_length]
      clear KB KA SZ HH
      go_wp2
      obtain ⟨wo, rfl⟩ : ∃ wo : World, wo = wr := ⟨_, rfl⟩
      go_loopw [6] (fun i' wr => ∃ (i : Nat), i ≤ l.length ∧ i' = .int .i64 i ∧ Hid (SeaS wr (fun g => S g ∨ obk aV = some g) B (Flow.stepTo ts l i)) ∧ Hid (Kept (fun g => S g ∨ obk aV = some g) w wr)) (fun i' _ => l.length - (intOf i').toNat)
      case atStart => exact ⟨0, by omega, rfl, IN0, HW⟩
      case round =>
        clear IN0 HW hil hlt
        obtain ⟨i, hil, rfl, IN, HW⟩ := hrel
        by_cases hlt : i < l.length
        · obtain ⟨n, hn⟩ : ∃ n, l[i]? = some n := ⟨_, List.getElem?_eq_getElem hlt⟩
          have hnm := FN.out.small i n hn
          have T2 : ∀ g, (S g ∨ obk aV = some g) → g < wr.heap.size := fun g hg => Nat.lt_of_lt_of_le (T0.out g hg) HW.out.size
          have c1 : Calls Tryz.prog 104 #[.pointer (some ⟨B, 0, none⟩), .slice a ts.length cap, .int .i64 n.mark, .int .i64 0] wr fun e w' => e = .returned (.tuple #[]) ∧ SeaS w' (fun g => S g ∨ obk aV = some g) B (Flow.seenTo ts n.mark 0 (Flow.stepTo ts l i) ts.length) ∧ Kept (fun g => S g ∨ obk aV = some g) wr w' := visitNext_any ts (fun g => S g ∨ obk aV = some g) a cap n.mark 0 base0 B (Flow.stepTo ts l i) wr hnm HT.out LE.out (stepTo_fine HT.out FN.out i) T2 (fun g hg => .inl (HR.out g hg)) (owns_kept OW.out HW.out (fun g hg => .inl (HR.out g hg))) IN.out
          rw [← stepTo_at hn] at c1
          have ro := owns_kept R0.out HW.out (fun g hg => .inr hg)
          obtain ⟨gV, cx, hv, _, l1⟩ := ro.form (by omega)
          injection hv with hv1 _ hv3
          subst hv1 hv3
          obtain ⟨d0, _, _⟩ := cellsV_get hn
          have e0 := ro.cellAt (i * 3) (by omega)
          rw [d0] at e0
          have hI0 : (0 : Int) ≤ (i : Int) := by omega
          have hI1 : (i : Int) < (l.length : Int) := by omega
          clear ro d0 hn hnm T2
          go_wp2_with (go_at_call 104; refine c1.mono ?_; rintro e w2 ⟨rfl, hin, hbel⟩; have IN3 : Hid (SeaS w2 (fun g => S g ∨ obk (some ⟨gV, 0, none⟩) = some g) B (Flow.stepTo ts l (i + 1))) := hin; have HW3 : Hid (Kept (fun g => S g ∨ obk (some ⟨gV, 0, none⟩) = some g) w w2) := HW.out.trans hbel; clear hin hbel)
          all_goals go_roundw
          all_goals (first | (simp [intOf]; omega) | exact ⟨i + 1, by omega, by go_num, IN3, HW3⟩)
        · obtain rfl : i = l.length := by omega
          go_wp2
          go_end0
          exact ⟨rfl, IN.out.more (Below.refl _ _) (fun k hk => .inl (.inl hk)), HW.out.mono (fun k hk => .inl hk)⟩
end Go.Proofs.YtdlldljgogbiaabGreat
namespace Go.Proofs.YtdlldljgogbiaabGreat
open Go.RowKit
set_option linter.unusedVariables false
set_option maxRecDepth 40000

theorem sea_lowB {w2 : World} {X b A c : Nat} {lb : List Flow.Node} {aV : Option Addr} {cV : Nat} {arr : Array Value} {c0 c1 : Value} (K : Blk w2 X #[c0, c1] 79) (R : SeaRows w2 b A lb aV cV arr) (hX : X < b) (hc : c ≤ X) :
    SeaIn ((w2.setCell ⟨X, 0, none⟩ (.slice aV lb.length cV)).setCell ⟨X, 1, none⟩ (.slice (some ⟨A, 0, none⟩) 65536 65536)) c X lb := by
  refine ⟨aV, cV, A, arr, hc, by have := R.baseA; omega, ?_, ?_, ((R.farR hX 0 _).farR hX 1 _).lower (by omega)⟩
  · intro e; have := (owns_lt R.rV e).1; omega
  · have := (K.set 0 (.slice aV lb.length cV)).set 1 (.slice (some ⟨A, 0, none⟩) 65536 65536)
    simpa using this
theorem sea_newB {w2 : World} {b A c : Nat} {lb : List Flow.Node} {aV : Option Addr} {cV : Nat} {arr : Array Value} (R : SeaRows w2 b A lb aV cV arr) (hc : c ≤ b) (hb : b ≤ w2.heap.size) :
    SeaIn (w2.alloc (.cells (seaC aV lb.length cV A) 79)) c w2.heap.size lb := by
  refine ⟨aV, cV, A, arr, by omega, by have := R.rA.lt; omega, ?_, Blk.new _ _ _, (R.below ((Below.refl _ _).alloc (Nat.le_refl _) _)).lower hc⟩
  intro e; have := (owns_lt R.rV e).2; omega
theorem tk_loud {c : Nat} (h : Flow.isTk c = true) : c ≠ 45 := by
  unfold Flow.isTk at h
  simp at h
  omega

set_option maxHeartbeats 4000000 in
theorem playsWord_any (ts : List Flow.Tr) (x y : Nat) (a : Option Addr) (cap base0 : Nat) (word : ByteArray) (w : World) (hx : x < 256) (hy : y < 256) (hw : word.size ≤ 8) (hiw : Flow.IsWord word) (hts : ∀ t ∈ ts, Flow.Small t) (hlen : ts.length ≤ 16)
    (hown : w.ownsRow base0 93 3 (.slice a ts.length cap) ts.length (cellsF ts)) :
    Calls Tryz.prog 53 #[.agg (netF x y a ts.length cap), .string word] w fun e w' => ∃ b, e = .returned (.bool b) ∧ (b = true ↔ Flow.Spells ts (Flow.pbit x) (Flow.nats word) (Flow.pbit y)) ∧ Below w.heap.size w w' := by
  have OW : Hid (w.ownsRow base0 93 3 (.slice a ts.length cap) ts.length (cellsF ts)) := hown
  have HT : Hid (∀ t ∈ ts, Flow.Small t) := hts
  have IW : Hid (Flow.IsWord word) := hiw
  have hpb := Flow.pbit_lt y
  have hpx := Flow.pbit_lt x
  have cpx : ∀ W, Calls Tryz.prog 47 #[.int .u8 x] W fun e w' => e = .returned (.int .i64 (Flow.pbit x)) ∧ W = w' := fun W => (placeBit_any x W hx).mono fun e w' h => ⟨h.1, h.2.symm⟩
  have cpy : ∀ W, Calls Tryz.prog 47 #[.int .u8 y] W fun e w' => e = .returned (.int .i64 (Flow.pbit y)) ∧ W = w' := fun W => (placeBit_any y W hy).mono fun e w' h => ⟨h.1, h.2.symm⟩
  obtain ⟨M, hM⟩ : ∃ M, M = Flow.pbit x := ⟨_, rfl⟩
  obtain ⟨E, hE⟩ : ∃ E, E = Flow.pbit y := ⟨_, rfl⟩
  rw [← hM] at hpx cpx ⊢
  rw [← hE] at hpb cpy ⊢
  have HM : Hid (M < 65536) := hpx
  have HE : Hid (E < 65536) := hpb
  have c1 := fun c W ho => labelled_any ts a cap base0 c W hlen ho
  have HL : Hid (ts.length ≤ 16) := hlen
  have LQ : Hid ((Flow.labelled ts 45).length ≤ 16) := Nat.le_trans (labelled_le ts 45) hlen
  have c2 := fun a' cap' b' W ho => exploreS_any (Flow.labelled ts 45) a' cap' M b' W HM.out (labelled_small 45 HT.out) LQ.out ho
  clear hown hts hiw hM hE hpx hpb hx hy
  go_enter Tryz.func53, Tryz.ntmps53
  have n0 : (w.alloc (.cells (netF x y a ts.length cap) 59)).cell? ⟨w.heap.size, 0, none⟩ = some (.int .u8 x) := (Blk.new w _ _).cell 0
  have n1 : (w.alloc (.cells (netF x y a ts.length cap) 59)).cell? ⟨w.heap.size, 1, none⟩ = some (.int .u8 y) := (Blk.new w _ _).cell 1
  have n2 : (w.alloc (.cells (netF x y a ts.length cap) 59)).cell? ⟨w.heap.size, 2, none⟩ = some (.slice a ts.length cap) := (Blk.new w _ _).cell 2
  have K0 : Hid (Blk (w.alloc (.cells (netF x y a ts.length cap) 59)) w.heap.size (netF x y a ts.length cap) 59) := Blk.new w _ _
  have OW1 : Hid ((w.alloc (.cells (netF x y a ts.length cap) 59)).ownsRow base0 93 3 (.slice a ts.length cap) ts.length (cellsF ts)) := OW.out.alloc _
  have E1 : Hid (Below w.heap.size w (w.alloc (.cells (netF x y a ts.length cap) 59))) := (Below.refl _ _).alloc (Nat.le_refl _) _
  have z0 : w.heap.size < (w.alloc (.cells (netF x y a ts.length cap) 59)).heap.size := by simp
  go_wp2_with (fail)
  generalize w.alloc (.cells (netF x y a ts.length cap) 59) = V at n0 n1 n2 K0 OW1 E1 z0 ⊢
  go_wp2_with (first
    | (go_at_call 86; refine (c1 45 _ OW1.out).mono ?_; rintro e w1 ⟨aq, cq, rfl, hoq, hbq⟩; have OQ : Hid (w1.ownsRow _ 93 3 (.slice aq (Flow.labelled ts 45).length cq) (Flow.labelled ts 45).length (cellsF (Flow.labelled ts 45))) := hoq; have BQ : Hid (Below V.heap.size V w1) := hbq; have m0 : w1.cell? ⟨w.heap.size, 0, none⟩ = some (.int .u8 x) := (hbq.cell (p := ⟨w.heap.size, 0, none⟩) z0).trans n0; have z1 : w.heap.size < w1.heap.size := Nat.lt_of_lt_of_le z0 hbq.size; clear hoq hbq)
    | (go_at_call 47; refine (cpx _).mono ?_; rintro e w' ⟨rfl, rfl⟩)
    | (go_at_call 41; refine (c2 _ _ _ _ OQ.out).mono ?_; rintro e w2 ⟨aV, cV, A, lb, arr, rfl, hsp, hfi, hrows, hb2⟩; have RW : Hid (SeaRows w2 w1.heap.size A lb aV cV arr) := hrows; have SP : Hid (Flow.Spread (Flow.labelled ts 45) [⟨M, -1, -1⟩] lb) := hsp; have FI : Hid (Flow.Fine lb) := hfi; have B2 : Hid (Below w1.heap.size w1 w2) := hb2; clear hsp hfi hrows hb2))
  have KN : Hid (Blk w1 w.heap.size (netF x y a ts.length cap) 59) := K0.out.below BQ.out z0
  have OWt : Hid (w1.ownsRow base0 93 3 (.slice a ts.length cap) ts.length (cellsF ts)) := owns_below OW1.out BQ.out (Nat.le_refl _)
  have E2 : Hid (Below w.heap.size w w1) := E1.out.trans (BQ.out.mono (by omega))
  have I0 : Hid (SeaS (w2.alloc (.cells (seaC aV lb.length cV A) 79)) (fun g => g < w1.heap.size) w2.heap.size lb) := (sea_newB (c := w1.heap.size) RW.out (Nat.le_refl _) B2.out.size).seaS (fun k hk => hk)
  have B3 : Hid (Below w1.heap.size w1 (w2.alloc (.cells (seaC aV lb.length cV A) 79))) := B2.out.alloc B2.out.size _
  have P0 : Hid (∀ m, m ∈ Flow.marks lb ↔ Flow.Spells ts M ((Flow.nats word).take 0) m) := fun m => plays_first SP.out m
  have zX : Hid (w1.heap.size ≤ w2.heap.size) := B2.out.size
  generalize w2.alloc (.cells (seaC aV lb.length cV A) 79) = V2 at I0 B3 ⊢
  generalize w2.heap.size = X at I0 zX ⊢
  clear c2 n0 n1 n2 K0 OW1 E1 RW SP B2 m0 BQ z0
  go_loopw [7] (fun i' wr => ∃ (i : Nat) (l : List Flow.Node), i ≤ word.size ∧ i' = .int .i64 i ∧ Hid (SeaS wr (fun g => g < w1.heap.size) X l) ∧ Hid (Flow.Fine l) ∧ Hid (∀ m, m ∈ Flow.marks l ↔ Flow.Spells ts M ((Flow.nats word).take i) m) ∧ Hid (Below w1.heap.size w1 wr)) (fun i' _ => word.size - (intOf i').toNat)
  case atStart => exact ⟨0, lb, by omega, rfl, I0, FI, P0, B3⟩
  case round =>
    clear I0 FI P0 B3
    obtain ⟨i, l, hil, rfl, IN, FN, PL, HW⟩ := hrel
    have hz := HW.out.size
    have KR : Hid (Blk wr w.heap.size (netF x y a ts.length cap) 59) := KN.out.below HW.out z1
    have OWr : Hid (wr.ownsRow base0 93 3 (.slice a ts.length cap) ts.length (cellsF ts)) := owns_below OWt.out HW.out (Nat.le_refl _)
    have r1 : wr.cell? ⟨w.heap.size, 1, none⟩ = some (.int .u8 y) := KR.out.cell 1
    have r2 : wr.cell? ⟨w.heap.size, 2, none⟩ = some (.slice a ts.length cap) := KR.out.cell 2
    have zr := KR.out.lt
    by_cases hlt : i < word.size
    · have HB : Hid (word[i].toNat = Flow.bt word i) := Flow.bt_at hlt
      have NT : Hid ((Flow.nats word).take (i + 1) = (Flow.nats word).take i ++ [word[i].toNat]) := nats_take hlt
      have LD : Hid (word[i].toNat ≠ 45) := by
        show _ ≠ _
        rw [HB.out]; exact tk_loud (IW.out i hlt)
      obtain ⟨c, hc⟩ : ∃ c, c = word[i].toNat := ⟨_, rfl⟩
      have HC : Hid (c = word[i].toNat) := hc
      rw [← hc] at NT LD
      have hI0 : (0 : Int) ≤ (i : Int) := by omega
      have hI1 : (i : Int) < (word.size : Int) := by omega
      have cl : ∀ W, W.ownsRow base0 93 3 (.slice a ts.length cap) ts.length (cellsF ts) → Calls Tryz.prog 86 #[.slice a ts.length cap, .int .u8 (word[i].toNat : Int)] W fun e w' => ∃ a' cap', e = .returned (.slice a' (Flow.labelled ts c).length cap') ∧ w'.ownsRow W.heap.size 93 3 (.slice a' (Flow.labelled ts c).length cap') (Flow.labelled ts c).length (cellsF (Flow.labelled ts c)) ∧ Below W.heap.size W w' := fun W ho => by
        rw [← hc]; exact c1 c W ho
      have LC : Hid ((Flow.labelled ts c).length ≤ 16) := Nat.le_trans (labelled_le ts c) HL.out
      clear hc
      go_wp2
      go_region_with (go_at_call 86; refine (cl _ (OWr.out.drew)).mono ?_; rintro e w3 ⟨aS, cS, rfl, hoS, hbS⟩; have OS : Hid (w3.ownsRow wr.heap.size 93 3 (.slice aS (Flow.labelled ts c).length cS) (Flow.labelled ts c).length (cellsF (Flow.labelled ts c))) := hoS; have BS : Hid (Below wr.heap.size wr w3) := (Below.refl _ _).drew.trans hbS; clear hoS hbS)
      all_goals
        have IN3 : Hid (SeaS w3 (fun g => g < w1.heap.size ∨ obk aS = some g) X l) := IN.out.more BS.out (fun k hk => hk.imp id (fun h => (owns_lt OS.out h).1))
        have hz3 := BS.out.size
        have T3 : Hid (∀ g, (g < w1.heap.size ∨ obk aS = some g) → g < w3.heap.size) := by
          rintro g (hg | hg)
          · omega
          · exact (owns_lt OS.out hg).2
        have OQ3 : Hid (w3.ownsRow V.heap.size 93 3 (.slice aq (Flow.labelled ts 45).length cq) (Flow.labelled ts 45).length (cellsF (Flow.labelled ts 45))) := owns_below (owns_below OQ.out HW.out (Nat.le_refl _)) BS.out (Nat.le_refl _)
        have HW3 : Hid (Below w1.heap.size w1 w3) := HW.out.trans (BS.out.mono hz)
        have QL : Hid (∀ g, obk aq = some g → g < w1.heap.size) := fun g hg => (owns_lt OQ.out hg).2
        go_wp2_with (first
          | (go_at_call 87; refine (stepOn_any (Flow.labelled ts c) (fun g => g < w1.heap.size ∨ obk aS = some g) aS cS wr.heap.size X l w3 (labelled_small c HT.out) LC.out FN.out T3.out (fun g hg => .inr hg) OS.out IN3.out).mono ?_; rintro e w4 ⟨rfl, hin, hkp⟩; have IN4 : Hid (SeaS w4 (fun g => g < w1.heap.size) X (Flow.stepTo (Flow.labelled ts c) l l.length)) := hin.more (Below.refl _ _) (fun k hk => .inl (.inl hk)); have B4 : Hid (Below w1.heap.size w3 w4) := hkp.below (fun k hk => .inl hk); clear hin hkp)
          | (go_at_call 80; refine (spread_any (Flow.labelled ts 45) (fun g => g < w1.heap.size) aq cq V.heap.size X (Flow.stepTo (Flow.labelled ts c) l l.length) w4 (labelled_small 45 HT.out) LQ.out (stepTo_fine (labelled_small c HT.out) FN.out _) (fun g hg => by have := B4.out.size; omega) QL.out (owns_kept OQ3.out (S := fun g => g < w1.heap.size) (Kept.of_below B4.out (fun k hk => hk)) QL.out) IN4.out).mono ?_; rintro e w5 ⟨l', rfl, hsp, hfi, hin, hkp⟩; have IN5 : Hid (SeaS w5 (fun g => g < w1.heap.size) X l') := hin; have FN5 : Hid (Flow.Fine l') := hfi; have HW5 : Hid (Below w1.heap.size w1 w5) := (HW3.out.trans B4.out).trans (hkp.below (fun k hk => hk)); have PL5 : Hid (∀ m, m ∈ Flow.marks l' ↔ Flow.Spells ts M ((Flow.nats word).take (i + 1)) m) := (fun m => by rw [NT.out]; exact plays_next LD.out PL.out hsp m); clear hsp hfi hin hkp))
      all_goals go_roundw
      all_goals (first | (simp [intOf]; omega) | exact ⟨i + 1, l', by omega, by go_num, IN5, FN5, PL5, HW5⟩)
    · obtain rfl : i = word.size := by omega
      have ch := has_any l 0 X E wr HE.out (IN.out.sea (fun k hk => by omega))
      have PF : Hid ((decide (0 ≤ atI l E)) = true ↔ Flow.Spells ts M (Flow.nats word) E) := by
        show _ ↔ _
        rw [decide_eq_true_iff, marks_at, PL.out E, nats_all]
      clear c1
      go_wp2_with (first
        | (go_at_call 47; refine (cpy _).mono ?_; rintro e w' ⟨rfl, rfl⟩)
        | (go_at_call 88; refine ch.mono ?_; rintro e w' ⟨rfl, rfl⟩))
      go_ret
      exact ⟨_, rfl, PF.out, E2.out.trans (HW.out.mono (by have := E2.out.size; omega))⟩
end Go.Proofs.YtdlldljgogbiaabGreat
namespace Go.Proofs.YtdlldljgogbiaabGreat
open Go.RowKit
set_option linter.unusedVariables false
set_option maxRecDepth 40000

theorem lastQ_pbit {s : ByteArray} (h : Flow.isPl (Flow.bt s 1) = true) : Flow.lastQ s = Flow.pbit (Flow.bt s 1) := by
  unfold Flow.lastQ Flow.pbit; rw [if_pos h]

set_option maxHeartbeats 2000000 in
theorem playsF_any (s word : ByteArray) (w : World) (hs : s.size ≤ maxLen) (hw : word.size ≤ maxLen) : Calls Tryz.prog 24 #[.string s, .string word] w (PlaysPost s word w) := by
  have cl := fun w => firstNoLetter_any word w hw
  have hs' := hs
  unfold maxLen at hs hw
  by_cases h1 : 8 < word.size
  · have P : Hid (Flow.PlaysA s word false 1) := .inl ⟨.inr h1, rfl, rfl⟩
    go_enter Tryz.func24, Tryz.ntmps24
    go_wp2
    go_ret2
    exact ⟨false, 1, rfl, P.out, Below.refl _ _⟩
  · have hwz : word.size ≤ 8 := by omega
    by_cases h2 : Flow.checkErr s = 0
    · obtain ⟨hok, hsz, hp0, hp1⟩ := checkErr_ok h2
      obtain ⟨hf, hfe⟩ := first_lt hp0
      have hle := lastQ_pbit hp1
      have c1 := fun w => netF_ok s w hs' h2
      have hs160 : ¬ 160 < s.size := fun h => by rw [(checkErr_long h).1] at h2; cases h2
      have H1 : Hid (¬ (160 < s.size ∨ 8 < word.size)) := by rintro (x | x); exact hs160 x; exact h1 x
      have c2 : ∀ a cap base w, Flow.IsWord word → w.ownsRow base 93 3 (.slice a (Flow.readTr s).length cap) (Flow.readTr s).length (cellsF (Flow.readTr s)) → Calls Tryz.prog 53 #[.agg (netF (Flow.bt s 0) (Flow.bt s 1) a (Flow.readTr s).length cap), .string word] w fun e w' => ∃ b, e = .returned (.bool b) ∧ (b = true ↔ Flow.Spells (Flow.readTr s) (Flow.first s) (Flow.nats word) (Flow.lastQ s)) ∧ Below w.heap.size w w' := fun a cap base w hi ho => by
        rw [hfe, hle]
        exact playsWord_any (Flow.readTr s) (Flow.bt s 0) (Flow.bt s 1) a cap base word w (Flow.bt_lt _ _) (Flow.bt_lt _ _) hwz hi (readTr_small s) (readTr_size s) ho
      have H2 : Hid (Flow.checkErr s = 0) := h2
      clear h2 hok hsz hp0 hp1 hf hfe hle hs160
      go_enter Tryz.func24, Tryz.ntmps24
      go_wp2_with (first
        | (go_at_call 32; refine (c1 _).mono ?_; rintro e w1 ⟨a, cap, rfl, hb1, ho1⟩; have HB1 : Hid _ := hb1; have HO1 : Hid (w1.ownsRow _ 93 3 (.slice a (Flow.readTr s).length cap) (Flow.readTr s).length (cellsF (Flow.readTr s))) := ho1; clear hb1 ho1)
        | (go_at_call 52; refine (cl _).mono ?_; rintro e w' ⟨r, rfl, hrl, hr, hww⟩; obtain rfl := hww.symm; rcases hr with ⟨rfl, hyes⟩ | ⟨hj1, hj2, hj3⟩)
        | (go_at_call 53; refine (c2 a cap _ _ hyes (HO1.out.alloc _)).mono ?_; rintro e w2 ⟨b, rfl, hbi, hb2⟩; have HB2 : Hid _ := hb2; have BI : Hid _ := hbi; clear hb2 hbi))
      all_goals go_ret2
      all_goals have z1 := HB1.out.size
      all_goals (first
        | exact ⟨b, 0, rfl, .inr (.inr (.inr ⟨H1.out, H2.out, hyes, BI.out, rfl⟩)), (HB1.out.alloc z1 _).trans (HB2.out.mono (by simp; omega))⟩
        | exact ⟨false, 8, rfl, .inr (.inr (.inl ⟨H1.out, H2.out, not_word hj1 hj2, rfl, rfl⟩)), HB1.out.alloc z1 _⟩)
    · have c1 := fun w => netF_no s w hs' h2
      have t2 : ((Flow.checkErr s : Int) != 0) = true := by simp; omega
      have P : Hid (Flow.PlaysA s word false (Flow.checkErr s)) := by
        by_cases h160 : 160 < s.size
        · exact .inl ⟨.inl h160, rfl, (checkErr_long h160).1⟩
        · exact .inr (.inl ⟨by rintro (x | x); exact h160 x; exact h1 x, h2, rfl, rfl⟩)
      go_enter Tryz.func24, Tryz.ntmps24
      go_wp2_with (go_at_call 32; refine (c1 _).mono ?_; rintro e w1 ⟨rfl, hb1⟩; have HB1 : Hid _ := hb1; clear hb1)
      go_ret2
      exact ⟨false, Flow.checkErr s, rfl, P.out, HB1.out.alloc HB1.out.size _⟩
end Go.Proofs.YtdlldljgogbiaabGreat
