/-
  The program's transitions of a label; a search that goes on: plain and in memory.
-/
import Derived.Test.YtdlldljgogbiaabRunF
import Derived.Test.YtdlldljgogbiaabSpell
namespace Go.Proofs.Ytdlldljgogbiaab
open Go.RowKit
set_option linter.unusedVariables false
set_option maxRecDepth 20000

/-- the transitions that have the label c -/
def Flow.labelled (ts : List Flow.Tr) (c : Nat) : List Flow.Tr := ts.filter fun t => t.label == c
theorem labelled_snoc {ts : List Flow.Tr} {k c : Nat} {t : Flow.Tr} (h : ts[k]? = some t) : Flow.labelled (ts.take (k + 1)) c = if t.label = c then Flow.labelled (ts.take k) c ++ [t] else Flow.labelled (ts.take k) c := by
  rw [List.take_add_one, h]
  unfold Flow.labelled
  rw [List.filter_append]
  by_cases e : t.label = c
  · rw [if_pos e]; simp [e]
  · rw [if_neg e]; simp [e]
theorem labelled_le (ts : List Flow.Tr) (c : Nat) : (Flow.labelled ts c).length ≤ ts.length := List.length_filter_le _ _
theorem labelled_small {ts : List Flow.Tr} (c : Nat) (h : ∀ t ∈ ts, Flow.Small t) : ∀ t ∈ Flow.labelled ts c, Flow.Small t := fun t ht => h t (List.mem_filter.1 ht).1
theorem nextM_mem {ts : List Flow.Tr} {m m' : Nat} : (∃ j, Flow.nextM ts m j = some m') ↔ ∃ t ∈ ts, Flow.fireErr t m = 0 ∧ Flow.after t m = m' := by
  constructor
  · rintro ⟨j, hj⟩
    cases e : ts[j]? with
    | none => unfold Flow.nextM at hj; rw [e] at hj; cases hj
    | some t =>
      rw [nextM_at e] at hj
      by_cases f : Flow.fireErr t m = 0
      · rw [if_pos f] at hj; injection hj with hj; exact ⟨t, List.mem_of_getElem? e, f, hj⟩
      · rw [if_neg f] at hj; cases hj
  · rintro ⟨t, ht, f, e⟩
    obtain ⟨j, hj⟩ := List.mem_iff_getElem?.1 ht
    exact ⟨j, by rw [nextM_at hj, if_pos f, e]⟩
theorem labelled_next {ts : List Flow.Tr} {c m m' : Nat} : (∃ j, Flow.nextM (Flow.labelled ts c) m j = some m') ↔ ∃ (k : Nat) (t : Flow.Tr), ts[k]? = some t ∧ t.label = c ∧ Flow.nextM ts m k = some m' := by
  rw [nextM_mem]
  constructor
  · rintro ⟨t, ht, f, e⟩
    obtain ⟨h1, h2⟩ := List.mem_filter.1 ht
    obtain ⟨k, hk⟩ := List.mem_iff_getElem?.1 h1
    exact ⟨k, t, hk, by simpa using h2, by rw [nextM_at hk, if_pos f, e]⟩
  · rintro ⟨k, t, hk, hc, hn⟩
    rw [nextM_at hk] at hn
    by_cases f : Flow.fireErr t m = 0
    · rw [if_pos f] at hn; injection hn with hn
      exact ⟨t, List.mem_filter.2 ⟨List.mem_of_getElem? hk, by simpa using hc⟩, f, hn⟩
    · rw [if_neg f] at hn; cases hn
theorem labF_at {ts : List Flow.Tr} {k : Nat} {t : Flow.Tr} (h : ts[k]? = some t) : Flow.lab ts k = if t.label = 45 then none else some t.label := by unfold Flow.lab; rw [h]
theorem labelled_quiet {ts : List Flow.Tr} {m m' : Nat} : (∃ j, Flow.nextM (Flow.labelled ts 45) m j = some m') ↔ ∃ k, Flow.nextM ts m k = some m' ∧ Flow.lab ts k = none := by
  rw [labelled_next]
  constructor
  · rintro ⟨k, t, hk, hc, hn⟩
    exact ⟨k, hn, by rw [labF_at hk, if_pos hc]⟩
  · rintro ⟨k, hn, hl⟩
    cases e : ts[k]? with
    | none => unfold Flow.nextM at hn; rw [e] at hn; cases hn
    | some t =>
      rw [labF_at e] at hl
      by_cases f : t.label = 45
      · exact ⟨k, t, e, f, hn⟩
      · rw [if_neg f] at hl; cases hl
theorem labelled_loud {ts : List Flow.Tr} {m m' c : Nat} (hc : c ≠ 45) : (∃ j, Flow.nextM (Flow.labelled ts c) m j = some m') ↔ ∃ k, Flow.nextM ts m k = some m' ∧ Flow.lab ts k = some c := by
  rw [labelled_next]
  constructor
  · rintro ⟨k, t, hk, h, hn⟩
    exact ⟨k, hn, by rw [labF_at hk, if_neg (by omega), h]⟩
  · rintro ⟨k, hn, hl⟩
    cases e : ts[k]? with
    | none => unfold Flow.nextM at hn; rw [e] at hn; cases hn
    | some t =>
      rw [labF_at e] at hl
      by_cases f : t.label = 45
      · rw [if_pos f] at hl; cases hl
      · rw [if_neg f] at hl; injection hl with hl; exact ⟨k, t, e, hl, hn⟩
theorem goes_quiet {ts : List Flow.Tr} {m : Nat} : ∀ {m0 : Nat}, (∃ ks, Flow.goes (Flow.labelled ts 45) m0 ks = some m) ↔ ∃ ks, Flow.goes ts m0 ks = some m ∧ Flow.spelt ts ks = [] := by
  intro m0
  constructor
  · rintro ⟨ks, h⟩
    induction ks generalizing m0 with
    | nil => exact ⟨[], h, rfl⟩
    | cons j ks ih =>
      unfold Flow.goes at h
      cases e : Flow.nextM (Flow.labelled ts 45) m0 j with
      | none => rw [e] at h; cases h
      | some m1 =>
        rw [e] at h
        obtain ⟨k, h1, h2⟩ := labelled_quiet.1 ⟨j, e⟩
        obtain ⟨ks', h3, h4⟩ := ih h
        refine ⟨k :: ks', by unfold Flow.goes; rw [h1]; exact h3, ?_⟩
        unfold Flow.spelt at h4 ⊢
        rw [List.filterMap_cons, h2]; exact h4
  · rintro ⟨ks, h, hs⟩
    induction ks generalizing m0 with
    | nil => exact ⟨[], h⟩
    | cons k ks ih =>
      unfold Flow.goes at h
      cases e : Flow.nextM ts m0 k with
      | none => rw [e] at h; cases h
      | some m1 =>
        rw [e] at h
        unfold Flow.spelt at hs
        cases el : Flow.lab ts k with
        | some c => rw [List.filterMap_cons, el] at hs; cases hs
        | none =>
          rw [List.filterMap_cons, el] at hs
          obtain ⟨j, h1⟩ := labelled_quiet.2 ⟨k, e, el⟩
          obtain ⟨ks', h2⟩ := ih h hs
          exact ⟨j :: ks', by unfold Flow.goes; rw [h1]; exact h2⟩

/-- the markings of a list -/
def Flow.marks (l : List Flow.Node) : List Nat := l.map Flow.Node.mark
theorem marks_get {l : List Flow.Node} {m : Nat} : m ∈ Flow.marks l ↔ ∃ (j : Nat) (n : Flow.Node), l[j]? = some n ∧ n.mark = m := by
  unfold Flow.marks
  constructor
  · intro h
    obtain ⟨n, hn, e⟩ := List.mem_map.1 h
    obtain ⟨j, hj⟩ := List.mem_iff_getElem?.1 hn
    exact ⟨j, n, hj, e⟩
  · rintro ⟨j, n, h1, h2⟩
    exact List.mem_map.2 ⟨n, List.mem_of_getElem? h1, h2⟩
theorem marks_at {l : List Flow.Node} {m : Nat} : 0 ≤ atI l m ↔ m ∈ Flow.marks l := by
  rw [marks_get]
  constructor
  · intro h
    obtain ⟨n, h1, h2⟩ := atI_some h
    exact ⟨_, n, h1, h2⟩
  · rintro ⟨j, x, h1, h2⟩
    rcases Int.lt_or_le (atI l m) 0 with g | g
    · exact absurd h2 (atI_none.1 g j x h1)
    · exact g
theorem seen1_mem (ts : List Flow.Tr) (q p k : Nat) (l : List Flow.Node) (m : Nat) : m ∈ Flow.marks (Flow.seen1 ts q p l k) ↔ m ∈ Flow.marks l ∨ Flow.nextM ts q k = some m := by
  cases e : Flow.nextM ts q k with
  | none => rw [seen1_none e]; simp
  | some m' =>
    by_cases hn : atI l m' < 0
    · rw [seen1_new e hn]
      unfold Flow.marks
      simp only [List.map_append, List.map_cons, List.map_nil, List.mem_append, List.mem_singleton, Option.some.injEq]
      constructor
      · rintro (h | h)
        · exact .inl h
        · exact .inr h.symm
      · rintro (h | h)
        · exact .inl h
        · exact .inr h.symm
    · rw [seen1_old e hn]
      constructor
      · exact .inl
      · rintro (h | h)
        · exact h
        · injection h with h; subst h; exact marks_at.1 (by omega)
theorem seenTo_mem (ts : List Flow.Tr) (q p : Nat) (l : List Flow.Node) (K m : Nat) : m ∈ Flow.marks (Flow.seenTo ts q p l K) ↔ m ∈ Flow.marks l ∨ ∃ k, k < K ∧ Flow.nextM ts q k = some m := by
  induction K with
  | zero => simp [Flow.seenTo]
  | succ K ih =>
    show m ∈ Flow.marks (Flow.seen1 ts q p (Flow.seenTo ts q p l K) K) ↔ _
    rw [seen1_mem, ih]
    constructor
    · rintro ((h | ⟨k, h1, h2⟩) | h)
      · exact .inl h
      · exact .inr ⟨k, by omega, h2⟩
      · exact .inr ⟨K, by omega, h⟩
    · rintro (h | ⟨k, h1, h2⟩)
      · exact .inl (.inl h)
      · by_cases e : k = K
        · subst e; exact .inr h2
        · exact .inl (.inr ⟨k, by omega, h2⟩)
theorem next_short {ts : List Flow.Tr} {q k m : Nat} (h : Flow.nextM ts q k = some m) : k < ts.length := by
  rcases Nat.lt_or_ge k ts.length with g | g
  · exact g
  · unfold Flow.nextM at h; rw [List.getElem?_eq_none g] at h; cases h
theorem seenAll_mem (ts : List Flow.Tr) (q p : Nat) (l : List Flow.Node) (m : Nat) : m ∈ Flow.marks (Flow.seenTo ts q p l ts.length) ↔ m ∈ Flow.marks l ∨ ∃ k, Flow.nextM ts q k = some m := by
  rw [seenTo_mem]
  constructor
  · rintro (h | ⟨k, _, h⟩)
    · exact .inl h
    · exact .inr ⟨k, h⟩
  · rintro (h | ⟨k, h⟩)
    · exact .inl h
    · exact .inr ⟨k, next_short h, h⟩
theorem spreadTo_facts (ts : List Flow.Tr) (l : List Flow.Node) (i : Nat) :
    (∃ r, Flow.spreadTo ts l i = l ++ r) ∧ (∀ m ∈ Flow.marks (Flow.spreadTo ts l i), ∃ m0 ∈ Flow.marks l, ∃ ks, Flow.goes ts m0 ks = some m) ∧
    (∀ (j k m' : Nat) (n : Flow.Node), j < i → (Flow.spreadTo ts l i)[j]? = some n → Flow.nextM ts n.mark k = some m' → m' ∈ Flow.marks (Flow.spreadTo ts l i)) := by
  induction i with
  | zero => exact ⟨⟨[], (List.append_nil _).symm⟩, fun m hm => ⟨m, hm, [], rfl⟩, fun j k m' n hj => by omega⟩
  | succ i ih =>
    obtain ⟨⟨r, hr⟩, h2, h3⟩ := ih
    cases e : (Flow.spreadTo ts l i)[i]? with
    | none =>
      have E : Flow.spreadTo ts l (i + 1) = Flow.spreadTo ts l i := by
        show (match (Flow.spreadTo ts l i)[i]? with | none => _ | some n => _) = _
        rw [e]
      rw [E]
      refine ⟨⟨r, hr⟩, h2, ?_⟩
      intro j k m' n hj hn hx
      by_cases ej : j = i
      · subst ej; rw [e] at hn; cases hn
      · exact h3 j k m' n (by omega) hn hx
    | some n0 =>
      rw [spreadTo_at e]
      obtain ⟨r2, hr2⟩ := seenTo_ext ts n0.mark i (Flow.spreadTo ts l i) ts.length
      refine ⟨⟨r ++ r2, by rw [hr2, hr, List.append_assoc]⟩, ?_, ?_⟩
      · intro m hm
        rcases (seenAll_mem ts n0.mark i _ m).1 hm with hm | ⟨k, hk⟩
        · exact h2 m hm
        · obtain ⟨m0, h0, ks, h4⟩ := h2 n0.mark (marks_get.2 ⟨i, n0, e, rfl⟩)
          exact ⟨m0, h0, ks ++ [k], by rw [Flow.goes_snoc, h4]; exact hk⟩
      · intro j k m' n hj hn hx
        refine (seenAll_mem ts n0.mark i _ m').2 ?_
        have hil := (List.getElem?_eq_some_iff.1 e).1
        rw [hr2, List.getElem?_append_left (by omega)] at hn
        by_cases ej : j = i
        · subst ej; rw [e] at hn; injection hn with hn; subst hn; exact .inr ⟨k, hx⟩
        · exact .inl (h3 j k m' n (by omega) hn hx)
/-- spread comes to just what steps come to -/
theorem spread_mem {ts : List Flow.Tr} {l l' : List Flow.Node} (h : Flow.Spread ts l l') (m : Nat) : m ∈ Flow.marks l' ↔ ∃ m0 ∈ Flow.marks l, ∃ ks, Flow.goes ts m0 ks = some m := by
  obtain ⟨i, e, hi, _⟩ := h
  obtain ⟨⟨r, hr⟩, h2, h3⟩ := spreadTo_facts ts l i
  rw [← e] at hr h2 h3
  constructor
  · exact h2 m
  · rintro ⟨m0, h0, ks, hk⟩
    have h0' : m0 ∈ Flow.marks l' := by rw [hr]; unfold Flow.marks; rw [List.map_append]; exact List.mem_append_left _ h0
    clear h0
    induction ks generalizing m0 with
    | nil => have : m0 = m := by simpa [Flow.goes] using hk
             rw [← this]; exact h0'
    | cons k ks ih =>
      unfold Flow.goes at hk
      cases e1 : Flow.nextM ts m0 k with
      | none => rw [e1] at hk; cases hk
      | some m1 =>
        rw [e1] at hk
        obtain ⟨j, n, hj, hm⟩ := marks_get.1 h0'
        subst hm
        exact ih m1 hk (h3 j k m1 n (by rw [hi]; exact (List.getElem?_eq_some_iff.1 hj).1) hj e1)
/-- the first rounds of stepOn -/
def Flow.stepTo (ts : List Flow.Tr) (lb : List Flow.Node) : Nat → List Flow.Node
  | 0 => []
  | i + 1 => match lb[i]? with
    | none => Flow.stepTo ts lb i
    | some n => Flow.seenTo ts n.mark 0 (Flow.stepTo ts lb i) ts.length
theorem stepTo_at {ts : List Flow.Tr} {lb : List Flow.Node} {i : Nat} {n : Flow.Node} (h : lb[i]? = some n) : Flow.stepTo ts lb (i + 1) = Flow.seenTo ts n.mark 0 (Flow.stepTo ts lb i) ts.length := by
  show (match lb[i]? with | none => _ | some n => _) = _
  rw [h]
theorem stepTo_fine {ts : List Flow.Tr} {lb : List Flow.Node} (hts : ∀ t ∈ ts, Flow.Small t) (h : Flow.Fine lb) (i : Nat) : Flow.Fine (Flow.stepTo ts lb i) := by
  induction i with
  | zero => exact Flow.Fine.nil
  | succ i ih =>
    cases e : lb[i]? with
    | none => show Flow.Fine (match lb[i]? with | none => _ | some n => _); rw [e]; exact ih
    | some n => rw [stepTo_at e]; exact seenTo_fine hts (h.small i n e) ih _
theorem stepTo_mem (ts : List Flow.Tr) (lb : List Flow.Node) (i m : Nat) : m ∈ Flow.marks (Flow.stepTo ts lb i) ↔ ∃ (j k : Nat) (n : Flow.Node), j < i ∧ lb[j]? = some n ∧ Flow.nextM ts n.mark k = some m := by
  induction i with
  | zero =>
    constructor
    · intro h; cases h
    · rintro ⟨j, k, n, hj, _⟩; omega
  | succ i ih =>
    cases e : lb[i]? with
    | none =>
      have E : Flow.stepTo ts lb (i + 1) = Flow.stepTo ts lb i := by
        show (match lb[i]? with | none => _ | some n => _) = _
        rw [e]
      rw [E, ih]
      constructor
      · rintro ⟨j, k, n, h1, h2⟩; exact ⟨j, k, n, by omega, h2⟩
      · rintro ⟨j, k, n, h1, h2, h3⟩
        by_cases ej : j = i
        · subst ej; rw [e] at h2; cases h2
        · exact ⟨j, k, n, by omega, h2, h3⟩
    | some n0 =>
      rw [stepTo_at e, seenAll_mem, ih]
      constructor
      · rintro (⟨j, k, n, h1, h2⟩ | ⟨k, hk⟩)
        · exact ⟨j, k, n, by omega, h2⟩
        · exact ⟨i, k, n0, by omega, e, hk⟩
      · rintro ⟨j, k, n, h1, h2, h3⟩
        by_cases ej : j = i
        · subst ej; rw [e] at h2; injection h2 with h2; subst h2; exact .inr ⟨k, h3⟩
        · exact .inl ⟨j, k, n, by omega, h2, h3⟩
theorem stepAll_mem (ts : List Flow.Tr) (lb : List Flow.Node) (m : Nat) : m ∈ Flow.marks (Flow.stepTo ts lb lb.length) ↔ ∃ m0 ∈ Flow.marks lb, ∃ k, Flow.nextM ts m0 k = some m := by
  rw [stepTo_mem]
  constructor
  · rintro ⟨j, k, n, _, h2, h3⟩; exact ⟨n.mark, marks_get.2 ⟨j, n, h2, rfl⟩, k, h3⟩
  · rintro ⟨m0, h0, k, hk⟩
    obtain ⟨j, n, hj, rfl⟩ := marks_get.1 h0
    exact ⟨j, k, n, (List.getElem?_eq_some_iff.1 hj).1, hj, hk⟩

/-- the first letters of a word: what playsWord holds -/
theorem plays_first {ts : List Flow.Tr} {m0 : Nat} {l : List Flow.Node} (h : Flow.Spread (Flow.labelled ts 45) [⟨m0, -1, -1⟩] l) (m : Nat) : m ∈ Flow.marks l ↔ Flow.Spells ts m0 [] m := by
  rw [spread_mem h]
  constructor
  · rintro ⟨m1, h1, hg⟩
    have : m1 = m0 := by simpa [Flow.marks] using h1
    subst this
    exact goes_quiet.1 hg
  · intro hg
    exact ⟨m0, by simp [Flow.marks], goes_quiet.2 hg⟩
theorem plays_next {ts : List Flow.Tr} {m0 c : Nat} {u : List Nat} {l l' : List Flow.Node} (hc : c ≠ 45) (h : ∀ m, m ∈ Flow.marks l ↔ Flow.Spells ts m0 u m) (hs : Flow.Spread (Flow.labelled ts 45) (Flow.stepTo (Flow.labelled ts c) l l.length) l') (m : Nat) : m ∈ Flow.marks l' ↔ Flow.Spells ts m0 (u ++ [c]) m := by
  refine spells_next (l := Flow.marks l) (out := Flow.marks (Flow.stepTo (Flow.labelled ts c) l l.length)) (l' := Flow.marks l') h ?_ ?_ m
  · intro m'
    rw [stepAll_mem]
    constructor
    · rintro ⟨m1, h1, hk⟩
      obtain ⟨k, h2, h3⟩ := (labelled_loud hc).1 hk
      exact ⟨m1, k, h1, h2, h3⟩
    · rintro ⟨m1, k, h1, h2, h3⟩
      exact ⟨m1, h1, (labelled_loud hc).2 ⟨k, h2, h3⟩⟩
  · intro m'
    rw [spread_mem hs]
    constructor
    · rintro ⟨m1, h1, hg⟩
      obtain ⟨ks, h2, h3⟩ := goes_quiet.1 hg
      exact ⟨m1, h1, ks, h2, h3⟩
    · rintro ⟨m1, h1, ks, h2, h3⟩
      exact ⟨m1, h1, goes_quiet.2 ⟨ks, h2, h3⟩⟩

set_option maxHeartbeats 1000000 in
theorem labelled_any (ts : List Flow.Tr) (a : Option Addr) (cap base c : Nat) (w : World) (hlen : ts.length ≤ 16) (hown : w.ownsRow base 135 3 (.slice a ts.length cap) ts.length (cellsF ts)) :
    Calls Try.prog 69 #[.slice a ts.length cap, .int .u8 c] w fun e w' => ∃ a' cap', e = .returned (.slice a' (Flow.labelled ts c).length cap') ∧ w'.ownsRow w.heap.size 135 3 (.slice a' (Flow.labelled ts c).length cap') (Flow.labelled ts c).length (cellsF (Flow.labelled ts c)) ∧ Below w.heap.size w w' := by
  obtain ⟨i0, hi, hz0, hz1, hz2⟩ := info_parts Try.infoF
  have OW : Hid (w.ownsRow base 135 3 (.slice a ts.length cap) ts.length (cellsF ts)) := hown
  clear hown
  go_enter Try.func69, Try.ntmps69
  go_wp2
  go_loopw [5, 6] (fun s' k' wr => ∃ (k : Nat) (L : List Flow.Tr) (a' : Option Addr) (cap' : Nat), k ≤ ts.length ∧ k' = .int .i64 k ∧ L.length ≤ k ∧ s' = .slice a' L.length cap' ∧ Hid (L = Flow.labelled (ts.take k) c) ∧ Hid (wr.ownsRow w.heap.size 135 3 (.slice a' L.length cap') L.length (cellsF L)) ∧ Hid (Below w.heap.size w wr)) (fun _ k' _ => ts.length - (intOf k').toNat)
  case atStart => exact ⟨0, [], none, 0, by omega, rfl, by simp, rfl, rfl, World.ownsRow_nil _ _ _ _, Below.refl _ _⟩
  case round =>
    obtain ⟨k, L, a', cap', hk, rfl, hL, rfl, EL, HO, HW⟩ := hrel
    have hwb := HW.out.size
    by_cases hlt : k < ts.length
    · obtain ⟨t, ht⟩ : ∃ t, ts[k]? = some t := ⟨_, List.getElem?_eq_getElem hlt⟩
      have ow2 := owns_below OW.out HW.out (Nat.le_refl _)
      obtain ⟨g, capx, hv, _, hg2⟩ := ow2.form (by omega)
      injection hv with hv1 _ hv3
      subst hv1 hv3
      have t0 := ow2.cellAt (k * 3) (by omega)
      have t1 := ow2.cellAt (k * 3 + 1) (by omega)
      have t2 := ow2.cellAt (k * 3 + 2) (by omega)
      obtain ⟨f0, f1, f2⟩ := cellsF_get ht
      rw [f0] at t0
      rw [f1] at t1
      rw [f2] at t2
      have S := labelled_snoc (c := c) ht
      have hI0 : (0 : Int) ≤ (k : Int) := by omega
      have hI1 : (k : Int) < (ts.length : Int) := by omega
      clear ow2 f0 f1 f2 ht
      by_cases e : t.label = c
      · rw [if_pos e] at S
        have S' : Hid (Flow.labelled (ts.take (k + 1)) c = Flow.labelled (ts.take k) c ++ [t]) := S
        have te : ((t.label : Int) == (c : Int)) = true := by simp; omega
        clear S e
        go_wp2_with (at_builtin; go_must (refine wpList_append_lies _ rfl _ _ 62 rfl w.heap.size 135 i0 (.agg #[.int .u8 0, .int .i64 0, .int .i64 0]) 3 24 Try.underlying62 hi hz0 hz1 hz2 rfl (by decide) (.slice a' L.length cap') _ _ rfl (HO.out.alloc _) ⟨wr.heap.size, 0, none⟩ 1 1 [.int .u8 t.label, .int .i64 t.inn, .int .i64 t.out] rfl rfl (cell_three_at _ _ (by simp) _ _ _ _) (fun x hx => by simp at hx; rcases hx with rfl | rfl | rfl <;> rfl) (by decide) (by unfold maxLen; omega) (by omega) (by simp; omega) _ rfl ?_; intro g1 c1 w1 own1 gr1 at1 lt1; have O3 : Hid (w1.ownsRow w.heap.size 135 3 (.slice (some ⟨g1, 0, none⟩) (L.length + 1) c1) (L.length + 1) (cellsF L ++ [.int .u8 t.label, .int .i64 t.inn, .int .i64 t.out])) := own1; have B3 : Hid (Below w.heap.size w w1) := (HW.out.alloc hwb _).grown gr1 (by simp; omega) (fun i hi => (HO.out.lt _ hi).1); clear gr1 own1 at1 lt1))
        go_roundw
        case rel =>
          refine ⟨k + 1, L ++ [t], some ⟨g1, 0, none⟩, c1, by omega, by go_num, by simp; omega, by simp, ?_, ?_, B3⟩
          · show _ = _; rw [S'.out, EL.out]
          · show World.ownsRow _ _ _ _ _ _ _; rw [cellsF_snoc, List.length_append]; exact O3.out
        case measure => simp [intOf]; omega
      · rw [if_neg e] at S
        have S' : Hid (Flow.labelled (ts.take (k + 1)) c = Flow.labelled (ts.take k) c) := S
        have te : ((t.label : Int) == (c : Int)) = false := by simp; omega
        clear S e
        go_wp2
        go_roundw
        case rel => exact ⟨k + 1, L, a', cap', by omega, by go_num, by omega, rfl, by show _ = _; rw [S'.out, EL.out], HO, HW⟩
        case measure => simp [intOf]; omega
    · obtain rfl : k = ts.length := by omega
      have E : Hid (L = Flow.labelled ts c) := by show _ = _; rw [EL.out, List.take_length]
      go_wp2
      go_ret
      have o := HO.out
      refine ⟨a', cap', ?_, ?_, HW.out⟩
      · rw [← E.out]; rfl
      · rw [← E.out]; exact o
end Go.Proofs.Ytdlldljgogbiaab
