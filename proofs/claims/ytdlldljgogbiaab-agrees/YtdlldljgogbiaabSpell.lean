/-
  What steps spell; the words of a net: plain.
-/
import Derived.Test.YtdlldljgogbiaabNextR
namespace Go.Proofs.Ytdlldljgogbiaab
open Go.RowKit

/-- the label of transition k, if it has one that is not silent -/
def Flow.lab (ts : List Flow.Tr) (k : Nat) : Option Nat :=
  match ts[k]? with
  | none => none
  | some t => if t.label = 45 then none else some t.label
/-- what steps spell -/
def Flow.spelt (ts : List Flow.Tr) (ks : List Nat) : List Nat := ks.filterMap (Flow.lab ts)
theorem spelt_append (ts : List Flow.Tr) (a b : List Nat) : Flow.spelt ts (a ++ b) = Flow.spelt ts a ++ Flow.spelt ts b := by unfold Flow.spelt; rw [List.filterMap_append]
theorem spelt_split {ts : List Flow.Tr} {ks u : List Nat} {c : Nat} (h : Flow.spelt ts ks = u ++ [c]) : ∃ a k b, ks = a ++ k :: b ∧ Flow.spelt ts a = u ∧ Flow.lab ts k = some c ∧ Flow.spelt ts b = [] := by
  unfold Flow.spelt at h
  obtain ⟨a, d, rfl, h1, h2⟩ := List.filterMap_eq_append_iff.1 h
  obtain ⟨e, k, b, rfl, h3, h4, h5⟩ := List.filterMap_eq_cons_iff.1 h2
  refine ⟨a ++ e, k, b, by simp, ?_, h4, h5⟩
  rw [spelt_append]
  have : Flow.spelt ts e = [] := by
    unfold Flow.spelt
    rw [List.filterMap_eq_nil_iff]
    exact h3
  rw [this, List.append_nil]
  exact h1

/-- m is come to from a marking of l by silent steps -/
def Flow.Quiet (ts : List Flow.Tr) (l : List Nat) (m : Nat) : Prop := ∃ m0 ∈ l, ∃ ks, Flow.goes ts m0 ks = some m ∧ Flow.spelt ts ks = []
/-- m is come to by steps from m0 that spell u -/
def Flow.Spells (ts : List Flow.Tr) (m0 : Nat) (u : List Nat) (m : Nat) : Prop := ∃ ks, Flow.goes ts m0 ks = some m ∧ Flow.spelt ts ks = u
/-- a list of markings that is closed under silent steps, as far as all steps ahead of position (i, k) were looked at -/
structure Flow.QUpto (ts : List Flow.Tr) (l0 l : List Nat) (i k : Nat) : Prop where
  nodup : l.Nodup
  small : ∀ m ∈ l, m < 65536
  old : ∀ m ∈ l0, m ∈ l
  sound : ∀ m ∈ l, Flow.Quiet ts l0 m
  all : ∀ (p j m m' : Nat), l[p]? = some m → (p < i ∨ (p = i ∧ j < k)) → Flow.nextM ts m j = some m' → Flow.lab ts j = none → m' ∈ l

theorem nodup_size {l : List Nat} (h : l.Nodup) (hs : ∀ m ∈ l, m < 65536) : l.length ≤ 65536 := by
  have := h.length_le_of_subset (l₂ := List.range 65536) (fun m hm => List.mem_range.2 (hs m hm))
  simpa using this
theorem Flow.QUpto.start {ts : List Flow.Tr} {l : List Nat} (h : l.Nodup) (hs : ∀ m ∈ l, m < 65536) : Flow.QUpto ts l l 0 0 :=
  ⟨h, hs, fun _ h => h, fun m hm => ⟨m, hm, [], rfl, rfl⟩, fun p j m m' _ hp => by omega⟩
/-- a step of the search: nothing to be laid down -/
theorem Flow.QUpto.pass {ts : List Flow.Tr} {l0 l : List Nat} {i k m : Nat} (h : Flow.QUpto ts l0 l i k) (hi : l[i]? = some m) (hno : ∀ m', Flow.nextM ts m k = some m' → Flow.lab ts k = none → m' ∈ l) : Flow.QUpto ts l0 l i (k + 1) := by
  refine ⟨h.nodup, h.small, h.old, h.sound, ?_⟩
  intro p j m1 m' hp hc hn hl
  by_cases e : p = i ∧ j = k
  · obtain ⟨rfl, rfl⟩ := e
    rw [hi] at hp
    injection hp with hp
    subst hp
    exact hno m' hn hl
  · exact h.all p j m1 m' hp (by omega) hn hl
/-- .. or a new marking -/
theorem Flow.QUpto.new {ts : List Flow.Tr} {l0 l : List Nat} {i k m m' : Nat} (h : Flow.QUpto ts l0 l i k) (hi : l[i]? = some m) (hn : Flow.nextM ts m k = some m') (hl : Flow.lab ts k = none) (hs : m' < 65536) (hno : m' ∉ l) : Flow.QUpto ts l0 (l ++ [m']) i (k + 1) := by
  have hil := (List.getElem?_eq_some_iff.1 hi).1
  refine ⟨?_, ?_, fun x hx => List.mem_append_left _ (h.old x hx), ?_, ?_⟩
  · rw [List.nodup_append]
    refine ⟨h.nodup, by simp, ?_⟩
    intro a ha b hb e
    rw [List.mem_singleton.1 hb] at e
    rw [e] at ha
    exact hno ha
  · intro x hx
    rcases List.mem_append.1 hx with hx | hx
    · exact h.small x hx
    · rw [List.mem_singleton.1 hx]; exact hs
  · intro x hx
    rcases List.mem_append.1 hx with hx | hx
    · exact h.sound x hx
    · rw [List.mem_singleton.1 hx]
      obtain ⟨m0, hm0, ks, h1, h2⟩ := h.sound m (List.mem_of_getElem? hi)
      refine ⟨m0, hm0, ks ++ [k], by rw [Flow.goes_snoc, h1]; exact hn, ?_⟩
      rw [spelt_append, h2]
      show [k].filterMap (Flow.lab ts) = []
      rw [List.filterMap_cons, hl]; rfl
  · intro p j m1 m2 hp hc hn2 hl2
    have hpl : p < l.length := by omega
    rw [List.getElem?_append_left hpl] at hp
    by_cases e : p = i ∧ j = k
    · obtain ⟨rfl, rfl⟩ := e
      rw [hi] at hp
      injection hp with hp
      subst hp
      rw [hn] at hn2
      injection hn2 with hn2
      rw [← hn2]; simp
    · exact List.mem_append_left _ (h.all p j m1 m2 hp (by omega) hn2 hl2)
theorem Flow.QUpto.row {ts : List Flow.Tr} {l0 l : List Nat} {i : Nat} (h : Flow.QUpto ts l0 l i ts.length) : Flow.QUpto ts l0 l (i + 1) 0 := by
  refine ⟨h.nodup, h.small, h.old, h.sound, ?_⟩
  intro p j m m' hp hc hn hl
  have hj : j < ts.length := by
    rcases Nat.lt_or_ge j ts.length with g | g
    · exact g
    · unfold Flow.nextM at hn; rw [List.getElem?_eq_none g] at hn; cases hn
  exact h.all p j m m' hp (by omega) hn hl
/-- the whole search meets just the markings that silent steps come to -/
theorem Flow.QUpto.iff {ts : List Flow.Tr} {l0 l : List Nat} (h : Flow.QUpto ts l0 l l.length 0) (m : Nat) : m ∈ l ↔ Flow.Quiet ts l0 m := by
  constructor
  · exact h.sound m
  · rintro ⟨m0, hm0, ks, h1, h2⟩
    have key : ∀ (ks : List Nat) (a b : Nat), a ∈ l → Flow.goes ts a ks = some b → Flow.spelt ts ks = [] → b ∈ l := by
      intro ks
      induction ks with
      | nil => intro a b ha hg _; have : a = b := by simpa [Flow.goes] using hg
               rw [← this]; exact ha
      | cons k ks ih =>
        intro a b ha hg hs
        unfold Flow.goes at hg
        cases e : Flow.nextM ts a k with
        | none => rw [e] at hg; cases hg
        | some c =>
          rw [e] at hg
          unfold Flow.spelt at hs
          rw [List.filterMap_eq_nil_iff] at hs
          obtain ⟨p, hp⟩ := List.mem_iff_getElem?.1 ha
          refine ih c b (h.all p k a c hp (.inl (List.getElem?_eq_some_iff.1 hp).1) e (hs k (by simp))) hg ?_
          unfold Flow.spelt
          rw [List.filterMap_eq_nil_iff]
          intro x hx; exact hs x (by simp [hx])
    exact key ks m0 m (h.old m0 hm0) h1 h2

/-- the markings behind one step with the label c, as far as all steps ahead of position (i, k) were looked at -/
structure Flow.LUpto (ts : List Flow.Tr) (l out : List Nat) (c i k : Nat) : Prop where
  nodup : out.Nodup
  small : ∀ m ∈ out, m < 65536
  sound : ∀ m' ∈ out, ∃ (m j : Nat), m ∈ l ∧ Flow.nextM ts m j = some m' ∧ Flow.lab ts j = some c
  all : ∀ (p j m m' : Nat), l[p]? = some m → (p < i ∨ (p = i ∧ j < k)) → Flow.nextM ts m j = some m' → Flow.lab ts j = some c → m' ∈ out
theorem Flow.LUpto.start (ts : List Flow.Tr) (l : List Nat) (c : Nat) : Flow.LUpto ts l [] c 0 0 :=
  ⟨by simp, fun m hm => (by cases hm), fun m hm => (by cases hm), fun p j m m' _ hp => by omega⟩
theorem Flow.LUpto.pass {ts : List Flow.Tr} {l out : List Nat} {c i k m : Nat} (h : Flow.LUpto ts l out c i k) (hi : l[i]? = some m) (hno : ∀ m', Flow.nextM ts m k = some m' → Flow.lab ts k = some c → m' ∈ out) : Flow.LUpto ts l out c i (k + 1) := by
  refine ⟨h.nodup, h.small, h.sound, ?_⟩
  intro p j m1 m' hp hc hn hl
  by_cases e : p = i ∧ j = k
  · obtain ⟨rfl, rfl⟩ := e
    rw [hi] at hp
    injection hp with hp
    subst hp
    exact hno m' hn hl
  · exact h.all p j m1 m' hp (by omega) hn hl
theorem Flow.LUpto.new {ts : List Flow.Tr} {l out : List Nat} {c i k m m' : Nat} (h : Flow.LUpto ts l out c i k) (hi : l[i]? = some m) (hn : Flow.nextM ts m k = some m') (hl : Flow.lab ts k = some c) (hs : m' < 65536) (hno : m' ∉ out) : Flow.LUpto ts l (out ++ [m']) c i (k + 1) := by
  refine ⟨?_, ?_, ?_, ?_⟩
  · rw [List.nodup_append]
    refine ⟨h.nodup, by simp, ?_⟩
    intro a ha b hb e
    rw [List.mem_singleton.1 hb] at e
    rw [e] at ha
    exact hno ha
  · intro x hx
    rcases List.mem_append.1 hx with hx | hx
    · exact h.small x hx
    · rw [List.mem_singleton.1 hx]; exact hs
  · intro x hx
    rcases List.mem_append.1 hx with hx | hx
    · exact h.sound x hx
    · rw [List.mem_singleton.1 hx]; exact ⟨m, k, List.mem_of_getElem? hi, hn, hl⟩
  · intro p j m1 m2 hp hc hn2 hl2
    by_cases e : p = i ∧ j = k
    · obtain ⟨rfl, rfl⟩ := e
      rw [hi] at hp
      injection hp with hp
      subst hp
      rw [hn] at hn2
      injection hn2 with hn2
      rw [← hn2]; simp
    · exact List.mem_append_left _ (h.all p j m1 m2 hp (by omega) hn2 hl2)
theorem Flow.LUpto.row {ts : List Flow.Tr} {l out : List Nat} {c i : Nat} (h : Flow.LUpto ts l out c i ts.length) : Flow.LUpto ts l out c (i + 1) 0 := by
  refine ⟨h.nodup, h.small, h.sound, ?_⟩
  intro p j m m' hp hc hn hl
  have hj : j < ts.length := by
    rcases Nat.lt_or_ge j ts.length with g | g
    · exact g
    · unfold Flow.nextM at hn; rw [List.getElem?_eq_none g] at hn; cases hn
  exact h.all p j m m' hp (by omega) hn hl
theorem Flow.LUpto.iff {ts : List Flow.Tr} {l out : List Nat} {c : Nat} (h : Flow.LUpto ts l out c l.length 0) (m' : Nat) : m' ∈ out ↔ ∃ (m j : Nat), m ∈ l ∧ Flow.nextM ts m j = some m' ∧ Flow.lab ts j = some c := by
  constructor
  · exact h.sound m'
  · rintro ⟨m, j, hm, h1, h2⟩
    obtain ⟨p, hp⟩ := List.mem_iff_getElem?.1 hm
    exact h.all p j m m' hp (.inl (List.getElem?_eq_some_iff.1 hp).1) h1 h2

/-- the first markings: those that spell nothing -/
theorem spells_first {ts : List Flow.Tr} {m0 : Nat} {l : List Nat} (h : ∀ m, m ∈ l ↔ Flow.Quiet ts [m0] m) (m : Nat) : m ∈ l ↔ Flow.Spells ts m0 [] m := by
  rw [h m]
  constructor
  · rintro ⟨m1, hm1, ks, h1, h2⟩
    rw [List.mem_singleton.1 hm1] at h1
    exact ⟨ks, h1, h2⟩
  · rintro ⟨ks, h1, h2⟩
    exact ⟨m0, by simp, ks, h1, h2⟩
/-- one letter more -/
theorem spells_next {ts : List Flow.Tr} {m0 c : Nat} {u : List Nat} {l out l' : List Nat} (h : ∀ m, m ∈ l ↔ Flow.Spells ts m0 u m) (ho : ∀ m', m' ∈ out ↔ ∃ (m j : Nat), m ∈ l ∧ Flow.nextM ts m j = some m' ∧ Flow.lab ts j = some c) (hq : ∀ m, m ∈ l' ↔ Flow.Quiet ts out m) (m : Nat) : m ∈ l' ↔ Flow.Spells ts m0 (u ++ [c]) m := by
  rw [hq m]
  constructor
  · rintro ⟨m2, hm2, ks, h1, h2⟩
    obtain ⟨m1, j, hm1, h3, h4⟩ := (ho m2).1 hm2
    obtain ⟨js, h5, h6⟩ := (h m1).1 hm1
    refine ⟨(js ++ [j]) ++ ks, ?_, ?_⟩
    · rw [Flow.goes_append, Flow.goes_snoc, h5]
      dsimp only
      rw [h3]
      exact h1
    · rw [spelt_append, spelt_append, h6, h2, List.append_nil]
      show u ++ [j].filterMap (Flow.lab ts) = _
      rw [List.filterMap_cons, h4]; rfl
  · rintro ⟨ks, h1, h2⟩
    obtain ⟨a, k, b, rfl, h3, h4, h5⟩ := spelt_split h2
    rw [Flow.goes_append] at h1
    cases e : Flow.goes ts m0 a with
    | none => rw [e] at h1; cases h1
    | some m1 =>
      rw [e] at h1
      dsimp only at h1
      unfold Flow.goes at h1
      cases e2 : Flow.nextM ts m1 k with
      | none => rw [e2] at h1; cases h1
      | some m2 =>
        rw [e2] at h1
        exact ⟨m2, (ho m2).2 ⟨m1, k, (h m1).2 ⟨a, e, h3⟩, e2, h4⟩, b, h1, h5⟩
end Go.Proofs.Ytdlldljgogbiaab
