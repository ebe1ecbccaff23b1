/-
  Laid as one: Spell, ListR, QuietR, LoudR, WordsR, PlaysR.
-/
import Derived.Test.YtdlldljgogbiaabGreatNextR
import Derived.Test.YtdlldljgogbiaabGreatLayR
import Derived.Deep.QuietTactic
import Derived.BigQuiet
import Derived.RegionCalls
import Derived.Deep.RegionWith
import Derived.Test.YtdlldljgogbiaabGreatBaseM
import Derived.Deep.RegionHeld3
import Derived.Test.YtdlldljgogbiaabGreatFireR
namespace Go.Proofs.YtdlldljgogbiaabGreat
open Go.RowKit

/-- the label of transition k, if it has one that is not silent -/
def Flow.lab (ts : List Flow.Tr) (k : Nat) : Option Nat :=
  match ts[k]? with
  | none => none
  | some t => if t.label = 45 then none else some t.label
/-- what steps spell -/
def Flow.spelt (ts : List Flow.Tr) (ks : List Nat) : List Nat := ks.filterMap (Flow.lab ts)
theorem spelt_append (ts : List Flow.Tr) (a b : List Nat) : Flow.spelt ts (a ++ b) = Flow.spelt ts a ++ Flow.spelt ts b := by unfold Flow.spelt; rw [List.filterMap_append]
theorem spelt_split {ts : List Flow.Tr} {ks u : List Nat} {c : Nat} (h : Flow.spelt ts ks = u ++ [c]) : ∃ a k b, ks = a ++ k :: b ∧ Flow.spelt ts a = u ∧ Flow.lab ts k = some c ∧ Flow.spelt ts b = [] := by
  unfold Flow.spelt at h
  obtain ⟨a, d, rfl, h1, h2⟩ := List.filterMap_eq_append_iff.1 h
  obtain ⟨e, k, b, rfl, h3, h4, h5⟩ := List.filterMap_eq_cons_iff.1 h2
  refine ⟨a ++ e, k, b, by simp, ?_, h4, h5⟩
  rw [spelt_append]
  have : Flow.spelt ts e = [] := by
    unfold Flow.spelt
    rw [List.filterMap_eq_nil_iff]
    exact h3
  rw [this, List.append_nil]
  exact h1

/-- m is come to from a marking of l by silent steps -/
def Flow.Quiet (ts : List Flow.Tr) (l : List Nat) (m : Nat) : Prop := ∃ m0 ∈ l, ∃ ks, Flow.goes ts m0 ks = some m ∧ Flow.spelt ts ks = []
/-- m is come to by steps from m0 that spell u -/
def Flow.Spells (ts : List Flow.Tr) (m0 : Nat) (u : List Nat) (m : Nat) : Prop := ∃ ks, Flow.goes ts m0 ks = some m ∧ Flow.spelt ts ks = u
/-- a list of markings that is closed under silent steps, as far as all steps ahead of position (i, k) were looked at -/
structure Flow.QUpto (ts : List Flow.Tr) (l0 l : List Nat) (i k : Nat) : Prop where
  nodup : l.Nodup
  small : ∀ m ∈ l, m < 65536
  old : ∀ m ∈ l0, m ∈ l
  sound : ∀ m ∈ l, Flow.Quiet ts l0 m
  all : ∀ (p j m m' : Nat), l[p]? = some m → (p < i ∨ (p = i ∧ j < k)) → Flow.nextM ts m j = some m' → Flow.lab ts j = none → m' ∈ l

theorem nodup_size {l : List Nat} (h : l.Nodup) (hs : ∀ m ∈ l, m < 65536) : l.length ≤ 65536 := by
  have := h.length_le_of_subset (l₂ := List.range 65536) (fun m hm => List.mem_range.2 (hs m hm))
  simpa using this
theorem Flow.QUpto.start {ts : List Flow.Tr} {l : List Nat} (h : l.Nodup) (hs : ∀ m ∈ l, m < 65536) : Flow.QUpto ts l l 0 0 :=
  ⟨h, hs, fun _ h => h, fun m hm => ⟨m, hm, [], rfl, rfl⟩, fun p j m m' _ hp => by omega⟩
/-- a step of the search: nothing to be laid down -/
theorem Flow.QUpto.pass {ts : List Flow.Tr} {l0 l : List Nat} {i k m : Nat} (h : Flow.QUpto ts l0 l i k) (hi : l[i]? = some m) (hno : ∀ m', Flow.nextM ts m k = some m' → Flow.lab ts k = none → m' ∈ l) : Flow.QUpto ts l0 l i (k + 1) := by
  refine ⟨h.nodup, h.small, h.old, h.sound, ?_⟩
  intro p j m1 m' hp hc hn hl
  by_cases e : p = i ∧ j = k
  · obtain ⟨rfl, rfl⟩ := e
    rw [hi] at hp
    injection hp with hp
    subst hp
    exact hno m' hn hl
  · exact h.all p j m1 m' hp (by omega) hn hl
/-- .. or a new marking -/
theorem Flow.QUpto.new {ts : List Flow.Tr} {l0 l : List Nat} {i k m m' : Nat} (h : Flow.QUpto ts l0 l i k) (hi : l[i]? = some m) (hn : Flow.nextM ts m k = some m') (hl : Flow.lab ts k = none) (hs : m' < 65536) (hno : m' ∉ l) : Flow.QUpto ts l0 (l ++ [m']) i (k + 1) := by
  have hil := (List.getElem?_eq_some_iff.1 hi).1
  refine ⟨?_, ?_, fun x hx => List.mem_append_left _ (h.old x hx), ?_, ?_⟩
  · rw [List.nodup_append]
    refine ⟨h.nodup, by simp, ?_⟩
    intro a ha b hb e
    rw [List.mem_singleton.1 hb] at e
    rw [e] at ha
    exact hno ha
  · intro x hx
    rcases List.mem_append.1 hx with hx | hx
    · exact h.small x hx
    · rw [List.mem_singleton.1 hx]; exact hs
  · intro x hx
    rcases List.mem_append.1 hx with hx | hx
    · exact h.sound x hx
    · rw [List.mem_singleton.1 hx]
      obtain ⟨m0, hm0, ks, h1, h2⟩ := h.sound m (List.mem_of_getElem? hi)
      refine ⟨m0, hm0, ks ++ [k], by rw [Flow.goes_snoc, h1]; exact hn, ?_⟩
      rw [spelt_append, h2]
      show [k].filterMap (Flow.lab ts) = []
      rw [List.filterMap_cons, hl]; rfl
  · intro p j m1 m2 hp hc hn2 hl2
    have hpl : p < l.length := by omega
    rw [List.getElem?_append_left hpl] at hp
    by_cases e : p = i ∧ j = k
    · obtain ⟨rfl, rfl⟩ := e
      rw [hi] at hp
      injection hp with hp
      subst hp
      rw [hn] at hn2
      injection hn2 with hn2
      rw [← hn2]; simp
    · exact List.mem_append_left _ (h.all p j m1 m2 hp (by omega) hn2 hl2)
theorem Flow.QUpto.row {ts : List Flow.Tr} {l0 l : List Nat} {i : Nat} (h : Flow.QUpto ts l0 l i ts.length) : Flow.QUpto ts l0 l (i + 1) 0 := by
  refine ⟨h.nodup, h.small, h.old, h.sound, ?_⟩
  intro p j m m' hp hc hn hl
  have hj : j < ts.length := by
    rcases Nat.lt_or_ge j ts.length with g | g
    · exact g
    · unfold Flow.nextM at hn; rw [List.getElem?_eq_none g] at hn; cases hn
  exact h.all p j m m' hp (by omega) hn hl
/-- the whole search meets just the markings that silent steps come to -/
theorem Flow.QUpto.iff {ts : List Flow.Tr} {l0 l : List Nat} (h : Flow.QUpto ts l0 l l.length 0) (m : Nat) : m ∈ l ↔ Flow.Quiet ts l0 m := by
  constructor
  · exact h.sound m
  · rintro ⟨m0, hm0, ks, h1, h2⟩
    have key : ∀ (ks : List Nat) (a b : Nat), a ∈ l → Flow.goes ts a ks = some b → Flow.spelt ts ks = [] → b ∈ l := by
      intro ks
      induction ks with
      | nil => intro a b ha hg _; have : a = b := by simpa [Flow.goes] using hg
               rw [← this]; exact ha
      | cons k ks ih =>
        intro a b ha hg hs
        unfold Flow.goes at hg
        cases e : Flow.nextM ts a k with
        | none => rw [e] at hg; cases hg
        | some c =>
          rw [e] at hg
          unfold Flow.spelt at hs
          rw [List.filterMap_eq_nil_iff] at hs
          obtain ⟨p, hp⟩ := List.mem_iff_getElem?.1 ha
          refine ih c b (h.all p k a c hp (.inl (List.getElem?_eq_some_iff.1 hp).1) e (hs k (by simp))) hg ?_
          unfold Flow.spelt
          rw [List.filterMap_eq_nil_iff]
          intro x hx; exact hs x (by simp [hx])
    exact key ks m0 m (h.old m0 hm0) h1 h2

/-- the markings behind one step with the label c, as far as all steps ahead of position (i, k) were looked at -/
structure Flow.LUpto (ts : List Flow.Tr) (l out : List Nat) (c i k : Nat) : Prop where
  nodup : out.Nodup
  small : ∀ m ∈ out, m < 65536
  sound : ∀ m' ∈ out, ∃ (m j : Nat), m ∈ l ∧ Flow.nextM ts m j = some m' ∧ Flow.lab ts j = some c
  all : ∀ (p j m m' : Nat), l[p]? = some m → (p < i ∨ (p = i ∧ j < k)) → Flow.nextM ts m j = some m' → Flow.lab ts j = some c → m' ∈ out
theorem Flow.LUpto.start (ts : List Flow.Tr) (l : List Nat) (c : Nat) : Flow.LUpto ts l [] c 0 0 :=
  ⟨by simp, fun m hm => (by cases hm), fun m hm => (by cases hm), fun p j m m' _ hp => by omega⟩
theorem Flow.LUpto.pass {ts : List Flow.Tr} {l out : List Nat} {c i k m : Nat} (h : Flow.LUpto ts l out c i k) (hi : l[i]? = some m) (hno : ∀ m', Flow.nextM ts m k = some m' → Flow.lab ts k = some c → m' ∈ out) : Flow.LUpto ts l out c i (k + 1) := by
  refine ⟨h.nodup, h.small, h.sound, ?_⟩
  intro p j m1 m' hp hc hn hl
  by_cases e : p = i ∧ j = k
  · obtain ⟨rfl, rfl⟩ := e
    rw [hi] at hp
    injection hp with hp
    subst hp
    exact hno m' hn hl
  · exact h.all p j m1 m' hp (by omega) hn hl
theorem Flow.LUpto.new {ts : List Flow.Tr} {l out : List Nat} {c i k m m' : Nat} (h : Flow.LUpto ts l out c i k) (hi : l[i]? = some m) (hn : Flow.nextM ts m k = some m') (hl : Flow.lab ts k = some c) (hs : m' < 65536) (hno : m' ∉ out) : Flow.LUpto ts l (out ++ [m']) c i (k + 1) := by
  refine ⟨?_, ?_, ?_, ?_⟩
  · rw [List.nodup_append]
    refine ⟨h.nodup, by simp, ?_⟩
    intro a ha b hb e
    rw [List.mem_singleton.1 hb] at e
    rw [e] at ha
    exact hno ha
  · intro x hx
    rcases List.mem_append.1 hx with hx | hx
    · exact h.small x hx
    · rw [List.mem_singleton.1 hx]; exact hs
  · intro x hx
    rcases List.mem_append.1 hx with hx | hx
    · exact h.sound x hx
    · rw [List.mem_singleton.1 hx]; exact ⟨m, k, List.mem_of_getElem? hi, hn, hl⟩
  · intro p j m1 m2 hp hc hn2 hl2
    by_cases e : p = i ∧ j = k
    · obtain ⟨rfl, rfl⟩ := e
      rw [hi] at hp
      injection hp with hp
      subst hp
      rw [hn] at hn2
      injection hn2 with hn2
      rw [← hn2]; simp
    · exact List.mem_append_left _ (h.all p j m1 m2 hp (by omega) hn2 hl2)
theorem Flow.LUpto.row {ts : List Flow.Tr} {l out : List Nat} {c i : Nat} (h : Flow.LUpto ts l out c i ts.length) : Flow.LUpto ts l out c (i + 1) 0 := by
  refine ⟨h.nodup, h.small, h.sound, ?_⟩
  intro p j m m' hp hc hn hl
  have hj : j < ts.length := by
    rcases Nat.lt_or_ge j ts.length with g | g
    · exact g
    · unfold Flow.nextM at hn; rw [List.getElem?_eq_none g] at hn; cases hn
  exact h.all p j m m' hp (by omega) hn hl
theorem Flow.LUpto.iff {ts : List Flow.Tr} {l out : List Nat} {c : Nat} (h : Flow.LUpto ts l out c l.length 0) (m' : Nat) : m' ∈ out ↔ ∃ (m j : Nat), m ∈ l ∧ Flow.nextM ts m j = some m' ∧ Flow.lab ts j = some c := by
  constructor
  · exact h.sound m'
  · rintro ⟨m, j, hm, h1, h2⟩
    obtain ⟨p, hp⟩ := List.mem_iff_getElem?.1 hm
    exact h.all p j m m' hp (.inl (List.getElem?_eq_some_iff.1 hp).1) h1 h2

/-- the first markings: those that spell nothing -/
theorem spells_first {ts : List Flow.Tr} {m0 : Nat} {l : List Nat} (h : ∀ m, m ∈ l ↔ Flow.Quiet ts [m0] m) (m : Nat) : m ∈ l ↔ Flow.Spells ts m0 [] m := by
  rw [h m]
  constructor
  · rintro ⟨m1, hm1, ks, h1, h2⟩
    rw [List.mem_singleton.1 hm1] at h1
    exact ⟨ks, h1, h2⟩
  · rintro ⟨ks, h1, h2⟩
    exact ⟨m0, by simp, ks, h1, h2⟩
/-- one letter more -/
theorem spells_next {ts : List Flow.Tr} {m0 c : Nat} {u : List Nat} {l out l' : List Nat} (h : ∀ m, m ∈ l ↔ Flow.Spells ts m0 u m) (ho : ∀ m', m' ∈ out ↔ ∃ (m j : Nat), m ∈ l ∧ Flow.nextM ts m j = some m' ∧ Flow.lab ts j = some c) (hq : ∀ m, m ∈ l' ↔ Flow.Quiet ts out m) (m : Nat) : m ∈ l' ↔ Flow.Spells ts m0 (u ++ [c]) m := by
  rw [hq m]
  constructor
  · rintro ⟨m2, hm2, ks, h1, h2⟩
    obtain ⟨m1, j, hm1, h3, h4⟩ := (ho m2).1 hm2
    obtain ⟨js, h5, h6⟩ := (h m1).1 hm1
    refine ⟨(js ++ [j]) ++ ks, ?_, ?_⟩
    · rw [Flow.goes_append, Flow.goes_snoc, h5]
      dsimp only
      rw [h3]
      exact h1
    · rw [spelt_append, spelt_append, h6, h2, List.append_nil]
      show u ++ [j].filterMap (Flow.lab ts) = _
      rw [List.filterMap_cons, h4]; rfl
  · rintro ⟨ks, h1, h2⟩
    obtain ⟨a, k, b, rfl, h3, h4, h5⟩ := spelt_split h2
    rw [Flow.goes_append] at h1
    cases e : Flow.goes ts m0 a with
    | none => rw [e] at h1; cases h1
    | some m1 =>
      rw [e] at h1
      dsimp only at h1
      unfold Flow.goes at h1
      cases e2 : Flow.nextM ts m1 k with
      | none => rw [e2] at h1; cases h1
      | some m2 =>
        rw [e2] at h1
        exact ⟨m2, (ho m2).2 ⟨m1, k, (h m1).2 ⟨a, e, h3⟩, e2, h4⟩, b, h1, h5⟩
end Go.Proofs.YtdlldljgogbiaabGreat
namespace Go.Proofs.YtdlldljgogbiaabGreat
open Go.RowKit
set_option linter.unusedVariables false
set_option maxRecDepth 20000

/-- markings as cells -/
def cellsN (l : List Nat) : List Value := l.map fun (m : Nat) => .int .i64 (m : Int)
theorem cellsN_snoc (l : List Nat) (m : Nat) : cellsN (l ++ [m]) = cellsN l ++ [.int .i64 (m : Int)] := by simp [cellsN]
theorem cellsN_get {l : List Nat} {i m : Nat} (h : l[i]? = some m) : (cellsN l)[i]? = some (.int .i64 (m : Int)) := by simp [cellsN, h]

set_option maxHeartbeats 1000000 in
theorem inList_any (l : List Nat) (m : Nat) (a : Option Addr) (cap base : Nat) (w : World) (hl : l.length ≤ 65536) (hown : w.ownsRow base 3 1 (.slice a l.length cap) l.length (cellsN l)) :
    Calls Tryz.prog 99 #[.slice a l.length cap, .int .i64 m] w fun e w' => e = .returned (.bool (decide (m ∈ l))) ∧ w = w' := by
  have OW : Hid (w.ownsRow base 3 1 (.slice a l.length cap) l.length (cellsN l)) := hown
  have HL : Hid (l.length ≤ 65536) := hl
  clear hown
  go_enter Tryz.func99, Tryz.ntmps99
  go_wp2
  go_loop [5] (fun i' => ∃ (i : Nat), i ≤ l.length ∧ i' = .int .i64 i ∧ Hid (∀ (p x : Nat), p < i → l[p]? = some x → x ≠ m)) (fun i' => l.length - (intOf i').toNat)
  case atStart => exact ⟨0, by omega, rfl, fun p x hp => by omega⟩
  case round =>
    obtain ⟨i, hil, rfl, HN⟩ := hrel
    by_cases hlt : i < l.length
    · obtain ⟨x, hx⟩ : ∃ x, l[i]? = some x := ⟨_, List.getElem?_eq_getElem hlt⟩
      obtain ⟨g, capx, hv, _, hg2⟩ := OW.out.form (by omega)
      injection hv with hv1 _ hv3
      subst hv1 hv3
      have t0 := OW.out.cellAt i (by omega)
      rw [cellsN_get hx] at t0
      have hI0 : (0 : Int) ≤ (i : Int) := by omega
      have hI1 : (i : Int) < (l.length : Int) := by omega
      have N : Hid (l[i]? = some x) := hx
      clear hx
      by_cases he : x = m
      · have te : ((x : Int) == (m : Int)) = true := by rw [he]; simp
        have R : Hid (decide (m ∈ l) = true) := decide_eq_true (by rw [← he]; exact List.mem_of_getElem? N.out)
        clear he
        go_wp2
        go_ret
        exact ⟨by rw [R.out]; rfl, rfl⟩
      · have te : ((x : Int) == (m : Int)) = false := by simp; omega
        have HN' : Hid (∀ (p x : Nat), p < i + 1 → l[p]? = some x → x ≠ m) := by
          intro p y hp hy
          by_cases e : p = i
          · subst e; rw [N.out] at hy; injection hy with hy; rw [← hy]; exact he
          · exact HN.out p y (by omega) hy
        clear he
        go_wp2
        go_round
        case rel => exact ⟨i + 1, by omega, by go_num, HN'⟩
        case measure => simp [intOf]; omega
    · obtain rfl : i = l.length := by omega
      have R : Hid (decide (m ∈ l) = false) := decide_eq_false (fun h => by
        obtain ⟨p, hp⟩ := List.mem_iff_getElem?.1 h
        exact HN.out p m (List.getElem?_eq_some_iff.1 hp).1 hp rfl)
      go_wp2
      go_ret
      exact ⟨by rw [R.out]; rfl, rfl⟩

theorem grown_alloc {w w1 : World} {o : Obj} {row : Option Nat} (h : (w.alloc o).grownBy w1 row) : w.grownBy w1 row :=
  ⟨h.os, h.tape, h.output, by have := h.size; simp at this; omega, fun k hk hr => (h.block k (by simp; omega) hr).trans (Below.heap_alloc w o k hk)⟩
theorem grown_refl (w : World) (row : Option Nat) : w.grownBy w row := ⟨rfl, rfl, rfl, Nat.le_refl _, fun _ _ _ => rfl⟩

theorem with_old (l : List Nat) (m : Nat) (a : Option Addr) (cap base : Nat) (w : World) (hl : l.length ≤ 65536) (hin : m ∈ l) (hown : w.ownsRow base 3 1 (.slice a l.length cap) l.length (cellsN l)) :
    Calls Tryz.prog 114 #[.slice a l.length cap, .int .i64 m] w fun e w' => e = .returned (.slice a l.length cap) ∧ w = w' := by
  have c1 := inList_any l m a cap base w hl hown
  rw [decide_eq_true hin] at c1
  clear hl hin hown
  go_enter Tryz.func114, Tryz.ntmps114
  go_wp2_with (go_at_call 99; refine c1.mono ?_; rintro e w' ⟨rfl, rfl⟩)
  go_ret
  exact ⟨rfl, rfl⟩
set_option maxHeartbeats 1000000 in
theorem with_new (l : List Nat) (m : Nat) (a : Option Addr) (cap base : Nat) (w : World) (hl : l.length < 65536) (hno : m ∉ l) (hbase : base ≤ w.heap.size) (hown : w.ownsRow base 3 1 (.slice a l.length cap) l.length (cellsN l)) :
    Calls Tryz.prog 114 #[.slice a l.length cap, .int .i64 m] w fun e w' => ∃ g cap', e = .returned (.slice (some ⟨g, 0, none⟩) (l.length + 1) cap') ∧ w'.ownsRow base 3 1 (.slice (some ⟨g, 0, none⟩) (l.length + 1) cap') (l.length + 1) (cellsN (l ++ [m])) ∧ w.grownBy w' (obk a) ∧ (obk a = some g ∨ w.heap.size < g) := by
  obtain ⟨i0, hi, hz0, hz1, hz2⟩ := info_parts Tryz.infoI
  have c1 := inList_any l m a cap base w (by omega) hown
  rw [decide_eq_false hno] at c1
  have OW : Hid (w.ownsRow base 3 1 (.slice a l.length cap) l.length (cellsN l)) := hown
  clear hno hown
  go_enter Tryz.func114, Tryz.ntmps114
  go_wp2_with (first | (go_at_call 99; refine c1.mono ?_; rintro e w' ⟨rfl, rfl⟩) | (at_builtin; go_must (refine wpList_append_lies _ rfl _ _ 86 rfl base 3 i0 (.int .i64 0) 1 8 Tryz.underlying86 hi hz0 hz1 hz2 rfl (by decide) (.slice a l.length cap) _ _ rfl (OW.out.alloc _) ⟨w.heap.size, 0, none⟩ 1 1 [.int .i64 m] rfl rfl (cell_one_new _ _ _) (fun x hx => by simp at hx; subst hx; rfl) (by decide) (by unfold maxLen; omega) (by omega) (by simp; omega) (w.heap.size + 1) (by simp) ?_; intro g1 cp w1 own1 gr1 at1 lt1; rw [ownBlock_slice] at gr1 at1; have O3 : Hid (w1.ownsRow base 3 1 (.slice (some ⟨g1, 0, none⟩) (l.length + 1) cp) (l.length + 1) (cellsN l ++ [.int .i64 (m : Int)])) := own1; have G3 : Hid (w.grownBy w1 (obk a)) := grown_alloc gr1; have AT : Hid (obk a = some g1 ∨ g1 = w.heap.size + 1) := at1; clear gr1 own1 at1 lt1)))
  go_ret
  refine ⟨g1, cp, rfl, by rw [cellsN_snoc]; exact O3.out, G3.out, ?_⟩
  rcases AT.out with h | h
  · exact .inl h
  · exact .inr (by omega)
end Go.Proofs.YtdlldljgogbiaabGreat
namespace Go.Proofs.YtdlldljgogbiaabGreat
open Go.RowKit
set_option linter.unusedVariables false
set_option maxRecDepth 20000

/-- the cells of a net that was boxed -/
abbrev netQ (x y : Int) (a : Option Addr) (n cap : Nat) : Array Value := #[.int .i64 x, .int .i64 y, .slice a n cap]

theorem lab_at {ts : List Flow.Tr} {k : Nat} {t : Flow.Tr} (h : ts[k]? = some t) : (Flow.lab ts k = none ↔ t.label = 45) := by
  unfold Flow.lab; rw [h]; dsimp only
  by_cases e : t.label = 45
  · rw [if_pos e]; simp [e]
  · rw [if_neg e]; simp [e]
theorem lab_is {ts : List Flow.Tr} {k c : Nat} {t : Flow.Tr} (h : ts[k]? = some t) : (Flow.lab ts k = some c ↔ t.label = c ∧ c ≠ 45) := by
  unfold Flow.lab; rw [h]; dsimp only
  by_cases e : t.label = 45
  · rw [if_pos e]; simp [e]; omega
  · rw [if_neg e]; simp; intro h1; rw [← h1]; exact e
theorem grown_trans {w w1 w2 : World} {r s : Option Nat} (h : w.grownBy w1 r) (g : w1.grownBy w2 s) (hs : s = r ∨ ∀ k, s = some k → w.heap.size ≤ k) : w.grownBy w2 r := by
  refine ⟨g.os.trans h.os, g.tape.trans h.tape, g.output.trans h.output, Nat.le_trans h.size g.size, ?_⟩
  intro k hk hr
  refine (g.block k (Nat.lt_of_lt_of_le hk h.size) ?_).trans (h.block k hk hr)
  rcases hs with rfl | hs
  · exact hr
  · intro e
    have := hs k e.symm
    omega
theorem grown_below {w w1 w2 : World} {r : Option Nat} (h : w.grownBy w1 r) (g : Below w1.heap.size w1 w2) : w.grownBy w2 r :=
  ⟨g.os.trans h.os, g.tape.trans h.tape, g.output.trans h.output, Nat.le_trans h.size g.size, fun k hk hr => (g.block k (Nat.lt_of_lt_of_le hk h.size)).trans (h.block k hk hr)⟩

/-- what stands all through quiet: the net at block w.heap.size, the list -/
structure QStands (w : World) (base0 base1 : Nat) (x y : Int) (a : Option Addr) (cap : Nat) (ts : List Flow.Tr) (b : Option Addr) (l : List Nat) (b' : Option Addr) (cb' : Nat) (wr : World) : Prop where
  net : Blk wr w.heap.size (netQ x y a ts.length cap) 64
  own : wr.ownsRow base0 108 3 (.slice a ts.length cap) ts.length (cellsR ts)
  row : wr.ownsRow base1 3 1 (.slice b' l.length cb') l.length (cellsN l)
  grw : w.grownBy wr (obk b)
  apart : ∀ g, obk a = some g → obk b' ≠ some g
  place : obk b' = obk b ∨ ∃ g, obk b' = some g ∧ w.heap.size < g
  old : ∀ g, obk b = some g → g < w.heap.size
theorem QStands.below {w : World} {base0 base1 : Nat} {x y : Int} {a : Option Addr} {cap : Nat} {ts : List Flow.Tr} {b : Option Addr} {l : List Nat} {b' : Option Addr} {cb' : Nat} {wr w2 : World} (h : QStands w base0 base1 x y a cap ts b l b' cb' wr) (hb : Below wr.heap.size wr w2) : QStands w base0 base1 x y a cap ts b l b' cb' w2 :=
  ⟨h.net.below hb h.net.lt, owns_below h.own hb (Nat.le_refl _), owns_below h.row hb (Nat.le_refl _), grown_below h.grw hb, h.apart, h.place, h.old⟩
theorem QStands.push {w : World} {base0 base1 : Nat} {x y : Int} {a : Option Addr} {cap : Nat} {ts : List Flow.Tr} {b : Option Addr} {l : List Nat} {b' : Option Addr} {cb' : Nat} {wr w2 : World} {m g cg : Nat} (h : QStands w base0 base1 x y a cap ts b l b' cb' wr)
    (ho : w2.ownsRow base1 3 1 (.slice (some ⟨g, 0, none⟩) (l.length + 1) cg) (l.length + 1) (cellsN (l ++ [m]))) (hg : wr.grownBy w2 (obk b')) (hat : obk b' = some g ∨ wr.heap.size < g) : QStands w base0 base1 x y a cap ts b (l ++ [m]) (some ⟨g, 0, none⟩) cg w2 := by
  have hsz := h.grw.size
  refine ⟨h.net.grown hg ?_, h.own.kept hg ?_, by rw [List.length_append]; exact ho, grown_trans h.grw hg ?_, ?_, ?_, h.old⟩
  · intro e
    rcases h.place with p | ⟨q, p, hq⟩
    · rw [← e] at p; have := h.old _ p.symm; omega
    · rw [p] at e; injection e with e; omega
  · rw [ownBlock_slice]
    cases e : obk a with
    | none => exact .inl rfl
    | some q => exact .inr (fun y => h.apart q e y.symm)
  · rcases h.place with p | ⟨q, p, hq⟩
    · exact .inl p
    · exact .inr (fun k hk => by rw [p] at hk; injection hk with hk; omega)
  · intro q hq e
    have e' : g = q := by simpa [obk] using e
    subst e'
    rcases hat with p | p
    · exact h.apart g hq p
    · have := (owns_lt h.own hq).2; omega
  · rcases hat with p | p
    · rcases h.place with q | ⟨q, q1, q2⟩
      · exact .inl (by rw [← q, p]; rfl)
      · exact .inr ⟨g, rfl, by rw [q1] at p; injection p with p; omega⟩
    · exact .inr ⟨g, rfl, by omega⟩

set_option maxHeartbeats 4000000 in
theorem quietR_any (ts : List Flow.Tr) (x y : Int) (a b : Option Addr) (cap cb base0 base1 : Nat) (l0 : List Nat) (w : World) (hts : ∀ t ∈ ts, Flow.Small t) (hlen : ts.length ≤ 16) (hnd : l0.Nodup) (hsm : ∀ m ∈ l0, m < 65536) (hb1 : base1 ≤ w.heap.size)
    (hown : w.ownsRow base0 108 3 (.slice a ts.length cap) ts.length (cellsR ts)) (hrow : w.ownsRow base1 3 1 (.slice b l0.length cb) l0.length (cellsN l0)) (hap : ∀ g, obk a = some g → obk b ≠ some g) :
    Calls Tryz.prog 97 #[.agg (netQ x y a ts.length cap), .slice b l0.length cb] w fun e w' => ∃ b' cb' l, e = .returned (.slice b' l.length cb') ∧ Flow.QUpto ts l0 l l.length 0 ∧ QStands w base0 base1 x y a cap ts b l b' cb' w' := by
  have HT : Hid (∀ t ∈ ts, Flow.Small t) := hts
  have ST0 : Hid (QStands w base0 base1 x y a cap ts b l0 b cb (w.alloc (.cells (netQ x y a ts.length cap) 64))) :=
    ⟨Blk.new w _ _, hown.alloc _, hrow.alloc _, ⟨rfl, rfl, rfl, by simp, fun k hk _ => Below.heap_alloc w _ k hk⟩, hap, .inl rfl, fun g hg => (owns_lt hrow hg).2⟩
  have U0 : Hid (Flow.QUpto ts l0 l0 0 0) := Flow.QUpto.start hnd hsm
  clear hts hnd hsm hown hrow hap
  go_enter Tryz.func97, Tryz.ntmps97
  go_wp2
  go_loopw [1, 5] (fun s' i' wr => ∃ (i : Nat) (l : List Nat) (b' : Option Addr) (cb' : Nat), i ≤ l.length ∧ i' = .int .i64 i ∧ s' = .slice b' l.length cb' ∧ Hid (QStands w base0 base1 x y a cap ts b l b' cb' wr) ∧ Hid (Flow.QUpto ts l0 l i 0)) (fun _ i' _ => 65536 - (intOf i').toNat)
  case atStart => exact ⟨0, l0, b, cb, by omega, rfl, rfl, ST0, U0⟩
  case round =>
    clear ST0 U0
    obtain ⟨i, l, b', cb', hil, rfl, rfl, ST, U⟩ := hrel
    have h65 := nodup_size U.out.nodup U.out.small
    by_cases hlt : i < l.length
    · go_wp2
      obtain ⟨wo, rfl⟩ : ∃ wo : World, wo = wr := ⟨_, rfl⟩
      go_loopw [1, 6] (fun s' k' wr => ∃ (k : Nat) (l : List Nat) (b' : Option Addr) (cb' : Nat), k ≤ ts.length ∧ i < l.length ∧ k' = .int .i64 k ∧ s' = .slice b' l.length cb' ∧ Hid (QStands w base0 base1 x y a cap ts b l b' cb' wr) ∧ Hid (Flow.QUpto ts l0 l i k)) (fun _ k' _ => ts.length - (intOf k').toNat)
      case atStart => exact ⟨0, l, b', cb', by omega, hlt, rfl, rfl, ST, U⟩
      case round =>
        clear ST U hlt hil h65
        obtain ⟨k, l, b', cb', hkl, hlt, rfl, rfl, ST, U⟩ := hrel
        have h65 := nodup_size U.out.nodup U.out.small
        have n0 : wr.cell? ⟨w.heap.size, 0, none⟩ = some (.int .i64 x) := ST.out.net.cell 0
        have n1 : wr.cell? ⟨w.heap.size, 1, none⟩ = some (.int .i64 y) := ST.out.net.cell 1
        have n2 : wr.cell? ⟨w.heap.size, 2, none⟩ = some (.slice a ts.length cap) := ST.out.net.cell 2
        have z0 := ST.out.net.lt
        by_cases hk : k < ts.length
        · obtain ⟨m, hm⟩ : ∃ m, l[i]? = some m := ⟨_, List.getElem?_eq_getElem hlt⟩
          have hm6 := U.out.small m (List.mem_of_getElem? hm)
          obtain ⟨t, ht⟩ : ∃ t, ts[k]? = some t := ⟨_, List.getElem?_eq_getElem hk⟩
          obtain ⟨gl, cl, hv, _, hgl⟩ := ST.out.row.form (by omega)
          injection hv with hv1 _ hv3
          subst hv1 hv3
          have e0 := ST.out.row.cellAt i (by omega)
          rw [cellsN_get hm] at e0
          have OWr : Hid (wr.ownsRow base0 108 3 (.slice a ts.length cap) ts.length (cellsR ts)) := ST.out.own
          have c2 : ∀ W, W.ownsRow base0 108 3 (.slice a ts.length cap) ts.length (cellsR ts) → Calls Tryz.prog 82 #[.agg (netQ x y a ts.length cap), .int .i64 m, .int .i64 k] W fun e w' => e = .returned (.int .i64 (Flow.nextI ts m k)) ∧ Below W.heap.size W w' := fun W ho => nextR_any ts x y a cap m k base0 W hm6 HT.out hlen hk ho
          have hI0 : (0 : Int) ≤ (i : Int) := by omega
          have hI1 : (i : Int) < (l.length : Int) := by omega
          have hJ0 : (0 : Int) ≤ (k : Int) := by omega
          have hJ1 : (k : Int) < (ts.length : Int) := by omega
          have M : Hid (l[i]? = some m) := hm
          have T : Hid (ts[k]? = some t) := ht
          obtain ⟨ga, ca, hva, _, hga⟩ := ST.out.own.form (by omega)
          injection hva with hva1 _ hva3
          subst hva1 hva3
          have t0 := ST.out.own.cellAt (k * 3) (by omega)
          rw [(cellsR_get ht).1] at t0
          have LT := HT.out t (List.mem_of_getElem? ht)
          have LB : Hid (Flow.lab ts k = none ↔ t.label = 45) := lab_at ht
          have HL : Hid (l.length ≤ 65536) := h65
          have hl5 : (l.length : Int) ≤ 65536 := by omega
          clear hm ht h65 LT
          cases hnx : Flow.nextM ts m k with
          | none =>
            have e1 : Flow.nextI ts m k = -1 := by unfold Flow.nextI; rw [hnx]
            rw [e1] at c2
            have U' : Hid (Flow.QUpto ts l0 l i (k + 1)) := U.out.pass M.out (fun m' h1 _ => by rw [hnx] at h1; cases h1)
            clear hnx e1 U
            go_wp2
            go_region_with (go_at_call 82; refine (c2 _ (OWr.out.drew)).mono ?_; rintro e w2 ⟨rfl, hb2⟩; have BW2 : Hid (Below wr.heap.size wr w2) := (Below.refl _ _).drew.trans hb2; clear hb2)
            all_goals go_wp2
            all_goals go_roundw
            all_goals (first | (simp [intOf]; omega) | exact ⟨k + 1, l, _, _, by omega, hlt, by go_num, rfl, ST.out.below BW2.out, U'⟩)
          | some m' =>
            have e1 : Flow.nextI ts m k = (m' : Int) := by unfold Flow.nextI; rw [hnx]
            rw [e1] at c2
            have hJ : (0 : Int) ≤ (m' : Int) := by omega
            have M6 : Hid (m' < 65536) := nextM_lt HT.out hm6 hnx
            by_cases hlb : t.label = 45
            · have te : ((t.label : Int) == 45) = true := by rw [hlb]; rfl
              by_cases hin : m' ∈ l
              · have U' : Hid (Flow.QUpto ts l0 l i (k + 1)) := U.out.pass M.out (fun m2 h1 _ => by rw [hnx] at h1; injection h1 with h1; rw [← h1]; exact hin)
                have c3 : ∀ W, W.ownsRow base1 3 1 (.slice (some ⟨gl, 0, none⟩) l.length cb') l.length (cellsN l) → Calls Tryz.prog 114 #[.slice (some ⟨gl, 0, none⟩) l.length cb', .int .i64 m'] W fun e w' => e = .returned (.slice (some ⟨gl, 0, none⟩) l.length cb') ∧ W = w' := fun W ho => with_old l m' _ cb' base1 W HL.out hin ho
                clear hnx e1 U hin hlb
                go_wp2
                go_region_with (go_at_call 82; refine (c2 _ (OWr.out.drew)).mono ?_; rintro e w2 ⟨rfl, hb2⟩; have BW2 : Hid (Below wr.heap.size wr w2) := (Below.refl _ _).drew.trans hb2; have v2 : w2.cell? ⟨w.heap.size, 2, none⟩ = some (.slice (some ⟨ga, 0, none⟩) ts.length cap) := (BW2.out.cell (p := ⟨w.heap.size, 2, none⟩) z0).trans n2; have v3 : w2.cell? ⟨ga, k * 3, none⟩ = some (.int .u8 t.label) := (BW2.out.cell (p := ⟨ga, k * 3, none⟩) hga).trans t0; have RW2 : Hid (w2.ownsRow base1 3 1 (.slice (some ⟨gl, 0, none⟩) l.length cb') l.length (cellsN l)) := owns_below ST.out.row BW2.out (Nat.le_refl _); clear hb2)
                all_goals go_wp2_with (go_at_call 114; refine (c3 _ RW2.out).mono ?_; rintro e w' ⟨rfl, rfl⟩)
                all_goals go_roundw
                all_goals (first | (simp [intOf]; omega) | exact ⟨k + 1, l, _, _, by omega, hlt, by go_num, rfl, ST.out.below BW2.out, U'⟩)
              · have U' : Hid (Flow.QUpto ts l0 (l ++ [m']) i (k + 1)) := U.out.new M.out hnx (LB.out.2 hlb) M6.out hin
                have HF : Hid (l.length < 65536) := by
                  have := nodup_size U'.out.nodup U'.out.small
                  simp at this
                  show _ < _
                  omega
                have c3 : ∀ W, base1 ≤ W.heap.size → W.ownsRow base1 3 1 (.slice (some ⟨gl, 0, none⟩) l.length cb') l.length (cellsN l) → Calls Tryz.prog 114 #[.slice (some ⟨gl, 0, none⟩) l.length cb', .int .i64 m'] W fun e w' => ∃ g cap', e = .returned (.slice (some ⟨g, 0, none⟩) (l.length + 1) cap') ∧ w'.ownsRow base1 3 1 (.slice (some ⟨g, 0, none⟩) (l.length + 1) cap') (l.length + 1) (cellsN (l ++ [m'])) ∧ W.grownBy w' (some gl) ∧ (some gl = some g ∨ W.heap.size < g) := fun W hb ho => with_new l m' _ cb' base1 W HF.out hin hb ho
                clear hnx e1 U hin hlb
                go_wp2
                go_region_with (go_at_call 82; refine (c2 _ (OWr.out.drew)).mono ?_; rintro e w2 ⟨rfl, hb2⟩; have BW2 : Hid (Below wr.heap.size wr w2) := (Below.refl _ _).drew.trans hb2; have v2 : w2.cell? ⟨w.heap.size, 2, none⟩ = some (.slice (some ⟨ga, 0, none⟩) ts.length cap) := (BW2.out.cell (p := ⟨w.heap.size, 2, none⟩) z0).trans n2; have v3 : w2.cell? ⟨ga, k * 3, none⟩ = some (.int .u8 t.label) := (BW2.out.cell (p := ⟨ga, k * 3, none⟩) hga).trans t0; have ST2 : Hid (QStands w base0 base1 x y (some ⟨ga, 0, none⟩) cap ts b l (some ⟨gl, 0, none⟩) cb' w2) := ST.out.below BW2.out; clear hb2)
                all_goals go_wp2_with (go_at_call 114; refine (c3 _ (by have := ST2.out.grw.size; omega) ST2.out.row).mono ?_; rintro e w3 ⟨g, cg, rfl, ho3, hg3, hat3⟩; have ST3 : Hid (QStands w base0 base1 x y (some ⟨ga, 0, none⟩) cap ts b (l ++ [m']) (some ⟨g, 0, none⟩) cg w3) := ST2.out.push ho3 hg3 hat3; clear ho3 hg3 hat3)
                all_goals go_roundw
                all_goals (first | (simp [intOf]; omega) | exact ⟨k + 1, l ++ [m'], some ⟨g, 0, none⟩, cg, by omega, by simp; omega, by go_num, by simp, ST3, U'⟩)
            · have te : ((t.label : Int) == 45) = false := by simp; omega
              have U' : Hid (Flow.QUpto ts l0 l i (k + 1)) := U.out.pass M.out (fun m2 _ h2 => absurd (LB.out.1 h2) hlb)
              clear hnx e1 U hlb
              go_wp2
              go_region_with (go_at_call 82; refine (c2 _ (OWr.out.drew)).mono ?_; rintro e w2 ⟨rfl, hb2⟩; have BW2 : Hid (Below wr.heap.size wr w2) := (Below.refl _ _).drew.trans hb2; have v2 : w2.cell? ⟨w.heap.size, 2, none⟩ = some (.slice (some ⟨ga, 0, none⟩) ts.length cap) := (BW2.out.cell (p := ⟨w.heap.size, 2, none⟩) z0).trans n2; have v3 : w2.cell? ⟨ga, k * 3, none⟩ = some (.int .u8 t.label) := (BW2.out.cell (p := ⟨ga, k * 3, none⟩) hga).trans t0; clear hb2)
              all_goals go_wp2
              all_goals go_roundw
              all_goals (first | (simp [intOf]; omega) | exact ⟨k + 1, l, _, _, by omega, hlt, by go_num, rfl, ST.out.below BW2.out, U'⟩)
        · obtain rfl : k = ts.length := by omega
          clear n0 n1
          go_wp2
          go_roundw
          case rel => exact ⟨i + 1, l, b', cb', by omega, by go_num, rfl, ST, U.out.row⟩
          case measure => simp [intOf]; omega
    · obtain rfl : i = l.length := by omega
      go_wp2
      go_ret
      exact ⟨b', cb', l, rfl, U.out, ST.out⟩
end Go.Proofs.YtdlldljgogbiaabGreat
namespace Go.Proofs.YtdlldljgogbiaabGreat
open Go.RowKit
set_option linter.unusedVariables false
set_option maxRecDepth 20000

/-- what stands all through loud -/
structure LStands (w : World) (x y : Int) (a : Option Addr) (cap : Nat) (ts : List Flow.Tr) (out : List Nat) (o : Option Addr) (co : Nat) (wr : World) : Prop where
  net : Blk wr w.heap.size (netQ x y a ts.length cap) 64
  row : wr.ownsRow (w.heap.size + 1) 3 1 (.slice o out.length co) out.length (cellsN out)
  bel : Below w.heap.size w wr
theorem LStands.below {w : World} {x y : Int} {a : Option Addr} {cap : Nat} {ts : List Flow.Tr} {out : List Nat} {o : Option Addr} {co : Nat} {wr w2 : World} (h : LStands w x y a cap ts out o co wr) (hb : Below wr.heap.size wr w2) : LStands w x y a cap ts out o co w2 :=
  ⟨h.net.below hb h.net.lt, owns_below h.row hb (Nat.le_refl _), h.bel.trans (hb.mono h.bel.size)⟩
theorem LStands.push {w : World} {x y : Int} {a : Option Addr} {cap : Nat} {ts : List Flow.Tr} {out : List Nat} {o : Option Addr} {co : Nat} {wr w2 : World} {m g cg : Nat} (h : LStands w x y a cap ts out o co wr)
    (ho : w2.ownsRow (w.heap.size + 1) 3 1 (.slice (some ⟨g, 0, none⟩) (out.length + 1) cg) (out.length + 1) (cellsN (out ++ [m]))) (hg : wr.grownBy w2 (obk o)) : LStands w x y a cap ts (out ++ [m]) (some ⟨g, 0, none⟩) cg w2 := by
  refine ⟨h.net.grown hg ?_, by rw [List.length_append]; exact ho, h.bel.grown hg h.bel.size ?_⟩
  · intro e; have := (owns_lt h.row e.symm).1; omega
  · intro k hk; have := (owns_lt h.row hk).1; omega

set_option maxHeartbeats 4000000 in
theorem loudR_any (ts : List Flow.Tr) (x y : Int) (a b : Option Addr) (cap cb c base0 base1 : Nat) (l : List Nat) (w : World) (hc : c < 256) (hts : ∀ t ∈ ts, Flow.Small t) (hlen : ts.length ≤ 16) (hnd : l.Nodup) (hsm : ∀ m ∈ l, m < 65536)
    (hown : w.ownsRow base0 108 3 (.slice a ts.length cap) ts.length (cellsR ts)) (hrow : w.ownsRow base1 3 1 (.slice b l.length cb) l.length (cellsN l)) :
    Calls Tryz.prog 98 #[.agg (netQ x y a ts.length cap), .slice b l.length cb, .int .u8 c] w fun e w' => ∃ o co out, e = .returned (.slice o out.length co) ∧ Flow.LUpto ts l out c l.length 0 ∧ w'.ownsRow (w.heap.size + 1) 3 1 (.slice o out.length co) out.length (cellsN out) ∧ Below w.heap.size w w' ∧ w.heap.size < w'.heap.size := by
  have HT : Hid (∀ t ∈ ts, Flow.Small t) := hts
  have OW : Hid (w.ownsRow base0 108 3 (.slice a ts.length cap) ts.length (cellsR ts)) := hown
  have RW : Hid (w.ownsRow base1 3 1 (.slice b l.length cb) l.length (cellsN l)) := hrow
  have SM : Hid (∀ m ∈ l, m < 65536) := hsm
  have h65 := nodup_size hnd hsm
  have ST0 : Hid (LStands w x y a cap ts [] none 0 (w.alloc (.cells (netQ x y a ts.length cap) 64))) := ⟨Blk.new w _ _, World.ownsRow_nil _ _ _ _, (Below.refl _ _).alloc (Nat.le_refl _) _⟩
  clear hts hnd hsm hown hrow
  go_enter Tryz.func98, Tryz.ntmps98
  go_wp2
  go_loopw [7, 8] (fun s' i' wr => ∃ (i : Nat) (out : List Nat) (o : Option Addr) (co : Nat), i ≤ l.length ∧ i' = .int .i64 i ∧ s' = .slice o out.length co ∧ Hid (LStands w x y a cap ts out o co wr) ∧ Hid (Flow.LUpto ts l out c i 0)) (fun _ i' _ => l.length - (intOf i').toNat)
  case atStart => exact ⟨0, [], none, 0, by omega, rfl, rfl, ST0, Flow.LUpto.start ts l c⟩
  case round =>
    clear ST0
    obtain ⟨i, out, o, co, hil, rfl, rfl, ST, U⟩ := hrel
    by_cases hlt : i < l.length
    · go_wp2
      obtain ⟨wo, rfl⟩ : ∃ wo : World, wo = wr := ⟨_, rfl⟩
      go_loopw [7, 9] (fun s' k' wr => ∃ (k : Nat) (out : List Nat) (o : Option Addr) (co : Nat), k ≤ ts.length ∧ k' = .int .i64 k ∧ s' = .slice o out.length co ∧ Hid (LStands w x y a cap ts out o co wr) ∧ Hid (Flow.LUpto ts l out c i k)) (fun _ k' _ => ts.length - (intOf k').toNat)
      case atStart => exact ⟨0, out, o, co, by omega, rfl, rfl, ST, U⟩
      case round =>
        clear ST U hil
        obtain ⟨k, out, o, co, hkl, rfl, rfl, ST, U⟩ := hrel
        have n0 : wr.cell? ⟨w.heap.size, 0, none⟩ = some (.int .i64 x) := ST.out.net.cell 0
        have n1 : wr.cell? ⟨w.heap.size, 1, none⟩ = some (.int .i64 y) := ST.out.net.cell 1
        have n2 : wr.cell? ⟨w.heap.size, 2, none⟩ = some (.slice a ts.length cap) := ST.out.net.cell 2
        have z0 := ST.out.net.lt
        by_cases hk : k < ts.length
        · obtain ⟨m, hm⟩ : ∃ m, l[i]? = some m := ⟨_, List.getElem?_eq_getElem hlt⟩
          have hm6 := SM.out m (List.mem_of_getElem? hm)
          obtain ⟨t, ht⟩ : ∃ t, ts[k]? = some t := ⟨_, List.getElem?_eq_getElem hk⟩
          have rwr := owns_below RW.out ST.out.bel (Nat.le_refl _)
          have owr := owns_below OW.out ST.out.bel (Nat.le_refl _)
          obtain ⟨gl, cl, hv, _, hgl⟩ := rwr.form (by omega)
          injection hv with hv1 _ hv3
          subst hv1 hv3
          have e0 := rwr.cellAt i (by omega)
          rw [cellsN_get hm] at e0
          obtain ⟨ga, ca, hva, _, hga⟩ := owr.form (by omega)
          injection hva with hva1 _ hva3
          subst hva1 hva3
          have t0 := owr.cellAt (k * 3) (by omega)
          rw [(cellsR_get ht).1] at t0
          have OWr : Hid (wr.ownsRow base0 108 3 (.slice (some ⟨ga, 0, none⟩) ts.length cap) ts.length (cellsR ts)) := owr
          have c2 : ∀ W, W.ownsRow base0 108 3 (.slice (some ⟨ga, 0, none⟩) ts.length cap) ts.length (cellsR ts) → Calls Tryz.prog 82 #[.agg (netQ x y (some ⟨ga, 0, none⟩) ts.length cap), .int .i64 m, .int .i64 k] W fun e w' => e = .returned (.int .i64 (Flow.nextI ts m k)) ∧ Below W.heap.size W w' := fun W ho => nextR_any ts x y _ cap m k base0 W hm6 HT.out hlen hk ho
          have hI0 : (0 : Int) ≤ (i : Int) := by omega
          have hI1 : (i : Int) < (l.length : Int) := by omega
          have hJ0 : (0 : Int) ≤ (k : Int) := by omega
          have hJ1 : (k : Int) < (ts.length : Int) := by omega
          have M : Hid (l[i]? = some m) := hm
          have LB : Hid (Flow.lab ts k = some c ↔ t.label = c ∧ c ≠ 45) := lab_is ht
          clear hm ht rwr owr
          cases hnx : Flow.nextM ts m k with
          | none =>
            have e1 : Flow.nextI ts m k = -1 := by unfold Flow.nextI; rw [hnx]
            rw [e1] at c2
            have U' : Hid (Flow.LUpto ts l out c i (k + 1)) := U.out.pass M.out (fun m' h1 _ => by rw [hnx] at h1; cases h1)
            clear hnx e1 U
            go_wp2
            go_region_with (go_at_call 82; refine (c2 _ (OWr.out.drew)).mono ?_; rintro e w2 ⟨rfl, hb2⟩; have BW2 : Hid (Below wr.heap.size wr w2) := (Below.refl _ _).drew.trans hb2; clear hb2)
            all_goals go_wp2
            all_goals go_roundw
            all_goals (first | (simp [intOf]; omega) | exact ⟨k + 1, out, o, co, by omega, by go_num, rfl, ST.out.below BW2.out, U'⟩)
          | some m' =>
            have e1 : Flow.nextI ts m k = (m' : Int) := by unfold Flow.nextI; rw [hnx]
            rw [e1] at c2
            have hJ : (0 : Int) ≤ (m' : Int) := by omega
            have M6 : Hid (m' < 65536) := nextM_lt HT.out hm6 hnx
            by_cases hlb : t.label = c ∧ c ≠ 45
            · have te : ((t.label : Int) == (c : Int)) = true := by rw [hlb.1]; simp
              have te2 : ((c : Int) != 45) = true := by have := hlb.2; simp; omega
              have h6o := nodup_size U.out.nodup U.out.small
              have HL : Hid (out.length ≤ 65536) := h6o
              by_cases hin : m' ∈ out
              · have U' : Hid (Flow.LUpto ts l out c i (k + 1)) := U.out.pass M.out (fun m2 h1 _ => by rw [hnx] at h1; injection h1 with h1; rw [← h1]; exact hin)
                have c3 : ∀ W, W.ownsRow (w.heap.size + 1) 3 1 (.slice o out.length co) out.length (cellsN out) → Calls Tryz.prog 114 #[.slice o out.length co, .int .i64 m'] W fun e w' => e = .returned (.slice o out.length co) ∧ W = w' := fun W ho => with_old out m' _ co _ W HL.out hin ho
                clear hnx e1 U hin hlb h6o
                go_wp2
                go_region_with (go_at_call 82; refine (c2 _ (OWr.out.drew)).mono ?_; rintro e w2 ⟨rfl, hb2⟩; have BW2 : Hid (Below wr.heap.size wr w2) := (Below.refl _ _).drew.trans hb2; have v2 : w2.cell? ⟨w.heap.size, 2, none⟩ = some (.slice (some ⟨ga, 0, none⟩) ts.length cap) := (BW2.out.cell (p := ⟨w.heap.size, 2, none⟩) z0).trans n2; have v3 : w2.cell? ⟨ga, k * 3, none⟩ = some (.int .u8 t.label) := (BW2.out.cell (p := ⟨ga, k * 3, none⟩) hga).trans t0; have ST2 : Hid (LStands w x y (some ⟨ga, 0, none⟩) cap ts out o co w2) := ST.out.below BW2.out; clear hb2)
                all_goals go_wp2_with (go_at_call 114; refine (c3 _ ST2.out.row).mono ?_; rintro e w' ⟨rfl, rfl⟩)
                all_goals go_roundw
                all_goals (first | (simp [intOf]; omega) | exact ⟨k + 1, out, o, co, by omega, by go_num, rfl, ST2, U'⟩)
              · have U' : Hid (Flow.LUpto ts l (out ++ [m']) c i (k + 1)) := U.out.new M.out hnx (LB.out.2 hlb) M6.out hin
                have HF : Hid (out.length < 65536) := by
                  have := nodup_size U'.out.nodup U'.out.small
                  simp at this
                  show _ < _
                  omega
                have c3 : ∀ W, w.heap.size + 1 ≤ W.heap.size → W.ownsRow (w.heap.size + 1) 3 1 (.slice o out.length co) out.length (cellsN out) → Calls Tryz.prog 114 #[.slice o out.length co, .int .i64 m'] W fun e w' => ∃ g cap', e = .returned (.slice (some ⟨g, 0, none⟩) (out.length + 1) cap') ∧ w'.ownsRow (w.heap.size + 1) 3 1 (.slice (some ⟨g, 0, none⟩) (out.length + 1) cap') (out.length + 1) (cellsN (out ++ [m'])) ∧ W.grownBy w' (obk o) ∧ (obk o = some g ∨ W.heap.size < g) := fun W hb ho => with_new out m' _ co _ W HF.out hin hb ho
                clear hnx e1 U hin hlb h6o
                go_wp2
                go_region_with (go_at_call 82; refine (c2 _ (OWr.out.drew)).mono ?_; rintro e w2 ⟨rfl, hb2⟩; have BW2 : Hid (Below wr.heap.size wr w2) := (Below.refl _ _).drew.trans hb2; have v2 : w2.cell? ⟨w.heap.size, 2, none⟩ = some (.slice (some ⟨ga, 0, none⟩) ts.length cap) := (BW2.out.cell (p := ⟨w.heap.size, 2, none⟩) z0).trans n2; have v3 : w2.cell? ⟨ga, k * 3, none⟩ = some (.int .u8 t.label) := (BW2.out.cell (p := ⟨ga, k * 3, none⟩) hga).trans t0; have ST2 : Hid (LStands w x y (some ⟨ga, 0, none⟩) cap ts out o co w2) := ST.out.below BW2.out; clear hb2)
                all_goals go_wp2_with (go_at_call 114; refine (c3 _ ST2.out.net.lt ST2.out.row).mono ?_; rintro e w3 ⟨g, cg, rfl, ho3, hg3, hat3⟩; have ST3 : Hid (LStands w x y (some ⟨ga, 0, none⟩) cap ts (out ++ [m']) (some ⟨g, 0, none⟩) cg w3) := ST2.out.push ho3 hg3; clear ho3 hg3 hat3)
                all_goals go_roundw
                all_goals (first | (simp [intOf]; omega) | exact ⟨k + 1, out ++ [m'], some ⟨g, 0, none⟩, cg, by omega, by go_num, by simp, ST3, U'⟩)
            · have U' : Hid (Flow.LUpto ts l out c i (k + 1)) := U.out.pass M.out (fun m2 _ h2 => absurd (LB.out.1 h2) hlb)
              by_cases h1 : t.label = c
              · have te : ((t.label : Int) == (c : Int)) = true := by rw [h1]; simp
                have te2 : ((c : Int) != 45) = false := by
                  have : c = 45 := Classical.byContradiction (fun h => hlb ⟨h1, h⟩)
                  rw [this]; rfl
                clear hnx e1 U hlb h1
                go_wp2
                go_region_with (go_at_call 82; refine (c2 _ (OWr.out.drew)).mono ?_; rintro e w2 ⟨rfl, hb2⟩; have BW2 : Hid (Below wr.heap.size wr w2) := (Below.refl _ _).drew.trans hb2; have v2 : w2.cell? ⟨w.heap.size, 2, none⟩ = some (.slice (some ⟨ga, 0, none⟩) ts.length cap) := (BW2.out.cell (p := ⟨w.heap.size, 2, none⟩) z0).trans n2; have v3 : w2.cell? ⟨ga, k * 3, none⟩ = some (.int .u8 t.label) := (BW2.out.cell (p := ⟨ga, k * 3, none⟩) hga).trans t0; clear hb2)
                all_goals go_wp2
                all_goals go_roundw
                all_goals (first | (simp [intOf]; omega) | exact ⟨k + 1, out, o, co, by omega, by go_num, rfl, ST.out.below BW2.out, U'⟩)
              · have te : ((t.label : Int) == (c : Int)) = false := by simp; omega
                clear hnx e1 U hlb h1
                go_wp2
                go_region_with (go_at_call 82; refine (c2 _ (OWr.out.drew)).mono ?_; rintro e w2 ⟨rfl, hb2⟩; have BW2 : Hid (Below wr.heap.size wr w2) := (Below.refl _ _).drew.trans hb2; have v2 : w2.cell? ⟨w.heap.size, 2, none⟩ = some (.slice (some ⟨ga, 0, none⟩) ts.length cap) := (BW2.out.cell (p := ⟨w.heap.size, 2, none⟩) z0).trans n2; have v3 : w2.cell? ⟨ga, k * 3, none⟩ = some (.int .u8 t.label) := (BW2.out.cell (p := ⟨ga, k * 3, none⟩) hga).trans t0; clear hb2)
                all_goals go_wp2
                all_goals go_roundw
                all_goals (first | (simp [intOf]; omega) | exact ⟨k + 1, out, o, co, by omega, by go_num, rfl, ST.out.below BW2.out, U'⟩)
        · obtain rfl : k = ts.length := by omega
          clear n0 n1
          go_wp2
          go_roundw
          case rel => exact ⟨i + 1, out, o, co, by omega, by go_num, rfl, ST, U.out.row⟩
          case measure => simp [intOf]; omega
    · obtain rfl : i = l.length := by omega
      go_wp2
      go_ret
      exact ⟨o, co, out, rfl, U.out, ST.out.row, ST.out.bel, ST.out.net.lt⟩
end Go.Proofs.YtdlldljgogbiaabGreat
namespace Go.Proofs.YtdlldljgogbiaabGreat
open Go.RowKit
set_option linter.unusedVariables false
set_option maxRecDepth 40000

theorem wrapQ (z : Int) : IntKind.i64.wrap z = wrap64 z := IntWalk.i64_left _
/-- what stands all through words -/
structure WStands (w : World) (base0 : Nat) (x y : Int) (a : Option Addr) (cap : Nat) (ts : List Flow.Tr) (l : List Nat) (b : Option Addr) (cb : Nat) (wr : World) : Prop where
  net : Blk wr w.heap.size (netQ x y a ts.length cap) 64
  own : wr.ownsRow base0 108 3 (.slice a ts.length cap) ts.length (cellsR ts)
  row : wr.ownsRow (w.heap.size + 1) 3 1 (.slice b l.length cb) l.length (cellsN l)
  bel : Below w.heap.size w wr
  old : ∀ g, obk a = some g → g < w.heap.size

theorem WStands.step {w : World} {base0 : Nat} {x y : Int} {a : Option Addr} {cap : Nat} {ts : List Flow.Tr} {l out l' : List Nat} {b o b' : Option Addr} {cb co cb' : Nat} {wr w2 w3 : World} (h : WStands w base0 x y a cap ts l b cb wr) (hb : Below wr.heap.size wr w2)
    (hrow : w2.ownsRow (wr.heap.size + 1) 3 1 (.slice o out.length co) out.length (cellsN out)) (hs : QStands w2 base0 (wr.heap.size + 1) x y a cap ts o l' b' cb' w3) : WStands w base0 x y a cap ts l' b' cb' w3 := by
  have hn := h.net.lt
  have hz := hb.size
  refine ⟨(h.net.below hb hn).grown hs.grw ?_, hs.own, owns_base hs.row (by omega), (h.bel.trans (hb.mono h.bel.size)).grown hs.grw (by have := h.bel.size; omega) ?_, h.old⟩
  · intro e; have := (owns_lt hrow e.symm).1; omega
  · intro k hk; have := (owns_lt hrow hk).1; omega
theorem WStands.drew {w : World} {base0 : Nat} {x y : Int} {a : Option Addr} {cap : Nat} {ts : List Flow.Tr} {l : List Nat} {b : Option Addr} {cb : Nat} {wr : World} (h : WStands w base0 x y a cap ts l b cb wr) : WStands w base0 x y a cap ts l b cb wr.drew := ⟨h.net, h.own.drew, h.row.drew, h.bel.drew, h.old⟩

set_option maxHeartbeats 4000000 in
theorem wordsR_any (ts : List Flow.Tr) (st en : Nat) (a : Option Addr) (cap base0 : Nat) (word : ByteArray) (w : World) (hst : st ≤ 15) (hen : en ≤ 15) (hw : word.size ≤ maxLen) (hts : ∀ t ∈ ts, Flow.Small t) (hlen : ts.length ≤ 16)
    (hown : w.ownsRow base0 108 3 (.slice a ts.length cap) ts.length (cellsR ts)) :
    Calls Tryz.prog 59 #[.agg (netQ st en a ts.length cap), .string word] w fun e w' => ∃ b, e = .returned (.bool b) ∧ (b = true ↔ Flow.Spells ts (2 ^ st) (Flow.nats word) (2 ^ en)) ∧ Below w.heap.size w w' := by
  unfold maxLen at hw
  have OW : Hid (w.ownsRow base0 108 3 (.slice a ts.length cap) ts.length (cellsR ts)) := hown
  have HT : Hid (∀ t ∈ ts, Flow.Small t) := hts
  clear hown hts
  go_enter Tryz.func59, Tryz.ntmps59
  go_wp2
  have hpw : IntKind.i64.wrap (2 ^ st) = ((2 ^ st : Nat) : Int) := by rw [wrapQ]; exact pow_small' st hst
  have hM : (2 : Nat) ^ st < 65536 := by
    have h1 : (2 : Nat) ^ st ≤ 2 ^ 15 := Nat.pow_le_pow_right (by omega) hst
    have h2 : (2 : Nat) ^ 15 = 32768 := by decide
    omega
  have n0 : (w.alloc (.cells (netQ (st : Int) (en : Int) a ts.length cap) 64)).cell? ⟨w.heap.size, 0, none⟩ = some (.int .i64 st) := (Blk.new w _ _).cell 0
  have n1 : (w.alloc (.cells (netQ (st : Int) (en : Int) a ts.length cap) 64)).cell? ⟨w.heap.size, 1, none⟩ = some (.int .i64 en) := (Blk.new w _ _).cell 1
  have n2 : (w.alloc (.cells (netQ (st : Int) (en : Int) a ts.length cap) 64)).cell? ⟨w.heap.size, 2, none⟩ = some (.slice a ts.length cap) := (Blk.new w _ _).cell 2
  have B0 : Hid (Blk (w.alloc (.cells (netQ (st : Int) (en : Int) a ts.length cap) 64)) w.heap.size (netQ (st : Int) (en : Int) a ts.length cap) 64) := Blk.new w _ _
  have OW1 : Hid ((w.alloc (.cells (netQ (st : Int) (en : Int) a ts.length cap) 64)).ownsRow base0 108 3 (.slice a ts.length cap) ts.length (cellsR ts)) := OW.out.alloc _
  have HW : Hid (Below w.heap.size w (w.alloc (.cells (netQ (st : Int) (en : Int) a ts.length cap) 64))) := (Below.refl _ _).alloc (Nat.le_refl _) _
  have AL : Hid (∀ g, obk a = some g → g < w.heap.size) := fun g hg => (owns_lt OW.out hg).2
  generalize w.alloc (.cells (netQ (st : Int) (en : Int) a ts.length cap) 64) = W at n0 n1 n2 B0 OW1 HW ⊢
  have z0 := B0.out.lt
  have c1 : Calls Tryz.prog 97 #[.agg (netQ (st : Int) (en : Int) a ts.length cap), .slice (some ⟨W.heap.size, 0, none⟩) 1 1] (W.alloc (.cells #[.int .i64 ((2 : Int) ^ st)] 3)).drew fun e w' => ∃ b' cb' l, e = .returned (.slice b' l.length cb') ∧ Flow.QUpto ts [2 ^ st] l l.length 0 ∧ WStands w base0 st en a cap ts l b' cb' w' := by
    have hpc : (2 : Int) ^ st = ((2 ^ st : Nat) : Int) := by simp
    rw [hpc]
    have hr : (W.alloc (.cells #[.int .i64 ((2 ^ st : Nat) : Int)] 3)).drew.ownsRow (w.heap.size + 1) 3 1 (.slice (some ⟨W.heap.size, 0, none⟩) 1 1) 1 (cellsN [2 ^ st]) := by
      exact (World.ownsRow_lit (e := 3) (size := 1) (base := w.heap.size + 1) W #[.int .i64 ((2 ^ st : Nat) : Int)] 1 (by omega) (by decide) rfl).drew
    refine (quietR_any ts st en a (some ⟨W.heap.size, 0, none⟩) cap 1 base0 (w.heap.size + 1) [2 ^ st] _ HT.out hlen (by simp) (by intro m hm; rw [List.mem_singleton.1 hm]; exact hM) (by simp; omega) ((OW1.out.alloc _).drew) hr ?_).mono ?_
    · intro g hg e
      have h1 := AL.out g hg
      have h2 : W.heap.size = g := by simpa [obk] using e
      omega
    · rintro e w' ⟨b', cb', l, rfl, hq, hs⟩
      refine ⟨b', cb', l, rfl, hq, ?_, hs.own, hs.row, ?_, AL.out⟩
      · refine (((B0.out.alloc _).drew).grown hs.grw ?_)
        intro e
        have : w.heap.size = W.heap.size := by simpa [obk] using e
        omega
      · refine ((HW.out.alloc HW.out.size _).drew).grown hs.grw (by simp; omega) ?_
        intro k hk
        have : W.heap.size = k := by simpa [obk] using hk
        omega
  go_region_with (go_at_call 97; refine c1.mono ?_; rintro e w2 ⟨b, cb, l, rfl, hq, hs⟩; have Q0 : Hid (Flow.QUpto ts [2 ^ st] l l.length 0) := hq; have ST0 : Hid (WStands w base0 st en a cap ts l b cb w2) := hs; clear hq hs)
  all_goals
    go_wp2
    clear n0 n1 n2 B0 OW1 HW z0 c1 OW AL
    have I0 : Hid (l.Nodup ∧ (∀ m ∈ l, m < 65536) ∧ ∀ m, m ∈ l ↔ Flow.Spells ts (2 ^ st) ((Flow.nats word).take 0) m) := ⟨Q0.out.nodup, Q0.out.small, fun m => by rw [List.take_zero]; exact spells_first Q0.out.iff m⟩
    clear Q0
    go_loopw [5, 6] (fun s' i' wr => ∃ (i : Nat) (l : List Nat) (b : Option Addr) (cb : Nat), i ≤ word.size ∧ i' = .int .i64 i ∧ s' = .slice b l.length cb ∧ Hid (WStands w base0 st en a cap ts l b cb wr) ∧ Hid (l.Nodup ∧ (∀ m ∈ l, m < 65536) ∧ ∀ m, m ∈ l ↔ Flow.Spells ts (2 ^ st) ((Flow.nats word).take i) m)) (fun _ i' _ => word.size - (intOf i').toNat)
    case atStart => exact ⟨0, l, b, cb, by omega, rfl, rfl, ST0, I0⟩
    case round =>
      clear ST0 I0
      obtain ⟨i, l, b, cb, hil, rfl, rfl, ST, IV⟩ := hrel
      have n0 : wr.cell? ⟨w.heap.size, 0, none⟩ = some (.int .i64 st) := ST.out.net.cell 0
      have n1 : wr.cell? ⟨w.heap.size, 1, none⟩ = some (.int .i64 en) := ST.out.net.cell 1
      have n2 : wr.cell? ⟨w.heap.size, 2, none⟩ = some (.slice a ts.length cap) := ST.out.net.cell 2
      have z0 := ST.out.net.lt
      by_cases hlt : i < word.size
      · have hI0 : (0 : Int) ≤ (i : Int) := by omega
        have hI1 : (i : Int) < (word.size : Int) := by omega
        have hb256 : word[i].toNat < 256 := UInt8.toNat_lt _
        have c2 := loudR_any ts st en a b cap cb (word[i].toNat) base0 (w.heap.size + 1) l wr.drew hb256 HT.out hlen IV.out.1 IV.out.2.1 ST.out.own.drew ST.out.row.drew
        have c3 : ∀ w2 o co (out : List Nat), Flow.LUpto ts l out word[i].toNat l.length 0 → Below wr.heap.size wr w2 → wr.heap.size + 1 ≤ w2.heap.size → w2.ownsRow (wr.heap.size + 1) 3 1 (.slice o out.length co) out.length (cellsN out) → Calls Tryz.prog 97 #[.agg (netQ (st : Int) (en : Int) a ts.length cap), .slice o out.length co] w2 fun e w' => ∃ b' cb' l', e = .returned (.slice b' l'.length cb') ∧ (l'.Nodup ∧ (∀ m ∈ l', m < 65536) ∧ ∀ m, m ∈ l' ↔ Flow.Spells ts (2 ^ st) ((Flow.nats word).take (i + 1)) m) ∧ WStands w base0 st en a cap ts l' b' cb' w' := fun w2 o co out hu hb hz hr => by
          refine (quietR_any ts st en a o cap co base0 (wr.heap.size + 1) out w2 HT.out hlen hu.nodup hu.small ?_ (owns_below ST.out.own hb (Nat.le_refl _)) hr ?_).mono ?_
          · exact hz
          · intro g hg e
            have h1 := ST.out.old g hg
            have h2 := (owns_lt hr e).1
            have h3 := ST.out.net.lt
            omega
          · rintro e w' ⟨b', cb', l', rfl, hq, hs⟩
            refine ⟨b', cb', l', rfl, ⟨hq.nodup, hq.small, fun m => ?_⟩, ST.out.step hb hr hs⟩
            rw [nats_take hlt]
            exact spells_next IV.out.2.2 hu.iff hq.iff m
        go_wp2
        go_region_with (go_at_call 98; refine c2.mono ?_; rintro e w2 ⟨o, co, out, rfl, hu, hr, hb, hz⟩; have HZ : Hid (wr.heap.size + 1 ≤ w2.heap.size) := hz; have LU : Hid (Flow.LUpto ts l out word[i].toNat l.length 0) := hu; have LR : Hid (w2.ownsRow (wr.heap.size + 1) 3 1 (.slice o out.length co) out.length (cellsN out)) := hr; have LB : Hid (Below wr.heap.size wr w2) := (Below.refl _ _).drew.trans hb; have k0 := ST.out.net.below LB.out ST.out.net.lt; have v0 : w2.cell? ⟨w.heap.size, 0, none⟩ = some (.int .i64 st) := k0.cell 0; have v1 : w2.cell? ⟨w.heap.size, 1, none⟩ = some (.int .i64 en) := k0.cell 1; have v2 : w2.cell? ⟨w.heap.size, 2, none⟩ = some (.slice a ts.length cap) := k0.cell 2; have y0 := k0.lt; clear hu hr hb k0 hz)
        all_goals go_wp2_with (go_at_call 97; refine (c3 _ _ _ _ LU.out LB.out HZ.out LR.out).mono ?_; rintro e w3 ⟨b', cb', l', rfl, hi', hs'⟩; have IV3 : Hid _ := hi'; have ST3 : Hid (WStands w base0 st en a cap ts l' b' cb' w3) := hs'; clear hi' hs')
        all_goals go_roundw
        all_goals (first | (simp [intOf]; omega) | exact ⟨i + 1, l', b', cb', by omega, by go_num, rfl, ST3, IV3⟩)
      · obtain rfl : i = word.size := by omega
        have hpe : IntKind.i64.wrap (2 ^ en) = ((2 ^ en : Nat) : Int) := by rw [wrapQ]; exact pow_small' en hen
        have h65 := nodup_size IV.out.1 IV.out.2.1
        have c4 : Calls Tryz.prog 99 #[.slice b l.length cb, .int .i64 ((2 : Int) ^ en)] wr fun e w' => e = .returned (.bool (decide (2 ^ en ∈ l))) ∧ wr = w' := by
          have hpc : (2 : Int) ^ en = ((2 ^ en : Nat) : Int) := by simp
          rw [hpc]
          exact inList_any l (2 ^ en) b cb (w.heap.size + 1) wr h65 ST.out.row
        clear h65
        go_wp2_with (go_at_call 99; refine c4.mono ?_; rintro e w' ⟨rfl, rfl⟩)
        go_ret
        refine ⟨_, rfl, ?_, ST.out.bel⟩
        rw [decide_eq_true_iff, IV.out.2.2 (2 ^ en), nats_all]
end Go.Proofs.YtdlldljgogbiaabGreat
namespace Go.Proofs.YtdlldljgogbiaabGreat
open Go.RowKit
set_option linter.unusedVariables false
set_option maxRecDepth 40000

/-- the end alone, of a net's text -/
def Flow.lastQ (s : ByteArray) : Nat := 2 ^ (Flow.bt s 1 - 65)
theorem wordsN_any (s word : ByteArray) (w : World) (hs : s.size ≤ maxLen) (hw : word.size ≤ maxLen) (hc : Flow.checkErr s = 0) : Calls Tryz.prog 30 #[.string s, .string word] w fun e w' => ∃ b, e = .returned (.bool b) ∧ (b = true ↔ Flow.Spells (Flow.readTr s) (Flow.first s) (Flow.nats word) (Flow.lastQ s)) ∧ Below w.heap.size w w' := by
  obtain ⟨hok, hsz, hp0, hp1⟩ := checkErr_ok hc
  have q0 := Flow.isPl_iff.1 hp0
  have q1 := Flow.isPl_iff.1 hp1
  have c1 := fun w => readR_ok s w hs hc
  have c2 : ∀ a cap base w, w.ownsRow base 108 3 (.slice a (Flow.readTr s).length cap) (Flow.readTr s).length (cellsR (Flow.readTr s)) → Calls Tryz.prog 59 #[.agg (netQ ((Flow.bt s 0 - 65 : Nat) : Int) ((Flow.bt s 1 - 65 : Nat) : Int) a (Flow.readTr s).length cap), .string word] w fun e w' => ∃ b, e = .returned (.bool b) ∧ (b = true ↔ Flow.Spells (Flow.readTr s) (Flow.first s) (Flow.nats word) (Flow.lastQ s)) ∧ Below w.heap.size w w' := fun a cap base w ho => wordsR_any (Flow.readTr s) (Flow.bt s 0 - 65) (Flow.bt s 1 - 65) a cap base word w (by omega) (by omega) hw (readTr_small s) (readTr_size s) ho
  clear hok hsz hp0 hp1 q0 q1
  go_enter Tryz.func30, Tryz.ntmps30
  go_wp2_with (first | (go_at_call 33; refine (c1 _).mono ?_; rintro e w1 ⟨a, cap, at', rfl, hb1, ho1⟩; have HB1 : Hid _ := hb1; have HO1 : Hid (w1.ownsRow _ 108 3 (.slice a (Flow.readTr s).length cap) (Flow.readTr s).length (cellsR (Flow.readTr s))) := ho1; clear hb1 ho1) | (go_at_call 59; refine (c2 a cap _ _ (HO1.out.alloc _)).mono ?_; rintro e w2 ⟨b, rfl, hb, hb2⟩; have HB2 : Hid _ := hb2; have RB : Hid _ := hb; clear hb2 hb))
  go_ret
  have z1 := HB1.out.size
  exact ⟨b, rfl, RB.out, (HB1.out.alloc z1 _).trans (HB2.out.mono (by simp; omega))⟩

/-- what Plays answers -/
def Flow.PlaysA (s word : ByteArray) (b : Bool) (e : Nat) : Prop :=
  ((160 < s.size ∨ 8 < word.size) ∧ b = false ∧ e = 1) ∨
  (¬ (160 < s.size ∨ 8 < word.size) ∧ Flow.checkErr s ≠ 0 ∧ b = false ∧ e = Flow.checkErr s) ∨
  (¬ (160 < s.size ∨ 8 < word.size) ∧ Flow.checkErr s = 0 ∧ ¬ Flow.IsWord word ∧ b = false ∧ e = 8) ∨
  (¬ (160 < s.size ∨ 8 < word.size) ∧ Flow.checkErr s = 0 ∧ Flow.IsWord word ∧ (b = true ↔ Flow.Spells (Flow.readTr s) (Flow.first s) (Flow.nats word) (Flow.lastQ s)) ∧ e = 0)
def PlaysPost (s word : ByteArray) (w : World) (en : Ending) (w' : World) : Prop := ∃ b e, en = .returned (.tuple #[.bool b, .int .i64 (e : Nat)]) ∧ Flow.PlaysA s word b e ∧ Below w.heap.size w w'
theorem playsA_unique {s word : ByteArray} {b b' : Bool} {e e' : Nat} (h : Flow.PlaysA s word b e) (h' : Flow.PlaysA s word b' e') : b = b' ∧ e = e' := by
  rcases h with ⟨a1, a2, a3⟩ | ⟨a1, a2, a3, a4⟩ | ⟨a1, a2, a3, a4, a5⟩ | ⟨a1, a2, a3, a4, a5⟩ <;> rcases h' with ⟨b1, b2, b3⟩ | ⟨b1, b2, b3, b4⟩ | ⟨b1, b2, b3, b4, b5⟩ | ⟨b1, b2, b3, b4, b5⟩
  · exact ⟨by rw [a2, b2], by rw [a3, b3]⟩
  · exact absurd a1 b1
  · exact absurd a1 b1
  · exact absurd a1 b1
  · exact absurd b1 a1
  · exact ⟨by rw [a3, b3], by rw [a4, b4]⟩
  · exact absurd b2 a2
  · exact absurd b2 a2
  · exact absurd b1 a1
  · exact absurd a2 b2
  · exact ⟨by rw [a4, b4], by rw [a5, b5]⟩
  · exact absurd b3 a3
  · exact absurd b1 a1
  · exact absurd a2 b2
  · exact absurd a3 b3
  · refine ⟨?_, by rw [a5, b5]⟩
    rw [Bool.eq_iff_iff, a4, b4]

end Go.Proofs.YtdlldljgogbiaabGreat
