/-
  Steps played backwards: a transition that takes and puts in exchange leads back, and nowhere else: plain.
-/
import Derived.Test.YtdlldljgogbiaabGreatNextR
namespace Go.Proofs.YtdlldljgogbiaabGreat
open Go.RowKit

/-- what a transition takes and puts, exchanged -/
def Flow.turnT (t : Flow.Tr) : Flow.Tr := ⟨0, t.out, t.inn⟩
def Flow.turn (ts : List Flow.Tr) : List Flow.Tr := ts.map Flow.turnT
theorem turn_len (ts : List Flow.Tr) : (Flow.turn ts).length = ts.length := by unfold Flow.turn; simp
theorem turn_small {ts : List Flow.Tr} (h : ∀ t ∈ ts, Flow.Small t) : ∀ t ∈ Flow.turn ts, Flow.Small t := by
  intro t ht
  obtain ⟨u, hu, rfl⟩ := List.mem_map.1 ht
  obtain ⟨a, b, c⟩ := h u hu
  exact ⟨by show (0 : Nat) < 256; decide, c, b⟩
theorem turn_get {ts : List Flow.Tr} {k : Nat} {t : Flow.Tr} (h : ts[k]? = some t) : (Flow.turn ts)[k]? = some (Flow.turnT t) := by
  unfold Flow.turn; rw [List.getElem?_map, h]; rfl

theorem sub_and {m i : Nat} (hm : m < 65536) (h : m &&& i = i) : (m - i) &&& i = 0 := by
  have hi : i ≤ m := by rw [← h]; exact Nat.and_le_left
  have h1 : (m ^^^ i) &&& i = 0 := by
    apply Nat.eq_of_testBit_eq
    intro b
    have hb := congrArg (fun x => Nat.testBit x b) h
    simp only [Nat.testBit_and] at hb
    rw [Nat.testBit_and, Nat.testBit_xor, Nat.zero_testBit]
    cases e1 : Nat.testBit m b <;> cases e2 : Nat.testBit i b <;> simp_all
  have h2 : (m ^^^ i) ||| i = m := by
    apply Nat.eq_of_testBit_eq
    intro b
    have hb := congrArg (fun x => Nat.testBit x b) h
    simp only [Nat.testBit_and] at hb
    rw [Nat.testBit_or, Nat.testBit_xor]
    cases e1 : Nat.testBit m b <;> cases e2 : Nat.testBit i b <;> simp_all
  have h3 := Flow.or_add (a := m ^^^ i) (b := i) (Nat.xor_lt_two_pow (n := 16) hm (by omega)) (by omega) h1
  rw [h2] at h3
  have h4 : m - i = m ^^^ i := by omega
  rw [h4]; exact h1
theorem or_and_right {a b : Nat} : (a ||| b) &&& b = b := by
  apply Nat.eq_of_testBit_eq
  intro i
  rw [Nat.testBit_and, Nat.testBit_or]
  cases Nat.testBit a i <;> cases Nat.testBit b i <;> rfl

theorem fire_back {t : Flow.Tr} {m : Nat} (hm : m < 65536) (ht : Flow.Small t) (h : Flow.fireErr t m = 0) : Flow.fireErr (Flow.turnT t) (Flow.after t m) = 0 ∧ Flow.after (Flow.turnT t) (Flow.after t m) = m := by
  obtain ⟨h1, h2⟩ := fireErr_zero h
  have hle := enabled_le h1
  have h1' : m &&& t.inn = t.inn := by simpa [Flow.enabled] using h1
  have h3 : (m - t.inn) &&& t.out = 0 := by simpa [Flow.spills] using h2
  have e := Flow.or_add (a := m - t.inn) (b := t.out) (by omega) ht.2.2 h3
  have a1 : Flow.after t m = m - t.inn + t.out := rfl
  have a2 : Flow.after t m - t.out = m - t.inn := by rw [a1]; omega
  have e1 : Flow.enabled (Flow.turnT t) (Flow.after t m) = true := by
    show decide (Flow.after t m &&& t.out = t.out) = true
    rw [a1, ← e, or_and_right]; simp
  have e2 : Flow.spills (Flow.turnT t) (Flow.after t m) = false := by
    show (!decide ((Flow.after t m - t.out) &&& t.inn = 0)) = false
    rw [a2, sub_and hm h1']; rfl
  refine ⟨by unfold Flow.fireErr; rw [if_neg (by rw [e1]; simp), if_neg (by rw [e2]; simp)], ?_⟩
  show Flow.after t m - t.out + t.inn = m
  omega
theorem next_back {ts : List Flow.Tr} {m m' k : Nat} (hts : ∀ t ∈ ts, Flow.Small t) (hm : m < 65536) (h : Flow.nextM ts m k = some m') : Flow.nextM (Flow.turn ts) m' k = some m := by
  cases e : ts[k]? with
  | none => unfold Flow.nextM at h; rw [e] at h; cases h
  | some t =>
    rw [nextM_at e] at h
    by_cases f : Flow.fireErr t m = 0
    · rw [if_pos f] at h
      injection h with h
      obtain ⟨g1, g2⟩ := fire_back hm (hts t (List.mem_of_getElem? e)) f
      rw [nextM_at (turn_get e), ← h, if_pos g1, g2]
    · rw [if_neg f] at h; cases h
theorem turn_next (ts : List Flow.Tr) (m k : Nat) : Flow.nextM (Flow.turn (Flow.turn ts)) m k = Flow.nextM ts m k := by
  unfold Flow.nextM Flow.turn
  rw [List.map_map, List.getElem?_map]
  cases ts[k]? <;> rfl
theorem turn_goes (ts : List Flow.Tr) (ks : List Nat) : ∀ m, Flow.goes (Flow.turn (Flow.turn ts)) m ks = Flow.goes ts m ks := by
  induction ks with
  | nil => intro m; rfl
  | cons k ks ih =>
    intro m
    unfold Flow.goes
    rw [turn_next]
    cases Flow.nextM ts m k with
    | none => rfl
    | some m' => exact ih m'
theorem goes_small {ts : List Flow.Tr} {m m' : Nat} {ks : List Nat} (hts : ∀ t ∈ ts, Flow.Small t) (hm : m < 65536) (h : Flow.goes ts m ks = some m') : m' < 65536 := by
  induction ks generalizing m with
  | nil => have : m = m' := by simpa [Flow.goes] using h
           omega
  | cons k ks ih =>
    unfold Flow.goes at h
    cases e : Flow.nextM ts m k with
    | none => rw [e] at h; cases h
    | some m1 => rw [e] at h; exact ih (nextM_lt hts hm e) h
theorem goes_back {ts : List Flow.Tr} {m m' : Nat} {ks : List Nat} (hts : ∀ t ∈ ts, Flow.Small t) (hm : m < 65536) (h : Flow.goes ts m ks = some m') : Flow.goes (Flow.turn ts) m' ks.reverse = some m := by
  induction ks generalizing m with
  | nil => have : m = m' := by simpa [Flow.goes] using h
           subst this; rfl
  | cons k ks ih =>
    unfold Flow.goes at h
    cases e : Flow.nextM ts m k with
    | none => rw [e] at h; cases h
    | some m1 =>
      rw [e] at h
      rw [List.reverse_cons, Flow.goes_snoc, ih (nextM_lt hts hm e) h]
      exact next_back hts hm e
/-- a search back from e meets just the markings from which e can be reached -/
theorem turn_has {ts : List Flow.Tr} {e : Nat} {l : List Flow.Node} (hts : ∀ t ∈ ts, Flow.Small t) (hlen : ts.length ≤ 16) (he : e < 65536) (hb : Flow.Bfs (Flow.turn ts) e l) {m : Nat} (hm : m < 65536) :
    (∃ (j : Nat) (x : Flow.Node), l[j]? = some x ∧ x.mark = m) ↔ ∃ ks, Flow.goes ts m ks = some e := by
  constructor
  · rintro ⟨j, x, hj, rfl⟩
    have := goes_back (turn_small hts) he (Flow.key_goes hb j x hj)
    rw [turn_goes] at this
    exact ⟨_, this⟩
  · rintro ⟨ks, h⟩
    obtain ⟨j, x, hj, hx, _⟩ := hb.complete (by rw [turn_len]; exact hlen) ks.reverse m (goes_back hts hm h)
    exact ⟨j, x, hj, hx⟩
end Go.Proofs.YtdlldljgogbiaabGreat
