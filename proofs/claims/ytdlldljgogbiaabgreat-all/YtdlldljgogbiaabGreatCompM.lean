/-
  Laid as one: Piece, PiecePar, Comp.
-/
import Derived.Test.YtdlldljgogbiaabGreatTurn
import Derived.Test.YtdlldljgogbiaabGreatBaseM
namespace Go.Proofs.YtdlldljgogbiaabGreat
open Go.RowKit
set_option linter.unusedVariables false

/-- transition t leads from m to m' -/
def Fires (t : Flow.Tr) (m m' : Nat) : Prop := Flow.fireErr t m = 0 ∧ Flow.after t m = m'
theorem Fires.eq {t : Flow.Tr} {m a b : Nat} (h : Fires t m a) (g : Fires t m b) : a = b := h.2.symm.trans g.2
theorem en_iff {t : Flow.Tr} {m : Nat} : Flow.enabled t m = true ↔ ∀ i, t.inn.testBit i = true → m.testBit i = true := by
  unfold Flow.enabled
  rw [decide_eq_true_iff]
  constructor
  · intro h i hi
    have := congrArg (fun x => Nat.testBit x i) h
    simp only [Nat.testBit_and] at this
    rw [hi, Bool.and_true] at this
    exact this
  · intro h
    apply Nat.eq_of_testBit_eq
    intro i
    rw [Nat.testBit_and]
    cases hi : t.inn.testBit i with
    | false => simp
    | true => rw [h i hi]; rfl
theorem Fires.en {t : Flow.Tr} {m a : Nat} (h : Fires t m a) : Flow.enabled t m = true := (fireErr_zero h.1).1
theorem sub_bit {m a : Nat} (hm : m < 65536) (h : m &&& a = a) (i : Nat) : (m - a).testBit i = (m.testBit i && !a.testBit i) := by
  have ha : a ≤ m := by rw [← h]; exact Nat.and_le_left
  have hb : ∀ b, (m.testBit b && a.testBit b) = a.testBit b := fun b => by
    have := congrArg (fun x => Nat.testBit x b) h
    simpa only [Nat.testBit_and] using this
  have h1 : (m ^^^ a) &&& a = 0 := by
    apply Nat.eq_of_testBit_eq
    intro b
    have := hb b
    rw [Nat.testBit_and, Nat.testBit_xor, Nat.zero_testBit]
    cases e1 : Nat.testBit m b <;> cases e2 : Nat.testBit a b <;> simp_all
  have h2 : (m ^^^ a) ||| a = m := by
    apply Nat.eq_of_testBit_eq
    intro b
    have := hb b
    rw [Nat.testBit_or, Nat.testBit_xor]
    cases e1 : Nat.testBit m b <;> cases e2 : Nat.testBit a b <;> simp_all
  have h3 := Flow.or_add (a := m ^^^ a) (b := a) (Nat.xor_lt_two_pow (n := 16) hm (by omega)) (by omega) h1
  rw [h2] at h3
  have h4 : m - a = m ^^^ a := by omega
  have := hb i
  rw [h4, Nat.testBit_xor]
  clear h1 h2 h3 h4 hb ha hm h
  cases e1 : Nat.testBit m i <;> cases e2 : Nat.testBit a i <;> simp_all
theorem fire_get {t : Flow.Tr} {m m' : Nat} (hm : m < 65536) (ht : Flow.Small t) (h : Fires t m m') :
    (∀ i, t.inn.testBit i = true → m.testBit i = true) ∧ (∀ i, m.testBit i = true → t.inn.testBit i = false → t.out.testBit i = false) ∧ (∀ i, m'.testBit i = ((m.testBit i && !t.inn.testBit i) || t.out.testBit i)) := by
  obtain ⟨h1, h2⟩ := fireErr_zero h.1
  have e1 : m &&& t.inn = t.inn := by simpa [Flow.enabled] using h1
  have e2 : (m - t.inn) &&& t.out = 0 := by simpa [Flow.spills] using h2
  refine ⟨en_iff.1 h1, ?_, ?_⟩
  · intro i hi hn
    have := congrArg (fun x => Nat.testBit x i) e2
    simp only [Nat.testBit_and, Nat.zero_testBit, sub_bit hm e1] at this
    rw [hi, hn] at this
    simpa using this
  · intro i
    rw [← h.2]
    show (m - t.inn + t.out).testBit i = _
    rw [← Flow.or_add (by omega) ht.2.2 e2, Nat.testBit_or, sub_bit hm e1]
theorem fire_mk {t : Flow.Tr} {m m' : Nat} (hm : m < 65536) (ht : Flow.Small t) (h1 : ∀ i, t.inn.testBit i = true → m.testBit i = true) (h2 : ∀ i, m.testBit i = true → t.inn.testBit i = false → t.out.testBit i = false)
    (h3 : ∀ i, m'.testBit i = ((m.testBit i && !t.inn.testBit i) || t.out.testBit i)) : Fires t m m' := by
  have g1 := en_iff.2 h1
  have e1 : m &&& t.inn = t.inn := by simpa [Flow.enabled] using g1
  have e2 : (m - t.inn) &&& t.out = 0 := by
    apply Nat.eq_of_testBit_eq
    intro i
    rw [Nat.testBit_and, sub_bit hm e1, Nat.zero_testBit]
    have := h2 i
    cases a1 : m.testBit i <;> cases a2 : t.inn.testBit i <;> simp_all
  refine ⟨?_, ?_⟩
  · unfold Flow.fireErr
    rw [if_neg (by rw [g1]; simp), if_neg (by unfold Flow.spills; rw [decide_eq_true e2]; simp)]
  · apply Nat.eq_of_testBit_eq
    intro i
    rw [h3 i]
    show (m - t.inn + t.out).testBit i = _
    rw [← Flow.or_add (by omega) ht.2.2 e2, Nat.testBit_or, sub_bit hm e1]
theorem fire_lt {t : Flow.Tr} {m m' : Nat} (hm : m < 65536) (ht : Flow.Small t) (h : Fires t m m') : m' < 65536 := by rw [← h.2]; exact after_lt hm ht h.1
theorem bit_pow (a i : Nat) : (2 ^ a).testBit i = decide (a = i) := Nat.testBit_two_pow
theorem bit_self (a : Nat) : (2 ^ a).testBit a = true := by rw [bit_pow]; simp
theorem bit_only {a i : Nat} (h : (2 ^ a).testBit i = true) : i = a := by rw [bit_pow, decide_eq_true_iff] at h; exact h.symm
theorem pow_lt16 {a : Nat} (h : a < 16) : 2 ^ a < 65536 := by
  have h1 := Nat.pow_le_pow_right (n := 2) (by omega) (show a ≤ 15 by omega)
  have e : (2 : Nat) ^ 15 = 32768 := by decide
  omega
/-- what else a marking holds changes nothing -/
theorem fire_frame {t : Flow.Tr} {x y : Nat} (hx : x < 65536) (hy : y < 65536) (ht : Flow.Small t) (hoff : ∀ i, y.testBit i = true → t.inn.testBit i = false ∧ t.out.testBit i = false) {m' : Nat} : Fires t (x ||| y) m' ↔ ∃ x', Fires t x x' ∧ m' = x' ||| y := by
  have hxy : x ||| y < 65536 := Nat.or_lt_two_pow (n := 16) hx hy
  have key : ∀ i, t.inn.testBit i = true → y.testBit i = false := fun i hi => by
    cases e : y.testBit i with
    | false => rfl
    | true => have := (hoff i e).1; rw [hi] at this; cases this
  constructor
  · intro h
    obtain ⟨h1, h2, h3⟩ := fire_get hxy ht h
    have g : Fires t x (Flow.after t x) := by
      refine ⟨(fire_mk (m' := Flow.after t x) hx ht ?_ ?_ ?_).1, rfl⟩
      · intro i hi
        have := h1 i hi
        rw [Nat.testBit_or, key i hi, Bool.or_false] at this
        exact this
      · intro i hi hn
        exact h2 i (by rw [Nat.testBit_or, hi]; rfl) hn
      · have h1' : ∀ i, t.inn.testBit i = true → x.testBit i = true := by
          intro i hi
          have := h1 i hi
          rw [Nat.testBit_or, key i hi, Bool.or_false] at this
          exact this
        have h2' : ∀ i, x.testBit i = true → t.inn.testBit i = false → t.out.testBit i = false := fun i hi hn => h2 i (by rw [Nat.testBit_or, hi]; rfl) hn
        have e1 : x &&& t.inn = t.inn := by simpa [Flow.enabled] using en_iff.2 h1'
        have e2 : (x - t.inn) &&& t.out = 0 := by
          apply Nat.eq_of_testBit_eq
          intro i
          rw [Nat.testBit_and, sub_bit hx e1, Nat.zero_testBit]
          have := h2' i
          cases a1 : x.testBit i <;> cases a2 : t.inn.testBit i <;> simp_all
        intro i
        show (x - t.inn + t.out).testBit i = _
        rw [← Flow.or_add (by omega) ht.2.2 e2, Nat.testBit_or, sub_bit hx e1]
    refine ⟨_, g, ?_⟩
    apply Nat.eq_of_testBit_eq
    intro i
    rw [h3 i, Nat.testBit_or, Nat.testBit_or, (fire_get hx ht g).2.2 i]
    have := hoff i
    have := key i
    cases a1 : x.testBit i <;> cases a2 : y.testBit i <;> cases a3 : t.inn.testBit i <;> cases a4 : t.out.testBit i <;> simp_all
  · rintro ⟨x', h, rfl⟩
    obtain ⟨h1, h2, h3⟩ := fire_get hx ht h
    refine fire_mk hxy ht ?_ ?_ ?_
    · intro i hi; rw [Nat.testBit_or, h1 i hi]; rfl
    · intro i hi hn
      rw [Nat.testBit_or] at hi
      cases e : y.testBit i with
      | true => exact (hoff i e).2
      | false => rw [e, Bool.or_false] at hi; exact h2 i hi hn
    · intro i
      rw [Nat.testBit_or, Nat.testBit_or, h3 i]
      have := hoff i
      have := key i
      cases a1 : x.testBit i <;> cases a2 : y.testBit i <;> cases a3 : t.inn.testBit i <;> cases a4 : t.out.testBit i <;> simp_all
theorem en_frame {t : Flow.Tr} {x y : Nat} (hoff : ∀ i, y.testBit i = true → t.inn.testBit i = false) : Flow.enabled t (x ||| y) = true ↔ Flow.enabled t x = true := by
  rw [en_iff, en_iff]
  constructor
  · intro h i hi
    have := h i hi
    rw [Nat.testBit_or] at this
    cases e : y.testBit i with
    | false => rw [e, Bool.or_false] at this; exact this
    | true => have := hoff i e; rw [hi] at this; cases this
  · intro h i hi; rw [Nat.testBit_or, h i hi]; rfl

/-- the letters of steps -/
def wordT (r : List Flow.Tr) : List Nat := r.filterMap fun t => if t.label = 45 then none else some t.label
theorem wordT_append (a b : List Flow.Tr) : wordT (a ++ b) = wordT a ++ wordT b := by unfold wordT; rw [List.filterMap_append]
theorem wordT_quiet {t : Flow.Tr} (h : t.label = 45) (r : List Flow.Tr) : wordT (t :: r) = wordT r := by unfold wordT; rw [List.filterMap_cons, if_pos h]
theorem wordT_loud {t : Flow.Tr} (h : t.label ≠ 45) (r : List Flow.Tr) : wordT (t :: r) = t.label :: wordT r := by unfold wordT; rw [List.filterMap_cons, if_neg h]
theorem wordT_cons (t : Flow.Tr) (r : List Flow.Tr) : wordT (t :: r) = wordT [t] ++ wordT r := wordT_append [t] r
/-- steps from x to y: all markings on the way, the last apart, are inner ones -/
def Tail (ts : List Flow.Tr) (In : Nat → Prop) : Nat → List Flow.Tr → Nat → Prop
  | x, [], y => x = y
  | x, t :: r, y => t ∈ ts ∧ In x ∧ ∃ x', Fires t x x' ∧ Tail ts In x' r y
theorem tail_mono {ts ts' : List Flow.Tr} {In In' : Nat → Prop} (ht : ∀ t ∈ ts, t ∈ ts') (hi : ∀ x, In x → In' x) : ∀ {r : List Flow.Tr} {x y : Nat}, Tail ts In x r y → Tail ts' In' x r y := by
  intro r
  induction r with
  | nil => intro x y h; exact h
  | cons t r ih =>
    rintro x y ⟨h1, h2, x', h3, h4⟩
    exact ⟨ht t h1, hi x h2, x', h3, ih h4⟩
theorem tail_append {ts : List Flow.Tr} {In : Nat → Prop} : ∀ {r r' : List Flow.Tr} {x y z : Nat}, Tail ts In x r y → Tail ts In y r' z → Tail ts In x (r ++ r') z := by
  intro r
  induction r with
  | nil =>
    intro r' x y z h g
    have : x = y := h
    subst this; exact g
  | cons t r ih =>
    rintro r' x y z ⟨h1, h2, x', h3, h4⟩ g
    exact ⟨h1, h2, x', h3, ih h4 g⟩

/-- a piece of net that leads from place a to place b, with places of its own; inner markings; its words -/
structure Piece (ts : List Flow.Tr) (a b : Nat) (I : Nat → Prop) (In : Nat → Prop) (Lg : List Nat → Prop) : Prop where
  ha : a < 16
  hb : b < 16
  nA : ¬ I a
  nB : ¬ I b
  small : ∀ t ∈ ts, Flow.Small t
  takes : ∀ t ∈ ts, ∀ i, t.inn.testBit i = true → i = a ∨ I i
  any : ∀ t ∈ ts, ∃ i, t.inn.testBit i = true
  puts : ∀ t ∈ ts, ∀ i, t.out.testBit i = true → i = b ∨ I i
  inn : ∀ x, In x → x < 65536 ∧ (∀ i, x.testBit i = true → I i) ∧ ∃ i, x.testBit i = true
  first : ∀ t ∈ ts, Flow.enabled t (2 ^ a) = true → ∃ x, Fires t (2 ^ a) x ∧ (x = 2 ^ b ∨ In x)
  next : ∀ t ∈ ts, ∀ x, In x → Flow.enabled t x = true → ∃ x', Fires t x x' ∧ (x' = 2 ^ b ∨ In x')
  words : ∀ u, (∃ t x r, t ∈ ts ∧ Fires t (2 ^ a) x ∧ Tail ts In x r (2 ^ b) ∧ wordT (t :: r) = u) ↔ Lg u
  some : ∃ u, Lg u
  ends : ∀ x, In x → ∃ r, Tail ts In x r (2 ^ b)
  live : ∀ t ∈ ts, Flow.enabled t (2 ^ a) = true ∨ ∃ x, In x ∧ Flow.enabled t x = true ∧ ∃ t0 x0 r, t0 ∈ ts ∧ Fires t0 (2 ^ a) x0 ∧ Tail ts In x0 r x
/-- where it has no token, it does nothing -/
theorem Piece.off {ts : List Flow.Tr} {a b : Nat} {I In : Nat → Prop} {Lg : List Nat → Prop} (P : Piece ts a b I In Lg) {t : Flow.Tr} (ht : t ∈ ts) {x : Nat} (hx : ∀ i, x.testBit i = true → i ≠ a ∧ ¬ I i) : ¬ Flow.enabled t x = true := by
  intro h
  obtain ⟨i, hi⟩ := P.any t ht
  have h1 := en_iff.1 h i hi
  rcases P.takes t ht i hi with e | e
  · exact (hx i h1).1 e
  · exact (hx i h1).2 e
theorem Piece.notB {ts : List Flow.Tr} {a b : Nat} {I In : Nat → Prop} {Lg : List Nat → Prop} (P : Piece ts a b I In Lg) {c : Nat} (hc : ¬ I c) : ¬ In (2 ^ c) := fun h => hc ((P.inn _ h).2.1 c (bit_self c))
theorem Piece.step {ts : List Flow.Tr} {a b : Nat} {I In : Nat → Prop} {Lg : List Nat → Prop} (P : Piece ts a b I In Lg) {t : Flow.Tr} (ht : t ∈ ts) {x x' : Nat} (hx : In x) (hf : Fires t x x') : x' = 2 ^ b ∨ In x' := by
  obtain ⟨z, h1, h2⟩ := P.next t ht x hx hf.en
  rw [hf.eq h1]; exact h2
theorem Piece.start {ts : List Flow.Tr} {a b : Nat} {I In : Nat → Prop} {Lg : List Nat → Prop} (P : Piece ts a b I In Lg) {t : Flow.Tr} (ht : t ∈ ts) {x' : Nat} (hf : Fires t (2 ^ a) x') : x' = 2 ^ b ∨ In x' := by
  obtain ⟨z, h1, h2⟩ := P.first t ht hf.en
  rw [hf.eq h1]; exact h2
theorem pow_inj {a b : Nat} (h : 2 ^ a = 2 ^ b) : a = b := bit_only (a := b) (by rw [← h]; exact bit_self a)

/-- a step from one place to another -/
theorem fires_one {c a b : Nat} (ha : a < 16) (hb : b < 16) (hc : c < 256) : Fires ⟨c, 2 ^ a, 2 ^ b⟩ (2 ^ a) (2 ^ b) :=
  fire_mk (pow_lt16 ha) ⟨hc, pow_lt16 ha, pow_lt16 hb⟩ (fun i h => h) (fun i h1 h2 => by rw [h1] at h2; cases h2) (fun i => by cases (2 ^ a).testBit i <;> simp)
theorem small_one {c a b : Nat} (ha : a < 16) (hb : b < 16) (hc : c < 256) : Flow.Small ⟨c, 2 ^ a, 2 ^ b⟩ := ⟨hc, pow_lt16 ha, pow_lt16 hb⟩

theorem piece_task {c a b : Nat} (ha : a < 16) (hb : b < 16) (hc : c < 256) (h45 : c ≠ 45) : Piece [⟨c, 2 ^ a, 2 ^ b⟩] a b (fun _ => False) (fun _ => False) (fun u => u = [c]) := by
  have one : ∀ t, t ∈ [(⟨c, 2 ^ a, 2 ^ b⟩ : Flow.Tr)] → t = ⟨c, 2 ^ a, 2 ^ b⟩ := fun t ht => List.mem_singleton.1 ht
  refine ⟨ha, hb, id, id, ?_, ?_, ?_, ?_, ?_, ?_, ?_, ?_, ⟨[c], rfl⟩, ?_, ?_⟩
  · intro t ht; rw [one t ht]; exact small_one ha hb hc
  · intro t ht i hi; rw [one t ht] at hi; exact .inl (bit_only hi)
  · intro t ht; rw [one t ht]; exact ⟨a, bit_self a⟩
  · intro t ht i hi; rw [one t ht] at hi; exact .inl (bit_only hi)
  · intro x hx; exact absurd hx id
  · intro t ht _; rw [one t ht]; exact ⟨_, fires_one ha hb hc, .inl rfl⟩
  · intro t ht x hx; exact absurd hx id
  · intro u
    constructor
    · rintro ⟨t, x, r, ht, hf, htl, hw⟩
      rw [one t ht] at hf hw
      have hx : x = 2 ^ b := hf.eq (fires_one ha hb hc)
      subst hx
      cases r with
      | nil => rw [wordT_loud h45] at hw; exact hw.symm
      | cons t' r => exact absurd htl.2.1 id
    · rintro rfl
      exact ⟨_, _, [], List.mem_singleton.2 rfl, fires_one ha hb hc, rfl, by rw [wordT_loud h45]; rfl⟩
  · intro x hx; exact absurd hx id
  · intro t ht; rw [one t ht]; exact .inl (fires_one ha hb hc).en

theorem piece_seq {t1 t2 : List Flow.Tr} {a m b : Nat} {I1 I2 In1 In2 : Nat → Prop} {L1 L2 : List Nat → Prop} (P : Piece t1 a m I1 In1 L1) (Q : Piece t2 m b I2 In2 L2) (hma : m ≠ a) (hmb : m ≠ b) (h1b : ¬ I1 b) (h2a : ¬ I2 a) (hd : ∀ i, I1 i → ¬ I2 i) :
    Piece (t1 ++ t2) a b (fun i => I1 i ∨ i = m ∨ I2 i) (fun x => In1 x ∨ x = 2 ^ m ∨ In2 x) (fun w => ∃ u v, w = u ++ v ∧ L1 u ∧ L2 v) := by
  have off2a : ∀ t ∈ t2, ¬ Flow.enabled t (2 ^ a) = true := fun t ht => Q.off ht (fun i hi => by rw [bit_only hi]; exact ⟨fun e => hma e.symm, h2a⟩)
  have off1m : ∀ t ∈ t1, ¬ Flow.enabled t (2 ^ m) = true := fun t ht => P.off ht (fun i hi => by rw [bit_only hi]; exact ⟨hma, P.nB⟩)
  have off2i : ∀ t ∈ t2, ∀ x, In1 x → ¬ Flow.enabled t x = true := fun t ht x hx => Q.off ht (fun i hi => ⟨fun e => P.nB (e ▸ (P.inn x hx).2.1 i hi), hd i ((P.inn x hx).2.1 i hi)⟩)
  have off1i : ∀ t ∈ t1, ∀ x, In2 x → ¬ Flow.enabled t x = true := fun t ht x hx => P.off ht (fun i hi => ⟨fun e => h2a (e ▸ (Q.inn x hx).2.1 i hi), fun e => hd i e ((Q.inn x hx).2.1 i hi)⟩)
  have inL : ∀ x, In1 x → In1 x ∨ x = 2 ^ m ∨ In2 x := fun x h => .inl h
  have inR : ∀ x, In2 x → In1 x ∨ x = 2 ^ m ∨ In2 x := fun x h => .inr (.inr h)
  have mL : ∀ t ∈ t1, t ∈ t1 ++ t2 := fun t h => List.mem_append_left _ h
  have mR : ∀ t ∈ t2, t ∈ t1 ++ t2 := fun t h => List.mem_append_right _ h
  have noB : ¬ (In1 (2 ^ b) ∨ 2 ^ b = 2 ^ m ∨ In2 (2 ^ b)) := by
    rintro (h | h | h)
    · exact P.notB h1b h
    · exact hmb (pow_inj h).symm
    · exact Q.notB Q.nB h
  have tail2 : ∀ r x, (x = 2 ^ b ∨ In2 x) → Tail (t1 ++ t2) (fun x => In1 x ∨ x = 2 ^ m ∨ In2 x) x r (2 ^ b) → Tail t2 In2 x r (2 ^ b) := by
    intro r
    induction r with
    | nil => intro x _ h; exact h
    | cons t r ih =>
      rintro x hx ⟨h1, h2, x', h3, h4⟩
      rcases hx with hx | hx
      · rw [hx] at h2; exact absurd h2 noB
      · rcases List.mem_append.1 h1 with h1 | h1
        · exact absurd h3.en (off1i t h1 x hx)
        · exact ⟨h1, hx, x', h3, ih x' (Q.step h1 hx h3) h4⟩
  have split : ∀ r x, (x = 2 ^ m ∨ In1 x) → Tail (t1 ++ t2) (fun x => In1 x ∨ x = 2 ^ m ∨ In2 x) x r (2 ^ b) → ∃ r1 t' x' r2, r = r1 ++ t' :: r2 ∧ Tail t1 In1 x r1 (2 ^ m) ∧ t' ∈ t2 ∧ Fires t' (2 ^ m) x' ∧ Tail t2 In2 x' r2 (2 ^ b) := by
    intro r
    induction r with
    | nil =>
      intro x hx h
      have h' : x = 2 ^ b := h
      rcases hx with hx | hx
      · rw [hx] at h'; exact absurd (pow_inj h') hmb
      · rw [h'] at hx; exact absurd hx (P.notB h1b)
    | cons t r ih =>
      rintro x hx ⟨h1, h2, x', h3, h4⟩
      rcases hx with hx | hx
      · subst hx
        rcases List.mem_append.1 h1 with h1 | h1
        · exact absurd h3.en (off1m t h1)
        · exact ⟨[], t, x', r, rfl, rfl, h1, h3, tail2 r x' (Q.start h1 h3) h4⟩
      · rcases List.mem_append.1 h1 with h1 | h1
        · obtain ⟨r1, t', y, r2, e, g1, g2, g3, g4⟩ := ih x' (P.step h1 hx h3) h4
          exact ⟨t :: r1, t', y, r2, by rw [e]; rfl, ⟨h1, hx, x', h3, g1⟩, g2, g3, g4⟩
        · exact absurd h3.en (off2i t h1 x hx)
  refine ⟨P.ha, Q.hb, ?_, ?_, ?_, ?_, ?_, ?_, ?_, ?_, ?_, ?_, ?_, ?_, ?_⟩
  · rintro (h | h | h)
    · exact P.nA h
    · exact hma h.symm
    · exact h2a h
  · rintro (h | h | h)
    · exact h1b h
    · exact hmb h.symm
    · exact Q.nB h
  · intro t ht
    rcases List.mem_append.1 ht with ht | ht
    · exact P.small t ht
    · exact Q.small t ht
  · intro t ht i hi
    rcases List.mem_append.1 ht with ht | ht
    · rcases P.takes t ht i hi with h | h
      · exact .inl h
      · exact .inr (.inl h)
    · rcases Q.takes t ht i hi with h | h
      · exact .inr (.inr (.inl h))
      · exact .inr (.inr (.inr h))
  · intro t ht
    rcases List.mem_append.1 ht with ht | ht
    · exact P.any t ht
    · exact Q.any t ht
  · intro t ht i hi
    rcases List.mem_append.1 ht with ht | ht
    · rcases P.puts t ht i hi with h | h
      · exact .inr (.inr (.inl h))
      · exact .inr (.inl h)
    · rcases Q.puts t ht i hi with h | h
      · exact .inl h
      · exact .inr (.inr (.inr h))
  · rintro x (h | h | h)
    · obtain ⟨g1, g2, g3⟩ := P.inn x h
      exact ⟨g1, fun i hi => .inl (g2 i hi), g3⟩
    · rw [h]; exact ⟨pow_lt16 P.hb, fun i hi => .inr (.inl (bit_only hi)), m, bit_self m⟩
    · obtain ⟨g1, g2, g3⟩ := Q.inn x h
      exact ⟨g1, fun i hi => .inr (.inr (g2 i hi)), g3⟩
  · intro t ht he
    rcases List.mem_append.1 ht with ht | ht
    · obtain ⟨x, h1, h2⟩ := P.first t ht he
      rcases h2 with h2 | h2
      · exact ⟨x, h1, .inr (.inr (.inl h2))⟩
      · exact ⟨x, h1, .inr (.inl h2)⟩
    · exact absurd he (off2a t ht)
  · rintro t ht x (hx | hx | hx) he
    · rcases List.mem_append.1 ht with ht | ht
      · obtain ⟨x', h1, h2⟩ := P.next t ht x hx he
        rcases h2 with h2 | h2
        · exact ⟨x', h1, .inr (.inr (.inl h2))⟩
        · exact ⟨x', h1, .inr (.inl h2)⟩
      · exact absurd he (off2i t ht x hx)
    · subst hx
      rcases List.mem_append.1 ht with ht | ht
      · exact absurd he (off1m t ht)
      · obtain ⟨x', h1, h2⟩ := Q.first t ht he
        rcases h2 with h2 | h2
        · exact ⟨x', h1, .inl h2⟩
        · exact ⟨x', h1, .inr (.inr (.inr h2))⟩
    · rcases List.mem_append.1 ht with ht | ht
      · exact absurd he (off1i t ht x hx)
      · obtain ⟨x', h1, h2⟩ := Q.next t ht x hx he
        rcases h2 with h2 | h2
        · exact ⟨x', h1, .inl h2⟩
        · exact ⟨x', h1, .inr (.inr (.inr h2))⟩
  · intro w
    constructor
    · rintro ⟨t, x, r, ht, hf, htl, hw⟩
      rcases List.mem_append.1 ht with ht | ht
      · obtain ⟨r1, t', y, r2, e, g1, g2, g3, g4⟩ := split r x (P.start ht hf) htl
        refine ⟨wordT (t :: r1), wordT (t' :: r2), ?_, (P.words _).1 ⟨t, x, r1, ht, hf, g1, rfl⟩, (Q.words _).1 ⟨t', y, r2, g2, g3, g4, rfl⟩⟩
        rw [← hw, e, ← wordT_append]; rfl
      · exact absurd hf.en (off2a t ht)
    · rintro ⟨u, v, rfl, hu, hv⟩
      obtain ⟨t, x, r1, ht, hf, g1, rfl⟩ := (P.words u).2 hu
      obtain ⟨t', y, r2, g2, g3, g4, rfl⟩ := (Q.words v).2 hv
      refine ⟨t, x, r1 ++ t' :: r2, mL t ht, hf, tail_append (tail_mono mL inL g1) ⟨mR t' g2, .inr (.inl rfl), y, g3, tail_mono mR inR g4⟩, ?_⟩
      rw [← wordT_append]; rfl
  · obtain ⟨u, hu⟩ := P.some
    obtain ⟨v, hv⟩ := Q.some
    exact ⟨u ++ v, u, v, rfl, hu, hv⟩
  · have fromM : ∃ r, Tail (t1 ++ t2) (fun x => In1 x ∨ x = 2 ^ m ∨ In2 x) (2 ^ m) r (2 ^ b) := by
      obtain ⟨v, hv⟩ := Q.some
      obtain ⟨t', y, r2, g2, g3, g4, rfl⟩ := (Q.words v).2 hv
      exact ⟨t' :: r2, mR t' g2, .inr (.inl rfl), y, g3, tail_mono mR inR g4⟩
    rintro x (hx | hx | hx)
    · obtain ⟨r, hr⟩ := P.ends x hx
      obtain ⟨r', hr'⟩ := fromM
      exact ⟨r ++ r', tail_append (tail_mono mL inL hr) hr'⟩
    · rw [hx]; exact fromM
    · obtain ⟨r, hr⟩ := Q.ends x hx
      exact ⟨r, tail_mono mR inR hr⟩
  · obtain ⟨u, hu⟩ := P.some
    obtain ⟨tu, xu, ru, hu1, hu2, hu3, _⟩ := (P.words u).2 hu
    intro t ht
    rcases List.mem_append.1 ht with ht | ht
    · rcases P.live t ht with h | ⟨x, h1, h2, t0, x0, r, h3, h4, h5⟩
      · exact .inl h
      · exact .inr ⟨x, .inl h1, h2, t0, x0, r, mL t0 h3, h4, tail_mono mL inL h5⟩
    · rcases Q.live t ht with h | ⟨x, h1, h2, t0, x0, r, h3, h4, h5⟩
      · exact .inr ⟨2 ^ m, .inr (.inl rfl), h, tu, xu, ru, mL tu hu1, hu2, tail_mono mL inL hu3⟩
      · exact .inr ⟨x, .inr (.inr h1), h2, tu, xu, ru ++ t0 :: r, mL tu hu1, hu2, tail_append (tail_mono mL inL hu3) ⟨mR t0 h3, .inr (.inl rfl), x0, h4, tail_mono mR inR h5⟩⟩

theorem piece_alt {t1 t2 : List Flow.Tr} {a b : Nat} {I1 I2 In1 In2 : Nat → Prop} {L1 L2 : List Nat → Prop} (P : Piece t1 a b I1 In1 L1) (Q : Piece t2 a b I2 In2 L2) (hd : ∀ i, I1 i → ¬ I2 i) :
    Piece (t1 ++ t2) a b (fun i => I1 i ∨ I2 i) (fun x => In1 x ∨ In2 x) (fun w => L1 w ∨ L2 w) := by
  have off2i : ∀ t ∈ t2, ∀ x, In1 x → ¬ Flow.enabled t x = true := fun t ht x hx => Q.off ht (fun i hi => ⟨fun e => P.nA (e ▸ (P.inn x hx).2.1 i hi), hd i ((P.inn x hx).2.1 i hi)⟩)
  have off1i : ∀ t ∈ t1, ∀ x, In2 x → ¬ Flow.enabled t x = true := fun t ht x hx => P.off ht (fun i hi => ⟨fun e => Q.nA (e ▸ (Q.inn x hx).2.1 i hi), fun e => hd i e ((Q.inn x hx).2.1 i hi)⟩)
  have mL : ∀ t ∈ t1, t ∈ t1 ++ t2 := fun t h => List.mem_append_left _ h
  have mR : ∀ t ∈ t2, t ∈ t1 ++ t2 := fun t h => List.mem_append_right _ h
  have noB : ¬ (In1 (2 ^ b) ∨ In2 (2 ^ b)) := by
    rintro (h | h)
    · exact P.notB P.nB h
    · exact Q.notB Q.nB h
  have tail1 : ∀ r x, (x = 2 ^ b ∨ In1 x) → Tail (t1 ++ t2) (fun x => In1 x ∨ In2 x) x r (2 ^ b) → Tail t1 In1 x r (2 ^ b) := by
    intro r
    induction r with
    | nil => intro x _ h; exact h
    | cons t r ih =>
      rintro x hx ⟨h1, h2, x', h3, h4⟩
      rcases hx with hx | hx
      · rw [hx] at h2; exact absurd h2 noB
      · rcases List.mem_append.1 h1 with h1 | h1
        · exact ⟨h1, hx, x', h3, ih x' (P.step h1 hx h3) h4⟩
        · exact absurd h3.en (off2i t h1 x hx)
  have tail2 : ∀ r x, (x = 2 ^ b ∨ In2 x) → Tail (t1 ++ t2) (fun x => In1 x ∨ In2 x) x r (2 ^ b) → Tail t2 In2 x r (2 ^ b) := by
    intro r
    induction r with
    | nil => intro x _ h; exact h
    | cons t r ih =>
      rintro x hx ⟨h1, h2, x', h3, h4⟩
      rcases hx with hx | hx
      · rw [hx] at h2; exact absurd h2 noB
      · rcases List.mem_append.1 h1 with h1 | h1
        · exact absurd h3.en (off1i t h1 x hx)
        · exact ⟨h1, hx, x', h3, ih x' (Q.step h1 hx h3) h4⟩
  refine ⟨P.ha, P.hb, ?_, ?_, ?_, ?_, ?_, ?_, ?_, ?_, ?_, ?_, ?_, ?_, ?_⟩
  · rintro (h | h)
    · exact P.nA h
    · exact Q.nA h
  · rintro (h | h)
    · exact P.nB h
    · exact Q.nB h
  · intro t ht
    rcases List.mem_append.1 ht with ht | ht
    · exact P.small t ht
    · exact Q.small t ht
  · intro t ht i hi
    rcases List.mem_append.1 ht with ht | ht
    · exact (P.takes t ht i hi).imp id .inl
    · exact (Q.takes t ht i hi).imp id .inr
  · intro t ht
    rcases List.mem_append.1 ht with ht | ht
    · exact P.any t ht
    · exact Q.any t ht
  · intro t ht i hi
    rcases List.mem_append.1 ht with ht | ht
    · exact (P.puts t ht i hi).imp id .inl
    · exact (Q.puts t ht i hi).imp id .inr
  · rintro x (h | h)
    · obtain ⟨g1, g2, g3⟩ := P.inn x h
      exact ⟨g1, fun i hi => .inl (g2 i hi), g3⟩
    · obtain ⟨g1, g2, g3⟩ := Q.inn x h
      exact ⟨g1, fun i hi => .inr (g2 i hi), g3⟩
  · intro t ht he
    rcases List.mem_append.1 ht with ht | ht
    · obtain ⟨x, h1, h2⟩ := P.first t ht he
      exact ⟨x, h1, h2.imp id .inl⟩
    · obtain ⟨x, h1, h2⟩ := Q.first t ht he
      exact ⟨x, h1, h2.imp id .inr⟩
  · rintro t ht x (hx | hx) he
    · rcases List.mem_append.1 ht with ht | ht
      · obtain ⟨x', h1, h2⟩ := P.next t ht x hx he
        exact ⟨x', h1, h2.imp id .inl⟩
      · exact absurd he (off2i t ht x hx)
    · rcases List.mem_append.1 ht with ht | ht
      · exact absurd he (off1i t ht x hx)
      · obtain ⟨x', h1, h2⟩ := Q.next t ht x hx he
        exact ⟨x', h1, h2.imp id .inr⟩
  · intro w
    constructor
    · rintro ⟨t, x, r, ht, hf, htl, hw⟩
      rcases List.mem_append.1 ht with ht | ht
      · exact .inl ((P.words w).1 ⟨t, x, r, ht, hf, tail1 r x (P.start ht hf) htl, hw⟩)
      · exact .inr ((Q.words w).1 ⟨t, x, r, ht, hf, tail2 r x (Q.start ht hf) htl, hw⟩)
    · rintro (h | h)
      · obtain ⟨t, x, r, ht, hf, g, hw⟩ := (P.words w).2 h
        exact ⟨t, x, r, mL t ht, hf, tail_mono mL (fun x h => .inl h) g, hw⟩
      · obtain ⟨t, x, r, ht, hf, g, hw⟩ := (Q.words w).2 h
        exact ⟨t, x, r, mR t ht, hf, tail_mono mR (fun x h => .inr h) g, hw⟩
  · obtain ⟨u, hu⟩ := P.some
    exact ⟨u, .inl hu⟩
  · rintro x (hx | hx)
    · obtain ⟨r, hr⟩ := P.ends x hx
      exact ⟨r, tail_mono mL (fun x h => .inl h) hr⟩
    · obtain ⟨r, hr⟩ := Q.ends x hx
      exact ⟨r, tail_mono mR (fun x h => .inr h) hr⟩
  · intro t ht
    rcases List.mem_append.1 ht with ht | ht
    · rcases P.live t ht with h | ⟨x, h1, h2, t0, x0, r, h3, h4, h5⟩
      · exact .inl h
      · exact .inr ⟨x, .inl h1, h2, t0, x0, r, mL t0 h3, h4, tail_mono mL (fun x h => .inl h) h5⟩
    · rcases Q.live t ht with h | ⟨x, h1, h2, t0, x0, r, h3, h4, h5⟩
      · exact .inl h
      · exact .inr ⟨x, .inr h1, h2, t0, x0, r, mR t0 h3, h4, tail_mono mR (fun x h => .inr h) h5⟩

theorem piece_star {tb : List Flow.Tr} {a m b : Nat} {Ib Inb : Nat → Prop} {Lb : List Nat → Prop} (B : Piece tb m m Ib Inb Lb) (ha : a < 16) (hb : b < 16) (hma : m ≠ a) (hmb : m ≠ b) (hba : ¬ Ib a) (hbb : ¬ Ib b) :
    Piece (⟨45, 2 ^ a, 2 ^ m⟩ :: ⟨45, 2 ^ m, 2 ^ b⟩ :: tb) a b (fun i => i = m ∨ Ib i) (fun x => x = 2 ^ m ∨ Inb x) (Flow.Star Lb) := by
  have hm := B.ha
  have fE : Fires ⟨45, 2 ^ a, 2 ^ m⟩ (2 ^ a) (2 ^ m) := fires_one ha hm (by omega)
  have fX : Fires ⟨45, 2 ^ m, 2 ^ b⟩ (2 ^ m) (2 ^ b) := fires_one hm hb (by omega)
  have cases3 : ∀ t, t ∈ ((⟨45, 2 ^ a, 2 ^ m⟩ : Flow.Tr) :: ⟨45, 2 ^ m, 2 ^ b⟩ :: tb) → t = ⟨45, 2 ^ a, 2 ^ m⟩ ∨ t = ⟨45, 2 ^ m, 2 ^ b⟩ ∨ t ∈ tb := by
    intro t ht
    rcases List.mem_cons.1 ht with h | h
    · exact .inl h
    · exact .inr (List.mem_cons.1 h)
  have mE : (⟨45, 2 ^ a, 2 ^ m⟩ : Flow.Tr) ∈ ((⟨45, 2 ^ a, 2 ^ m⟩ : Flow.Tr) :: ⟨45, 2 ^ m, 2 ^ b⟩ :: tb) := by simp
  have mX : (⟨45, 2 ^ m, 2 ^ b⟩ : Flow.Tr) ∈ ((⟨45, 2 ^ a, 2 ^ m⟩ : Flow.Tr) :: ⟨45, 2 ^ m, 2 ^ b⟩ :: tb) := by simp
  have mB : ∀ t ∈ tb, t ∈ ((⟨45, 2 ^ a, 2 ^ m⟩ : Flow.Tr) :: ⟨45, 2 ^ m, 2 ^ b⟩ :: tb) := fun t h => by simp [h]
  have offBa : ∀ t ∈ tb, ¬ Flow.enabled t (2 ^ a) = true := fun t ht => B.off ht (fun i hi => by rw [bit_only hi]; exact ⟨fun e => hma e.symm, hba⟩)
  have offE : ∀ x, (x = 2 ^ m ∨ Inb x) → ¬ Flow.enabled ⟨45, 2 ^ a, 2 ^ m⟩ x = true := by
    intro x hx he
    have := en_iff.1 he a (bit_self a)
    rcases hx with hx | hx
    · rw [hx] at this; exact hma (bit_only this).symm
    · exact hba ((B.inn x hx).2.1 a this)
  have offXa : ¬ Flow.enabled ⟨45, 2 ^ m, 2 ^ b⟩ (2 ^ a) = true := fun he => hma (bit_only (en_iff.1 he m (bit_self m)))
  have offXi : ∀ x, Inb x → ¬ Flow.enabled ⟨45, 2 ^ m, 2 ^ b⟩ x = true := fun x hx he => B.nA ((B.inn x hx).2.1 m (en_iff.1 he m (bit_self m)))
  have noB : ¬ (2 ^ b = 2 ^ m ∨ Inb (2 ^ b)) := by
    rintro (h | h)
    · exact hmb (pow_inj h).symm
    · exact B.notB hbb h
  have inB : ∀ x, Inb x → x = 2 ^ m ∨ Inb x := fun x h => .inr h
  have cut : ∀ r x, Inb x → Tail (⟨45, 2 ^ a, 2 ^ m⟩ :: ⟨45, 2 ^ m, 2 ^ b⟩ :: tb) (fun x => x = 2 ^ m ∨ Inb x) x r (2 ^ b) → ∃ r1 r2, r = r1 ++ r2 ∧ Tail tb Inb x r1 (2 ^ m) ∧ Tail (⟨45, 2 ^ a, 2 ^ m⟩ :: ⟨45, 2 ^ m, 2 ^ b⟩ :: tb) (fun x => x = 2 ^ m ∨ Inb x) (2 ^ m) r2 (2 ^ b) := by
    intro r
    induction r with
    | nil =>
      intro x hx h
      have h' : x = 2 ^ b := h
      rw [h'] at hx; exact absurd hx (B.notB hbb)
    | cons t r ih =>
      rintro x hx ⟨h1, h2, x', h3, h4⟩
      rcases cases3 t h1 with h1 | h1 | h1
      · subst h1; exact absurd h3.en (offE x (.inr hx))
      · subst h1; exact absurd h3.en (offXi x hx)
      · rcases B.step h1 hx h3 with g | g
        · subst g; exact ⟨[t], r, rfl, ⟨h1, hx, _, h3, rfl⟩, h4⟩
        · obtain ⟨r1, r2, e, g1, g2⟩ := ih x' g h4
          exact ⟨t :: r1, r2, by rw [e]; rfl, ⟨h1, hx, x', h3, g1⟩, g2⟩
  have loops : ∀ n r, r.length ≤ n → Tail (⟨45, 2 ^ a, 2 ^ m⟩ :: ⟨45, 2 ^ m, 2 ^ b⟩ :: tb) (fun x => x = 2 ^ m ∨ Inb x) (2 ^ m) r (2 ^ b) → Flow.Star Lb (wordT r) := by
    intro n
    induction n with
    | zero =>
      intro r hr h
      have : r = [] := List.eq_nil_of_length_eq_zero (by omega)
      subst this
      exact absurd (pow_inj h) hmb
    | succ n ih =>
      intro r hr h
      cases r with
      | nil => exact absurd (pow_inj h) hmb
      | cons t r =>
        obtain ⟨h1, h2, x', h3, h4⟩ := h
        rcases cases3 t h1 with h1 | h1 | h1
        · subst h1; exact absurd h3.en (offE _ (.inl rfl))
        · subst h1
          have hx := h3.eq fX
          subst hx
          cases r with
          | nil => rw [wordT_quiet rfl]; exact Flow.star_iff.2 (.inl rfl)
          | cons t' r => exact absurd h4.2.1 noB
        · rcases B.start h1 h3 with g | g
          · subst g
            obtain ⟨ws, e, hall⟩ := ih r (by simp at hr; omega) h4
            refine ⟨wordT [t] :: ws, by rw [List.flatten_cons, ← e, ← wordT_append]; rfl, ?_⟩
            intro u hu
            rcases List.mem_cons.1 hu with rfl | hu
            · exact (B.words _).1 ⟨t, _, [], h1, h3, rfl, rfl⟩
            · exact hall u hu
          · obtain ⟨r1, r2, e, g1, g2⟩ := cut r x' g h4
            obtain ⟨ws, e2, hall⟩ := ih r2 (by rw [e] at hr; simp at hr; omega) g2
            refine ⟨wordT (t :: r1) :: ws, by rw [List.flatten_cons, ← e2, ← wordT_append, e]; rfl, ?_⟩
            intro u hu
            rcases List.mem_cons.1 hu with rfl | hu
            · exact (B.words _).1 ⟨t, x', r1, h1, h3, g1, rfl⟩
            · exact hall u hu
  have back : ∀ ws : List (List Nat), (∀ u ∈ ws, Lb u) → ∃ r, Tail (⟨45, 2 ^ a, 2 ^ m⟩ :: ⟨45, 2 ^ m, 2 ^ b⟩ :: tb) (fun x => x = 2 ^ m ∨ Inb x) (2 ^ m) r (2 ^ b) ∧ wordT r = ws.flatten := by
    intro ws
    induction ws with
    | nil => intro _; exact ⟨[⟨45, 2 ^ m, 2 ^ b⟩], ⟨mX, .inl rfl, _, fX, rfl⟩, wordT_quiet rfl []⟩
    | cons u ws ih =>
      intro hall
      obtain ⟨r, h1, h2⟩ := ih (fun x hx => hall x (by simp [hx]))
      obtain ⟨t, x, r1, g1, g2, g3, g4⟩ := (B.words u).2 (hall u (by simp))
      refine ⟨(t :: r1) ++ r, tail_append ⟨mB t g1, .inl rfl, x, g2, tail_mono mB inB g3⟩ h1, ?_⟩
      rw [wordT_append, g4, h2, List.flatten_cons]
  refine ⟨ha, hb, ?_, ?_, ?_, ?_, ?_, ?_, ?_, ?_, ?_, ?_, ⟨[], Flow.star_iff.2 (.inl rfl)⟩, ?_, ?_⟩
  · rintro (h | h)
    · exact hma h.symm
    · exact hba h
  · rintro (h | h)
    · exact hmb h.symm
    · exact hbb h
  · intro t ht
    rcases cases3 t ht with h | h | h
    · rw [h]; exact small_one ha hm (by omega)
    · rw [h]; exact small_one hm hb (by omega)
    · exact B.small t h
  · intro t ht i hi
    rcases cases3 t ht with h | h | h
    · rw [h] at hi; exact .inl (bit_only hi)
    · rw [h] at hi; exact .inr (.inl (bit_only hi))
    · exact .inr (B.takes t h i hi)
  · intro t ht
    rcases cases3 t ht with h | h | h
    · rw [h]; exact ⟨a, bit_self a⟩
    · rw [h]; exact ⟨m, bit_self m⟩
    · exact B.any t h
  · intro t ht i hi
    rcases cases3 t ht with h | h | h
    · rw [h] at hi; exact .inr (.inl (bit_only hi))
    · rw [h] at hi; exact .inl (bit_only hi)
    · exact .inr (B.puts t h i hi)
  · rintro x (h | h)
    · rw [h]; exact ⟨pow_lt16 hm, fun i hi => .inl (bit_only hi), m, bit_self m⟩
    · obtain ⟨g1, g2, g3⟩ := B.inn x h
      exact ⟨g1, fun i hi => .inr (g2 i hi), g3⟩
  · intro t ht he
    rcases cases3 t ht with h | h | h
    · rw [h]; exact ⟨_, fE, .inr (.inl rfl)⟩
    · rw [h] at he; exact absurd he offXa
    · exact absurd he (offBa t h)
  · rintro t ht x (hx | hx) he
    · subst hx
      rcases cases3 t ht with h | h | h
      · rw [h] at he; exact absurd he (offE _ (.inl rfl))
      · rw [h]; exact ⟨_, fX, .inl rfl⟩
      · obtain ⟨x', h1, h2⟩ := B.first t h he
        exact ⟨x', h1, .inr h2⟩
    · rcases cases3 t ht with h | h | h
      · rw [h] at he; exact absurd he (offE _ (.inr hx))
      · rw [h] at he; exact absurd he (offXi x hx)
      · obtain ⟨x', h1, h2⟩ := B.next t h x hx he
        exact ⟨x', h1, .inr h2⟩
  · intro w
    constructor
    · rintro ⟨t, x, r, ht, hf, htl, hw⟩
      rcases cases3 t ht with h | h | h
      · subst h
        have hx := hf.eq fE
        subst hx
        rw [wordT_quiet rfl] at hw
        rw [← hw]
        exact loops r.length r (Nat.le_refl _) htl
      · subst h; exact absurd hf.en offXa
      · exact absurd hf.en (offBa t h)
    · rintro ⟨ws, rfl, hall⟩
      obtain ⟨r, h1, h2⟩ := back ws hall
      exact ⟨_, _, r, mE, fE, h1, by rw [wordT_quiet rfl]; exact h2⟩
  · rintro x (hx | hx)
    · rw [hx]; exact ⟨[⟨45, 2 ^ m, 2 ^ b⟩], mX, .inl rfl, _, fX, rfl⟩
    · obtain ⟨r, hr⟩ := B.ends x hx
      exact ⟨r ++ [⟨45, 2 ^ m, 2 ^ b⟩], tail_append (tail_mono mB inB hr) ⟨mX, .inl rfl, _, fX, rfl⟩⟩
  · intro t ht
    rcases cases3 t ht with h | h | h
    · rw [h]; exact .inl fE.en
    · rw [h]; exact .inr ⟨2 ^ m, .inl rfl, fX.en, _, _, [], mE, fE, rfl⟩
    · rcases B.live t h with g | ⟨x, h1, h2, t0, x0, r, h3, h4, h5⟩
      · exact .inr ⟨2 ^ m, .inl rfl, g, _, _, [], mE, fE, rfl⟩
      · exact .inr ⟨x, .inr h1, h2, _, _, t0 :: r, mE, fE, mB t0 h3, .inl rfl, x0, h4, tail_mono mB inB h5⟩
end Go.Proofs.YtdlldljgogbiaabGreat
namespace Go.Proofs.YtdlldljgogbiaabGreat
open Go.RowKit
set_option linter.unusedVariables false

theorem mix_append (u v : List Nat) : Flow.Mix (u ++ v) u v := by
  induction u with
  | nil =>
    show Flow.Mix v [] v
    induction v with
    | nil => exact ⟨rfl, rfl⟩
    | cons c v ih => exact .inr ⟨v, rfl, ih⟩
  | cons c u ih => exact .inl ⟨u, rfl, ih⟩
theorem mix_nil {u v : List Nat} (h : Flow.Mix [] u v) : u = [] ∧ v = [] := h

/-- a marking of a piece that is not at its end -/
def Going (In : Nat → Prop) (p : Nat) (x : Nat) : Prop := x = 2 ^ p ∨ In x
theorem going_tail {ts : List Flow.Tr} {p q : Nat} {I In : Nat → Prop} {Lg : List Nat → Prop} (P : Piece ts p q I In Lg) (hpq : p ≠ q) : ∀ {r : List Flow.Tr} {x : Nat}, (x = 2 ^ q ∨ In x) → Tail ts (Going In p) x r (2 ^ q) → Tail ts In x r (2 ^ q) := by
  intro r
  induction r with
  | nil => intro x _ h; exact h
  | cons t r ih =>
    rintro x hx ⟨h1, h2, x', h3, h4⟩
    have hin : In x := by
      rcases hx with hx | hx
      · rcases h2 with h2 | h2
        · rw [hx] at h2; exact absurd (pow_inj h2).symm hpq
        · exact h2
      · exact hx
    exact ⟨h1, hin, x', h3, ih (P.step h1 hin h3) h4⟩
theorem going_words {ts : List Flow.Tr} {p q : Nat} {I In : Nat → Prop} {Lg : List Nat → Prop} (P : Piece ts p q I In Lg) (hpq : p ≠ q) (u : List Nat) : (∃ r, Tail ts (Going In p) (2 ^ p) r (2 ^ q) ∧ wordT r = u) ↔ Lg u := by
  rw [← P.words u]
  constructor
  · rintro ⟨r, h, hw⟩
    cases r with
    | nil => exact absurd (pow_inj h) hpq
    | cons t r =>
      obtain ⟨h1, h2, x', h3, h4⟩ := h
      exact ⟨t, x', r, h1, h3, going_tail P hpq (P.start h1 h3) h4, hw⟩
  · rintro ⟨t, x, r, h1, h2, h3, h4⟩
    exact ⟨t :: r, ⟨h1, .inl rfl, x, h2, tail_mono (fun _ h => h) (fun _ h => .inr h) h3⟩, h4⟩
/-- a marking of a piece, its end too -/
def Stage (In : Nat → Prop) (p q : Nat) (x : Nat) : Prop := Going In p x ∨ x = 2 ^ q
theorem Stage.bits {ts : List Flow.Tr} {p q : Nat} {I In : Nat → Prop} {Lg : List Nat → Prop} (P : Piece ts p q I In Lg) {x : Nat} (h : Stage In p q x) : x < 65536 ∧ (∀ i, x.testBit i = true → i = p ∨ i = q ∨ I i) ∧ ∃ i, x.testBit i = true := by
  rcases h with (h | h) | h
  · rw [h]; exact ⟨pow_lt16 P.ha, fun i hi => .inl (bit_only hi), p, bit_self p⟩
  · obtain ⟨g1, g2, g3⟩ := P.inn x h
    exact ⟨g1, fun i hi => .inr (.inr (g2 i hi)), g3⟩
  · rw [h]; exact ⟨pow_lt16 P.hb, fun i hi => .inr (.inl (bit_only hi)), q, bit_self q⟩
theorem Stage.step {ts : List Flow.Tr} {p q : Nat} {I In : Nat → Prop} {Lg : List Nat → Prop} (P : Piece ts p q I In Lg) (hpq : p ≠ q) {t : Flow.Tr} (ht : t ∈ ts) {x x' : Nat} (h : Stage In p q x) (hf : Fires t x x') : Going In p x ∧ (x' = 2 ^ q ∨ In x') := by
  rcases h with (h | h) | h
  · subst h; exact ⟨.inl rfl, P.start ht hf⟩
  · exact ⟨.inr h, P.step ht h hf⟩
  · subst h
    exact absurd hf.en (P.off ht (fun i hi => by rw [bit_only hi]; exact ⟨fun e => hpq e.symm, P.nB⟩))
theorem stage_of {In : Nat → Prop} {p q x : Nat} (h : x = 2 ^ q ∨ In x) : Stage In p q x := by
  rcases h with h | h
  · exact .inr h
  · exact .inl (.inr h)
theorem Stage.ends {ts : List Flow.Tr} {p q : Nat} {I In : Nat → Prop} {Lg : List Nat → Prop} (P : Piece ts p q I In Lg) (hpq : p ≠ q) {x : Nat} (h : Stage In p q x) : ∃ r, Tail ts (Going In p) x r (2 ^ q) := by
  rcases h with (h | h) | h
  · subst h
    obtain ⟨u, hu⟩ := P.some
    obtain ⟨r, hr, _⟩ := (going_words P hpq u).2 hu
    exact ⟨r, hr⟩
  · obtain ⟨r, hr⟩ := P.ends x h
    exact ⟨r, tail_mono (fun _ h => h) (fun _ h => .inr h) hr⟩
  · exact ⟨[], h⟩

theorem piece_par {t1 t2 : List Flow.Tr} {a b p p' q q' : Nat} {I1 I2 In1 In2 : Nat → Prop} {L1 L2 : List Nat → Prop} (P : Piece t1 p p' I1 In1 L1) (Q : Piece t2 q q' I2 In2 L2) (ha : a < 16) (hb : b < 16)
    (hp : p ≠ p') (hq : q ≠ q') (h1 : p ≠ q) (h2 : p ≠ q') (h3 : p' ≠ q) (h4 : p' ≠ q') (a1 : p ≠ a) (a2 : p' ≠ a) (a3 : q ≠ a) (a4 : q' ≠ a) (b1 : p ≠ b) (b2 : p' ≠ b) (b3 : q ≠ b) (b4 : q' ≠ b)
    (d1 : ∀ i, I1 i → ¬ I2 i ∧ i ≠ a ∧ i ≠ b ∧ i ≠ q ∧ i ≠ q') (d2 : ∀ i, I2 i → i ≠ a ∧ i ≠ b ∧ i ≠ p ∧ i ≠ p') :
    Piece (⟨45, 2 ^ a, 2 ^ p ||| 2 ^ q⟩ :: ⟨45, 2 ^ p' ||| 2 ^ q', 2 ^ b⟩ :: (t1 ++ t2)) a b (fun i => i = p ∨ i = p' ∨ i = q ∨ i = q' ∨ I1 i ∨ I2 i)
      (fun x => ∃ x1 x2, Stage In1 p p' x1 ∧ Stage In2 q q' x2 ∧ x = x1 ||| x2) (fun w => ∃ u v, Flow.Mix w u v ∧ L1 u ∧ L2 v) := by
  have lp := pow_lt16 P.ha
  have lp' := pow_lt16 P.hb
  have lq := pow_lt16 Q.ha
  have lq' := pow_lt16 Q.hb
  have la := pow_lt16 ha
  have lb := pow_lt16 hb
  have lpq : 2 ^ p ||| 2 ^ q < 65536 := Nat.or_lt_two_pow (n := 16) lp lq
  have lpq' : 2 ^ p' ||| 2 ^ q' < 65536 := Nat.or_lt_two_pow (n := 16) lp' lq'
  have orb : ∀ x y i, (2 ^ x ||| 2 ^ y).testBit i = true → i = x ∨ i = y := by
    intro x y i h
    rw [Nat.testBit_or, Bool.or_eq_true] at h
    exact h.imp bit_only bit_only
  have orl : ∀ x y, (2 ^ x ||| 2 ^ y).testBit x = true := fun x y => by rw [Nat.testBit_or, bit_self]; rfl
  have orr : ∀ x y, (2 ^ x ||| 2 ^ y).testBit y = true := fun x y => by rw [Nat.testBit_or, bit_self, Bool.or_true]
  obtain ⟨S, hS⟩ : ∃ S : Flow.Tr, S = ⟨45, 2 ^ a, 2 ^ p ||| 2 ^ q⟩ := ⟨_, rfl⟩
  obtain ⟨J, hJ⟩ : ∃ J : Flow.Tr, J = ⟨45, 2 ^ p' ||| 2 ^ q', 2 ^ b⟩ := ⟨_, rfl⟩
  have sS : Flow.Small S := by rw [hS]; exact ⟨by show (45 : Nat) < 256; omega, la, lpq⟩
  have sJ : Flow.Small J := by rw [hJ]; exact ⟨by show (45 : Nat) < 256; omega, lpq', lb⟩
  have Si : S.inn = 2 ^ a := by rw [hS]
  have So : S.out = 2 ^ p ||| 2 ^ q := by rw [hS]
  have Sl : S.label = 45 := by rw [hS]
  have Ji : J.inn = 2 ^ p' ||| 2 ^ q' := by rw [hJ]
  have Jo : J.out = 2 ^ b := by rw [hJ]
  have Jl : J.label = 45 := by rw [hJ]
  rw [← hS, ← hJ]
  clear hS hJ
  have fS : Fires S (2 ^ a) (2 ^ p ||| 2 ^ q) := by
    refine fire_mk la sS ?_ ?_ ?_
    · intro i h; rw [Si] at h; exact h
    · intro i h g; rw [Si, h] at g; cases g
    · intro i; rw [Si, So]; cases (2 ^ a).testBit i <;> simp
  have fJ : Fires J (2 ^ p' ||| 2 ^ q') (2 ^ b) := by
    refine fire_mk lpq' sJ ?_ ?_ ?_
    · intro i h; rw [Ji] at h; exact h
    · intro i h g; rw [Ji, h] at g; cases g
    · intro i; rw [Ji, Jo]; cases (2 ^ p' ||| 2 ^ q').testBit i <;> simp
  have cases4 : ∀ t, t ∈ S :: J :: (t1 ++ t2) → t = S ∨ t = J ∨ t ∈ t1 ∨ t ∈ t2 := by
    intro t ht
    rcases List.mem_cons.1 ht with h | h
    · exact .inl h
    · rcases List.mem_cons.1 h with h | h
      · exact .inr (.inl h)
      · exact .inr (.inr (List.mem_append.1 h))
  have mS : S ∈ S :: J :: (t1 ++ t2) := by simp
  have mJ : J ∈ S :: J :: (t1 ++ t2) := by simp
  have m1 : ∀ t ∈ t1, t ∈ S :: J :: (t1 ++ t2) := fun t h => by simp [h]
  have m2 : ∀ t ∈ t2, t ∈ S :: J :: (t1 ++ t2) := fun t h => by simp [h]
  -- the places of one piece are not those of the other
  have bit1 : ∀ x, Stage In1 p p' x → ∀ i, x.testBit i = true → (i = p ∨ i = p' ∨ I1 i) ∧ i ≠ q ∧ i ≠ q' ∧ ¬ I2 i ∧ i ≠ a ∧ i ≠ b := by
    intro x hx i hi
    have := (hx.bits P).2.1 i hi
    refine ⟨this, ?_⟩
    rcases this with rfl | rfl | h
    · exact ⟨h1, h2, fun g => (d2 _ g).2.2.1 rfl, a1, b1⟩
    · exact ⟨h3, h4, fun g => (d2 _ g).2.2.2 rfl, a2, b2⟩
    · obtain ⟨g1, g2, g3, g4, g5⟩ := d1 i h
      exact ⟨g4, g5, g1, g2, g3⟩
  have bit2 : ∀ x, Stage In2 q q' x → ∀ i, x.testBit i = true → (i = q ∨ i = q' ∨ I2 i) ∧ i ≠ p ∧ i ≠ p' ∧ ¬ I1 i ∧ i ≠ a ∧ i ≠ b := by
    intro x hx i hi
    have := (hx.bits Q).2.1 i hi
    refine ⟨this, ?_⟩
    rcases this with rfl | rfl | h
    · exact ⟨fun e => h1 e.symm, fun e => h3 e.symm, fun g => (d1 _ g).2.2.2.1 rfl, a3, b3⟩
    · exact ⟨fun e => h2 e.symm, fun e => h4 e.symm, fun g => (d1 _ g).2.2.2.2 rfl, a4, b4⟩
    · obtain ⟨g1, g2, g3, g4⟩ := d2 i h
      exact ⟨g3, g4, fun g => (d1 i g).1 h, g1, g2⟩
  have off1 : ∀ t ∈ t1, ∀ y, Stage In2 q q' y → ∀ i, y.testBit i = true → t.inn.testBit i = false ∧ t.out.testBit i = false := by
    intro t ht y hy i hi
    obtain ⟨_, g1, g2, g3, _⟩ := bit2 y hy i hi
    constructor
    · cases e : t.inn.testBit i with
      | false => rfl
      | true => rcases P.takes t ht i e with x | x; exact absurd x g1; exact absurd x g3
    · cases e : t.out.testBit i with
      | false => rfl
      | true => rcases P.puts t ht i e with x | x; exact absurd x g2; exact absurd x g3
  have off2 : ∀ t ∈ t2, ∀ y, Stage In1 p p' y → ∀ i, y.testBit i = true → t.inn.testBit i = false ∧ t.out.testBit i = false := by
    intro t ht y hy i hi
    obtain ⟨_, g1, g2, g3, _⟩ := bit1 y hy i hi
    constructor
    · cases e : t.inn.testBit i with
      | false => rfl
      | true => rcases Q.takes t ht i e with x | x; exact absurd x g1; exact absurd x g3
    · cases e : t.out.testBit i with
      | false => rfl
      | true => rcases Q.puts t ht i e with x | x; exact absurd x g2; exact absurd x g3
  have fr1 : ∀ t ∈ t1, ∀ x y, Stage In1 p p' x → Stage In2 q q' y → ∀ m', Fires t (x ||| y) m' ↔ ∃ x', Fires t x x' ∧ m' = x' ||| y := fun t ht x y hx hy m' => fire_frame (hx.bits P).1 (hy.bits Q).1 (P.small t ht) (off1 t ht y hy)
  have fr2 : ∀ t ∈ t2, ∀ x y, Stage In1 p p' x → Stage In2 q q' y → ∀ m', Fires t (x ||| y) m' ↔ ∃ y', Fires t y y' ∧ m' = x ||| y' := by
    intro t ht x y hx hy m'
    rw [Nat.or_comm x y, fire_frame (hy.bits Q).1 (hx.bits P).1 (Q.small t ht) (off2 t ht x hx)]
    constructor
    · rintro ⟨z, h1, h2⟩; exact ⟨z, h1, by rw [h2, Nat.or_comm]⟩
    · rintro ⟨z, h1, h2⟩; exact ⟨z, h1, by rw [h2, Nat.or_comm]⟩
  have ef1 : ∀ t ∈ t1, ∀ x y, Stage In2 q q' y → (Flow.enabled t (x ||| y) = true ↔ Flow.enabled t x = true) := fun t ht x y hy => en_frame (fun i hi => (off1 t ht y hy i hi).1)
  have ef2 : ∀ t ∈ t2, ∀ x y, Stage In1 p p' x → (Flow.enabled t (x ||| y) = true ↔ Flow.enabled t y = true) := by
    intro t ht x y hx
    rw [Nat.or_comm]; exact en_frame (fun i hi => (off2 t ht x hx i hi).1)
  have noS : ∀ x y, Stage In1 p p' x → Stage In2 q q' y → ¬ Flow.enabled S (x ||| y) = true := by
    intro x y hx hy he
    have := en_iff.1 he a (by rw [Si]; exact bit_self a)
    rw [Nat.testBit_or, Bool.or_eq_true] at this
    rcases this with g | g
    · exact (bit1 x hx a g).2.2.2.2.1 rfl
    · exact (bit2 y hy a g).2.2.2.2.1 rfl
  have onJ : ∀ x y, Stage In1 p p' x → Stage In2 q q' y → Flow.enabled J (x ||| y) = true → x = 2 ^ p' ∧ y = 2 ^ q' := by
    intro x y hx hy he
    have e1 := en_iff.1 he p' (by rw [Ji]; exact orl p' q')
    have e2 := en_iff.1 he q' (by rw [Ji]; exact orr p' q')
    rw [Nat.testBit_or, Bool.or_eq_true] at e1 e2
    constructor
    · rcases e1 with g | g
      · rcases hx with (hx | hx) | hx
        · rw [hx] at g; exact absurd (bit_only g).symm hp
        · exact absurd ((P.inn x hx).2.1 p' g) P.nB
        · exact hx
      · exact absurd rfl (bit2 y hy p' g).2.2.1
    · rcases e2 with g | g
      · exact absurd rfl (bit1 x hx q' g).2.2.1
      · rcases hy with (hy | hy) | hy
        · rw [hy] at g; exact absurd (bit_only g).symm hq
        · exact absurd ((Q.inn y hy).2.1 q' g) Q.nB
        · exact hy
  have notIn : ∀ c, (c = a ∨ c = b) → ¬ ∃ x1 x2, Stage In1 p p' x1 ∧ Stage In2 q q' x2 ∧ 2 ^ c = x1 ||| x2 := by
    rintro c hc ⟨x1, x2, g1, g2, e⟩
    obtain ⟨_, _, i, hi⟩ := g1.bits P
    have : (2 ^ c).testBit i = true := by rw [e, Nat.testBit_or, hi]; rfl
    have hic := bit_only this
    obtain ⟨_, _, _, _, k1, k2⟩ := bit1 x1 g1 i hi
    rcases hc with hc | hc
    · exact k1 (by rw [hic, hc])
    · exact k2 (by rw [hic, hc])
  have start1 : Stage In1 p p' (2 ^ p) := .inl (.inl rfl)
  have start2 : Stage In2 q q' (2 ^ q) := .inl (.inl rfl)
  -- two ways are mixed
  have weave : ∀ n r1 r2 x1 x2 w, r1.length + r2.length ≤ n → Stage In1 p p' x1 → Stage In2 q q' x2 → Tail t1 (Going In1 p) x1 r1 (2 ^ p') → Tail t2 (Going In2 q) x2 r2 (2 ^ q') → Flow.Mix w (wordT r1) (wordT r2) →
      ∃ r, Tail (S :: J :: (t1 ++ t2)) (fun x => ∃ x1 x2, Stage In1 p p' x1 ∧ Stage In2 q q' x2 ∧ x = x1 ||| x2) (x1 ||| x2) r (2 ^ p' ||| 2 ^ q') ∧ wordT r = w := by
    intro n
    induction n with
    | zero =>
      intro r1 r2 x1 x2 w hn s1 s2 g1 g2 hm
      have e1 : r1 = [] := List.eq_nil_of_length_eq_zero (by omega)
      have e2 : r2 = [] := List.eq_nil_of_length_eq_zero (by omega)
      subst e1 e2
      have k1 : x1 = 2 ^ p' := g1
      have k2 : x2 = 2 ^ q' := g2
      subst k1 k2
      cases w with
      | nil => exact ⟨[], rfl, rfl⟩
      | cons c w => rcases hm with ⟨u, hu, _⟩ | ⟨u, hu, _⟩ <;> cases hu
    | succ n ih =>
      intro r1 r2 x1 x2 w hn s1 s2 g1 g2 hm
      have left : ∀ t r1' w', r1 = t :: r1' → Flow.Mix w' (wordT r1') (wordT r2) → wordT [t] ++ w' = w → ∃ r, Tail (S :: J :: (t1 ++ t2)) (fun x => ∃ x1 x2, Stage In1 p p' x1 ∧ Stage In2 q q' x2 ∧ x = x1 ||| x2) (x1 ||| x2) r (2 ^ p' ||| 2 ^ q') ∧ wordT r = w := by
        intro t r1' w' e hm' hw
        subst e
        obtain ⟨k1, k2, x', k3, k4⟩ := g1
        obtain ⟨r, z1, z2⟩ := ih r1' r2 x' x2 w' (by simp at hn; omega) (stage_of (Stage.step P hp k1 s1 k3).2) s2 k4 g2 hm'
        exact ⟨t :: r, ⟨m1 t k1, ⟨x1, x2, s1, s2, rfl⟩, x' ||| x2, (fr1 t k1 x1 x2 s1 s2 _).2 ⟨x', k3, rfl⟩, z1⟩, by rw [wordT_cons, z2, hw]⟩
      have right : ∀ t r2' w', r2 = t :: r2' → Flow.Mix w' (wordT r1) (wordT r2') → wordT [t] ++ w' = w → ∃ r, Tail (S :: J :: (t1 ++ t2)) (fun x => ∃ x1 x2, Stage In1 p p' x1 ∧ Stage In2 q q' x2 ∧ x = x1 ||| x2) (x1 ||| x2) r (2 ^ p' ||| 2 ^ q') ∧ wordT r = w := by
        intro t r2' w' e hm' hw
        subst e
        obtain ⟨k1, k2, x', k3, k4⟩ := g2
        obtain ⟨r, z1, z2⟩ := ih r1 r2' x1 x' w' (by simp at hn; omega) s1 (stage_of (Stage.step Q hq k1 s2 k3).2) g1 k4 hm'
        exact ⟨t :: r, ⟨m2 t k1, ⟨x1, x2, s1, s2, rfl⟩, x1 ||| x', (fr2 t k1 x1 x2 s1 s2 _).2 ⟨x', k3, rfl⟩, z1⟩, by rw [wordT_cons, z2, hw]⟩
      by_cases q1 : ∃ t r1', r1 = t :: r1' ∧ t.label = 45
      · obtain ⟨t, r1', e, hl⟩ := q1
        refine left t r1' w e ?_ ?_
        · rw [e, wordT_quiet hl] at hm; exact hm
        · rw [wordT_quiet hl]; rfl
      · by_cases q2 : ∃ t r2', r2 = t :: r2' ∧ t.label = 45
        · obtain ⟨t, r2', e, hl⟩ := q2
          refine right t r2' w e ?_ ?_
          · rw [e, wordT_quiet hl] at hm; exact hm
          · rw [wordT_quiet hl]; rfl
        · cases w with
          | nil =>
            obtain ⟨e1, e2⟩ := mix_nil hm
            have n1 : r1 = [] := by
              cases r1 with
              | nil => rfl
              | cons t r1' =>
                by_cases hl : t.label = 45
                · exact absurd ⟨t, r1', rfl, hl⟩ q1
                · rw [wordT_loud hl] at e1; cases e1
            have n2 : r2 = [] := by
              cases r2 with
              | nil => rfl
              | cons t r2' =>
                by_cases hl : t.label = 45
                · exact absurd ⟨t, r2', rfl, hl⟩ q2
                · rw [wordT_loud hl] at e2; cases e2
            subst n1 n2
            have k1 : x1 = 2 ^ p' := g1
            have k2 : x2 = 2 ^ q' := g2
            subst k1 k2
            exact ⟨[], rfl, rfl⟩
          | cons c w' =>
            rcases hm with ⟨u', hu, hm'⟩ | ⟨u', hu, hm'⟩
            · cases r1 with
              | nil => cases hu
              | cons t r1' =>
                by_cases hl : t.label = 45
                · exact absurd ⟨t, r1', rfl, hl⟩ q1
                · rw [wordT_loud hl] at hu
                  injection hu with hc hu
                  refine left t r1' w' rfl (by rw [hu]; exact hm') ?_
                  rw [wordT_loud hl, hc]; rfl
            · cases r2 with
              | nil => cases hu
              | cons t r2' =>
                by_cases hl : t.label = 45
                · exact absurd ⟨t, r2', rfl, hl⟩ q2
                · rw [wordT_loud hl] at hu
                  injection hu with hc hu
                  refine right t r2' w' rfl (by rw [hu]; exact hm') ?_
                  rw [wordT_loud hl, hc]; rfl
  -- a way is parted
  have unweave : ∀ r x1 x2, Stage In1 p p' x1 → Stage In2 q q' x2 → Tail (S :: J :: (t1 ++ t2)) (fun x => ∃ x1 x2, Stage In1 p p' x1 ∧ Stage In2 q q' x2 ∧ x = x1 ||| x2) (x1 ||| x2) r (2 ^ b) →
      ∃ r1 r2, Tail t1 (Going In1 p) x1 r1 (2 ^ p') ∧ Tail t2 (Going In2 q) x2 r2 (2 ^ q') ∧ Flow.Mix (wordT r) (wordT r1) (wordT r2) := by
    intro r
    induction r with
    | nil =>
      intro x1 x2 s1 s2 h
      have h' : x1 ||| x2 = 2 ^ b := h
      exact absurd ⟨x1, x2, s1, s2, h'.symm⟩ (notIn b (.inr rfl))
    | cons t r ih =>
      rintro x1 x2 s1 s2 ⟨k1, k2, x', k3, k4⟩
      rcases cases4 t k1 with h | h | h | h
      · subst h; exact absurd k3.en (noS x1 x2 s1 s2)
      · subst h
        obtain ⟨e1, e2⟩ := onJ x1 x2 s1 s2 k3.en
        subst e1 e2
        have hx := k3.eq fJ
        subst hx
        cases r with
        | nil => exact ⟨[], [], rfl, rfl, by rw [wordT_quiet Jl]; exact ⟨rfl, rfl⟩⟩
        | cons t' r => exact absurd k4.2.1 (notIn b (.inr rfl))
      · obtain ⟨y, g1, g2⟩ := (fr1 t h x1 x2 s1 s2 x').1 k3
        subst g2
        obtain ⟨o1, o2⟩ := Stage.step P hp h s1 g1
        obtain ⟨r1, r2, z1, z2, z3⟩ := ih y x2 (stage_of o2) s2 k4
        refine ⟨t :: r1, r2, ⟨h, o1, y, g1, z1⟩, z2, ?_⟩
        by_cases hl : t.label = 45
        · rw [wordT_quiet hl, wordT_quiet hl]; exact z3
        · rw [wordT_loud hl, wordT_loud hl]; exact .inl ⟨_, rfl, z3⟩
      · obtain ⟨y, g1, g2⟩ := (fr2 t h x1 x2 s1 s2 x').1 k3
        subst g2
        obtain ⟨o1, o2⟩ := Stage.step Q hq h s2 g1
        obtain ⟨r1, r2, z1, z2, z3⟩ := ih x1 y s1 (stage_of o2) k4
        refine ⟨r1, t :: r2, z1, ⟨h, o1, y, g1, z2⟩, ?_⟩
        by_cases hl : t.label = 45
        · rw [wordT_quiet hl, wordT_quiet hl]; exact z3
        · rw [wordT_loud hl, wordT_loud hl]; exact .inr ⟨_, rfl, z3⟩
  have lift1 : ∀ r x y z, Stage In2 q q' y → (x = 2 ^ p' ∨ In1 x) → Tail t1 In1 x r z → Tail (S :: J :: (t1 ++ t2)) (fun x => ∃ x1 x2, Stage In1 p p' x1 ∧ Stage In2 q q' x2 ∧ x = x1 ||| x2) (x ||| y) r (z ||| y) := by
    intro r
    induction r with
    | nil =>
      intro x y z _ _ h
      have h' : x = z := h
      subst h'; rfl
    | cons t r ih =>
      rintro x y z hy hx ⟨k1, k2, x', k3, k4⟩
      have sx : Stage In1 p p' x := .inl (.inr k2)
      exact ⟨m1 t k1, ⟨x, y, sx, hy, rfl⟩, x' ||| y, (fr1 t k1 x y sx hy _).2 ⟨x', k3, rfl⟩, ih x' y z hy (P.step k1 k2 k3) k4⟩
  have lift2 : ∀ r x y z, Stage In1 p p' x → (y = 2 ^ q' ∨ In2 y) → Tail t2 In2 y r z → Tail (S :: J :: (t1 ++ t2)) (fun x => ∃ x1 x2, Stage In1 p p' x1 ∧ Stage In2 q q' x2 ∧ x = x1 ||| x2) (x ||| y) r (x ||| z) := by
    intro r
    induction r with
    | nil =>
      intro x y z _ _ h
      have h' : y = z := h
      subst h'; rfl
    | cons t r ih =>
      rintro x y z hx hy ⟨k1, k2, y', k3, k4⟩
      have sy : Stage In2 q q' y := .inl (.inr k2)
      exact ⟨m2 t k1, ⟨x, y, hx, sy, rfl⟩, x ||| y', (fr2 t k1 x y hx sy _).2 ⟨y', k3, rfl⟩, ih x y' z hx (Q.step k1 k2 k3) k4⟩
  have endJ : Tail (S :: J :: (t1 ++ t2)) (fun x => ∃ x1 x2, Stage In1 p p' x1 ∧ Stage In2 q q' x2 ∧ x = x1 ||| x2) (2 ^ p' ||| 2 ^ q') [J] (2 ^ b) := ⟨mJ, ⟨_, _, .inr rfl, .inr rfl, rfl⟩, _, fJ, rfl⟩
  have toEnd : ∀ x1 x2, Stage In1 p p' x1 → Stage In2 q q' x2 → ∃ r, Tail (S :: J :: (t1 ++ t2)) (fun x => ∃ x1 x2, Stage In1 p p' x1 ∧ Stage In2 q q' x2 ∧ x = x1 ||| x2) (x1 ||| x2) r (2 ^ p' ||| 2 ^ q') := by
    intro x1 x2 s1 s2
    obtain ⟨r1, g1⟩ := s1.ends P hp
    obtain ⟨r2, g2⟩ := s2.ends Q hq
    obtain ⟨r, hr, _⟩ := weave _ r1 r2 x1 x2 _ (Nat.le_refl _) s1 s2 g1 g2 (mix_append _ _)
    exact ⟨r, hr⟩
  refine ⟨ha, hb, ?_, ?_, ?_, ?_, ?_, ?_, ?_, ?_, ?_, ?_, ?_, ?_, ?_⟩
  · rintro (h | h | h | h | h | h)
    · exact a1 h.symm
    · exact a2 h.symm
    · exact a3 h.symm
    · exact a4 h.symm
    · exact (d1 a h).2.1 rfl
    · exact (d2 a h).1 rfl
  · rintro (h | h | h | h | h | h)
    · exact b1 h.symm
    · exact b2 h.symm
    · exact b3 h.symm
    · exact b4 h.symm
    · exact (d1 b h).2.2.1 rfl
    · exact (d2 b h).2.1 rfl
  · intro t ht
    rcases cases4 t ht with h | h | h | h
    · rw [h]; exact sS
    · rw [h]; exact sJ
    · exact P.small t h
    · exact Q.small t h
  · intro t ht i hi
    rcases cases4 t ht with h | h | h | h
    · rw [h, Si] at hi; exact .inl (bit_only hi)
    · rw [h, Ji] at hi
      rcases orb p' q' i hi with g | g
      · exact .inr (.inr (.inl g))
      · exact .inr (.inr (.inr (.inr (.inl g))))
    · rcases P.takes t h i hi with g | g
      · exact .inr (.inl g)
      · exact .inr (.inr (.inr (.inr (.inr (.inl g)))))
    · rcases Q.takes t h i hi with g | g
      · exact .inr (.inr (.inr (.inl g)))
      · exact .inr (.inr (.inr (.inr (.inr (.inr g)))))
  · intro t ht
    rcases cases4 t ht with h | h | h | h
    · rw [h, Si]; exact ⟨a, bit_self a⟩
    · rw [h, Ji]; exact ⟨p', orl p' q'⟩
    · exact P.any t h
    · exact Q.any t h
  · intro t ht i hi
    rcases cases4 t ht with h | h | h | h
    · rw [h, So] at hi
      rcases orb p q i hi with g | g
      · exact .inr (.inl g)
      · exact .inr (.inr (.inr (.inl g)))
    · rw [h, Jo] at hi; exact .inl (bit_only hi)
    · rcases P.puts t h i hi with g | g
      · exact .inr (.inr (.inl g))
      · exact .inr (.inr (.inr (.inr (.inr (.inl g)))))
    · rcases Q.puts t h i hi with g | g
      · exact .inr (.inr (.inr (.inr (.inl g))))
      · exact .inr (.inr (.inr (.inr (.inr (.inr g)))))
  · rintro x ⟨x1, x2, s1, s2, rfl⟩
    refine ⟨Nat.or_lt_two_pow (n := 16) (s1.bits P).1 (s2.bits Q).1, ?_, ?_⟩
    · intro i hi
      rw [Nat.testBit_or, Bool.or_eq_true] at hi
      rcases hi with hi | hi
      · rcases (s1.bits P).2.1 i hi with g | g | g
        · exact .inl g
        · exact .inr (.inl g)
        · exact .inr (.inr (.inr (.inr (.inl g))))
      · rcases (s2.bits Q).2.1 i hi with g | g | g
        · exact .inr (.inr (.inl g))
        · exact .inr (.inr (.inr (.inl g)))
        · exact .inr (.inr (.inr (.inr (.inr g))))
    · obtain ⟨i, hi⟩ := (s1.bits P).2.2
      exact ⟨i, by rw [Nat.testBit_or, hi]; rfl⟩
  · intro t ht he
    rcases cases4 t ht with h | h | h | h
    · rw [h]; exact ⟨_, fS, .inr ⟨_, _, start1, start2, rfl⟩⟩
    · rw [h] at he
      have := en_iff.1 he p' (by rw [Ji]; exact orl p' q')
      exact absurd (bit_only this) a2
    · exact absurd he (P.off h (fun i hi => by rw [bit_only hi]; exact ⟨fun e => a1 e.symm, fun g => (d1 a g).2.1 rfl⟩))
    · exact absurd he (Q.off h (fun i hi => by rw [bit_only hi]; exact ⟨fun e => a3 e.symm, fun g => (d2 a g).1 rfl⟩))
  · rintro t ht x ⟨x1, x2, s1, s2, rfl⟩ he
    rcases cases4 t ht with h | h | h | h
    · rw [h] at he; exact absurd he (noS x1 x2 s1 s2)
    · rw [h] at he ⊢
      obtain ⟨e1, e2⟩ := onJ x1 x2 s1 s2 he
      subst e1 e2
      exact ⟨_, fJ, .inl rfl⟩
    · have he1 := (ef1 t h x1 x2 s2).1 he
      have : ∃ y, Fires t x1 y ∧ (y = 2 ^ p' ∨ In1 y) := by
        rcases s1 with (s | s) | s
        · subst s; exact P.first t h he1
        · exact P.next t h x1 s he1
        · subst s; exact absurd he1 (P.off h (fun i hi => by rw [bit_only hi]; exact ⟨fun e => hp e.symm, P.nB⟩))
      obtain ⟨y, g1, g2⟩ := this
      exact ⟨y ||| x2, (fr1 t h x1 x2 s1 s2 _).2 ⟨y, g1, rfl⟩, .inr ⟨y, x2, stage_of g2, s2, rfl⟩⟩
    · have he1 := (ef2 t h x1 x2 s1).1 he
      have : ∃ y, Fires t x2 y ∧ (y = 2 ^ q' ∨ In2 y) := by
        rcases s2 with (s | s) | s
        · subst s; exact Q.first t h he1
        · exact Q.next t h x2 s he1
        · subst s; exact absurd he1 (Q.off h (fun i hi => by rw [bit_only hi]; exact ⟨fun e => hq e.symm, Q.nB⟩))
      obtain ⟨y, g1, g2⟩ := this
      exact ⟨x1 ||| y, (fr2 t h x1 x2 s1 s2 _).2 ⟨y, g1, rfl⟩, .inr ⟨x1, y, s1, stage_of g2, rfl⟩⟩
  · intro w
    constructor
    · rintro ⟨t, x, r, ht, hf, htl, hw⟩
      rcases cases4 t ht with h | h | h | h
      · subst h
        have hx := hf.eq fS
        subst hx
        obtain ⟨r1, r2, z1, z2, z3⟩ := unweave r _ _ start1 start2 htl
        rw [wordT_quiet Sl] at hw
        rw [hw] at z3
        exact ⟨_, _, z3, (going_words P hp _).1 ⟨r1, z1, rfl⟩, (going_words Q hq _).1 ⟨r2, z2, rfl⟩⟩
      · subst h
        have := en_iff.1 hf.en p' (by rw [Ji]; exact orl p' q')
        exact absurd (bit_only this) a2
      · exact absurd hf.en (P.off h (fun i hi => by rw [bit_only hi]; exact ⟨fun e => a1 e.symm, fun g => (d1 a g).2.1 rfl⟩))
      · exact absurd hf.en (Q.off h (fun i hi => by rw [bit_only hi]; exact ⟨fun e => a3 e.symm, fun g => (d2 a g).1 rfl⟩))
    · rintro ⟨u, v, hm, hu, hv⟩
      obtain ⟨r1, g1, rfl⟩ := (going_words P hp u).2 hu
      obtain ⟨r2, g2, rfl⟩ := (going_words Q hq v).2 hv
      obtain ⟨r, hr, hw⟩ := weave _ r1 r2 _ _ w (Nat.le_refl _) start1 start2 g1 g2 hm
      refine ⟨S, _, r ++ [J], mS, fS, tail_append hr endJ, ?_⟩
      rw [wordT_quiet Sl, wordT_append, hw, wordT_quiet Jl]
      exact List.append_nil w
  · obtain ⟨u, hu⟩ := P.some
    obtain ⟨v, hv⟩ := Q.some
    exact ⟨u ++ v, u, v, mix_append u v, hu, hv⟩
  · rintro x ⟨x1, x2, s1, s2, rfl⟩
    obtain ⟨r, hr⟩ := toEnd x1 x2 s1 s2
    exact ⟨r ++ [J], tail_append hr endJ⟩
  · intro t ht
    rcases cases4 t ht with h | h | h | h
    · rw [h]; exact .inl fS.en
    · rw [h]
      obtain ⟨r, hr⟩ := toEnd _ _ start1 start2
      exact .inr ⟨_, ⟨_, _, .inr rfl, .inr rfl, rfl⟩, fJ.en, S, _, r, mS, fS, hr⟩
    · rcases P.live t h with g | ⟨x, g1, g2, t0, x0, r, g3, g4, g5⟩
      · exact .inr ⟨_, ⟨_, _, start1, start2, rfl⟩, (ef1 t h _ _ start2).2 g, S, _, [], mS, fS, rfl⟩
      · refine .inr ⟨x ||| 2 ^ q, ⟨x, _, .inl (.inr g1), start2, rfl⟩, (ef1 t h _ _ start2).2 g2, S, _, t0 :: r, mS, fS, ?_⟩
        exact ⟨m1 t0 g3, ⟨_, _, start1, start2, rfl⟩, x0 ||| 2 ^ q, (fr1 t0 g3 _ _ start1 start2 _).2 ⟨x0, g4, rfl⟩, lift1 r x0 _ x start2 (P.start g3 g4) g5⟩
    · rcases Q.live t h with g | ⟨x, g1, g2, t0, x0, r, g3, g4, g5⟩
      · exact .inr ⟨_, ⟨_, _, start1, start2, rfl⟩, (ef2 t h _ _ start1).2 g, S, _, [], mS, fS, rfl⟩
      · refine .inr ⟨2 ^ p ||| x, ⟨_, x, start1, .inl (.inr g1), rfl⟩, (ef2 t h _ _ start1).2 g2, S, _, t0 :: r, mS, fS, ?_⟩
        exact ⟨m2 t0 g3, ⟨_, _, start1, start2, rfl⟩, 2 ^ p ||| x0, (fr2 t0 g3 _ _ start1 start2 _).2 ⟨x0, g4, rfl⟩, lift2 r _ x0 x start1 (Q.start g3 g4) g5⟩
end Go.Proofs.YtdlldljgogbiaabGreat
namespace Go.Proofs.YtdlldljgogbiaabGreat
open Go.RowKit
set_option linter.unusedVariables false

/-- a transition as it is written: its label, the places that it takes from and puts to -/
structure Raw where
  lab : Nat
  ins : List Nat
  outs : List Nat
def psum (l : List Nat) : Nat := (l.map fun x => 2 ^ x).sum
def toTr (r : Raw) : Flow.Tr := ⟨r.lab, psum r.ins, psum r.outs⟩
theorem psum_one (a : Nat) : psum [a] = 2 ^ a := by simp [psum]
theorem psum_two {p q : Nat} (hp : p < 16) (hq : q < 16) (h : p ≠ q) : psum [p, q] = 2 ^ p ||| 2 ^ q := by
  rw [Flow.or_add (pow_lt16 hp) (pow_lt16 hq) ?_]
  · simp [psum]
  · apply Nat.eq_of_testBit_eq
    intro i
    rw [Nat.testBit_and, Nat.zero_testBit, bit_pow, bit_pow]
    by_cases e : p = i
    · rw [decide_eq_true e, decide_eq_false (by omega)]; rfl
    · rw [decide_eq_false e]; rfl

/-- the transitions of the process at i between places a and b, places from k on being free; and the next free place (f: fuel) -/
def compN (s : ByteArray) : Nat → Nat → Nat → Nat → Nat → List Raw × Nat
  | 0, _, _, _, k => ([], k)
  | f + 1, i, a, b, k =>
    if Flow.isTk (Flow.bt s i) = true then ([⟨Flow.bt s i, [a], [b]⟩], k)
    else if Flow.bt s i = 42 then (⟨45, [a], [k]⟩ :: ⟨45, [k], [b]⟩ :: (compN s f (i + 1) k k (k + 1)).1, (compN s f (i + 1) k k (k + 1)).2)
    else if Flow.bt s i = 46 then ((compN s f (i + 1) a k (k + 1)).1 ++ (compN s f (Flow.scan s (i + 1)).1 k b (compN s f (i + 1) a k (k + 1)).2).1, (compN s f (Flow.scan s (i + 1)).1 k b (compN s f (i + 1) a k (k + 1)).2).2)
    else if Flow.bt s i = 43 then ((compN s f (i + 1) a b k).1 ++ (compN s f (Flow.scan s (i + 1)).1 a b (compN s f (i + 1) a b k).2).1, (compN s f (Flow.scan s (i + 1)).1 a b (compN s f (i + 1) a b k).2).2)
    else (⟨45, [a], [k, k + 1]⟩ :: ⟨45, [k + 2, k + 3], [b]⟩ :: ((compN s f (i + 1) k (k + 2) (k + 4)).1 ++ (compN s f (Flow.scan s (i + 1)).1 (k + 1) (k + 3) (compN s f (i + 1) k (k + 2) (k + 4)).2).1), (compN s f (Flow.scan s (i + 1)).1 (k + 1) (k + 3) (compN s f (i + 1) k (k + 2) (k + 4)).2).2)
theorem compN_more (s : ByteArray) (f g i : Nat) (hf : s.size - i < f) (hg : s.size - i < g) (hi : i < s.size) : (Flow.scan s i).2.2 = true → compN s f i = compN s g i := by
  induction f generalizing g i with
  | zero => omega
  | succ f ih =>
    intro hok
    cases g with
    | zero => omega
    | succ g =>
      funext a b k
      unfold compN
      obtain ⟨_, hc⟩ := Flow.scan_char hok
      by_cases h1 : Flow.isTk (Flow.bt s i) = true
      · rw [if_pos h1, if_pos h1]
      · rw [if_neg h1, if_neg h1]
        by_cases h2 : Flow.bt s i = 42
        · obtain ⟨g1, _, _⟩ := Flow.scan_one hok h2
          rw [if_pos h2, if_pos h2, ih g (i + 1) (by omega) (by omega) (Flow.scan_char g1).1 g1]
        · have hc2 : Flow.bt s i = 46 ∨ Flow.bt s i = 43 ∨ Flow.bt s i = 38 := by
            rcases hc with hc | hc | hc
            · exact absurd hc h1
            · exact absurd hc h2
            · exact hc
          obtain ⟨g1, g2, _, _⟩ := Flow.scan_two hok hc2
          have e1 := ih g (i + 1) (by omega) (by omega) (Flow.scan_char g1).1 g1
          have hge := Flow.scan_ge s (i + 1)
          have e2 := ih g (Flow.scan s (i + 1)).1 (by omega) (by omega) (Flow.scan_char g2).1 g2
          rw [if_neg h2, if_neg h2, e1, e2]
def comp (s : ByteArray) (i : Nat) : Nat → Nat → Nat → List Raw × Nat := compN s (s.size - i + 1) i
theorem comp_task {s : ByteArray} {i a b k : Nat} (hc : Flow.isTk (Flow.bt s i) = true) : comp s i a b k = ([⟨Flow.bt s i, [a], [b]⟩], k) := by
  show compN s (s.size - i + 1) i a b k = _
  rw [compN.eq_2, if_pos hc]
theorem comp_in {s : ByteArray} {i j : Nat} (hij : i < j) (h : (Flow.scan s j).2.2 = true) : compN s (s.size - i) j = comp s j := by
  have := (Flow.scan_char h).1
  exact compN_more s _ _ j (by omega) (by omega) this h
theorem comp_star {s : ByteArray} {i a b k : Nat} (h : (Flow.scan s i).2.2 = true) (hc : Flow.bt s i = 42) : comp s i a b k = (⟨45, [a], [k]⟩ :: ⟨45, [k], [b]⟩ :: (comp s (i + 1) k k (k + 1)).1, (comp s (i + 1) k k (k + 1)).2) := by
  obtain ⟨g1, _, _⟩ := Flow.scan_one h hc
  rw [← comp_in (i := i) (by omega) g1]
  show compN s (s.size - i + 1) i a b k = _
  rw [compN.eq_2, if_neg (Flow.isTk_no (.inl hc)), if_pos hc]
theorem comp_seq {s : ByteArray} {i a b k : Nat} (h : (Flow.scan s i).2.2 = true) (hc : Flow.bt s i = 46) : comp s i a b k = ((comp s (i + 1) a k (k + 1)).1 ++ (comp s (Flow.scan s (i + 1)).1 k b (comp s (i + 1) a k (k + 1)).2).1, (comp s (Flow.scan s (i + 1)).1 k b (comp s (i + 1) a k (k + 1)).2).2) := by
  obtain ⟨g1, g2, _, _⟩ := Flow.scan_two h (.inl hc)
  have hge := Flow.scan_ge s (i + 1)
  rw [← comp_in (i := i) (by omega) g1, ← comp_in (i := i) (by omega) g2]
  show compN s (s.size - i + 1) i a b k = _
  rw [compN.eq_2, if_neg (Flow.isTk_no (.inr (.inl hc))), if_neg (by omega), if_pos hc]
theorem comp_alt {s : ByteArray} {i a b k : Nat} (h : (Flow.scan s i).2.2 = true) (hc : Flow.bt s i = 43) : comp s i a b k = ((comp s (i + 1) a b k).1 ++ (comp s (Flow.scan s (i + 1)).1 a b (comp s (i + 1) a b k).2).1, (comp s (Flow.scan s (i + 1)).1 a b (comp s (i + 1) a b k).2).2) := by
  obtain ⟨g1, g2, _, _⟩ := Flow.scan_two h (.inr (.inl hc))
  have hge := Flow.scan_ge s (i + 1)
  rw [← comp_in (i := i) (by omega) g1, ← comp_in (i := i) (by omega) g2]
  show compN s (s.size - i + 1) i a b k = _
  rw [compN.eq_2, if_neg (Flow.isTk_no (.inr (.inr (.inl hc)))), if_neg (by omega), if_neg (by omega), if_pos hc]
theorem comp_par {s : ByteArray} {i a b k : Nat} (h : (Flow.scan s i).2.2 = true) (hc : Flow.bt s i = 38) : comp s i a b k = (⟨45, [a], [k, k + 1]⟩ :: ⟨45, [k + 2, k + 3], [b]⟩ :: ((comp s (i + 1) k (k + 2) (k + 4)).1 ++ (comp s (Flow.scan s (i + 1)).1 (k + 1) (k + 3) (comp s (i + 1) k (k + 2) (k + 4)).2).1), (comp s (Flow.scan s (i + 1)).1 (k + 1) (k + 3) (comp s (i + 1) k (k + 2) (k + 4)).2).2) := by
  obtain ⟨g1, g2, _, _⟩ := Flow.scan_two h (.inr (.inr hc))
  have hge := Flow.scan_ge s (i + 1)
  rw [← comp_in (i := i) (by omega) g1, ← comp_in (i := i) (by omega) g2]
  show compN s (s.size - i + 1) i a b k = _
  rw [compN.eq_2, if_neg (Flow.isTk_no (.inr (.inr (.inr hc)))), if_neg (by omega), if_neg (by omega), if_neg (by omega)]

theorem Piece.congr {ts : List Flow.Tr} {a b : Nat} {I I' In : Nat → Prop} {Lg Lg' : List Nat → Prop} (P : Piece ts a b I In Lg) (hI : ∀ i, I i ↔ I' i) (hL : ∀ u, Lg u ↔ Lg' u) : Piece ts a b I' In Lg' := by
  have e1 : I = I' := funext fun i => propext (hI i)
  have e2 : Lg = Lg' := funext fun u => propext (hL u)
  rw [← e1, ← e2]; exact P

/-- places that rise -/
def Rises : Nat → List Nat → Prop
  | _, [] => True
  | set, x :: l => x < 16 ∧ set < 2 ^ x ∧ Rises (set + 2 ^ x) l
/-- a transition is well written, and names places of its piece alone -/
structure RawOk (a b k k' : Nat) (r : Raw) : Prop where
  lab : Flow.isLb r.lab = true
  ins : Rises 0 r.ins ∧ r.ins ≠ [] ∧ ∀ x ∈ r.ins, x = a ∨ (k ≤ x ∧ x < k')
  outs : Rises 0 r.outs ∧ r.outs ≠ [] ∧ ∀ x ∈ r.outs, x = b ∨ (k ≤ x ∧ x < k')
  len : r.ins.length + r.outs.length ≤ 3
theorem rises_one {a : Nat} (h : a < 16) : Rises 0 [a] := ⟨h, Nat.two_pow_pos a, trivial⟩
theorem rises_two {p q : Nat} (h : p < q) (hq : q < 16) : Rises 0 [p, q] := ⟨by omega, Nat.two_pow_pos p, hq, by rw [Nat.zero_add]; exact Nat.pow_lt_pow_right (by omega) h, trivial⟩
theorem RawOk.more {a b k k' a1 b1 k1 k1' : Nat} {r : Raw} (h : RawOk a b k k' r) (h1 : a = a1 ∨ (k1 ≤ a ∧ a < k1')) (h2 : b = b1 ∨ (k1 ≤ b ∧ b < k1')) (h3 : k1 ≤ k) (h4 : k' ≤ k1') : RawOk a1 b1 k1 k1' r := by
  refine ⟨h.lab, ⟨h.ins.1, h.ins.2.1, ?_⟩, ⟨h.outs.1, h.outs.2.1, ?_⟩, h.len⟩
  · intro x hx
    rcases h.ins.2.2 x hx with e | e
    · rw [e]; exact h1
    · exact .inr ⟨by omega, by omega⟩
  · intro x hx
    rcases h.outs.2.2 x hx with e | e
    · rw [e]; exact h2
    · exact .inr ⟨by omega, by omega⟩

theorem nodes_pos {s : ByteArray} {i : Nat} (h : (Flow.scan s i).2.2 = true) : 1 ≤ (Flow.scan s i).2.1 := by
  obtain ⟨hi, hc⟩ := Flow.scan_char h
  rcases hc with hc | hc | hc
  · rw [Flow.scan_eq, if_neg (by omega), if_pos hc]; show 1 ≤ 1; omega
  · obtain ⟨_, _, g⟩ := Flow.scan_one h hc; omega
  · obtain ⟨_, _, _, g⟩ := Flow.scan_two h hc; omega
/-- **the piece of net of a process has its words** -/
theorem comp_piece {s : ByteArray} {i : Nat} (hok : (Flow.scan s i).2.2 = true) : ∀ a b k, a < k → b < k → k + 2 * ((Flow.scan s i).2.1 - 1) ≤ 16 →
    ∃ In, Piece ((comp s i a b k).1.map toTr) a b (fun j => k ≤ j ∧ j < (comp s i a b k).2) In (Flow.Has s i) ∧ k ≤ (comp s i a b k).2 ∧ (comp s i a b k).2 ≤ k + 2 * ((Flow.scan s i).2.1 - 1) ∧ 1 ≤ (Flow.scan s i).2.1 ∧ (comp s i a b k).1.length + 1 ≤ 2 * (Flow.scan s i).2.1 ∧ ∀ r ∈ (comp s i a b k).1, RawOk a b k (comp s i a b k).2 r := by
  induction n : s.size - i using Nat.strongRecOn generalizing i with
  | ind n ih =>
    intro a b k ha hb hk
    obtain ⟨hi, hc⟩ := Flow.scan_char hok
    rcases hc with hc | hc | hc
    · have hn : (Flow.scan s i).2.1 = 1 := by rw [Flow.scan_eq, if_neg (by omega), if_pos hc]
      rw [comp_task hc]
      have hl := Flow.isTk_iff.1 hc
      have h256 := Flow.bt_lt s i
      refine ⟨fun _ => False, ?_, Nat.le_refl _, by omega, by omega, by show 1 + 1 ≤ _; omega, ?_⟩
      · have P := piece_task (c := Flow.bt s i) (a := a) (b := b) (by omega) (by omega) h256 (by omega)
        have e : ([⟨Flow.bt s i, [a], [b]⟩] : List Raw).map toTr = [⟨Flow.bt s i, 2 ^ a, 2 ^ b⟩] := by simp [toTr, psum_one]
        show Piece (([⟨Flow.bt s i, [a], [b]⟩] : List Raw).map toTr) _ _ _ _ _
        rw [e]
        exact P.congr (fun j => ⟨fun h => absurd h id, fun h => by have h1 := h.1; have h2 : j < k := h.2; omega⟩) (fun u => (Flow.has_task hi hc u).symm)
      · intro r hr
        rw [List.mem_singleton.1 hr]
        exact ⟨by unfold Flow.isLb; rw [hc]; rfl, ⟨rises_one (by omega), by simp, fun x hx => .inl (List.mem_singleton.1 hx)⟩, ⟨rises_one (by omega), by simp, fun x hx => .inl (List.mem_singleton.1 hx)⟩, by simp⟩
    · obtain ⟨g1, g2, g3⟩ := Flow.scan_one hok hc
      rw [comp_star hok hc]
      have hn1 := nodes_pos g1
      obtain ⟨In, P, p1, p2, p3, p4, p5⟩ := ih (s.size - (i + 1)) (by omega) g1 rfl k k (k + 1) (by omega) (by omega) (by omega)
      generalize comp s (i + 1) k k (k + 1) = r at P p1 p2 p4 p5
      refine ⟨fun x => x = 2 ^ k ∨ In x, ?_, by show k ≤ r.2; omega, by show r.2 ≤ _; omega, by omega, by show (r.1.length + 1 + 1) + 1 ≤ _; omega, ?_⟩
      · have Q := piece_star P (a := a) (b := b) (by omega) (by omega) (by omega) (by omega) (by intro h; have := h.1; omega) (by intro h; have := h.1; omega)
        have e : ((⟨45, [a], [k]⟩ :: ⟨45, [k], [b]⟩ :: r.1 : List Raw)).map toTr = ⟨45, 2 ^ a, 2 ^ k⟩ :: ⟨45, 2 ^ k, 2 ^ b⟩ :: r.1.map toTr := by simp [toTr, psum_one]
        show Piece (((⟨45, [a], [k]⟩ :: ⟨45, [k], [b]⟩ :: r.1 : List Raw)).map toTr) _ _ _ _ _
        rw [e]
        exact Q.congr (fun j => by show (j = k ∨ (k + 1 ≤ j ∧ j < r.2)) ↔ (k ≤ j ∧ j < r.2); omega) (fun u => (Flow.has_star hi hc u).symm)
      · intro x hx
        have h45 : Flow.isLb 45 = true := by decide
        rcases List.mem_cons.1 hx with rfl | hx
        · exact ⟨h45, ⟨rises_one (by omega), by simp, fun x hx => .inl (List.mem_singleton.1 hx)⟩, ⟨rises_one (by omega), by simp, fun x hx => .inr (by rw [List.mem_singleton.1 hx]; exact ⟨Nat.le_refl _, by show k < r.2; omega⟩)⟩, by simp⟩
        · rcases List.mem_cons.1 hx with rfl | hx
          · exact ⟨h45, ⟨rises_one (by omega), by simp, fun x hx => .inr (by rw [List.mem_singleton.1 hx]; exact ⟨Nat.le_refl _, by show k < r.2; omega⟩)⟩, ⟨rises_one (by omega), by simp, fun x hx => .inl (List.mem_singleton.1 hx)⟩, by simp⟩
          · exact (p5 x hx).more (.inr ⟨Nat.le_refl _, by show k < r.2; omega⟩) (.inr ⟨Nat.le_refl _, by show k < r.2; omega⟩) (by omega) (Nat.le_refl _)
    · obtain ⟨g1, g2, g3, g4⟩ := Flow.scan_two hok hc
      have hge := Flow.scan_ge s (i + 1)
      have hn1 := nodes_pos g1
      have hn2 := nodes_pos g2
      rcases hc with hc | hc | hc
      · rw [comp_seq hok hc]
        obtain ⟨In1, P1, p1, p2, p3, p4, p5⟩ := ih (s.size - (i + 1)) (by omega) g1 rfl a k (k + 1) (by omega) (by omega) (by omega)
        generalize comp s (i + 1) a k (k + 1) = r1 at P1 p1 p2 p4 p5 ⊢
        obtain ⟨In2, P2, q1, q2, q3, q4, q5⟩ := ih (s.size - (Flow.scan s (i + 1)).1) (by omega) g2 rfl k b r1.2 (by omega) (by omega) (by omega)
        generalize comp s (Flow.scan s (i + 1)).1 k b r1.2 = r2 at P2 q1 q2 q4 q5 ⊢
        refine ⟨fun x => In1 x ∨ x = 2 ^ k ∨ In2 x, ?_, by show k ≤ r2.2; omega, by show r2.2 ≤ _; omega, by omega, by show (r1.1 ++ r2.1).length + 1 ≤ _; rw [List.length_append]; omega, ?_⟩
        · have Q := piece_seq P1 P2 (by omega) (by omega) (by intro h; have := h.1; omega) (by intro h; have := h.1; omega) (by rintro j ⟨j1, j2⟩ ⟨j3, j4⟩; omega)
          show Piece ((r1.1 ++ r2.1).map toTr) _ _ _ _ _
          rw [List.map_append]
          exact Q.congr (fun j => by show ((k + 1 ≤ j ∧ j < r1.2) ∨ j = k ∨ (r1.2 ≤ j ∧ j < r2.2)) ↔ (k ≤ j ∧ j < r2.2); omega) (fun u => (Flow.has_seq hi hc u).symm)
        · intro x hx
          rcases List.mem_append.1 hx with hx | hx
          · exact (p5 x hx).more (.inl rfl) (.inr ⟨Nat.le_refl _, by show k < r2.2; omega⟩) (by omega) q1
          · exact (q5 x hx).more (.inr ⟨Nat.le_refl _, by show k < r2.2; omega⟩) (.inl rfl) (by omega) (Nat.le_refl _)
      · rw [comp_alt hok hc]
        obtain ⟨In1, P1, p1, p2, p3, p4, p5⟩ := ih (s.size - (i + 1)) (by omega) g1 rfl a b k ha hb (by omega)
        generalize comp s (i + 1) a b k = r1 at P1 p1 p2 p4 p5 ⊢
        obtain ⟨In2, P2, q1, q2, q3, q4, q5⟩ := ih (s.size - (Flow.scan s (i + 1)).1) (by omega) g2 rfl a b r1.2 (by omega) (by omega) (by omega)
        generalize comp s (Flow.scan s (i + 1)).1 a b r1.2 = r2 at P2 q1 q2 q4 q5 ⊢
        refine ⟨fun x => In1 x ∨ In2 x, ?_, by show k ≤ r2.2; omega, by show r2.2 ≤ _; omega, by omega, by show (r1.1 ++ r2.1).length + 1 ≤ _; rw [List.length_append]; omega, ?_⟩
        · have Q := piece_alt P1 P2 (by rintro j ⟨j1, j2⟩ ⟨j3, j4⟩; omega)
          show Piece ((r1.1 ++ r2.1).map toTr) _ _ _ _ _
          rw [List.map_append]
          exact Q.congr (fun j => by show ((k ≤ j ∧ j < r1.2) ∨ (r1.2 ≤ j ∧ j < r2.2)) ↔ (k ≤ j ∧ j < r2.2); omega) (fun u => (Flow.has_alt hi hc u).symm)
        · intro x hx
          rcases List.mem_append.1 hx with hx | hx
          · exact (p5 x hx).more (.inl rfl) (.inl rfl) (Nat.le_refl _) q1
          · exact (q5 x hx).more (.inl rfl) (.inl rfl) p1 (Nat.le_refl _)
      · rw [comp_par hok hc]
        obtain ⟨In1, P1, p1, p2, p3, p4, p5⟩ := ih (s.size - (i + 1)) (by omega) g1 rfl k (k + 2) (k + 4) (by omega) (by omega) (by omega)
        generalize comp s (i + 1) k (k + 2) (k + 4) = r1 at P1 p1 p2 p4 p5 ⊢
        obtain ⟨In2, P2, q1, q2, q3, q4, q5⟩ := ih (s.size - (Flow.scan s (i + 1)).1) (by omega) g2 rfl (k + 1) (k + 3) r1.2 (by omega) (by omega) (by omega)
        generalize comp s (Flow.scan s (i + 1)).1 (k + 1) (k + 3) r1.2 = r2 at P2 q1 q2 q4 q5 ⊢
        refine ⟨fun x => ∃ x1 x2, Stage In1 k (k + 2) x1 ∧ Stage In2 (k + 1) (k + 3) x2 ∧ x = x1 ||| x2, ?_, by show k ≤ r2.2; omega, by show r2.2 ≤ _; omega, by omega, by show ((r1.1 ++ r2.1).length + 1 + 1) + 1 ≤ _; rw [List.length_append]; omega, ?_⟩
        · have Q := piece_par P1 P2 (a := a) (b := b) (by omega) (by omega) (by omega) (by omega) (by omega) (by omega) (by omega) (by omega) (by omega) (by omega) (by omega) (by omega) (by omega) (by omega) (by omega) (by omega)
            (by rintro j ⟨j1, j2⟩; exact ⟨fun h => by have := h.1; omega, by omega, by omega, by omega, by omega⟩) (by rintro j ⟨j1, j2⟩; omega)
          have e : ((⟨45, [a], [k, k + 1]⟩ :: ⟨45, [k + 2, k + 3], [b]⟩ :: (r1.1 ++ r2.1) : List Raw)).map toTr = ⟨45, 2 ^ a, 2 ^ k ||| 2 ^ (k + 1)⟩ :: ⟨45, 2 ^ (k + 2) ||| 2 ^ (k + 3), 2 ^ b⟩ :: (r1.1.map toTr ++ r2.1.map toTr) := by
            simp only [List.map_cons, List.map_append, toTr, psum_one]
            rw [psum_two (by omega) (by omega) (by omega), psum_two (by omega) (by omega) (by omega)]
          show Piece (((⟨45, [a], [k, k + 1]⟩ :: ⟨45, [k + 2, k + 3], [b]⟩ :: (r1.1 ++ r2.1) : List Raw)).map toTr) _ _ _ _ _
          rw [e]
          exact Q.congr (fun j => by show (j = k ∨ j = k + 2 ∨ j = k + 1 ∨ j = k + 3 ∨ (k + 4 ≤ j ∧ j < r1.2) ∨ (r1.2 ≤ j ∧ j < r2.2)) ↔ (k ≤ j ∧ j < r2.2); omega) (fun u => (Flow.has_par hi hc u).symm)
        · intro x hx
          have h45 : Flow.isLb 45 = true := by decide
          rcases List.mem_cons.1 hx with rfl | hx
          · exact ⟨h45, ⟨rises_one (by omega), by simp, fun x hx => .inl (List.mem_singleton.1 hx)⟩, ⟨rises_two (by omega) (by omega), by simp, fun x hx => .inr (by simp at hx; show k ≤ x ∧ x < r2.2; omega)⟩, by simp⟩
          · rcases List.mem_cons.1 hx with rfl | hx
            · exact ⟨h45, ⟨rises_two (by omega) (by omega), by simp, fun x hx => .inr (by simp at hx; show k ≤ x ∧ x < r2.2; omega)⟩, ⟨rises_one (by omega), by simp, fun x hx => .inl (List.mem_singleton.1 hx)⟩, by simp⟩
            · rcases List.mem_append.1 hx with hx | hx
              · exact (p5 x hx).more (.inr ⟨Nat.le_refl _, by show k < r2.2; omega⟩) (.inr ⟨by omega, by show k + 2 < r2.2; omega⟩) (by omega) q1
              · exact (q5 x hx).more (.inr ⟨by omega, by show k + 1 < r2.2; omega⟩) (.inr ⟨by omega, by show k + 3 < r2.2; omega⟩) (by omega) (Nat.le_refl _)
end Go.Proofs.YtdlldljgogbiaabGreat
