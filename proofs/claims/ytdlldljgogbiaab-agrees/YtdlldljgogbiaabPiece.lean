/-
  Pieces of a net between two places: plain.
-/
import Derived.Test.YtdlldljgogbiaabTurn
import Derived.Test.YtdlldljgogbiaabProc
namespace Go.Proofs.Ytdlldljgogbiaab
open Go.RowKit
set_option linter.unusedVariables false

/-- transition t leads from m to m' -/
def Fires (t : Flow.Tr) (m m' : Nat) : Prop := Flow.fireErr t m = 0 ∧ Flow.after t m = m'
theorem Fires.eq {t : Flow.Tr} {m a b : Nat} (h : Fires t m a) (g : Fires t m b) : a = b := h.2.symm.trans g.2
theorem en_iff {t : Flow.Tr} {m : Nat} : Flow.enabled t m = true ↔ ∀ i, t.inn.testBit i = true → m.testBit i = true := by
  unfold Flow.enabled
  rw [decide_eq_true_iff]
  constructor
  · intro h i hi
    have := congrArg (fun x => Nat.testBit x i) h
    simp only [Nat.testBit_and] at this
    rw [hi, Bool.and_true] at this
    exact this
  · intro h
    apply Nat.eq_of_testBit_eq
    intro i
    rw [Nat.testBit_and]
    cases hi : t.inn.testBit i with
    | false => simp
    | true => rw [h i hi]; rfl
theorem Fires.en {t : Flow.Tr} {m a : Nat} (h : Fires t m a) : Flow.enabled t m = true := (fireErr_zero h.1).1
theorem sub_bit {m a : Nat} (hm : m < 65536) (h : m &&& a = a) (i : Nat) : (m - a).testBit i = (m.testBit i && !a.testBit i) := by
  have ha : a ≤ m := by rw [← h]; exact Nat.and_le_left
  have hb : ∀ b, (m.testBit b && a.testBit b) = a.testBit b := fun b => by
    have := congrArg (fun x => Nat.testBit x b) h
    simpa only [Nat.testBit_and] using this
  have h1 : (m ^^^ a) &&& a = 0 := by
    apply Nat.eq_of_testBit_eq
    intro b
    have := hb b
    rw [Nat.testBit_and, Nat.testBit_xor, Nat.zero_testBit]
    cases e1 : Nat.testBit m b <;> cases e2 : Nat.testBit a b <;> simp_all
  have h2 : (m ^^^ a) ||| a = m := by
    apply Nat.eq_of_testBit_eq
    intro b
    have := hb b
    rw [Nat.testBit_or, Nat.testBit_xor]
    cases e1 : Nat.testBit m b <;> cases e2 : Nat.testBit a b <;> simp_all
  have h3 := Flow.or_add (a := m ^^^ a) (b := a) (Nat.xor_lt_two_pow (n := 16) hm (by omega)) (by omega) h1
  rw [h2] at h3
  have h4 : m - a = m ^^^ a := by omega
  have := hb i
  rw [h4, Nat.testBit_xor]
  clear h1 h2 h3 h4 hb ha hm h
  cases e1 : Nat.testBit m i <;> cases e2 : Nat.testBit a i <;> simp_all
theorem fire_get {t : Flow.Tr} {m m' : Nat} (hm : m < 65536) (ht : Flow.Small t) (h : Fires t m m') :
    (∀ i, t.inn.testBit i = true → m.testBit i = true) ∧ (∀ i, m.testBit i = true → t.inn.testBit i = false → t.out.testBit i = false) ∧ (∀ i, m'.testBit i = ((m.testBit i && !t.inn.testBit i) || t.out.testBit i)) := by
  obtain ⟨h1, h2⟩ := fireErr_zero h.1
  have e1 : m &&& t.inn = t.inn := by simpa [Flow.enabled] using h1
  have e2 : (m - t.inn) &&& t.out = 0 := by simpa [Flow.spills] using h2
  refine ⟨en_iff.1 h1, ?_, ?_⟩
  · intro i hi hn
    have := congrArg (fun x => Nat.testBit x i) e2
    simp only [Nat.testBit_and, Nat.zero_testBit, sub_bit hm e1] at this
    rw [hi, hn] at this
    simpa using this
  · intro i
    rw [← h.2]
    show (m - t.inn + t.out).testBit i = _
    rw [← Flow.or_add (by omega) ht.2.2 e2, Nat.testBit_or, sub_bit hm e1]
theorem fire_mk {t : Flow.Tr} {m m' : Nat} (hm : m < 65536) (ht : Flow.Small t) (h1 : ∀ i, t.inn.testBit i = true → m.testBit i = true) (h2 : ∀ i, m.testBit i = true → t.inn.testBit i = false → t.out.testBit i = false)
    (h3 : ∀ i, m'.testBit i = ((m.testBit i && !t.inn.testBit i) || t.out.testBit i)) : Fires t m m' := by
  have g1 := en_iff.2 h1
  have e1 : m &&& t.inn = t.inn := by simpa [Flow.enabled] using g1
  have e2 : (m - t.inn) &&& t.out = 0 := by
    apply Nat.eq_of_testBit_eq
    intro i
    rw [Nat.testBit_and, sub_bit hm e1, Nat.zero_testBit]
    have := h2 i
    cases a1 : m.testBit i <;> cases a2 : t.inn.testBit i <;> simp_all
  refine ⟨?_, ?_⟩
  · unfold Flow.fireErr
    rw [if_neg (by rw [g1]; simp), if_neg (by unfold Flow.spills; rw [decide_eq_true e2]; simp)]
  · apply Nat.eq_of_testBit_eq
    intro i
    rw [h3 i]
    show (m - t.inn + t.out).testBit i = _
    rw [← Flow.or_add (by omega) ht.2.2 e2, Nat.testBit_or, sub_bit hm e1]
theorem fire_lt {t : Flow.Tr} {m m' : Nat} (hm : m < 65536) (ht : Flow.Small t) (h : Fires t m m') : m' < 65536 := by rw [← h.2]; exact after_lt hm ht h.1
theorem bit_pow (a i : Nat) : (2 ^ a).testBit i = decide (a = i) := Nat.testBit_two_pow
theorem bit_self (a : Nat) : (2 ^ a).testBit a = true := by rw [bit_pow]; simp
theorem bit_only {a i : Nat} (h : (2 ^ a).testBit i = true) : i = a := by rw [bit_pow, decide_eq_true_iff] at h; exact h.symm
theorem pow_lt16 {a : Nat} (h : a < 16) : 2 ^ a < 65536 := by
  have h1 := Nat.pow_le_pow_right (n := 2) (by omega) (show a ≤ 15 by omega)
  have e : (2 : Nat) ^ 15 = 32768 := by decide
  omega
/-- what else a marking holds changes nothing -/
theorem fire_frame {t : Flow.Tr} {x y : Nat} (hx : x < 65536) (hy : y < 65536) (ht : Flow.Small t) (hoff : ∀ i, y.testBit i = true → t.inn.testBit i = false ∧ t.out.testBit i = false) {m' : Nat} : Fires t (x ||| y) m' ↔ ∃ x', Fires t x x' ∧ m' = x' ||| y := by
  have hxy : x ||| y < 65536 := Nat.or_lt_two_pow (n := 16) hx hy
  have key : ∀ i, t.inn.testBit i = true → y.testBit i = false := fun i hi => by
    cases e : y.testBit i with
    | false => rfl
    | true => have := (hoff i e).1; rw [hi] at this; cases this
  constructor
  · intro h
    obtain ⟨h1, h2, h3⟩ := fire_get hxy ht h
    have g : Fires t x (Flow.after t x) := by
      refine ⟨(fire_mk (m' := Flow.after t x) hx ht ?_ ?_ ?_).1, rfl⟩
      · intro i hi
        have := h1 i hi
        rw [Nat.testBit_or, key i hi, Bool.or_false] at this
        exact this
      · intro i hi hn
        exact h2 i (by rw [Nat.testBit_or, hi]; rfl) hn
      · have h1' : ∀ i, t.inn.testBit i = true → x.testBit i = true := by
          intro i hi
          have := h1 i hi
          rw [Nat.testBit_or, key i hi, Bool.or_false] at this
          exact this
        have h2' : ∀ i, x.testBit i = true → t.inn.testBit i = false → t.out.testBit i = false := fun i hi hn => h2 i (by rw [Nat.testBit_or, hi]; rfl) hn
        have e1 : x &&& t.inn = t.inn := by simpa [Flow.enabled] using en_iff.2 h1'
        have e2 : (x - t.inn) &&& t.out = 0 := by
          apply Nat.eq_of_testBit_eq
          intro i
          rw [Nat.testBit_and, sub_bit hx e1, Nat.zero_testBit]
          have := h2' i
          cases a1 : x.testBit i <;> cases a2 : t.inn.testBit i <;> simp_all
        intro i
        show (x - t.inn + t.out).testBit i = _
        rw [← Flow.or_add (by omega) ht.2.2 e2, Nat.testBit_or, sub_bit hx e1]
    refine ⟨_, g, ?_⟩
    apply Nat.eq_of_testBit_eq
    intro i
    rw [h3 i, Nat.testBit_or, Nat.testBit_or, (fire_get hx ht g).2.2 i]
    have := hoff i
    have := key i
    cases a1 : x.testBit i <;> cases a2 : y.testBit i <;> cases a3 : t.inn.testBit i <;> cases a4 : t.out.testBit i <;> simp_all
  · rintro ⟨x', h, rfl⟩
    obtain ⟨h1, h2, h3⟩ := fire_get hx ht h
    refine fire_mk hxy ht ?_ ?_ ?_
    · intro i hi; rw [Nat.testBit_or, h1 i hi]; rfl
    · intro i hi hn
      rw [Nat.testBit_or] at hi
      cases e : y.testBit i with
      | true => exact (hoff i e).2
      | false => rw [e, Bool.or_false] at hi; exact h2 i hi hn
    · intro i
      rw [Nat.testBit_or, Nat.testBit_or, h3 i]
      have := hoff i
      have := key i
      cases a1 : x.testBit i <;> cases a2 : y.testBit i <;> cases a3 : t.inn.testBit i <;> cases a4 : t.out.testBit i <;> simp_all
theorem en_frame {t : Flow.Tr} {x y : Nat} (hoff : ∀ i, y.testBit i = true → t.inn.testBit i = false) : Flow.enabled t (x ||| y) = true ↔ Flow.enabled t x = true := by
  rw [en_iff, en_iff]
  constructor
  · intro h i hi
    have := h i hi
    rw [Nat.testBit_or] at this
    cases e : y.testBit i with
    | false => rw [e, Bool.or_false] at this; exact this
    | true => have := hoff i e; rw [hi] at this; cases this
  · intro h i hi; rw [Nat.testBit_or, h i hi]; rfl

/-- the letters of steps -/
def wordT (r : List Flow.Tr) : List Nat := r.filterMap fun t => if t.label = 45 then none else some t.label
theorem wordT_append (a b : List Flow.Tr) : wordT (a ++ b) = wordT a ++ wordT b := by unfold wordT; rw [List.filterMap_append]
theorem wordT_quiet {t : Flow.Tr} (h : t.label = 45) (r : List Flow.Tr) : wordT (t :: r) = wordT r := by unfold wordT; rw [List.filterMap_cons, if_pos h]
theorem wordT_loud {t : Flow.Tr} (h : t.label ≠ 45) (r : List Flow.Tr) : wordT (t :: r) = t.label :: wordT r := by unfold wordT; rw [List.filterMap_cons, if_neg h]
theorem wordT_cons (t : Flow.Tr) (r : List Flow.Tr) : wordT (t :: r) = wordT [t] ++ wordT r := wordT_append [t] r
/-- steps from x to y: all markings on the way, the last apart, are inner ones -/
def Tail (ts : List Flow.Tr) (In : Nat → Prop) : Nat → List Flow.Tr → Nat → Prop
  | x, [], y => x = y
  | x, t :: r, y => t ∈ ts ∧ In x ∧ ∃ x', Fires t x x' ∧ Tail ts In x' r y
theorem tail_mono {ts ts' : List Flow.Tr} {In In' : Nat → Prop} (ht : ∀ t ∈ ts, t ∈ ts') (hi : ∀ x, In x → In' x) : ∀ {r : List Flow.Tr} {x y : Nat}, Tail ts In x r y → Tail ts' In' x r y := by
  intro r
  induction r with
  | nil => intro x y h; exact h
  | cons t r ih =>
    rintro x y ⟨h1, h2, x', h3, h4⟩
    exact ⟨ht t h1, hi x h2, x', h3, ih h4⟩
theorem tail_append {ts : List Flow.Tr} {In : Nat → Prop} : ∀ {r r' : List Flow.Tr} {x y z : Nat}, Tail ts In x r y → Tail ts In y r' z → Tail ts In x (r ++ r') z := by
  intro r
  induction r with
  | nil =>
    intro r' x y z h g
    have : x = y := h
    subst this; exact g
  | cons t r ih =>
    rintro r' x y z ⟨h1, h2, x', h3, h4⟩ g
    exact ⟨h1, h2, x', h3, ih h4 g⟩

/-- a piece of net that leads from place a to place b, with places of its own; inner markings; its words -/
structure Piece (ts : List Flow.Tr) (a b : Nat) (I : Nat → Prop) (In : Nat → Prop) (Lg : List Nat → Prop) : Prop where
  ha : a < 16
  hb : b < 16
  nA : ¬ I a
  nB : ¬ I b
  small : ∀ t ∈ ts, Flow.Small t
  takes : ∀ t ∈ ts, ∀ i, t.inn.testBit i = true → i = a ∨ I i
  any : ∀ t ∈ ts, ∃ i, t.inn.testBit i = true
  puts : ∀ t ∈ ts, ∀ i, t.out.testBit i = true → i = b ∨ I i
  inn : ∀ x, In x → x < 65536 ∧ (∀ i, x.testBit i = true → I i) ∧ ∃ i, x.testBit i = true
  first : ∀ t ∈ ts, Flow.enabled t (2 ^ a) = true → ∃ x, Fires t (2 ^ a) x ∧ (x = 2 ^ b ∨ In x)
  next : ∀ t ∈ ts, ∀ x, In x → Flow.enabled t x = true → ∃ x', Fires t x x' ∧ (x' = 2 ^ b ∨ In x')
  words : ∀ u, (∃ t x r, t ∈ ts ∧ Fires t (2 ^ a) x ∧ Tail ts In x r (2 ^ b) ∧ wordT (t :: r) = u) ↔ Lg u
  some : ∃ u, Lg u
  ends : ∀ x, In x → ∃ r, Tail ts In x r (2 ^ b)
  live : ∀ t ∈ ts, Flow.enabled t (2 ^ a) = true ∨ ∃ x, In x ∧ Flow.enabled t x = true ∧ ∃ t0 x0 r, t0 ∈ ts ∧ Fires t0 (2 ^ a) x0 ∧ Tail ts In x0 r x
/-- where it has no token, it does nothing -/
theorem Piece.off {ts : List Flow.Tr} {a b : Nat} {I In : Nat → Prop} {Lg : List Nat → Prop} (P : Piece ts a b I In Lg) {t : Flow.Tr} (ht : t ∈ ts) {x : Nat} (hx : ∀ i, x.testBit i = true → i ≠ a ∧ ¬ I i) : ¬ Flow.enabled t x = true := by
  intro h
  obtain ⟨i, hi⟩ := P.any t ht
  have h1 := en_iff.1 h i hi
  rcases P.takes t ht i hi with e | e
  · exact (hx i h1).1 e
  · exact (hx i h1).2 e
theorem Piece.notB {ts : List Flow.Tr} {a b : Nat} {I In : Nat → Prop} {Lg : List Nat → Prop} (P : Piece ts a b I In Lg) {c : Nat} (hc : ¬ I c) : ¬ In (2 ^ c) := fun h => hc ((P.inn _ h).2.1 c (bit_self c))
theorem Piece.step {ts : List Flow.Tr} {a b : Nat} {I In : Nat → Prop} {Lg : List Nat → Prop} (P : Piece ts a b I In Lg) {t : Flow.Tr} (ht : t ∈ ts) {x x' : Nat} (hx : In x) (hf : Fires t x x') : x' = 2 ^ b ∨ In x' := by
  obtain ⟨z, h1, h2⟩ := P.next t ht x hx hf.en
  rw [hf.eq h1]; exact h2
theorem Piece.start {ts : List Flow.Tr} {a b : Nat} {I In : Nat → Prop} {Lg : List Nat → Prop} (P : Piece ts a b I In Lg) {t : Flow.Tr} (ht : t ∈ ts) {x' : Nat} (hf : Fires t (2 ^ a) x') : x' = 2 ^ b ∨ In x' := by
  obtain ⟨z, h1, h2⟩ := P.first t ht hf.en
  rw [hf.eq h1]; exact h2
theorem pow_inj {a b : Nat} (h : 2 ^ a = 2 ^ b) : a = b := bit_only (a := b) (by rw [← h]; exact bit_self a)

/-- a step from one place to another -/
theorem fires_one {c a b : Nat} (ha : a < 16) (hb : b < 16) (hc : c < 256) : Fires ⟨c, 2 ^ a, 2 ^ b⟩ (2 ^ a) (2 ^ b) :=
  fire_mk (pow_lt16 ha) ⟨hc, pow_lt16 ha, pow_lt16 hb⟩ (fun i h => h) (fun i h1 h2 => by rw [h1] at h2; cases h2) (fun i => by cases (2 ^ a).testBit i <;> simp)
theorem small_one {c a b : Nat} (ha : a < 16) (hb : b < 16) (hc : c < 256) : Flow.Small ⟨c, 2 ^ a, 2 ^ b⟩ := ⟨hc, pow_lt16 ha, pow_lt16 hb⟩

theorem piece_task {c a b : Nat} (ha : a < 16) (hb : b < 16) (hc : c < 256) (h45 : c ≠ 45) : Piece [⟨c, 2 ^ a, 2 ^ b⟩] a b (fun _ => False) (fun _ => False) (fun u => u = [c]) := by
  have one : ∀ t, t ∈ [(⟨c, 2 ^ a, 2 ^ b⟩ : Flow.Tr)] → t = ⟨c, 2 ^ a, 2 ^ b⟩ := fun t ht => List.mem_singleton.1 ht
  refine ⟨ha, hb, id, id, ?_, ?_, ?_, ?_, ?_, ?_, ?_, ?_, ⟨[c], rfl⟩, ?_, ?_⟩
  · intro t ht; rw [one t ht]; exact small_one ha hb hc
  · intro t ht i hi; rw [one t ht] at hi; exact .inl (bit_only hi)
  · intro t ht; rw [one t ht]; exact ⟨a, bit_self a⟩
  · intro t ht i hi; rw [one t ht] at hi; exact .inl (bit_only hi)
  · intro x hx; exact absurd hx id
  · intro t ht _; rw [one t ht]; exact ⟨_, fires_one ha hb hc, .inl rfl⟩
  · intro t ht x hx; exact absurd hx id
  · intro u
    constructor
    · rintro ⟨t, x, r, ht, hf, htl, hw⟩
      rw [one t ht] at hf hw
      have hx : x = 2 ^ b := hf.eq (fires_one ha hb hc)
      subst hx
      cases r with
      | nil => rw [wordT_loud h45] at hw; exact hw.symm
      | cons t' r => exact absurd htl.2.1 id
    · rintro rfl
      exact ⟨_, _, [], List.mem_singleton.2 rfl, fires_one ha hb hc, rfl, by rw [wordT_loud h45]; rfl⟩
  · intro x hx; exact absurd hx id
  · intro t ht; rw [one t ht]; exact .inl (fires_one ha hb hc).en

theorem piece_seq {t1 t2 : List Flow.Tr} {a m b : Nat} {I1 I2 In1 In2 : Nat → Prop} {L1 L2 : List Nat → Prop} (P : Piece t1 a m I1 In1 L1) (Q : Piece t2 m b I2 In2 L2) (hma : m ≠ a) (hmb : m ≠ b) (h1b : ¬ I1 b) (h2a : ¬ I2 a) (hd : ∀ i, I1 i → ¬ I2 i) :
    Piece (t1 ++ t2) a b (fun i => I1 i ∨ i = m ∨ I2 i) (fun x => In1 x ∨ x = 2 ^ m ∨ In2 x) (fun w => ∃ u v, w = u ++ v ∧ L1 u ∧ L2 v) := by
  have off2a : ∀ t ∈ t2, ¬ Flow.enabled t (2 ^ a) = true := fun t ht => Q.off ht (fun i hi => by rw [bit_only hi]; exact ⟨fun e => hma e.symm, h2a⟩)
  have off1m : ∀ t ∈ t1, ¬ Flow.enabled t (2 ^ m) = true := fun t ht => P.off ht (fun i hi => by rw [bit_only hi]; exact ⟨hma, P.nB⟩)
  have off2i : ∀ t ∈ t2, ∀ x, In1 x → ¬ Flow.enabled t x = true := fun t ht x hx => Q.off ht (fun i hi => ⟨fun e => P.nB (e ▸ (P.inn x hx).2.1 i hi), hd i ((P.inn x hx).2.1 i hi)⟩)
  have off1i : ∀ t ∈ t1, ∀ x, In2 x → ¬ Flow.enabled t x = true := fun t ht x hx => P.off ht (fun i hi => ⟨fun e => h2a (e ▸ (Q.inn x hx).2.1 i hi), fun e => hd i e ((Q.inn x hx).2.1 i hi)⟩)
  have inL : ∀ x, In1 x → In1 x ∨ x = 2 ^ m ∨ In2 x := fun x h => .inl h
  have inR : ∀ x, In2 x → In1 x ∨ x = 2 ^ m ∨ In2 x := fun x h => .inr (.inr h)
  have mL : ∀ t ∈ t1, t ∈ t1 ++ t2 := fun t h => List.mem_append_left _ h
  have mR : ∀ t ∈ t2, t ∈ t1 ++ t2 := fun t h => List.mem_append_right _ h
  have noB : ¬ (In1 (2 ^ b) ∨ 2 ^ b = 2 ^ m ∨ In2 (2 ^ b)) := by
    rintro (h | h | h)
    · exact P.notB h1b h
    · exact hmb (pow_inj h).symm
    · exact Q.notB Q.nB h
  have tail2 : ∀ r x, (x = 2 ^ b ∨ In2 x) → Tail (t1 ++ t2) (fun x => In1 x ∨ x = 2 ^ m ∨ In2 x) x r (2 ^ b) → Tail t2 In2 x r (2 ^ b) := by
    intro r
    induction r with
    | nil => intro x _ h; exact h
    | cons t r ih =>
      rintro x hx ⟨h1, h2, x', h3, h4⟩
      rcases hx with hx | hx
      · rw [hx] at h2; exact absurd h2 noB
      · rcases List.mem_append.1 h1 with h1 | h1
        · exact absurd h3.en (off1i t h1 x hx)
        · exact ⟨h1, hx, x', h3, ih x' (Q.step h1 hx h3) h4⟩
  have split : ∀ r x, (x = 2 ^ m ∨ In1 x) → Tail (t1 ++ t2) (fun x => In1 x ∨ x = 2 ^ m ∨ In2 x) x r (2 ^ b) → ∃ r1 t' x' r2, r = r1 ++ t' :: r2 ∧ Tail t1 In1 x r1 (2 ^ m) ∧ t' ∈ t2 ∧ Fires t' (2 ^ m) x' ∧ Tail t2 In2 x' r2 (2 ^ b) := by
    intro r
    induction r with
    | nil =>
      intro x hx h
      have h' : x = 2 ^ b := h
      rcases hx with hx | hx
      · rw [hx] at h'; exact absurd (pow_inj h') hmb
      · rw [h'] at hx; exact absurd hx (P.notB h1b)
    | cons t r ih =>
      rintro x hx ⟨h1, h2, x', h3, h4⟩
      rcases hx with hx | hx
      · subst hx
        rcases List.mem_append.1 h1 with h1 | h1
        · exact absurd h3.en (off1m t h1)
        · exact ⟨[], t, x', r, rfl, rfl, h1, h3, tail2 r x' (Q.start h1 h3) h4⟩
      · rcases List.mem_append.1 h1 with h1 | h1
        · obtain ⟨r1, t', y, r2, e, g1, g2, g3, g4⟩ := ih x' (P.step h1 hx h3) h4
          exact ⟨t :: r1, t', y, r2, by rw [e]; rfl, ⟨h1, hx, x', h3, g1⟩, g2, g3, g4⟩
        · exact absurd h3.en (off2i t h1 x hx)
  refine ⟨P.ha, Q.hb, ?_, ?_, ?_, ?_, ?_, ?_, ?_, ?_, ?_, ?_, ?_, ?_, ?_⟩
  · rintro (h | h | h)
    · exact P.nA h
    · exact hma h.symm
    · exact h2a h
  · rintro (h | h | h)
    · exact h1b h
    · exact hmb h.symm
    · exact Q.nB h
  · intro t ht
    rcases List.mem_append.1 ht with ht | ht
    · exact P.small t ht
    · exact Q.small t ht
  · intro t ht i hi
    rcases List.mem_append.1 ht with ht | ht
    · rcases P.takes t ht i hi with h | h
      · exact .inl h
      · exact .inr (.inl h)
    · rcases Q.takes t ht i hi with h | h
      · exact .inr (.inr (.inl h))
      · exact .inr (.inr (.inr h))
  · intro t ht
    rcases List.mem_append.1 ht with ht | ht
    · exact P.any t ht
    · exact Q.any t ht
  · intro t ht i hi
    rcases List.mem_append.1 ht with ht | ht
    · rcases P.puts t ht i hi with h | h
      · exact .inr (.inr (.inl h))
      · exact .inr (.inl h)
    · rcases Q.puts t ht i hi with h | h
      · exact .inl h
      · exact .inr (.inr (.inr h))
  · rintro x (h | h | h)
    · obtain ⟨g1, g2, g3⟩ := P.inn x h
      exact ⟨g1, fun i hi => .inl (g2 i hi), g3⟩
    · rw [h]; exact ⟨pow_lt16 P.hb, fun i hi => .inr (.inl (bit_only hi)), m, bit_self m⟩
    · obtain ⟨g1, g2, g3⟩ := Q.inn x h
      exact ⟨g1, fun i hi => .inr (.inr (g2 i hi)), g3⟩
  · intro t ht he
    rcases List.mem_append.1 ht with ht | ht
    · obtain ⟨x, h1, h2⟩ := P.first t ht he
      rcases h2 with h2 | h2
      · exact ⟨x, h1, .inr (.inr (.inl h2))⟩
      · exact ⟨x, h1, .inr (.inl h2)⟩
    · exact absurd he (off2a t ht)
  · rintro t ht x (hx | hx | hx) he
    · rcases List.mem_append.1 ht with ht | ht
      · obtain ⟨x', h1, h2⟩ := P.next t ht x hx he
        rcases h2 with h2 | h2
        · exact ⟨x', h1, .inr (.inr (.inl h2))⟩
        · exact ⟨x', h1, .inr (.inl h2)⟩
      · exact absurd he (off2i t ht x hx)
    · subst hx
      rcases List.mem_append.1 ht with ht | ht
      · exact absurd he (off1m t ht)
      · obtain ⟨x', h1, h2⟩ := Q.first t ht he
        rcases h2 with h2 | h2
        · exact ⟨x', h1, .inl h2⟩
        · exact ⟨x', h1, .inr (.inr (.inr h2))⟩
    · rcases List.mem_append.1 ht with ht | ht
      · exact absurd he (off1i t ht x hx)
      · obtain ⟨x', h1, h2⟩ := Q.next t ht x hx he
        rcases h2 with h2 | h2
        · exact ⟨x', h1, .inl h2⟩
        · exact ⟨x', h1, .inr (.inr (.inr h2))⟩
  · intro w
    constructor
    · rintro ⟨t, x, r, ht, hf, htl, hw⟩
      rcases List.mem_append.1 ht with ht | ht
      · obtain ⟨r1, t', y, r2, e, g1, g2, g3, g4⟩ := split r x (P.start ht hf) htl
        refine ⟨wordT (t :: r1), wordT (t' :: r2), ?_, (P.words _).1 ⟨t, x, r1, ht, hf, g1, rfl⟩, (Q.words _).1 ⟨t', y, r2, g2, g3, g4, rfl⟩⟩
        rw [← hw, e, ← wordT_append]; rfl
      · exact absurd hf.en (off2a t ht)
    · rintro ⟨u, v, rfl, hu, hv⟩
      obtain ⟨t, x, r1, ht, hf, g1, rfl⟩ := (P.words u).2 hu
      obtain ⟨t', y, r2, g2, g3, g4, rfl⟩ := (Q.words v).2 hv
      refine ⟨t, x, r1 ++ t' :: r2, mL t ht, hf, tail_append (tail_mono mL inL g1) ⟨mR t' g2, .inr (.inl rfl), y, g3, tail_mono mR inR g4⟩, ?_⟩
      rw [← wordT_append]; rfl
  · obtain ⟨u, hu⟩ := P.some
    obtain ⟨v, hv⟩ := Q.some
    exact ⟨u ++ v, u, v, rfl, hu, hv⟩
  · have fromM : ∃ r, Tail (t1 ++ t2) (fun x => In1 x ∨ x = 2 ^ m ∨ In2 x) (2 ^ m) r (2 ^ b) := by
      obtain ⟨v, hv⟩ := Q.some
      obtain ⟨t', y, r2, g2, g3, g4, rfl⟩ := (Q.words v).2 hv
      exact ⟨t' :: r2, mR t' g2, .inr (.inl rfl), y, g3, tail_mono mR inR g4⟩
    rintro x (hx | hx | hx)
    · obtain ⟨r, hr⟩ := P.ends x hx
      obtain ⟨r', hr'⟩ := fromM
      exact ⟨r ++ r', tail_append (tail_mono mL inL hr) hr'⟩
    · rw [hx]; exact fromM
    · obtain ⟨r, hr⟩ := Q.ends x hx
      exact ⟨r, tail_mono mR inR hr⟩
  · obtain ⟨u, hu⟩ := P.some
    obtain ⟨tu, xu, ru, hu1, hu2, hu3, _⟩ := (P.words u).2 hu
    intro t ht
    rcases List.mem_append.1 ht with ht | ht
    · rcases P.live t ht with h | ⟨x, h1, h2, t0, x0, r, h3, h4, h5⟩
      · exact .inl h
      · exact .inr ⟨x, .inl h1, h2, t0, x0, r, mL t0 h3, h4, tail_mono mL inL h5⟩
    · rcases Q.live t ht with h | ⟨x, h1, h2, t0, x0, r, h3, h4, h5⟩
      · exact .inr ⟨2 ^ m, .inr (.inl rfl), h, tu, xu, ru, mL tu hu1, hu2, tail_mono mL inL hu3⟩
      · exact .inr ⟨x, .inr (.inr h1), h2, tu, xu, ru ++ t0 :: r, mL tu hu1, hu2, tail_append (tail_mono mL inL hu3) ⟨mR t0 h3, .inr (.inl rfl), x0, h4, tail_mono mR inR h5⟩⟩

theorem piece_alt {t1 t2 : List Flow.Tr} {a b : Nat} {I1 I2 In1 In2 : Nat → Prop} {L1 L2 : List Nat → Prop} (P : Piece t1 a b I1 In1 L1) (Q : Piece t2 a b I2 In2 L2) (hd : ∀ i, I1 i → ¬ I2 i) :
    Piece (t1 ++ t2) a b (fun i => I1 i ∨ I2 i) (fun x => In1 x ∨ In2 x) (fun w => L1 w ∨ L2 w) := by
  have off2i : ∀ t ∈ t2, ∀ x, In1 x → ¬ Flow.enabled t x = true := fun t ht x hx => Q.off ht (fun i hi => ⟨fun e => P.nA (e ▸ (P.inn x hx).2.1 i hi), hd i ((P.inn x hx).2.1 i hi)⟩)
  have off1i : ∀ t ∈ t1, ∀ x, In2 x → ¬ Flow.enabled t x = true := fun t ht x hx => P.off ht (fun i hi => ⟨fun e => Q.nA (e ▸ (Q.inn x hx).2.1 i hi), fun e => hd i e ((Q.inn x hx).2.1 i hi)⟩)
  have mL : ∀ t ∈ t1, t ∈ t1 ++ t2 := fun t h => List.mem_append_left _ h
  have mR : ∀ t ∈ t2, t ∈ t1 ++ t2 := fun t h => List.mem_append_right _ h
  have noB : ¬ (In1 (2 ^ b) ∨ In2 (2 ^ b)) := by
    rintro (h | h)
    · exact P.notB P.nB h
    · exact Q.notB Q.nB h
  have tail1 : ∀ r x, (x = 2 ^ b ∨ In1 x) → Tail (t1 ++ t2) (fun x => In1 x ∨ In2 x) x r (2 ^ b) → Tail t1 In1 x r (2 ^ b) := by
    intro r
    induction r with
    | nil => intro x _ h; exact h
    | cons t r ih =>
      rintro x hx ⟨h1, h2, x', h3, h4⟩
      rcases hx with hx | hx
      · rw [hx] at h2; exact absurd h2 noB
      · rcases List.mem_append.1 h1 with h1 | h1
        · exact ⟨h1, hx, x', h3, ih x' (P.step h1 hx h3) h4⟩
        · exact absurd h3.en (off2i t h1 x hx)
  have tail2 : ∀ r x, (x = 2 ^ b ∨ In2 x) → Tail (t1 ++ t2) (fun x => In1 x ∨ In2 x) x r (2 ^ b) → Tail t2 In2 x r (2 ^ b) := by
    intro r
    induction r with
    | nil => intro x _ h; exact h
    | cons t r ih =>
      rintro x hx ⟨h1, h2, x', h3, h4⟩
      rcases hx with hx | hx
      · rw [hx] at h2; exact absurd h2 noB
      · rcases List.mem_append.1 h1 with h1 | h1
        · exact absurd h3.en (off1i t h1 x hx)
        · exact ⟨h1, hx, x', h3, ih x' (Q.step h1 hx h3) h4⟩
  refine ⟨P.ha, P.hb, ?_, ?_, ?_, ?_, ?_, ?_, ?_, ?_, ?_, ?_, ?_, ?_, ?_⟩
  · rintro (h | h)
    · exact P.nA h
    · exact Q.nA h
  · rintro (h | h)
    · exact P.nB h
    · exact Q.nB h
  · intro t ht
    rcases List.mem_append.1 ht with ht | ht
    · exact P.small t ht
    · exact Q.small t ht
  · intro t ht i hi
    rcases List.mem_append.1 ht with ht | ht
    · exact (P.takes t ht i hi).imp id .inl
    · exact (Q.takes t ht i hi).imp id .inr
  · intro t ht
    rcases List.mem_append.1 ht with ht | ht
    · exact P.any t ht
    · exact Q.any t ht
  · intro t ht i hi
    rcases List.mem_append.1 ht with ht | ht
    · exact (P.puts t ht i hi).imp id .inl
    · exact (Q.puts t ht i hi).imp id .inr
  · rintro x (h | h)
    · obtain ⟨g1, g2, g3⟩ := P.inn x h
      exact ⟨g1, fun i hi => .inl (g2 i hi), g3⟩
    · obtain ⟨g1, g2, g3⟩ := Q.inn x h
      exact ⟨g1, fun i hi => .inr (g2 i hi), g3⟩
  · intro t ht he
    rcases List.mem_append.1 ht with ht | ht
    · obtain ⟨x, h1, h2⟩ := P.first t ht he
      exact ⟨x, h1, h2.imp id .inl⟩
    · obtain ⟨x, h1, h2⟩ := Q.first t ht he
      exact ⟨x, h1, h2.imp id .inr⟩
  · rintro t ht x (hx | hx) he
    · rcases List.mem_append.1 ht with ht | ht
      · obtain ⟨x', h1, h2⟩ := P.next t ht x hx he
        exact ⟨x', h1, h2.imp id .inl⟩
      · exact absurd he (off2i t ht x hx)
    · rcases List.mem_append.1 ht with ht | ht
      · exact absurd he (off1i t ht x hx)
      · obtain ⟨x', h1, h2⟩ := Q.next t ht x hx he
        exact ⟨x', h1, h2.imp id .inr⟩
  · intro w
    constructor
    · rintro ⟨t, x, r, ht, hf, htl, hw⟩
      rcases List.mem_append.1 ht with ht | ht
      · exact .inl ((P.words w).1 ⟨t, x, r, ht, hf, tail1 r x (P.start ht hf) htl, hw⟩)
      · exact .inr ((Q.words w).1 ⟨t, x, r, ht, hf, tail2 r x (Q.start ht hf) htl, hw⟩)
    · rintro (h | h)
      · obtain ⟨t, x, r, ht, hf, g, hw⟩ := (P.words w).2 h
        exact ⟨t, x, r, mL t ht, hf, tail_mono mL (fun x h => .inl h) g, hw⟩
      · obtain ⟨t, x, r, ht, hf, g, hw⟩ := (Q.words w).2 h
        exact ⟨t, x, r, mR t ht, hf, tail_mono mR (fun x h => .inr h) g, hw⟩
  · obtain ⟨u, hu⟩ := P.some
    exact ⟨u, .inl hu⟩
  · rintro x (hx | hx)
    · obtain ⟨r, hr⟩ := P.ends x hx
      exact ⟨r, tail_mono mL (fun x h => .inl h) hr⟩
    · obtain ⟨r, hr⟩ := Q.ends x hx
      exact ⟨r, tail_mono mR (fun x h => .inr h) hr⟩
  · intro t ht
    rcases List.mem_append.1 ht with ht | ht
    · rcases P.live t ht with h | ⟨x, h1, h2, t0, x0, r, h3, h4, h5⟩
      · exact .inl h
      · exact .inr ⟨x, .inl h1, h2, t0, x0, r, mL t0 h3, h4, tail_mono mL (fun x h => .inl h) h5⟩
    · rcases Q.live t ht with h | ⟨x, h1, h2, t0, x0, r, h3, h4, h5⟩
      · exact .inl h
      · exact .inr ⟨x, .inr h1, h2, t0, x0, r, mR t0 h3, h4, tail_mono mR (fun x h => .inr h) h5⟩

theorem piece_star {tb : List Flow.Tr} {a m b : Nat} {Ib Inb : Nat → Prop} {Lb : List Nat → Prop} (B : Piece tb m m Ib Inb Lb) (ha : a < 16) (hb : b < 16) (hma : m ≠ a) (hmb : m ≠ b) (hba : ¬ Ib a) (hbb : ¬ Ib b) :
    Piece (⟨45, 2 ^ a, 2 ^ m⟩ :: ⟨45, 2 ^ m, 2 ^ b⟩ :: tb) a b (fun i => i = m ∨ Ib i) (fun x => x = 2 ^ m ∨ Inb x) (Flow.Star Lb) := by
  have hm := B.ha
  have fE : Fires ⟨45, 2 ^ a, 2 ^ m⟩ (2 ^ a) (2 ^ m) := fires_one ha hm (by omega)
  have fX : Fires ⟨45, 2 ^ m, 2 ^ b⟩ (2 ^ m) (2 ^ b) := fires_one hm hb (by omega)
  have cases3 : ∀ t, t ∈ ((⟨45, 2 ^ a, 2 ^ m⟩ : Flow.Tr) :: ⟨45, 2 ^ m, 2 ^ b⟩ :: tb) → t = ⟨45, 2 ^ a, 2 ^ m⟩ ∨ t = ⟨45, 2 ^ m, 2 ^ b⟩ ∨ t ∈ tb := by
    intro t ht
    rcases List.mem_cons.1 ht with h | h
    · exact .inl h
    · exact .inr (List.mem_cons.1 h)
  have mE : (⟨45, 2 ^ a, 2 ^ m⟩ : Flow.Tr) ∈ ((⟨45, 2 ^ a, 2 ^ m⟩ : Flow.Tr) :: ⟨45, 2 ^ m, 2 ^ b⟩ :: tb) := by simp
  have mX : (⟨45, 2 ^ m, 2 ^ b⟩ : Flow.Tr) ∈ ((⟨45, 2 ^ a, 2 ^ m⟩ : Flow.Tr) :: ⟨45, 2 ^ m, 2 ^ b⟩ :: tb) := by simp
  have mB : ∀ t ∈ tb, t ∈ ((⟨45, 2 ^ a, 2 ^ m⟩ : Flow.Tr) :: ⟨45, 2 ^ m, 2 ^ b⟩ :: tb) := fun t h => by simp [h]
  have offBa : ∀ t ∈ tb, ¬ Flow.enabled t (2 ^ a) = true := fun t ht => B.off ht (fun i hi => by rw [bit_only hi]; exact ⟨fun e => hma e.symm, hba⟩)
  have offE : ∀ x, (x = 2 ^ m ∨ Inb x) → ¬ Flow.enabled ⟨45, 2 ^ a, 2 ^ m⟩ x = true := by
    intro x hx he
    have := en_iff.1 he a (bit_self a)
    rcases hx with hx | hx
    · rw [hx] at this; exact hma (bit_only this).symm
    · exact hba ((B.inn x hx).2.1 a this)
  have offXa : ¬ Flow.enabled ⟨45, 2 ^ m, 2 ^ b⟩ (2 ^ a) = true := fun he => hma (bit_only (en_iff.1 he m (bit_self m)))
  have offXi : ∀ x, Inb x → ¬ Flow.enabled ⟨45, 2 ^ m, 2 ^ b⟩ x = true := fun x hx he => B.nA ((B.inn x hx).2.1 m (en_iff.1 he m (bit_self m)))
  have noB : ¬ (2 ^ b = 2 ^ m ∨ Inb (2 ^ b)) := by
    rintro (h | h)
    · exact hmb (pow_inj h).symm
    · exact B.notB hbb h
  have inB : ∀ x, Inb x → x = 2 ^ m ∨ Inb x := fun x h => .inr h
  have cut : ∀ r x, Inb x → Tail (⟨45, 2 ^ a, 2 ^ m⟩ :: ⟨45, 2 ^ m, 2 ^ b⟩ :: tb) (fun x => x = 2 ^ m ∨ Inb x) x r (2 ^ b) → ∃ r1 r2, r = r1 ++ r2 ∧ Tail tb Inb x r1 (2 ^ m) ∧ Tail (⟨45, 2 ^ a, 2 ^ m⟩ :: ⟨45, 2 ^ m, 2 ^ b⟩ :: tb) (fun x => x = 2 ^ m ∨ Inb x) (2 ^ m) r2 (2 ^ b) := by
    intro r
    induction r with
    | nil =>
      intro x hx h
      have h' : x = 2 ^ b := h
      rw [h'] at hx; exact absurd hx (B.notB hbb)
    | cons t r ih =>
      rintro x hx ⟨h1, h2, x', h3, h4⟩
      rcases cases3 t h1 with h1 | h1 | h1
      · subst h1; exact absurd h3.en (offE x (.inr hx))
      · subst h1; exact absurd h3.en (offXi x hx)
      · rcases B.step h1 hx h3 with g | g
        · subst g; exact ⟨[t], r, rfl, ⟨h1, hx, _, h3, rfl⟩, h4⟩
        · obtain ⟨r1, r2, e, g1, g2⟩ := ih x' g h4
          exact ⟨t :: r1, r2, by rw [e]; rfl, ⟨h1, hx, x', h3, g1⟩, g2⟩
  have loops : ∀ n r, r.length ≤ n → Tail (⟨45, 2 ^ a, 2 ^ m⟩ :: ⟨45, 2 ^ m, 2 ^ b⟩ :: tb) (fun x => x = 2 ^ m ∨ Inb x) (2 ^ m) r (2 ^ b) → Flow.Star Lb (wordT r) := by
    intro n
    induction n with
    | zero =>
      intro r hr h
      have : r = [] := List.eq_nil_of_length_eq_zero (by omega)
      subst this
      exact absurd (pow_inj h) hmb
    | succ n ih =>
      intro r hr h
      cases r with
      | nil => exact absurd (pow_inj h) hmb
      | cons t r =>
        obtain ⟨h1, h2, x', h3, h4⟩ := h
        rcases cases3 t h1 with h1 | h1 | h1
        · subst h1; exact absurd h3.en (offE _ (.inl rfl))
        · subst h1
          have hx := h3.eq fX
          subst hx
          cases r with
          | nil => rw [wordT_quiet rfl]; exact Flow.star_iff.2 (.inl rfl)
          | cons t' r => exact absurd h4.2.1 noB
        · rcases B.start h1 h3 with g | g
          · subst g
            obtain ⟨ws, e, hall⟩ := ih r (by simp at hr; omega) h4
            refine ⟨wordT [t] :: ws, by rw [List.flatten_cons, ← e, ← wordT_append]; rfl, ?_⟩
            intro u hu
            rcases List.mem_cons.1 hu with rfl | hu
            · exact (B.words _).1 ⟨t, _, [], h1, h3, rfl, rfl⟩
            · exact hall u hu
          · obtain ⟨r1, r2, e, g1, g2⟩ := cut r x' g h4
            obtain ⟨ws, e2, hall⟩ := ih r2 (by rw [e] at hr; simp at hr; omega) g2
            refine ⟨wordT (t :: r1) :: ws, by rw [List.flatten_cons, ← e2, ← wordT_append, e]; rfl, ?_⟩
            intro u hu
            rcases List.mem_cons.1 hu with rfl | hu
            · exact (B.words _).1 ⟨t, x', r1, h1, h3, g1, rfl⟩
            · exact hall u hu
  have back : ∀ ws : List (List Nat), (∀ u ∈ ws, Lb u) → ∃ r, Tail (⟨45, 2 ^ a, 2 ^ m⟩ :: ⟨45, 2 ^ m, 2 ^ b⟩ :: tb) (fun x => x = 2 ^ m ∨ Inb x) (2 ^ m) r (2 ^ b) ∧ wordT r = ws.flatten := by
    intro ws
    induction ws with
    | nil => intro _; exact ⟨[⟨45, 2 ^ m, 2 ^ b⟩], ⟨mX, .inl rfl, _, fX, rfl⟩, wordT_quiet rfl []⟩
    | cons u ws ih =>
      intro hall
      obtain ⟨r, h1, h2⟩ := ih (fun x hx => hall x (by simp [hx]))
      obtain ⟨t, x, r1, g1, g2, g3, g4⟩ := (B.words u).2 (hall u (by simp))
      refine ⟨(t :: r1) ++ r, tail_append ⟨mB t g1, .inl rfl, x, g2, tail_mono mB inB g3⟩ h1, ?_⟩
      rw [wordT_append, g4, h2, List.flatten_cons]
  refine ⟨ha, hb, ?_, ?_, ?_, ?_, ?_, ?_, ?_, ?_, ?_, ?_, ⟨[], Flow.star_iff.2 (.inl rfl)⟩, ?_, ?_⟩
  · rintro (h | h)
    · exact hma h.symm
    · exact hba h
  · rintro (h | h)
    · exact hmb h.symm
    · exact hbb h
  · intro t ht
    rcases cases3 t ht with h | h | h
    · rw [h]; exact small_one ha hm (by omega)
    · rw [h]; exact small_one hm hb (by omega)
    · exact B.small t h
  · intro t ht i hi
    rcases cases3 t ht with h | h | h
    · rw [h] at hi; exact .inl (bit_only hi)
    · rw [h] at hi; exact .inr (.inl (bit_only hi))
    · exact .inr (B.takes t h i hi)
  · intro t ht
    rcases cases3 t ht with h | h | h
    · rw [h]; exact ⟨a, bit_self a⟩
    · rw [h]; exact ⟨m, bit_self m⟩
    · exact B.any t h
  · intro t ht i hi
    rcases cases3 t ht with h | h | h
    · rw [h] at hi; exact .inr (.inl (bit_only hi))
    · rw [h] at hi; exact .inl (bit_only hi)
    · exact .inr (B.puts t h i hi)
  · rintro x (h | h)
    · rw [h]; exact ⟨pow_lt16 hm, fun i hi => .inl (bit_only hi), m, bit_self m⟩
    · obtain ⟨g1, g2, g3⟩ := B.inn x h
      exact ⟨g1, fun i hi => .inr (g2 i hi), g3⟩
  · intro t ht he
    rcases cases3 t ht with h | h | h
    · rw [h]; exact ⟨_, fE, .inr (.inl rfl)⟩
    · rw [h] at he; exact absurd he offXa
    · exact absurd he (offBa t h)
  · rintro t ht x (hx | hx) he
    · subst hx
      rcases cases3 t ht with h | h | h
      · rw [h] at he; exact absurd he (offE _ (.inl rfl))
      · rw [h]; exact ⟨_, fX, .inl rfl⟩
      · obtain ⟨x', h1, h2⟩ := B.first t h he
        exact ⟨x', h1, .inr h2⟩
    · rcases cases3 t ht with h | h | h
      · rw [h] at he; exact absurd he (offE _ (.inr hx))
      · rw [h] at he; exact absurd he (offXi x hx)
      · obtain ⟨x', h1, h2⟩ := B.next t h x hx he
        exact ⟨x', h1, .inr h2⟩
  · intro w
    constructor
    · rintro ⟨t, x, r, ht, hf, htl, hw⟩
      rcases cases3 t ht with h | h | h
      · subst h
        have hx := hf.eq fE
        subst hx
        rw [wordT_quiet rfl] at hw
        rw [← hw]
        exact loops r.length r (Nat.le_refl _) htl
      · subst h; exact absurd hf.en offXa
      · exact absurd hf.en (offBa t h)
    · rintro ⟨ws, rfl, hall⟩
      obtain ⟨r, h1, h2⟩ := back ws hall
      exact ⟨_, _, r, mE, fE, h1, by rw [wordT_quiet rfl]; exact h2⟩
  · rintro x (hx | hx)
    · rw [hx]; exact ⟨[⟨45, 2 ^ m, 2 ^ b⟩], mX, .inl rfl, _, fX, rfl⟩
    · obtain ⟨r, hr⟩ := B.ends x hx
      exact ⟨r ++ [⟨45, 2 ^ m, 2 ^ b⟩], tail_append (tail_mono mB inB hr) ⟨mX, .inl rfl, _, fX, rfl⟩⟩
  · intro t ht
    rcases cases3 t ht with h | h | h
    · rw [h]; exact .inl fE.en
    · rw [h]; exact .inr ⟨2 ^ m, .inl rfl, fX.en, _, _, [], mE, fE, rfl⟩
    · rcases B.live t h with g | ⟨x, h1, h2, t0, x0, r, h3, h4, h5⟩
      · exact .inr ⟨2 ^ m, .inl rfl, g, _, _, [], mE, fE, rfl⟩
      · exact .inr ⟨x, .inr h1, h2, _, _, t0 :: r, mE, fE, mB t0 h3, .inl rfl, x0, h4, tail_mono mB inB h5⟩
end Go.Proofs.Ytdlldljgogbiaab
