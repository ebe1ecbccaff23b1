/-
  Two pieces of a net side by side: plain.
-/
import Derived.Test.YtdlldljgogbiaabPiece
namespace Go.Proofs.Ytdlldljgogbiaab
open Go.RowKit
set_option linter.unusedVariables false

theorem mix_append (u v : List Nat) : Flow.Mix (u ++ v) u v := by
  induction u with
  | nil =>
    show Flow.Mix v [] v
    induction v with
    | nil => exact ⟨rfl, rfl⟩
    | cons c v ih => exact .inr ⟨v, rfl, ih⟩
  | cons c u ih => exact .inl ⟨u, rfl, ih⟩
theorem mix_nil {u v : List Nat} (h : Flow.Mix [] u v) : u = [] ∧ v = [] := h

/-- a marking of a piece that is not at its end -/
def Going (In : Nat → Prop) (p : Nat) (x : Nat) : Prop := x = 2 ^ p ∨ In x
theorem going_tail {ts : List Flow.Tr} {p q : Nat} {I In : Nat → Prop} {Lg : List Nat → Prop} (P : Piece ts p q I In Lg) (hpq : p ≠ q) : ∀ {r : List Flow.Tr} {x : Nat}, (x = 2 ^ q ∨ In x) → Tail ts (Going In p) x r (2 ^ q) → Tail ts In x r (2 ^ q) := by
  intro r
  induction r with
  | nil => intro x _ h; exact h
  | cons t r ih =>
    rintro x hx ⟨h1, h2, x', h3, h4⟩
    have hin : In x := by
      rcases hx with hx | hx
      · rcases h2 with h2 | h2
        · rw [hx] at h2; exact absurd (pow_inj h2).symm hpq
        · exact h2
      · exact hx
    exact ⟨h1, hin, x', h3, ih (P.step h1 hin h3) h4⟩
theorem going_words {ts : List Flow.Tr} {p q : Nat} {I In : Nat → Prop} {Lg : List Nat → Prop} (P : Piece ts p q I In Lg) (hpq : p ≠ q) (u : List Nat) : (∃ r, Tail ts (Going In p) (2 ^ p) r (2 ^ q) ∧ wordT r = u) ↔ Lg u := by
  rw [← P.words u]
  constructor
  · rintro ⟨r, h, hw⟩
    cases r with
    | nil => exact absurd (pow_inj h) hpq
    | cons t r =>
      obtain ⟨h1, h2, x', h3, h4⟩ := h
      exact ⟨t, x', r, h1, h3, going_tail P hpq (P.start h1 h3) h4, hw⟩
  · rintro ⟨t, x, r, h1, h2, h3, h4⟩
    exact ⟨t :: r, ⟨h1, .inl rfl, x, h2, tail_mono (fun _ h => h) (fun _ h => .inr h) h3⟩, h4⟩
/-- a marking of a piece, its end too -/
def Stage (In : Nat → Prop) (p q : Nat) (x : Nat) : Prop := Going In p x ∨ x = 2 ^ q
theorem Stage.bits {ts : List Flow.Tr} {p q : Nat} {I In : Nat → Prop} {Lg : List Nat → Prop} (P : Piece ts p q I In Lg) {x : Nat} (h : Stage In p q x) : x < 65536 ∧ (∀ i, x.testBit i = true → i = p ∨ i = q ∨ I i) ∧ ∃ i, x.testBit i = true := by
  rcases h with (h | h) | h
  · rw [h]; exact ⟨pow_lt16 P.ha, fun i hi => .inl (bit_only hi), p, bit_self p⟩
  · obtain ⟨g1, g2, g3⟩ := P.inn x h
    exact ⟨g1, fun i hi => .inr (.inr (g2 i hi)), g3⟩
  · rw [h]; exact ⟨pow_lt16 P.hb, fun i hi => .inr (.inl (bit_only hi)), q, bit_self q⟩
theorem Stage.step {ts : List Flow.Tr} {p q : Nat} {I In : Nat → Prop} {Lg : List Nat → Prop} (P : Piece ts p q I In Lg) (hpq : p ≠ q) {t : Flow.Tr} (ht : t ∈ ts) {x x' : Nat} (h : Stage In p q x) (hf : Fires t x x') : Going In p x ∧ (x' = 2 ^ q ∨ In x') := by
  rcases h with (h | h) | h
  · subst h; exact ⟨.inl rfl, P.start ht hf⟩
  · exact ⟨.inr h, P.step ht h hf⟩
  · subst h
    exact absurd hf.en (P.off ht (fun i hi => by rw [bit_only hi]; exact ⟨fun e => hpq e.symm, P.nB⟩))
theorem stage_of {In : Nat → Prop} {p q x : Nat} (h : x = 2 ^ q ∨ In x) : Stage In p q x := by
  rcases h with h | h
  · exact .inr h
  · exact .inl (.inr h)
theorem Stage.ends {ts : List Flow.Tr} {p q : Nat} {I In : Nat → Prop} {Lg : List Nat → Prop} (P : Piece ts p q I In Lg) (hpq : p ≠ q) {x : Nat} (h : Stage In p q x) : ∃ r, Tail ts (Going In p) x r (2 ^ q) := by
  rcases h with (h | h) | h
  · subst h
    obtain ⟨u, hu⟩ := P.some
    obtain ⟨r, hr, _⟩ := (going_words P hpq u).2 hu
    exact ⟨r, hr⟩
  · obtain ⟨r, hr⟩ := P.ends x h
    exact ⟨r, tail_mono (fun _ h => h) (fun _ h => .inr h) hr⟩
  · exact ⟨[], h⟩

theorem piece_par {t1 t2 : List Flow.Tr} {a b p p' q q' : Nat} {I1 I2 In1 In2 : Nat → Prop} {L1 L2 : List Nat → Prop} (P : Piece t1 p p' I1 In1 L1) (Q : Piece t2 q q' I2 In2 L2) (ha : a < 16) (hb : b < 16)
    (hp : p ≠ p') (hq : q ≠ q') (h1 : p ≠ q) (h2 : p ≠ q') (h3 : p' ≠ q) (h4 : p' ≠ q') (a1 : p ≠ a) (a2 : p' ≠ a) (a3 : q ≠ a) (a4 : q' ≠ a) (b1 : p ≠ b) (b2 : p' ≠ b) (b3 : q ≠ b) (b4 : q' ≠ b)
    (d1 : ∀ i, I1 i → ¬ I2 i ∧ i ≠ a ∧ i ≠ b ∧ i ≠ q ∧ i ≠ q') (d2 : ∀ i, I2 i → i ≠ a ∧ i ≠ b ∧ i ≠ p ∧ i ≠ p') :
    Piece (⟨45, 2 ^ a, 2 ^ p ||| 2 ^ q⟩ :: ⟨45, 2 ^ p' ||| 2 ^ q', 2 ^ b⟩ :: (t1 ++ t2)) a b (fun i => i = p ∨ i = p' ∨ i = q ∨ i = q' ∨ I1 i ∨ I2 i)
      (fun x => ∃ x1 x2, Stage In1 p p' x1 ∧ Stage In2 q q' x2 ∧ x = x1 ||| x2) (fun w => ∃ u v, Flow.Mix w u v ∧ L1 u ∧ L2 v) := by
  have lp := pow_lt16 P.ha
  have lp' := pow_lt16 P.hb
  have lq := pow_lt16 Q.ha
  have lq' := pow_lt16 Q.hb
  have la := pow_lt16 ha
  have lb := pow_lt16 hb
  have lpq : 2 ^ p ||| 2 ^ q < 65536 := Nat.or_lt_two_pow (n := 16) lp lq
  have lpq' : 2 ^ p' ||| 2 ^ q' < 65536 := Nat.or_lt_two_pow (n := 16) lp' lq'
  have orb : ∀ x y i, (2 ^ x ||| 2 ^ y).testBit i = true → i = x ∨ i = y := by
    intro x y i h
    rw [Nat.testBit_or, Bool.or_eq_true] at h
    exact h.imp bit_only bit_only
  have orl : ∀ x y, (2 ^ x ||| 2 ^ y).testBit x = true := fun x y => by rw [Nat.testBit_or, bit_self]; rfl
  have orr : ∀ x y, (2 ^ x ||| 2 ^ y).testBit y = true := fun x y => by rw [Nat.testBit_or, bit_self, Bool.or_true]
  obtain ⟨S, hS⟩ : ∃ S : Flow.Tr, S = ⟨45, 2 ^ a, 2 ^ p ||| 2 ^ q⟩ := ⟨_, rfl⟩
  obtain ⟨J, hJ⟩ : ∃ J : Flow.Tr, J = ⟨45, 2 ^ p' ||| 2 ^ q', 2 ^ b⟩ := ⟨_, rfl⟩
  have sS : Flow.Small S := by rw [hS]; exact ⟨by show (45 : Nat) < 256; omega, la, lpq⟩
  have sJ : Flow.Small J := by rw [hJ]; exact ⟨by show (45 : Nat) < 256; omega, lpq', lb⟩
  have Si : S.inn = 2 ^ a := by rw [hS]
  have So : S.out = 2 ^ p ||| 2 ^ q := by rw [hS]
  have Sl : S.label = 45 := by rw [hS]
  have Ji : J.inn = 2 ^ p' ||| 2 ^ q' := by rw [hJ]
  have Jo : J.out = 2 ^ b := by rw [hJ]
  have Jl : J.label = 45 := by rw [hJ]
  rw [← hS, ← hJ]
  clear hS hJ
  have fS : Fires S (2 ^ a) (2 ^ p ||| 2 ^ q) := by
    refine fire_mk la sS ?_ ?_ ?_
    · intro i h; rw [Si] at h; exact h
    · intro i h g; rw [Si, h] at g; cases g
    · intro i; rw [Si, So]; cases (2 ^ a).testBit i <;> simp
  have fJ : Fires J (2 ^ p' ||| 2 ^ q') (2 ^ b) := by
    refine fire_mk lpq' sJ ?_ ?_ ?_
    · intro i h; rw [Ji] at h; exact h
    · intro i h g; rw [Ji, h] at g; cases g
    · intro i; rw [Ji, Jo]; cases (2 ^ p' ||| 2 ^ q').testBit i <;> simp
  have cases4 : ∀ t, t ∈ S :: J :: (t1 ++ t2) → t = S ∨ t = J ∨ t ∈ t1 ∨ t ∈ t2 := by
    intro t ht
    rcases List.mem_cons.1 ht with h | h
    · exact .inl h
    · rcases List.mem_cons.1 h with h | h
      · exact .inr (.inl h)
      · exact .inr (.inr (List.mem_append.1 h))
  have mS : S ∈ S :: J :: (t1 ++ t2) := by simp
  have mJ : J ∈ S :: J :: (t1 ++ t2) := by simp
  have m1 : ∀ t ∈ t1, t ∈ S :: J :: (t1 ++ t2) := fun t h => by simp [h]
  have m2 : ∀ t ∈ t2, t ∈ S :: J :: (t1 ++ t2) := fun t h => by simp [h]
  -- the places of one piece are not those of the other
  have bit1 : ∀ x, Stage In1 p p' x → ∀ i, x.testBit i = true → (i = p ∨ i = p' ∨ I1 i) ∧ i ≠ q ∧ i ≠ q' ∧ ¬ I2 i ∧ i ≠ a ∧ i ≠ b := by
    intro x hx i hi
    have := (hx.bits P).2.1 i hi
    refine ⟨this, ?_⟩
    rcases this with rfl | rfl | h
    · exact ⟨h1, h2, fun g => (d2 _ g).2.2.1 rfl, a1, b1⟩
    · exact ⟨h3, h4, fun g => (d2 _ g).2.2.2 rfl, a2, b2⟩
    · obtain ⟨g1, g2, g3, g4, g5⟩ := d1 i h
      exact ⟨g4, g5, g1, g2, g3⟩
  have bit2 : ∀ x, Stage In2 q q' x → ∀ i, x.testBit i = true → (i = q ∨ i = q' ∨ I2 i) ∧ i ≠ p ∧ i ≠ p' ∧ ¬ I1 i ∧ i ≠ a ∧ i ≠ b := by
    intro x hx i hi
    have := (hx.bits Q).2.1 i hi
    refine ⟨this, ?_⟩
    rcases this with rfl | rfl | h
    · exact ⟨fun e => h1 e.symm, fun e => h3 e.symm, fun g => (d1 _ g).2.2.2.1 rfl, a3, b3⟩
    · exact ⟨fun e => h2 e.symm, fun e => h4 e.symm, fun g => (d1 _ g).2.2.2.2 rfl, a4, b4⟩
    · obtain ⟨g1, g2, g3, g4⟩ := d2 i h
      exact ⟨g3, g4, fun g => (d1 i g).1 h, g1, g2⟩
  have off1 : ∀ t ∈ t1, ∀ y, Stage In2 q q' y → ∀ i, y.testBit i = true → t.inn.testBit i = false ∧ t.out.testBit i = false := by
    intro t ht y hy i hi
    obtain ⟨_, g1, g2, g3, _⟩ := bit2 y hy i hi
    constructor
    · cases e : t.inn.testBit i with
      | false => rfl
      | true => rcases P.takes t ht i e with x | x; exact absurd x g1; exact absurd x g3
    · cases e : t.out.testBit i with
      | false => rfl
      | true => rcases P.puts t ht i e with x | x; exact absurd x g2; exact absurd x g3
  have off2 : ∀ t ∈ t2, ∀ y, Stage In1 p p' y → ∀ i, y.testBit i = true → t.inn.testBit i = false ∧ t.out.testBit i = false := by
    intro t ht y hy i hi
    obtain ⟨_, g1, g2, g3, _⟩ := bit1 y hy i hi
    constructor
    · cases e : t.inn.testBit i with
      | false => rfl
      | true => rcases Q.takes t ht i e with x | x; exact absurd x g1; exact absurd x g3
    · cases e : t.out.testBit i with
      | false => rfl
      | true => rcases Q.puts t ht i e with x | x; exact absurd x g2; exact absurd x g3
  have fr1 : ∀ t ∈ t1, ∀ x y, Stage In1 p p' x → Stage In2 q q' y → ∀ m', Fires t (x ||| y) m' ↔ ∃ x', Fires t x x' ∧ m' = x' ||| y := fun t ht x y hx hy m' => fire_frame (hx.bits P).1 (hy.bits Q).1 (P.small t ht) (off1 t ht y hy)
  have fr2 : ∀ t ∈ t2, ∀ x y, Stage In1 p p' x → Stage In2 q q' y → ∀ m', Fires t (x ||| y) m' ↔ ∃ y', Fires t y y' ∧ m' = x ||| y' := by
    intro t ht x y hx hy m'
    rw [Nat.or_comm x y, fire_frame (hy.bits Q).1 (hx.bits P).1 (Q.small t ht) (off2 t ht x hx)]
    constructor
    · rintro ⟨z, h1, h2⟩; exact ⟨z, h1, by rw [h2, Nat.or_comm]⟩
    · rintro ⟨z, h1, h2⟩; exact ⟨z, h1, by rw [h2, Nat.or_comm]⟩
  have ef1 : ∀ t ∈ t1, ∀ x y, Stage In2 q q' y → (Flow.enabled t (x ||| y) = true ↔ Flow.enabled t x = true) := fun t ht x y hy => en_frame (fun i hi => (off1 t ht y hy i hi).1)
  have ef2 : ∀ t ∈ t2, ∀ x y, Stage In1 p p' x → (Flow.enabled t (x ||| y) = true ↔ Flow.enabled t y = true) := by
    intro t ht x y hx
    rw [Nat.or_comm]; exact en_frame (fun i hi => (off2 t ht x hx i hi).1)
  have noS : ∀ x y, Stage In1 p p' x → Stage In2 q q' y → ¬ Flow.enabled S (x ||| y) = true := by
    intro x y hx hy he
    have := en_iff.1 he a (by rw [Si]; exact bit_self a)
    rw [Nat.testBit_or, Bool.or_eq_true] at this
    rcases this with g | g
    · exact (bit1 x hx a g).2.2.2.2.1 rfl
    · exact (bit2 y hy a g).2.2.2.2.1 rfl
  have onJ : ∀ x y, Stage In1 p p' x → Stage In2 q q' y → Flow.enabled J (x ||| y) = true → x = 2 ^ p' ∧ y = 2 ^ q' := by
    intro x y hx hy he
    have e1 := en_iff.1 he p' (by rw [Ji]; exact orl p' q')
    have e2 := en_iff.1 he q' (by rw [Ji]; exact orr p' q')
    rw [Nat.testBit_or, Bool.or_eq_true] at e1 e2
    constructor
    · rcases e1 with g | g
      · rcases hx with (hx | hx) | hx
        · rw [hx] at g; exact absurd (bit_only g).symm hp
        · exact absurd ((P.inn x hx).2.1 p' g) P.nB
        · exact hx
      · exact absurd rfl (bit2 y hy p' g).2.2.1
    · rcases e2 with g | g
      · exact absurd rfl (bit1 x hx q' g).2.2.1
      · rcases hy with (hy | hy) | hy
        · rw [hy] at g; exact absurd (bit_only g).symm hq
        · exact absurd ((Q.inn y hy).2.1 q' g) Q.nB
        · exact hy
  have notIn : ∀ c, (c = a ∨ c = b) → ¬ ∃ x1 x2, Stage In1 p p' x1 ∧ Stage In2 q q' x2 ∧ 2 ^ c = x1 ||| x2 := by
    rintro c hc ⟨x1, x2, g1, g2, e⟩
    obtain ⟨_, _, i, hi⟩ := g1.bits P
    have : (2 ^ c).testBit i = true := by rw [e, Nat.testBit_or, hi]; rfl
    have hic := bit_only this
    obtain ⟨_, _, _, _, k1, k2⟩ := bit1 x1 g1 i hi
    rcases hc with hc | hc
    · exact k1 (by rw [hic, hc])
    · exact k2 (by rw [hic, hc])
  have start1 : Stage In1 p p' (2 ^ p) := .inl (.inl rfl)
  have start2 : Stage In2 q q' (2 ^ q) := .inl (.inl rfl)
  -- two ways are mixed
  have weave : ∀ n r1 r2 x1 x2 w, r1.length + r2.length ≤ n → Stage In1 p p' x1 → Stage In2 q q' x2 → Tail t1 (Going In1 p) x1 r1 (2 ^ p') → Tail t2 (Going In2 q) x2 r2 (2 ^ q') → Flow.Mix w (wordT r1) (wordT r2) →
      ∃ r, Tail (S :: J :: (t1 ++ t2)) (fun x => ∃ x1 x2, Stage In1 p p' x1 ∧ Stage In2 q q' x2 ∧ x = x1 ||| x2) (x1 ||| x2) r (2 ^ p' ||| 2 ^ q') ∧ wordT r = w := by
    intro n
    induction n with
    | zero =>
      intro r1 r2 x1 x2 w hn s1 s2 g1 g2 hm
      have e1 : r1 = [] := List.eq_nil_of_length_eq_zero (by omega)
      have e2 : r2 = [] := List.eq_nil_of_length_eq_zero (by omega)
      subst e1 e2
      have k1 : x1 = 2 ^ p' := g1
      have k2 : x2 = 2 ^ q' := g2
      subst k1 k2
      cases w with
      | nil => exact ⟨[], rfl, rfl⟩
      | cons c w => rcases hm with ⟨u, hu, _⟩ | ⟨u, hu, _⟩ <;> cases hu
    | succ n ih =>
      intro r1 r2 x1 x2 w hn s1 s2 g1 g2 hm
      have left : ∀ t r1' w', r1 = t :: r1' → Flow.Mix w' (wordT r1') (wordT r2) → wordT [t] ++ w' = w → ∃ r, Tail (S :: J :: (t1 ++ t2)) (fun x => ∃ x1 x2, Stage In1 p p' x1 ∧ Stage In2 q q' x2 ∧ x = x1 ||| x2) (x1 ||| x2) r (2 ^ p' ||| 2 ^ q') ∧ wordT r = w := by
        intro t r1' w' e hm' hw
        subst e
        obtain ⟨k1, k2, x', k3, k4⟩ := g1
        obtain ⟨r, z1, z2⟩ := ih r1' r2 x' x2 w' (by simp at hn; omega) (stage_of (Stage.step P hp k1 s1 k3).2) s2 k4 g2 hm'
        exact ⟨t :: r, ⟨m1 t k1, ⟨x1, x2, s1, s2, rfl⟩, x' ||| x2, (fr1 t k1 x1 x2 s1 s2 _).2 ⟨x', k3, rfl⟩, z1⟩, by rw [wordT_cons, z2, hw]⟩
      have right : ∀ t r2' w', r2 = t :: r2' → Flow.Mix w' (wordT r1) (wordT r2') → wordT [t] ++ w' = w → ∃ r, Tail (S :: J :: (t1 ++ t2)) (fun x => ∃ x1 x2, Stage In1 p p' x1 ∧ Stage In2 q q' x2 ∧ x = x1 ||| x2) (x1 ||| x2) r (2 ^ p' ||| 2 ^ q') ∧ wordT r = w := by
        intro t r2' w' e hm' hw
        subst e
        obtain ⟨k1, k2, x', k3, k4⟩ := g2
        obtain ⟨r, z1, z2⟩ := ih r1 r2' x1 x' w' (by simp at hn; omega) s1 (stage_of (Stage.step Q hq k1 s2 k3).2) g1 k4 hm'
        exact ⟨t :: r, ⟨m2 t k1, ⟨x1, x2, s1, s2, rfl⟩, x1 ||| x', (fr2 t k1 x1 x2 s1 s2 _).2 ⟨x', k3, rfl⟩, z1⟩, by rw [wordT_cons, z2, hw]⟩
      by_cases q1 : ∃ t r1', r1 = t :: r1' ∧ t.label = 45
      · obtain ⟨t, r1', e, hl⟩ := q1
        refine left t r1' w e ?_ ?_
        · rw [e, wordT_quiet hl] at hm; exact hm
        · rw [wordT_quiet hl]; rfl
      · by_cases q2 : ∃ t r2', r2 = t :: r2' ∧ t.label = 45
        · obtain ⟨t, r2', e, hl⟩ := q2
          refine right t r2' w e ?_ ?_
          · rw [e, wordT_quiet hl] at hm; exact hm
          · rw [wordT_quiet hl]; rfl
        · cases w with
          | nil =>
            obtain ⟨e1, e2⟩ := mix_nil hm
            have n1 : r1 = [] := by
              cases r1 with
              | nil => rfl
              | cons t r1' =>
                by_cases hl : t.label = 45
                · exact absurd ⟨t, r1', rfl, hl⟩ q1
                · rw [wordT_loud hl] at e1; cases e1
            have n2 : r2 = [] := by
              cases r2 with
              | nil => rfl
              | cons t r2' =>
                by_cases hl : t.label = 45
                · exact absurd ⟨t, r2', rfl, hl⟩ q2
                · rw [wordT_loud hl] at e2; cases e2
            subst n1 n2
            have k1 : x1 = 2 ^ p' := g1
            have k2 : x2 = 2 ^ q' := g2
            subst k1 k2
            exact ⟨[], rfl, rfl⟩
          | cons c w' =>
            rcases hm with ⟨u', hu, hm'⟩ | ⟨u', hu, hm'⟩
            · cases r1 with
              | nil => cases hu
              | cons t r1' =>
                by_cases hl : t.label = 45
                · exact absurd ⟨t, r1', rfl, hl⟩ q1
                · rw [wordT_loud hl] at hu
                  injection hu with hc hu
                  refine left t r1' w' rfl (by rw [hu]; exact hm') ?_
                  rw [wordT_loud hl, hc]; rfl
            · cases r2 with
              | nil => cases hu
              | cons t r2' =>
                by_cases hl : t.label = 45
                · exact absurd ⟨t, r2', rfl, hl⟩ q2
                · rw [wordT_loud hl] at hu
                  injection hu with hc hu
                  refine right t r2' w' rfl (by rw [hu]; exact hm') ?_
                  rw [wordT_loud hl, hc]; rfl
  -- a way is parted
  have unweave : ∀ r x1 x2, Stage In1 p p' x1 → Stage In2 q q' x2 → Tail (S :: J :: (t1 ++ t2)) (fun x => ∃ x1 x2, Stage In1 p p' x1 ∧ Stage In2 q q' x2 ∧ x = x1 ||| x2) (x1 ||| x2) r (2 ^ b) →
      ∃ r1 r2, Tail t1 (Going In1 p) x1 r1 (2 ^ p') ∧ Tail t2 (Going In2 q) x2 r2 (2 ^ q') ∧ Flow.Mix (wordT r) (wordT r1) (wordT r2) := by
    intro r
    induction r with
    | nil =>
      intro x1 x2 s1 s2 h
      have h' : x1 ||| x2 = 2 ^ b := h
      exact absurd ⟨x1, x2, s1, s2, h'.symm⟩ (notIn b (.inr rfl))
    | cons t r ih =>
      rintro x1 x2 s1 s2 ⟨k1, k2, x', k3, k4⟩
      rcases cases4 t k1 with h | h | h | h
      · subst h; exact absurd k3.en (noS x1 x2 s1 s2)
      · subst h
        obtain ⟨e1, e2⟩ := onJ x1 x2 s1 s2 k3.en
        subst e1 e2
        have hx := k3.eq fJ
        subst hx
        cases r with
        | nil => exact ⟨[], [], rfl, rfl, by rw [wordT_quiet Jl]; exact ⟨rfl, rfl⟩⟩
        | cons t' r => exact absurd k4.2.1 (notIn b (.inr rfl))
      · obtain ⟨y, g1, g2⟩ := (fr1 t h x1 x2 s1 s2 x').1 k3
        subst g2
        obtain ⟨o1, o2⟩ := Stage.step P hp h s1 g1
        obtain ⟨r1, r2, z1, z2, z3⟩ := ih y x2 (stage_of o2) s2 k4
        refine ⟨t :: r1, r2, ⟨h, o1, y, g1, z1⟩, z2, ?_⟩
        by_cases hl : t.label = 45
        · rw [wordT_quiet hl, wordT_quiet hl]; exact z3
        · rw [wordT_loud hl, wordT_loud hl]; exact .inl ⟨_, rfl, z3⟩
      · obtain ⟨y, g1, g2⟩ := (fr2 t h x1 x2 s1 s2 x').1 k3
        subst g2
        obtain ⟨o1, o2⟩ := Stage.step Q hq h s2 g1
        obtain ⟨r1, r2, z1, z2, z3⟩ := ih x1 y s1 (stage_of o2) k4
        refine ⟨r1, t :: r2, z1, ⟨h, o1, y, g1, z2⟩, ?_⟩
        by_cases hl : t.label = 45
        · rw [wordT_quiet hl, wordT_quiet hl]; exact z3
        · rw [wordT_loud hl, wordT_loud hl]; exact .inr ⟨_, rfl, z3⟩
  have lift1 : ∀ r x y z, Stage In2 q q' y → (x = 2 ^ p' ∨ In1 x) → Tail t1 In1 x r z → Tail (S :: J :: (t1 ++ t2)) (fun x => ∃ x1 x2, Stage In1 p p' x1 ∧ Stage In2 q q' x2 ∧ x = x1 ||| x2) (x ||| y) r (z ||| y) := by
    intro r
    induction r with
    | nil =>
      intro x y z _ _ h
      have h' : x = z := h
      subst h'; rfl
    | cons t r ih =>
      rintro x y z hy hx ⟨k1, k2, x', k3, k4⟩
      have sx : Stage In1 p p' x := .inl (.inr k2)
      exact ⟨m1 t k1, ⟨x, y, sx, hy, rfl⟩, x' ||| y, (fr1 t k1 x y sx hy _).2 ⟨x', k3, rfl⟩, ih x' y z hy (P.step k1 k2 k3) k4⟩
  have lift2 : ∀ r x y z, Stage In1 p p' x → (y = 2 ^ q' ∨ In2 y) → Tail t2 In2 y r z → Tail (S :: J :: (t1 ++ t2)) (fun x => ∃ x1 x2, Stage In1 p p' x1 ∧ Stage In2 q q' x2 ∧ x = x1 ||| x2) (x ||| y) r (x ||| z) := by
    intro r
    induction r with
    | nil =>
      intro x y z _ _ h
      have h' : y = z := h
      subst h'; rfl
    | cons t r ih =>
      rintro x y z hx hy ⟨k1, k2, y', k3, k4⟩
      have sy : Stage In2 q q' y := .inl (.inr k2)
      exact ⟨m2 t k1, ⟨x, y, hx, sy, rfl⟩, x ||| y', (fr2 t k1 x y hx sy _).2 ⟨y', k3, rfl⟩, ih x y' z hx (Q.step k1 k2 k3) k4⟩
  have endJ : Tail (S :: J :: (t1 ++ t2)) (fun x => ∃ x1 x2, Stage In1 p p' x1 ∧ Stage In2 q q' x2 ∧ x = x1 ||| x2) (2 ^ p' ||| 2 ^ q') [J] (2 ^ b) := ⟨mJ, ⟨_, _, .inr rfl, .inr rfl, rfl⟩, _, fJ, rfl⟩
  have toEnd : ∀ x1 x2, Stage In1 p p' x1 → Stage In2 q q' x2 → ∃ r, Tail (S :: J :: (t1 ++ t2)) (fun x => ∃ x1 x2, Stage In1 p p' x1 ∧ Stage In2 q q' x2 ∧ x = x1 ||| x2) (x1 ||| x2) r (2 ^ p' ||| 2 ^ q') := by
    intro x1 x2 s1 s2
    obtain ⟨r1, g1⟩ := s1.ends P hp
    obtain ⟨r2, g2⟩ := s2.ends Q hq
    obtain ⟨r, hr, _⟩ := weave _ r1 r2 x1 x2 _ (Nat.le_refl _) s1 s2 g1 g2 (mix_append _ _)
    exact ⟨r, hr⟩
  refine ⟨ha, hb, ?_, ?_, ?_, ?_, ?_, ?_, ?_, ?_, ?_, ?_, ?_, ?_, ?_⟩
  · rintro (h | h | h | h | h | h)
    · exact a1 h.symm
    · exact a2 h.symm
    · exact a3 h.symm
    · exact a4 h.symm
    · exact (d1 a h).2.1 rfl
    · exact (d2 a h).1 rfl
  · rintro (h | h | h | h | h | h)
    · exact b1 h.symm
    · exact b2 h.symm
    · exact b3 h.symm
    · exact b4 h.symm
    · exact (d1 b h).2.2.1 rfl
    · exact (d2 b h).2.1 rfl
  · intro t ht
    rcases cases4 t ht with h | h | h | h
    · rw [h]; exact sS
    · rw [h]; exact sJ
    · exact P.small t h
    · exact Q.small t h
  · intro t ht i hi
    rcases cases4 t ht with h | h | h | h
    · rw [h, Si] at hi; exact .inl (bit_only hi)
    · rw [h, Ji] at hi
      rcases orb p' q' i hi with g | g
      · exact .inr (.inr (.inl g))
      · exact .inr (.inr (.inr (.inr (.inl g))))
    · rcases P.takes t h i hi with g | g
      · exact .inr (.inl g)
      · exact .inr (.inr (.inr (.inr (.inr (.inl g)))))
    · rcases Q.takes t h i hi with g | g
      · exact .inr (.inr (.inr (.inl g)))
      · exact .inr (.inr (.inr (.inr (.inr (.inr g)))))
  · intro t ht
    rcases cases4 t ht with h | h | h | h
    · rw [h, Si]; exact ⟨a, bit_self a⟩
    · rw [h, Ji]; exact ⟨p', orl p' q'⟩
    · exact P.any t h
    · exact Q.any t h
  · intro t ht i hi
    rcases cases4 t ht with h | h | h | h
    · rw [h, So] at hi
      rcases orb p q i hi with g | g
      · exact .inr (.inl g)
      · exact .inr (.inr (.inr (.inl g)))
    · rw [h, Jo] at hi; exact .inl (bit_only hi)
    · rcases P.puts t h i hi with g | g
      · exact .inr (.inr (.inl g))
      · exact .inr (.inr (.inr (.inr (.inr (.inl g)))))
    · rcases Q.puts t h i hi with g | g
      · exact .inr (.inr (.inr (.inr (.inl g))))
      · exact .inr (.inr (.inr (.inr (.inr (.inr g)))))
  · rintro x ⟨x1, x2, s1, s2, rfl⟩
    refine ⟨Nat.or_lt_two_pow (n := 16) (s1.bits P).1 (s2.bits Q).1, ?_, ?_⟩
    · intro i hi
      rw [Nat.testBit_or, Bool.or_eq_true] at hi
      rcases hi with hi | hi
      · rcases (s1.bits P).2.1 i hi with g | g | g
        · exact .inl g
        · exact .inr (.inl g)
        · exact .inr (.inr (.inr (.inr (.inl g))))
      · rcases (s2.bits Q).2.1 i hi with g | g | g
        · exact .inr (.inr (.inl g))
        · exact .inr (.inr (.inr (.inl g)))
        · exact .inr (.inr (.inr (.inr (.inr g))))
    · obtain ⟨i, hi⟩ := (s1.bits P).2.2
      exact ⟨i, by rw [Nat.testBit_or, hi]; rfl⟩
  · intro t ht he
    rcases cases4 t ht with h | h | h | h
    · rw [h]; exact ⟨_, fS, .inr ⟨_, _, start1, start2, rfl⟩⟩
    · rw [h] at he
      have := en_iff.1 he p' (by rw [Ji]; exact orl p' q')
      exact absurd (bit_only this) a2
    · exact absurd he (P.off h (fun i hi => by rw [bit_only hi]; exact ⟨fun e => a1 e.symm, fun g => (d1 a g).2.1 rfl⟩))
    · exact absurd he (Q.off h (fun i hi => by rw [bit_only hi]; exact ⟨fun e => a3 e.symm, fun g => (d2 a g).1 rfl⟩))
  · rintro t ht x ⟨x1, x2, s1, s2, rfl⟩ he
    rcases cases4 t ht with h | h | h | h
    · rw [h] at he; exact absurd he (noS x1 x2 s1 s2)
    · rw [h] at he ⊢
      obtain ⟨e1, e2⟩ := onJ x1 x2 s1 s2 he
      subst e1 e2
      exact ⟨_, fJ, .inl rfl⟩
    · have he1 := (ef1 t h x1 x2 s2).1 he
      have : ∃ y, Fires t x1 y ∧ (y = 2 ^ p' ∨ In1 y) := by
        rcases s1 with (s | s) | s
        · subst s; exact P.first t h he1
        · exact P.next t h x1 s he1
        · subst s; exact absurd he1 (P.off h (fun i hi => by rw [bit_only hi]; exact ⟨fun e => hp e.symm, P.nB⟩))
      obtain ⟨y, g1, g2⟩ := this
      exact ⟨y ||| x2, (fr1 t h x1 x2 s1 s2 _).2 ⟨y, g1, rfl⟩, .inr ⟨y, x2, stage_of g2, s2, rfl⟩⟩
    · have he1 := (ef2 t h x1 x2 s1).1 he
      have : ∃ y, Fires t x2 y ∧ (y = 2 ^ q' ∨ In2 y) := by
        rcases s2 with (s | s) | s
        · subst s; exact Q.first t h he1
        · exact Q.next t h x2 s he1
        · subst s; exact absurd he1 (Q.off h (fun i hi => by rw [bit_only hi]; exact ⟨fun e => hq e.symm, Q.nB⟩))
      obtain ⟨y, g1, g2⟩ := this
      exact ⟨x1 ||| y, (fr2 t h x1 x2 s1 s2 _).2 ⟨y, g1, rfl⟩, .inr ⟨x1, y, s1, stage_of g2, rfl⟩⟩
  · intro w
    constructor
    · rintro ⟨t, x, r, ht, hf, htl, hw⟩
      rcases cases4 t ht with h | h | h | h
      · subst h
        have hx := hf.eq fS
        subst hx
        obtain ⟨r1, r2, z1, z2, z3⟩ := unweave r _ _ start1 start2 htl
        rw [wordT_quiet Sl] at hw
        rw [hw] at z3
        exact ⟨_, _, z3, (going_words P hp _).1 ⟨r1, z1, rfl⟩, (going_words Q hq _).1 ⟨r2, z2, rfl⟩⟩
      · subst h
        have := en_iff.1 hf.en p' (by rw [Ji]; exact orl p' q')
        exact absurd (bit_only this) a2
      · exact absurd hf.en (P.off h (fun i hi => by rw [bit_only hi]; exact ⟨fun e => a1 e.symm, fun g => (d1 a g).2.1 rfl⟩))
      · exact absurd hf.en (Q.off h (fun i hi => by rw [bit_only hi]; exact ⟨fun e => a3 e.symm, fun g => (d2 a g).1 rfl⟩))
    · rintro ⟨u, v, hm, hu, hv⟩
      obtain ⟨r1, g1, rfl⟩ := (going_words P hp u).2 hu
      obtain ⟨r2, g2, rfl⟩ := (going_words Q hq v).2 hv
      obtain ⟨r, hr, hw⟩ := weave _ r1 r2 _ _ w (Nat.le_refl _) start1 start2 g1 g2 hm
      refine ⟨S, _, r ++ [J], mS, fS, tail_append hr endJ, ?_⟩
      rw [wordT_quiet Sl, wordT_append, hw, wordT_quiet Jl]
      exact List.append_nil w
  · obtain ⟨u, hu⟩ := P.some
    obtain ⟨v, hv⟩ := Q.some
    exact ⟨u ++ v, u, v, mix_append u v, hu, hv⟩
  · rintro x ⟨x1, x2, s1, s2, rfl⟩
    obtain ⟨r, hr⟩ := toEnd x1 x2 s1 s2
    exact ⟨r ++ [J], tail_append hr endJ⟩
  · intro t ht
    rcases cases4 t ht with h | h | h | h
    · rw [h]; exact .inl fS.en
    · rw [h]
      obtain ⟨r, hr⟩ := toEnd _ _ start1 start2
      exact .inr ⟨_, ⟨_, _, .inr rfl, .inr rfl, rfl⟩, fJ.en, S, _, r, mS, fS, hr⟩
    · rcases P.live t h with g | ⟨x, g1, g2, t0, x0, r, g3, g4, g5⟩
      · exact .inr ⟨_, ⟨_, _, start1, start2, rfl⟩, (ef1 t h _ _ start2).2 g, S, _, [], mS, fS, rfl⟩
      · refine .inr ⟨x ||| 2 ^ q, ⟨x, _, .inl (.inr g1), start2, rfl⟩, (ef1 t h _ _ start2).2 g2, S, _, t0 :: r, mS, fS, ?_⟩
        exact ⟨m1 t0 g3, ⟨_, _, start1, start2, rfl⟩, x0 ||| 2 ^ q, (fr1 t0 g3 _ _ start1 start2 _).2 ⟨x0, g4, rfl⟩, lift1 r x0 _ x start2 (P.start g3 g4) g5⟩
    · rcases Q.live t h with g | ⟨x, g1, g2, t0, x0, r, g3, g4, g5⟩
      · exact .inr ⟨_, ⟨_, _, start1, start2, rfl⟩, (ef2 t h _ _ start1).2 g, S, _, [], mS, fS, rfl⟩
      · refine .inr ⟨2 ^ p ||| x, ⟨_, x, start1, .inl (.inr g1), rfl⟩, (ef2 t h _ _ start1).2 g2, S, _, t0 :: r, mS, fS, ?_⟩
        exact ⟨m2 t0 g3, ⟨_, _, start1, start2, rfl⟩, 2 ^ p ||| x0, (fr2 t0 g3 _ _ start1 start2 _).2 ⟨x0, g4, rfl⟩, lift2 r _ x0 x start1 (Q.start g3 g4) g5⟩
end Go.Proofs.Ytdlldljgogbiaab
