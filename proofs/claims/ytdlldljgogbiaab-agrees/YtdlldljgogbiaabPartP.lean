/-
  The parts of a word, plain; what the sets of parts mean.
-/
import Derived.Test.YtdlldljgogbiaabPartG
import Derived.Test.YtdlldljgogbiaabProc
import Derived.Test.YtdlldljgogbiaabNatsR
import Derived.Test.YtdlldljgogbiaabSuf
namespace Go.Proofs.Ytdlldljgogbiaab

/-- the letters of a word that a part has -/
def Flow.part : List Nat → Nat → List Nat
  | [], _ => []
  | c :: w, p => if p % 2 = 1 then c :: Flow.part w (p / 2) else Flow.part w (p / 2)
theorem part_odd {c p : Nat} {w : List Nat} (h : p % 2 = 1) : Flow.part (c :: w) p = c :: Flow.part w (p / 2) := by
  show (if p % 2 = 1 then _ else _) = _; rw [if_pos h]
theorem part_even {c p : Nat} {w : List Nat} (h : p % 2 = 0) : Flow.part (c :: w) p = Flow.part w (p / 2) := by
  show (if p % 2 = 1 then _ else _) = _; rw [if_neg (by omega)]
theorem part_zero (w : List Nat) : Flow.part w 0 = [] := by
  induction w with
  | nil => rfl
  | cons c w ih => rw [part_even (by omega)]; exact ih
theorem part_all (w : List Nat) : Flow.part w (2 ^ w.length - 1) = w := by
  induction w with
  | nil => rfl
  | cons c w ih =>
    have h1 := Nat.one_le_two_pow (n := w.length)
    have e : 2 ^ (c :: w).length = 2 * 2 ^ w.length := by rw [List.length_cons, Nat.pow_succ]; omega
    rw [e, part_odd (by omega)]
    have e2 : (2 * 2 ^ w.length - 1) / 2 = 2 ^ w.length - 1 := by omega
    rw [e2, ih]
theorem part_nil {w : List Nat} {p : Nat} (hp : p < 2 ^ w.length) (h : Flow.part w p = []) : p = 0 := by
  induction w generalizing p with
  | nil => simpa using hp
  | cons c w ih =>
    have e : 2 ^ (c :: w).length = 2 * 2 ^ w.length := by rw [List.length_cons, Nat.pow_succ]; omega
    rw [e] at hp
    rcases Nat.mod_two_eq_zero_or_one p with g | g
    · rw [part_even g] at h
      have := ih (by omega) h
      omega
    · rw [part_odd g] at h; cases h
theorem mod_step (p k : Nat) : p % 2 ^ (k + 1) = p % 2 + 2 * (p / 2 % 2 ^ k) := by
  rw [Nat.pow_succ, Nat.mul_comm, Nat.mod_mul]
theorem part_split (w : List Nat) (p k : Nat) : Flow.part w p = Flow.part w (p % 2 ^ k) ++ Flow.part w (p - p % 2 ^ k) := by
  induction w generalizing p k with
  | nil => rfl
  | cons c w ih =>
    cases k with
    | zero => rw [Nat.pow_zero, Nat.mod_one, part_zero, Nat.sub_zero]; rfl
    | succ k =>
      have hm := mod_step p k
      have hl := Nat.mod_le (p / 2) (2 ^ k)
      have ih' := ih (p / 2) k
      generalize p / 2 % 2 ^ k = r at hm hl ih'
      rw [hm]
      have e1 : (p % 2 + 2 * r) / 2 = r := by omega
      have e2 : (p - (p % 2 + 2 * r)) / 2 = p / 2 - r := by omega
      have e3 : (p - (p % 2 + 2 * r)) % 2 = 0 := by omega
      rw [part_even e3, e2]
      rcases Nat.mod_two_eq_zero_or_one p with g | g
      · rw [part_even g, part_even (p := p % 2 + 2 * r) (by omega), e1]; exact ih'
      · rw [part_odd g, part_odd (p := p % 2 + 2 * r) (by omega), e1, ih']; rfl
theorem part_cut {w : List Nat} {p : Nat} {u v : List Nat} (h : Flow.part w p = u ++ v) : ∃ k, k ≤ w.length ∧ u = Flow.part w (p % 2 ^ k) ∧ v = Flow.part w (p - p % 2 ^ k) := by
  induction w generalizing p u v with
  | nil =>
    have h' : u ++ v = [] := h.symm
    obtain ⟨rfl, rfl⟩ := List.append_eq_nil_iff.1 h'
    exact ⟨0, Nat.le_refl _, rfl, rfl⟩
  | cons c w ih =>
    have key : ∀ u', Flow.part w (p / 2) = u' ++ v → ∃ k, k ≤ (c :: w).length ∧ (if p % 2 = 1 then c :: u' else u') = Flow.part (c :: w) (p % 2 ^ k) ∧ v = Flow.part (c :: w) (p - p % 2 ^ k) := by
      intro u' h'
      obtain ⟨k, hk, h1, h2⟩ := ih h'
      refine ⟨k + 1, by simp; omega, ?_⟩
      have hm := mod_step p k
      have hl := Nat.mod_le (p / 2) (2 ^ k)
      generalize p / 2 % 2 ^ k = r at hm hl h1 h2
      rw [hm]
      have e1 : (p % 2 + 2 * r) / 2 = r := by omega
      have e2 : (p - (p % 2 + 2 * r)) / 2 = p / 2 - r := by omega
      have e3 : (p - (p % 2 + 2 * r)) % 2 = 0 := by omega
      rw [part_even e3, e2]
      refine ⟨?_, h2⟩
      rcases Nat.mod_two_eq_zero_or_one p with g | g
      · rw [if_neg (by omega), part_even (p := p % 2 + 2 * r) (by omega), e1]; exact h1
      · rw [if_pos g, part_odd (p := p % 2 + 2 * r) (by omega), e1, h1]
    rcases Nat.mod_two_eq_zero_or_one p with g | g
    · rw [part_even g] at h
      have := key u h
      rw [if_neg (by omega)] at this
      exact this
    · cases u with
      | nil => exact ⟨0, Nat.zero_le _, by rw [Nat.pow_zero, Nat.mod_one, part_zero], by rw [Nat.pow_zero, Nat.mod_one, Nat.sub_zero]; exact h.symm⟩
      | cons d u' =>
        rw [part_odd g] at h
        injection h with h1 h2
        subst h1
        have := key u' h2
        rw [if_pos g] at this
        exact this
theorem part_one {w : List Nat} {p c : Nat} (hp : p < 2 ^ w.length) : Flow.part w p = [c] ↔ ∃ a, a < w.length ∧ p = 2 ^ a ∧ w[a]? = some c := by
  induction w generalizing p with
  | nil =>
    constructor
    · intro h; cases h
    · rintro ⟨a, h, _⟩; cases h
  | cons d w ih =>
    have e : 2 ^ (d :: w).length = 2 * 2 ^ w.length := by rw [List.length_cons, Nat.pow_succ]; omega
    rw [e] at hp
    rcases Nat.mod_two_eq_zero_or_one p with g | g
    · rw [part_even g, ih (by omega)]
      constructor
      · rintro ⟨a, h1, h2, h3⟩
        exact ⟨a + 1, by simp; omega, by rw [Nat.pow_succ]; omega, by simpa using h3⟩
      · rintro ⟨a, h1, h2, h3⟩
        cases a with
        | zero => rw [Nat.pow_zero] at h2; omega
        | succ a => exact ⟨a, by simpa using h1, by rw [Nat.pow_succ] at h2; omega, by simpa using h3⟩
    · rw [part_odd g]
      constructor
      · intro h
        injection h with h1 h2
        have := part_nil (by omega) h2
        exact ⟨0, by simp, by rw [Nat.pow_zero]; omega, by simp [h1]⟩
      · rintro ⟨a, h1, h2, h3⟩
        cases a with
        | zero =>
          rw [Nat.pow_zero] at h2
          subst h2
          simp at h3
          subst h3
          show _ :: Flow.part w 0 = _
          rw [part_zero]
        | succ a => rw [Nat.pow_succ] at h2; omega
theorem and_step (p q : Nat) : (p &&& q) % 2 = (p % 2) * (q % 2) ∧ (p &&& q) / 2 = p / 2 &&& q / 2 := by
  refine ⟨?_, Nat.and_div_two⟩
  have h := @Nat.and_mod_two_pow p q 1
  rw [Nat.pow_one] at h
  rw [h]
  rcases Nat.mod_two_eq_zero_or_one p with g | g <;> rcases Nat.mod_two_eq_zero_or_one q with g' | g' <;> rw [g, g'] <;> rfl
theorem part_mix {w : List Nat} {p : Nat} {u v : List Nat} : Flow.Mix (Flow.part w p) u v ↔ ∃ q, q ≤ p ∧ u = Flow.part w (p &&& q) ∧ v = Flow.part w (p - (p &&& q)) := by
  induction w generalizing p u v with
  | nil =>
    constructor
    · rintro ⟨rfl, rfl⟩; exact ⟨0, Nat.zero_le _, rfl, rfl⟩
    · rintro ⟨q, _, rfl, rfl⟩; exact ⟨rfl, rfl⟩
  | cons c w ih =>
    have up : ∀ (q' b : Nat), b ≤ 1 → ((p &&& (2 * q' + b)) % 2 = p % 2 * b) ∧ (p &&& (2 * q' + b)) / 2 = (p / 2 &&& q') := by
      intro q' b hb
      obtain ⟨h1, h2⟩ := and_step p (2 * q' + b)
      have e1 : (2 * q' + b) % 2 = b := by omega
      have e2 : (2 * q' + b) / 2 = q' := by omega
      rw [e1] at h1
      rw [e2] at h2
      exact ⟨h1, h2⟩
    rcases Nat.mod_two_eq_zero_or_one p with g | g
    · rw [part_even g, ih]
      constructor
      · rintro ⟨q, h1, h2, h3⟩
        obtain ⟨m1, m2⟩ := up q 0 (by omega)
        have hle : p / 2 &&& q ≤ p / 2 := Nat.and_le_left
        refine ⟨2 * q + 0, by omega, ?_, ?_⟩
        · rw [part_even (by omega), m2]; exact h2
        · have e1 : (p - (p &&& (2 * q + 0))) % 2 = 0 := by omega
          have e2 : (p - (p &&& (2 * q + 0))) / 2 = p / 2 - (p / 2 &&& q) := by omega
          rw [part_even e1, e2]; exact h3
      · rintro ⟨q, h1, h2, h3⟩
        obtain ⟨m1, m2⟩ := and_step p q
        rw [g, Nat.zero_mul] at m1
        have hle : p / 2 &&& q / 2 ≤ p / 2 := Nat.and_le_left
        refine ⟨q / 2, by omega, ?_, ?_⟩
        · rw [part_even m1, m2] at h2; exact h2
        · have e1 : (p - (p &&& q)) % 2 = 0 := by omega
          have e2 : (p - (p &&& q)) / 2 = p / 2 - (p / 2 &&& q / 2) := by omega
          rw [part_even e1, e2] at h3; exact h3
    · rw [part_odd g]
      constructor
      · rintro (⟨u', rfl, hm⟩ | ⟨v', rfl, hm⟩)
        · obtain ⟨q, h1, h2, h3⟩ := ih.1 hm
          obtain ⟨m1, m2⟩ := up q 1 (by omega)
          rw [g] at m1
          have hle : p / 2 &&& q ≤ p / 2 := Nat.and_le_left
          refine ⟨2 * q + 1, by omega, ?_, ?_⟩
          · rw [part_odd (by omega), m2, ← h2]
          · have e1 : (p - (p &&& (2 * q + 1))) % 2 = 0 := by omega
            have e2 : (p - (p &&& (2 * q + 1))) / 2 = p / 2 - (p / 2 &&& q) := by omega
            rw [part_even e1, e2]; exact h3
        · obtain ⟨q, h1, h2, h3⟩ := ih.1 hm
          obtain ⟨m1, m2⟩ := up q 0 (by omega)
          have hle : p / 2 &&& q ≤ p / 2 := Nat.and_le_left
          refine ⟨2 * q + 0, by omega, ?_, ?_⟩
          · rw [part_even (by omega), m2]; exact h2
          · have e1 : (p - (p &&& (2 * q + 0))) % 2 = 1 := by omega
            have e2 : (p - (p &&& (2 * q + 0))) / 2 = p / 2 - (p / 2 &&& q) := by omega
            rw [part_odd e1, e2, ← h3]
      · rintro ⟨q, h1, h2, h3⟩
        obtain ⟨m1, m2⟩ := and_step p q
        have hle : p / 2 &&& q / 2 ≤ p / 2 := Nat.and_le_left
        rcases Nat.mod_two_eq_zero_or_one q with g' | g'
        · right
          rw [g, g'] at m1
          have e1 : (p - (p &&& q)) % 2 = 1 := by omega
          have e2 : (p - (p &&& q)) / 2 = p / 2 - (p / 2 &&& q / 2) := by omega
          rw [part_odd e1, e2] at h3
          rw [part_even (by omega), m2] at h2
          exact ⟨_, h3, ih.2 ⟨q / 2, by omega, h2, rfl⟩⟩
        · left
          rw [g, g'] at m1
          have e1 : (p - (p &&& q)) % 2 = 0 := by omega
          have e2 : (p - (p &&& q)) / 2 = p / 2 - (p / 2 &&& q / 2) := by omega
          rw [part_even e1, e2] at h3
          rw [part_odd (by omega), m2] at h2
          exact ⟨_, h2, ih.2 ⟨q / 2, by omega, rfl, h3⟩⟩

/-- the set has just the parts whose letters are a word of Lg -/
def SetIs (wd : List Nat) (f : Nat → Bool) (Lg : List Nat → Prop) : Prop := ∀ p, p < 2 ^ wd.length → (f p = true ↔ Lg (Flow.part wd p))
theorem set_seq {wd : List Nat} {f g h : Nat → Bool} {A B : List Nat → Prop} (hf : SetIs wd f A) (hg : SetIs wd g B) (hh : ∀ p, p < 2 ^ wd.length → h p = anyTo (rowTest f g p) (wd.length + 1)) : SetIs wd h (fun x => ∃ u v, x = u ++ v ∧ A u ∧ B v) := by
  intro p hp
  rw [hh p hp, anyTo_iff]
  constructor
  · rintro ⟨k, _, hk⟩
    unfold rowTest at hk
    rw [Bool.and_eq_true] at hk
    have h1 := Nat.mod_le p (2 ^ k)
    exact ⟨_, _, part_split wd p k, (hf _ (by omega)).1 hk.1, (hg _ (by omega)).1 hk.2⟩
  · rintro ⟨u, v, he, h1, h2⟩
    obtain ⟨k, hk, rfl, rfl⟩ := part_cut he
    have h3 := Nat.mod_le p (2 ^ k)
    refine ⟨k, by omega, ?_⟩
    unfold rowTest
    rw [Bool.and_eq_true]
    exact ⟨(hf _ (by omega)).2 h1, (hg _ (by omega)).2 h2⟩
theorem set_par {wd : List Nat} {f g h : Nat → Bool} {A B : List Nat → Prop} (hf : SetIs wd f A) (hg : SetIs wd g B) (hh : ∀ p, p < 2 ^ wd.length → h p = anyTo (sideTest f g p) (p + 1)) : SetIs wd h (fun x => ∃ u v, Flow.Mix x u v ∧ A u ∧ B v) := by
  intro p hp
  rw [hh p hp, anyTo_iff]
  constructor
  · rintro ⟨k, hk', hk⟩
    unfold sideTest at hk
    rw [Bool.and_eq_true] at hk
    have h1 : p &&& k ≤ p := Nat.and_le_left
    exact ⟨_, _, part_mix.2 ⟨k, by omega, rfl, rfl⟩, (hf _ (by omega)).1 hk.1, (hg _ (by omega)).1 hk.2⟩
  · rintro ⟨u, v, he, h1, h2⟩
    obtain ⟨q, hq, rfl, rfl⟩ := part_mix.1 he
    have h3 : p &&& q ≤ p := Nat.and_le_left
    refine ⟨q, by omega, ?_⟩
    unfold sideTest
    rw [Bool.and_eq_true]
    exact ⟨(hf _ (by omega)).2 h1, (hg _ (by omega)).2 h2⟩
theorem set_alt {wd : List Nat} {f g h : Nat → Bool} {A B : List Nat → Prop} (hf : SetIs wd f A) (hg : SetIs wd g B) (hh : ∀ p, p < 2 ^ wd.length → h p = (f p || g p)) : SetIs wd h (fun x => A x ∨ B x) := by
  intro p hp
  rw [hh p hp, Bool.or_eq_true, hf p hp, hg p hp]
theorem set_rep {wd : List Nat} {f : Nat → Bool} {A : List Nat → Prop} (hf : SetIs wd f A) : RepIs f wd.length (fun p => Flow.Star A (Flow.part wd p)) := by
  refine ⟨?_, ?_⟩
  · show Flow.Star A (Flow.part wd 0)
    rw [part_zero]; exact Flow.star_iff.2 (.inl rfl)
  · intro p h1 hp
    constructor
    · intro h
      rcases Flow.star_iff.1 h with h | ⟨k, k1, k2, h2, h3⟩
      · have := part_nil hp h; omega
      · obtain ⟨j, hj, e1, e2⟩ := part_cut (List.take_append_drop k (Flow.part wd p)).symm
        rw [e1] at h2
        rw [e2] at h3
        have h4 := Nat.mod_le p (2 ^ j)
        have h0 : p % 2 ^ j ≠ 0 := by
          intro h0
          rw [h0, part_zero] at e1
          have := congrArg List.length e1
          rw [List.length_take, Nat.min_eq_left k2] at this
          simp at this
          omega
        have hj1 : 1 ≤ j := by
          rcases Nat.eq_zero_or_pos j with g | g
          · subst g; rw [Nat.pow_zero, Nat.mod_one] at h0; exact absurd rfl h0
          · exact g
        exact ⟨j, hj1, by omega, h0, (hf _ (by omega)).2 h2, h3⟩
    · rintro ⟨j, j1, j2, h0, hfj, ws, hws, hall⟩
      have h4 := Nat.mod_le p (2 ^ j)
      refine ⟨Flow.part wd (p % 2 ^ j) :: ws, ?_, ?_⟩
      · rw [List.flatten_cons, ← hws]; exact part_split wd p j
      · intro u hu
        rcases List.mem_cons.1 hu with rfl | hu
        · exact (hf _ (by omega)).1 hfj
        · exact hall u hu
theorem set_task {word : ByteArray} {c : Nat} {h : Nat → Bool} (hh : ∀ p, h p = anyTo (taskTest word c p) word.size) : SetIs (Flow.nats word) h (fun x => x = [c]) := by
  intro p hp
  rw [hh p, anyTo_iff]
  show _ ↔ Flow.part (Flow.nats word) p = [c]
  rw [part_one hp, nats_len]
  constructor
  · rintro ⟨j, hj, ht⟩
    unfold taskTest at ht
    rw [Bool.and_eq_true, decide_eq_true_iff, decide_eq_true_iff] at ht
    exact ⟨j, hj, ht.1, by rw [nats_get word hj, ht.2]⟩
  · rintro ⟨j, hj, h1, h2⟩
    rw [nats_get word hj] at h2
    injection h2 with h2
    refine ⟨j, hj, ?_⟩
    unfold taskTest
    rw [Bool.and_eq_true, decide_eq_true_iff, decide_eq_true_iff]
    exact ⟨h1, h2⟩

/-- the sets that lie on the stack, the top first -/
def StackIs (s : ByteArray) (wd : List Nat) : List (Nat → Bool) → List Nat → Prop
  | [], [] => True
  | f :: R, i :: T => SetIs wd f (Flow.Has s i) ∧ StackIs s wd R T
  | _, _ => False
theorem stack_nil {s : ByteArray} {wd : List Nat} {R : List (Nat → Bool)} (h : StackIs s wd R []) : R = [] := by
  cases R with
  | nil => rfl
  | cons f R => exact absurd h id
theorem stack_cons {s : ByteArray} {wd : List Nat} {R : List (Nat → Bool)} {i : Nat} {T : List Nat} (h : StackIs s wd R (i :: T)) : ∃ f R', R = f :: R' ∧ SetIs wd f (Flow.Has s i) ∧ StackIs s wd R' T := by
  cases R with
  | nil => exact absurd h id
  | cons f R => exact ⟨f, R, rfl, h.1, h.2⟩
end Go.Proofs.Ytdlldljgogbiaab
