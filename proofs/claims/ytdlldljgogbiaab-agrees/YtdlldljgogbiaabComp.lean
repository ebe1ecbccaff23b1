/-
  The net of a process: plain.
-/
import Derived.Test.YtdlldljgogbiaabPiecePar
namespace Go.Proofs.Ytdlldljgogbiaab
open Go.RowKit
set_option linter.unusedVariables false

/-- a transition as it is written: its label, the places that it takes from and puts to -/
structure Raw where
  lab : Nat
  ins : List Nat
  outs : List Nat
def psum (l : List Nat) : Nat := (l.map fun x => 2 ^ x).sum
def toTr (r : Raw) : Flow.Tr := ⟨r.lab, psum r.ins, psum r.outs⟩
theorem psum_one (a : Nat) : psum [a] = 2 ^ a := by simp [psum]
theorem psum_two {p q : Nat} (hp : p < 16) (hq : q < 16) (h : p ≠ q) : psum [p, q] = 2 ^ p ||| 2 ^ q := by
  rw [Flow.or_add (pow_lt16 hp) (pow_lt16 hq) ?_]
  · simp [psum]
  · apply Nat.eq_of_testBit_eq
    intro i
    rw [Nat.testBit_and, Nat.zero_testBit, bit_pow, bit_pow]
    by_cases e : p = i
    · rw [decide_eq_true e, decide_eq_false (by omega)]; rfl
    · rw [decide_eq_false e]; rfl

/-- the transitions of the process at i between places a and b, places from k on being free; and the next free place (f: fuel) -/
def compN (s : ByteArray) : Nat → Nat → Nat → Nat → Nat → List Raw × Nat
  | 0, _, _, _, k => ([], k)
  | f + 1, i, a, b, k =>
    if Flow.isTk (Flow.bt s i) = true then ([⟨Flow.bt s i, [a], [b]⟩], k)
    else if Flow.bt s i = 42 then (⟨45, [a], [k]⟩ :: ⟨45, [k], [b]⟩ :: (compN s f (i + 1) k k (k + 1)).1, (compN s f (i + 1) k k (k + 1)).2)
    else if Flow.bt s i = 46 then ((compN s f (i + 1) a k (k + 1)).1 ++ (compN s f (Flow.scan s (i + 1)).1 k b (compN s f (i + 1) a k (k + 1)).2).1, (compN s f (Flow.scan s (i + 1)).1 k b (compN s f (i + 1) a k (k + 1)).2).2)
    else if Flow.bt s i = 43 then ((compN s f (i + 1) a b k).1 ++ (compN s f (Flow.scan s (i + 1)).1 a b (compN s f (i + 1) a b k).2).1, (compN s f (Flow.scan s (i + 1)).1 a b (compN s f (i + 1) a b k).2).2)
    else (⟨45, [a], [k, k + 1]⟩ :: ⟨45, [k + 2, k + 3], [b]⟩ :: ((compN s f (i + 1) k (k + 2) (k + 4)).1 ++ (compN s f (Flow.scan s (i + 1)).1 (k + 1) (k + 3) (compN s f (i + 1) k (k + 2) (k + 4)).2).1), (compN s f (Flow.scan s (i + 1)).1 (k + 1) (k + 3) (compN s f (i + 1) k (k + 2) (k + 4)).2).2)
theorem compN_more (s : ByteArray) (f g i : Nat) (hf : s.size - i < f) (hg : s.size - i < g) (hi : i < s.size) : (Flow.scan s i).2.2 = true → compN s f i = compN s g i := by
  induction f generalizing g i with
  | zero => omega
  | succ f ih =>
    intro hok
    cases g with
    | zero => omega
    | succ g =>
      funext a b k
      unfold compN
      obtain ⟨_, hc⟩ := Flow.scan_char hok
      by_cases h1 : Flow.isTk (Flow.bt s i) = true
      · rw [if_pos h1, if_pos h1]
      · rw [if_neg h1, if_neg h1]
        by_cases h2 : Flow.bt s i = 42
        · obtain ⟨g1, _, _⟩ := Flow.scan_one hok h2
          rw [if_pos h2, if_pos h2, ih g (i + 1) (by omega) (by omega) (Flow.scan_char g1).1 g1]
        · have hc2 : Flow.bt s i = 46 ∨ Flow.bt s i = 43 ∨ Flow.bt s i = 38 := by
            rcases hc with hc | hc | hc
            · exact absurd hc h1
            · exact absurd hc h2
            · exact hc
          obtain ⟨g1, g2, _, _⟩ := Flow.scan_two hok hc2
          have e1 := ih g (i + 1) (by omega) (by omega) (Flow.scan_char g1).1 g1
          have hge := Flow.scan_ge s (i + 1)
          have e2 := ih g (Flow.scan s (i + 1)).1 (by omega) (by omega) (Flow.scan_char g2).1 g2
          rw [if_neg h2, if_neg h2, e1, e2]
def comp (s : ByteArray) (i : Nat) : Nat → Nat → Nat → List Raw × Nat := compN s (s.size - i + 1) i
theorem comp_task {s : ByteArray} {i a b k : Nat} (hc : Flow.isTk (Flow.bt s i) = true) : comp s i a b k = ([⟨Flow.bt s i, [a], [b]⟩], k) := by
  show compN s (s.size - i + 1) i a b k = _
  rw [compN.eq_2, if_pos hc]
theorem comp_in {s : ByteArray} {i j : Nat} (hij : i < j) (h : (Flow.scan s j).2.2 = true) : compN s (s.size - i) j = comp s j := by
  have := (Flow.scan_char h).1
  exact compN_more s _ _ j (by omega) (by omega) this h
theorem comp_star {s : ByteArray} {i a b k : Nat} (h : (Flow.scan s i).2.2 = true) (hc : Flow.bt s i = 42) : comp s i a b k = (⟨45, [a], [k]⟩ :: ⟨45, [k], [b]⟩ :: (comp s (i + 1) k k (k + 1)).1, (comp s (i + 1) k k (k + 1)).2) := by
  obtain ⟨g1, _, _⟩ := Flow.scan_one h hc
  rw [← comp_in (i := i) (by omega) g1]
  show compN s (s.size - i + 1) i a b k = _
  rw [compN.eq_2, if_neg (Flow.isTk_no (.inl hc)), if_pos hc]
theorem comp_seq {s : ByteArray} {i a b k : Nat} (h : (Flow.scan s i).2.2 = true) (hc : Flow.bt s i = 46) : comp s i a b k = ((comp s (i + 1) a k (k + 1)).1 ++ (comp s (Flow.scan s (i + 1)).1 k b (comp s (i + 1) a k (k + 1)).2).1, (comp s (Flow.scan s (i + 1)).1 k b (comp s (i + 1) a k (k + 1)).2).2) := by
  obtain ⟨g1, g2, _, _⟩ := Flow.scan_two h (.inl hc)
  have hge := Flow.scan_ge s (i + 1)
  rw [← comp_in (i := i) (by omega) g1, ← comp_in (i := i) (by omega) g2]
  show compN s (s.size - i + 1) i a b k = _
  rw [compN.eq_2, if_neg (Flow.isTk_no (.inr (.inl hc))), if_neg (by omega), if_pos hc]
theorem comp_alt {s : ByteArray} {i a b k : Nat} (h : (Flow.scan s i).2.2 = true) (hc : Flow.bt s i = 43) : comp s i a b k = ((comp s (i + 1) a b k).1 ++ (comp s (Flow.scan s (i + 1)).1 a b (comp s (i + 1) a b k).2).1, (comp s (Flow.scan s (i + 1)).1 a b (comp s (i + 1) a b k).2).2) := by
  obtain ⟨g1, g2, _, _⟩ := Flow.scan_two h (.inr (.inl hc))
  have hge := Flow.scan_ge s (i + 1)
  rw [← comp_in (i := i) (by omega) g1, ← comp_in (i := i) (by omega) g2]
  show compN s (s.size - i + 1) i a b k = _
  rw [compN.eq_2, if_neg (Flow.isTk_no (.inr (.inr (.inl hc)))), if_neg (by omega), if_neg (by omega), if_pos hc]
theorem comp_par {s : ByteArray} {i a b k : Nat} (h : (Flow.scan s i).2.2 = true) (hc : Flow.bt s i = 38) : comp s i a b k = (⟨45, [a], [k, k + 1]⟩ :: ⟨45, [k + 2, k + 3], [b]⟩ :: ((comp s (i + 1) k (k + 2) (k + 4)).1 ++ (comp s (Flow.scan s (i + 1)).1 (k + 1) (k + 3) (comp s (i + 1) k (k + 2) (k + 4)).2).1), (comp s (Flow.scan s (i + 1)).1 (k + 1) (k + 3) (comp s (i + 1) k (k + 2) (k + 4)).2).2) := by
  obtain ⟨g1, g2, _, _⟩ := Flow.scan_two h (.inr (.inr hc))
  have hge := Flow.scan_ge s (i + 1)
  rw [← comp_in (i := i) (by omega) g1, ← comp_in (i := i) (by omega) g2]
  show compN s (s.size - i + 1) i a b k = _
  rw [compN.eq_2, if_neg (Flow.isTk_no (.inr (.inr (.inr hc)))), if_neg (by omega), if_neg (by omega), if_neg (by omega)]

theorem Piece.congr {ts : List Flow.Tr} {a b : Nat} {I I' In : Nat → Prop} {Lg Lg' : List Nat → Prop} (P : Piece ts a b I In Lg) (hI : ∀ i, I i ↔ I' i) (hL : ∀ u, Lg u ↔ Lg' u) : Piece ts a b I' In Lg' := by
  have e1 : I = I' := funext fun i => propext (hI i)
  have e2 : Lg = Lg' := funext fun u => propext (hL u)
  rw [← e1, ← e2]; exact P

/-- places that rise -/
def Rises : Nat → List Nat → Prop
  | _, [] => True
  | set, x :: l => x < 16 ∧ set < 2 ^ x ∧ Rises (set + 2 ^ x) l
/-- a transition is well written, and names places of its piece alone -/
structure RawOk (a b k k' : Nat) (r : Raw) : Prop where
  lab : Flow.isLb r.lab = true
  ins : Rises 0 r.ins ∧ r.ins ≠ [] ∧ ∀ x ∈ r.ins, x = a ∨ (k ≤ x ∧ x < k')
  outs : Rises 0 r.outs ∧ r.outs ≠ [] ∧ ∀ x ∈ r.outs, x = b ∨ (k ≤ x ∧ x < k')
  len : r.ins.length + r.outs.length ≤ 3
theorem rises_one {a : Nat} (h : a < 16) : Rises 0 [a] := ⟨h, Nat.two_pow_pos a, trivial⟩
theorem rises_two {p q : Nat} (h : p < q) (hq : q < 16) : Rises 0 [p, q] := ⟨by omega, Nat.two_pow_pos p, hq, by rw [Nat.zero_add]; exact Nat.pow_lt_pow_right (by omega) h, trivial⟩
theorem RawOk.more {a b k k' a1 b1 k1 k1' : Nat} {r : Raw} (h : RawOk a b k k' r) (h1 : a = a1 ∨ (k1 ≤ a ∧ a < k1')) (h2 : b = b1 ∨ (k1 ≤ b ∧ b < k1')) (h3 : k1 ≤ k) (h4 : k' ≤ k1') : RawOk a1 b1 k1 k1' r := by
  refine ⟨h.lab, ⟨h.ins.1, h.ins.2.1, ?_⟩, ⟨h.outs.1, h.outs.2.1, ?_⟩, h.len⟩
  · intro x hx
    rcases h.ins.2.2 x hx with e | e
    · rw [e]; exact h1
    · exact .inr ⟨by omega, by omega⟩
  · intro x hx
    rcases h.outs.2.2 x hx with e | e
    · rw [e]; exact h2
    · exact .inr ⟨by omega, by omega⟩

theorem nodes_pos {s : ByteArray} {i : Nat} (h : (Flow.scan s i).2.2 = true) : 1 ≤ (Flow.scan s i).2.1 := by
  obtain ⟨hi, hc⟩ := Flow.scan_char h
  rcases hc with hc | hc | hc
  · rw [Flow.scan_eq, if_neg (by omega), if_pos hc]; show 1 ≤ 1; omega
  · obtain ⟨_, _, g⟩ := Flow.scan_one h hc; omega
  · obtain ⟨_, _, _, g⟩ := Flow.scan_two h hc; omega
/-- **the piece of net of a process has its words** -/
theorem comp_piece {s : ByteArray} {i : Nat} (hok : (Flow.scan s i).2.2 = true) : ∀ a b k, a < k → b < k → k + 2 * ((Flow.scan s i).2.1 - 1) ≤ 16 →
    ∃ In, Piece ((comp s i a b k).1.map toTr) a b (fun j => k ≤ j ∧ j < (comp s i a b k).2) In (Flow.Has s i) ∧ k ≤ (comp s i a b k).2 ∧ (comp s i a b k).2 ≤ k + 2 * ((Flow.scan s i).2.1 - 1) ∧ 1 ≤ (Flow.scan s i).2.1 ∧ (comp s i a b k).1.length + 1 ≤ 2 * (Flow.scan s i).2.1 ∧ ∀ r ∈ (comp s i a b k).1, RawOk a b k (comp s i a b k).2 r := by
  induction n : s.size - i using Nat.strongRecOn generalizing i with
  | ind n ih =>
    intro a b k ha hb hk
    obtain ⟨hi, hc⟩ := Flow.scan_char hok
    rcases hc with hc | hc | hc
    · have hn : (Flow.scan s i).2.1 = 1 := by rw [Flow.scan_eq, if_neg (by omega), if_pos hc]
      rw [comp_task hc]
      have hl := Flow.isTk_iff.1 hc
      have h256 := Flow.bt_lt s i
      refine ⟨fun _ => False, ?_, Nat.le_refl _, by omega, by omega, by show 1 + 1 ≤ _; omega, ?_⟩
      · have P := piece_task (c := Flow.bt s i) (a := a) (b := b) (by omega) (by omega) h256 (by omega)
        have e : ([⟨Flow.bt s i, [a], [b]⟩] : List Raw).map toTr = [⟨Flow.bt s i, 2 ^ a, 2 ^ b⟩] := by simp [toTr, psum_one]
        show Piece (([⟨Flow.bt s i, [a], [b]⟩] : List Raw).map toTr) _ _ _ _ _
        rw [e]
        exact P.congr (fun j => ⟨fun h => absurd h id, fun h => by have h1 := h.1; have h2 : j < k := h.2; omega⟩) (fun u => (Flow.has_task hi hc u).symm)
      · intro r hr
        rw [List.mem_singleton.1 hr]
        exact ⟨by unfold Flow.isLb; rw [hc]; rfl, ⟨rises_one (by omega), by simp, fun x hx => .inl (List.mem_singleton.1 hx)⟩, ⟨rises_one (by omega), by simp, fun x hx => .inl (List.mem_singleton.1 hx)⟩, by simp⟩
    · obtain ⟨g1, g2, g3⟩ := Flow.scan_one hok hc
      rw [comp_star hok hc]
      have hn1 := nodes_pos g1
      obtain ⟨In, P, p1, p2, p3, p4, p5⟩ := ih (s.size - (i + 1)) (by omega) g1 rfl k k (k + 1) (by omega) (by omega) (by omega)
      generalize comp s (i + 1) k k (k + 1) = r at P p1 p2 p4 p5
      refine ⟨fun x => x = 2 ^ k ∨ In x, ?_, by show k ≤ r.2; omega, by show r.2 ≤ _; omega, by omega, by show (r.1.length + 1 + 1) + 1 ≤ _; omega, ?_⟩
      · have Q := piece_star P (a := a) (b := b) (by omega) (by omega) (by omega) (by omega) (by intro h; have := h.1; omega) (by intro h; have := h.1; omega)
        have e : ((⟨45, [a], [k]⟩ :: ⟨45, [k], [b]⟩ :: r.1 : List Raw)).map toTr = ⟨45, 2 ^ a, 2 ^ k⟩ :: ⟨45, 2 ^ k, 2 ^ b⟩ :: r.1.map toTr := by simp [toTr, psum_one]
        show Piece (((⟨45, [a], [k]⟩ :: ⟨45, [k], [b]⟩ :: r.1 : List Raw)).map toTr) _ _ _ _ _
        rw [e]
        exact Q.congr (fun j => by show (j = k ∨ (k + 1 ≤ j ∧ j < r.2)) ↔ (k ≤ j ∧ j < r.2); omega) (fun u => (Flow.has_star hi hc u).symm)
      · intro x hx
        have h45 : Flow.isLb 45 = true := by decide
        rcases List.mem_cons.1 hx with rfl | hx
        · exact ⟨h45, ⟨rises_one (by omega), by simp, fun x hx => .inl (List.mem_singleton.1 hx)⟩, ⟨rises_one (by omega), by simp, fun x hx => .inr (by rw [List.mem_singleton.1 hx]; exact ⟨Nat.le_refl _, by show k < r.2; omega⟩)⟩, by simp⟩
        · rcases List.mem_cons.1 hx with rfl | hx
          · exact ⟨h45, ⟨rises_one (by omega), by simp, fun x hx => .inr (by rw [List.mem_singleton.1 hx]; exact ⟨Nat.le_refl _, by show k < r.2; omega⟩)⟩, ⟨rises_one (by omega), by simp, fun x hx => .inl (List.mem_singleton.1 hx)⟩, by simp⟩
          · exact (p5 x hx).more (.inr ⟨Nat.le_refl _, by show k < r.2; omega⟩) (.inr ⟨Nat.le_refl _, by show k < r.2; omega⟩) (by omega) (Nat.le_refl _)
    · obtain ⟨g1, g2, g3, g4⟩ := Flow.scan_two hok hc
      have hge := Flow.scan_ge s (i + 1)
      have hn1 := nodes_pos g1
      have hn2 := nodes_pos g2
      rcases hc with hc | hc | hc
      · rw [comp_seq hok hc]
        obtain ⟨In1, P1, p1, p2, p3, p4, p5⟩ := ih (s.size - (i + 1)) (by omega) g1 rfl a k (k + 1) (by omega) (by omega) (by omega)
        generalize comp s (i + 1) a k (k + 1) = r1 at P1 p1 p2 p4 p5 ⊢
        obtain ⟨In2, P2, q1, q2, q3, q4, q5⟩ := ih (s.size - (Flow.scan s (i + 1)).1) (by omega) g2 rfl k b r1.2 (by omega) (by omega) (by omega)
        generalize comp s (Flow.scan s (i + 1)).1 k b r1.2 = r2 at P2 q1 q2 q4 q5 ⊢
        refine ⟨fun x => In1 x ∨ x = 2 ^ k ∨ In2 x, ?_, by show k ≤ r2.2; omega, by show r2.2 ≤ _; omega, by omega, by show (r1.1 ++ r2.1).length + 1 ≤ _; rw [List.length_append]; omega, ?_⟩
        · have Q := piece_seq P1 P2 (by omega) (by omega) (by intro h; have := h.1; omega) (by intro h; have := h.1; omega) (by rintro j ⟨j1, j2⟩ ⟨j3, j4⟩; omega)
          show Piece ((r1.1 ++ r2.1).map toTr) _ _ _ _ _
          rw [List.map_append]
          exact Q.congr (fun j => by show ((k + 1 ≤ j ∧ j < r1.2) ∨ j = k ∨ (r1.2 ≤ j ∧ j < r2.2)) ↔ (k ≤ j ∧ j < r2.2); omega) (fun u => (Flow.has_seq hi hc u).symm)
        · intro x hx
          rcases List.mem_append.1 hx with hx | hx
          · exact (p5 x hx).more (.inl rfl) (.inr ⟨Nat.le_refl _, by show k < r2.2; omega⟩) (by omega) q1
          · exact (q5 x hx).more (.inr ⟨Nat.le_refl _, by show k < r2.2; omega⟩) (.inl rfl) (by omega) (Nat.le_refl _)
      · rw [comp_alt hok hc]
        obtain ⟨In1, P1, p1, p2, p3, p4, p5⟩ := ih (s.size - (i + 1)) (by omega) g1 rfl a b k ha hb (by omega)
        generalize comp s (i + 1) a b k = r1 at P1 p1 p2 p4 p5 ⊢
        obtain ⟨In2, P2, q1, q2, q3, q4, q5⟩ := ih (s.size - (Flow.scan s (i + 1)).1) (by omega) g2 rfl a b r1.2 (by omega) (by omega) (by omega)
        generalize comp s (Flow.scan s (i + 1)).1 a b r1.2 = r2 at P2 q1 q2 q4 q5 ⊢
        refine ⟨fun x => In1 x ∨ In2 x, ?_, by show k ≤ r2.2; omega, by show r2.2 ≤ _; omega, by omega, by show (r1.1 ++ r2.1).length + 1 ≤ _; rw [List.length_append]; omega, ?_⟩
        · have Q := piece_alt P1 P2 (by rintro j ⟨j1, j2⟩ ⟨j3, j4⟩; omega)
          show Piece ((r1.1 ++ r2.1).map toTr) _ _ _ _ _
          rw [List.map_append]
          exact Q.congr (fun j => by show ((k ≤ j ∧ j < r1.2) ∨ (r1.2 ≤ j ∧ j < r2.2)) ↔ (k ≤ j ∧ j < r2.2); omega) (fun u => (Flow.has_alt hi hc u).symm)
        · intro x hx
          rcases List.mem_append.1 hx with hx | hx
          · exact (p5 x hx).more (.inl rfl) (.inl rfl) (Nat.le_refl _) q1
          · exact (q5 x hx).more (.inl rfl) (.inl rfl) p1 (Nat.le_refl _)
      · rw [comp_par hok hc]
        obtain ⟨In1, P1, p1, p2, p3, p4, p5⟩ := ih (s.size - (i + 1)) (by omega) g1 rfl k (k + 2) (k + 4) (by omega) (by omega) (by omega)
        generalize comp s (i + 1) k (k + 2) (k + 4) = r1 at P1 p1 p2 p4 p5 ⊢
        obtain ⟨In2, P2, q1, q2, q3, q4, q5⟩ := ih (s.size - (Flow.scan s (i + 1)).1) (by omega) g2 rfl (k + 1) (k + 3) r1.2 (by omega) (by omega) (by omega)
        generalize comp s (Flow.scan s (i + 1)).1 (k + 1) (k + 3) r1.2 = r2 at P2 q1 q2 q4 q5 ⊢
        refine ⟨fun x => ∃ x1 x2, Stage In1 k (k + 2) x1 ∧ Stage In2 (k + 1) (k + 3) x2 ∧ x = x1 ||| x2, ?_, by show k ≤ r2.2; omega, by show r2.2 ≤ _; omega, by omega, by show ((r1.1 ++ r2.1).length + 1 + 1) + 1 ≤ _; rw [List.length_append]; omega, ?_⟩
        · have Q := piece_par P1 P2 (a := a) (b := b) (by omega) (by omega) (by omega) (by omega) (by omega) (by omega) (by omega) (by omega) (by omega) (by omega) (by omega) (by omega) (by omega) (by omega) (by omega) (by omega)
            (by rintro j ⟨j1, j2⟩; exact ⟨fun h => by have := h.1; omega, by omega, by omega, by omega, by omega⟩) (by rintro j ⟨j1, j2⟩; omega)
          have e : ((⟨45, [a], [k, k + 1]⟩ :: ⟨45, [k + 2, k + 3], [b]⟩ :: (r1.1 ++ r2.1) : List Raw)).map toTr = ⟨45, 2 ^ a, 2 ^ k ||| 2 ^ (k + 1)⟩ :: ⟨45, 2 ^ (k + 2) ||| 2 ^ (k + 3), 2 ^ b⟩ :: (r1.1.map toTr ++ r2.1.map toTr) := by
            simp only [List.map_cons, List.map_append, toTr, psum_one]
            rw [psum_two (by omega) (by omega) (by omega), psum_two (by omega) (by omega) (by omega)]
          show Piece (((⟨45, [a], [k, k + 1]⟩ :: ⟨45, [k + 2, k + 3], [b]⟩ :: (r1.1 ++ r2.1) : List Raw)).map toTr) _ _ _ _ _
          rw [e]
          exact Q.congr (fun j => by show (j = k ∨ j = k + 2 ∨ j = k + 1 ∨ j = k + 3 ∨ (k + 4 ≤ j ∧ j < r1.2) ∨ (r1.2 ≤ j ∧ j < r2.2)) ↔ (k ≤ j ∧ j < r2.2); omega) (fun u => (Flow.has_par hi hc u).symm)
        · intro x hx
          have h45 : Flow.isLb 45 = true := by decide
          rcases List.mem_cons.1 hx with rfl | hx
          · exact ⟨h45, ⟨rises_one (by omega), by simp, fun x hx => .inl (List.mem_singleton.1 hx)⟩, ⟨rises_two (by omega) (by omega), by simp, fun x hx => .inr (by simp at hx; show k ≤ x ∧ x < r2.2; omega)⟩, by simp⟩
          · rcases List.mem_cons.1 hx with rfl | hx
            · exact ⟨h45, ⟨rises_two (by omega) (by omega), by simp, fun x hx => .inr (by simp at hx; show k ≤ x ∧ x < r2.2; omega)⟩, ⟨rises_one (by omega), by simp, fun x hx => .inl (List.mem_singleton.1 hx)⟩, by simp⟩
            · rcases List.mem_append.1 hx with hx | hx
              · exact (p5 x hx).more (.inr ⟨Nat.le_refl _, by show k < r2.2; omega⟩) (.inr ⟨by omega, by show k + 2 < r2.2; omega⟩) (by omega) q1
              · exact (q5 x hx).more (.inr ⟨by omega, by show k + 1 < r2.2; omega⟩) (.inr ⟨by omega, by show k + 3 < r2.2; omega⟩) (by omega) (Nat.le_refl _)
end Go.Proofs.Ytdlldljgogbiaab
