/-
  The program's compiler: one sign.
-/
import Derived.Test.YtdlldljgogbiaabCplG
namespace Go.Proofs.Ytdlldljgogbiaab
open Go.RowKit
set_option linter.unusedVariables false
set_option maxRecDepth 40000

/-- what one sign makes of text, places and gaps -/
def laidT (c x y k : Nat) (T : List Nat) : List Nat :=
  if c = 46 ∨ c = 43 then T else if c = 38 then T ++ [59, 45, x, 62, 65 + k, 65 + (k + 1)] ++ [59, 45, 65 + (k + 2), 65 + (k + 3), 62, y] else if c = 42 then T ++ [59, 45, x, 62, 65 + k] ++ [59, 45, 65 + k, 62, y] else T ++ [59, c, x, 62, y]
def laidK (c k : Nat) : Nat := if c = 46 ∨ c = 42 then k + 1 else if c = 38 then k + 4 else k
def laidG (c x y k : Nat) (G : List (Nat × Nat)) : List (Nat × Nat) :=
  if c = 46 then G ++ [(65 + k, y)] ++ [(x, 65 + k)] else if c = 43 then G ++ [(x, y)] ++ [(x, y)] else if c = 38 then G ++ [(65 + (k + 1), 65 + (k + 3))] ++ [(65 + k, 65 + (k + 2))] else if c = 42 then G ++ [(65 + k, 65 + k)] else G

set_option maxHeartbeats 4000000 in
theorem lay_any (c : Nat) (T : List Nat) (k : Nat) (G : List (Nat × Nat)) (x y : Nat) (S : Nat → Prop) (B : Nat) (w : World) (hk : k ≤ 90) (hG : G.length ≤ 80) (hT : T.length ≤ 900) (hS : ∀ i, S i → i < w.heap.size) (h : Cpl w S B T k G) :
    Calls Try.prog 44 #[.pointer (some ⟨B, 0, none⟩), .int .u8 (c : Int), .agg #[.int .u8 (x : Int), .int .u8 (y : Int)]] w fun e w' => e = .returned (.tuple #[]) ∧ Cpl w' S B (laidT c x y k T) (laidK c k) (laidG c x y k G) ∧ Kept S w w' := by
  obtain ⟨c0, s0, k0⟩ := gap_in x y hS h
  have C0 : Hid (Cpl (w.alloc (.cells #[.int .u8 (x : Int), .int .u8 (y : Int)] 86)) (fun i => S i ∨ i = w.heap.size) B T k G) := c0
  have S0 : Hid (∀ i, (S i ∨ i = w.heap.size) → i < (w.alloc (.cells #[.int .u8 (x : Int), .int .u8 (y : Int)] 86)).heap.size) := s0
  have K0 : Hid (Kept S w (w.alloc (.cells #[.int .u8 (x : Int), .int .u8 (y : Int)] 86))) := k0
  have N0 : Hid (Blk (w.alloc (.cells #[.int .u8 (x : Int), .int .u8 (y : Int)] 86)) w.heap.size #[.int .u8 (x : Int), .int .u8 (y : Int)] 86) := Blk.new _ _ _
  clear h c0 s0 k0
  by_cases h46 : c = 46
  · subst h46
    have e1 : laidT 46 x y k T = T := by simp [laidT]
    have e2 : laidK 46 k = k + 1 := by simp [laidK]
    have e3 : laidG 46 x y k G = G ++ [(65 + k, y)] ++ [(x, 65 + k)] := by simp [laidG]
    rw [e1, e2, e3]
    have cn : ∀ W, Cpl W (fun i => S i ∨ i = w.heap.size) B T k G → Calls Try.prog 42 #[.pointer (some ⟨B, 0, none⟩)] W fun e w' => e = .returned (.int .u8 ((65 + k : Nat) : Int)) ∧ Cpl w' (fun i => S i ∨ i = w.heap.size) B T (k + 1) G ∧ Kept (fun i => S i ∨ i = w.heap.size) W w' := fun W hW => newPlace_any T k G _ B W (by omega) hW
    obtain ⟨q, hq⟩ : ∃ q, q = 65 + k := ⟨_, rfl⟩
    rw [← hq] at cn ⊢
    have o1 : ∀ W, (∀ i, (S i ∨ i = w.heap.size) → i < W.heap.size) → Cpl W (fun i => S i ∨ i = w.heap.size) B T (k + 1) G → Calls Try.prog 43 #[.pointer (some ⟨B, 0, none⟩), .int .u8 (q : Int), .int .u8 (y : Int)] W fun e w' => e = .returned (.tuple #[]) ∧ Cpl w' (fun i => S i ∨ i = w.heap.size) B T (k + 1) (G ++ [(q, y)]) ∧ Kept (fun i => S i ∨ i = w.heap.size) W w' := fun W hs hW => open_any _ (k + 1) G q y _ B W (by omega) hs hW
    have o2 : ∀ W, (∀ i, (S i ∨ i = w.heap.size) → i < W.heap.size) → Cpl W (fun i => S i ∨ i = w.heap.size) B T (k + 1) (G ++ [(q, y)]) → Calls Try.prog 43 #[.pointer (some ⟨B, 0, none⟩), .int .u8 (x : Int), .int .u8 (q : Int)] W fun e w' => e = .returned (.tuple #[]) ∧ Cpl w' (fun i => S i ∨ i = w.heap.size) B T (k + 1) (G ++ [(q, y)] ++ [(x, q)]) ∧ Kept (fun i => S i ∨ i = w.heap.size) W w' := fun W hs hW => open_any _ (k + 1) _ x q _ B W (by simp; omega) hs hW
    have tok : True := trivial
    clear hq e1 e2 e3
    go_enter Try.func44, Try.ntmps44
    go_wp2_with (first
      | (go_at_call 42; refine (cn _ C0.out).mono ?_; rintro e w1 ⟨rfl, hc, hk1⟩; have C1 : Hid (Cpl w1 (fun i => S i ∨ i = w.heap.size) B T (k + 1) G) := hc; have K1 : Hid (Kept S w w1) := K0.out.trans (hk1.mono (fun i hi => .inl hi)); have S1 : Hid (∀ i, (S i ∨ i = w.heap.size) → i < w1.heap.size) := (fun i hi => Nat.lt_of_lt_of_le (S0.out i hi) hk1.size); have N1 : Hid (Blk w1 w.heap.size #[.int .u8 (x : Int), .int .u8 (y : Int)] 86) := N0.out.kept hk1 (.inr rfl); have n11 : w1.cell? ⟨w.heap.size, 1, none⟩ = some (.int .u8 (y : Int)) := N1.out.cell 1; have z10 := N1.out.lt; clear hc hk1)
      | (go_at_call 43; have _t := tok; refine (o1 _ S1.out C1.out).mono ?_; rintro e w2 ⟨rfl, hc, hk1⟩; have C2 : Hid (Cpl w2 (fun i => S i ∨ i = w.heap.size) B T (k + 1) (G ++ [(q, y)])) := hc; have K2 : Hid (Kept S w w2) := K1.out.trans (hk1.mono (fun i hi => .inl hi)); have S2 : Hid (∀ i, (S i ∨ i = w.heap.size) → i < w2.heap.size) := (fun i hi => Nat.lt_of_lt_of_le (S1.out i hi) hk1.size); have N2 : Hid (Blk w2 w.heap.size #[.int .u8 (x : Int), .int .u8 (y : Int)] 86) := N1.out.kept hk1 (.inr rfl); have n20 : w2.cell? ⟨w.heap.size, 0, none⟩ = some (.int .u8 (x : Int)) := N2.out.cell 0; have z20 := N2.out.lt; clear hc hk1 tok)
      | (go_at_call 43; refine (o2 _ S2.out C2.out).mono ?_; rintro e w3 ⟨rfl, hc, hk1⟩; have C3 : Hid (Cpl w3 S B T (k + 1) (G ++ [(q, y)] ++ [(x, q)])) := hc.more (Below.refl _ _) (fun i hi => .inl (.inl hi)); have K3 : Hid (Kept S w w3) := K2.out.trans (hk1.mono (fun i hi => .inl hi)); clear hc hk1))
    go_end0
    exact ⟨rfl, C3.out, K3.out⟩
  · by_cases h43 : c = 43
    · subst h43
      have e1 : laidT 43 x y k T = T := by simp [laidT]
      have e2 : laidK 43 k = k := by simp [laidK]
      have e3 : laidG 43 x y k G = G ++ [(x, y)] ++ [(x, y)] := by simp [laidG]
      rw [e1, e2, e3]
      have o1 : ∀ W, (∀ i, (S i ∨ i = w.heap.size) → i < W.heap.size) → Cpl W (fun i => S i ∨ i = w.heap.size) B T k G → Calls Try.prog 43 #[.pointer (some ⟨B, 0, none⟩), .int .u8 (x : Int), .int .u8 (y : Int)] W fun e w' => e = .returned (.tuple #[]) ∧ Cpl w' (fun i => S i ∨ i = w.heap.size) B T k (G ++ [(x, y)]) ∧ Kept (fun i => S i ∨ i = w.heap.size) W w' := fun W hs hW => open_any _ k G x y _ B W (by omega) hs hW
      have o2 : ∀ W, (∀ i, (S i ∨ i = w.heap.size) → i < W.heap.size) → Cpl W (fun i => S i ∨ i = w.heap.size) B T k (G ++ [(x, y)]) → Calls Try.prog 43 #[.pointer (some ⟨B, 0, none⟩), .int .u8 (x : Int), .int .u8 (y : Int)] W fun e w' => e = .returned (.tuple #[]) ∧ Cpl w' (fun i => S i ∨ i = w.heap.size) B T k (G ++ [(x, y)] ++ [(x, y)]) ∧ Kept (fun i => S i ∨ i = w.heap.size) W w' := fun W hs hW => open_any _ k _ x y _ B W (by simp; omega) hs hW
      have tok : True := trivial
      clear h46 e1 e2 e3
      go_enter Try.func44, Try.ntmps44
      go_wp2_with (first
        | (go_at_call 43; have _t := tok; refine (o1 _ S0.out C0.out).mono ?_; rintro e w2 ⟨rfl, hc, hk1⟩; have C2 : Hid (Cpl w2 (fun i => S i ∨ i = w.heap.size) B T k (G ++ [(x, y)])) := hc; have K2 : Hid (Kept S w w2) := K0.out.trans (hk1.mono (fun i hi => .inl hi)); have S2 : Hid (∀ i, (S i ∨ i = w.heap.size) → i < w2.heap.size) := (fun i hi => Nat.lt_of_lt_of_le (S0.out i hi) hk1.size); have N2 : Hid (Blk w2 w.heap.size #[.int .u8 (x : Int), .int .u8 (y : Int)] 86) := N0.out.kept hk1 (.inr rfl); have n20 : w2.cell? ⟨w.heap.size, 0, none⟩ = some (.int .u8 (x : Int)) := N2.out.cell 0; have n21 : w2.cell? ⟨w.heap.size, 1, none⟩ = some (.int .u8 (y : Int)) := N2.out.cell 1; have z20 := N2.out.lt; clear hc hk1 tok)
        | (go_at_call 43; refine (o2 _ S2.out C2.out).mono ?_; rintro e w3 ⟨rfl, hc, hk1⟩; have C3 : Hid (Cpl w3 S B T k (G ++ [(x, y)] ++ [(x, y)])) := hc.more (Below.refl _ _) (fun i hi => .inl (.inl hi)); have K3 : Hid (Kept S w w3) := K2.out.trans (hk1.mono (fun i hi => .inl hi)); clear hc hk1))
      go_end0
      exact ⟨rfl, C3.out, K3.out⟩
    · by_cases h38 : c = 38
      · subst h38
        have e1 : laidT 38 x y k T = T ++ [59, 45, x, 62, 65 + k, 65 + (k + 1)] ++ [59, 45, 65 + (k + 2), 65 + (k + 3), 62, y] := by simp [laidT]
        have e2 : laidK 38 k = k + 4 := by simp [laidK]
        have e3 : laidG 38 x y k G = G ++ [(65 + (k + 1), 65 + (k + 3))] ++ [(65 + k, 65 + (k + 2))] := by simp [laidG]
        have cp := laySideBySide_any T k G x y _ B _ (by omega) (by omega) hT S0.out C0.out
        rw [← e1, ← e2, ← e3] at cp
        generalize laidT 38 x y k T = T1 at cp ⊢
        generalize laidK 38 k = k1 at cp ⊢
        generalize laidG 38 x y k G = G1 at cp ⊢
        clear h46 h43 e1 e2 e3
        go_enter Try.func44, Try.ntmps44
        go_wp2_with (go_at_call 72; refine cp.mono ?_; rintro e w1 ⟨rfl, hc, hk1⟩; have C3 : Hid (Cpl w1 S B T1 k1 G1) := hc.more (Below.refl _ _) (fun i hi => .inl (.inl hi)); have K3 : Hid (Kept S w w1) := K0.out.trans (hk1.mono (fun i hi => .inl hi)); clear hc hk1)
        go_end0
        exact ⟨rfl, C3.out, K3.out⟩
      · by_cases h42 : c = 42
        · subst h42
          have e1 : laidT 42 x y k T = T ++ [59, 45, x, 62, 65 + k] ++ [59, 45, 65 + k, 62, y] := by simp [laidT]
          have e2 : laidK 42 k = k + 1 := by simp [laidK]
          have e3 : laidG 42 x y k G = G ++ [(65 + k, 65 + k)] := by simp [laidG]
          have cp := layRepeated_any T k G x y _ B _ (by omega) (by omega) hT S0.out C0.out
          rw [← e1, ← e2, ← e3] at cp
          generalize laidT 42 x y k T = T1 at cp ⊢
          generalize laidK 42 k = k1 at cp ⊢
          generalize laidG 42 x y k G = G1 at cp ⊢
          clear h46 h43 h38 e1 e2 e3
          go_enter Try.func44, Try.ntmps44
          go_wp2_with (go_at_call 73; refine cp.mono ?_; rintro e w1 ⟨rfl, hc, hk1⟩; have C3 : Hid (Cpl w1 S B T1 k1 G1) := hc.more (Below.refl _ _) (fun i hi => .inl (.inl hi)); have K3 : Hid (Kept S w w1) := K0.out.trans (hk1.mono (fun i hi => .inl hi)); clear hc hk1)
          go_end0
          exact ⟨rfl, C3.out, K3.out⟩
        · have e1 : laidT c x y k T = T ++ [59, c, x, 62, y] := by simp [laidT, h46, h43, h38, h42]
          have e2 : laidK c k = k := by simp [laidK, h46, h42, h38]
          have e3 : laidG c x y k G = G := by simp [laidG, h46, h43, h38, h42]
          have t1 : ((c : Int) == 46) = false := by simp; omega
          have t2 : ((c : Int) == 43) = false := by simp; omega
          have t3 : ((c : Int) == 38) = false := by simp; omega
          have t4 : ((c : Int) == 42) = false := by simp; omega
          have cp := layStep_any T k G c x y _ B _ (by omega) S0.out C0.out
          rw [← e1] at cp
          rw [e2, e3]
          generalize laidT c x y k T = T1 at cp ⊢
          clear h46 h43 h38 h42 e1 e2 e3
          go_enter Try.func44, Try.ntmps44
          go_wp2_with (go_at_call 74; refine cp.mono ?_; rintro e w1 ⟨rfl, hc, hk1⟩; have C3 : Hid (Cpl w1 S B T1 k G) := hc.more (Below.refl _ _) (fun i hi => .inl (.inl hi)); have K3 : Hid (Kept S w w1) := K0.out.trans (hk1.mono (fun i hi => .inl hi)); clear hc hk1)
          go_end0
          exact ⟨rfl, C3.out, K3.out⟩
end Go.Proofs.Ytdlldljgogbiaab
