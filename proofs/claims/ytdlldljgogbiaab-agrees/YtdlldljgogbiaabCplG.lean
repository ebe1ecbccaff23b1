/-
  The program's compiler: what it lays.
-/
import Derived.Test.YtdlldljgogbiaabCplF
import Derived.Deep.RegionLaw
import Derived.Deep.RegionWith
namespace Go.Proofs.Ytdlldljgogbiaab
open Go.RowKit
set_option linter.unusedVariables false
set_option maxRecDepth 40000

/-- a gap is an argument: its block -/
theorem gap_in {w : World} {S : Nat → Prop} {B : Nat} {T : List Nat} {k : Nat} {G : List (Nat × Nat)} (x y : Nat) (hS : ∀ i, S i → i < w.heap.size) (h : Cpl w S B T k G) :
    Cpl (w.alloc (.cells #[.int .u8 (x : Int), .int .u8 (y : Int)] 86)) (fun i => S i ∨ i = w.heap.size) B T k G ∧ (∀ i, (S i ∨ i = w.heap.size) → i < (w.alloc (.cells #[.int .u8 (x : Int), .int .u8 (y : Int)] 86)).heap.size) ∧ Kept S w (w.alloc (.cells #[.int .u8 (x : Int), .int .u8 (y : Int)] 86)) := by
  refine ⟨h.more ((Below.refl _ _).alloc (Nat.le_refl _) _) (fun i hi => hi.imp id (fun e => by omega)), ?_, (Kept.refl _ _).alloc hS _⟩
  rintro i (hi | hi)
  · have := hS i hi; simp; omega
  · simp; omega

set_option maxHeartbeats 1000000 in
theorem layRepeated_any (T : List Nat) (k : Nat) (G : List (Nat × Nat)) (x y : Nat) (S : Nat → Prop) (B : Nat) (w : World) (hk : k ≤ 90) (hG : G.length ≤ 90) (hT : T.length ≤ 900) (hS : ∀ i, S i → i < w.heap.size) (h : Cpl w S B T k G) :
    Calls Try.prog 73 #[.pointer (some ⟨B, 0, none⟩), .agg #[.int .u8 (x : Int), .int .u8 (y : Int)]] w fun e w' => e = .returned (.tuple #[]) ∧ Cpl w' S B (T ++ [59, 45, x, 62, 65 + k] ++ [59, 45, 65 + k, 62, y]) (k + 1) (G ++ [(65 + k, 65 + k)]) ∧ Kept S w w' := by
  obtain ⟨c0, s0, k0⟩ := gap_in x y hS h
  have C0 : Hid (Cpl (w.alloc (.cells #[.int .u8 (x : Int), .int .u8 (y : Int)] 86)) (fun i => S i ∨ i = w.heap.size) B T k G) := c0
  have S0 : Hid (∀ i, (S i ∨ i = w.heap.size) → i < (w.alloc (.cells #[.int .u8 (x : Int), .int .u8 (y : Int)] 86)).heap.size) := s0
  have K0 : Hid (Kept S w (w.alloc (.cells #[.int .u8 (x : Int), .int .u8 (y : Int)] 86))) := k0
  have N0 : Hid (Blk (w.alloc (.cells #[.int .u8 (x : Int), .int .u8 (y : Int)] 86)) w.heap.size #[.int .u8 (x : Int), .int .u8 (y : Int)] 86) := Blk.new _ _ _
  have cn : ∀ W, Cpl W (fun i => S i ∨ i = w.heap.size) B T k G → Calls Try.prog 42 #[.pointer (some ⟨B, 0, none⟩)] W fun e w' => e = .returned (.int .u8 ((65 + k : Nat) : Int)) ∧ Cpl w' (fun i => S i ∨ i = w.heap.size) B T (k + 1) G ∧ Kept (fun i => S i ∨ i = w.heap.size) W w' := fun W hW => newPlace_any T k G _ B W (by omega) hW
  obtain ⟨q, hq⟩ : ∃ q, q = 65 + k := ⟨_, rfl⟩
  rw [← hq] at cn ⊢
  have c1 : ∀ W, (∀ i, (S i ∨ i = w.heap.size) → i < W.heap.size) → Cpl W (fun i => S i ∨ i = w.heap.size) B T (k + 1) G → Calls Try.prog 74 #[.pointer (some ⟨B, 0, none⟩), .int .u8 45, .int .u8 (x : Int), .int .u8 (q : Int)] W fun e w' => e = .returned (.tuple #[]) ∧ Cpl w' (fun i => S i ∨ i = w.heap.size) B (T ++ [59, 45, x, 62, q]) (k + 1) G ∧ Kept (fun i => S i ∨ i = w.heap.size) W w' := fun W hs hW => layStep_any T (k + 1) G 45 x q _ B W (by omega) hs hW
  have c2 : ∀ W, (∀ i, (S i ∨ i = w.heap.size) → i < W.heap.size) → Cpl W (fun i => S i ∨ i = w.heap.size) B (T ++ [59, 45, x, 62, q]) (k + 1) G → Calls Try.prog 74 #[.pointer (some ⟨B, 0, none⟩), .int .u8 45, .int .u8 (q : Int), .int .u8 (y : Int)] W fun e w' => e = .returned (.tuple #[]) ∧ Cpl w' (fun i => S i ∨ i = w.heap.size) B (T ++ [59, 45, x, 62, q] ++ [59, 45, q, 62, y]) (k + 1) G ∧ Kept (fun i => S i ∨ i = w.heap.size) W w' := fun W hs hW => layStep_any _ (k + 1) G 45 q y _ B W (by simp; omega) hs hW
  have c3 : ∀ W, (∀ i, (S i ∨ i = w.heap.size) → i < W.heap.size) → Cpl W (fun i => S i ∨ i = w.heap.size) B (T ++ [59, 45, x, 62, q] ++ [59, 45, q, 62, y]) (k + 1) G → Calls Try.prog 43 #[.pointer (some ⟨B, 0, none⟩), .int .u8 (q : Int), .int .u8 (q : Int)] W fun e w' => e = .returned (.tuple #[]) ∧ Cpl w' (fun i => S i ∨ i = w.heap.size) B (T ++ [59, 45, x, 62, q] ++ [59, 45, q, 62, y]) (k + 1) (G ++ [(q, q)]) ∧ Kept (fun i => S i ∨ i = w.heap.size) W w' := fun W hs hW => open_any _ (k + 1) G q q _ B W (by omega) hs hW
  have tok : True := trivial
  clear h c0 s0 k0 hq
  go_enter Try.func73, Try.ntmps73
  go_wp2_with (first
    | (go_at_call 42; refine (cn _ C0.out).mono ?_; rintro e w1 ⟨rfl, hc, hk1⟩; have C1 : Hid (Cpl w1 (fun i => S i ∨ i = w.heap.size) B T (k + 1) G) := hc; have K1 : Hid (Kept S w w1) := K0.out.trans (hk1.mono (fun i hi => .inl hi)); have S1 : Hid (∀ i, (S i ∨ i = w.heap.size) → i < w1.heap.size) := (fun i hi => Nat.lt_of_lt_of_le (S0.out i hi) hk1.size); have N1 : Hid (Blk w1 w.heap.size #[.int .u8 (x : Int), .int .u8 (y : Int)] 86) := N0.out.kept hk1 (.inr rfl); have n10 : w1.cell? ⟨w.heap.size, 0, none⟩ = some (.int .u8 (x : Int)) := N1.out.cell 0; have z10 := N1.out.lt; clear hc hk1)
    | (go_at_call 74; have _t := tok; refine (c1 _ S1.out C1.out).mono ?_; rintro e w2 ⟨rfl, hc, hk1⟩; have C2 : Hid (Cpl w2 (fun i => S i ∨ i = w.heap.size) B (T ++ [59, 45, x, 62, q]) (k + 1) G) := hc; have K2 : Hid (Kept S w w2) := K1.out.trans (hk1.mono (fun i hi => .inl hi)); have S2 : Hid (∀ i, (S i ∨ i = w.heap.size) → i < w2.heap.size) := (fun i hi => Nat.lt_of_lt_of_le (S1.out i hi) hk1.size); have N2 : Hid (Blk w2 w.heap.size #[.int .u8 (x : Int), .int .u8 (y : Int)] 86) := N1.out.kept hk1 (.inr rfl); have n21 : w2.cell? ⟨w.heap.size, 1, none⟩ = some (.int .u8 (y : Int)) := N2.out.cell 1; have z20 := N2.out.lt; clear hc hk1 tok)
    | (go_at_call 74; refine (c2 _ S2.out C2.out).mono ?_; rintro e w3 ⟨rfl, hc, hk1⟩; have C3 : Hid (Cpl w3 (fun i => S i ∨ i = w.heap.size) B (T ++ [59, 45, x, 62, q] ++ [59, 45, q, 62, y]) (k + 1) G) := hc; have K3 : Hid (Kept S w w3) := K2.out.trans (hk1.mono (fun i hi => .inl hi)); have S3 : Hid (∀ i, (S i ∨ i = w.heap.size) → i < w3.heap.size) := (fun i hi => Nat.lt_of_lt_of_le (S2.out i hi) hk1.size); clear hc hk1)
    | (go_at_call 43; refine (c3 _ S3.out C3.out).mono ?_; rintro e w4 ⟨rfl, hc, hk1⟩; have C4 : Hid (Cpl w4 S B (T ++ [59, 45, x, 62, q] ++ [59, 45, q, 62, y]) (k + 1) (G ++ [(q, q)])) := hc.more (Below.refl _ _) (fun i hi => .inl (.inl hi)); have K4 : Hid (Kept S w w4) := K3.out.trans (hk1.mono (fun i hi => .inl hi)); clear hc hk1))
  go_end0
  exact ⟨rfl, C4.out, K4.out⟩

set_option maxHeartbeats 4000000 in
theorem laySideBySide_any (T : List Nat) (k : Nat) (G : List (Nat × Nat)) (x y : Nat) (S : Nat → Prop) (B : Nat) (w : World) (hk : k ≤ 90) (hG : G.length ≤ 90) (hT : T.length ≤ 900) (hS : ∀ i, S i → i < w.heap.size) (h : Cpl w S B T k G) :
    Calls Try.prog 72 #[.pointer (some ⟨B, 0, none⟩), .agg #[.int .u8 (x : Int), .int .u8 (y : Int)]] w fun e w' => e = .returned (.tuple #[]) ∧ Cpl w' S B (T ++ [59, 45, x, 62, 65 + k, 65 + (k + 1)] ++ [59, 45, 65 + (k + 2), 65 + (k + 3), 62, y]) (k + 4) (G ++ [(65 + (k + 1), 65 + (k + 3))] ++ [(65 + k, 65 + (k + 2))]) ∧ Kept S w w' := by
  obtain ⟨i0, hi, hz0, hz1, hz2⟩ := info_parts Try.infoB
  obtain ⟨c0, s0, k0⟩ := gap_in x y hS h
  have C0 : Hid (Cpl (w.alloc (.cells #[.int .u8 (x : Int), .int .u8 (y : Int)] 86)) (fun i => S i ∨ i = w.heap.size) B T k G) := c0
  have S0 : Hid (∀ i, (S i ∨ i = w.heap.size) → i < (w.alloc (.cells #[.int .u8 (x : Int), .int .u8 (y : Int)] 86)).heap.size) := s0
  have K0 : Hid (Kept S w (w.alloc (.cells #[.int .u8 (x : Int), .int .u8 (y : Int)] 86))) := k0
  have N0 : Hid (Blk (w.alloc (.cells #[.int .u8 (x : Int), .int .u8 (y : Int)] 86)) w.heap.size #[.int .u8 (x : Int), .int .u8 (y : Int)] 86) := Blk.new _ _ _
  have cn : ∀ j W, j ≤ 3 → Cpl W (fun i => S i ∨ i = w.heap.size) B T (k + j) G → Calls Try.prog 42 #[.pointer (some ⟨B, 0, none⟩)] W fun e w' => e = .returned (.int .u8 ((65 + (k + j) : Nat) : Int)) ∧ Cpl w' (fun i => S i ∨ i = w.heap.size) B T (k + j + 1) G ∧ Kept (fun i => S i ∨ i = w.heap.size) W w' := fun j W hj hW => newPlace_any T (k + j) G _ B W (by omega) hW
  have cn0 := fun W => cn 0 W (by omega)
  have cn1 := fun W => cn 1 W (by omega)
  have cn2 := fun W => cn 2 W (by omega)
  have cn3 := fun W => cn 3 W (by omega)
  clear cn
  rw [Nat.add_zero] at cn0
  obtain ⟨q0, hq0⟩ : ∃ q, q = 65 + k := ⟨_, rfl⟩
  obtain ⟨q1, hq1⟩ : ∃ q, q = 65 + (k + 1) := ⟨_, rfl⟩
  obtain ⟨q2, hq2⟩ : ∃ q, q = 65 + (k + 2) := ⟨_, rfl⟩
  obtain ⟨q3, hq3⟩ : ∃ q, q = 65 + (k + 3) := ⟨_, rfl⟩
  rw [← hq0] at cn0 ⊢
  rw [← hq1] at cn1 ⊢
  rw [← hq2] at cn2 ⊢
  rw [← hq3] at cn3 ⊢
  clear h c0 s0 k0 hq0 hq1 hq2 hq3
  go_enter Try.func72, Try.ntmps72
  have t0 : True := trivial
  have t1 : True := trivial
  have t2 : True := trivial
  go_wp2_with (first
    | (go_at_call 42; have _t := t0; refine (cn0 _ C0.out).mono ?_; rintro e w1 ⟨rfl, hc, hk1⟩; have C1 : Hid (Cpl w1 (fun i => S i ∨ i = w.heap.size) B T (k + 1) G) := hc; have K1 : Hid (Kept (fun i => S i ∨ i = w.heap.size) _ w1) := hk1; clear hc hk1 t0)
    | (go_at_call 42; have _t := t1; refine (cn1 _ C1.out).mono ?_; rintro e w2 ⟨rfl, hc, hk1⟩; have C2 : Hid (Cpl w2 (fun i => S i ∨ i = w.heap.size) B T (k + 2) G) := hc; have K2 : Hid (Kept (fun i => S i ∨ i = w.heap.size) _ w2) := K1.out.trans hk1; clear hc hk1 t1)
    | (go_at_call 42; have _t := t2; refine (cn2 _ C2.out).mono ?_; rintro e w3 ⟨rfl, hc, hk1⟩; have C3 : Hid (Cpl w3 (fun i => S i ∨ i = w.heap.size) B T (k + 3) G) := hc; have K3 : Hid (Kept (fun i => S i ∨ i = w.heap.size) _ w3) := K2.out.trans hk1; clear hc hk1 t2)
    | (go_at_call 42; refine (cn3 _ C3.out).mono ?_; rintro e w4 ⟨rfl, hc, hk1⟩; have C4 : Hid (Cpl w4 (fun i => S i ∨ i = w.heap.size) B T (k + 4) G) := hc; have K4 : Hid (Kept (fun i => S i ∨ i = w.heap.size) _ w4) := K3.out.trans hk1; have N4 : Hid (Blk w4 w.heap.size #[.int .u8 (x : Int), .int .u8 (y : Int)] 86) := N0.out.kept K4.out (.inr rfl); have S4 : Hid (∀ i, (S i ∨ i = w.heap.size) → i < w4.heap.size) := (fun i hi => Nat.lt_of_lt_of_le (S0.out i hi) K4.out.size); have L4 : Hid (Kept S w w4) := K0.out.trans (K4.out.mono (fun i hi => .inl hi)); clear hc hk1))
  clear C0 C1 C2 C3 K1 K2 K3 cn0 cn1 cn2 cn3 K0 K4 N0 S0
  obtain ⟨aT, cT, aG, cG, ca⟩ := C4.out
  have CA : Hid (CplA w4 (fun i => S i ∨ i = w.heap.size) B aT cT aG cG T (k + 4) G) := ca
  have RT : Hid (w4.ownsRow 0 5 1 (.slice aT T.length cT) T.length (cellsC T)) := ca.rT
  have x0 : w4.cell? ⟨B, 0, none⟩ = some (.slice aT T.length cT) := ca.blk.cell 0
  have zB := ca.blk.lt
  have n0 : w4.cell? ⟨w.heap.size, 0, none⟩ = some (.int .u8 (x : Int)) := N4.out.cell 0
  have zN := N4.out.lt
  clear ca C4
  go_region_law (refine step_append_lies _ rfl (.tmp 20) (.tmp 25) 73 rfl 0 5 i0 (.int .u8 0) 1 1 Try.underlying73 hi hz0 hz1 hz2 rfl (by decide) (.slice aT T.length cT) _ _ (by simp [Act.eval]) ((RT.out.alloc _).drew) ⟨w4.heap.size, 0, none⟩ 6 6 [.int .u8 59, .int .u8 45, .int .u8 (x : Int), .int .u8 62, .int .u8 (q0 : Int), .int .u8 (q1 : Int)] (by simp [Act.eval]) rfl (World.news_of_block (cs := #[.int .u8 59, .int .u8 45, .int .u8 (x : Int), .int .u8 62, .int .u8 (q0 : Int), .int .u8 (q1 : Int)]) ((Blk.new w4 _ _).drew)) (fun x hx => by simp at hx; rcases hx with rfl | rfl | rfl | rfl | rfl | rfl <;> rfl) (by decide) (by unfold maxLen; omega) (by omega) (by simp) _ rfl ?_; intro g1 c1 w5 own1 gr1 at1 lt1; rw [ownBlock_slice] at gr1 at1; obtain ⟨x3, f3, z3, F1, F2⟩ := cpl_text (N := [59, 45, x, 62, q0, q1]) CA.out (((Below.refl _ _).alloc (Nat.le_refl _) _).drew) S4.out gr1 at1 own1; have FF : Hid _ := F1; have FE : Hid _ := F2; clear gr1 own1 at1 lt1 F1 F2)
  all_goals
    clear x3 f3 z3 x0 zB n0 zN CA RT
    generalize w5.setCell ⟨B, 0, none⟩ (.slice (some ⟨g1, 0, none⟩) (T.length + 6) c1) = U at FF FE ⊢
    have NU : Hid (Blk U w.heap.size #[.int .u8 (x : Int), .int .u8 (y : Int)] 86) := N4.out.kept FE.out (.inr rfl)
    have SU : Hid (∀ i, (S i ∨ i = w.heap.size) → i < U.heap.size) := fun i hi => Nat.lt_of_lt_of_le (S4.out i hi) FE.out.size
    have LU : Hid (Kept S w U) := L4.out.trans (FE.out.mono (fun i hi => .inl hi))
    obtain ⟨T2, hT2⟩ : ∃ T2, T2 = T ++ [59, 45, x, 62, q0, q1] := ⟨_, rfl⟩
    have ET : Hid (T2 = T ++ [59, 45, x, 62, q0, q1]) := hT2
    have hT2l : T2.length ≤ 906 := by rw [hT2]; simp; omega
    rw [← hT2] at FF
    obtain ⟨aT2, cT2, aG2, cG2, ca⟩ := FF.out
    have CA : Hid (CplA U (fun i => S i ∨ i = w.heap.size) B aT2 cT2 aG2 cG2 T2 (k + 4) G) := ca
    have RT : Hid (U.ownsRow 0 5 1 (.slice aT2 T2.length cT2) T2.length (cellsC T2)) := ca.rT
    have x0 : U.cell? ⟨B, 0, none⟩ = some (.slice aT2 T2.length cT2) := ca.blk.cell 0
    have zB := ca.blk.lt
    have n1 : U.cell? ⟨w.heap.size, 1, none⟩ = some (.int .u8 (y : Int)) := NU.out.cell 1
    have zN := NU.out.lt
    clear ca hT2 FF FE N4 S4 L4 hT
    go_wp2
    go_region_law (refine step_append_lies _ rfl (.tmp 33) (.tmp 38) 73 rfl 0 5 i0 (.int .u8 0) 1 1 Try.underlying73 hi hz0 hz1 hz2 rfl (by decide) (.slice aT2 T2.length cT2) _ _ (by simp [Act.eval]) ((RT.out.alloc _).drew) ⟨U.heap.size, 0, none⟩ 6 6 [.int .u8 59, .int .u8 45, .int .u8 (q2 : Int), .int .u8 (q3 : Int), .int .u8 62, .int .u8 (y : Int)] (by simp [Act.eval]) rfl (World.news_of_block (cs := #[.int .u8 59, .int .u8 45, .int .u8 (q2 : Int), .int .u8 (q3 : Int), .int .u8 62, .int .u8 (y : Int)]) ((Blk.new U _ _).drew)) (fun x hx => by simp at hx; rcases hx with rfl | rfl | rfl | rfl | rfl | rfl <;> rfl) (by decide) (by unfold maxLen; omega) (by omega) (by simp) _ rfl ?_; intro g2 c2 w6 own1 gr1 at1 lt1; rw [ownBlock_slice] at gr1 at1; obtain ⟨x3, f3, z3, F1, F2⟩ := cpl_text (N := [59, 45, q2, q3, 62, y]) CA.out (((Below.refl _ _).alloc (Nat.le_refl _) _).drew) SU.out gr1 at1 own1; have FF : Hid _ := F1; have FE : Hid _ := F2; clear gr1 own1 at1 lt1 F1 F2)
    all_goals
      clear x3 f3 z3 x0 zB n1 zN CA RT
      generalize w6.setCell ⟨B, 0, none⟩ (.slice (some ⟨g2, 0, none⟩) (T2.length + 6) c2) = V at FF FE ⊢
      have SV : Hid (∀ i, (S i ∨ i = w.heap.size) → i < V.heap.size) := fun i hi => Nat.lt_of_lt_of_le (SU.out i hi) FE.out.size
      have LV : Hid (Kept S w V) := LU.out.trans (FE.out.mono (fun i hi => .inl hi))
      have o1 : ∀ W, (∀ i, (S i ∨ i = w.heap.size) → i < W.heap.size) → Cpl W (fun i => S i ∨ i = w.heap.size) B (T2 ++ [59, 45, q2, q3, 62, y]) (k + 4) G → Calls Try.prog 43 #[.pointer (some ⟨B, 0, none⟩), .int .u8 (q1 : Int), .int .u8 (q3 : Int)] W fun e w' => e = .returned (.tuple #[]) ∧ Cpl w' (fun i => S i ∨ i = w.heap.size) B (T2 ++ [59, 45, q2, q3, 62, y]) (k + 4) (G ++ [(q1, q3)]) ∧ Kept (fun i => S i ∨ i = w.heap.size) W w' := fun W hs hW => open_any _ (k + 4) G q1 q3 _ B W (by omega) hs hW
      have o2 : ∀ W, (∀ i, (S i ∨ i = w.heap.size) → i < W.heap.size) → Cpl W (fun i => S i ∨ i = w.heap.size) B (T2 ++ [59, 45, q2, q3, 62, y]) (k + 4) (G ++ [(q1, q3)]) → Calls Try.prog 43 #[.pointer (some ⟨B, 0, none⟩), .int .u8 (q0 : Int), .int .u8 (q2 : Int)] W fun e w' => e = .returned (.tuple #[]) ∧ Cpl w' (fun i => S i ∨ i = w.heap.size) B (T2 ++ [59, 45, q2, q3, 62, y]) (k + 4) (G ++ [(q1, q3)] ++ [(q0, q2)]) ∧ Kept (fun i => S i ∨ i = w.heap.size) W w' := fun W hs hW => open_any _ (k + 4) _ q0 q2 _ B W (by simp; omega) hs hW
      have tok : True := trivial
      clear hi hz0 hz1 hz2 LU SU
      go_wp2_with (first
        | (go_at_call 43; have _t := tok; refine (o1 _ SV.out FF.out).mono ?_; rintro e w7 ⟨rfl, hc, hk1⟩; have C7 : Hid (Cpl w7 (fun i => S i ∨ i = w.heap.size) B (T2 ++ [59, 45, q2, q3, 62, y]) (k + 4) (G ++ [(q1, q3)])) := hc; have L7 : Hid (Kept S w w7) := LV.out.trans (hk1.mono (fun i hi => .inl hi)); have S7 : Hid (∀ i, (S i ∨ i = w.heap.size) → i < w7.heap.size) := (fun i hi => Nat.lt_of_lt_of_le (SV.out i hi) hk1.size); clear hc hk1 tok)
        | (go_at_call 43; refine (o2 _ S7.out C7.out).mono ?_; rintro e w8 ⟨rfl, hc, hk1⟩; have C8 : Hid (Cpl w8 S B (T2 ++ [59, 45, q2, q3, 62, y]) (k + 4) (G ++ [(q1, q3)] ++ [(q0, q2)])) := hc.more (Below.refl _ _) (fun i hi => .inl (.inl hi)); have L8 : Hid (Kept S w w8) := L7.out.trans (hk1.mono (fun i hi => .inl hi)); clear hc hk1))
      go_end0
      have c8 := C8.out
      rw [ET.out] at c8
      exact ⟨rfl, c8, L8.out⟩
end Go.Proofs.Ytdlldljgogbiaab
