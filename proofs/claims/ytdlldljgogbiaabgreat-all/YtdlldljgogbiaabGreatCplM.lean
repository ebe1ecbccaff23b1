/-
  Laid as one: CplF, CplG, CplH.
-/
import Derived.Test.YtdlldljgogbiaabGreatKeep
import Derived.Test.YtdlldljgogbiaabGreatText
import Derived.Deep.AppendLies
import Derived.Deep.RegionLaw
import Derived.Deep.RegionWith
namespace Go.Proofs.YtdlldljgogbiaabGreat
open Go.RowKit
set_option linter.unusedVariables false
set_option maxRecDepth 40000

theorem Tryz.infoGap : (Tryz.prog.info? 144).map (fun i => (i.zero, i.size, i.bytes)) = some (some (.agg #[.int .u8 0, .int .u8 0]), 2, 2) := by kernel_rfl
/-- the cells of a text, and of gaps -/
def cellsC (T : List Nat) : List Value := T.map fun (c : Nat) => Value.int .u8 (c : Int)
theorem cellsC_append (a b : List Nat) : cellsC (a ++ b) = cellsC a ++ cellsC b := by simp [cellsC]
def cellsG (G : List (Nat × Nat)) : List Value := G.flatMap fun p => [.int .u8 (p.1 : Int), .int .u8 (p.2 : Int)]
theorem cellsG_snoc (G : List (Nat × Nat)) (p : Nat × Nat) : cellsG (G ++ [p]) = cellsG G ++ [.int .u8 (p.1 : Int), .int .u8 (p.2 : Int)] := by simp [cellsG]
theorem cellsG_len (G : List (Nat × Nat)) : (cellsG G).length = G.length * 2 := by
  induction G with
  | nil => rfl
  | cons p G ih =>
    show ([Value.int .u8 (p.1 : Int), Value.int .u8 (p.2 : Int)] ++ cellsG G).length = _
    rw [List.length_append, ih, List.length_cons]; simp; omega

/-- block B holds a compiler, and it touches none of the blocks S -/
structure CplA (w : World) (S : Nat → Prop) (B : Nat) (aT : Option Addr) (cT : Nat) (aG : Option Addr) (cG : Nat) (T : List Nat) (k : Nat) (G : List (Nat × Nat)) : Prop where
  low : ¬ S B
  lowT : ∀ g, obk aT = some g → ¬ S g
  lowG : ∀ g, obk aG = some g → ¬ S g
  nT : obk aT ≠ some B
  nG : obk aG ≠ some B
  apart : ∀ g, obk aT = some g → obk aG ≠ some g
  blk : Blk w B #[.slice aT T.length cT, .int .i64 (k : Int), .slice aG G.length cG] 140
  rT : w.ownsRow 0 5 1 (.slice aT T.length cT) T.length (cellsC T)
  rG : w.ownsRow 0 144 2 (.slice aG G.length cG) G.length (cellsG G)
def Cpl (w : World) (S : Nat → Prop) (B : Nat) (T : List Nat) (k : Nat) (G : List (Nat × Nat)) : Prop := ∃ aT cT aG cG, CplA w S B aT cT aG cG T k G
theorem CplA.below {w w1 : World} {S : Nat → Prop} {B : Nat} {aT aG : Option Addr} {cT cG : Nat} {T : List Nat} {k : Nat} {G : List (Nat × Nat)} (h : CplA w S B aT cT aG cG T k G) (hb : Below w.heap.size w w1) : CplA w1 S B aT cT aG cG T k G :=
  ⟨h.low, h.lowT, h.lowG, h.nT, h.nG, h.apart, h.blk.below hb h.blk.lt, owns_below h.rT hb (Nat.le_refl _), owns_below h.rG hb (Nat.le_refl _)⟩
theorem Cpl.below {w w1 : World} {S : Nat → Prop} {B : Nat} {T : List Nat} {k : Nat} {G : List (Nat × Nat)} (h : Cpl w S B T k G) (hb : Below w.heap.size w w1) : Cpl w1 S B T k G := by
  obtain ⟨aT, cT, aG, cG, h⟩ := h
  exact ⟨aT, cT, aG, cG, h.below hb⟩
/-- new blocks may be added to S -/
theorem Cpl.more {w w1 : World} {S S' : Nat → Prop} {B : Nat} {T : List Nat} {k : Nat} {G : List (Nat × Nat)} (h : Cpl w S B T k G) (hb : Below w.heap.size w w1) (hT : ∀ i, S' i → S i ∨ w.heap.size ≤ i) : Cpl w1 S' B T k G := by
  obtain ⟨aT, cT, aG, cG, h⟩ := h
  have no : ∀ i, i < w.heap.size → ¬ S i → ¬ S' i := fun i hi hs ht => by
    rcases hT i ht with x | x
    · exact hs x
    · omega
  have h' := h.below hb
  exact ⟨aT, cT, aG, cG, no B h.blk.lt h.low, fun g hg => no g (owns_lt h.rT hg).2 (h.lowT g hg), fun g hg => no g (owns_lt h.rG hg).2 (h.lowG g hg), h.nT, h.nG, h.apart, h'.blk, h'.rT, h'.rG⟩
theorem owns_grown {w w1 : World} {base : Nat} {e : TypeId} {size n c : Nat} {a : Option Addr} {xs : List Value} {row : Option Nat} (h : w.ownsRow base e size (.slice a n c) n xs) (hg : w.grownBy w1 row) (hne : ∀ g, obk a = some g → row ≠ some g) : w1.ownsRow base e size (.slice a n c) n xs := by
  obtain ⟨h1, h2⟩ := h
  refine ⟨h1, ?_⟩
  rcases h2 with h2 | ⟨g, cap, cur, hv, hg2, hh, r⟩
  · exact .inl h2
  · injection hv with e1 _ e3
    subst e1 e3
    have hlt : g < w.heap.size := by
      rcases Nat.lt_or_ge g w.heap.size with x | x
      · exact x
      · rw [Array.getElem?_eq_none x] at hh; cases hh
    exact .inr ⟨g, c, cur, rfl, hg2, by rw [hg.block g hlt (fun x => hne g rfl x.symm)]; exact hh, r⟩
/-- the text has grown -/
theorem cpl_text {w W w1 : World} {S : Nat → Prop} {B : Nat} {aT aG : Option Addr} {cT cG : Nat} {T N : List Nat} {k : Nat} {G : List (Nat × Nat)} {g c : Nat} (h : CplA w S B aT cT aG cG T k G) (hW : Below w.heap.size w W) (hS : ∀ i, S i → i < w.heap.size) (gr : W.grownBy w1 (obk aT)) (at1 : obk aT = some g ∨ g = W.heap.size)
    (own1 : w1.ownsRow 0 5 1 (.slice (some ⟨g, 0, none⟩) (T.length + N.length) c) (T.length + N.length) (cellsC T ++ cellsC N)) :
    w1.cell? ⟨B, 0, none⟩ = some (.slice aT T.length cT) ∧ w1.frozen? ⟨B, 0, none⟩ = false ∧ B < w1.heap.size ∧ Cpl (w1.setCell ⟨B, 0, none⟩ (.slice (some ⟨g, 0, none⟩) (T.length + N.length) c)) S B (T ++ N) k G ∧ Kept S w (w1.setCell ⟨B, 0, none⟩ (.slice (some ⟨g, 0, none⟩) (T.length + N.length) c)) := by
  have hz := hW.size
  have h' := h.below hW
  have K := h'.blk.grown gr (fun x => h.nT x.symm)
  have hBl := h.blk.lt
  have gB : g ≠ B := by
    rcases at1 with x | x
    · exact fun e => h.nT (by rw [x, e])
    · omega
  have gS : ∀ j, obk (some (⟨g, 0, none⟩ : Addr)) = some j → ¬ S j := by
    intro j hj
    have e : g = j := by simpa [obk] using hj
    subst e
    rcases at1 with x | x
    · exact h.lowT g x
    · intro y; have := hS g y; omega
  have gG : ∀ j, some g = some j → obk aG ≠ some j := by
    intro j hj
    injection hj with hj
    subst hj
    rcases at1 with x | x
    · exact h.apart g x
    · intro y; have := (owns_lt h.rG y).2; omega
  have RG := owns_grown h'.rG gr (fun j hj x => h.apart j x hj)
  refine ⟨K.cell 0, K.froz 0, K.lt, ⟨some ⟨g, 0, none⟩, c, aG, cG, h.low, gS, h.lowG, by show some g ≠ some B; simpa using gB, h.nG, gG, ?_, ?_, owns_far RG (by rw [ownBlock_slice]; exact h.nG) _⟩, ?_⟩
  · have := K.set 0 (.slice (some ⟨g, 0, none⟩) (T.length + N.length) c)
    rw [List.length_append]
    simpa using this
  · rw [cellsC_append, List.length_append]
    exact owns_far own1 (by show some g ≠ some B; simpa using gB) _
  · exact ((Kept.of_below hW hS).grown gr (fun i hi => by have := hS i hi; omega) h.lowT).setCell (p := ⟨B, 0, none⟩) h.low _
/-- the gaps have grown -/
theorem cpl_gaps {w W w1 : World} {S : Nat → Prop} {B : Nat} {aT aG : Option Addr} {cT cG : Nat} {T : List Nat} {k : Nat} {G : List (Nat × Nat)} {p : Nat × Nat} {g c : Nat} (h : CplA w S B aT cT aG cG T k G) (hW : Below w.heap.size w W) (hS : ∀ i, S i → i < w.heap.size) (gr : W.grownBy w1 (obk aG)) (at1 : obk aG = some g ∨ g = W.heap.size)
    (own1 : w1.ownsRow 0 144 2 (.slice (some ⟨g, 0, none⟩) (G.length + 1) c) (G.length + 1) (cellsG G ++ [.int .u8 (p.1 : Int), .int .u8 (p.2 : Int)])) :
    w1.cell? ⟨B, 2, none⟩ = some (.slice aG G.length cG) ∧ w1.frozen? ⟨B, 2, none⟩ = false ∧ B < w1.heap.size ∧ Cpl (w1.setCell ⟨B, 2, none⟩ (.slice (some ⟨g, 0, none⟩) (G.length + 1) c)) S B T k (G ++ [p]) ∧ Kept S w (w1.setCell ⟨B, 2, none⟩ (.slice (some ⟨g, 0, none⟩) (G.length + 1) c)) := by
  have hz := hW.size
  have h' := h.below hW
  have K := h'.blk.grown gr (fun x => h.nG x.symm)
  have hBl := h.blk.lt
  have gB : g ≠ B := by
    rcases at1 with x | x
    · exact fun e => h.nG (by rw [x, e])
    · omega
  have gS : ∀ j, obk (some (⟨g, 0, none⟩ : Addr)) = some j → ¬ S j := by
    intro j hj
    have e : g = j := by simpa [obk] using hj
    subst e
    rcases at1 with x | x
    · exact h.lowG g x
    · intro y; have := hS g y; omega
  have gT : ∀ j, obk aT = some j → some g ≠ some j := by
    intro j hj hx
    injection hx with hx
    subst hx
    rcases at1 with x | x
    · exact h.apart g hj x
    · have := (owns_lt h.rT hj).2; omega
  have RT := owns_grown h'.rT gr (fun j hj x => h.apart j hj x)
  refine ⟨K.cell 2, K.froz 2, K.lt, ⟨aT, cT, some ⟨g, 0, none⟩, c, h.low, h.lowT, gS, h.nT, by show some g ≠ some B; simpa using gB, gT, ?_, owns_far RT (by rw [ownBlock_slice]; exact h.nT) _, ?_⟩, ?_⟩
  · have := K.set 2 (.slice (some ⟨g, 0, none⟩) (G.length + 1) c)
    rw [List.length_append]
    simpa using this
  · rw [cellsG_snoc, List.length_append]
    exact owns_far own1 (by show some g ≠ some B; simpa using gB) _
  · exact ((Kept.of_below hW hS).grown gr (fun i hi => by have := hS i hi; omega) h.lowG).setCell (p := ⟨B, 2, none⟩) h.low _

theorem newPlace_any (T : List Nat) (k : Nat) (G : List (Nat × Nat)) (S : Nat → Prop) (B : Nat) (w : World) (hk : k ≤ 100) (h : Cpl w S B T k G) :
    Calls Tryz.prog 94 #[.pointer (some ⟨B, 0, none⟩)] w fun e w' => e = .returned (.int .u8 ((65 + k : Nat) : Int)) ∧ Cpl w' S B T (k + 1) G ∧ Kept S w w' := by
  obtain ⟨aT, cT, aG, cG, h⟩ := h
  have x1 : w.cell? ⟨B, 1, none⟩ = some (.int .i64 (k : Int)) := h.blk.cell 1
  have y1 := h.blk.froz 1
  have zB := h.blk.lt
  have F : Hid (Cpl (w.setCell ⟨B, 1, none⟩ (.int .i64 ((k : Int) + 1))) S B T (k + 1) G) := by
    refine ⟨aT, cT, aG, cG, h.low, h.lowT, h.lowG, h.nT, h.nG, h.apart, ?_, owns_far h.rT (by rw [ownBlock_slice]; exact h.nT) _, owns_far h.rG (by rw [ownBlock_slice]; exact h.nG) _⟩
    have := h.blk.set 1 (.int .i64 ((k : Int) + 1))
    simpa using this
  have E : Hid (Kept S w (w.setCell ⟨B, 1, none⟩ (.int .i64 ((k : Int) + 1)))) := (Kept.refl _ _).setCell (p := ⟨B, 1, none⟩) h.low _
  clear h
  go_enter Tryz.func94, Tryz.ntmps94
  go_wp2
  go_ret
  exact ⟨ret_int (by omega), F.out, E.out⟩

set_option maxHeartbeats 400000 in
theorem open_any (T : List Nat) (k : Nat) (G : List (Nat × Nat)) (x y : Nat) (S : Nat → Prop) (B : Nat) (w : World) (hG : G.length ≤ 100) (hS : ∀ i, S i → i < w.heap.size) (h : Cpl w S B T k G) :
    Calls Tryz.prog 95 #[.pointer (some ⟨B, 0, none⟩), .int .u8 (x : Int), .int .u8 (y : Int)] w fun e w' => e = .returned (.tuple #[]) ∧ Cpl w' S B T k (G ++ [(x, y)]) ∧ Kept S w w' := by
  obtain ⟨aT, cT, aG, cG, h⟩ := h
  obtain ⟨i0, hi, hz0, hz1, hz2⟩ := info_parts Tryz.infoGap
  have x2 : w.cell? ⟨B, 2, none⟩ = some (.slice aG G.length cG) := h.blk.cell 2
  have zB := h.blk.lt
  have CA : Hid (CplA w S B aT cT aG cG T k G) := h
  have RG : Hid (w.ownsRow 0 144 2 (.slice aG G.length cG) G.length (cellsG G)) := h.rG
  clear h
  go_enter Tryz.func95, Tryz.ntmps95
  go_wp2_with (at_builtin; go_must (refine wpList_append_lies _ rfl _ _ 138 rfl 0 144 i0 (.agg #[.int .u8 0, .int .u8 0]) 2 2 Tryz.underlying138 hi hz0 hz1 hz2 rfl (by decide) (.slice aG G.length cG) _ _ rfl (RG.out.alloc _) ⟨w.heap.size, 0, none⟩ 1 1 [.int .u8 (x : Int), .int .u8 (y : Int)] rfl rfl (World.news_of_block (cs := #[.int .u8 (x : Int), .int .u8 (y : Int)]) (Blk.new w _ _)) (fun x hx => by simp at hx; rcases hx with rfl | rfl <;> rfl) (by decide) (by unfold maxLen; omega) (by omega) (by simp) _ rfl ?_; intro g1 c1 w1 own1 gr1 at1 lt1; rw [ownBlock_slice] at gr1 at1; obtain ⟨x3, q3, z3, F1, F2⟩ := cpl_gaps (p := (x, y)) CA.out ((Below.refl _ _).alloc (Nat.le_refl _) _) hS gr1 at1 own1; have FF : Hid _ := F1; have FE : Hid _ := F2; clear gr1 own1 at1 lt1 F1 F2))
  go_end0
  exact ⟨rfl, FF.out, FE.out⟩

set_option maxHeartbeats 400000 in
theorem layStep_any (T : List Nat) (k : Nat) (G : List (Nat × Nat)) (c x y : Nat) (S : Nat → Prop) (B : Nat) (w : World) (hT : T.length ≤ 1000) (hS : ∀ i, S i → i < w.heap.size) (h : Cpl w S B T k G) :
    Calls Tryz.prog 113 #[.pointer (some ⟨B, 0, none⟩), .int .u8 (c : Int), .int .u8 (x : Int), .int .u8 (y : Int)] w fun e w' => e = .returned (.tuple #[]) ∧ Cpl w' S B (T ++ [59, c, x, 62, y]) k G ∧ Kept S w w' := by
  obtain ⟨aT, cT, aG, cG, h⟩ := h
  obtain ⟨i0, hi, hz0, hz1, hz2⟩ := info_parts Tryz.infoB
  have x0 : w.cell? ⟨B, 0, none⟩ = some (.slice aT T.length cT) := h.blk.cell 0
  have zB := h.blk.lt
  have CA : Hid (CplA w S B aT cT aG cG T k G) := h
  have RT : Hid (w.ownsRow 0 5 1 (.slice aT T.length cT) T.length (cellsC T)) := h.rT
  clear h
  go_enter Tryz.func113, Tryz.ntmps113
  go_wp2_with (at_builtin; go_must (refine wpList_append_lies _ rfl _ _ 82 rfl 0 5 i0 (.int .u8 0) 1 1 Tryz.underlying82 hi hz0 hz1 hz2 rfl (by decide) (.slice aT T.length cT) _ _ rfl (RT.out.alloc _) ⟨w.heap.size, 0, none⟩ 5 5 [.int .u8 59, .int .u8 (c : Int), .int .u8 (x : Int), .int .u8 62, .int .u8 (y : Int)] rfl rfl (World.news_of_block (cs := #[.int .u8 59, .int .u8 (c : Int), .int .u8 (x : Int), .int .u8 62, .int .u8 (y : Int)]) (Blk.new w _ _)) (fun x hx => by simp at hx; rcases hx with rfl | rfl | rfl | rfl | rfl <;> rfl) (by decide) (by unfold maxLen; omega) (by omega) (by simp) _ rfl ?_; intro g1 c1 w1 own1 gr1 at1 lt1; rw [ownBlock_slice] at gr1 at1; obtain ⟨x3, q3, z3, F1, F2⟩ := cpl_text (N := [59, c, x, 62, y]) CA.out ((Below.refl _ _).alloc (Nat.le_refl _) _) hS gr1 at1 own1; have FF : Hid _ := F1; have FE : Hid _ := F2; clear gr1 own1 at1 lt1 F1 F2))
  go_end0
  exact ⟨rfl, FF.out, FE.out⟩
end Go.Proofs.YtdlldljgogbiaabGreat
namespace Go.Proofs.YtdlldljgogbiaabGreat
open Go.RowKit
set_option linter.unusedVariables false
set_option maxRecDepth 40000

/-- a gap is an argument: its block -/
theorem gap_in {w : World} {S : Nat → Prop} {B : Nat} {T : List Nat} {k : Nat} {G : List (Nat × Nat)} (x y : Nat) (hS : ∀ i, S i → i < w.heap.size) (h : Cpl w S B T k G) :
    Cpl (w.alloc (.cells #[.int .u8 (x : Int), .int .u8 (y : Int)] 144)) (fun i => S i ∨ i = w.heap.size) B T k G ∧ (∀ i, (S i ∨ i = w.heap.size) → i < (w.alloc (.cells #[.int .u8 (x : Int), .int .u8 (y : Int)] 144)).heap.size) ∧ Kept S w (w.alloc (.cells #[.int .u8 (x : Int), .int .u8 (y : Int)] 144)) := by
  refine ⟨h.more ((Below.refl _ _).alloc (Nat.le_refl _) _) (fun i hi => hi.imp id (fun e => by omega)), ?_, (Kept.refl _ _).alloc hS _⟩
  rintro i (hi | hi)
  · have := hS i hi; simp; omega
  · simp; omega

set_option maxHeartbeats 1000000 in
theorem layRepeated_any (T : List Nat) (k : Nat) (G : List (Nat × Nat)) (x y : Nat) (S : Nat → Prop) (B : Nat) (w : World) (hk : k ≤ 90) (hG : G.length ≤ 90) (hT : T.length ≤ 900) (hS : ∀ i, S i → i < w.heap.size) (h : Cpl w S B T k G) :
    Calls Tryz.prog 112 #[.pointer (some ⟨B, 0, none⟩), .agg #[.int .u8 (x : Int), .int .u8 (y : Int)]] w fun e w' => e = .returned (.tuple #[]) ∧ Cpl w' S B (T ++ [59, 45, x, 62, 65 + k] ++ [59, 45, 65 + k, 62, y]) (k + 1) (G ++ [(65 + k, 65 + k)]) ∧ Kept S w w' := by
  obtain ⟨c0, s0, k0⟩ := gap_in x y hS h
  have C0 : Hid (Cpl (w.alloc (.cells #[.int .u8 (x : Int), .int .u8 (y : Int)] 144)) (fun i => S i ∨ i = w.heap.size) B T k G) := c0
  have S0 : Hid (∀ i, (S i ∨ i = w.heap.size) → i < (w.alloc (.cells #[.int .u8 (x : Int), .int .u8 (y : Int)] 144)).heap.size) := s0
  have K0 : Hid (Kept S w (w.alloc (.cells #[.int .u8 (x : Int), .int .u8 (y : Int)] 144))) := k0
  have N0 : Hid (Blk (w.alloc (.cells #[.int .u8 (x : Int), .int .u8 (y : Int)] 144)) w.heap.size #[.int .u8 (x : Int), .int .u8 (y : Int)] 144) := Blk.new _ _ _
  have cn : ∀ W, Cpl W (fun i => S i ∨ i = w.heap.size) B T k G → Calls Tryz.prog 94 #[.pointer (some ⟨B, 0, none⟩)] W fun e w' => e = .returned (.int .u8 ((65 + k : Nat) : Int)) ∧ Cpl w' (fun i => S i ∨ i = w.heap.size) B T (k + 1) G ∧ Kept (fun i => S i ∨ i = w.heap.size) W w' := fun W hW => newPlace_any T k G _ B W (by omega) hW
  obtain ⟨q, hq⟩ : ∃ q, q = 65 + k := ⟨_, rfl⟩
  rw [← hq] at cn ⊢
  have c1 : ∀ W, (∀ i, (S i ∨ i = w.heap.size) → i < W.heap.size) → Cpl W (fun i => S i ∨ i = w.heap.size) B T (k + 1) G → Calls Tryz.prog 113 #[.pointer (some ⟨B, 0, none⟩), .int .u8 45, .int .u8 (x : Int), .int .u8 (q : Int)] W fun e w' => e = .returned (.tuple #[]) ∧ Cpl w' (fun i => S i ∨ i = w.heap.size) B (T ++ [59, 45, x, 62, q]) (k + 1) G ∧ Kept (fun i => S i ∨ i = w.heap.size) W w' := fun W hs hW => layStep_any T (k + 1) G 45 x q _ B W (by omega) hs hW
  have c2 : ∀ W, (∀ i, (S i ∨ i = w.heap.size) → i < W.heap.size) → Cpl W (fun i => S i ∨ i = w.heap.size) B (T ++ [59, 45, x, 62, q]) (k + 1) G → Calls Tryz.prog 113 #[.pointer (some ⟨B, 0, none⟩), .int .u8 45, .int .u8 (q : Int), .int .u8 (y : Int)] W fun e w' => e = .returned (.tuple #[]) ∧ Cpl w' (fun i => S i ∨ i = w.heap.size) B (T ++ [59, 45, x, 62, q] ++ [59, 45, q, 62, y]) (k + 1) G ∧ Kept (fun i => S i ∨ i = w.heap.size) W w' := fun W hs hW => layStep_any _ (k + 1) G 45 q y _ B W (by simp; omega) hs hW
  have c3 : ∀ W, (∀ i, (S i ∨ i = w.heap.size) → i < W.heap.size) → Cpl W (fun i => S i ∨ i = w.heap.size) B (T ++ [59, 45, x, 62, q] ++ [59, 45, q, 62, y]) (k + 1) G → Calls Tryz.prog 95 #[.pointer (some ⟨B, 0, none⟩), .int .u8 (q : Int), .int .u8 (q : Int)] W fun e w' => e = .returned (.tuple #[]) ∧ Cpl w' (fun i => S i ∨ i = w.heap.size) B (T ++ [59, 45, x, 62, q] ++ [59, 45, q, 62, y]) (k + 1) (G ++ [(q, q)]) ∧ Kept (fun i => S i ∨ i = w.heap.size) W w' := fun W hs hW => open_any _ (k + 1) G q q _ B W (by omega) hs hW
  have tok : True := trivial
  clear h c0 s0 k0 hq
  go_enter Tryz.func112, Tryz.ntmps112
  go_wp2_with (first
    | (go_at_call 94; refine (cn _ C0.out).mono ?_; rintro e w1 ⟨rfl, hc, hk1⟩; have C1 : Hid (Cpl w1 (fun i => S i ∨ i = w.heap.size) B T (k + 1) G) := hc; have K1 : Hid (Kept S w w1) := K0.out.trans (hk1.mono (fun i hi => .inl hi)); have S1 : Hid (∀ i, (S i ∨ i = w.heap.size) → i < w1.heap.size) := (fun i hi => Nat.lt_of_lt_of_le (S0.out i hi) hk1.size); have N1 : Hid (Blk w1 w.heap.size #[.int .u8 (x : Int), .int .u8 (y : Int)] 144) := N0.out.kept hk1 (.inr rfl); have n10 : w1.cell? ⟨w.heap.size, 0, none⟩ = some (.int .u8 (x : Int)) := N1.out.cell 0; have z10 := N1.out.lt; clear hc hk1)
    | (go_at_call 113; have _t := tok; refine (c1 _ S1.out C1.out).mono ?_; rintro e w2 ⟨rfl, hc, hk1⟩; have C2 : Hid (Cpl w2 (fun i => S i ∨ i = w.heap.size) B (T ++ [59, 45, x, 62, q]) (k + 1) G) := hc; have K2 : Hid (Kept S w w2) := K1.out.trans (hk1.mono (fun i hi => .inl hi)); have S2 : Hid (∀ i, (S i ∨ i = w.heap.size) → i < w2.heap.size) := (fun i hi => Nat.lt_of_lt_of_le (S1.out i hi) hk1.size); have N2 : Hid (Blk w2 w.heap.size #[.int .u8 (x : Int), .int .u8 (y : Int)] 144) := N1.out.kept hk1 (.inr rfl); have n21 : w2.cell? ⟨w.heap.size, 1, none⟩ = some (.int .u8 (y : Int)) := N2.out.cell 1; have z20 := N2.out.lt; clear hc hk1 tok)
    | (go_at_call 113; refine (c2 _ S2.out C2.out).mono ?_; rintro e w3 ⟨rfl, hc, hk1⟩; have C3 : Hid (Cpl w3 (fun i => S i ∨ i = w.heap.size) B (T ++ [59, 45, x, 62, q] ++ [59, 45, q, 62, y]) (k + 1) G) := hc; have K3 : Hid (Kept S w w3) := K2.out.trans (hk1.mono (fun i hi => .inl hi)); have S3 : Hid (∀ i, (S i ∨ i = w.heap.size) → i < w3.heap.size) := (fun i hi => Nat.lt_of_lt_of_le (S2.out i hi) hk1.size); clear hc hk1)
    | (go_at_call 95; refine (c3 _ S3.out C3.out).mono ?_; rintro e w4 ⟨rfl, hc, hk1⟩; have C4 : Hid (Cpl w4 S B (T ++ [59, 45, x, 62, q] ++ [59, 45, q, 62, y]) (k + 1) (G ++ [(q, q)])) := hc.more (Below.refl _ _) (fun i hi => .inl (.inl hi)); have K4 : Hid (Kept S w w4) := K3.out.trans (hk1.mono (fun i hi => .inl hi)); clear hc hk1))
  go_end0
  exact ⟨rfl, C4.out, K4.out⟩

set_option maxHeartbeats 4000000 in
theorem laySideBySide_any (T : List Nat) (k : Nat) (G : List (Nat × Nat)) (x y : Nat) (S : Nat → Prop) (B : Nat) (w : World) (hk : k ≤ 90) (hG : G.length ≤ 90) (hT : T.length ≤ 900) (hS : ∀ i, S i → i < w.heap.size) (h : Cpl w S B T k G) :
    Calls Tryz.prog 111 #[.pointer (some ⟨B, 0, none⟩), .agg #[.int .u8 (x : Int), .int .u8 (y : Int)]] w fun e w' => e = .returned (.tuple #[]) ∧ Cpl w' S B (T ++ [59, 45, x, 62, 65 + k, 65 + (k + 1)] ++ [59, 45, 65 + (k + 2), 65 + (k + 3), 62, y]) (k + 4) (G ++ [(65 + (k + 1), 65 + (k + 3))] ++ [(65 + k, 65 + (k + 2))]) ∧ Kept S w w' := by
  obtain ⟨i0, hi, hz0, hz1, hz2⟩ := info_parts Tryz.infoB
  obtain ⟨c0, s0, k0⟩ := gap_in x y hS h
  have C0 : Hid (Cpl (w.alloc (.cells #[.int .u8 (x : Int), .int .u8 (y : Int)] 144)) (fun i => S i ∨ i = w.heap.size) B T k G) := c0
  have S0 : Hid (∀ i, (S i ∨ i = w.heap.size) → i < (w.alloc (.cells #[.int .u8 (x : Int), .int .u8 (y : Int)] 144)).heap.size) := s0
  have K0 : Hid (Kept S w (w.alloc (.cells #[.int .u8 (x : Int), .int .u8 (y : Int)] 144))) := k0
  have N0 : Hid (Blk (w.alloc (.cells #[.int .u8 (x : Int), .int .u8 (y : Int)] 144)) w.heap.size #[.int .u8 (x : Int), .int .u8 (y : Int)] 144) := Blk.new _ _ _
  have cn : ∀ j W, j ≤ 3 → Cpl W (fun i => S i ∨ i = w.heap.size) B T (k + j) G → Calls Tryz.prog 94 #[.pointer (some ⟨B, 0, none⟩)] W fun e w' => e = .returned (.int .u8 ((65 + (k + j) : Nat) : Int)) ∧ Cpl w' (fun i => S i ∨ i = w.heap.size) B T (k + j + 1) G ∧ Kept (fun i => S i ∨ i = w.heap.size) W w' := fun j W hj hW => newPlace_any T (k + j) G _ B W (by omega) hW
  have cn0 := fun W => cn 0 W (by omega)
  have cn1 := fun W => cn 1 W (by omega)
  have cn2 := fun W => cn 2 W (by omega)
  have cn3 := fun W => cn 3 W (by omega)
  clear cn
  rw [Nat.add_zero] at cn0
  obtain ⟨q0, hq0⟩ : ∃ q, q = 65 + k := ⟨_, rfl⟩
  obtain ⟨q1, hq1⟩ : ∃ q, q = 65 + (k + 1) := ⟨_, rfl⟩
  obtain ⟨q2, hq2⟩ : ∃ q, q = 65 + (k + 2) := ⟨_, rfl⟩
  obtain ⟨q3, hq3⟩ : ∃ q, q = 65 + (k + 3) := ⟨_, rfl⟩
  rw [← hq0] at cn0 ⊢
  rw [← hq1] at cn1 ⊢
  rw [← hq2] at cn2 ⊢
  rw [← hq3] at cn3 ⊢
  clear h c0 s0 k0 hq0 hq1 hq2 hq3
  go_enter Tryz.func111, Tryz.ntmps111
  have t0 : True := trivial
  have t1 : True := trivial
  have t2 : True := trivial
  go_wp2_with (first
    | (go_at_call 94; have _t := t0; refine (cn0 _ C0.out).mono ?_; rintro e w1 ⟨rfl, hc, hk1⟩; have C1 : Hid (Cpl w1 (fun i => S i ∨ i = w.heap.size) B T (k + 1) G) := hc; have K1 : Hid (Kept (fun i => S i ∨ i = w.heap.size) _ w1) := hk1; clear hc hk1 t0)
    | (go_at_call 94; have _t := t1; refine (cn1 _ C1.out).mono ?_; rintro e w2 ⟨rfl, hc, hk1⟩; have C2 : Hid (Cpl w2 (fun i => S i ∨ i = w.heap.size) B T (k + 2) G) := hc; have K2 : Hid (Kept (fun i => S i ∨ i = w.heap.size) _ w2) := K1.out.trans hk1; clear hc hk1 t1)
    | (go_at_call 94; have _t := t2; refine (cn2 _ C2.out).mono ?_; rintro e w3 ⟨rfl, hc, hk1⟩; have C3 : Hid (Cpl w3 (fun i => S i ∨ i = w.heap.size) B T (k + 3) G) := hc; have K3 : Hid (Kept (fun i => S i ∨ i = w.heap.size) _ w3) := K2.out.trans hk1; clear hc hk1 t2)
    | (go_at_call 94; refine (cn3 _ C3.out).mono ?_; rintro e w4 ⟨rfl, hc, hk1⟩; have C4 : Hid (Cpl w4 (fun i => S i ∨ i = w.heap.size) B T (k + 4) G) := hc; have K4 : Hid (Kept (fun i => S i ∨ i = w.heap.size) _ w4) := K3.out.trans hk1; have N4 : Hid (Blk w4 w.heap.size #[.int .u8 (x : Int), .int .u8 (y : Int)] 144) := N0.out.kept K4.out (.inr rfl); have S4 : Hid (∀ i, (S i ∨ i = w.heap.size) → i < w4.heap.size) := (fun i hi => Nat.lt_of_lt_of_le (S0.out i hi) K4.out.size); have L4 : Hid (Kept S w w4) := K0.out.trans (K4.out.mono (fun i hi => .inl hi)); clear hc hk1))
  clear C0 C1 C2 C3 K1 K2 K3 cn0 cn1 cn2 cn3 K0 K4 N0 S0
  obtain ⟨aT, cT, aG, cG, ca⟩ := C4.out
  have CA : Hid (CplA w4 (fun i => S i ∨ i = w.heap.size) B aT cT aG cG T (k + 4) G) := ca
  have RT : Hid (w4.ownsRow 0 5 1 (.slice aT T.length cT) T.length (cellsC T)) := ca.rT
  have x0 : w4.cell? ⟨B, 0, none⟩ = some (.slice aT T.length cT) := ca.blk.cell 0
  have zB := ca.blk.lt
  have n0 : w4.cell? ⟨w.heap.size, 0, none⟩ = some (.int .u8 (x : Int)) := N4.out.cell 0
  have zN := N4.out.lt
  clear ca C4
  go_region_law (refine step_append_lies _ rfl (.tmp 20) (.tmp 25) 82 rfl 0 5 i0 (.int .u8 0) 1 1 Tryz.underlying82 hi hz0 hz1 hz2 rfl (by decide) (.slice aT T.length cT) _ _ (by simp [Act.eval]) ((RT.out.alloc _).drew) ⟨w4.heap.size, 0, none⟩ 6 6 [.int .u8 59, .int .u8 45, .int .u8 (x : Int), .int .u8 62, .int .u8 (q0 : Int), .int .u8 (q1 : Int)] (by simp [Act.eval]) rfl (World.news_of_block (cs := #[.int .u8 59, .int .u8 45, .int .u8 (x : Int), .int .u8 62, .int .u8 (q0 : Int), .int .u8 (q1 : Int)]) ((Blk.new w4 _ _).drew)) (fun x hx => by simp at hx; rcases hx with rfl | rfl | rfl | rfl | rfl | rfl <;> rfl) (by decide) (by unfold maxLen; omega) (by omega) (by simp) _ rfl ?_; intro g1 c1 w5 own1 gr1 at1 lt1; rw [ownBlock_slice] at gr1 at1; obtain ⟨x3, f3, z3, F1, F2⟩ := cpl_text (N := [59, 45, x, 62, q0, q1]) CA.out (((Below.refl _ _).alloc (Nat.le_refl _) _).drew) S4.out gr1 at1 own1; have FF : Hid _ := F1; have FE : Hid _ := F2; clear gr1 own1 at1 lt1 F1 F2)
  all_goals
    clear x3 f3 z3 x0 zB n0 zN CA RT
    generalize w5.setCell ⟨B, 0, none⟩ (.slice (some ⟨g1, 0, none⟩) (T.length + 6) c1) = U at FF FE ⊢
    have NU : Hid (Blk U w.heap.size #[.int .u8 (x : Int), .int .u8 (y : Int)] 144) := N4.out.kept FE.out (.inr rfl)
    have SU : Hid (∀ i, (S i ∨ i = w.heap.size) → i < U.heap.size) := fun i hi => Nat.lt_of_lt_of_le (S4.out i hi) FE.out.size
    have LU : Hid (Kept S w U) := L4.out.trans (FE.out.mono (fun i hi => .inl hi))
    obtain ⟨T2, hT2⟩ : ∃ T2, T2 = T ++ [59, 45, x, 62, q0, q1] := ⟨_, rfl⟩
    have ET : Hid (T2 = T ++ [59, 45, x, 62, q0, q1]) := hT2
    have hT2l : T2.length ≤ 906 := by rw [hT2]; simp; omega
    rw [← hT2] at FF
    obtain ⟨aT2, cT2, aG2, cG2, ca⟩ := FF.out
    have CA : Hid (CplA U (fun i => S i ∨ i = w.heap.size) B aT2 cT2 aG2 cG2 T2 (k + 4) G) := ca
    have RT : Hid (U.ownsRow 0 5 1 (.slice aT2 T2.length cT2) T2.length (cellsC T2)) := ca.rT
    have x0 : U.cell? ⟨B, 0, none⟩ = some (.slice aT2 T2.length cT2) := ca.blk.cell 0
    have zB := ca.blk.lt
    have n1 : U.cell? ⟨w.heap.size, 1, none⟩ = some (.int .u8 (y : Int)) := NU.out.cell 1
    have zN := NU.out.lt
    clear ca hT2 FF FE N4 S4 L4 hT
    go_wp2
    go_region_law (refine step_append_lies _ rfl (.tmp 33) (.tmp 38) 82 rfl 0 5 i0 (.int .u8 0) 1 1 Tryz.underlying82 hi hz0 hz1 hz2 rfl (by decide) (.slice aT2 T2.length cT2) _ _ (by simp [Act.eval]) ((RT.out.alloc _).drew) ⟨U.heap.size, 0, none⟩ 6 6 [.int .u8 59, .int .u8 45, .int .u8 (q2 : Int), .int .u8 (q3 : Int), .int .u8 62, .int .u8 (y : Int)] (by simp [Act.eval]) rfl (World.news_of_block (cs := #[.int .u8 59, .int .u8 45, .int .u8 (q2 : Int), .int .u8 (q3 : Int), .int .u8 62, .int .u8 (y : Int)]) ((Blk.new U _ _).drew)) (fun x hx => by simp at hx; rcases hx with rfl | rfl | rfl | rfl | rfl | rfl <;> rfl) (by decide) (by unfold maxLen; omega) (by omega) (by simp) _ rfl ?_; intro g2 c2 w6 own1 gr1 at1 lt1; rw [ownBlock_slice] at gr1 at1; obtain ⟨x3, f3, z3, F1, F2⟩ := cpl_text (N := [59, 45, q2, q3, 62, y]) CA.out (((Below.refl _ _).alloc (Nat.le_refl _) _).drew) SU.out gr1 at1 own1; have FF : Hid _ := F1; have FE : Hid _ := F2; clear gr1 own1 at1 lt1 F1 F2)
    all_goals
      clear x3 f3 z3 x0 zB n1 zN CA RT
      generalize w6.setCell ⟨B, 0, none⟩ (.slice (some ⟨g2, 0, none⟩) (T2.length + 6) c2) = V at FF FE ⊢
      have SV : Hid (∀ i, (S i ∨ i = w.heap.size) → i < V.heap.size) := fun i hi => Nat.lt_of_lt_of_le (SU.out i hi) FE.out.size
      have LV : Hid (Kept S w V) := LU.out.trans (FE.out.mono (fun i hi => .inl hi))
      have o1 : ∀ W, (∀ i, (S i ∨ i = w.heap.size) → i < W.heap.size) → Cpl W (fun i => S i ∨ i = w.heap.size) B (T2 ++ [59, 45, q2, q3, 62, y]) (k + 4) G → Calls Tryz.prog 95 #[.pointer (some ⟨B, 0, none⟩), .int .u8 (q1 : Int), .int .u8 (q3 : Int)] W fun e w' => e = .returned (.tuple #[]) ∧ Cpl w' (fun i => S i ∨ i = w.heap.size) B (T2 ++ [59, 45, q2, q3, 62, y]) (k + 4) (G ++ [(q1, q3)]) ∧ Kept (fun i => S i ∨ i = w.heap.size) W w' := fun W hs hW => open_any _ (k + 4) G q1 q3 _ B W (by omega) hs hW
      have o2 : ∀ W, (∀ i, (S i ∨ i = w.heap.size) → i < W.heap.size) → Cpl W (fun i => S i ∨ i = w.heap.size) B (T2 ++ [59, 45, q2, q3, 62, y]) (k + 4) (G ++ [(q1, q3)]) → Calls Tryz.prog 95 #[.pointer (some ⟨B, 0, none⟩), .int .u8 (q0 : Int), .int .u8 (q2 : Int)] W fun e w' => e = .returned (.tuple #[]) ∧ Cpl w' (fun i => S i ∨ i = w.heap.size) B (T2 ++ [59, 45, q2, q3, 62, y]) (k + 4) (G ++ [(q1, q3)] ++ [(q0, q2)]) ∧ Kept (fun i => S i ∨ i = w.heap.size) W w' := fun W hs hW => open_any _ (k + 4) _ q0 q2 _ B W (by simp; omega) hs hW
      have tok : True := trivial
      clear hi hz0 hz1 hz2 LU SU
      go_wp2_with (first
        | (go_at_call 95; have _t := tok; refine (o1 _ SV.out FF.out).mono ?_; rintro e w7 ⟨rfl, hc, hk1⟩; have C7 : Hid (Cpl w7 (fun i => S i ∨ i = w.heap.size) B (T2 ++ [59, 45, q2, q3, 62, y]) (k + 4) (G ++ [(q1, q3)])) := hc; have L7 : Hid (Kept S w w7) := LV.out.trans (hk1.mono (fun i hi => .inl hi)); have S7 : Hid (∀ i, (S i ∨ i = w.heap.size) → i < w7.heap.size) := (fun i hi => Nat.lt_of_lt_of_le (SV.out i hi) hk1.size); clear hc hk1 tok)
        | (go_at_call 95; refine (o2 _ S7.out C7.out).mono ?_; rintro e w8 ⟨rfl, hc, hk1⟩; have C8 : Hid (Cpl w8 S B (T2 ++ [59, 45, q2, q3, 62, y]) (k + 4) (G ++ [(q1, q3)] ++ [(q0, q2)])) := hc.more (Below.refl _ _) (fun i hi => .inl (.inl hi)); have L8 : Hid (Kept S w w8) := L7.out.trans (hk1.mono (fun i hi => .inl hi)); clear hc hk1))
      go_end0
      have c8 := C8.out
      rw [ET.out] at c8
      exact ⟨rfl, c8, L8.out⟩
end Go.Proofs.YtdlldljgogbiaabGreat
namespace Go.Proofs.YtdlldljgogbiaabGreat
open Go.RowKit
set_option linter.unusedVariables false
set_option maxRecDepth 40000

/-- what one sign makes of text, places and gaps -/
def laidT (c x y k : Nat) (T : List Nat) : List Nat :=
  if c = 46 ∨ c = 43 then T else if c = 38 then T ++ [59, 45, x, 62, 65 + k, 65 + (k + 1)] ++ [59, 45, 65 + (k + 2), 65 + (k + 3), 62, y] else if c = 42 then T ++ [59, 45, x, 62, 65 + k] ++ [59, 45, 65 + k, 62, y] else T ++ [59, c, x, 62, y]
def laidK (c k : Nat) : Nat := if c = 46 ∨ c = 42 then k + 1 else if c = 38 then k + 4 else k
def laidG (c x y k : Nat) (G : List (Nat × Nat)) : List (Nat × Nat) :=
  if c = 46 then G ++ [(65 + k, y)] ++ [(x, 65 + k)] else if c = 43 then G ++ [(x, y)] ++ [(x, y)] else if c = 38 then G ++ [(65 + (k + 1), 65 + (k + 3))] ++ [(65 + k, 65 + (k + 2))] else if c = 42 then G ++ [(65 + k, 65 + k)] else G

set_option maxHeartbeats 4000000 in
theorem lay_any (c : Nat) (T : List Nat) (k : Nat) (G : List (Nat × Nat)) (x y : Nat) (S : Nat → Prop) (B : Nat) (w : World) (hk : k ≤ 90) (hG : G.length ≤ 80) (hT : T.length ≤ 900) (hS : ∀ i, S i → i < w.heap.size) (h : Cpl w S B T k G) :
    Calls Tryz.prog 96 #[.pointer (some ⟨B, 0, none⟩), .int .u8 (c : Int), .agg #[.int .u8 (x : Int), .int .u8 (y : Int)]] w fun e w' => e = .returned (.tuple #[]) ∧ Cpl w' S B (laidT c x y k T) (laidK c k) (laidG c x y k G) ∧ Kept S w w' := by
  obtain ⟨c0, s0, k0⟩ := gap_in x y hS h
  have C0 : Hid (Cpl (w.alloc (.cells #[.int .u8 (x : Int), .int .u8 (y : Int)] 144)) (fun i => S i ∨ i = w.heap.size) B T k G) := c0
  have S0 : Hid (∀ i, (S i ∨ i = w.heap.size) → i < (w.alloc (.cells #[.int .u8 (x : Int), .int .u8 (y : Int)] 144)).heap.size) := s0
  have K0 : Hid (Kept S w (w.alloc (.cells #[.int .u8 (x : Int), .int .u8 (y : Int)] 144))) := k0
  have N0 : Hid (Blk (w.alloc (.cells #[.int .u8 (x : Int), .int .u8 (y : Int)] 144)) w.heap.size #[.int .u8 (x : Int), .int .u8 (y : Int)] 144) := Blk.new _ _ _
  clear h c0 s0 k0
  by_cases h46 : c = 46
  · subst h46
    have e1 : laidT 46 x y k T = T := by simp [laidT]
    have e2 : laidK 46 k = k + 1 := by simp [laidK]
    have e3 : laidG 46 x y k G = G ++ [(65 + k, y)] ++ [(x, 65 + k)] := by simp [laidG]
    rw [e1, e2, e3]
    have cn : ∀ W, Cpl W (fun i => S i ∨ i = w.heap.size) B T k G → Calls Tryz.prog 94 #[.pointer (some ⟨B, 0, none⟩)] W fun e w' => e = .returned (.int .u8 ((65 + k : Nat) : Int)) ∧ Cpl w' (fun i => S i ∨ i = w.heap.size) B T (k + 1) G ∧ Kept (fun i => S i ∨ i = w.heap.size) W w' := fun W hW => newPlace_any T k G _ B W (by omega) hW
    obtain ⟨q, hq⟩ : ∃ q, q = 65 + k := ⟨_, rfl⟩
    rw [← hq] at cn ⊢
    have o1 : ∀ W, (∀ i, (S i ∨ i = w.heap.size) → i < W.heap.size) → Cpl W (fun i => S i ∨ i = w.heap.size) B T (k + 1) G → Calls Tryz.prog 95 #[.pointer (some ⟨B, 0, none⟩), .int .u8 (q : Int), .int .u8 (y : Int)] W fun e w' => e = .returned (.tuple #[]) ∧ Cpl w' (fun i => S i ∨ i = w.heap.size) B T (k + 1) (G ++ [(q, y)]) ∧ Kept (fun i => S i ∨ i = w.heap.size) W w' := fun W hs hW => open_any _ (k + 1) G q y _ B W (by omega) hs hW
    have o2 : ∀ W, (∀ i, (S i ∨ i = w.heap.size) → i < W.heap.size) → Cpl W (fun i => S i ∨ i = w.heap.size) B T (k + 1) (G ++ [(q, y)]) → Calls Tryz.prog 95 #[.pointer (some ⟨B, 0, none⟩), .int .u8 (x : Int), .int .u8 (q : Int)] W fun e w' => e = .returned (.tuple #[]) ∧ Cpl w' (fun i => S i ∨ i = w.heap.size) B T (k + 1) (G ++ [(q, y)] ++ [(x, q)]) ∧ Kept (fun i => S i ∨ i = w.heap.size) W w' := fun W hs hW => open_any _ (k + 1) _ x q _ B W (by simp; omega) hs hW
    have tok : True := trivial
    clear hq e1 e2 e3
    go_enter Tryz.func96, Tryz.ntmps96
    go_wp2_with (first
      | (go_at_call 94; refine (cn _ C0.out).mono ?_; rintro e w1 ⟨rfl, hc, hk1⟩; have C1 : Hid (Cpl w1 (fun i => S i ∨ i = w.heap.size) B T (k + 1) G) := hc; have K1 : Hid (Kept S w w1) := K0.out.trans (hk1.mono (fun i hi => .inl hi)); have S1 : Hid (∀ i, (S i ∨ i = w.heap.size) → i < w1.heap.size) := (fun i hi => Nat.lt_of_lt_of_le (S0.out i hi) hk1.size); have N1 : Hid (Blk w1 w.heap.size #[.int .u8 (x : Int), .int .u8 (y : Int)] 144) := N0.out.kept hk1 (.inr rfl); have n11 : w1.cell? ⟨w.heap.size, 1, none⟩ = some (.int .u8 (y : Int)) := N1.out.cell 1; have z10 := N1.out.lt; clear hc hk1)
      | (go_at_call 95; have _t := tok; refine (o1 _ S1.out C1.out).mono ?_; rintro e w2 ⟨rfl, hc, hk1⟩; have C2 : Hid (Cpl w2 (fun i => S i ∨ i = w.heap.size) B T (k + 1) (G ++ [(q, y)])) := hc; have K2 : Hid (Kept S w w2) := K1.out.trans (hk1.mono (fun i hi => .inl hi)); have S2 : Hid (∀ i, (S i ∨ i = w.heap.size) → i < w2.heap.size) := (fun i hi => Nat.lt_of_lt_of_le (S1.out i hi) hk1.size); have N2 : Hid (Blk w2 w.heap.size #[.int .u8 (x : Int), .int .u8 (y : Int)] 144) := N1.out.kept hk1 (.inr rfl); have n20 : w2.cell? ⟨w.heap.size, 0, none⟩ = some (.int .u8 (x : Int)) := N2.out.cell 0; have z20 := N2.out.lt; clear hc hk1 tok)
      | (go_at_call 95; refine (o2 _ S2.out C2.out).mono ?_; rintro e w3 ⟨rfl, hc, hk1⟩; have C3 : Hid (Cpl w3 S B T (k + 1) (G ++ [(q, y)] ++ [(x, q)])) := hc.more (Below.refl _ _) (fun i hi => .inl (.inl hi)); have K3 : Hid (Kept S w w3) := K2.out.trans (hk1.mono (fun i hi => .inl hi)); clear hc hk1))
    go_end0
    exact ⟨rfl, C3.out, K3.out⟩
  · by_cases h43 : c = 43
    · subst h43
      have e1 : laidT 43 x y k T = T := by simp [laidT]
      have e2 : laidK 43 k = k := by simp [laidK]
      have e3 : laidG 43 x y k G = G ++ [(x, y)] ++ [(x, y)] := by simp [laidG]
      rw [e1, e2, e3]
      have o1 : ∀ W, (∀ i, (S i ∨ i = w.heap.size) → i < W.heap.size) → Cpl W (fun i => S i ∨ i = w.heap.size) B T k G → Calls Tryz.prog 95 #[.pointer (some ⟨B, 0, none⟩), .int .u8 (x : Int), .int .u8 (y : Int)] W fun e w' => e = .returned (.tuple #[]) ∧ Cpl w' (fun i => S i ∨ i = w.heap.size) B T k (G ++ [(x, y)]) ∧ Kept (fun i => S i ∨ i = w.heap.size) W w' := fun W hs hW => open_any _ k G x y _ B W (by omega) hs hW
      have o2 : ∀ W, (∀ i, (S i ∨ i = w.heap.size) → i < W.heap.size) → Cpl W (fun i => S i ∨ i = w.heap.size) B T k (G ++ [(x, y)]) → Calls Tryz.prog 95 #[.pointer (some ⟨B, 0, none⟩), .int .u8 (x : Int), .int .u8 (y : Int)] W fun e w' => e = .returned (.tuple #[]) ∧ Cpl w' (fun i => S i ∨ i = w.heap.size) B T k (G ++ [(x, y)] ++ [(x, y)]) ∧ Kept (fun i => S i ∨ i = w.heap.size) W w' := fun W hs hW => open_any _ k _ x y _ B W (by simp; omega) hs hW
      have tok : True := trivial
      clear h46 e1 e2 e3
      go_enter Tryz.func96, Tryz.ntmps96
      go_wp2_with (first
        | (go_at_call 95; have _t := tok; refine (o1 _ S0.out C0.out).mono ?_; rintro e w2 ⟨rfl, hc, hk1⟩; have C2 : Hid (Cpl w2 (fun i => S i ∨ i = w.heap.size) B T k (G ++ [(x, y)])) := hc; have K2 : Hid (Kept S w w2) := K0.out.trans (hk1.mono (fun i hi => .inl hi)); have S2 : Hid (∀ i, (S i ∨ i = w.heap.size) → i < w2.heap.size) := (fun i hi => Nat.lt_of_lt_of_le (S0.out i hi) hk1.size); have N2 : Hid (Blk w2 w.heap.size #[.int .u8 (x : Int), .int .u8 (y : Int)] 144) := N0.out.kept hk1 (.inr rfl); have n20 : w2.cell? ⟨w.heap.size, 0, none⟩ = some (.int .u8 (x : Int)) := N2.out.cell 0; have n21 : w2.cell? ⟨w.heap.size, 1, none⟩ = some (.int .u8 (y : Int)) := N2.out.cell 1; have z20 := N2.out.lt; clear hc hk1 tok)
        | (go_at_call 95; refine (o2 _ S2.out C2.out).mono ?_; rintro e w3 ⟨rfl, hc, hk1⟩; have C3 : Hid (Cpl w3 S B T k (G ++ [(x, y)] ++ [(x, y)])) := hc.more (Below.refl _ _) (fun i hi => .inl (.inl hi)); have K3 : Hid (Kept S w w3) := K2.out.trans (hk1.mono (fun i hi => .inl hi)); clear hc hk1))
      go_end0
      exact ⟨rfl, C3.out, K3.out⟩
    · by_cases h38 : c = 38
      · subst h38
        have e1 : laidT 38 x y k T = T ++ [59, 45, x, 62, 65 + k, 65 + (k + 1)] ++ [59, 45, 65 + (k + 2), 65 + (k + 3), 62, y] := by simp [laidT]
        have e2 : laidK 38 k = k + 4 := by simp [laidK]
        have e3 : laidG 38 x y k G = G ++ [(65 + (k + 1), 65 + (k + 3))] ++ [(65 + k, 65 + (k + 2))] := by simp [laidG]
        have cp := laySideBySide_any T k G x y _ B _ (by omega) (by omega) hT S0.out C0.out
        rw [← e1, ← e2, ← e3] at cp
        generalize laidT 38 x y k T = T1 at cp ⊢
        generalize laidK 38 k = k1 at cp ⊢
        generalize laidG 38 x y k G = G1 at cp ⊢
        clear h46 h43 e1 e2 e3
        go_enter Tryz.func96, Tryz.ntmps96
        go_wp2_with (go_at_call 111; refine cp.mono ?_; rintro e w1 ⟨rfl, hc, hk1⟩; have C3 : Hid (Cpl w1 S B T1 k1 G1) := hc.more (Below.refl _ _) (fun i hi => .inl (.inl hi)); have K3 : Hid (Kept S w w1) := K0.out.trans (hk1.mono (fun i hi => .inl hi)); clear hc hk1)
        go_end0
        exact ⟨rfl, C3.out, K3.out⟩
      · by_cases h42 : c = 42
        · subst h42
          have e1 : laidT 42 x y k T = T ++ [59, 45, x, 62, 65 + k] ++ [59, 45, 65 + k, 62, y] := by simp [laidT]
          have e2 : laidK 42 k = k + 1 := by simp [laidK]
          have e3 : laidG 42 x y k G = G ++ [(65 + k, 65 + k)] := by simp [laidG]
          have cp := layRepeated_any T k G x y _ B _ (by omega) (by omega) hT S0.out C0.out
          rw [← e1, ← e2, ← e3] at cp
          generalize laidT 42 x y k T = T1 at cp ⊢
          generalize laidK 42 k = k1 at cp ⊢
          generalize laidG 42 x y k G = G1 at cp ⊢
          clear h46 h43 h38 e1 e2 e3
          go_enter Tryz.func96, Tryz.ntmps96
          go_wp2_with (go_at_call 112; refine cp.mono ?_; rintro e w1 ⟨rfl, hc, hk1⟩; have C3 : Hid (Cpl w1 S B T1 k1 G1) := hc.more (Below.refl _ _) (fun i hi => .inl (.inl hi)); have K3 : Hid (Kept S w w1) := K0.out.trans (hk1.mono (fun i hi => .inl hi)); clear hc hk1)
          go_end0
          exact ⟨rfl, C3.out, K3.out⟩
        · have e1 : laidT c x y k T = T ++ [59, c, x, 62, y] := by simp [laidT, h46, h43, h38, h42]
          have e2 : laidK c k = k := by simp [laidK, h46, h42, h38]
          have e3 : laidG c x y k G = G := by simp [laidG, h46, h43, h38, h42]
          have t1 : ((c : Int) == 46) = false := by simp; omega
          have t2 : ((c : Int) == 43) = false := by simp; omega
          have t3 : ((c : Int) == 38) = false := by simp; omega
          have t4 : ((c : Int) == 42) = false := by simp; omega
          have cp := layStep_any T k G c x y _ B _ (by omega) S0.out C0.out
          rw [← e1] at cp
          rw [e2, e3]
          generalize laidT c x y k T = T1 at cp ⊢
          clear h46 h43 h38 h42 e1 e2 e3
          go_enter Tryz.func96, Tryz.ntmps96
          go_wp2_with (go_at_call 113; refine cp.mono ?_; rintro e w1 ⟨rfl, hc, hk1⟩; have C3 : Hid (Cpl w1 S B T1 k G) := hc.more (Below.refl _ _) (fun i hi => .inl (.inl hi)); have K3 : Hid (Kept S w w1) := K0.out.trans (hk1.mono (fun i hi => .inl hi)); clear hc hk1)
          go_end0
          exact ⟨rfl, C3.out, K3.out⟩
end Go.Proofs.YtdlldljgogbiaabGreat
