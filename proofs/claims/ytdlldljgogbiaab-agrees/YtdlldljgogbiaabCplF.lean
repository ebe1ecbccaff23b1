/-
  The program's compiler in memory.
-/
import Derived.Test.YtdlldljgogbiaabKeep
import Derived.Test.YtdlldljgogbiaabText
import Derived.Deep.AppendLies
namespace Go.Proofs.Ytdlldljgogbiaab
open Go.RowKit
set_option linter.unusedVariables false
set_option maxRecDepth 40000

theorem Try.infoGap : (Try.prog.info? 86).map (fun i => (i.zero, i.size, i.bytes)) = some (some (.agg #[.int .u8 0, .int .u8 0]), 2, 2) := by kernel_rfl
/-- the cells of a text, and of gaps -/
def cellsC (T : List Nat) : List Value := T.map fun (c : Nat) => Value.int .u8 (c : Int)
theorem cellsC_append (a b : List Nat) : cellsC (a ++ b) = cellsC a ++ cellsC b := by simp [cellsC]
def cellsG (G : List (Nat × Nat)) : List Value := G.flatMap fun p => [.int .u8 (p.1 : Int), .int .u8 (p.2 : Int)]
theorem cellsG_snoc (G : List (Nat × Nat)) (p : Nat × Nat) : cellsG (G ++ [p]) = cellsG G ++ [.int .u8 (p.1 : Int), .int .u8 (p.2 : Int)] := by simp [cellsG]
theorem cellsG_len (G : List (Nat × Nat)) : (cellsG G).length = G.length * 2 := by
  induction G with
  | nil => rfl
  | cons p G ih =>
    show ([Value.int .u8 (p.1 : Int), Value.int .u8 (p.2 : Int)] ++ cellsG G).length = _
    rw [List.length_append, ih, List.length_cons]; simp; omega

/-- block B holds a compiler, and it touches none of the blocks S -/
structure CplA (w : World) (S : Nat → Prop) (B : Nat) (aT : Option Addr) (cT : Nat) (aG : Option Addr) (cG : Nat) (T : List Nat) (k : Nat) (G : List (Nat × Nat)) : Prop where
  low : ¬ S B
  lowT : ∀ g, obk aT = some g → ¬ S g
  lowG : ∀ g, obk aG = some g → ¬ S g
  nT : obk aT ≠ some B
  nG : obk aG ≠ some B
  apart : ∀ g, obk aT = some g → obk aG ≠ some g
  blk : Blk w B #[.slice aT T.length cT, .int .i64 (k : Int), .slice aG G.length cG] 82
  rT : w.ownsRow 0 5 1 (.slice aT T.length cT) T.length (cellsC T)
  rG : w.ownsRow 0 86 2 (.slice aG G.length cG) G.length (cellsG G)
def Cpl (w : World) (S : Nat → Prop) (B : Nat) (T : List Nat) (k : Nat) (G : List (Nat × Nat)) : Prop := ∃ aT cT aG cG, CplA w S B aT cT aG cG T k G
theorem CplA.below {w w1 : World} {S : Nat → Prop} {B : Nat} {aT aG : Option Addr} {cT cG : Nat} {T : List Nat} {k : Nat} {G : List (Nat × Nat)} (h : CplA w S B aT cT aG cG T k G) (hb : Below w.heap.size w w1) : CplA w1 S B aT cT aG cG T k G :=
  ⟨h.low, h.lowT, h.lowG, h.nT, h.nG, h.apart, h.blk.below hb h.blk.lt, owns_below h.rT hb (Nat.le_refl _), owns_below h.rG hb (Nat.le_refl _)⟩
theorem Cpl.below {w w1 : World} {S : Nat → Prop} {B : Nat} {T : List Nat} {k : Nat} {G : List (Nat × Nat)} (h : Cpl w S B T k G) (hb : Below w.heap.size w w1) : Cpl w1 S B T k G := by
  obtain ⟨aT, cT, aG, cG, h⟩ := h
  exact ⟨aT, cT, aG, cG, h.below hb⟩
/-- new blocks may be added to S -/
theorem Cpl.more {w w1 : World} {S S' : Nat → Prop} {B : Nat} {T : List Nat} {k : Nat} {G : List (Nat × Nat)} (h : Cpl w S B T k G) (hb : Below w.heap.size w w1) (hT : ∀ i, S' i → S i ∨ w.heap.size ≤ i) : Cpl w1 S' B T k G := by
  obtain ⟨aT, cT, aG, cG, h⟩ := h
  have no : ∀ i, i < w.heap.size → ¬ S i → ¬ S' i := fun i hi hs ht => by
    rcases hT i ht with x | x
    · exact hs x
    · omega
  have h' := h.below hb
  exact ⟨aT, cT, aG, cG, no B h.blk.lt h.low, fun g hg => no g (owns_lt h.rT hg).2 (h.lowT g hg), fun g hg => no g (owns_lt h.rG hg).2 (h.lowG g hg), h.nT, h.nG, h.apart, h'.blk, h'.rT, h'.rG⟩
theorem owns_grown {w w1 : World} {base : Nat} {e : TypeId} {size n c : Nat} {a : Option Addr} {xs : List Value} {row : Option Nat} (h : w.ownsRow base e size (.slice a n c) n xs) (hg : w.grownBy w1 row) (hne : ∀ g, obk a = some g → row ≠ some g) : w1.ownsRow base e size (.slice a n c) n xs := by
  obtain ⟨h1, h2⟩ := h
  refine ⟨h1, ?_⟩
  rcases h2 with h2 | ⟨g, cap, cur, hv, hg2, hh, r⟩
  · exact .inl h2
  · injection hv with e1 _ e3
    subst e1 e3
    have hlt : g < w.heap.size := by
      rcases Nat.lt_or_ge g w.heap.size with x | x
      · exact x
      · rw [Array.getElem?_eq_none x] at hh; cases hh
    exact .inr ⟨g, c, cur, rfl, hg2, by rw [hg.block g hlt (fun x => hne g rfl x.symm)]; exact hh, r⟩
/-- the text has grown -/
theorem cpl_text {w W w1 : World} {S : Nat → Prop} {B : Nat} {aT aG : Option Addr} {cT cG : Nat} {T N : List Nat} {k : Nat} {G : List (Nat × Nat)} {g c : Nat} (h : CplA w S B aT cT aG cG T k G) (hW : Below w.heap.size w W) (hS : ∀ i, S i → i < w.heap.size) (gr : W.grownBy w1 (obk aT)) (at1 : obk aT = some g ∨ g = W.heap.size)
    (own1 : w1.ownsRow 0 5 1 (.slice (some ⟨g, 0, none⟩) (T.length + N.length) c) (T.length + N.length) (cellsC T ++ cellsC N)) :
    w1.cell? ⟨B, 0, none⟩ = some (.slice aT T.length cT) ∧ w1.frozen? ⟨B, 0, none⟩ = false ∧ B < w1.heap.size ∧ Cpl (w1.setCell ⟨B, 0, none⟩ (.slice (some ⟨g, 0, none⟩) (T.length + N.length) c)) S B (T ++ N) k G ∧ Kept S w (w1.setCell ⟨B, 0, none⟩ (.slice (some ⟨g, 0, none⟩) (T.length + N.length) c)) := by
  have hz := hW.size
  have h' := h.below hW
  have K := h'.blk.grown gr (fun x => h.nT x.symm)
  have hBl := h.blk.lt
  have gB : g ≠ B := by
    rcases at1 with x | x
    · exact fun e => h.nT (by rw [x, e])
    · omega
  have gS : ∀ j, obk (some (⟨g, 0, none⟩ : Addr)) = some j → ¬ S j := by
    intro j hj
    have e : g = j := by simpa [obk] using hj
    subst e
    rcases at1 with x | x
    · exact h.lowT g x
    · intro y; have := hS g y; omega
  have gG : ∀ j, some g = some j → obk aG ≠ some j := by
    intro j hj
    injection hj with hj
    subst hj
    rcases at1 with x | x
    · exact h.apart g x
    · intro y; have := (owns_lt h.rG y).2; omega
  have RG := owns_grown h'.rG gr (fun j hj x => h.apart j x hj)
  refine ⟨K.cell 0, K.froz 0, K.lt, ⟨some ⟨g, 0, none⟩, c, aG, cG, h.low, gS, h.lowG, by show some g ≠ some B; simpa using gB, h.nG, gG, ?_, ?_, owns_far RG (by rw [ownBlock_slice]; exact h.nG) _⟩, ?_⟩
  · have := K.set 0 (.slice (some ⟨g, 0, none⟩) (T.length + N.length) c)
    rw [List.length_append]
    simpa using this
  · rw [cellsC_append, List.length_append]
    exact owns_far own1 (by show some g ≠ some B; simpa using gB) _
  · exact ((Kept.of_below hW hS).grown gr (fun i hi => by have := hS i hi; omega) h.lowT).setCell (p := ⟨B, 0, none⟩) h.low _
/-- the gaps have grown -/
theorem cpl_gaps {w W w1 : World} {S : Nat → Prop} {B : Nat} {aT aG : Option Addr} {cT cG : Nat} {T : List Nat} {k : Nat} {G : List (Nat × Nat)} {p : Nat × Nat} {g c : Nat} (h : CplA w S B aT cT aG cG T k G) (hW : Below w.heap.size w W) (hS : ∀ i, S i → i < w.heap.size) (gr : W.grownBy w1 (obk aG)) (at1 : obk aG = some g ∨ g = W.heap.size)
    (own1 : w1.ownsRow 0 86 2 (.slice (some ⟨g, 0, none⟩) (G.length + 1) c) (G.length + 1) (cellsG G ++ [.int .u8 (p.1 : Int), .int .u8 (p.2 : Int)])) :
    w1.cell? ⟨B, 2, none⟩ = some (.slice aG G.length cG) ∧ w1.frozen? ⟨B, 2, none⟩ = false ∧ B < w1.heap.size ∧ Cpl (w1.setCell ⟨B, 2, none⟩ (.slice (some ⟨g, 0, none⟩) (G.length + 1) c)) S B T k (G ++ [p]) ∧ Kept S w (w1.setCell ⟨B, 2, none⟩ (.slice (some ⟨g, 0, none⟩) (G.length + 1) c)) := by
  have hz := hW.size
  have h' := h.below hW
  have K := h'.blk.grown gr (fun x => h.nG x.symm)
  have hBl := h.blk.lt
  have gB : g ≠ B := by
    rcases at1 with x | x
    · exact fun e => h.nG (by rw [x, e])
    · omega
  have gS : ∀ j, obk (some (⟨g, 0, none⟩ : Addr)) = some j → ¬ S j := by
    intro j hj
    have e : g = j := by simpa [obk] using hj
    subst e
    rcases at1 with x | x
    · exact h.lowG g x
    · intro y; have := hS g y; omega
  have gT : ∀ j, obk aT = some j → some g ≠ some j := by
    intro j hj hx
    injection hx with hx
    subst hx
    rcases at1 with x | x
    · exact h.apart g hj x
    · have := (owns_lt h.rT hj).2; omega
  have RT := owns_grown h'.rT gr (fun j hj x => h.apart j hj x)
  refine ⟨K.cell 2, K.froz 2, K.lt, ⟨aT, cT, some ⟨g, 0, none⟩, c, h.low, h.lowT, gS, h.nT, by show some g ≠ some B; simpa using gB, gT, ?_, owns_far RT (by rw [ownBlock_slice]; exact h.nT) _, ?_⟩, ?_⟩
  · have := K.set 2 (.slice (some ⟨g, 0, none⟩) (G.length + 1) c)
    rw [List.length_append]
    simpa using this
  · rw [cellsG_snoc, List.length_append]
    exact owns_far own1 (by show some g ≠ some B; simpa using gB) _
  · exact ((Kept.of_below hW hS).grown gr (fun i hi => by have := hS i hi; omega) h.lowG).setCell (p := ⟨B, 2, none⟩) h.low _

theorem newPlace_any (T : List Nat) (k : Nat) (G : List (Nat × Nat)) (S : Nat → Prop) (B : Nat) (w : World) (hk : k ≤ 100) (h : Cpl w S B T k G) :
    Calls Try.prog 42 #[.pointer (some ⟨B, 0, none⟩)] w fun e w' => e = .returned (.int .u8 ((65 + k : Nat) : Int)) ∧ Cpl w' S B T (k + 1) G ∧ Kept S w w' := by
  obtain ⟨aT, cT, aG, cG, h⟩ := h
  have x1 : w.cell? ⟨B, 1, none⟩ = some (.int .i64 (k : Int)) := h.blk.cell 1
  have y1 := h.blk.froz 1
  have zB := h.blk.lt
  have F : Hid (Cpl (w.setCell ⟨B, 1, none⟩ (.int .i64 ((k : Int) + 1))) S B T (k + 1) G) := by
    refine ⟨aT, cT, aG, cG, h.low, h.lowT, h.lowG, h.nT, h.nG, h.apart, ?_, owns_far h.rT (by rw [ownBlock_slice]; exact h.nT) _, owns_far h.rG (by rw [ownBlock_slice]; exact h.nG) _⟩
    have := h.blk.set 1 (.int .i64 ((k : Int) + 1))
    simpa using this
  have E : Hid (Kept S w (w.setCell ⟨B, 1, none⟩ (.int .i64 ((k : Int) + 1)))) := (Kept.refl _ _).setCell (p := ⟨B, 1, none⟩) h.low _
  clear h
  go_enter Try.func42, Try.ntmps42
  go_wp2
  go_ret
  exact ⟨ret_int (by omega), F.out, E.out⟩

set_option maxHeartbeats 400000 in
theorem open_any (T : List Nat) (k : Nat) (G : List (Nat × Nat)) (x y : Nat) (S : Nat → Prop) (B : Nat) (w : World) (hG : G.length ≤ 100) (hS : ∀ i, S i → i < w.heap.size) (h : Cpl w S B T k G) :
    Calls Try.prog 43 #[.pointer (some ⟨B, 0, none⟩), .int .u8 (x : Int), .int .u8 (y : Int)] w fun e w' => e = .returned (.tuple #[]) ∧ Cpl w' S B T k (G ++ [(x, y)]) ∧ Kept S w w' := by
  obtain ⟨aT, cT, aG, cG, h⟩ := h
  obtain ⟨i0, hi, hz0, hz1, hz2⟩ := info_parts Try.infoGap
  have x2 : w.cell? ⟨B, 2, none⟩ = some (.slice aG G.length cG) := h.blk.cell 2
  have zB := h.blk.lt
  have CA : Hid (CplA w S B aT cT aG cG T k G) := h
  have RG : Hid (w.ownsRow 0 86 2 (.slice aG G.length cG) G.length (cellsG G)) := h.rG
  clear h
  go_enter Try.func43, Try.ntmps43
  go_wp2_with (at_builtin; go_must (refine wpList_append_lies _ rfl _ _ 80 rfl 0 86 i0 (.agg #[.int .u8 0, .int .u8 0]) 2 2 Try.underlying80 hi hz0 hz1 hz2 rfl (by decide) (.slice aG G.length cG) _ _ rfl (RG.out.alloc _) ⟨w.heap.size, 0, none⟩ 1 1 [.int .u8 (x : Int), .int .u8 (y : Int)] rfl rfl (World.news_of_block (cs := #[.int .u8 (x : Int), .int .u8 (y : Int)]) (Blk.new w _ _)) (fun x hx => by simp at hx; rcases hx with rfl | rfl <;> rfl) (by decide) (by unfold maxLen; omega) (by omega) (by simp) _ rfl ?_; intro g1 c1 w1 own1 gr1 at1 lt1; rw [ownBlock_slice] at gr1 at1; obtain ⟨x3, q3, z3, F1, F2⟩ := cpl_gaps (p := (x, y)) CA.out ((Below.refl _ _).alloc (Nat.le_refl _) _) hS gr1 at1 own1; have FF : Hid _ := F1; have FE : Hid _ := F2; clear gr1 own1 at1 lt1 F1 F2))
  go_end0
  exact ⟨rfl, FF.out, FE.out⟩

set_option maxHeartbeats 400000 in
theorem layStep_any (T : List Nat) (k : Nat) (G : List (Nat × Nat)) (c x y : Nat) (S : Nat → Prop) (B : Nat) (w : World) (hT : T.length ≤ 1000) (hS : ∀ i, S i → i < w.heap.size) (h : Cpl w S B T k G) :
    Calls Try.prog 74 #[.pointer (some ⟨B, 0, none⟩), .int .u8 (c : Int), .int .u8 (x : Int), .int .u8 (y : Int)] w fun e w' => e = .returned (.tuple #[]) ∧ Cpl w' S B (T ++ [59, c, x, 62, y]) k G ∧ Kept S w w' := by
  obtain ⟨aT, cT, aG, cG, h⟩ := h
  obtain ⟨i0, hi, hz0, hz1, hz2⟩ := info_parts Try.infoB
  have x0 : w.cell? ⟨B, 0, none⟩ = some (.slice aT T.length cT) := h.blk.cell 0
  have zB := h.blk.lt
  have CA : Hid (CplA w S B aT cT aG cG T k G) := h
  have RT : Hid (w.ownsRow 0 5 1 (.slice aT T.length cT) T.length (cellsC T)) := h.rT
  clear h
  go_enter Try.func74, Try.ntmps74
  go_wp2_with (at_builtin; go_must (refine wpList_append_lies _ rfl _ _ 73 rfl 0 5 i0 (.int .u8 0) 1 1 Try.underlying73 hi hz0 hz1 hz2 rfl (by decide) (.slice aT T.length cT) _ _ rfl (RT.out.alloc _) ⟨w.heap.size, 0, none⟩ 5 5 [.int .u8 59, .int .u8 (c : Int), .int .u8 (x : Int), .int .u8 62, .int .u8 (y : Int)] rfl rfl (World.news_of_block (cs := #[.int .u8 59, .int .u8 (c : Int), .int .u8 (x : Int), .int .u8 62, .int .u8 (y : Int)]) (Blk.new w _ _)) (fun x hx => by simp at hx; rcases hx with rfl | rfl | rfl | rfl | rfl <;> rfl) (by decide) (by unfold maxLen; omega) (by omega) (by simp) _ rfl ?_; intro g1 c1 w1 own1 gr1 at1 lt1; rw [ownBlock_slice] at gr1 at1; obtain ⟨x3, q3, z3, F1, F2⟩ := cpl_text (N := [59, c, x, 62, y]) CA.out ((Below.refl _ _).alloc (Nat.le_refl _) _) hS gr1 at1 own1; have FF : Hid _ := F1; have FE : Hid _ := F2; clear gr1 own1 at1 lt1 F1 F2))
  go_end0
  exact ⟨rfl, FF.out, FE.out⟩
end Go.Proofs.Ytdlldljgogbiaab
