/-
  Plain: Accepts of a process and Plays of its net tell the same.
-/
import Derived.Test.YtdlldljgogbiaabGreatCplI
import Derived.Test.YtdlldljgogbiaabGreatScanM
import Derived.Test.YtdlldljgogbiaabGreatWordM
namespace Go.Proofs.YtdlldljgogbiaabGreat
open Go.RowKit
set_option linter.unusedVariables false

theorem agree_err {s word : ByteArray} {a : Bool} {f p : Nat} (h0 : Flow.readE s ≠ 0) (h : Flow.AcceptsA s word a f p) : a = false ∧ ((f = Flow.readE s ∧ p = Flow.readP s) ∨ f = 1) := by
  rcases h with ⟨a1, a2, a3, a4⟩ | ⟨a1, a2, a3, a4, a5⟩ | ⟨a1, a2, _⟩ | ⟨a1, a2, _⟩
  · exact ⟨a2, .inr a3⟩
  · exact ⟨a3, .inl ⟨a4, a5⟩⟩
  · exact absurd a2 h0
  · exact absurd a2 h0
theorem agree_ok {s word T : ByteArray} {a b : Bool} {f p g : Nat} (h0 : Flow.readE s = 0) (hT : T.size ≤ 160) (hc : Flow.checkErr T = 0) (hw : ∀ u, Flow.Spells (Flow.readTr T) (Flow.first T) u (Flow.lastQ T) ↔ Flow.Has s 0 u) (h : Flow.AcceptsA s word a f p) (h' : Flow.PlaysA T word b g) : a = b ∧ f = g := by
  have hs := (readE_ok h0).1
  have bad : ∀ {j : Nat}, j < word.size → Flow.isTk (Flow.bt word j) = false → ¬ Flow.IsWord word := fun hj e hW => by rw [hW _ hj] at e; cases e
  rcases h with ⟨a1, a2, a3, a4⟩ | ⟨a1, a2, a3, a4, a5⟩ | ⟨a1, a2, ⟨a3, a4, a5⟩, a6, a7⟩ | ⟨a1, a2, a3, a5, a6, a7⟩ <;> rcases h' with ⟨b1, b2, b3⟩ | ⟨b1, b2, b3, b4⟩ | ⟨b1, b2, b3, b4, b5⟩ | ⟨b1, b2, b3, b4, b5⟩
  · exact ⟨by rw [a2, b2], by rw [a3, b3]⟩
  · exact absurd hc b2
  · exfalso; omega
  · exfalso; omega
  · exact absurd h0 a2
  · exact absurd h0 a2
  · exact absurd h0 a2
  · exact absurd h0 a2
  · exfalso; omega
  · exact absurd hc b2
  · exact ⟨by rw [a6, b4], by rw [a7, b5]⟩
  · exact absurd b3 (bad a3 a4)
  · exfalso; omega
  · exact absurd hc b2
  · exact absurd a3 b3
  · refine ⟨?_, by rw [a6, b5]⟩
    have : a = true ↔ b = true := by rw [a5, b4, hw]
    cases a <;> cases b <;> simp_all
theorem judge_one {T t : ByteArray} {v e : Nat} (hc : Flow.checkErr T = 0) (hj : ∀ l v t, Flow.Bfs (Flow.readTr T) (Flow.first T) l → Flow.JudgeIs (Flow.readTr T) (Flow.last T) l v t → v = 1) (h : Flow.JudgeA T v t e) : v = 1 := by
  rcases h with ⟨h1, _⟩ | ⟨_, _, l, h1, h2⟩
  · exact absurd hc h1
  · exact hj l v t h1 h2
theorem word_eq {b : Bool} {A : Prop} (h : b = true ↔ A) : decide (h := Classical.propDecidable _) A = b := by
  cases b with
  | true => exact @decide_eq_true _ (Classical.propDecidable _) (h.1 rfl)
  | false => exact @decide_eq_false _ (Classical.propDecidable _) (fun a => by cases h.2 a)
end Go.Proofs.YtdlldljgogbiaabGreat
