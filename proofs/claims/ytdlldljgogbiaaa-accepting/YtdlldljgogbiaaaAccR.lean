/-
  The reference's Accepts.
-/
import Derived.Test.YtdlldljgogbiaaaInR
import Derived.Test.YtdlldljgogbiaaaLetR
import Derived.Test.YtdlldljgogbiaaaReadP
namespace Go.Proofs.Ytdlldljgogbiaaa
open Go.RowKit
set_option linter.unusedVariables false
set_option maxRecDepth 40000

theorem below_drewN0 (w : World) (m : Nat) : Below w.heap.size w (w.drewN m) := ⟨rfl, rfl, rfl, Nat.le_refl _, fun _ _ => rfl⟩
set_option maxHeartbeats 1000000 in
theorem acceptsR_any (s word : ByteArray) (w : World) (hs : s.size ≤ maxLen) (hw : word.size ≤ maxLen) : Calls Try.prog 37 #[.string s, .string word] w (AcceptsPost s word w) := by
  have c1 := readP_any s w hs
  have c2 := lettersR_any word w hw
  have hs' := hs
  have hw' := hw
  unfold maxLen at hs hw
  by_cases h1 : 24 < s.size ∨ 8 < word.size
  · have P : Hid (Flow.AcceptsA s word false 1 0) := .inl ⟨h1, rfl, rfl, rfl⟩
    rcases h1 with h1 | h1
    · go_enter Try.func37, Try.ntmps37
      go_wp2_with (fail)
      all_goals go_ret3
      all_goals exact ⟨false, 1, 0, rfl, P.out, Below.refl _ _⟩
    · go_enter Try.func37, Try.ntmps37
      go_wp2_with (fail)
      all_goals go_ret3
      all_goals exact ⟨false, 1, 0, rfl, P.out, Below.refl _ _⟩
  · have H1 : Hid (¬ (24 < s.size ∨ 8 < word.size)) := h1
    have hsz : s.size ≤ 24 := by omega
    have hwz : word.size ≤ 8 := by omega
    clear h1
    by_cases h2 : Flow.readE s = 0
    · obtain ⟨_, hp, _, _⟩ := readE_ok h2
      have c3 : Calls Try.prog 67 #[.string s, .int .i64 0, .string word] w fun e w' => e = .returned (.bool (decide (h := Classical.propDecidable _) (Flow.Has s 0 (Flow.nats word)))) ∧ ∃ m, w' = w.drewN m := inR_any s (by omega) (s.size + 1) 0 hp (by omega) word w (by unfold maxLen; omega)
      have H2 : Hid (Flow.readE s = 0) := h2
      rw [h2] at c1
      clear h2 hp
      go_enter Try.func37, Try.ntmps37
      go_wp2_with (first
        | (go_at_call 66; refine c1.mono ?_; rintro e w' ⟨rfl, rfl⟩)
        | (go_at_call 62; refine c2.mono ?_; rintro e w' ⟨r, rfl, hr, hw⟩; obtain rfl := hw.symm; rcases hr with ⟨rfl, hyes⟩ | ⟨j, hj1, rfl, hj2, hj3⟩)
        | (go_at_call 67; refine c3.mono ?_; rintro e w2 ⟨rfl, m2, rfl⟩))
      all_goals go_ret3
      all_goals (first
        | (have _t := hj1; exact ⟨false, 8, j, rfl, .inr (.inr (.inl ⟨H1.out, H2.out, ⟨hj1, hj2, hj3⟩, rfl, rfl⟩)), Below.refl _ _⟩)
        | exact ⟨_, 0, 0, rfl, .inr (.inr (.inr ⟨H1.out, H2.out, hyes, ⟨fun h => Classical.byContradiction (fun g => (by rw [yes_neg g] at h; cases h)), yes_pos⟩, rfl, rfl⟩)), below_drewN0 _ _⟩)
    · have t2 : ((Flow.readE s : Int) != 0) = true := by simp; omega
      go_enter Try.func37, Try.ntmps37
      go_wp2_with (go_at_call 66; refine c1.mono ?_; rintro e w' ⟨rfl, rfl⟩)
      all_goals go_ret3
      all_goals exact ⟨false, Flow.readE s, Flow.readP s, rfl, .inr (.inl ⟨H1.out, h2, rfl, rfl, rfl⟩), Below.refl _ _⟩
end Go.Proofs.Ytdlldljgogbiaaa
