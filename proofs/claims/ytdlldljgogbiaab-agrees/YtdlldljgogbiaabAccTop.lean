/-
  The program's Accepts, the whole.
-/
import Derived.Test.YtdlldljgogbiaabAccW
namespace Go.Proofs.Ytdlldljgogbiaab
open Go.RowKit
set_option linter.unusedVariables false
set_option maxRecDepth 40000

set_option maxHeartbeats 2000000 in
theorem acceptsF_any (s word : ByteArray) (w : World) (hs : s.size ≤ maxLen) (hw : word.size ≤ maxLen) : Calls Try.prog 17 #[.string s, .string word] w (AcceptsPost s word w) := by
  have cl := fun w => firstNoLetter_any word w hw
  have c1 := fun w => readProcess_any s w hs
  have hs' := hs
  unfold maxLen at hs hw
  by_cases h1 : 8 < word.size
  · have P : Hid (Flow.AcceptsA s word false 1 0) := .inl ⟨.inr h1, rfl, rfl, rfl⟩
    go_enter Try.func17, Try.ntmps17
    go_wp2_with (fail)
    go_ret3
    exact ⟨false, 1, 0, rfl, P.out, Below.refl _ _⟩
  · have hwz : word.size ≤ 8 := by omega
    by_cases h2 : Flow.readE s = 0
    · obtain ⟨hsz, hok, hend, _⟩ := readE_ok h2
      have H1 : Hid (¬ (24 < s.size ∨ 8 < word.size)) := by show ¬ _; omega
      have c2 := fun w => acceptsWord_any s word w hsz hwz hok hend
      have HP : Hid (Flow.readP s = 0) := by
        show _ = _
        unfold Flow.readP
        rw [if_neg (by omega), if_neg (by rw [hok, hend]; rintro (x | x); cases x; omega)]
      have H2 : Hid (Flow.readE s = 0) := h2
      rw [h2, HP.out] at c1
      clear h2 hsz hok hend
      go_enter Try.func17, Try.ntmps17
      go_wp2_with (first
        | (go_at_call 19; refine (c1 _).mono ?_; rintro e w' ⟨rfl, rfl⟩)
        | (go_at_call 37; refine (cl _).mono ?_; rintro e w' ⟨r, rfl, hrl, hr, rfl⟩; rcases hr with ⟨rfl, hyes⟩ | ⟨hj1, hj2, hj3⟩)
        | (go_at_call 38; refine (c2 _).mono ?_; rintro e w2 ⟨b, rfl, hbi, hb2⟩; have HB2 : Hid (Below w.heap.size w w2) := hb2; have BI : Hid _ := hbi; clear hb2 hbi))
      all_goals go_ret3
      all_goals (first
        | exact ⟨b, 0, 0, rfl, .inr (.inr (.inr ⟨H1.out, H2.out, hyes, BI.out, rfl, rfl⟩)), HB2.out⟩
        | exact ⟨false, 8, r, rfl, .inr (.inr (.inl ⟨H1.out, H2.out, ⟨hj1, hj2, hj3⟩, rfl, rfl⟩)), Below.refl _ _⟩)
    · have t2 : ((Flow.readE s : Int) != 0) = true := by simp; omega
      have P : Hid (Flow.AcceptsA s word false (Flow.readE s) (Flow.readP s)) := by
        by_cases h24 : 24 < s.size
        · exact .inl ⟨.inl h24, rfl, by unfold Flow.readE; rw [if_pos h24], by unfold Flow.readP; rw [if_pos h24]⟩
        · exact .inr (.inl ⟨by omega, h2, rfl, rfl, rfl⟩)
      go_enter Try.func17, Try.ntmps17
      go_wp2_with (go_at_call 19; refine (c1 _).mono ?_; rintro e w' ⟨rfl, rfl⟩)
      go_ret3
      exact ⟨false, Flow.readE s, Flow.readP s, rfl, P.out, Below.refl _ _⟩
end Go.Proofs.Ytdlldljgogbiaab
