/-
  The reference's Plays.
-/
import Derived.Test.YtdlldljgogbiaabGreatWordM
import Derived.Test.YtdlldljgogbiaabGreatScanM
namespace Go.Proofs.YtdlldljgogbiaabGreat
open Go.RowKit
set_option linter.unusedVariables false
set_option maxRecDepth 40000

set_option maxHeartbeats 1000000 in
theorem playsR_any (s word : ByteArray) (w : World) (hs : s.size ≤ maxLen) (hw : word.size ≤ maxLen) : Calls Tryz.prog 25 #[.string s, .string word] w (PlaysPost s word w) := by
  have c1 := fun w => checkR_any s w hs
  have c2 := fun w => lettersR_any word w hw
  have hs' := hs
  have hw' := hw
  unfold maxLen at hs hw
  by_cases h1 : 160 < s.size ∨ 8 < word.size
  · rcases h1 with h1 | h1
    · have P : Hid (Flow.PlaysA s word false 1) := .inl ⟨.inl h1, rfl, rfl⟩
      go_enter Tryz.func25, Tryz.ntmps25
      go_wp2
      go_ret2
      exact ⟨false, 1, rfl, P.out, Below.refl _ _⟩
    · have P : Hid (Flow.PlaysA s word false 1) := .inl ⟨.inr h1, rfl, rfl⟩
      go_enter Tryz.func25, Tryz.ntmps25
      go_wp2
      all_goals go_ret2
      all_goals exact ⟨false, 1, rfl, P.out, Below.refl _ _⟩
  · have H1 : Hid (¬ (160 < s.size ∨ 8 < word.size)) := h1
    have hsz : s.size ≤ 160 := by omega
    have hwz : word.size ≤ 8 := by omega
    clear h1
    by_cases h2 : Flow.checkErr s = 0
    · have c3 := fun w => wordsN_any s word w hs' hw' h2
      have H2 : Hid (Flow.checkErr s = 0) := h2
      rw [h2] at c1
      clear h2
      go_enter Tryz.func25, Tryz.ntmps25
      go_wp2_with (first
        | (go_at_call 14; refine (c1 _).mono ?_; rintro e w1 ⟨rfl, hb⟩; have HB1 : Hid (Below w.heap.size w w1) := hb; clear hb)
        | (go_at_call 54; refine (c2 _).mono ?_; rintro e w' ⟨r, rfl, hr, hw⟩; obtain rfl := hw.symm; rcases hr with ⟨rfl, hyes⟩ | ⟨j, hj1, rfl, hj2, hj3⟩)
        | (go_at_call 30; refine (c3 _).mono ?_; rintro e w2 ⟨b, rfl, hbi, hb⟩; have HB2 : Hid (Below w.heap.size w w2) := HB1.out.trans (hb.mono HB1.out.size); have BI : Hid _ := hbi; clear hb hbi))
      all_goals go_ret2
      all_goals (first
        | exact ⟨b, 0, rfl, .inr (.inr (.inr ⟨H1.out, H2.out, hyes, BI.out, rfl⟩)), HB2.out⟩
        | exact ⟨false, 8, rfl, .inr (.inr (.inl ⟨H1.out, H2.out, not_word hj1 hj2, rfl, rfl⟩)), HB1.out⟩)
    · have t2 : ((Flow.checkErr s : Int) != 0) = true := by simp; omega
      go_enter Tryz.func25, Tryz.ntmps25
      go_wp2_with (go_at_call 14; refine (c1 _).mono ?_; rintro e w1 ⟨rfl, hb⟩; have HB1 : Hid (Below w.heap.size w w1) := hb; clear hb)
      all_goals go_ret2
      all_goals exact ⟨false, Flow.checkErr s, rfl, .inr (.inl ⟨H1.out, h2, rfl, rfl⟩), HB1.out⟩
end Go.Proofs.YtdlldljgogbiaabGreat
