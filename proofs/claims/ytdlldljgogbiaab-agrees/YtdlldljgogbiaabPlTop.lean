/-
  The program's Plays.
-/
import Derived.Test.YtdlldljgogbiaabPlyF
import Derived.Test.YtdlldljgogbiaabTopF
import Derived.Test.YtdlldljgogbiaabLetF
namespace Go.Proofs.Ytdlldljgogbiaab
open Go.RowKit
set_option linter.unusedVariables false
set_option maxRecDepth 40000

theorem lastQ_pbit {s : ByteArray} (h : Flow.isPl (Flow.bt s 1) = true) : Flow.lastQ s = Flow.pbit (Flow.bt s 1) := by
  unfold Flow.lastQ Flow.pbit; rw [if_pos h]

set_option maxHeartbeats 2000000 in
theorem playsF_any (s word : ByteArray) (w : World) (hs : s.size ≤ maxLen) (hw : word.size ≤ maxLen) : Calls Try.prog 18 #[.string s, .string word] w (PlaysPost s word w) := by
  have cl := fun w => firstNoLetter_any word w hw
  have hs' := hs
  unfold maxLen at hs hw
  by_cases h1 : 8 < word.size
  · have P : Hid (Flow.PlaysA s word false 1) := .inl ⟨.inr h1, rfl, rfl⟩
    go_enter Try.func18, Try.ntmps18
    go_wp2
    go_ret2
    exact ⟨false, 1, rfl, P.out, Below.refl _ _⟩
  · have hwz : word.size ≤ 8 := by omega
    by_cases h2 : Flow.checkErr s = 0
    · obtain ⟨hok, hsz, hp0, hp1⟩ := checkErr_ok h2
      obtain ⟨hf, hfe⟩ := first_lt hp0
      have hle := lastQ_pbit hp1
      have c1 := fun w => netF_ok s w hs' h2
      have hs160 : ¬ 160 < s.size := fun h => by rw [(checkErr_long h).1] at h2; cases h2
      have H1 : Hid (¬ (160 < s.size ∨ 8 < word.size)) := by rintro (x | x); exact hs160 x; exact h1 x
      have c2 : ∀ a cap base w, Flow.IsWord word → w.ownsRow base 135 3 (.slice a (Flow.readTr s).length cap) (Flow.readTr s).length (cellsF (Flow.readTr s)) → Calls Try.prog 40 #[.agg (netF (Flow.bt s 0) (Flow.bt s 1) a (Flow.readTr s).length cap), .string word] w fun e w' => ∃ b, e = .returned (.bool b) ∧ (b = true ↔ Flow.Spells (Flow.readTr s) (Flow.first s) (Flow.nats word) (Flow.lastQ s)) ∧ Below w.heap.size w w' := fun a cap base w hi ho => by
        rw [hfe, hle]
        exact playsWord_any (Flow.readTr s) (Flow.bt s 0) (Flow.bt s 1) a cap base word w (Flow.bt_lt _ _) (Flow.bt_lt _ _) hwz hi (readTr_small s) (readTr_size s) ho
      have H2 : Hid (Flow.checkErr s = 0) := h2
      clear h2 hok hsz hp0 hp1 hf hfe hle hs160
      go_enter Try.func18, Try.ntmps18
      go_wp2_with (first
        | (go_at_call 39; refine (c1 _).mono ?_; rintro e w1 ⟨a, cap, rfl, hb1, ho1⟩; have HB1 : Hid _ := hb1; have HO1 : Hid (w1.ownsRow _ 135 3 (.slice a (Flow.readTr s).length cap) (Flow.readTr s).length (cellsF (Flow.readTr s))) := ho1; clear hb1 ho1)
        | (go_at_call 37; refine (cl _).mono ?_; rintro e w' ⟨r, rfl, hrl, hr, hww⟩; obtain rfl := hww.symm; rcases hr with ⟨rfl, hyes⟩ | ⟨hj1, hj2, hj3⟩)
        | (go_at_call 40; refine (c2 a cap _ _ hyes (HO1.out.alloc _)).mono ?_; rintro e w2 ⟨b, rfl, hbi, hb2⟩; have HB2 : Hid _ := hb2; have BI : Hid _ := hbi; clear hb2 hbi))
      all_goals go_ret2
      all_goals have z1 := HB1.out.size
      all_goals (first
        | exact ⟨b, 0, rfl, .inr (.inr (.inr ⟨H1.out, H2.out, hyes, BI.out, rfl⟩)), (HB1.out.alloc z1 _).trans (HB2.out.mono (by simp; omega))⟩
        | exact ⟨false, 8, rfl, .inr (.inr (.inl ⟨H1.out, H2.out, not_word hj1 hj2, rfl, rfl⟩)), HB1.out.alloc z1 _⟩)
    · have c1 := fun w => netF_no s w hs' h2
      have t2 : ((Flow.checkErr s : Int) != 0) = true := by simp; omega
      have P : Hid (Flow.PlaysA s word false (Flow.checkErr s)) := by
        by_cases h160 : 160 < s.size
        · exact .inl ⟨.inl h160, rfl, (checkErr_long h160).1⟩
        · exact .inr (.inl ⟨by rintro (x | x); exact h160 x; exact h1 x, h2, rfl, rfl⟩)
      go_enter Try.func18, Try.ntmps18
      go_wp2_with (go_at_call 39; refine (c1 _).mono ?_; rintro e w1 ⟨rfl, hb1⟩; have HB1 : Hid _ := hb1; clear hb1)
      go_ret2
      exact ⟨false, Flow.checkErr s, rfl, P.out, HB1.out.alloc HB1.out.size _⟩
end Go.Proofs.Ytdlldljgogbiaab
