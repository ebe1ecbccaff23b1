/-
  The reference's Words, letters and Plays.
-/
import Derived.Test.YtdlldljgogbiaaaWordsR
import Derived.Test.YtdlldljgogbiaaaFireR
namespace Go.Proofs.Ytdlldljgogbiaaa
open Go.RowKit
set_option linter.unusedVariables false
set_option maxRecDepth 40000

/-- the end alone, of a net's text -/
def Flow.lastQ (s : ByteArray) : Nat := 2 ^ (Flow.bt s 1 - 65)
theorem wordsN_any (s word : ByteArray) (w : World) (hs : s.size ≤ maxLen) (hw : word.size ≤ maxLen) (hc : Flow.checkErr s = 0) : Calls Try.prog 63 #[.string s, .string word] w fun e w' => ∃ b, e = .returned (.bool b) ∧ (b = true ↔ Flow.Spells (Flow.readTr s) (Flow.first s) (Flow.nats word) (Flow.lastQ s)) ∧ Below w.heap.size w w' := by
  obtain ⟨hok, hsz, hp0, hp1⟩ := checkErr_ok hc
  have q0 := Flow.isPl_iff.1 hp0
  have q1 := Flow.isPl_iff.1 hp1
  have c1 := fun w => readR_ok s w hs hc
  have c2 : ∀ a cap base w, w.ownsRow base 97 3 (.slice a (Flow.readTr s).length cap) (Flow.readTr s).length (cellsR (Flow.readTr s)) → Calls Try.prog 92 #[.agg (netQ ((Flow.bt s 0 - 65 : Nat) : Int) ((Flow.bt s 1 - 65 : Nat) : Int) a (Flow.readTr s).length cap), .string word] w fun e w' => ∃ b, e = .returned (.bool b) ∧ (b = true ↔ Flow.Spells (Flow.readTr s) (Flow.first s) (Flow.nats word) (Flow.lastQ s)) ∧ Below w.heap.size w w' := fun a cap base w ho => wordsR_any (Flow.readTr s) (Flow.bt s 0 - 65) (Flow.bt s 1 - 65) a cap base word w (by omega) (by omega) hw (readTr_small s) (readTr_size s) ho
  clear hok hsz hp0 hp1 q0 q1
  go_enter Try.func63, Try.ntmps63
  go_wp2_with (first | (go_at_call 39; refine (c1 _).mono ?_; rintro e w1 ⟨a, cap, at', rfl, hb1, ho1⟩; have HB1 : Hid _ := hb1; have HO1 : Hid (w1.ownsRow _ 97 3 (.slice a (Flow.readTr s).length cap) (Flow.readTr s).length (cellsR (Flow.readTr s))) := ho1; clear hb1 ho1) | (go_at_call 92; refine (c2 a cap _ _ (HO1.out.alloc _)).mono ?_; rintro e w2 ⟨b, rfl, hb, hb2⟩; have HB2 : Hid _ := hb2; have RB : Hid _ := hb; clear hb2 hb))
  go_ret
  have z1 := HB1.out.size
  exact ⟨b, rfl, RB.out, (HB1.out.alloc z1 _).trans (HB2.out.mono (by simp; omega))⟩

/-- the text is a word -/
def Flow.IsWord (word : ByteArray) : Prop := ∀ i, i < word.size → Flow.isTk (Flow.bt word i) = true
/-- the first byte that is no letter, or -1 -/
def Flow.LettersIs (word : ByteArray) (r : Int) : Prop := (r = -1 ∧ Flow.IsWord word) ∨ ∃ i : Nat, i < word.size ∧ r = (i : Int) ∧ Flow.isTk (Flow.bt word i) = false ∧ ∀ j, j < i → Flow.isTk (Flow.bt word j) = true
theorem lettersR_any (word : ByteArray) (w : World) (hw : word.size ≤ maxLen) : Calls Try.prog 62 #[.string word] w fun e w' => ∃ r, e = .returned (.int .i64 r) ∧ Flow.LettersIs word r ∧ w = w' := by
  unfold maxLen at hw
  go_enter Try.func62, Try.ntmps62
  go_wp2
  go_loop [3] (fun i' => ∃ (i : Nat), i ≤ word.size ∧ i' = .int .i64 i ∧ Hid (∀ j, j < i → Flow.isTk (Flow.bt word j) = true)) (fun i' => word.size - (intOf i').toNat)
  case atStart => exact ⟨0, by omega, rfl, fun j hj => by omega⟩
  case round =>
    obtain ⟨i, hil, rfl, HN⟩ := hrel
    by_cases hlt : i < word.size
    · have hb := Flow.bt_at hlt
      have c1 : ∀ w, Calls Try.prog 91 #[.int .u8 (word[i].toNat : Int)] w fun e w' => e = .returned (.bool (Flow.isTk (Flow.bt word i))) ∧ w = w' := fun w => by
        have := isTask_any word[i].toNat w
        rw [hb] at this
        rw [hb]
        exact this.mono fun e w' h => ⟨h.1, h.2.symm⟩
      have hI0 : (0 : Int) ≤ (i : Int) := by omega
      have hI1 : (i : Int) < (word.size : Int) := by omega
      clear hb
      cases ht : Flow.isTk (Flow.bt word i) with
      | true =>
        rw [ht] at c1
        have HN' : Hid (∀ j, j < i + 1 → Flow.isTk (Flow.bt word j) = true) := by
          intro j hj
          by_cases e : j = i
          · rw [e]; exact ht
          · exact HN.out j (by omega)
        clear ht
        go_wp2_with (go_at_call 91; refine (c1 _).mono ?_; rintro e w' ⟨rfl, rfl⟩)
        go_round
        case rel => exact ⟨i + 1, by omega, by go_num, HN'⟩
        case measure => simp [intOf]; omega
      | false =>
        rw [ht] at c1
        have F : Hid (Flow.isTk (Flow.bt word i) = false) := ht
        clear ht
        go_wp2_with (go_at_call 91; refine (c1 _).mono ?_; rintro e w' ⟨rfl, rfl⟩)
        go_ret
        exact ⟨(i : Int), rfl, .inr ⟨i, hlt, rfl, F.out, HN.out⟩, rfl⟩
    · obtain rfl : i = word.size := by omega
      go_wp2
      go_ret
      exact ⟨-1, rfl, .inl ⟨rfl, HN.out⟩, rfl⟩

theorem not_word {word : ByteArray} {j : Nat} (h1 : j < word.size) (h2 : Flow.isTk (Flow.bt word j) = false) : ¬ Flow.IsWord word := fun h => by
  have := h j h1
  rw [h2] at this; cases this
/-- what Plays answers -/
def Flow.PlaysA (s word : ByteArray) (b : Bool) (e : Nat) : Prop :=
  ((160 < s.size ∨ 8 < word.size) ∧ b = false ∧ e = 1) ∨
  (¬ (160 < s.size ∨ 8 < word.size) ∧ Flow.checkErr s ≠ 0 ∧ b = false ∧ e = Flow.checkErr s) ∨
  (¬ (160 < s.size ∨ 8 < word.size) ∧ Flow.checkErr s = 0 ∧ ¬ Flow.IsWord word ∧ b = false ∧ e = 8) ∨
  (¬ (160 < s.size ∨ 8 < word.size) ∧ Flow.checkErr s = 0 ∧ Flow.IsWord word ∧ (b = true ↔ Flow.Spells (Flow.readTr s) (Flow.first s) (Flow.nats word) (Flow.lastQ s)) ∧ e = 0)
def PlaysPost (s word : ByteArray) (w : World) (en : Ending) (w' : World) : Prop := ∃ b e, en = .returned (.tuple #[.bool b, .int .i64 (e : Nat)]) ∧ Flow.PlaysA s word b e ∧ Below w.heap.size w w'
theorem playsA_unique {s word : ByteArray} {b b' : Bool} {e e' : Nat} (h : Flow.PlaysA s word b e) (h' : Flow.PlaysA s word b' e') : b = b' ∧ e = e' := by
  rcases h with ⟨a1, a2, a3⟩ | ⟨a1, a2, a3, a4⟩ | ⟨a1, a2, a3, a4, a5⟩ | ⟨a1, a2, a3, a4, a5⟩ <;> rcases h' with ⟨b1, b2, b3⟩ | ⟨b1, b2, b3, b4⟩ | ⟨b1, b2, b3, b4, b5⟩ | ⟨b1, b2, b3, b4, b5⟩
  · exact ⟨by rw [a2, b2], by rw [a3, b3]⟩
  · exact absurd a1 b1
  · exact absurd a1 b1
  · exact absurd a1 b1
  · exact absurd b1 a1
  · exact ⟨by rw [a3, b3], by rw [a4, b4]⟩
  · exact absurd b2 a2
  · exact absurd b2 a2
  · exact absurd b1 a1
  · exact absurd a2 b2
  · exact ⟨by rw [a4, b4], by rw [a5, b5]⟩
  · exact absurd b3 a3
  · exact absurd b1 a1
  · exact absurd a2 b2
  · exact absurd a3 b3
  · refine ⟨?_, by rw [a5, b5]⟩
    rw [Bool.eq_iff_iff, a4, b4]

set_option maxHeartbeats 1000000 in
theorem playsR_any (s word : ByteArray) (w : World) (hs : s.size ≤ maxLen) (hw : word.size ≤ maxLen) : Calls Try.prog 35 #[.string s, .string word] w (PlaysPost s word w) := by
  have c1 := fun w => checkR_any s w hs
  have c2 := fun w => lettersR_any word w hw
  have hs' := hs
  have hw' := hw
  unfold maxLen at hs hw
  by_cases h1 : 160 < s.size ∨ 8 < word.size
  · rcases h1 with h1 | h1
    · have P : Hid (Flow.PlaysA s word false 1) := .inl ⟨.inl h1, rfl, rfl⟩
      go_enter Try.func35, Try.ntmps35
      go_wp2
      go_ret2
      exact ⟨false, 1, rfl, P.out, Below.refl _ _⟩
    · have P : Hid (Flow.PlaysA s word false 1) := .inl ⟨.inr h1, rfl, rfl⟩
      go_enter Try.func35, Try.ntmps35
      go_wp2
      all_goals go_ret2
      all_goals exact ⟨false, 1, rfl, P.out, Below.refl _ _⟩
  · have H1 : Hid (¬ (160 < s.size ∨ 8 < word.size)) := h1
    have hsz : s.size ≤ 160 := by omega
    have hwz : word.size ≤ 8 := by omega
    clear h1
    by_cases h2 : Flow.checkErr s = 0
    · have c3 := fun w => wordsN_any s word w hs' hw' h2
      have H2 : Hid (Flow.checkErr s = 0) := h2
      rw [h2] at c1
      clear h2
      go_enter Try.func35, Try.ntmps35
      go_wp2_with (first
        | (go_at_call 16; refine (c1 _).mono ?_; rintro e w1 ⟨rfl, hb⟩; have HB1 : Hid (Below w.heap.size w w1) := hb; clear hb)
        | (go_at_call 62; refine (c2 _).mono ?_; rintro e w' ⟨r, rfl, hr, hw⟩; obtain rfl := hw.symm; rcases hr with ⟨rfl, hyes⟩ | ⟨j, hj1, rfl, hj2, hj3⟩)
        | (go_at_call 63; refine (c3 _).mono ?_; rintro e w2 ⟨b, rfl, hbi, hb⟩; have HB2 : Hid (Below w.heap.size w w2) := HB1.out.trans (hb.mono HB1.out.size); have BI : Hid _ := hbi; clear hb hbi))
      all_goals go_ret2
      all_goals (first
        | exact ⟨b, 0, rfl, .inr (.inr (.inr ⟨H1.out, H2.out, hyes, BI.out, rfl⟩)), HB2.out⟩
        | exact ⟨false, 8, rfl, .inr (.inr (.inl ⟨H1.out, H2.out, not_word hj1 hj2, rfl, rfl⟩)), HB1.out⟩)
    · have t2 : ((Flow.checkErr s : Int) != 0) = true := by simp; omega
      go_enter Try.func35, Try.ntmps35
      go_wp2_with (go_at_call 16; refine (c1 _).mono ?_; rintro e w1 ⟨rfl, hb⟩; have HB1 : Hid (Below w.heap.size w w1) := hb; clear hb)
      all_goals go_ret2
      all_goals exact ⟨false, Flow.checkErr s, rfl, .inr (.inl ⟨H1.out, h2, rfl, rfl⟩), HB1.out⟩
end Go.Proofs.Ytdlldljgogbiaaa
