/-
  The program's Plays.
-/
import Derived.Test.YtdlldljgogbiaaaPlyF
import Derived.Test.YtdlldljgogbiaaaTopF
namespace Go.Proofs.Ytdlldljgogbiaaa
open Go.RowKit
set_option linter.unusedVariables false
set_option maxRecDepth 40000

/-- the first byte that is no letter, or the length -/
def Flow.NoLetter (word : ByteArray) (r : Nat) : Prop := (r = word.size ∧ Flow.IsWord word) ∨ (r < word.size ∧ Flow.isTk (Flow.bt word r) = false ∧ ∀ j, j < r → Flow.isTk (Flow.bt word j) = true)
set_option maxHeartbeats 1000000 in
theorem firstNoLetter_any (word : ByteArray) (w : World) (hw : word.size ≤ maxLen) : Calls Try.prog 60 #[.string word] w fun e w' => ∃ r : Nat, e = .returned (.int .i64 r) ∧ r ≤ word.size ∧ Flow.NoLetter word r ∧ w = w' := by
  unfold maxLen at hw
  go_enter Try.func60, Try.ntmps60
  go_wp2
  go_loop [3] (fun i' => ∃ (i : Nat), i ≤ word.size ∧ i' = .int .i64 i ∧ Hid (∀ j, j < i → Flow.isTk (Flow.bt word j) = true)) (fun i' => word.size - (intOf i').toNat)
  case atStart => exact ⟨0, by omega, rfl, fun j hj => by omega⟩
  case round =>
    obtain ⟨i, hil, rfl, HN⟩ := hrel
    by_cases hlt : i < word.size
    · have hb := Flow.bt_at hlt
      have c1 : ∀ w, Calls Try.prog 87 #[.int .u8 (word[i].toNat : Int)] w fun e w' => e = .returned (.bool (Flow.isTk (Flow.bt word i))) ∧ w = w' := fun w => by
        have := isLetter_any word[i].toNat w
        rw [hb] at this
        rw [hb]
        exact this.mono fun e w' h => ⟨h.1, h.2.symm⟩
      have hI0 : (0 : Int) ≤ (i : Int) := by omega
      have hI1 : (i : Int) < (word.size : Int) := by omega
      clear hb
      cases ht : Flow.isTk (Flow.bt word i) with
      | true =>
        rw [ht] at c1
        have HN' : Hid (∀ j, j < i + 1 → Flow.isTk (Flow.bt word j) = true) := by
          intro j hj
          by_cases e : j = i
          · rw [e]; exact ht
          · exact HN.out j (by omega)
        clear ht
        go_wp2_with (go_at_call 87; refine (c1 _).mono ?_; rintro e w' ⟨rfl, rfl⟩)
        go_round
        case rel => exact ⟨i + 1, by omega, by go_num, HN'⟩
        case measure => simp [intOf]; omega
      | false =>
        rw [ht] at c1
        have F : Hid (Flow.isTk (Flow.bt word i) = false) := ht
        clear ht
        go_wp2_with (go_at_call 87; refine (c1 _).mono ?_; rintro e w' ⟨rfl, rfl⟩)
        go_ret
        exact ⟨i, rfl, hil, .inr ⟨hlt, F.out, HN.out⟩, rfl⟩
    · obtain rfl : i = word.size := by omega
      go_wp2
      go_ret
      exact ⟨word.size, rfl, Nat.le_refl _, .inl ⟨rfl, HN.out⟩, rfl⟩

theorem lastQ_pbit {s : ByteArray} (h : Flow.isPl (Flow.bt s 1) = true) : Flow.lastQ s = Flow.pbit (Flow.bt s 1) := by
  unfold Flow.lastQ Flow.pbit; rw [if_pos h]

set_option maxHeartbeats 2000000 in
theorem playsF_any (s word : ByteArray) (w : World) (hs : s.size ≤ maxLen) (hw : word.size ≤ maxLen) : Calls Try.prog 34 #[.string s, .string word] w (PlaysPost s word w) := by
  have cl := fun w => firstNoLetter_any word w hw
  have hs' := hs
  unfold maxLen at hs hw
  by_cases h1 : 8 < word.size
  · have P : Hid (Flow.PlaysA s word false 1) := .inl ⟨.inr h1, rfl, rfl⟩
    go_enter Try.func34, Try.ntmps34
    go_wp2
    go_ret2
    exact ⟨false, 1, rfl, P.out, Below.refl _ _⟩
  · have hwz : word.size ≤ 8 := by omega
    by_cases h2 : Flow.checkErr s = 0
    · obtain ⟨hok, hsz, hp0, hp1⟩ := checkErr_ok h2
      obtain ⟨hf, hfe⟩ := first_lt hp0
      have hle := lastQ_pbit hp1
      have c1 := fun w => netF_ok s w hs' h2
      have hs160 : ¬ 160 < s.size := fun h => by rw [(checkErr_long h).1] at h2; cases h2
      have H1 : Hid (¬ (160 < s.size ∨ 8 < word.size)) := by rintro (x | x); exact hs160 x; exact h1 x
      have c2 : ∀ a cap base w, Flow.IsWord word → w.ownsRow base 91 3 (.slice a (Flow.readTr s).length cap) (Flow.readTr s).length (cellsF (Flow.readTr s)) → Calls Try.prog 61 #[.agg (netF (Flow.bt s 0) (Flow.bt s 1) a (Flow.readTr s).length cap), .string word] w fun e w' => ∃ b, e = .returned (.bool b) ∧ (b = true ↔ Flow.Spells (Flow.readTr s) (Flow.first s) (Flow.nats word) (Flow.lastQ s)) ∧ Below w.heap.size w w' := fun a cap base w hi ho => by
        rw [hfe, hle]
        exact playsWord_any (Flow.readTr s) (Flow.bt s 0) (Flow.bt s 1) a cap base word w (Flow.bt_lt _ _) (Flow.bt_lt _ _) hwz hi (readTr_small s) (readTr_size s) ho
      have H2 : Hid (Flow.checkErr s = 0) := h2
      clear h2 hok hsz hp0 hp1 hf hfe hle hs160
      go_enter Try.func34, Try.ntmps34
      go_wp2_with (first
        | (go_at_call 38; refine (c1 _).mono ?_; rintro e w1 ⟨a, cap, rfl, hb1, ho1⟩; have HB1 : Hid _ := hb1; have HO1 : Hid (w1.ownsRow _ 91 3 (.slice a (Flow.readTr s).length cap) (Flow.readTr s).length (cellsF (Flow.readTr s))) := ho1; clear hb1 ho1)
        | (go_at_call 60; refine (cl _).mono ?_; rintro e w' ⟨r, rfl, hrl, hr, hww⟩; obtain rfl := hww.symm; rcases hr with ⟨rfl, hyes⟩ | ⟨hj1, hj2, hj3⟩)
        | (go_at_call 61; refine (c2 a cap _ _ hyes (HO1.out.alloc _)).mono ?_; rintro e w2 ⟨b, rfl, hbi, hb2⟩; have HB2 : Hid _ := hb2; have BI : Hid _ := hbi; clear hb2 hbi))
      all_goals go_ret2
      all_goals have z1 := HB1.out.size
      all_goals (first
        | exact ⟨b, 0, rfl, .inr (.inr (.inr ⟨H1.out, H2.out, hyes, BI.out, rfl⟩)), (HB1.out.alloc z1 _).trans (HB2.out.mono (by simp; omega))⟩
        | exact ⟨false, 8, rfl, .inr (.inr (.inl ⟨H1.out, H2.out, not_word hj1 hj2, rfl, rfl⟩)), HB1.out.alloc z1 _⟩)
    · have c1 := fun w => netF_no s w hs' h2
      have t2 : ((Flow.checkErr s : Int) != 0) = true := by simp; omega
      have P : Hid (Flow.PlaysA s word false (Flow.checkErr s)) := by
        by_cases h160 : 160 < s.size
        · exact .inl ⟨.inl h160, rfl, (checkErr_long h160).1⟩
        · exact .inr (.inl ⟨by rintro (x | x); exact h160 x; exact h1 x, h2, rfl, rfl⟩)
      go_enter Try.func34, Try.ntmps34
      go_wp2_with (go_at_call 38; refine (c1 _).mono ?_; rintro e w1 ⟨rfl, hb1⟩; have HB1 : Hid _ := hb1; clear hb1)
      go_ret2
      exact ⟨false, Flow.checkErr s, rfl, P.out, HB1.out.alloc HB1.out.size _⟩
end Go.Proofs.Ytdlldljgogbiaaa
