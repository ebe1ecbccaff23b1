/-
  The reference's letters.
-/
import Derived.Test.YtdlldljgogbiaaaSmall
import Derived.Test.YtdlldljgogbiaaaNatsR
namespace Go.Proofs.Ytdlldljgogbiaaa
open Go.RowKit
set_option linter.unusedVariables false
set_option maxRecDepth 40000

/-- the first byte that is no letter, or -1 -/
def Flow.LettersIs (word : ByteArray) (r : Int) : Prop := (r = -1 ∧ Flow.IsWord word) ∨ ∃ i : Nat, i < word.size ∧ r = (i : Int) ∧ Flow.isTk (Flow.bt word i) = false ∧ ∀ j, j < i → Flow.isTk (Flow.bt word j) = true
theorem lettersR_any (word : ByteArray) (w : World) (hw : word.size ≤ maxLen) : Calls Try.prog 62 #[.string word] w fun e w' => ∃ r, e = .returned (.int .i64 r) ∧ Flow.LettersIs word r ∧ w = w' := by
  unfold maxLen at hw
  go_enter Try.func62, Try.ntmps62
  go_wp2
  go_loop [3] (fun i' => ∃ (i : Nat), i ≤ word.size ∧ i' = .int .i64 i ∧ Hid (∀ j, j < i → Flow.isTk (Flow.bt word j) = true)) (fun i' => word.size - (intOf i').toNat)
  case atStart => exact ⟨0, by omega, rfl, fun j hj => by omega⟩
  case round =>
    obtain ⟨i, hil, rfl, HN⟩ := hrel
    by_cases hlt : i < word.size
    · have hb := Flow.bt_at hlt
      have c1 : ∀ w, Calls Try.prog 91 #[.int .u8 (word[i].toNat : Int)] w fun e w' => e = .returned (.bool (Flow.isTk (Flow.bt word i))) ∧ w = w' := fun w => by
        have := isTask_any word[i].toNat w
        rw [hb] at this
        rw [hb]
        exact this.mono fun e w' h => ⟨h.1, h.2.symm⟩
      have hI0 : (0 : Int) ≤ (i : Int) := by omega
      have hI1 : (i : Int) < (word.size : Int) := by omega
      clear hb
      cases ht : Flow.isTk (Flow.bt word i) with
      | true =>
        rw [ht] at c1
        have HN' : Hid (∀ j, j < i + 1 → Flow.isTk (Flow.bt word j) = true) := by
          intro j hj
          by_cases e : j = i
          · rw [e]; exact ht
          · exact HN.out j (by omega)
        clear ht
        go_wp2_with (go_at_call 91; refine (c1 _).mono ?_; rintro e w' ⟨rfl, rfl⟩)
        go_round
        case rel => exact ⟨i + 1, by omega, by go_num, HN'⟩
        case measure => simp [intOf]; omega
      | false =>
        rw [ht] at c1
        have F : Hid (Flow.isTk (Flow.bt word i) = false) := ht
        clear ht
        go_wp2_with (go_at_call 91; refine (c1 _).mono ?_; rintro e w' ⟨rfl, rfl⟩)
        go_ret
        exact ⟨(i : Int), rfl, .inr ⟨i, hlt, rfl, F.out, HN.out⟩, rfl⟩
    · obtain rfl : i = word.size := by omega
      go_wp2
      go_ret
      exact ⟨-1, rfl, .inl ⟨rfl, HN.out⟩, rfl⟩

end Go.Proofs.Ytdlldljgogbiaaa
