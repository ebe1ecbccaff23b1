/-
  The program's first byte that is no letter.
-/
import Derived.Test.YtdlldljgogbiaabSmall
import Derived.Test.YtdlldljgogbiaabNatsR
namespace Go.Proofs.Ytdlldljgogbiaab
open Go.RowKit
set_option linter.unusedVariables false
set_option maxRecDepth 40000

/-- the first byte that is no letter, or the length -/
def Flow.NoLetter (word : ByteArray) (r : Nat) : Prop := (r = word.size ∧ Flow.IsWord word) ∨ (r < word.size ∧ Flow.isTk (Flow.bt word r) = false ∧ ∀ j, j < r → Flow.isTk (Flow.bt word j) = true)
set_option maxHeartbeats 1000000 in
theorem firstNoLetter_any (word : ByteArray) (w : World) (hw : word.size ≤ maxLen) : Calls Try.prog 37 #[.string word] w fun e w' => ∃ r : Nat, e = .returned (.int .i64 r) ∧ r ≤ word.size ∧ Flow.NoLetter word r ∧ w = w' := by
  unfold maxLen at hw
  go_enter Try.func37, Try.ntmps37
  go_wp2
  go_loop [3] (fun i' => ∃ (i : Nat), i ≤ word.size ∧ i' = .int .i64 i ∧ Hid (∀ j, j < i → Flow.isTk (Flow.bt word j) = true)) (fun i' => word.size - (intOf i').toNat)
  case atStart => exact ⟨0, by omega, rfl, fun j hj => by omega⟩
  case round =>
    obtain ⟨i, hil, rfl, HN⟩ := hrel
    by_cases hlt : i < word.size
    · have hb := Flow.bt_at hlt
      have c1 : ∀ w, Calls Try.prog 61 #[.int .u8 (word[i].toNat : Int)] w fun e w' => e = .returned (.bool (Flow.isTk (Flow.bt word i))) ∧ w = w' := fun w => by
        have := isLetter_any word[i].toNat w
        rw [hb] at this
        rw [hb]
        exact this.mono fun e w' h => ⟨h.1, h.2.symm⟩
      have hI0 : (0 : Int) ≤ (i : Int) := by omega
      have hI1 : (i : Int) < (word.size : Int) := by omega
      clear hb
      cases ht : Flow.isTk (Flow.bt word i) with
      | true =>
        rw [ht] at c1
        have HN' : Hid (∀ j, j < i + 1 → Flow.isTk (Flow.bt word j) = true) := by
          intro j hj
          by_cases e : j = i
          · rw [e]; exact ht
          · exact HN.out j (by omega)
        clear ht
        go_wp2_with (go_at_call 61; refine (c1 _).mono ?_; rintro e w' ⟨rfl, rfl⟩)
        go_round
        case rel => exact ⟨i + 1, by omega, by go_num, HN'⟩
        case measure => simp [intOf]; omega
      | false =>
        rw [ht] at c1
        have F : Hid (Flow.isTk (Flow.bt word i) = false) := ht
        clear ht
        go_wp2_with (go_at_call 61; refine (c1 _).mono ?_; rintro e w' ⟨rfl, rfl⟩)
        go_ret
        exact ⟨i, rfl, hil, .inr ⟨hlt, F.out, HN.out⟩, rfl⟩
    · obtain rfl : i = word.size := by omega
      go_wp2
      go_ret
      exact ⟨word.size, rfl, Nat.le_refl _, .inl ⟨rfl, HN.out⟩, rfl⟩

end Go.Proofs.Ytdlldljgogbiaab
