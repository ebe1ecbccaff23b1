/-
  The two looks for a byte by which a transition puts to the start or takes from the end.
-/
import Derived.Test.YtdlldljgogbiaabGreatPlaces
namespace Go.Proofs.YtdlldljgogbiaabGreat
open Go.RowKit
set_option linter.unusedVariables false
set_option maxRecDepth 20000

set_option maxHeartbeats 1000000 in
theorem wrongWay_any (s : ByteArray) (w : World) (hs : s.size ≤ maxLen) (h2 : 2 ≤ s.size) :
    Calls Tryz.prog 64 #[.string s, .int .u8 (Flow.bt s 0), .int .u8 (Flow.bt s 1)] w fun e w' => e = .returned (.int .i64 (Flow.shape s 2 true)) ∧ w' = w := by
  unfold maxLen at hs
  have hb0 := Flow.bt_lt s 0
  have hb1 := Flow.bt_lt s 1
  go_enter Tryz.func64, Tryz.ntmps64
  go_wp2
  go_loop [7, 8] (fun t' i' => ∃ (k : Nat) (p : Bool), k ≤ s.size ∧ i' = .int .i64 k ∧ t' = .bool (!p) ∧ Hid (Flow.shape s k p = Flow.shape s 2 true)) (fun _ i' => s.size - (intOf i').toNat)
  case atStart => exact ⟨2, true, h2, rfl, rfl, rfl⟩
  case round =>
    obtain ⟨k, p, hk, rfl, rfl, HP⟩ := hrel
    by_cases hlt : k < s.size
    · have HB : Hid (s[k].toNat = Flow.bt s k) := Flow.bt_at hlt
      have hb256 : s[k].toNat < 256 := UInt8.toNat_lt _
      have HQ : ∃ q : Bool, Hid (Flow.putsAt (Flow.bt s k) p = q) := ⟨_, rfl⟩
      obtain ⟨q, HQ⟩ := HQ
      have fin1 : (q = true ∧ s[k].toNat = Flow.bt s 0) ∨ (q = false ∧ s[k].toNat = Flow.bt s 1) → Flow.shape s 2 true = k := by
        intro h; rw [← HP.out]; exact Flow.shape_here hlt (by rw [HQ.out, ← HB.out]; exact h)
      have fin2 : ¬ ((q = true ∧ s[k].toNat = Flow.bt s 0) ∨ (q = false ∧ s[k].toNat = Flow.bt s 1)) → Flow.shape s (k + 1) q = Flow.shape s 2 true := by
        intro h; rw [← HP.out, Flow.shape_next hlt (by rw [HQ.out, ← HB.out]; exact h), HQ.out]
      have F1 := show Hid _ from fin1
      have F2 := show Hid _ from fin2
      clear fin1 fin2
      have hq : (s[k].toNat = 62 ∧ q = true) ∨ (s[k].toNat = 59 ∧ q = false) ∨ ((s[k].toNat ≠ 62 ∧ s[k].toNat ≠ 59) ∧ q = p) := by
        have := HQ.out
        rw [← HB.out] at this
        unfold Flow.putsAt at this
        by_cases a : s[k].toNat = 62
        · rw [if_pos a] at this; exact .inl ⟨a, this.symm⟩
        · rw [if_neg a] at this
          by_cases b : s[k].toNat = 59
          · rw [if_pos b] at this; exact .inr (.inl ⟨b, this.symm⟩)
          · rw [if_neg b] at this; exact .inr (.inr ⟨⟨a, b⟩, this.symm⟩)
      clear HQ
      rcases hq with ⟨a, rfl⟩ | ⟨a, rfl⟩ | ⟨⟨a, b⟩, rfl⟩
      · by_cases g : s[k].toNat = Flow.bt s 0
        · have R : Hid _ := F1.out (.inl ⟨rfl, g⟩)
          clear F1 F2
          go_wp2
          go_ret; exact ⟨ret_int (by rw [R.out]), rfl⟩
        · have R : Hid _ := F2.out (by intro h; rcases h with h | h <;> simp_all)
          clear F1 F2
          go_wp2
          go_round
          case rel => exact ⟨k + 1, true, by omega, by go_num, rfl, R⟩
          case measure => simp [intOf]; omega
      · by_cases g : s[k].toNat = Flow.bt s 1
        · have R : Hid _ := F1.out (.inr ⟨rfl, g⟩)
          clear F1 F2
          go_wp2
          go_ret; exact ⟨ret_int (by rw [R.out]), rfl⟩
        · have R : Hid _ := F2.out (by intro h; rcases h with h | h <;> simp_all)
          clear F1 F2
          go_wp2
          go_round
          case rel => exact ⟨k + 1, false, by omega, by go_num, rfl, R⟩
          case measure => simp [intOf]; omega
      · cases q
        · by_cases g : s[k].toNat = Flow.bt s 1
          · have R : Hid _ := F1.out (.inr ⟨rfl, g⟩)
            clear F1 F2
            go_wp2
            go_ret; exact ⟨ret_int (by rw [R.out]), rfl⟩
          · have R : Hid _ := F2.out (by intro h; rcases h with h | h <;> simp_all)
            clear F1 F2
            go_wp2
            go_round
            case rel => exact ⟨k + 1, false, by omega, by go_num, rfl, R⟩
            case measure => simp [intOf]; omega
        · by_cases g : s[k].toNat = Flow.bt s 0
          · have R : Hid _ := F1.out (.inl ⟨rfl, g⟩)
            clear F1 F2
            go_wp2
            go_ret; exact ⟨ret_int (by rw [R.out]), rfl⟩
          · have R : Hid _ := F2.out (by intro h; rcases h with h | h <;> simp_all)
            clear F1 F2
            go_wp2
            go_round
            case rel => exact ⟨k + 1, true, by omega, by go_num, rfl, R⟩
            case measure => simp [intOf]; omega
    · go_wp2
      go_ret
      exact ⟨ret_int (by rw [← HP.out, Flow.shape_end hlt]), rfl⟩
end Go.Proofs.YtdlldljgogbiaabGreat
