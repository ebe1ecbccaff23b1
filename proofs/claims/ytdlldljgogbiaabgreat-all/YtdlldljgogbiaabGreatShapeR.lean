/-
  The reference's look for a byte by which a transition puts to the start or takes from the end (it draws an order).
-/
import Derived.Test.YtdlldljgogbiaabGreatShape
import Derived.Deep.QuietTactic
import Derived.BigQuiet
namespace Go.Proofs.YtdlldljgogbiaabGreat
open Go.RowKit
set_option linter.unusedVariables false
set_option maxRecDepth 20000

/-- the reference's shape: -1 where there is none -/
def Flow.shapeI (s : ByteArray) : Int := if Flow.shape s 2 false < s.size then (Flow.shape s 2 false : Int) else -1

set_option maxHeartbeats 1000000 in
theorem shapeR_any (s : ByteArray) (w : World) (hs : s.size ≤ maxLen) (h2 : 2 ≤ s.size) :
    Calls Tryz.prog 34 #[.string s] w fun e w' => e = .returned (.int .i64 (Flow.shapeI s)) ∧ Below w.heap.size w w' := by
  unfold maxLen at hs
  go_enter Tryz.func34, Tryz.ntmps34
  go_wp2
  go_loopw [3, 4] (fun t' i' wr => ∃ (k : Nat) (p : Bool), 2 ≤ k ∧ k ≤ s.size ∧ i' = .int .i64 k ∧ t' = .bool p ∧ Below w.heap.size w wr ∧ Hid (Flow.shape s k p = Flow.shape s 2 false)) (fun _ i' _ => s.size - (intOf i').toNat)
  case atStart => exact ⟨2, false, by omega, h2, rfl, rfl, Below.refl _ _, rfl⟩
  case round =>
    obtain ⟨k, p, hk2, hk, rfl, rfl, HW, HP⟩ := hrel
    have HWW : Hid _ := HW
    clear HW
    by_cases hlt : k < s.size
    · have hI : (k : Int) < (s.size : Int) := by omega
      have hI0 : (0 : Int) ≤ (k : Int) := by omega
      have hI1 : 0 < s.size := by omega
      have hI2 : 1 < s.size := by omega
      have hI3 : (1 : Int) < (s.size : Int) := by omega
      have HB : Hid (s[k].toNat = Flow.bt s k) := Flow.bt_at hlt
      have hb256 : s[k].toNat < 256 := UInt8.toNat_lt _
      have hz0 : s[0].toNat = Flow.bt s 0 := Flow.bt_at (by omega)
      have hz1 : s[1].toNat = Flow.bt s 1 := Flow.bt_at (by omega)
      have HQ : ∃ q : Bool, Hid (Flow.putsAt (Flow.bt s k) p = q) := ⟨_, rfl⟩
      obtain ⟨q, HQ⟩ := HQ
      have fin1 : (q = true ∧ s[k].toNat = Flow.bt s 0) ∨ (q = false ∧ s[k].toNat = Flow.bt s 1) → Flow.shapeI s = k := by
        intro h
        have e : Flow.shape s 2 false = k := by rw [← HP.out]; exact Flow.shape_here hlt (by rw [HQ.out, ← HB.out]; exact h)
        unfold Flow.shapeI; rw [e, if_pos hlt]
      have fin2 : ¬ ((q = true ∧ s[k].toNat = Flow.bt s 0) ∨ (q = false ∧ s[k].toNat = Flow.bt s 1)) → Flow.shape s (k + 1) q = Flow.shape s 2 false := by
        intro h; rw [← HP.out, Flow.shape_next hlt (by rw [HQ.out, ← HB.out]; exact h), HQ.out]
      have F1 := show Hid _ from fin1
      have F2 := show Hid _ from fin2
      clear fin1 fin2
      have hq : (s[k].toNat = 62 ∧ q = true) ∨ (s[k].toNat = 59 ∧ q = false) ∨ ((s[k].toNat ≠ 62 ∧ s[k].toNat ≠ 59) ∧ q = p) := by
        have := HQ.out
        rw [← HB.out] at this
        unfold Flow.putsAt at this
        by_cases a : s[k].toNat = 62
        · rw [if_pos a] at this; exact .inl ⟨a, this.symm⟩
        · rw [if_neg a] at this
          by_cases b : s[k].toNat = 59
          · rw [if_pos b] at this; exact .inr (.inl ⟨b, this.symm⟩)
          · rw [if_neg b] at this; exact .inr (.inr ⟨⟨a, b⟩, this.symm⟩)
      clear HQ
      have HZ0 : Hid _ := hz0
      have HZ1 : Hid _ := hz1
      clear hz0 hz1
      rcases hq with ⟨a, rfl⟩ | ⟨a, rfl⟩ | ⟨⟨a, b⟩, rfl⟩
      · have t59 : ((s[k].toNat : Int) == 59) = false := by simp; omega
        have t62 : ((s[k].toNat : Int) == 62) = true := by simp; omega
        clear a
        by_cases g : s[k].toNat = Flow.bt s 0
        · have R : Hid _ := F1.out (.inl ⟨rfl, g⟩)
          have tn : ((s[k].toNat : Int) == (s[0].toNat : Int)) = true := by rw [HZ0.out]; simp; omega
          clear F1 F2 g
          go_wp2
          go_quiet (fail)
          go_wp2
          go_ret; exact ⟨ret_int (by rw [R.out]), below_drewN HWW.out _⟩
        · have R : Hid _ := F2.out (by intro h; rcases h with h | h <;> simp_all)
          have tn : ((s[k].toNat : Int) == (s[0].toNat : Int)) = false := by rw [HZ0.out]; simp; omega
          clear F1 F2 g
          go_wp2
          go_quiet (fail)
          go_wp2
          go_roundw
          case rel => exact ⟨k + 1, true, by omega, by omega, by go_num, rfl, below_drewN HWW.out _, R⟩
          case measure => simp [intOf]; omega
      · have t59 : ((s[k].toNat : Int) == 59) = true := by simp; omega
        have t62 : ((s[k].toNat : Int) == 62) = false := by simp; omega
        clear a
        by_cases g : s[k].toNat = Flow.bt s 1
        · have R : Hid _ := F1.out (.inr ⟨rfl, g⟩)
          have tn : ((s[k].toNat : Int) == (s[1].toNat : Int)) = true := by rw [HZ1.out]; simp; omega
          clear F1 F2 g
          go_wp2
          go_quiet (fail)
          go_wp2
          go_ret; exact ⟨ret_int (by rw [R.out]), below_drewN HWW.out _⟩
        · have R : Hid _ := F2.out (by intro h; rcases h with h | h <;> simp_all)
          have tn : ((s[k].toNat : Int) == (s[1].toNat : Int)) = false := by rw [HZ1.out]; simp; omega
          clear F1 F2 g
          go_wp2
          go_quiet (fail)
          go_wp2
          go_roundw
          case rel => exact ⟨k + 1, false, by omega, by omega, by go_num, rfl, below_drewN HWW.out _, R⟩
          case measure => simp [intOf]; omega
      · have t59 : ((s[k].toNat : Int) == 59) = false := by simp; omega
        have t62 : ((s[k].toNat : Int) == 62) = false := by simp; omega
        clear a b
        cases q
        · by_cases g : s[k].toNat = Flow.bt s 1
          · have R : Hid _ := F1.out (.inr ⟨rfl, g⟩)
            have tn : ((s[k].toNat : Int) == (s[1].toNat : Int)) = true := by rw [HZ1.out]; simp; omega
            clear F1 F2 g
            go_wp2
            go_quiet (fail)
            go_wp2
            go_ret; exact ⟨ret_int (by rw [R.out]), below_drewN HWW.out _⟩
          · have R : Hid _ := F2.out (by intro h; rcases h with h | h <;> simp_all)
            have tn : ((s[k].toNat : Int) == (s[1].toNat : Int)) = false := by rw [HZ1.out]; simp; omega
            clear F1 F2 g
            go_wp2
            go_quiet (fail)
            go_wp2
            go_roundw
            case rel => exact ⟨k + 1, false, by omega, by omega, by go_num, rfl, below_drewN HWW.out _, R⟩
            case measure => simp [intOf]; omega
        · by_cases g : s[k].toNat = Flow.bt s 0
          · have R : Hid _ := F1.out (.inl ⟨rfl, g⟩)
            have tn : ((s[k].toNat : Int) == (s[0].toNat : Int)) = true := by rw [HZ0.out]; simp; omega
            clear F1 F2 g
            go_wp2
            go_quiet (fail)
            go_wp2
            go_ret; exact ⟨ret_int (by rw [R.out]), below_drewN HWW.out _⟩
          · have R : Hid _ := F2.out (by intro h; rcases h with h | h <;> simp_all)
            have tn : ((s[k].toNat : Int) == (s[0].toNat : Int)) = false := by rw [HZ0.out]; simp; omega
            clear F1 F2 g
            go_wp2
            go_quiet (fail)
            go_wp2
            go_roundw
            case rel => exact ⟨k + 1, true, by omega, by omega, by go_num, rfl, below_drewN HWW.out _, R⟩
            case measure => simp [intOf]; omega
    · go_wp2
      go_ret
      exact ⟨ret_int (by unfold Flow.shapeI; rw [← HP.out, Flow.shape_end hlt, if_neg (by omega)]), HWW.out⟩
end Go.Proofs.YtdlldljgogbiaabGreat
