/-
  Walks of the small functions: bytes, signs, one transition.
-/
import Derived.Test.YtdlldljgogbiaabGreatChecked
import Derived.Test.YtdlldljgogbiaabGreatBaseM
import Derived.WalkKit
import Derived.WalkLawsBesides
import Derived.WalkSpells
import Derived.Below
import Derived.Outline
namespace Go.Proofs.YtdlldljgogbiaabGreat
open Go.RowKit
set_option linter.unusedVariables false
set_option maxRecDepth 20000

theorem ret_bool {a b : Bool} (h : a = b) : Ending.returned (.bool a) = .returned (.bool b) := by rw [h]
theorem ret_int {k : IntKind} {a b : Int} (h : a = b) : Ending.returned (.int k a) = .returned (.int k b) := by rw [h]
theorem ret_int2 {k l : IntKind} {a b c d : Int} (h : a = b) (g : c = d) : Ending.returned (.tuple #[.int k a, .int l c]) = .returned (.tuple #[.int k b, .int l d]) := by rw [h, g]

theorem isPlaceR_any (c : Nat) (w : World) : Calls Tryz.prog 65 #[.int .u8 c] w fun e w' => e = .returned (.bool (Flow.isPl c)) ∧ w' = w := by
  go_enter Tryz.func65, Tryz.ntmps65
  go_wp2
  all_goals go_ret
  all_goals exact ⟨ret_bool (by unfold Flow.isPl; rw [Bool.eq_iff_iff]; simp; omega), rfl⟩
theorem isPlaceF_any (c : Nat) (w : World) : Calls Tryz.prog 62 #[.int .u8 c] w fun e w' => e = .returned (.bool (Flow.isPl c)) ∧ w' = w := by
  go_enter Tryz.func62, Tryz.ntmps62
  go_wp2
  all_goals go_ret
  all_goals exact ⟨ret_bool (by unfold Flow.isPl; rw [Bool.eq_iff_iff]; simp; omega), rfl⟩
theorem isTask_any (c : Nat) (w : World) : Calls Tryz.prog 60 #[.int .u8 c] w fun e w' => e = .returned (.bool (Flow.isTk c)) ∧ w' = w := by
  go_enter Tryz.func60, Tryz.ntmps60
  go_wp2
  all_goals go_ret
  all_goals exact ⟨ret_bool (by unfold Flow.isTk; rw [Bool.eq_iff_iff]; simp; omega), rfl⟩
theorem isLetter_any (c : Nat) (w : World) : Calls Tryz.prog 85 #[.int .u8 c] w fun e w' => e = .returned (.bool (Flow.isTk c)) ∧ w' = w := by
  go_enter Tryz.func85, Tryz.ntmps85
  go_wp2
  all_goals go_ret
  all_goals exact ⟨ret_bool (by unfold Flow.isTk; rw [Bool.eq_iff_iff]; simp; omega), rfl⟩
theorem isLabel_any (c : Nat) (w : World) : Calls Tryz.prog 115 #[.int .u8 c] w fun e w' => e = .returned (.bool (Flow.isLb c)) ∧ w' = w := by
  go_enter Tryz.func115, Tryz.ntmps115
  go_wp2_with (go_at_call 85; refine (isLetter_any _ _).mono ?_; rintro e w' ⟨rfl, rfl⟩)
  all_goals go_ret
  all_goals exact ⟨ret_bool (by unfold Flow.isLb Flow.isTk; rw [Bool.eq_iff_iff]; simp_all; omega), rfl⟩

theorem pow_small' (k : Nat) (h : k ≤ 15) : wrap64 (2 ^ k) = ((2 ^ k : Nat) : Int) := by
  have h1 : (2 : Nat) ^ k ≤ 2 ^ 15 := Nat.pow_le_pow_right (by omega) h
  have h2 : (2 : Nat) ^ 15 = 32768 := by decide
  have e : ((2 : Int) ^ k) = ((2 ^ k : Nat) : Int) := by simp
  rw [e]
  generalize 2 ^ k = x at *
  unfold wrap64; omega
theorem pow_small (k : Nat) (h : k ≤ 15) : wrap64 (2 ^ min k 64) = ((2 ^ k : Nat) : Int) := by
  rw [Nat.min_eq_left (by omega)]; exact pow_small' k h

theorem placeBit_any (c : Nat) (w : World) (hc : c < 256) : Calls Tryz.prog 47 #[.int .u8 c] w fun e w' => e = .returned (.int .i64 (Flow.pbit c)) ∧ w' = w := by
  by_cases h : Flow.isPl c = true
  · have hp := Flow.isPl_iff.1 h
    go_enter Tryz.func47, Tryz.ntmps47
    go_wp2_with (go_at_call 62; refine (isPlaceF_any _ _).mono ?_; rintro e w' ⟨rfl, rfl⟩)
    go_ret
    exact ⟨ret_int (by rw [pow_small' _ (by omega)]; unfold Flow.pbit; rw [if_pos h]), rfl⟩
  · have h' : Flow.isPl c = false := by simpa using h
    go_enter Tryz.func47, Tryz.ntmps47
    go_wp2_with (go_at_call 62; refine (isPlaceF_any _ _).mono ?_; rintro e w' ⟨rfl, rfl⟩)
    go_ret
    exact ⟨ret_int (by unfold Flow.pbit; rw [if_neg h]; rfl), rfl⟩

theorem number_any (c : Nat) (w : World) (hc : c < 256) : Calls Tryz.prog 50 #[.int .u8 c] w fun e w' => e = .returned (.int .i64 (Flow.num c)) ∧ w' = w := by
  go_enter Tryz.func50, Tryz.ntmps50
  go_wp2
  all_goals go_ret
  all_goals exact ⟨ret_int (by unfold Flow.num; split <;> (try split) <;> omega), rfl⟩

/-- signNumber's answer: -1 where there is none -/
def Flow.snum (c : Nat) : Int := if Flow.num c = 99 then -1 else Flow.num c
theorem signNumber_any (c : Nat) (w : World) (hc : c < 256) : Calls Tryz.prog 83 #[.int .u8 c] w fun e w' => e = .returned (.int .i64 (Flow.snum c)) ∧ w' = w := by
  go_enter Tryz.func83, Tryz.ntmps83
  go_wp2
  all_goals go_ret
  all_goals exact ⟨ret_int (by unfold Flow.snum Flow.num; split <;> (try split) <;> (try split) <;> omega), rfl⟩

/-- a transition as the reference holds it -/
abbrev trR (t : Flow.Tr) : Array Value := #[.int .u8 t.label, .int .i64 t.inn, .int .i64 t.out]
/-- as the program holds it -/
abbrev trF (t : Flow.Tr) : Array Value := #[.int .u8 t.label, .int .i64 t.inn, .int .i64 t.out]

theorem enabled_any (t : Flow.Tr) (m : Nat) (w : World) (hm : m < 65536) (h1 : t.inn < 65536) :
    Calls Tryz.prog 68 #[.agg (trR t), .int .i64 m] w fun e w' => e = .returned (.bool (Flow.enabled t m)) ∧ w' = w.alloc (.cells (trR t) 108) := by
  go_enter Tryz.func68, Tryz.ntmps68
  go_wp2
  go_ret
  exact ⟨ret_bool (by rw [Flow.and_nat _ _ hm h1]; unfold Flow.enabled; rw [Bool.eq_iff_iff]; simp; omega), rfl⟩

theorem spilling_any (t : Flow.Tr) (m : Nat) (w : World) (hm : m < 65536) (h2 : t.out < 65536) (hle : t.inn ≤ m) :
    Calls Tryz.prog 69 #[.agg (trR t), .int .i64 m] w fun e w' => e = .returned (.bool (Flow.spills t m)) ∧ w' = w.alloc (.cells (trR t) 108) := by
  have e : ((m : Int) - (t.inn : Int)) = ((m - t.inn : Nat) : Int) := by omega
  have E : Hid ((m : Int) - (t.inn : Int) = ((m - t.inn : Nat) : Int)) := e
  clear e
  go_enter Tryz.func69, Tryz.ntmps69
  go_wp2
  go_ret
  exact ⟨ret_bool (by rw [E.out, Flow.and_nat _ _ (by omega) h2]; unfold Flow.spills; rw [Bool.eq_iff_iff]; simp), rfl⟩

theorem after_any (t : Flow.Tr) (m : Nat) (w : World) (hm : m < 65536) (h2 : t.out < 65536) (hle : t.inn ≤ m) :
    Calls Tryz.prog 70 #[.agg (trR t), .int .i64 m] w fun e w' => e = .returned (.int .i64 (Flow.after t m)) ∧ w' = w.alloc (.cells (trR t) 108) := by
  go_enter Tryz.func70, Tryz.ntmps70
  go_wp2
  go_ret
  exact ⟨ret_int (by unfold Flow.after; omega), rfl⟩

theorem enabled_le {t : Flow.Tr} {m : Nat} (h : Flow.enabled t m = true) : t.inn ≤ m := by
  have h1 : m &&& t.inn = t.inn := by simpa [Flow.enabled] using h
  have h2 : m &&& t.inn ≤ m := Nat.and_le_left
  omega

theorem fire_idle {t : Flow.Tr} {m : Nat} (hm : m < 65536) (h1 : t.inn < 65536) (h : (bits .and .i64 (m : Int) (t.inn : Int) != (t.inn : Int)) = true) : Flow.fireErr t m = 5 := by
  rw [Flow.and_nat _ _ hm h1] at h
  have h' : ¬ (m &&& t.inn = t.inn) := by simp at h; omega
  simp [Flow.fireErr, Flow.enabled, h']
theorem fire_on {t : Flow.Tr} {m : Nat} (hm : m < 65536) (h1 : t.inn < 65536) (h : (bits .and .i64 (m : Int) (t.inn : Int) != (t.inn : Int)) = false) : Flow.enabled t m = true ∧ bits .andNot .i64 (m : Int) (t.inn : Int) = ((m - t.inn : Nat) : Int) := by
  rw [Flow.and_nat _ _ hm h1] at h
  have h' : m &&& t.inn = t.inn := by simp at h; omega
  refine ⟨by simp [Flow.enabled, h'], ?_⟩
  rw [Flow.andNot_nat _ _ hm h1, h']
theorem fire_spill {t : Flow.Tr} {m : Nat} (hm : m < 65536) (h1 : t.inn < 65536) (h2 : t.out < 65536) (h : (bits .and .i64 (m : Int) (t.inn : Int) != (t.inn : Int)) = false)
    (g : (bits .and .i64 (bits .andNot .i64 (m : Int) (t.inn : Int)) (t.out : Int) != 0) = true) : Flow.fireErr t m = 6 := by
  obtain ⟨he, hn⟩ := fire_on hm h1 h
  rw [hn, Flow.and_nat _ _ (by omega) h2] at g
  have g' : ¬ ((m - t.inn) &&& t.out = 0) := by simp at g; omega
  simp [Flow.fireErr, he, Flow.spills, g']
theorem fire_go {t : Flow.Tr} {m : Nat} (hm : m < 65536) (h1 : t.inn < 65536) (h2 : t.out < 65536) (h : (bits .and .i64 (m : Int) (t.inn : Int) != (t.inn : Int)) = false)
    (g : (bits .and .i64 (bits .andNot .i64 (m : Int) (t.inn : Int)) (t.out : Int) != 0) = false) : Flow.fireErr t m = 0 ∧ bits .or .i64 (bits .andNot .i64 (m : Int) (t.inn : Int)) (t.out : Int) = (Flow.after t m : Nat) := by
  obtain ⟨he, hn⟩ := fire_on hm h1 h
  rw [hn, Flow.and_nat _ _ (by omega) h2] at g
  have g' : (m - t.inn) &&& t.out = 0 := by simp at g; omega
  refine ⟨by simp [Flow.fireErr, he, Flow.spills, g'], ?_⟩
  rw [hn, Flow.or_nat _ _ (by omega) h2, Flow.or_add (by omega) h2 g']; rfl

theorem fireAt_any (t : Flow.Tr) (m : Nat) (w : World) (hm : m < 65536) (h1 : t.inn < 65536) (h2 : t.out < 65536) :
    Calls Tryz.prog 84 #[.agg (trF t), .int .i64 m] w fun e w' => e = .returned (.tuple #[.int .i64 (Flow.fireTo t m), .int .i64 (Flow.fireErr t m)]) ∧ w' = w.alloc (.cells (trF t) 93) := by
  go_enter Tryz.func84, Tryz.ntmps84
  go_wp2
  · go_ret2
    have h := fire_idle hm h1 ‹_›
    exact ⟨ret_int2 (by unfold Flow.fireTo; rw [h]; rfl) (by rw [h]; rfl), rfl⟩
  · go_ret2
    have h := fire_spill hm h1 h2 ‹_› ‹_›
    exact ⟨ret_int2 (by unfold Flow.fireTo; rw [h]; rfl) (by rw [h]; rfl), rfl⟩
  · go_ret2
    have h := fire_go hm h1 h2 ‹_› ‹_›
    exact ⟨ret_int2 (by unfold Flow.fireTo; rw [if_pos h.1]; exact h.2) (by rw [h.1]; rfl), rfl⟩
end Go.Proofs.YtdlldljgogbiaabGreat
