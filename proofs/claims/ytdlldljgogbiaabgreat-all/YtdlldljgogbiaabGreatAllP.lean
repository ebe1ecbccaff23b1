/-
  A script: its steps, one by one.
-/
import Derived.WalkKit
import Derived.ProofKit
import Derived.OpenShut
import Derived.Below
import Derived.Test.YtdlldljgogbiaabGreatSmall
namespace Go.Proofs.YtdlldljgogbiaabGreat
open Go.RowKit
set_option linter.unusedVariables false
set_option maxRecDepth 40000

/-- the eight laws hold -/
structure StepsOk : Prop where
  checks : ∀ (S : ByteArray) (w : World), S.size ≤ maxLen → Calls Tryz.prog 5 #[.string S] w fun e w' => e = .returned (.bool true) ∧ Below w.heap.size w w'
  fires : ∀ (S T : ByteArray) (w : World), S.size ≤ maxLen → T.size < maxLen → Calls Tryz.prog 6 #[.string S, .string T] w fun e w' => e = .returned (.bool true) ∧ Below w.heap.size w w'
  judges : ∀ (S : ByteArray) (w : World), S.size ≤ maxLen → Calls Tryz.prog 7 #[.string S] w fun e w' => e = .returned (.bool true) ∧ Below w.heap.size w w'
  finishes : ∀ (S T : ByteArray) (w : World), S.size ≤ maxLen → T.size < maxLen → Calls Tryz.prog 8 #[.string S, .string T] w fun e w' => e = .returned (.bool true) ∧ Below w.heap.size w w'
  enables : ∀ (S T : ByteArray) (w : World), S.size ≤ maxLen → T.size < maxLen → Calls Tryz.prog 9 #[.string S, .string T] w fun e w' => e = .returned (.bool true) ∧ Below w.heap.size w w'
  playing : ∀ (S T : ByteArray) (w : World), S.size ≤ maxLen → T.size < maxLen → Calls Tryz.prog 10 #[.string S, .string T] w fun e w' => e = .returned (.bool true) ∧ Below w.heap.size w w'
  accepting : ∀ (S T : ByteArray) (w : World), S.size ≤ maxLen → T.size < maxLen → Calls Tryz.prog 11 #[.string S, .string T] w fun e w' => e = .returned (.bool true) ∧ Below w.heap.size w w'
  compiles : ∀ (S T : ByteArray) (w : World), S.size ≤ maxLen → T.size < maxLen → Calls Tryz.prog 12 #[.string S, .string T] w fun e w' => e = .returned (.bool true) ∧ Below w.heap.size w w'

/-- a step, as it lies in memory -/
def opC (k x y : Int) (S T : ByteArray) : Array Value := #[.int .i64 k, .int .i64 x, .int .i64 y, .string S, .string T]
set_option maxHeartbeats 1000000 in
theorem plays_1 (OK : StepsOk) (x y : Int) (S T : ByteArray) (w : World) (hS : S.size ≤ maxLen) (hT : T.size < maxLen) : Calls Tryz.prog 4 #[.agg #[.int .i64 1, .int .i64 x, .int .i64 y, .string S, .string T]] w fun e w' => e = .returned (.bool true) ∧ Below w.heap.size w w' := by
  have c := fun w => OK.checks S w hS
  clear OK
  go_enter Tryz.func4, Tryz.ntmps4
  go_wp2_with (go_at_call 5; refine (c _).mono ?_; rintro e w1 ⟨rfl, hb⟩; have HB : Hid _ := hb; clear hb)
  go_ret
  exact ⟨rfl, ((Below.refl _ _).alloc (Nat.le_refl _) _).trans (HB.out.mono (by simp))⟩
set_option maxHeartbeats 1000000 in
theorem plays_2 (OK : StepsOk) (x y : Int) (S T : ByteArray) (w : World) (hS : S.size ≤ maxLen) (hT : T.size < maxLen) : Calls Tryz.prog 4 #[.agg #[.int .i64 2, .int .i64 x, .int .i64 y, .string S, .string T]] w fun e w' => e = .returned (.bool true) ∧ Below w.heap.size w w' := by
  have c := fun w => OK.fires S T w hS hT
  clear OK
  go_enter Tryz.func4, Tryz.ntmps4
  go_wp2_with (go_at_call 6; refine (c _).mono ?_; rintro e w1 ⟨rfl, hb⟩; have HB : Hid _ := hb; clear hb)
  go_ret
  exact ⟨rfl, ((Below.refl _ _).alloc (Nat.le_refl _) _).trans (HB.out.mono (by simp))⟩
set_option maxHeartbeats 1000000 in
theorem plays_3 (OK : StepsOk) (x y : Int) (S T : ByteArray) (w : World) (hS : S.size ≤ maxLen) (hT : T.size < maxLen) : Calls Tryz.prog 4 #[.agg #[.int .i64 3, .int .i64 x, .int .i64 y, .string S, .string T]] w fun e w' => e = .returned (.bool true) ∧ Below w.heap.size w w' := by
  have c := fun w => OK.judges S w hS
  clear OK
  go_enter Tryz.func4, Tryz.ntmps4
  go_wp2_with (go_at_call 7; refine (c _).mono ?_; rintro e w1 ⟨rfl, hb⟩; have HB : Hid _ := hb; clear hb)
  go_ret
  exact ⟨rfl, ((Below.refl _ _).alloc (Nat.le_refl _) _).trans (HB.out.mono (by simp))⟩
set_option maxHeartbeats 1000000 in
theorem plays_4 (OK : StepsOk) (x y : Int) (S T : ByteArray) (w : World) (hS : S.size ≤ maxLen) (hT : T.size < maxLen) : Calls Tryz.prog 4 #[.agg #[.int .i64 4, .int .i64 x, .int .i64 y, .string S, .string T]] w fun e w' => e = .returned (.bool true) ∧ Below w.heap.size w w' := by
  have c := fun w => OK.finishes S T w hS hT
  clear OK
  go_enter Tryz.func4, Tryz.ntmps4
  go_wp2_with (go_at_call 8; refine (c _).mono ?_; rintro e w1 ⟨rfl, hb⟩; have HB : Hid _ := hb; clear hb)
  go_ret
  exact ⟨rfl, ((Below.refl _ _).alloc (Nat.le_refl _) _).trans (HB.out.mono (by simp))⟩
set_option maxHeartbeats 1000000 in
theorem plays_5 (OK : StepsOk) (x y : Int) (S T : ByteArray) (w : World) (hS : S.size ≤ maxLen) (hT : T.size < maxLen) : Calls Tryz.prog 4 #[.agg #[.int .i64 5, .int .i64 x, .int .i64 y, .string S, .string T]] w fun e w' => e = .returned (.bool true) ∧ Below w.heap.size w w' := by
  have c := fun w => OK.enables S T w hS hT
  clear OK
  go_enter Tryz.func4, Tryz.ntmps4
  go_wp2_with (go_at_call 9; refine (c _).mono ?_; rintro e w1 ⟨rfl, hb⟩; have HB : Hid _ := hb; clear hb)
  go_ret
  exact ⟨rfl, ((Below.refl _ _).alloc (Nat.le_refl _) _).trans (HB.out.mono (by simp))⟩
set_option maxHeartbeats 1000000 in
theorem plays_6 (OK : StepsOk) (x y : Int) (S T : ByteArray) (w : World) (hS : S.size ≤ maxLen) (hT : T.size < maxLen) : Calls Tryz.prog 4 #[.agg #[.int .i64 6, .int .i64 x, .int .i64 y, .string S, .string T]] w fun e w' => e = .returned (.bool true) ∧ Below w.heap.size w w' := by
  have c := fun w => OK.playing S T w hS hT
  clear OK
  go_enter Tryz.func4, Tryz.ntmps4
  go_wp2_with (go_at_call 10; refine (c _).mono ?_; rintro e w1 ⟨rfl, hb⟩; have HB : Hid _ := hb; clear hb)
  go_ret
  exact ⟨rfl, ((Below.refl _ _).alloc (Nat.le_refl _) _).trans (HB.out.mono (by simp))⟩
set_option maxHeartbeats 1000000 in
theorem plays_7 (OK : StepsOk) (x y : Int) (S T : ByteArray) (w : World) (hS : S.size ≤ maxLen) (hT : T.size < maxLen) : Calls Tryz.prog 4 #[.agg #[.int .i64 7, .int .i64 x, .int .i64 y, .string S, .string T]] w fun e w' => e = .returned (.bool true) ∧ Below w.heap.size w w' := by
  have c := fun w => OK.accepting S T w hS hT
  clear OK
  go_enter Tryz.func4, Tryz.ntmps4
  go_wp2_with (go_at_call 11; refine (c _).mono ?_; rintro e w1 ⟨rfl, hb⟩; have HB : Hid _ := hb; clear hb)
  go_ret
  exact ⟨rfl, ((Below.refl _ _).alloc (Nat.le_refl _) _).trans (HB.out.mono (by simp))⟩
set_option maxHeartbeats 1000000 in
theorem plays_8 (OK : StepsOk) (x y : Int) (S T : ByteArray) (w : World) (hS : S.size ≤ maxLen) (hT : T.size < maxLen) : Calls Tryz.prog 4 #[.agg #[.int .i64 8, .int .i64 x, .int .i64 y, .string S, .string T]] w fun e w' => e = .returned (.bool true) ∧ Below w.heap.size w w' := by
  have c := fun w => OK.compiles S T w hS hT
  clear OK
  go_enter Tryz.func4, Tryz.ntmps4
  go_wp2_with (go_at_call 12; refine (c _).mono ?_; rintro e w1 ⟨rfl, hb⟩; have HB : Hid _ := hb; clear hb)
  go_ret
  exact ⟨rfl, ((Below.refl _ _).alloc (Nat.le_refl _) _).trans (HB.out.mono (by simp))⟩
set_option maxHeartbeats 1000000 in
theorem plays_0 (k x y : Int) (S T : ByteArray) (w : World) (h1 : k ≠ 1) (h2 : k ≠ 2) (h3 : k ≠ 3) (h4 : k ≠ 4) (h5 : k ≠ 5) (h6 : k ≠ 6) (h7 : k ≠ 7) (h8 : k ≠ 8) : Calls Tryz.prog 4 #[.agg #[.int .i64 k, .int .i64 x, .int .i64 y, .string S, .string T]] w fun e w' => e = .returned (.bool true) ∧ Below w.heap.size w w' := by
  have g1 : (k == 1) = false := by simpa using h1
  have g2 : (k == 2) = false := by simpa using h2
  have g3 : (k == 3) = false := by simpa using h3
  have g4 : (k == 4) = false := by simpa using h4
  have g5 : (k == 5) = false := by simpa using h5
  have g6 : (k == 6) = false := by simpa using h6
  have g7 : (k == 7) = false := by simpa using h7
  have g8 : (k == 8) = false := by simpa using h8
  go_enter Tryz.func4, Tryz.ntmps4
  go_wp2
  go_ret
  exact ⟨rfl, (Below.refl _ _).alloc (Nat.le_refl _) _⟩
theorem plays_any (OK : StepsOk) (k x y : Int) (S T : ByteArray) (w : World) (hS : S.size ≤ maxLen) (hT : T.size < maxLen) : Calls Tryz.prog 4 #[.agg #[.int .i64 k, .int .i64 x, .int .i64 y, .string S, .string T]] w fun e w' => e = .returned (.bool true) ∧ Below w.heap.size w w' := by
  by_cases h1 : k = 1
  · subst h1; exact plays_1 OK x y S T w hS hT
  by_cases h2 : k = 2
  · subst h2; exact plays_2 OK x y S T w hS hT
  by_cases h3 : k = 3
  · subst h3; exact plays_3 OK x y S T w hS hT
  by_cases h4 : k = 4
  · subst h4; exact plays_4 OK x y S T w hS hT
  by_cases h5 : k = 5
  · subst h5; exact plays_5 OK x y S T w hS hT
  by_cases h6 : k = 6
  · subst h6; exact plays_6 OK x y S T w hS hT
  by_cases h7 : k = 7
  · subst h7; exact plays_7 OK x y S T w hS hT
  by_cases h8 : k = 8
  · subst h8; exact plays_8 OK x y S T w hS hT
  exact plays_0 k x y S T w h1 h2 h3 h4 h5 h6 h7 h8

/-- a script in memory -/
def Ops (W : World) (b off len : Nat) : Prop := ∀ j, j < len → ∃ (k x y : Int) (S T : ByteArray), W.cell? ⟨b, off + j * 5, none⟩ = some (.int .i64 k) ∧ W.cell? ⟨b, off + j * 5 + 1, none⟩ = some (.int .i64 x) ∧ W.cell? ⟨b, off + j * 5 + 2, none⟩ = some (.int .i64 y) ∧ W.cell? ⟨b, off + j * 5 + 3, none⟩ = some (.string S) ∧ W.cell? ⟨b, off + j * 5 + 4, none⟩ = some (.string T) ∧ S.size ≤ maxLen ∧ T.size < maxLen

set_option maxHeartbeats 2000000 in
theorem all_nil (a : Option Addr) (cap : Nat) (w : World) : Calls Tryz.prog 3 #[.slice a 0 cap] w fun e w' => e = .returned (.bool true) ∧ Below w.heap.size w w' := by
  go_enter Tryz.func3, Tryz.ntmps3
  go_wp2
  go_loopw [3] (fun i' wr => i' = .int .i64 0 ∧ wr = w) (fun _ _ => 0)
  case atStart => exact ⟨rfl, rfl⟩
  case round =>
    obtain ⟨rfl, rfl⟩ := hrel
    go_wp2
    go_ret
    exact ⟨rfl, Below.refl _ _⟩
set_option maxHeartbeats 4000000 in
theorem all_any (OK : StepsOk) (b off len cap : Nat) (w : World) (hl : len < 2 ^ 60) (hb : 0 < len → b < w.heap.size) (ho : Ops w b off len) : Calls Tryz.prog 3 #[.slice (some ⟨b, off, none⟩) len cap] w fun e w' => e = .returned (.bool true) ∧ Below w.heap.size w w' := by
  have HO : Hid (Ops w b off len) := ho
  have HK : Hid StepsOk := OK
  clear ho OK
  go_enter Tryz.func3, Tryz.ntmps3
  go_wp2
  go_loopw [3] (fun i' wr => ∃ i : Nat, i ≤ len ∧ i' = .int .i64 i ∧ Hid (Below w.heap.size w wr)) (fun i' _ => len - (intOf i').toNat)
  case atStart => exact ⟨0, by omega, rfl, Below.refl _ _⟩
  case round =>
    obtain ⟨i, hi, rfl, HW⟩ := hrel
    by_cases hlt : i < len
    · obtain ⟨k, x, y, S, T, d0, d1, d2, d3, d4, hS, hT⟩ := HO.out i hlt
      have hbb := hb (by omega)
      have e0 : wr.cell? ⟨b, off + i * 5, none⟩ = some (.int .i64 k) := (HW.out.cell (p := ⟨b, off + i * 5, none⟩) hbb).trans d0
      have e1 : wr.cell? ⟨b, off + i * 5 + 1, none⟩ = some (.int .i64 x) := (HW.out.cell (p := ⟨b, off + i * 5 + 1, none⟩) hbb).trans d1
      have e2 : wr.cell? ⟨b, off + i * 5 + 1 + 1, none⟩ = some (.int .i64 y) := (HW.out.cell (p := ⟨b, off + i * 5 + 2, none⟩) hbb).trans d2
      have e3 : wr.cell? ⟨b, off + i * 5 + 1 + 1 + 1, none⟩ = some (.string S) := (HW.out.cell (p := ⟨b, off + i * 5 + 3, none⟩) hbb).trans d3
      have e4 : wr.cell? ⟨b, off + i * 5 + 1 + 1 + 1 + 1, none⟩ = some (.string T) := (HW.out.cell (p := ⟨b, off + i * 5 + 4, none⟩) hbb).trans d4
      have c := fun W => plays_any HK.out k x y S T W hS hT
      have hI0 : (0 : Int) ≤ (i : Int) := by omega
      have hI1 : (i : Int) < (len : Int) := by omega
      have hI2 : (i : Int) < 1152921504606846976 := by omega
      clear d0 d1 d2 d3 d4 hS hT
      go_wp2_with (go_at_call 4; refine (c _).mono ?_; rintro e w1 ⟨rfl, hb1⟩; have HB1 : Hid (Below wr.heap.size wr w1) := hb1; clear hb1)
      go_roundw
      case rel => exact ⟨i + 1, by omega, by go_num, HW.out.trans (HB1.out.mono HW.out.size)⟩
      case measure => simp [intOf]; omega
    · obtain rfl : i = len := by omega
      go_wp2
      go_ret
      exact ⟨rfl, HW.out⟩
end Go.Proofs.YtdlldljgogbiaabGreat
