/-
  The eight laws that a step of a script asks, each as a contract.
-/
import Derived.WalkKit
import Derived.ProofKit
import Derived.OpenShut
import Derived.Below
import Derived.Test.YtdlldljgogbiaabGreatCheckR
import Derived.Test.YtdlldljgogbiaabGreatNetN
import Derived.Test.YtdlldljgogbiaabGreatFireR
import Derived.Test.YtdlldljgogbiaabGreatStepM
import Derived.Test.YtdlldljgogbiaabGreatUniq
import Derived.Test.YtdlldljgogbiaabGreatEndM
import Derived.Test.YtdlldljgogbiaabGreatEndRM
import Derived.Test.YtdlldljgogbiaabGreatPlayM
import Derived.Test.YtdlldljgogbiaabGreatPlayRR
import Derived.Test.YtdlldljgogbiaabGreatAccM
import Derived.Test.YtdlldljgogbiaabGreatInM
import Derived.Test.YtdlldljgogbiaabGreatAgrP
import Derived.Test.YtdlldljgogbiaabGreatScanM
import Derived.Test.YtdlldljgogbiaabGreatWordM
import Derived.Test.YtdlldljgogbiaabGreatJudgeR
namespace Go.Proofs.YtdlldljgogbiaabGreat
open Go.ChangeShapes Go.WideShapes Go.ChangeAt Go.RowKit
set_option linter.unusedVariables false

theorem w_checks (a0 : ByteArray) (w0 : a0.size ≤ maxLen) (w : World) :
    Calls Tryz.prog 5 #[.string a0] w fun e w' => e = .returned (.bool true) ∧ Below w.heap.size w w' := by
  have c1 := fun w => checkF_any a0 w w0
  have c2 := fun w => checkR_any a0 w w0
  have t1 : ((Flow.checkErr a0 : Int) == (Flow.checkErr a0 : Int)) = true := by simp
  go_enter Tryz.func5, Tryz.ntmps5
  go_wp2_with (first | (go_at_call 13; refine (c1 _).mono ?_; rintro e w1 ⟨rfl, hb1⟩; have HB1 : Hid _ := hb1; clear hb1) | (go_at_call 14; refine (c2 _).mono ?_; rintro e w2 ⟨rfl, hb2⟩; have HB2 : Hid _ := hb2; clear hb2) | go_in)
  all_goals go_ret
  all_goals exact ⟨ret_bool (by simp), HB1.out.trans (HB2.out.mono HB1.out.size)⟩

theorem w_fires (a0 : ByteArray) (a1 : ByteArray) (w0 : a0.size ≤ maxLen) (w1 : a1.size ≤ maxLen) (w : World) :
    Calls Tryz.prog 6 #[.string a0, .string a1] w fun e w' => e = .returned (.bool true) ∧ Below w.heap.size w w' := by
  have c1 := fun w => fireF_any a0 a1 w w0 w1
  have c2 := fun w => fireR_any a0 a1 w w0 w1
  obtain ⟨S, hS⟩ : ∃ S, S = Flow.fireS a0 a1 := ⟨_, rfl⟩
  obtain ⟨E, hE⟩ : ∃ E, E = Flow.fireE a0 a1 := ⟨_, rfl⟩
  obtain ⟨P, hP⟩ : ∃ P, P = Flow.fireP a0 a1 := ⟨_, rfl⟩
  unfold FirePost at c1 c2
  rw [← hS, ← hE, ← hP] at c1 c2
  clear hS hE hP
  go_enter Tryz.func6, Tryz.ntmps6
  go_wp2_with (first | (go_at_call 16; refine (c1 _).mono ?_; rintro e w2 ⟨rfl, hb1⟩; have HB1 : Hid _ := hb1; clear hb1) | (go_at_call 17; refine (c2 _).mono ?_; rintro e w3 ⟨rfl, hb2⟩; have HB2 : Hid _ := hb2; clear hb2) | go_in)
  all_goals go_ret
  all_goals exact ⟨ret_bool (by simp), HB1.out.trans (HB2.out.mono HB1.out.size)⟩

theorem w_judges (a0 : ByteArray) (w0 : a0.size ≤ maxLen) (w : World) :
    Calls Tryz.prog 7 #[.string a0] w fun e w' => e = .returned (.bool true) ∧ Below w.heap.size w w' := by
  have c1 := fun w => judgeF_any a0 w w0
  have c2 := fun w => judgeR_any a0 w w0
  go_enter Tryz.func7, Tryz.ntmps7
  go_wp2_with (first | (go_at_call 18; refine (c1 _).mono ?_; rintro e w2 ⟨v, t, e, rfl, ha, hb⟩; have HA : Hid _ := ha; have HB1 : Hid _ := hb; clear ha hb) | (go_at_call 19; refine (c2 _).mono ?_; rintro e' w3 ⟨v', t', e', rfl, ha, hb⟩; have HU : Hid (v = v' ∧ t = t' ∧ e = e') := judgeA_unique HA.out ha; obtain ⟨hu1, hu2, hu3⟩ := HU.out; subst hu1 hu2 hu3; have HB2 : Hid _ := hb; clear ha hb HU) | go_in)
  all_goals go_ret
  all_goals exact ⟨ret_bool (by simp), HB1.out.trans (HB2.out.mono HB1.out.size)⟩

theorem w_finishes (a0 : ByteArray) (a1 : ByteArray) (w0 : a0.size ≤ maxLen) (w1 : a1.size ≤ maxLen) (w : World) :
    Calls Tryz.prog 8 #[.string a0, .string a1] w fun e w' => e = .returned (.bool true) ∧ Below w.heap.size w w' := by
  have c1 := fun w => finishF_any a0 a1 w w0 w1
  have c2 := fun w => finishR_any a0 a1 w w0 w1
  go_enter Tryz.func8, Tryz.ntmps8
  go_wp2_with (first | (go_at_call 20; refine (c1 _).mono ?_; rintro e w2 ⟨t, e, rfl, ha, hb⟩; have HA : Hid _ := ha; have HB1 : Hid _ := hb; clear ha hb) | (go_at_call 21; refine (c2 _).mono ?_; rintro e' w3 ⟨t', e', rfl, ha, hb⟩; have HU : Hid (t = t' ∧ e = e') := finishA_unique HA.out ha; obtain ⟨hu1, hu2⟩ := HU.out; subst hu1 hu2; have HB2 : Hid _ := hb; clear ha hb HU) | go_in)
  all_goals go_ret
  all_goals exact ⟨ret_bool (by simp), HB1.out.trans (HB2.out.mono HB1.out.size)⟩

theorem w_enables (a0 : ByteArray) (a1 : ByteArray) (w0 : a0.size ≤ maxLen) (w1 : a1.size ≤ maxLen) (w : World) :
    Calls Tryz.prog 9 #[.string a0, .string a1] w fun e w' => e = .returned (.bool true) ∧ Below w.heap.size w w' := by
  have c1 := fun w => enableF_any a0 a1 w w0 w1
  have c2 := fun w => enableR_any a0 a1 w w0 w1
  go_enter Tryz.func9, Tryz.ntmps9
  go_wp2_with (first | (go_at_call 22; refine (c1 _).mono ?_; rintro e w2 ⟨t, e, rfl, ha, hb⟩; have HA : Hid _ := ha; have HB1 : Hid _ := hb; clear ha hb) | (go_at_call 23; refine (c2 _).mono ?_; rintro e' w3 ⟨t', e', rfl, ha, hb⟩; have HU : Hid (t = t' ∧ e = e') := enableA_unique HA.out ha; obtain ⟨hu1, hu2⟩ := HU.out; subst hu1 hu2; have HB2 : Hid _ := hb; clear ha hb HU) | go_in)
  all_goals go_ret
  all_goals exact ⟨ret_bool (by simp), HB1.out.trans (HB2.out.mono HB1.out.size)⟩

theorem w_playing (a0 : ByteArray) (a1 : ByteArray) (w0 : a0.size ≤ maxLen) (w1 : a1.size ≤ maxLen) (w : World) :
    Calls Tryz.prog 10 #[.string a0, .string a1] w fun e w' => e = .returned (.bool true) ∧ Below w.heap.size w w' := by
  have c1 := fun w => playsF_any a0 a1 w w0 w1
  have c2 := fun w => playsR_any a0 a1 w w0 w1
  go_enter Tryz.func10, Tryz.ntmps10
  go_wp2_with (first | (go_at_call 24; refine (c1 _).mono ?_; rintro e w2 ⟨t, e, rfl, ha, hb⟩; have HA : Hid _ := ha; have HB1 : Hid _ := hb; clear ha hb) | (go_at_call 25; refine (c2 _).mono ?_; rintro e' w3 ⟨t', e', rfl, ha, hb⟩; have HU : Hid (t = t' ∧ e = e') := playsA_unique HA.out ha; obtain ⟨hu1, hu2⟩ := HU.out; subst hu1 hu2; have HB2 : Hid _ := hb; clear ha hb HU) | go_in)
  all_goals go_ret
  all_goals exact ⟨ret_bool (by simp), HB1.out.trans (HB2.out.mono HB1.out.size)⟩

theorem w_accepting (a0 : ByteArray) (a1 : ByteArray) (w0 : a0.size ≤ maxLen) (w1 : a1.size ≤ maxLen) (w : World) :
    Calls Tryz.prog 11 #[.string a0, .string a1] w fun e w' => e = .returned (.bool true) ∧ Below w.heap.size w w' := by
  have c1 := fun w => acceptsF_any a0 a1 w w0 w1
  have c2 := fun w => acceptsR_any a0 a1 w w0 w1
  go_enter Tryz.func11, Tryz.ntmps11
  go_wp2_with (first | (go_at_call 26; refine (c1 _).mono ?_; rintro e w2 ⟨t, e, p, rfl, ha, hb⟩; have HA : Hid _ := ha; have HB1 : Hid _ := hb; clear ha hb) | (go_at_call 27; refine (c2 _).mono ?_; rintro e' w3 ⟨t', e', p', rfl, ha, hb⟩; have HU : Hid (t = t' ∧ e = e' ∧ p = p') := acceptsA_unique HA.out ha; obtain ⟨hu1, hu2, hu3⟩ := HU.out; subst hu1 hu2 hu3; have HB2 : Hid _ := hb; clear ha hb HU) | go_in)
  all_goals go_ret
  all_goals exact ⟨ret_bool (by simp), HB1.out.trans (HB2.out.mono HB1.out.size)⟩

set_option maxHeartbeats 2000000 in
theorem w_compiles (a0 : ByteArray) (a1 : ByteArray) (w0 : a0.size ≤ maxLen) (w1 : a1.size ≤ maxLen) (s1 : a1.size < maxLen) (w : World) :
    Calls Tryz.prog 12 #[.string a0, .string a1] w fun e w' => e = .returned (.bool true) ∧ Below w.heap.size w w' := by
  have c1 := fun w => compileF_any a0 w w0
  have c2 := fun w => readP_any a0 w w0
  go_enter Tryz.func12, Tryz.ntmps12
  go_wp2_with (first
    | (go_at_call 28; refine (c1 _).mono ?_; rintro e w2 (⟨e, p, rfl, rfl, rfl, hne, hb⟩ | ⟨T, rfl, hE, hP, hT, hc, hwd, hj, hlv, hb⟩) <;> (have HB1 : Hid (Below w.heap.size w w2) := hb; clear hb))
    | (go_at_call 29; refine (c2 _).mono ?_; rintro e' w3 ⟨rfl, rfl⟩; first | (have hne2 := hne; skip) | (have HE := hE; rw [hE, hP]))
    | (go_at_call 14; refine (checkR_any T _ (by unfold maxLen; omega)).mono ?_; rintro e' w4 ⟨rfl, hb⟩; have HB3 : Hid (Below w.heap.size w w4) := HB1.out.trans (hb.mono HB1.out.size); rw [hc]; clear hb)
    | (go_at_call 19; refine (judgeR_any T _ (by unfold maxLen; omega)).mono ?_; rintro e' w5 ⟨v, t, g, rfl, ha, hb⟩; have HB4 : Hid (Below w.heap.size w w5) := HB3.out.trans (hb.mono HB3.out.size); obtain rfl : v = 1 := judge_one hc hj ha; clear hb ha)
    | (go_at_call 30; refine (wordsN_any T a1 _ (by unfold maxLen; omega) w1 hc).mono ?_; rintro e' w6 ⟨b, rfl, hb6, hb⟩; have HB5 : Hid (Below w.heap.size w w6) := HB4.out.trans (hb.mono HB4.out.size); have HW : Hid (b = true ↔ Flow.Has a0 0 (Flow.nats a1)) := hb6.trans (hwd _); clear hb hb6)
    | (go_at_call 31; obtain ⟨hz, hok, _⟩ := readE_ok hE; refine (inR_any a0 (by omega) (a0.size + 1) 0 hok (by omega) a1 _ s1).mono ?_; rintro e' w7 ⟨rfl, m, rfl⟩; have HB6 : Hid (Below w.heap.size w (w6.drewN m)) := below_drewN HB5.out m; rw [word_eq HW.out])
    | (go_at_call 15; go_in))
  all_goals go_ret
  all_goals (first | exact ⟨ret_bool (by simp), HB6.out⟩ | exact ⟨ret_bool (by simp), HB1.out⟩ | exact ⟨ret_bool (by simp_all), HB1.out⟩ | (exfalso; simp_all; done))

end Go.Proofs.YtdlldljgogbiaabGreat
