/-
  The law's row: the frame is the kit's own shell; the walk is ours.
-/
import Derived.Test.YtdlldljgogbiaabRows
import Derived.WalkKit
import Derived.ProofKit
import Derived.OpenShut
import Derived.ShutString
import Derived.ChangeOld
import Derived.Below
import Derived.SizedLaws
import Derived.Test.YtdlldljgogbiaabAgrP
import Derived.Test.YtdlldljgogbiaabReadP
import Derived.Test.YtdlldljgogbiaabInR
import Derived.Test.YtdlldljgogbiaabWordM
import Derived.Test.YtdlldljgogbiaabJudgeR
import Derived.Test.YtdlldljgogbiaabCheckR
namespace Go.Proofs.Ytdlldljgogbiaab.compiles
open Go.ChangeShapes Go.WideShapes Go.ChangeAt Go.RowKit
open Go.ChangeMaps (open_string shut_string)
set_option linter.unusedVariables false

theorem own : ownKnob Try.prog.godebug = none := by kernel_rfl

set_option maxHeartbeats 2000000 in
theorem walk (a0 : ByteArray) (a1 : ByteArray) (w0 : a0.size ≤ maxLen) (w1 : a1.size ≤ maxLen) (s1 : a1.size < maxLen) (w : World) :
    Calls Try.prog 3 #[.string a0, .string a1] w fun e w' => e = .returned (.bool true) ∧ Below w.heap.size w w' := by
  have c1 := fun w => compileF_any a0 w w0
  have c2 := fun w => readP_any a0 w w0
  go_enter Try.func3, Try.ntmps3
  go_wp2_with (first
    | (go_at_call 6; refine (c1 _).mono ?_; rintro e w2 (⟨e, p, rfl, rfl, rfl, hne, hb⟩ | ⟨T, rfl, hE, hP, hT, hc, hwd, hj, hlv, hb⟩) <;> (have HB1 : Hid (Below w.heap.size w w2) := hb; clear hb))
    | (go_at_call 7; refine (c2 _).mono ?_; rintro e' w3 ⟨rfl, rfl⟩; first | (have hne2 := hne; skip) | (have HE := hE; rw [hE, hP]))
    | (go_at_call 9; refine (checkR_any T _ (by unfold maxLen; omega)).mono ?_; rintro e' w4 ⟨rfl, hb⟩; have HB3 : Hid (Below w.heap.size w w4) := HB1.out.trans (hb.mono HB1.out.size); rw [hc]; clear hb)
    | (go_at_call 10; refine (judgeR_any T _ (by unfold maxLen; omega)).mono ?_; rintro e' w5 ⟨v, t, g, rfl, ha, hb⟩; have HB4 : Hid (Below w.heap.size w w5) := HB3.out.trans (hb.mono HB3.out.size); obtain rfl : v = 1 := judge_one hc hj ha; clear hb ha)
    | (go_at_call 11; refine (wordsN_any T a1 _ (by unfold maxLen; omega) w1 hc).mono ?_; rintro e' w6 ⟨b, rfl, hb6, hb⟩; have HB5 : Hid (Below w.heap.size w w6) := HB4.out.trans (hb.mono HB4.out.size); have HW : Hid (b = true ↔ Flow.Has a0 0 (Flow.nats a1)) := hb6.trans (hwd _); clear hb hb6)
    | (go_at_call 12; obtain ⟨hz, hok, _⟩ := readE_ok hE; refine (inR_any a0 (by omega) (a0.size + 1) 0 hok (by omega) a1 _ s1).mono ?_; rintro e' w7 ⟨rfl, m, rfl⟩; have HB6 : Hid (Below w.heap.size w (w6.drewN m)) := below_drewN HB5.out m; rw [word_eq HW.out])
    | (go_at_call 8; go_in))
  all_goals go_ret
  all_goals (first | exact ⟨ret_bool (by simp), HB6.out⟩ | exact ⟨ret_bool (by simp), HB1.out⟩ | exact ⟨ret_bool (by simp_all), HB1.out⟩ | (exfalso; simp_all; done))

set_option maxRecDepth 100000 in
theorem lifted (os : Os) (started : os.Started) (H : Type) (enc : TypeId × Value → H) :
    ReturnsInHanded {} Try.checked os 3 .any (Rows.compilesSpec.pre6 enc Try.prog Try.f3 Rows.compilesRow.domain false) (Rows.compilesSpec.post enc Try.prog Try.f3 false true false false) := by
  refine returnsInHanded_of_change_sized (C := Try.checked) own started (by kernel_rfl) Try.func3
    (ChangeSpec.witness6 (enc := enc) (C := Try.checked) false ⟨#[], #[.string ByteArray.empty, .string ByteArray.empty], []⟩ 8 (by kernel_rfl) (by kernel_rfl) (by kernel_rfl) (by kernel_rfl)) ?_
  intro W base args ds gs before hval0 hW hcnd hsz _
  have hval : ∀ (j : Nat) t v, Try.f3.params[j]? = some t → args[j]? = some v → Value.okWide Try.prog W .any base t v := hval0
  have hW' := hW
  obtain ⟨p, q, hA0, hV, rfl, hfz, hnd⟩ := hW
  have hA : DataW.TrodAll enc Try.prog W 0 (fun _ => true) true Try.f3.params.toList args.toList ds p := hA0
  rw [Try.params3] at hA hval
  obtain ⟨v0, vs0, d0, ds0, p0, q0, hargs, rfl, rfl, h0, r0⟩ := trodAll_cons hA
  obtain ⟨v1, vs1, d1, ds1, p1, q1, rfl, rfl, rfl, h1, r1⟩ := trodAll_cons r0
  obtain ⟨rfl, rfl, rfl⟩ := trodAll_nil r1
  obtain rfl : args = #[v0, v1] := by cases args; simp_all
  obtain ⟨rfl, rfl⟩ := trodVars_none hV
  obtain ⟨a0, rfl, rfl, rfl, w0⟩ := open_string Try.underlying9 (hval 0 9 v0 rfl rfl) h0
  obtain ⟨a1, rfl, rfl, rfl, w1⟩ := open_string Try.underlying9 (hval 1 9 v1 rfl rfl) h1
  have s1 : a1.size < maxLen := Nat.lt_of_le_of_lt (sized_string (j := 1) hsz rfl rfl) (by decide)
  clear hA0 hval0 hsz
  simp only [List.append_nil] at hW'
  refine (walk a0 a1 w0 w1 s1 W).mono fun e W' ⟨he, bel⟩ => ?_
  subst he
  exact ⟨_, rfl, _, _, _, [], [], [], hW', (trodAll_cons_mk (shut_bool Try.underlying4 _) trodAll_mk0), (trodAll_cons_mk (shut_string Try.underlying9 w0) (trodAll_cons_mk (shut_string Try.underlying9 w1) trodAll_mk0)), rfl, bel.frame _, fun h => by cases h⟩

theorem over : Rows.compilesRow.holds Try.pinned (OpenSpec.ofChange Rows.compilesSpec) :=
  OpenClaim.holds_of_wide 3 Try.f3 rfl rfl rfl rfl rfl rfl rfl ⟨rfl, rfl, rfl, rfl, rfl⟩ rfl rfl rfl rfl rfl (by kernel_rfl) Try.func3 (by kernel_rfl)
    (of_decide_eq_true (by kernel_rfl)) (by unfold Func.isWrapper; first | (rw [if_pos (by decide +kernel)]; kernel_rfl) | (rw [if_neg (by decide +kernel)]; exact ⟨rfl, rfl⟩))
    (fun os started H enc _ => lifted os started H enc)

/-- THE STATEMENT -/
theorem proved : Rows.CompilesSaid :=
  over
#print axioms proved
end Go.Proofs.Ytdlldljgogbiaab.compiles
namespace Go.Proofs.Ytdlldljgogbiaab
theorem compiles_holds : Rows.CompilesSaid := compiles.proved
end Go.Proofs.Ytdlldljgogbiaab
