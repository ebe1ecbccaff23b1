/-
  The law's row: the frame is the kit's own shell; the walk is ours.
-/
import Derived.Test.YtdlldljgogbiaabRows
import Derived.WalkKit
import Derived.ProofKit
import Derived.OpenShut
import Derived.ShutString
import Derived.ChangeOld
import Derived.Below
import Derived.Test.YtdlldljgogbiaabAgrP
import Derived.Test.YtdlldljgogbiaabAccM
import Derived.Test.YtdlldljgogbiaabPlayM
import Derived.Test.YtdlldljgogbiaabCheckR
namespace Go.Proofs.Ytdlldljgogbiaab.agrees
open Go.ChangeShapes Go.WideShapes Go.ChangeAt Go.RowKit
open Go.ChangeMaps (open_string shut_string)
set_option linter.unusedVariables false

theorem own : ownKnob Try.prog.godebug = none := by kernel_rfl

set_option maxHeartbeats 2000000 in
theorem walk (a0 : ByteArray) (a1 : ByteArray) (w0 : a0.size ≤ maxLen) (w1 : a1.size ≤ maxLen) (w : World) :
    Calls Try.prog 5 #[.string a0, .string a1] w fun e w' => e = .returned (.bool true) ∧ Below w.heap.size w w' := by
  have c1 := fun w => compileF_any a0 w w0
  have c2 := fun w => acceptsF_any a0 a1 w w0 w1
  go_enter Try.func5, Try.ntmps5
  go_wp2_with (first
    | (go_at_call 6; refine (c1 _).mono ?_; rintro e w2 (⟨e, p, rfl, rfl, rfl, hne, hb⟩ | ⟨T, rfl, hE, hP, hT, hc, hwd, hj, hlv, hb⟩) <;> (have HB1 : Hid (Below w.heap.size w w2) := hb; clear hb))
    | (go_at_call 17; refine (c2 _).mono ?_; rintro e' w3 ⟨t, f, q, rfl, ha, hb⟩; have HB2 : Hid (Below w.heap.size w w3) := HB1.out.trans (hb.mono HB1.out.size); clear hb; first | (have hne2 := hne; obtain ⟨ht, hf⟩ := agree_err hne2 ha; subst ht; clear ha; rcases hf with ⟨rfl, rfl⟩ | rfl) | (have HA : Hid (Flow.AcceptsA a0 a1 t f q) := ha; clear ha))
    | (go_at_call 9; refine (checkR_any T _ (by unfold maxLen; omega)).mono ?_; rintro e' w4 ⟨rfl, hb⟩; have HB3 : Hid (Below w.heap.size w w4) := HB2.out.trans (hb.mono HB2.out.size); rw [hc]; clear hb)
    | (go_at_call 18; refine (playsF_any T a1 _ (by unfold maxLen; omega) w1).mono ?_; rintro e' w5 ⟨b, g, rfl, ha, hb⟩; have HB4 : Hid (Below w.heap.size w w5) := HB3.out.trans (hb.mono HB3.out.size); have HU := agree_ok hE hT hc hwd HA.out ha; obtain ⟨hu1, hu2⟩ := HU; subst hu1 hu2; clear hb ha)
    | (go_at_call 8; go_in))
  all_goals go_ret
  all_goals (first | exact ⟨ret_bool (by simp), HB4.out⟩ | exact ⟨ret_bool (by simp), HB2.out⟩ | exact ⟨ret_bool (by simp_all), HB2.out⟩ | (exfalso; simp_all; done))

set_option maxRecDepth 100000 in
theorem lifted (os : Os) (started : os.Started) (H : Type) (enc : TypeId × Value → H) :
    ReturnsInHanded {} Try.checked os 5 .any (Rows.agreesSpec.pre6 enc Try.prog Try.f5 Rows.agreesRow.domain false) (Rows.agreesSpec.post enc Try.prog Try.f5 false true false false) := by
  refine returnsInHanded_of_change (C := Try.checked) own started (by kernel_rfl) Try.func5
    (ChangeSpec.witness6 (enc := enc) (C := Try.checked) false ⟨#[], #[.string ByteArray.empty, .string ByteArray.empty], []⟩ 8 (by kernel_rfl) (by kernel_rfl) (by kernel_rfl) (by kernel_rfl)) ?_
  intro W base args ds gs before hval0 hW hcnd _
  have hval : ∀ (j : Nat) t v, Try.f5.params[j]? = some t → args[j]? = some v → Value.okWide Try.prog W .any base t v := hval0
  have hW' := hW
  obtain ⟨p, q, hA0, hV, rfl, hfz, hnd⟩ := hW
  have hA : DataW.TrodAll enc Try.prog W 0 (fun _ => true) true Try.f5.params.toList args.toList ds p := hA0
  rw [Try.params5] at hA hval
  obtain ⟨v0, vs0, d0, ds0, p0, q0, hargs, rfl, rfl, h0, r0⟩ := trodAll_cons hA
  obtain ⟨v1, vs1, d1, ds1, p1, q1, rfl, rfl, rfl, h1, r1⟩ := trodAll_cons r0
  obtain ⟨rfl, rfl, rfl⟩ := trodAll_nil r1
  obtain rfl : args = #[v0, v1] := by cases args; simp_all
  obtain ⟨rfl, rfl⟩ := trodVars_none hV
  obtain ⟨a0, rfl, rfl, rfl, w0⟩ := open_string Try.underlying9 (hval 0 9 v0 rfl rfl) h0
  obtain ⟨a1, rfl, rfl, rfl, w1⟩ := open_string Try.underlying9 (hval 1 9 v1 rfl rfl) h1
  clear hA0 hval0
  simp only [List.append_nil] at hW'
  refine (walk a0 a1 w0 w1 W).mono fun e W' ⟨he, bel⟩ => ?_
  subst he
  exact ⟨_, rfl, _, _, _, [], [], [], hW', (trodAll_cons_mk (shut_bool Try.underlying4 _) trodAll_mk0), (trodAll_cons_mk (shut_string Try.underlying9 w0) (trodAll_cons_mk (shut_string Try.underlying9 w1) trodAll_mk0)), rfl, bel.frame _, fun h => by cases h⟩

theorem over : Rows.agreesRow.holds Try.pinned (OpenSpec.ofChange Rows.agreesSpec) :=
  OpenClaim.holds_of_wide 5 Try.f5 rfl rfl rfl rfl rfl rfl rfl ⟨rfl, rfl, rfl, rfl, rfl⟩ rfl rfl rfl rfl rfl (by kernel_rfl) Try.func5 (by kernel_rfl)
    (of_decide_eq_true (by kernel_rfl)) (by unfold Func.isWrapper; first | (rw [if_pos (by decide +kernel)]; kernel_rfl) | (rw [if_neg (by decide +kernel)]; exact ⟨rfl, rfl⟩))
    (fun os started H enc _ => lifted os started H enc)

/-- THE STATEMENT -/
theorem proved : Rows.AgreesSaid :=
  over
#print axioms proved
end Go.Proofs.Ytdlldljgogbiaab.agrees
namespace Go.Proofs.Ytdlldljgogbiaab
theorem agrees_holds : Rows.AgreesSaid := agrees.proved
end Go.Proofs.Ytdlldljgogbiaab
