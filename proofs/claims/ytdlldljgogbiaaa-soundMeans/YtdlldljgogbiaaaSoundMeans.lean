/-
  The law's row: the frame is the kit's own shell; the walk is ours.
-/
import Derived.Test.YtdlldljgogbiaaaRows
import Derived.WalkKit
import Derived.ProofKit
import Derived.OpenShut
import Derived.ShutString
import Derived.ChangeOld
import Derived.Below
import Derived.Test.YtdlldljgogbiaaaTopF
import Derived.Test.YtdlldljgogbiaaaFinF
import Derived.Test.YtdlldljgogbiaaaWish
namespace Go.Proofs.Ytdlldljgogbiaaa.soundMeans
open Go.ChangeShapes Go.WideShapes Go.ChangeAt Go.RowKit
open Go.ChangeMaps (open_string shut_string)
set_option linter.unusedVariables false

theorem own : ownKnob Try.prog.godebug = none := by kernel_rfl

set_option maxHeartbeats 4000000 in
theorem walk (a0 : ByteArray) (a1 : ByteArray) (w0 : a0.size ≤ maxLen) (w1 : a1.size ≤ maxLen) (w : World) :
    Calls Try.prog 8 #[.string a0, .string a1] w fun e w' => e = .returned (.bool true) ∧ Below w.heap.size w w' := by
  have c1 := fun w => judgeF_any a0 w w0
  have c2 := fun w => checkR_any a0 w w0
  go_enter Try.func8, Try.ntmps8
  go_wp2_with (first
    | (go_at_call 20; refine (c1 _).mono ?_; rintro e w2 ⟨v, t, e, rfl, ha, hb⟩; have HB1 : Hid (Below w.heap.size w w2) := hb; clear hb; rcases judge_range ha with hr | ⟨rfl, rfl⟩ | ⟨rfl, hv, hv2⟩)
    | (go_at_call 16; have hc0 : Flow.checkErr a0 = 0 := (judge_err ha).symm; refine (c2 _).mono ?_; rintro e w3 ⟨rfl, hb⟩; rw [hc0]; have HB2 : Hid (Below w.heap.size w w3) := HB1.out.trans (hb.mono HB1.out.size); clear hb)
    | (go_at_call 26; refine (playR_any a0 a1 _ w0 w1 hc0).mono ?_; rintro e w4 ⟨m, ks, over, rfl, hg, hkl, hm, hov, _, hb⟩; have HB3 : Hid (Below w.heap.size w w4) := HB2.out.trans (hb.mono HB2.out.size); have SA := sound_all ha rfl hg; have hov2 : over = false := (by cases over with | false => rfl | true => exact absurd (hov rfl) (fun ⟨k, hk⟩ => SA.1 k hk)); subst hov2; clear hb hov)
    | (go_at_call 27; refine (hasR_any a0 m _ w0 hc0 hm).mono ?_; rintro e w5 ⟨b, rfl, hbi, hb⟩; have HB4 : Hid (Below w.heap.size w w5) := HB3.out.trans (hb.mono HB3.out.size); clear hb)
    | (go_at_call 28; refine (aloneR_any a0 m _ w0 hc0 hm).mono ?_; rintro e w6 ⟨b', rfl, hbi', hb⟩; have HB5 : Hid (Below w.heap.size w w6) := HB4.out.trans (hb.mono HB4.out.size); have hba : (b && !b') = false := (by cases b with | false => rfl | true => (cases b' with | true => rfl | false => exact absurd ⟨hbi.1 rfl, fun e => by have := hbi'.2 e; cases this⟩ SA.2.1)); clear hb hbi hbi')
    | (go_at_call 22; have hrs := runOf_size ks; refine (finishF_any a0 (Flow.runOf ks) _ w0 (by unfold maxLen; omega)).mono ?_; rintro e w7 ⟨t', e', rfl, ha', hb⟩; have HB6 : Hid (Below w.heap.size w w7) := HB5.out.trans (hb.mono HB5.out.size); obtain ⟨hf0, hf1, hf2⟩ := finish_can rfl hkl hc0 hg SA.2.2 ha'; subst hf0; have hsa := fun W : World => run_string_add (P := Try.prog) (w := W) (Flow.runOf ks) t' (by omega) (by omega); clear hb ha')
    | (go_at_call 29; refine (endedR_any a0 (Flow.runOf ks ++ t') _ w0 (by unfold maxLen; rw [ByteArray.size_append]; omega) hc0).mono ?_; rintro e w8 ⟨b8, rfl, hb8, hb⟩; have HB7 : Hid (Below w.heap.size w w8) := HB6.out.trans (hb.mono HB6.out.size); have hb9 : b8 = true := hb8.2 hf1; subst hb9; clear hb hb8)
    | (go_at_call 17; go_in))
  all_goals go_ret
  all_goals (first
    | exact ⟨rfl, HB7.out⟩
    | (refine ⟨ret_bool ?_, HB1.out⟩; first | (simp; done) | (simp; omega))
    | (exfalso; simp_all))

set_option maxRecDepth 100000 in
theorem lifted (os : Os) (started : os.Started) (H : Type) (enc : TypeId × Value → H) :
    ReturnsInHanded {} Try.checked os 8 .any (Rows.soundMeansSpec.pre6 enc Try.prog Try.f8 Rows.soundMeansRow.domain false) (Rows.soundMeansSpec.post enc Try.prog Try.f8 false true false false) := by
  refine returnsInHanded_of_change (C := Try.checked) own started (by kernel_rfl) Try.func8
    (ChangeSpec.witness6 (enc := enc) (C := Try.checked) false ⟨#[], #[.string ByteArray.empty, .string ByteArray.empty], []⟩ 8 (by kernel_rfl) (by kernel_rfl) (by kernel_rfl) (by kernel_rfl)) ?_
  intro W base args ds gs before hval0 hW hcnd _
  have hval : ∀ (j : Nat) t v, Try.f8.params[j]? = some t → args[j]? = some v → Value.okWide Try.prog W .any base t v := hval0
  have hW' := hW
  obtain ⟨p, q, hA0, hV, rfl, hfz, hnd⟩ := hW
  have hA : DataW.TrodAll enc Try.prog W 0 (fun _ => true) true Try.f8.params.toList args.toList ds p := hA0
  rw [Try.params8] at hA hval
  obtain ⟨v0, vs0, d0, ds0, p0, q0, hargs, rfl, rfl, h0, r0⟩ := trodAll_cons hA
  obtain ⟨v1, vs1, d1, ds1, p1, q1, rfl, rfl, rfl, h1, r1⟩ := trodAll_cons r0
  obtain ⟨rfl, rfl, rfl⟩ := trodAll_nil r1
  obtain rfl : args = #[v0, v1] := by cases args; simp_all
  obtain ⟨rfl, rfl⟩ := trodVars_none hV
  obtain ⟨a0, rfl, rfl, rfl, w0⟩ := open_string Try.underlying9 (hval 0 9 v0 rfl rfl) h0
  obtain ⟨a1, rfl, rfl, rfl, w1⟩ := open_string Try.underlying9 (hval 1 9 v1 rfl rfl) h1
  clear hA0 hval0
  simp only [List.append_nil] at hW'
  refine (walk a0 a1 w0 w1 W).mono fun e W' ⟨he, bel⟩ => ?_
  subst he
  exact ⟨_, rfl, _, _, _, [], [], [], hW', (trodAll_cons_mk (shut_bool Try.underlying4 _) trodAll_mk0), (trodAll_cons_mk (shut_string Try.underlying9 w0) (trodAll_cons_mk (shut_string Try.underlying9 w1) trodAll_mk0)), rfl, bel.frame _, fun h => by cases h⟩

theorem over : Rows.soundMeansRow.holds Try.pinned (OpenSpec.ofChange Rows.soundMeansSpec) :=
  OpenClaim.holds_of_wide 8 Try.f8 rfl rfl rfl rfl rfl rfl rfl ⟨rfl, rfl, rfl, rfl, rfl⟩ rfl rfl rfl rfl rfl (by kernel_rfl) Try.func8 (by kernel_rfl)
    (of_decide_eq_true (by kernel_rfl)) (by unfold Func.isWrapper; first | (rw [if_pos (by decide +kernel)]; kernel_rfl) | (rw [if_neg (by decide +kernel)]; exact ⟨rfl, rfl⟩))
    (fun os started H enc _ => lifted os started H enc)

/-- THE STATEMENT -/
theorem proved : Rows.SoundMeansSaid :=
  over
#print axioms proved
end Go.Proofs.Ytdlldljgogbiaaa.soundMeans
namespace Go.Proofs.Ytdlldljgogbiaaa
theorem soundMeans_holds : Rows.SoundMeansSaid := soundMeans.proved
end Go.Proofs.Ytdlldljgogbiaaa
