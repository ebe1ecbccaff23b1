/-
  The law's row: the frame is the kit's own shell; the walk is ours.
-/
import Derived.Test.YtdlldljgogbiaaaRows
import Derived.WalkKit
import Derived.ProofKit
import Derived.OpenShut
import Derived.ShutString
import Derived.ChangeOld
import Derived.Below
import Derived.Test.YtdlldljgogbiaaaTopF
import Derived.Test.YtdlldljgogbiaaaFinF
import Derived.Test.YtdlldljgogbiaaaEnF
import Derived.Test.YtdlldljgogbiaaaWish
import Derived.Test.YtdlldljgogbiaaaFireR
namespace Go.Proofs.Ytdlldljgogbiaaa.shown
open Go.ChangeShapes Go.WideShapes Go.ChangeAt Go.RowKit
open Go.ChangeMaps (open_string shut_string)
set_option linter.unusedVariables false

theorem own : ownKnob Try.prog.godebug = none := by kernel_rfl

set_option maxHeartbeats 4000000 in
theorem walk (a0 : ByteArray) (w0 : a0.size ≤ maxLen) (w : World) :
    Calls Try.prog 10 #[.string a0] w fun e w' => e = .returned (.bool true) ∧ Below w.heap.size w w' := by
  have c1 := fun w => judgeF_any a0 w w0
  have c2 := fun w => checkR_any a0 w w0
  by_cases hc0 : Flow.checkErr a0 = 0
  · rw [hc0] at c2
    go_enter Try.func10, Try.ntmps10
    go_wp2_with (first
      | (go_at_call 20; refine (c1 _).mono ?_; rintro e w2 ⟨v, t, e, rfl, ha, hb⟩; have HB1 : Hid (Below w.heap.size w w2) := hb; have he : e = 0 := (by rw [judge_err ha]; exact hc0); subst he; clear hb)
      | (go_at_call 16; refine (c2 _).mono ?_; rintro e w3 ⟨rfl, hb⟩; have HB2 : Hid (Below w.heap.size w w3) := HB1.out.trans (hb.mono HB1.out.size); clear hb; rcases shown_all ha with ⟨rfl, rfl⟩ | ⟨rfl, s1, s2, s3, s4⟩ | ⟨rfl, ks, m, rfl, i2, i3, i4⟩ | ⟨rfl, k1, k2, k3⟩ | ⟨rfl, d1, d2⟩)
      | (go_at_call 19; first
          | (have _t := s3; refine (fireR_any a0 t _ w0 (by unfold maxLen; omega)).mono ?_; rintro e w4 ⟨rfl, hb⟩; rw [s3]; have HB3 : Hid (Below w.heap.size w w4) := HB2.out.trans (hb.mono HB2.out.size); clear hb _t)
          | (have _t := k2; refine (fireR_any a0 t _ w0 (by unfold maxLen; omega)).mono ?_; rintro e w4 ⟨rfl, hb⟩; rw [k2]; have HB3 : Hid (Below w.heap.size w w4) := HB2.out.trans (hb.mono HB2.out.size); clear hb _t))
      | (go_at_call 26; have hrs := runOf_size ks; refine (playR_any a0 (Flow.runOf ks) _ w0 (by unfold maxLen; omega) hc0).mono ?_; rintro e w4 ⟨m4, ks4, over, rfl, hg, hkl, hm, _, huni, hb⟩; obtain ⟨hu1, hu2⟩ := huni ks m rfl (by omega) i3; subst hu1 hu2; have HB3 : Hid (Below w.heap.size w w4) := HB2.out.trans (hb.mono HB2.out.size); have hmm : m4 = m := (by rw [hg] at i3; injection i3); subst hmm; clear hb huni)
      | (go_at_call 27; refine (hasR_any a0 m4 _ w0 hc0 hm).mono ?_; rintro e w5 ⟨b, rfl, hbi, hb⟩; have HB4 : Hid (Below w.heap.size w w5) := HB3.out.trans (hb.mono HB3.out.size); have hb1 : b = true := hbi.2 i4.1; subst hb1; clear hb hbi)
      | (go_at_call 28; refine (aloneR_any a0 m4 _ w0 hc0 hm).mono ?_; rintro e w6 ⟨b', rfl, hbi', hb⟩; have HB5 : Hid (Below w.heap.size w w6) := HB4.out.trans (hb.mono HB4.out.size); have hb2 : b' = false := (by cases b' with | false => rfl | true => exact absurd (hbi'.1 rfl) i4.2); subst hb2; clear hb hbi')
      | (go_at_call 22; refine (finishF_any a0 t _ w0 (by unfold maxLen; omega)).mono ?_; rintro e w5 ⟨t5, e5, rfl, ha5, hb⟩; have HB4 : Hid (Below w.heap.size w w5) := HB3.out.trans (hb.mono HB3.out.size); have he5 := k3 _ _ ha5; subst he5; clear hb ha5)
      | (go_at_call 24; refine (enableF_any a0 t _ w0 (by unfold maxLen; omega)).mono ?_; rintro e w5 ⟨t5, e5, rfl, ha5, hb⟩; have HB4 : Hid (Below w.heap.size w w5) := HB2.out.trans (hb.mono HB2.out.size); have he5 := d2 _ _ ha5; subst he5; clear hb ha5)
      | (go_at_call 17; go_in))
    all_goals go_ret
    all_goals (first
      | exact ⟨rfl, HB5.out⟩
      | (have _t := s3; refine ⟨ret_bool ?_, HB3.out⟩; simp; omega)
      | exact ⟨rfl, HB4.out⟩
      | exact ⟨rfl, HB2.out⟩)
  · have t2 : ((Flow.checkErr a0 : Int) != 0) = true := by simp; omega
    go_enter Try.func10, Try.ntmps10
    go_wp2_with (first
      | (go_at_call 20; refine (c1 _).mono ?_; rintro e w2 ⟨v, t, e, rfl, ha, hb⟩; have HB1 : Hid (Below w.heap.size w w2) := hb; have he : e = Flow.checkErr a0 := judge_err ha; subst he; have hvt : v = 0 ∧ t = ⟨#[]⟩ := (by rcases ha with ⟨_, h1, h2, _⟩ | ⟨h, _⟩; exact ⟨h1, h2⟩; exact absurd h hc0); obtain ⟨rfl, rfl⟩ := hvt; clear hb)
      | (go_at_call 16; refine (c2 _).mono ?_; rintro e w3 ⟨rfl, hb⟩; have HB2 : Hid (Below w.heap.size w w3) := HB1.out.trans (hb.mono HB1.out.size); clear hb)
      | (go_at_call 17; go_in))
    all_goals go_ret
    all_goals exact ⟨rfl, HB2.out⟩

set_option maxRecDepth 100000 in
theorem lifted (os : Os) (started : os.Started) (H : Type) (enc : TypeId × Value → H) :
    ReturnsInHanded {} Try.checked os 10 .any (Rows.shownSpec.pre6 enc Try.prog Try.f10 Rows.shownRow.domain false) (Rows.shownSpec.post enc Try.prog Try.f10 false true false false) := by
  refine returnsInHanded_of_change (C := Try.checked) own started (by kernel_rfl) Try.func10
    (ChangeSpec.witness6 (enc := enc) (C := Try.checked) false ⟨#[], #[.string ByteArray.empty], []⟩ 8 (by kernel_rfl) (by kernel_rfl) (by kernel_rfl) (by kernel_rfl)) ?_
  intro W base args ds gs before hval0 hW hcnd _
  have hval : ∀ (j : Nat) t v, Try.f10.params[j]? = some t → args[j]? = some v → Value.okWide Try.prog W .any base t v := hval0
  have hW' := hW
  obtain ⟨p, q, hA0, hV, rfl, hfz, hnd⟩ := hW
  have hA : DataW.TrodAll enc Try.prog W 0 (fun _ => true) true Try.f10.params.toList args.toList ds p := hA0
  rw [Try.params10] at hA hval
  obtain ⟨v0, vs0, d0, ds0, p0, q0, hargs, rfl, rfl, h0, r0⟩ := trodAll_cons hA
  obtain ⟨rfl, rfl, rfl⟩ := trodAll_nil r0
  obtain rfl : args = #[v0] := by cases args; simp_all
  obtain ⟨rfl, rfl⟩ := trodVars_none hV
  obtain ⟨a0, rfl, rfl, rfl, w0⟩ := open_string Try.underlying9 (hval 0 9 v0 rfl rfl) h0
  clear hA0 hval0
  simp only [List.append_nil] at hW'
  refine (walk a0 w0 W).mono fun e W' ⟨he, bel⟩ => ?_
  subst he
  exact ⟨_, rfl, _, _, _, [], [], [], hW', (trodAll_cons_mk (shut_bool Try.underlying4 _) trodAll_mk0), (trodAll_cons_mk (shut_string Try.underlying9 w0) trodAll_mk0), rfl, bel.frame _, fun h => by cases h⟩

theorem over : Rows.shownRow.holds Try.pinned (OpenSpec.ofChange Rows.shownSpec) :=
  OpenClaim.holds_of_wide 10 Try.f10 rfl rfl rfl rfl rfl rfl rfl ⟨rfl, rfl, rfl, rfl, rfl⟩ rfl rfl rfl rfl rfl (by kernel_rfl) Try.func10 (by kernel_rfl)
    (of_decide_eq_true (by kernel_rfl)) (by unfold Func.isWrapper; first | (rw [if_pos (by decide +kernel)]; kernel_rfl) | (rw [if_neg (by decide +kernel)]; exact ⟨rfl, rfl⟩))
    (fun os started H enc _ => lifted os started H enc)

/-- THE STATEMENT -/
theorem proved : Rows.ShownSaid :=
  over
#print axioms proved
end Go.Proofs.Ytdlldljgogbiaaa.shown
namespace Go.Proofs.Ytdlldljgogbiaaa
theorem shown_holds : Rows.ShownSaid := shown.proved
end Go.Proofs.Ytdlldljgogbiaaa
