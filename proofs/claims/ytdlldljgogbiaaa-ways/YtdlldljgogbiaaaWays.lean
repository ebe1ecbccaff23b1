/-
  The law's row: the frame is the kit's own shell; the walk is ours.
-/
import Derived.Test.YtdlldljgogbiaaaRows
import Derived.WalkKit
import Derived.ProofKit
import Derived.OpenShut
import Derived.ShutString
import Derived.ChangeOld
import Derived.Below
import Derived.Test.YtdlldljgogbiaaaFinF
import Derived.Test.YtdlldljgogbiaaaFirst
import Derived.Test.YtdlldljgogbiaaaFireR
namespace Go.Proofs.Ytdlldljgogbiaaa.ways
open Go.ChangeShapes Go.WideShapes Go.ChangeAt Go.RowKit
open Go.ChangeMaps (open_string shut_string)
set_option linter.unusedVariables false

theorem own : ownKnob Try.prog.godebug = none := by kernel_rfl

set_option maxHeartbeats 4000000 in
theorem walk (a0 : ByteArray) (a1 : ByteArray) (a2 : ByteArray) (w0 : a0.size ≤ maxLen) (w1 : a1.size ≤ maxLen) (w2 : a2.size ≤ maxLen) (w : World) :
    Calls Try.prog 11 #[.string a0, .string a1, .string a2] w fun e w' => e = .returned (.bool true) ∧ Below w.heap.size w w' := by
  have c1 := fun w => finishF_any a0 a1 w w0 w1
  have c2 := fun w => fireR_any a0 a1 w w0 w1
  have cw := fun w => first_any a2 w w2
  by_cases hE : Flow.fireE a0 a1 = 0
  · have hsz : (a1.size : Int) ≤ 65536 := by have := (fire_run.1 hE).1; omega
    have hc0 := (fire_run.1 hE).2.1
    obtain ⟨W, hW⟩ : ∃ W, W = Flow.cut a2 := ⟨_, rfl⟩
    have hWs : (W.size : Int) ≤ 65536 := by have := cut_size a2; rw [hW]; omega
    rw [← hW] at cw
    clear hW
    go_enter Try.func11, Try.ntmps11
    go_wp2_with (first
      | (go_at_call 22; refine (c1 _).mono ?_; rintro e w3 ⟨t, e, rfl, ha, hb⟩; have HB1 : Hid (Below w.heap.size w w3) := hb; clear hb; rcases finish_says hE ha with ⟨rfl, f1, f2', f3⟩ | ⟨rfl, rfl, g3⟩; (have f2 : (t.size : Int) ≤ 65536 := (by omega)); clear f2'; (have F3 : Hid _ := f3); clear f3; rotate_left; (have G3 : Hid _ := g3); clear g3)
      | (go_at_call 19; refine (c2 _).mono ?_; rintro e w4 ⟨rfl, hb⟩; rw [hE]; have HB2 : Hid (Below w.heap.size w w4) := HB1.out.trans (hb.mono HB1.out.size); clear hb; (try have hsa := fun V : World => run_string_add (P := Try.prog) (w := V) a1 t (by omega) (by omega)))
      | (go_at_call 29; have _t := f1; go_must (refine (endedR_any a0 (a1 ++ t) _ w0 (by unfold maxLen; rw [ByteArray.size_append]; omega) hc0).mono ?_; rintro e w5 ⟨b5, rfl, hb5, hb⟩; have HB3 : Hid (Below w.heap.size w w5) := HB2.out.trans (hb.mono HB2.out.size); have hb6 : b5 = true := hb5.2 f1; subst hb6; clear hb hb5 _t f1))
      | (go_at_call 32; refine (cw _).mono ?_; rintro e w' ⟨rfl, hw⟩; obtain rfl := hw.symm; have hsw := fun V : World => run_string_add (P := Try.prog) (w := V) a1 W (by omega) (by omega))
      | (go_at_call 29; refine (endedR_any a0 (a1 ++ W) _ w0 (by unfold maxLen; rw [ByteArray.size_append]; omega) hc0).mono ?_; rintro e w6 ⟨b6, rfl, hb6, hb⟩; first
          | (have HB4 : Hid (Below w.heap.size w w6) := HB3.out.trans (hb.mono HB3.out.size); have WC := ways_cases hb6 (F3.out W); clear hb hb6; rcases WC with rfl | ⟨rfl, d1⟩ | ⟨rfl, d1, d2, d3⟩)
          | (have HB4 : Hid (Below w.heap.size w w6) := HB2.out.trans (hb.mono HB2.out.size); have hb7 : b6 = false := (by cases b6 with | false => rfl | true => exact absurd (hb6.1 rfl) (G3.out W)); subst hb7; clear hb hb6))
      | (go_at_call 17; go_in))
    all_goals go_ret
    all_goals refine ⟨ret_bool ?_, HB4.out⟩
    all_goals (first
      | rfl
      | (have d4 : t.size < W.size := (by have := of_decide_eq_true d1; omega); rw [decide_eq_true d4]; rfl)
      | (have d4 : t.size < W.size := (by have := of_decide_eq_true d1; omega); simp [d4])
      | (exfalso; have := of_decide_eq_true d1; omega)
      | simp_all)
  · have t2 : ((Flow.fireE a0 a1 : Int) != 0) = true := by simp; omega
    go_enter Try.func11, Try.ntmps11
    go_wp2_with (first
      | (go_at_call 22; refine (c1 _).mono ?_; rintro e w3 ⟨t, e, rfl, ha, hb⟩; have HB1 : Hid (Below w.heap.size w w3) := hb; have hte : t = ⟨#[]⟩ ∧ e = Flow.fireE a0 a1 := (by rcases ha with ⟨_, h1, h2⟩ | ⟨h, _⟩; exact ⟨h1, h2⟩; exact absurd h hE); obtain ⟨rfl, rfl⟩ := hte; clear hb ha)
      | (go_at_call 19; refine (c2 _).mono ?_; rintro e w4 ⟨rfl, hb⟩; have HB2 : Hid (Below w.heap.size w w4) := HB1.out.trans (hb.mono HB1.out.size); clear hb)
      | (go_at_call 17; go_in))
    all_goals go_ret
    all_goals exact ⟨ret_bool (by simp), HB2.out⟩

set_option maxRecDepth 100000 in
theorem lifted (os : Os) (started : os.Started) (H : Type) (enc : TypeId × Value → H) :
    ReturnsInHanded {} Try.checked os 11 .any (Rows.waysSpec.pre6 enc Try.prog Try.f11 Rows.waysRow.domain false) (Rows.waysSpec.post enc Try.prog Try.f11 false true false false) := by
  refine returnsInHanded_of_change (C := Try.checked) own started (by kernel_rfl) Try.func11
    (ChangeSpec.witness6 (enc := enc) (C := Try.checked) false ⟨#[], #[.string ByteArray.empty, .string ByteArray.empty, .string ByteArray.empty], []⟩ 8 (by kernel_rfl) (by kernel_rfl) (by kernel_rfl) (by kernel_rfl)) ?_
  intro W base args ds gs before hval0 hW hcnd _
  have hval : ∀ (j : Nat) t v, Try.f11.params[j]? = some t → args[j]? = some v → Value.okWide Try.prog W .any base t v := hval0
  have hW' := hW
  obtain ⟨p, q, hA0, hV, rfl, hfz, hnd⟩ := hW
  have hA : DataW.TrodAll enc Try.prog W 0 (fun _ => true) true Try.f11.params.toList args.toList ds p := hA0
  rw [Try.params11] at hA hval
  obtain ⟨v0, vs0, d0, ds0, p0, q0, hargs, rfl, rfl, h0, r0⟩ := trodAll_cons hA
  obtain ⟨v1, vs1, d1, ds1, p1, q1, rfl, rfl, rfl, h1, r1⟩ := trodAll_cons r0
  obtain ⟨v2, vs2, d2, ds2, p2, q2, rfl, rfl, rfl, h2, r2⟩ := trodAll_cons r1
  obtain ⟨rfl, rfl, rfl⟩ := trodAll_nil r2
  obtain rfl : args = #[v0, v1, v2] := by cases args; simp_all
  obtain ⟨rfl, rfl⟩ := trodVars_none hV
  obtain ⟨a0, rfl, rfl, rfl, w0⟩ := open_string Try.underlying9 (hval 0 9 v0 rfl rfl) h0
  obtain ⟨a1, rfl, rfl, rfl, w1⟩ := open_string Try.underlying9 (hval 1 9 v1 rfl rfl) h1
  obtain ⟨a2, rfl, rfl, rfl, w2⟩ := open_string Try.underlying9 (hval 2 9 v2 rfl rfl) h2
  clear hA0 hval0
  simp only [List.append_nil] at hW'
  refine (walk a0 a1 a2 w0 w1 w2 W).mono fun e W' ⟨he, bel⟩ => ?_
  subst he
  exact ⟨_, rfl, _, _, _, [], [], [], hW', (trodAll_cons_mk (shut_bool Try.underlying4 _) trodAll_mk0), (trodAll_cons_mk (shut_string Try.underlying9 w0) (trodAll_cons_mk (shut_string Try.underlying9 w1) (trodAll_cons_mk (shut_string Try.underlying9 w2) trodAll_mk0))), rfl, bel.frame _, fun h => by cases h⟩

theorem over : Rows.waysRow.holds Try.pinned (OpenSpec.ofChange Rows.waysSpec) :=
  OpenClaim.holds_of_wide 11 Try.f11 rfl rfl rfl rfl rfl rfl rfl ⟨rfl, rfl, rfl, rfl, rfl⟩ rfl rfl rfl rfl rfl (by kernel_rfl) Try.func11 (by kernel_rfl)
    (of_decide_eq_true (by kernel_rfl)) (by unfold Func.isWrapper; first | (rw [if_pos (by decide +kernel)]; kernel_rfl) | (rw [if_neg (by decide +kernel)]; exact ⟨rfl, rfl⟩))
    (fun os started H enc _ => lifted os started H enc)

/-- THE STATEMENT -/
theorem proved : Rows.WaysSaid :=
  over
#print axioms proved
end Go.Proofs.Ytdlldljgogbiaaa.ways
namespace Go.Proofs.Ytdlldljgogbiaaa
theorem ways_holds : Rows.WaysSaid := ways.proved
end Go.Proofs.Ytdlldljgogbiaaa
