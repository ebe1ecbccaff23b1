/-
  The law's row: the frame is the kit's own shell; the walk is ours.
-/
import Derived.Test.YtdlldljgogbiaabRows
import Derived.WalkKit
import Derived.ProofKit
import Derived.OpenShut
import Derived.ShutString
import Derived.ChangeOld
import Derived.Below
import Derived.Test.YtdlldljgogbiaabTopM
import Derived.Test.YtdlldljgogbiaabAccM
import Derived.Test.YtdlldljgogbiaabPlayM
import Derived.Test.YtdlldljgogbiaabCheckR
import Derived.Test.YtdlldljgogbiaabPlayR
namespace Go.Proofs.Ytdlldljgogbiaab.means
open Go.ChangeShapes Go.WideShapes Go.ChangeAt Go.RowKit
open Go.ChangeMaps (open_string shut_string)
set_option linter.unusedVariables false

theorem own : ownKnob Try.prog.godebug = none := by kernel_rfl

set_option maxHeartbeats 4000000 in
theorem walk (a0 : ByteArray) (a1 : ByteArray) (w0 : a0.size ≤ maxLen) (w1 : a1.size ≤ maxLen) (w : World) :
    Calls Try.prog 4 #[.string a0, .string a1] w fun e w' => e = .returned (.bool true) ∧ Below w.heap.size w w' := by
  have c1 := fun w => compileF_any a0 w w0
  go_enter Try.func4, Try.ntmps4
  go_wp2_with (first
    | (go_at_call 6; refine (c1 _).mono ?_; rintro e w2 (⟨e, p, rfl, rfl, rfl, hne, hb⟩ | ⟨T, rfl, hE, hP, hT, hc, hwd0, hj, hlv0, hb⟩) <;> (have HB1 : Hid (Below w.heap.size w w2) := hb; clear hb; first | (have hne2 := hne) | (have hwd : Hid (∀ u, Flow.Spells (Flow.readTr T) (Flow.first T) u (Flow.lastQ T) ↔ Flow.Has a0 0 u) := hwd0; have hlv : Hid (∀ ks m, Flow.goes (Flow.readTr T) (Flow.first T) ks = some m → (∀ k, ¬ Flow.spillM (Flow.readTr T) m k) ∧ Flow.CanEnd (Flow.readTr T) (Flow.last T) m) := hlv0; clear hwd0 hlv0 hj)))
    | (go_at_call 9; refine (checkR_any T _ (by unfold maxLen; omega)).mono ?_; rintro e' w3 ⟨rfl, hb⟩; have HB2 : Hid (Below w.heap.size w w3) := HB1.out.trans (hb.mono HB1.out.size); rw [hc]; clear hb)
    | (go_at_call 13; refine (playR_any T a1 _ (by unfold maxLen; omega) w1 hc).mono ?_; rintro e w4 ⟨m, ks, over, rfl, hg, hkl, hm, hov, _, hb⟩; have HB3 : Hid (Below w.heap.size w w4) := HB2.out.trans (hb.mono HB2.out.size); have SA : Hid _ := hlv.out ks m hg; have hov2 : over = false := (by cases over with | false => rfl | true => exact absurd (hov rfl) (fun ⟨k, hk⟩ => SA.out.1 k hk)); subst hov2; have HG : Hid _ := hg; clear hb hov hg hm)
    | (go_at_call 14; have hrs := runOf_size ks; refine (finishF_any T (Flow.runOf ks) _ (by unfold maxLen; omega) (by unfold maxLen; omega)).mono ?_; rintro e w7 ⟨t', e', rfl, ha', hb⟩; have HB6 : Hid (Below w.heap.size w w7) := HB3.out.trans (hb.mono HB3.out.size); obtain ⟨hf0, hf1, hf2⟩ := finish_can rfl hkl hc HG.out SA.out.2 ha'; subst hf0; have HF : Hid (Flow.EndsBy T (Flow.runOf ks ++ t')) := hf1; have hsa := fun W : World => run_string_add (P := Try.prog) (w := W) (Flow.runOf ks) t' (by omega) (by omega); have hz2 : (Flow.runOf ks ++ t').size ≤ 131072 := (by rw [ByteArray.size_append]; omega); clear hb ha' hf1)
    | (go_at_call 15; refine (endedR_any T (Flow.runOf ks ++ t') _ (by unfold maxLen; omega) (by unfold maxLen; omega) hc).mono ?_; rintro e w8 ⟨b8, rfl, hb8, hb⟩; have HB7 : Hid (Below w.heap.size w w8) := HB6.out.trans (hb.mono HB6.out.size); have hb9 : b8 = true := hb8.2 HF.out; subst hb9; clear hb hb8)
    | (go_at_call 16; obtain ⟨ks2, hr2, hg2⟩ := HF.out; have hl2 : ks2.length ≤ 131072 := (by rw [← runOf_size ks2, hr2]; exact hz2); obtain ⟨m1, m2⟩ := means_word hE hwd.out hg2; have m3 := speltT_size (Flow.readTr T) ks2; have cs := fun W => speltR_any T ks2 W (by unfold maxLen; omega) hc (by omega) (goes_lt hg2); rw [hr2] at cs; refine (cs _).mono ?_; rintro e w9 ⟨rfl, hb⟩; have HB8 : Hid (Below w.heap.size w w9) := HB7.out.trans (hb.mono HB7.out.size); have hzw : (speltT (Flow.readTr T) ks2).size ≤ 131072 := (by omega); clear cs hb; generalize speltT (Flow.readTr T) ks2 = wd at m1 m2 hzw ⊢; have M1 : Hid (Flow.Has a0 0 (Flow.nats wd)) := m1; have M2 : Hid (Flow.IsWord wd) := m2; clear m1 m2 m3 hr2 hg2 hl2)
    | (go_at_call 12; obtain ⟨hz, hok, _⟩ := readE_ok hE; refine (inR_any a0 (by omega) (a0.size + 1) 0 hok (by omega) wd _ (by unfold maxLen; omega)).mono ?_; rintro e' w10 ⟨rfl, q, rfl⟩; have HB9 : Hid (Below w.heap.size w (w9.drewN q)) := below_drewN HB8.out q; rw [yes_pos M1.out])
    | (go_at_call 17; have hz8 : wd.size ≤ 8 := (by omega); refine (acceptsF_any a0 wd _ w0 (by unfold maxLen; omega)).mono ?_; rintro e' w10 ⟨t, f, q, rfl, ha, hb⟩; have HB9 : Hid (Below w.heap.size w w10) := HB8.out.trans (hb.mono HB8.out.size); obtain ⟨rfl, rfl⟩ := means_accepts hE hz8 M1.out M2.out ha; clear hb ha)
    | (go_at_call 18; refine (playsF_any T wd _ (by unfold maxLen; omega) (by unfold maxLen; omega)).mono ?_; rintro e' w11 ⟨b, g, rfl, ha, hb⟩; have HB10 : Hid (Below w.heap.size w w11) := HB9.out.trans (hb.mono HB9.out.size); obtain ⟨rfl, rfl⟩ := means_plays hT hc hwd.out hz8 M1.out M2.out ha; clear hb ha)
    | (go_at_call 8; go_in))
  all_goals go_ret
  all_goals (first | exact ⟨rfl, HB10.out⟩ | exact ⟨rfl, HB9.out⟩ | exact ⟨ret_bool (by simp), HB10.out⟩ | exact ⟨ret_bool (by simp), HB9.out⟩ | exact ⟨ret_bool (by simp), HB1.out⟩ | exact ⟨ret_bool (by simp_all), HB1.out⟩ | (exfalso; simp_all; done))

set_option maxRecDepth 100000 in
theorem lifted (os : Os) (started : os.Started) (H : Type) (enc : TypeId × Value → H) :
    ReturnsInHanded {} Try.checked os 4 .any (Rows.meansSpec.pre6 enc Try.prog Try.f4 Rows.meansRow.domain false) (Rows.meansSpec.post enc Try.prog Try.f4 false true false false) := by
  refine returnsInHanded_of_change (C := Try.checked) own started (by kernel_rfl) Try.func4
    (ChangeSpec.witness6 (enc := enc) (C := Try.checked) false ⟨#[], #[.string ByteArray.empty, .string ByteArray.empty], []⟩ 8 (by kernel_rfl) (by kernel_rfl) (by kernel_rfl) (by kernel_rfl)) ?_
  intro W base args ds gs before hval0 hW hcnd _
  have hval : ∀ (j : Nat) t v, Try.f4.params[j]? = some t → args[j]? = some v → Value.okWide Try.prog W .any base t v := hval0
  have hW' := hW
  obtain ⟨p, q, hA0, hV, rfl, hfz, hnd⟩ := hW
  have hA : DataW.TrodAll enc Try.prog W 0 (fun _ => true) true Try.f4.params.toList args.toList ds p := hA0
  rw [Try.params4] at hA hval
  obtain ⟨v0, vs0, d0, ds0, p0, q0, hargs, rfl, rfl, h0, r0⟩ := trodAll_cons hA
  obtain ⟨v1, vs1, d1, ds1, p1, q1, rfl, rfl, rfl, h1, r1⟩ := trodAll_cons r0
  obtain ⟨rfl, rfl, rfl⟩ := trodAll_nil r1
  obtain rfl : args = #[v0, v1] := by cases args; simp_all
  obtain ⟨rfl, rfl⟩ := trodVars_none hV
  obtain ⟨a0, rfl, rfl, rfl, w0⟩ := open_string Try.underlying9 (hval 0 9 v0 rfl rfl) h0
  obtain ⟨a1, rfl, rfl, rfl, w1⟩ := open_string Try.underlying9 (hval 1 9 v1 rfl rfl) h1
  clear hA0 hval0
  simp only [List.append_nil] at hW'
  refine (walk a0 a1 w0 w1 W).mono fun e W' ⟨he, bel⟩ => ?_
  subst he
  exact ⟨_, rfl, _, _, _, [], [], [], hW', (trodAll_cons_mk (shut_bool Try.underlying4 _) trodAll_mk0), (trodAll_cons_mk (shut_string Try.underlying9 w0) (trodAll_cons_mk (shut_string Try.underlying9 w1) trodAll_mk0)), rfl, bel.frame _, fun h => by cases h⟩

theorem over : Rows.meansRow.holds Try.pinned (OpenSpec.ofChange Rows.meansSpec) :=
  OpenClaim.holds_of_wide 4 Try.f4 rfl rfl rfl rfl rfl rfl rfl ⟨rfl, rfl, rfl, rfl, rfl⟩ rfl rfl rfl rfl rfl (by kernel_rfl) Try.func4 (by kernel_rfl)
    (of_decide_eq_true (by kernel_rfl)) (by unfold Func.isWrapper; first | (rw [if_pos (by decide +kernel)]; kernel_rfl) | (rw [if_neg (by decide +kernel)]; exact ⟨rfl, rfl⟩))
    (fun os started H enc _ => lifted os started H enc)

/-- THE STATEMENT -/
theorem proved : Rows.MeansSaid :=
  over
#print axioms proved
end Go.Proofs.Ytdlldljgogbiaab.means
namespace Go.Proofs.Ytdlldljgogbiaab
theorem means_holds : Rows.MeansSaid := means.proved
end Go.Proofs.Ytdlldljgogbiaab
