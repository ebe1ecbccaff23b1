/-
  The law's row: the frame is the kit's own shell; the walk is ours.
-/
import Derived.Test.YtdlldljgogbiaaaRows
import Derived.WalkKit
import Derived.ProofKit
import Derived.OpenShut
import Derived.ShutString
import Derived.ChangeOld
import Derived.Below
import Derived.Test.YtdlldljgogbiaaaTopF
import Derived.Test.YtdlldljgogbiaaaEnF
import Derived.Test.YtdlldljgogbiaaaWish
import Derived.Test.YtdlldljgogbiaaaFireR
namespace Go.Proofs.Ytdlldljgogbiaaa.soundLives
open Go.ChangeShapes Go.WideShapes Go.ChangeAt Go.RowKit
open Go.ChangeMaps (open_string shut_string)
set_option linter.unusedVariables false

theorem own : ownKnob Try.prog.godebug = none := by kernel_rfl

set_option maxHeartbeats 4000000 in
theorem walk (a0 : ByteArray) (w0 : a0.size ≤ maxLen) (w : World) :
    Calls Try.prog 9 #[.string a0] w fun e w' => e = .returned (.bool true) ∧ Below w.heap.size w w' := by
  have c1 := fun w => judgeF_any a0 w w0
  have c2 := fun w => checkR_any a0 w w0
  go_enter Try.func9, Try.ntmps9
  go_wp2_with (first
    | (go_at_call 20; refine (c1 _).mono ?_; rintro e w2 ⟨v, t, e, rfl, ha, hb⟩; have HB1 : Hid (Below w.heap.size w w2) := hb; clear hb; rcases judge_range ha with hr | ⟨rfl, rfl⟩ | ⟨rfl, hv, hv2⟩)
    | (go_at_call 16; have hc0 : Flow.checkErr a0 = 0 := (judge_err ha).symm; refine (c2 _).mono ?_; rintro e w3 ⟨rfl, hb⟩; rw [hc0]; have HB2 : Hid (Below w.heap.size w w3) := HB1.out.trans (hb.mono HB1.out.size); clear hb)
    | (go_at_call 30; refine (sizeR_any a0 _ w0 hc0).mono ?_; rintro e w4 ⟨rfl, hb⟩; have HB3 : Hid (Below w.heap.size w w4) := HB2.out.trans (hb.mono HB2.out.size); clear hb)
    | (go_at_call 17; go_in))
  all_goals (first
    | (have _t := hr; go_ret; refine ⟨ret_bool ?_, HB1.out⟩; first | (simp; done) | (simp; omega))
    | (have _t := hv; go_ret; refine ⟨ret_bool ?_, HB1.out⟩; first | (simp; done) | (simp; omega))
    | skip)
  have h16 := readTr_size a0
  obtain ⟨N, hN⟩ : ∃ N, N = (Flow.readTr a0).length := ⟨_, rfl⟩
  rw [← hN] at h16 ⊢
  have HN : Hid (N = (Flow.readTr a0).length) := hN
  have JA : Hid (Flow.JudgeA a0 1 t 0) := ha
  have HC : Hid (Flow.checkErr a0 = 0) := hc0
  clear hN ha hc0 c1 c2 HB1 HB2
  go_loopw [9] (fun k' wr => ∃ (k : Nat), k ≤ N ∧ k' = .int .i64 k ∧ Hid (Below w.heap.size w wr)) (fun k' _ => N - (intOf k').toNat)
  case atStart => exact ⟨0, by omega, rfl, HB3⟩
  case round =>
    clear HB3
    obtain ⟨k, hk, rfl, HB3⟩ := hrel
    by_cases hlt : k < N
    · have hk16 : k < 16 := by omega
      have hs1 : (Flow.runOf [k]).size = 1 := by rw [runOf_size]; rfl
      have hn : Flow.num (Flow.bt (Flow.runOf [k]) 0) = k := by
        rw [← Flow.bt_at (s := Flow.runOf [k]) (k := 0) (by omega)]
        exact (sgn_num (k := k) (by omega)).2
      have EN : Hid (∀ t' e, Flow.EnableA a0 (Flow.runOf [k]) t' e → ∃ js m, e = 0 ∧ t' = Flow.runOf (js ++ [k]) ∧ js.length + 1 ≤ 65536 ∧ Flow.goes (Flow.readTr a0) (Flow.first a0) (js ++ [k]) = some m) := by
        intro t' e h
        have := enable_says HC.out hs1 (by rw [hn, ← HN.out]; exact hlt) h
        rw [hn] at this
        rcases this with ⟨h1, js, m, h2, h3, h4, _⟩ | ⟨_, _, hno⟩
        · exact ⟨js, m, h1, h2, h3, h4⟩
        · obtain ⟨is, m, hg⟩ := sound_alive JA.out rfl (k := k) (by rw [← HN.out]; exact hlt)
          exact absurd hg (hno is m)
      have ce := fun w => enableF_any a0 (Flow.runOf [k]) w w0 (by rw [hs1]; unfold maxLen; omega)
      clear hn
      go_wp2_with (first
        | (go_at_call 31; refine (signR_any k _ hk16).mono ?_; rintro e w' ⟨rfl, hw⟩; obtain rfl := hw.symm)
        | (go_at_call 24; refine (ce _).mono ?_; rintro e w5 ⟨t5, e5, rfl, ha, hb⟩; obtain ⟨js, m, he5, ht5, hjl, hg⟩ := EN.out _ _ ha; subst he5 ht5; have HB4 : Hid (Below w.heap.size w w5) := HB3.out.trans (hb.mono HB3.out.size); have hrs := runOf_size (js ++ [k]); have hls := last_sign js k; have GO : Hid (Flow.goes (Flow.readTr a0) (Flow.first a0) (js ++ [k]) = some m) := hg; clear hb ha hg)
        | (go_at_call 19; refine (fireR_any a0 (Flow.runOf (js ++ [k])) _ w0 (by rw [hrs]; unfold maxLen; simp; omega)).mono ?_; rintro e w6 ⟨rfl, hb⟩; rw [fire_at HC.out (by simp; omega) GO.out]; have HB5 : Hid (Below w.heap.size w w6) := HB4.out.trans (hb.mono HB4.out.size); clear hb)
        | (go_at_call 17; go_in))
      go_roundw
      case rel => exact ⟨k + 1, by omega, by go_num, HB5⟩
      case measure => simp [intOf]; omega
    · go_wp2
      go_ret
      exact ⟨rfl, HB3.out⟩

set_option maxRecDepth 100000 in
theorem lifted (os : Os) (started : os.Started) (H : Type) (enc : TypeId × Value → H) :
    ReturnsInHanded {} Try.checked os 9 .any (Rows.soundLivesSpec.pre6 enc Try.prog Try.f9 Rows.soundLivesRow.domain false) (Rows.soundLivesSpec.post enc Try.prog Try.f9 false true false false) := by
  refine returnsInHanded_of_change (C := Try.checked) own started (by kernel_rfl) Try.func9
    (ChangeSpec.witness6 (enc := enc) (C := Try.checked) false ⟨#[], #[.string ByteArray.empty], []⟩ 8 (by kernel_rfl) (by kernel_rfl) (by kernel_rfl) (by kernel_rfl)) ?_
  intro W base args ds gs before hval0 hW hcnd _
  have hval : ∀ (j : Nat) t v, Try.f9.params[j]? = some t → args[j]? = some v → Value.okWide Try.prog W .any base t v := hval0
  have hW' := hW
  obtain ⟨p, q, hA0, hV, rfl, hfz, hnd⟩ := hW
  have hA : DataW.TrodAll enc Try.prog W 0 (fun _ => true) true Try.f9.params.toList args.toList ds p := hA0
  rw [Try.params9] at hA hval
  obtain ⟨v0, vs0, d0, ds0, p0, q0, hargs, rfl, rfl, h0, r0⟩ := trodAll_cons hA
  obtain ⟨rfl, rfl, rfl⟩ := trodAll_nil r0
  obtain rfl : args = #[v0] := by cases args; simp_all
  obtain ⟨rfl, rfl⟩ := trodVars_none hV
  obtain ⟨a0, rfl, rfl, rfl, w0⟩ := open_string Try.underlying9 (hval 0 9 v0 rfl rfl) h0
  clear hA0 hval0
  simp only [List.append_nil] at hW'
  refine (walk a0 w0 W).mono fun e W' ⟨he, bel⟩ => ?_
  subst he
  exact ⟨_, rfl, _, _, _, [], [], [], hW', (trodAll_cons_mk (shut_bool Try.underlying4 _) trodAll_mk0), (trodAll_cons_mk (shut_string Try.underlying9 w0) trodAll_mk0), rfl, bel.frame _, fun h => by cases h⟩

theorem over : Rows.soundLivesRow.holds Try.pinned (OpenSpec.ofChange Rows.soundLivesSpec) :=
  OpenClaim.holds_of_wide 9 Try.f9 rfl rfl rfl rfl rfl rfl rfl ⟨rfl, rfl, rfl, rfl, rfl⟩ rfl rfl rfl rfl rfl (by kernel_rfl) Try.func9 (by kernel_rfl)
    (of_decide_eq_true (by kernel_rfl)) (by unfold Func.isWrapper; first | (rw [if_pos (by decide +kernel)]; kernel_rfl) | (rw [if_neg (by decide +kernel)]; exact ⟨rfl, rfl⟩))
    (fun os started H enc _ => lifted os started H enc)

/-- THE STATEMENT -/
theorem proved : Rows.SoundLivesSaid :=
  over
#print axioms proved
end Go.Proofs.Ytdlldljgogbiaaa.soundLives
namespace Go.Proofs.Ytdlldljgogbiaaa
theorem soundLives_holds : Rows.SoundLivesSaid := soundLives.proved
end Go.Proofs.Ytdlldljgogbiaaa
