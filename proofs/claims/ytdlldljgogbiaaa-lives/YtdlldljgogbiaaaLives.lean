/-
  The law's row: the frame is the kit's own shell; the walk is ours.
-/
import Derived.Test.YtdlldljgogbiaaaRows
import Derived.WalkKit
import Derived.ProofKit
import Derived.OpenShut
import Derived.ShutString
import Derived.ChangeOld
import Derived.Below
import Derived.Test.YtdlldljgogbiaaaEnF
import Derived.Test.YtdlldljgogbiaaaFirst
import Derived.Test.YtdlldljgogbiaaaFireR
namespace Go.Proofs.Ytdlldljgogbiaaa.lives
open Go.ChangeShapes Go.WideShapes Go.ChangeAt Go.RowKit
open Go.ChangeMaps (open_string shut_string)
set_option linter.unusedVariables false

theorem own : ownKnob Try.prog.godebug = none := by kernel_rfl

set_option maxHeartbeats 1000000 in
theorem walk (a0 : ByteArray) (a1 : ByteArray) (a2 : ByteArray) (w0 : a0.size ≤ maxLen) (w1 : a1.size ≤ maxLen) (w2 : a2.size ≤ maxLen) (w : World) :
    Calls Try.prog 12 #[.string a0, .string a1, .string a2] w fun e w' => e = .returned (.bool true) ∧ Below w.heap.size w w' := by
  have c1 := fun w => enableF_any a0 a1 w w0 w1
  have c2 := fun w => checkR_any a0 w w0
  have cw := fun w => first_any a2 w w2
  by_cases hgood : Flow.checkErr a0 = 0 ∧ a1.size = 1 ∧ Flow.num (Flow.bt a1 0) < (Flow.readTr a0).length
  · obtain ⟨hc0, h1, hk⟩ := hgood
    rw [hc0] at c2
    have h16 := readTr_size a0
    have hone := one_sign h1 (by omega)
    obtain ⟨k, ek⟩ : ∃ k, k = Flow.num (Flow.bt a1 0) := ⟨_, rfl⟩
    have hk' := hk
    rw [← ek] at hk hone
    have hI1 : 0 < a1.size := by omega
    have hcn : ∀ w, Calls Try.prog 33 #[.int .u8 (a1[0].toNat : Int)] w fun e w' => e = .returned (.int .i64 (k : Int)) ∧ w = w' := fun w => by
      have := number_any a1[0].toNat w (UInt8.toNat_lt _)
      rw [Flow.bt_at hI1, ← ek] at this
      rw [Flow.bt_at hI1]
      exact this.mono fun e w' h => ⟨h.1, h.2.symm⟩
    have hsg : a1[0] = Flow.sgn k := num_sgn (by rw [Flow.bt_at hI1]; exact ek.symm) (by omega)
    have HS : Hid (a1[0] = Flow.sgn k) := hsg
    have HO : Hid (a1 = Flow.runOf [k]) := hone
    have cs := fun w => sizeR_any a0 w w0 hc0
    obtain ⟨W, hW⟩ : ∃ W, W = Flow.cut a2 := ⟨_, rfl⟩
    have HWs : Hid (W.size ≤ 65536) := by show _ ≤ _; rw [hW]; exact cut_size a2
    rw [← hW] at cw
    clear hW
    have ES : Hid (∀ t e, Flow.EnableA a0 a1 t e → (e = 0 ∧ (∃ js m, t = Flow.runOf (js ++ [k]) ∧ js.length + 1 ≤ 65536 ∧ Flow.goes (Flow.readTr a0) (Flow.first a0) (js ++ [k]) = some m ∧
      ∀ is m', Flow.goes (Flow.readTr a0) (Flow.first a0) (is ++ [k]) = some m' → t.size < is.length + 1 ∨ (t.size = is.length + 1 ∧ Flow.leB t (Flow.runOf (is ++ [k]))))) ∨ (e = 7 ∧ t = ⟨#[]⟩ ∧ ∀ is m', Flow.goes (Flow.readTr a0) (Flow.first a0) (is ++ [k]) ≠ some m')) := fun t e h => by
      have := enable_says hc0 h1 hk' h
      rw [← ek] at this
      exact this
    obtain ⟨n, hn⟩ : ∃ n, n = (Flow.readTr a0).length := ⟨_, rfl⟩
    rw [← hn] at hk cs
    have HK : Hid (k < 16) := by show _ < _; omega
    have d1 : (((a1.size : Nat) : Int) != 1) = false := by simp; omega
    have d2 : decide ((n : Int) ≤ (k : Int)) = false := decide_eq_false (by omega)
    have d3 : decide (n ≤ k) = false := decide_eq_false (by omega)
    have HC : Hid (Flow.checkErr a0 = 0) := hc0
    clear ek hk' hn h16 hc0 h1 hone hsg
    go_enter Try.func12, Try.ntmps12
    go_wp2_with (first
      | (go_at_call 24; refine (c1 _).mono ?_; rintro e w3 ⟨t, e, rfl, ha, hb⟩; have HB1 : Hid (Below w.heap.size w w3) := hb; have EC : Hid _ := ES.out _ _ ha; clear hb ha)
      | (go_at_call 16; refine (c2 _).mono ?_; rintro e w4 ⟨rfl, hb⟩; have HB2 : Hid (Below w.heap.size w w4) := HB1.out.trans (hb.mono HB1.out.size); clear hb)
      | (go_at_call 33; refine (hcn _).mono ?_; rintro e w' ⟨rfl, rfl⟩)
      | (go_at_call 30; refine (cs _).mono ?_; rintro e w5 ⟨rfl, hb⟩; have HB3 : Hid (Below w.heap.size w w5) := HB2.out.trans (hb.mono HB2.out.size); clear hb; rcases EC.out with ⟨rfl, js, m, rfl, hjl, hg, huni⟩ | ⟨rfl, rfl, hno⟩; (have HJ : Hid (js.length + 1 ≤ 65536) := hjl); (have GO : Hid (Flow.goes (Flow.readTr a0) (Flow.first a0) (js ++ [k]) = some m) := hg); (have HU : Hid _ := huni); (have hrs := runOf_size (js ++ [k])); (have hls : (Flow.runOf (js ++ [k])).extract js.length (js.length + 1) = a1 := (by rw [last_sign]; exact HO.out.symm)); clear hg huni EC; rotate_left; (have HNO : Hid _ := hno); clear hno EC)
      | (go_at_call 19; refine (fireR_any a0 (Flow.runOf (js ++ [k])) _ w0 (by rw [hrs]; unfold maxLen; simp; omega)).mono ?_; rintro e w6 ⟨rfl, hb⟩; rw [fire_at HC.out (by have := HJ.out; simp; omega) GO.out]; have HB4 : Hid (Below w.heap.size w w6) := HB3.out.trans (hb.mono HB3.out.size); clear hb)
      | (go_at_call 32; refine (cw _).mono ?_; rintro e w' ⟨rfl, hw⟩; obtain rfl := hw.symm)
      | (go_at_call 26; refine (playR_any a0 W _ w0 (by have := HWs.out; unfold maxLen; omega) HC.out).mono ?_; rintro e w7 ⟨m7, ks, over, rfl, hg7, hkl, _, _, _, hb⟩; have G7 : Hid (Flow.goes (Flow.readTr a0) (Flow.first a0) ks = some m7) := hg7; have KL : Hid (ks.length ≤ 65536) := hkl; have hrk := runOf_size ks; (first | have HB5 : Hid (Below w.heap.size w w7) := HB4.out.trans (hb.mono HB4.out.size) | have HB5 : Hid (Below w.heap.size w w7) := HB3.out.trans (hb.mono HB3.out.size)); clear hb hkl hg7)
      | (go_at_call 17; go_in))
    · skip
      obtain ⟨wo, hwo⟩ : ∃ wo, wo = w7 := ⟨_, rfl⟩
      clear hwo
      go_loopw [18] (fun i' wr => ∃ (i : Nat), i ≤ ks.length ∧ i' = .int .i64 i ∧ Hid (Below w.heap.size w wr)) (fun i' _ => ks.length - (intOf i').toNat)
      case atStart => exact ⟨0, by omega, rfl, HB5⟩
      case round =>
        clear HB5
        obtain ⟨i, hil, rfl, HB5⟩ := hrel
        by_cases hlt : i < ks.length
        · have hn := List.getElem?_eq_getElem hlt
          have hri : (Flow.runOf ks)[i]'(by rw [hrk]; exact hlt) = Flow.sgn ks[i] := sign_at hlt _
          have hki : ks[i] < 16 := goes_16 (readTr_size a0) G7.out _ (List.getElem_mem hlt)
          have hI0 : (0 : Int) ≤ (i : Int) := by omega
          have hI1 : (i : Int) < (ks.length : Int) := by omega
          have hkl := KL.out
          by_cases he : ks[i] = k
          · rw [he] at hn
            have te : ((((Flow.runOf ks)[i]'(by rw [hrk]; exact hlt)).toNat : Int) == (a1[0].toNat : Int)) = true := by rw [hri, HS.out, he]; simp
            clear hri he hki
            obtain ⟨m8, hm8⟩ := goes_take G7.out (i + 1)
            rw [List.take_add_one, hn] at hm8
            exact absurd hm8 (HNO.out (ks.take i) m8)
          · have te : ((((Flow.runOf ks)[i]'(by rw [hrk]; exact hlt)).toNat : Int) == (a1[0].toNat : Int)) = false := by
              rw [hri, HS.out]
              apply Bool.eq_false_iff.2
              intro h
              simp only [beq_iff_eq] at h
              have h2 : (Flow.sgn ks[i]).toNat = (Flow.sgn k).toNat := by omega
              exact he (sgn_inj hki HK.out (UInt8.toNat_inj.1 h2))
            clear hri he hn hki
            go_wp2
            go_quiet (fail)
            go_wp2
            go_roundw
            case rel => exact ⟨i + 1, by omega, by go_num, below_drewN HB5.out _⟩
            case measure => simp [intOf]; omega
        · go_wp2
          go_ret
          exact ⟨rfl, HB5.out⟩
    · skip
      obtain ⟨wo, hwo⟩ : ∃ wo, wo = w7 := ⟨_, rfl⟩
      clear hwo
      go_loopw [18] (fun i' wr => ∃ (i : Nat), i ≤ ks.length ∧ i' = .int .i64 i ∧ Hid (Below w.heap.size w wr)) (fun i' _ => ks.length - (intOf i').toNat)
      case atStart => exact ⟨0, by omega, rfl, HB5⟩
      case round =>
        clear HB5
        obtain ⟨i, hil, rfl, HB5⟩ := hrel
        by_cases hlt : i < ks.length
        · have hn := List.getElem?_eq_getElem hlt
          have hri : (Flow.runOf ks)[i]'(by rw [hrk]; exact hlt) = Flow.sgn ks[i] := sign_at hlt _
          have hki : ks[i] < 16 := goes_16 (readTr_size a0) G7.out _ (List.getElem_mem hlt)
          have hI0 : (0 : Int) ≤ (i : Int) := by omega
          have hI1 : (i : Int) < (ks.length : Int) := by omega
          have hkl := KL.out
          by_cases he : ks[i] = k
          · rw [he] at hn
            have te : ((((Flow.runOf ks)[i]'(by rw [hrk]; exact hlt)).toNat : Int) == (a1[0].toNat : Int)) = true := by rw [hri, HS.out, he]; simp
            clear hri he hki
            obtain ⟨m8, hm8⟩ := goes_take G7.out (i + 1)
            rw [List.take_add_one, hn] at hm8
            have hU := HU.out (ks.take i) m8 hm8
            have hx := take_sign hn
            obtain ⟨T, hT⟩ : ∃ T, T = Flow.runOf (ks.take i ++ [k]) := ⟨_, rfl⟩
            obtain ⟨r, hr⟩ : ∃ r, r = Flow.runOf (js ++ [k]) := ⟨_, rfl⟩
            have hTs : T.size = i + 1 := by rw [hT, runOf_size]; simp; omega
            rw [← hT] at hx hU
            rw [← hr] at hU ⊢
            have hUc : r.size < T.size ∨ (r.size = T.size ∧ Flow.leB r T) := by
              rw [hTs]
              rw [List.length_take, Nat.min_eq_left (by omega)] at hU
              exact hU
            have WC := ways_cases (t := r) (W := T) (b := true) (P := True) (by simp) (fun _ => hUc)
            clear hm8 hU hT hr hUc hn hrs hls hjl hTs HU HJ GO
            rcases WC with g | ⟨_, d1⟩ | ⟨_, d1, d2, d3⟩
            · cases g
            · go_wp2
              go_quiet (fail)
              go_wp2
              all_goals go_ret
              all_goals refine ⟨ret_bool ?_, below_drewN HB5.out _⟩
              all_goals (first
                | rfl
                | (have d4 : r.size < T.size := (by have := of_decide_eq_true d1; omega); rw [decide_eq_true d4]; rfl)
                | (have d4 : r.size < T.size := (by have := of_decide_eq_true d1; omega); simp [d4])
                | (exfalso; have := of_decide_eq_true d1; omega)
                | simp_all)
            · go_wp2
              go_quiet (fail)
              go_wp2
              all_goals go_ret
              all_goals refine ⟨ret_bool ?_, below_drewN HB5.out _⟩
              all_goals (first
                | rfl
                | simp_all)
          · have te : ((((Flow.runOf ks)[i]'(by rw [hrk]; exact hlt)).toNat : Int) == (a1[0].toNat : Int)) = false := by
              rw [hri, HS.out]
              apply Bool.eq_false_iff.2
              intro h
              simp only [beq_iff_eq] at h
              have h2 : (Flow.sgn ks[i]).toNat = (Flow.sgn k).toNat := by omega
              exact he (sgn_inj hki HK.out (UInt8.toNat_inj.1 h2))
            clear hri he hn hki
            go_wp2
            go_quiet (fail)
            go_wp2
            go_roundw
            case rel => exact ⟨i + 1, by omega, by go_num, below_drewN HB5.out _⟩
            case measure => simp [intOf]; omega
        · go_wp2
          go_ret
          exact ⟨rfl, HB5.out⟩
  · have c3 : ∀ t e, Flow.EnableA a0 a1 t e → e ≠ 0 ∧ e ≠ 7 ∧ t = ⟨#[]⟩ := fun t e h => enable_bad hgood h
    by_cases hc : Flow.checkErr a0 = 0
    · rw [hc] at c2
      by_cases h1 : a1.size = 1
      · have hk : ¬ Flow.num (Flow.bt a1 0) < (Flow.readTr a0).length := fun h => hgood ⟨hc, h1, h⟩
        have hI1 : 0 < a1.size := by omega
        have cs := fun w => sizeR_any a0 w w0 hc
        obtain ⟨k, ek⟩ : ∃ k, k = Flow.num (Flow.bt a1 0) := ⟨_, rfl⟩
        obtain ⟨n, hn⟩ : ∃ n, n = (Flow.readTr a0).length := ⟨_, rfl⟩
        have hcn : ∀ w, Calls Try.prog 33 #[.int .u8 (a1[0].toNat : Int)] w fun e w' => e = .returned (.int .i64 (k : Int)) ∧ w = w' := fun w => by
          have := number_any a1[0].toNat w (UInt8.toNat_lt _)
          rw [Flow.bt_at hI1, ← ek] at this
          rw [Flow.bt_at hI1]
          exact this.mono fun e w' h => ⟨h.1, h.2.symm⟩
        rw [← ek, ← hn] at hk
        rw [← hn] at cs
        have d1 : (((a1.size : Nat) : Int) != 1) = false := by simp; omega
        have d2 : decide ((n : Int) ≤ (k : Int)) = true := decide_eq_true (by omega)
        have d3 : decide (n ≤ k) = true := decide_eq_true (by omega)
        clear ek hn hgood h1 hc
        go_enter Try.func12, Try.ntmps12
        go_wp2_with (first
          | (go_at_call 24; refine (c1 _).mono ?_; rintro e w3 ⟨t, e, rfl, ha, hb⟩; have HB1 : Hid (Below w.heap.size w w3) := hb; obtain ⟨b1', b2', rfl⟩ := c3 _ _ ha; have b1 : ((e : Int) != 0) = true := (by simp; omega); have b2 : ((e : Int) != 7) = true := (by simp; omega); clear hb ha b1' b2')
          | (go_at_call 16; refine (c2 _).mono ?_; rintro e w4 ⟨rfl, hb⟩; have HB2 : Hid (Below w.heap.size w w4) := HB1.out.trans (hb.mono HB1.out.size); clear hb)
          | (go_at_call 33; refine (hcn _).mono ?_; rintro e w' ⟨rfl, rfl⟩)
          | (go_at_call 30; refine (cs _).mono ?_; rintro e w5 ⟨rfl, hb⟩; have HB3 : Hid (Below w.heap.size w w5) := HB2.out.trans (hb.mono HB2.out.size); clear hb)
          | (go_at_call 17; go_in))
        all_goals go_ret
        all_goals exact ⟨rfl, HB3.out⟩
      · have d1 : (((a1.size : Nat) : Int) != 1) = true := by simp; omega
        clear hgood h1 hc
        go_enter Try.func12, Try.ntmps12
        go_wp2_with (first
          | (go_at_call 24; refine (c1 _).mono ?_; rintro e w3 ⟨t, e, rfl, ha, hb⟩; have HB1 : Hid (Below w.heap.size w w3) := hb; obtain ⟨b1', b2', rfl⟩ := c3 _ _ ha; have b1 : ((e : Int) != 0) = true := (by simp; omega); have b2 : ((e : Int) != 7) = true := (by simp; omega); clear hb ha b1' b2')
          | (go_at_call 16; refine (c2 _).mono ?_; rintro e w4 ⟨rfl, hb⟩; have HB2 : Hid (Below w.heap.size w w4) := HB1.out.trans (hb.mono HB1.out.size); clear hb)
          | (go_at_call 17; go_in))
        all_goals go_ret
        all_goals exact ⟨rfl, HB2.out⟩
    · have t2 : ((Flow.checkErr a0 : Int) != 0) = true := by simp; omega
      clear hgood hc
      go_enter Try.func12, Try.ntmps12
      go_wp2_with (first
        | (go_at_call 24; refine (c1 _).mono ?_; rintro e w3 ⟨t, e, rfl, ha, hb⟩; have HB1 : Hid (Below w.heap.size w w3) := hb; obtain ⟨b1', b2', rfl⟩ := c3 _ _ ha; have b1 : ((e : Int) != 0) = true := (by simp; omega); have b2 : ((e : Int) != 7) = true := (by simp; omega); clear hb ha b1' b2')
        | (go_at_call 16; refine (c2 _).mono ?_; rintro e w4 ⟨rfl, hb⟩; have HB2 : Hid (Below w.heap.size w w4) := HB1.out.trans (hb.mono HB1.out.size); clear hb)
        | (go_at_call 17; go_in))
      all_goals go_ret
      all_goals exact ⟨rfl, HB2.out⟩

set_option maxRecDepth 100000 in
theorem lifted (os : Os) (started : os.Started) (H : Type) (enc : TypeId × Value → H) :
    ReturnsInHanded {} Try.checked os 12 .any (Rows.livesSpec.pre6 enc Try.prog Try.f12 Rows.livesRow.domain false) (Rows.livesSpec.post enc Try.prog Try.f12 false true false false) := by
  refine returnsInHanded_of_change (C := Try.checked) own started (by kernel_rfl) Try.func12
    (ChangeSpec.witness6 (enc := enc) (C := Try.checked) false ⟨#[], #[.string ByteArray.empty, .string ByteArray.empty, .string ByteArray.empty], []⟩ 8 (by kernel_rfl) (by kernel_rfl) (by kernel_rfl) (by kernel_rfl)) ?_
  intro W base args ds gs before hval0 hW hcnd _
  have hval : ∀ (j : Nat) t v, Try.f12.params[j]? = some t → args[j]? = some v → Value.okWide Try.prog W .any base t v := hval0
  have hW' := hW
  obtain ⟨p, q, hA0, hV, rfl, hfz, hnd⟩ := hW
  have hA : DataW.TrodAll enc Try.prog W 0 (fun _ => true) true Try.f12.params.toList args.toList ds p := hA0
  rw [Try.params12] at hA hval
  obtain ⟨v0, vs0, d0, ds0, p0, q0, hargs, rfl, rfl, h0, r0⟩ := trodAll_cons hA
  obtain ⟨v1, vs1, d1, ds1, p1, q1, rfl, rfl, rfl, h1, r1⟩ := trodAll_cons r0
  obtain ⟨v2, vs2, d2, ds2, p2, q2, rfl, rfl, rfl, h2, r2⟩ := trodAll_cons r1
  obtain ⟨rfl, rfl, rfl⟩ := trodAll_nil r2
  obtain rfl : args = #[v0, v1, v2] := by cases args; simp_all
  obtain ⟨rfl, rfl⟩ := trodVars_none hV
  obtain ⟨a0, rfl, rfl, rfl, w0⟩ := open_string Try.underlying9 (hval 0 9 v0 rfl rfl) h0
  obtain ⟨a1, rfl, rfl, rfl, w1⟩ := open_string Try.underlying9 (hval 1 9 v1 rfl rfl) h1
  obtain ⟨a2, rfl, rfl, rfl, w2⟩ := open_string Try.underlying9 (hval 2 9 v2 rfl rfl) h2
  clear hA0 hval0
  simp only [List.append_nil] at hW'
  refine (walk a0 a1 a2 w0 w1 w2 W).mono fun e W' ⟨he, bel⟩ => ?_
  subst he
  exact ⟨_, rfl, _, _, _, [], [], [], hW', (trodAll_cons_mk (shut_bool Try.underlying4 _) trodAll_mk0), (trodAll_cons_mk (shut_string Try.underlying9 w0) (trodAll_cons_mk (shut_string Try.underlying9 w1) (trodAll_cons_mk (shut_string Try.underlying9 w2) trodAll_mk0))), rfl, bel.frame _, fun h => by cases h⟩

theorem over : Rows.livesRow.holds Try.pinned (OpenSpec.ofChange Rows.livesSpec) :=
  OpenClaim.holds_of_wide 12 Try.f12 rfl rfl rfl rfl rfl rfl rfl ⟨rfl, rfl, rfl, rfl, rfl⟩ rfl rfl rfl rfl rfl (by kernel_rfl) Try.func12 (by kernel_rfl)
    (of_decide_eq_true (by kernel_rfl)) (by unfold Func.isWrapper; first | (rw [if_pos (by decide +kernel)]; kernel_rfl) | (rw [if_neg (by decide +kernel)]; exact ⟨rfl, rfl⟩))
    (fun os started H enc _ => lifted os started H enc)

/-- THE STATEMENT -/
theorem proved : Rows.LivesSaid :=
  over
#print axioms proved
end Go.Proofs.Ytdlldljgogbiaaa.lives
namespace Go.Proofs.Ytdlldljgogbiaaa
theorem lives_holds : Rows.LivesSaid := lives.proved
end Go.Proofs.Ytdlldljgogbiaaa
