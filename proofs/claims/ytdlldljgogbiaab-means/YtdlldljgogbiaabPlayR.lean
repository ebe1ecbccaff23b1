/-
  The reference's token game for wishes: Play, Ended, Has, Alone, Size.
-/
import Derived.Test.YtdlldljgogbiaabGoes
import Derived.Deep.LoopGhost
import Derived.Deep.RegionHeld3
namespace Go.Proofs.Ytdlldljgogbiaab
open Go.RowKit
set_option linter.unusedVariables false
set_option maxRecDepth 40000

theorem extract_one (wish : ByteArray) (k : Nat) (h : k < wish.size) : wish.extract k (k + 1) = ⟨#[wish[k]]⟩ := by
  apply ByteArray.ext
  apply Array.ext'
  rw [ByteArray.data_extract, Array.toList_extract]
  show List.extract wish.data.toList k (k + 1) = [wish[k]]
  rw [List.extract_eq_take_drop, drop_at wish h, show k + 1 - k = 1 by omega]
  rfl

/-- what Play keeps -/
def PlayInv (ts : List Flow.Tr) (m0 : Nat) (wish : ByteArray) (i m : Nat) (ks : List Nat) : Prop :=
  Flow.goes ts m0 ks = some m ∧ ks.length ≤ i ∧ (∀ js m', Flow.signs js = wish.data.toList.take i → Flow.goes ts m0 js = some m' → ks = js)
/-- what Play answers -/
def PlayPost (s wish : ByteArray) (w : World) (en : Ending) (w' : World) : Prop :=
  ∃ m ks over, en = .returned (.tuple #[.int .i64 (m : Nat), .string (Flow.runOf ks), .bool over]) ∧ Flow.goes (Flow.readTr s) (Flow.first s) ks = some m ∧ ks.length ≤ 65536 ∧ m < 65536 ∧
    (over = true → ∃ k, Flow.spillM (Flow.readTr s) m k) ∧ (∀ js m', Flow.runOf js = wish → wish.size ≤ 65536 → Flow.goes (Flow.readTr s) (Flow.first s) js = some m' → ks = js ∧ over = false) ∧ Below w.heap.size w w'

theorem wish_take (wish : ByteArray) {k : Nat} (h : k < wish.size) : wish.data.toList.take (k + 1) = wish.data.toList.take k ++ [wish[k]] := by
  rw [List.take_succ_eq_append_getElem (by simpa using h)]; rfl
theorem signs_snoc_inv {js : List Nat} {l : List UInt8} {c : UInt8} (h : Flow.signs js = l ++ [c]) : ∃ js' k, js = js' ++ [k] ∧ Flow.signs js' = l ∧ Flow.sgn k = c := by
  have hne : js ≠ [] := by intro e; rw [e] at h; simp [Flow.signs] at h
  refine ⟨js.dropLast, js.getLast hne, (List.dropLast_concat_getLast hne).symm, ?_, ?_⟩
  · have := congrArg List.dropLast h
    simpa [Flow.signs, List.map_dropLast] using this
  · rw [← List.dropLast_concat_getLast hne] at h
    simp [Flow.signs] at h
    exact h.2
theorem PlayInv.skip {ts : List Flow.Tr} {m0 : Nat} {wish : ByteArray} {i m : Nat} {ks : List Nat} (h : PlayInv ts m0 wish i m ks) (hi : i < wish.size) (hts : ts.length ≤ 16) (hno : ∀ k, Flow.sgn k = wish[i] → k < ts.length → Flow.nextM ts m k = none) : PlayInv ts m0 wish (i + 1) m ks := by
  refine ⟨h.1, by have := h.2.1; omega, ?_⟩
  intro js m' hj hg
  rw [wish_take wish hi] at hj
  obtain ⟨js', k, rfl, h1, h2⟩ := signs_snoc_inv hj
  rw [Flow.goes_snoc] at hg
  cases hx : Flow.goes ts m0 js' with
  | none => rw [hx] at hg; cases hg
  | some m1 =>
    rw [hx] at hg
    dsimp only at hg
    have e0 := h.2.2 js' m1 h1 hx
    have h' := h.1
    rw [e0, hx] at h'
    have e : m1 = m := by injection h'
    subst e
    have hk : k < ts.length := by
      rcases Nat.lt_or_ge k ts.length with g | g
      · exact g
      · unfold Flow.nextM at hg; rw [List.getElem?_eq_none g] at hg; cases hg
    rw [hno k h2 hk] at hg; cases hg
theorem PlayInv.step {ts : List Flow.Tr} {m0 : Nat} {wish : ByteArray} {i m m1 k : Nat} {ks : List Nat} (h : PlayInv ts m0 wish i m ks) (hi : i < wish.size) (hts : ts.length ≤ 16) (hk : k < ts.length) (hs : Flow.sgn k = wish[i]) (hx : Flow.nextM ts m k = some m1) : PlayInv ts m0 wish (i + 1) m1 (ks ++ [k]) := by
  refine ⟨?_, by have := h.2.1; simp; omega, ?_⟩
  · rw [Flow.goes_snoc, h.1]; exact hx
  · intro js m' hj hg
    rw [wish_take wish hi] at hj
    obtain ⟨js', k', rfl, h1, h2⟩ := signs_snoc_inv hj
    have hk' := goes_lt hg k' (by simp)
    rw [Flow.goes_snoc] at hg
    cases hy : Flow.goes ts m0 js' with
    | none => rw [hy] at hg; cases hg
    | some m2 =>
      rw [h.2.2 js' m2 h1 hy, sgn_inj (j := k) (k := k') (by omega) (by omega) (by rw [hs, h2])]

theorem PlayInv.start (ts : List Flow.Tr) (F : Nat) (wish : ByteArray) : PlayInv ts F wish 0 F [] := by
  refine ⟨rfl, by simp, ?_⟩
  intro js m' h _
  have : js = [] := by simpa [Flow.signs] using h
  exact this.symm
theorem goes_prefix {ts : List Flow.Tr} {m m' : Nat} {a b : List Nat} (h : Flow.goes ts m (a ++ b) = some m') : ∃ m1, Flow.goes ts m a = some m1 ∧ Flow.goes ts m1 b = some m' := by
  rw [Flow.goes_append] at h
  cases hx : Flow.goes ts m a with
  | none => rw [hx] at h; cases h
  | some m1 => rw [hx] at h; exact ⟨m1, rfl, h⟩
theorem playPost_over {s wish : ByteArray} {w W : World} {i m k : Nat} {ks : List Nat} (hi : i < wish.size) (hi6 : i < 65536) (hm : m < 65536) (h : PlayInv (Flow.readTr s) (Flow.first s) wish i m ks) (h' : PlayInv (Flow.readTr s) (Flow.first s) wish (i + 1) m ks) (hs : Flow.spillM (Flow.readTr s) m k) (hb : Below w.heap.size w W) :
    PlayPost s wish w (.returned (.tuple #[.int .i64 m, .string (Flow.runOf ks), .bool true])) W := by
  refine ⟨m, ks, true, rfl, h.1, by have := h.2.1; omega, hm, fun _ => ⟨k, hs⟩, ?_, hb⟩
  intro js m' hj _ hg
  have hsj := runOf_iff.2 hj
  have hlj : js.length = wish.size := by have := congrArg List.length hsj; simpa [Flow.signs] using this
  rw [← List.take_append_drop (i + 1) js] at hg
  obtain ⟨m1, h1, _⟩ := goes_prefix hg
  have e := h'.2.2 (js.take (i + 1)) m1 (by rw [← hsj]; simp [Flow.signs, List.map_take]) h1
  have := congrArg List.length e
  have h2 := h.2.1
  simp at this
  omega
theorem playPost_end {s wish : ByteArray} {w W : World} {i m : Nat} {ks : List Nat} (hi : i ≤ wish.size) (hi6 : i ≤ 65536) (hend : ¬ (i < wish.size ∧ i < 65536)) (hm : m < 65536) (h : PlayInv (Flow.readTr s) (Flow.first s) wish i m ks) (hb : Below w.heap.size w W) :
    PlayPost s wish w (.returned (.tuple #[.int .i64 m, .string (Flow.runOf ks), .bool false])) W := by
  refine ⟨m, ks, false, rfl, h.1, by have := h.2.1; omega, hm, (fun h => by cases h), ?_, hb⟩
  intro js m' hj h6 hg
  have hsj := runOf_iff.2 hj
  have e : i = wish.size := by omega
  refine ⟨h.2.2 js m' ?_ hg, rfl⟩
  rw [hsj, List.take_of_length_le]
  simp; omega

set_option maxRecDepth 400000 in
set_option maxHeartbeats 4000000 in
theorem playR_any (s wish : ByteArray) (w : World) (hs : s.size ≤ maxLen) (hw : wish.size ≤ maxLen) (hc : Flow.checkErr s = 0) : Calls Try.prog 13 #[.string s, .string wish] w (PlayPost s wish w) := by
  have c1 := fun w => readR_ok s w hs hc
  obtain ⟨hok, hsz, hp0, hp1⟩ := checkErr_ok hc
  have q0 := Flow.isPl_iff.1 hp0
  obtain ⟨hf, hfe⟩ := first_lt hp0
  have hts := readTr_small s
  have hlen := readTr_size s
  unfold maxLen at hw
  have hpow := pow_small' (Flow.bt s 0 - 65) (by omega)
  have HF : Hid (((2 ^ (Flow.bt s 0 - 65) : Nat) : Int) = (Flow.first s : Int)) := rfl
  have HPW : Hid (wrap64 (2 ^ (Flow.bt s 0 - 65)) = (Flow.first s : Int)) := hpow
  obtain ⟨b0, e0⟩ : ∃ b, b = Flow.bt s 0 - 65 := ⟨_, rfl⟩
  rw [← e0] at c1 HPW HF
  have hb0 : b0 ≤ 15 := by omega
  have hmin : min b0 64 = b0 := by omega
  have HM : Hid (min b0 64 = b0) := hmin
  clear hok hsz hp0 hp1 q0 hfe hpow e0 hmin
  obtain ⟨F, eF⟩ : ∃ F, F = Flow.first s := ⟨_, rfl⟩
  rw [← eF] at hf HPW HF
  obtain ⟨ts, ets⟩ : ∃ ts, ts = Flow.readTr s := ⟨_, rfl⟩
  rw [← ets] at c1 hts hlen
  have EQ : Hid (F = Flow.first s ∧ ts = Flow.readTr s) := ⟨eF, ets⟩
  have HT : Hid (∀ t ∈ ts, Flow.Small t) := hts
  clear eF ets hts
  go_enter Try.func13, Try.ntmps13
  go_wp2_with (go_at_call 22; refine (c1 _).mono ?_; rintro e w1 ⟨a, cap, at', rfl, hb1, ho1⟩; have HB1 : Hid _ := hb1; have HO1 : Hid (w1.ownsRow _ 60 3 (.slice a ts.length cap) ts.length (cellsR ts)) := ho1; clear hb1 ho1)
  have HB2 : Hid (Below w.heap.size w (w1.alloc (.cells (netC (b0 : Int) ((Flow.bt s 1 - 65 : Nat) : Int) a ts.length cap) 48))) := HB1.out.alloc HB1.out.size _
  have K0 : Hid (Blk (w1.alloc (.cells (netC (b0 : Int) ((Flow.bt s 1 - 65 : Nat) : Int) a ts.length cap) 48)) w1.heap.size (netC (b0 : Int) ((Flow.bt s 1 - 65 : Nat) : Int) a ts.length cap) 48) := Blk.new _ _ _
  have HO2 : Hid ((w1.alloc (.cells (netC (b0 : Int) ((Flow.bt s 1 - 65 : Nat) : Int) a ts.length cap) 48)).ownsRow w.heap.size 60 3 (.slice a ts.length cap) ts.length (cellsR ts)) := HO1.out.alloc _
  generalize w1.alloc (.cells (netC (b0 : Int) ((Flow.bt s 1 - 65 : Nat) : Int) a ts.length cap) 48) = W at HB2 K0 HO2 ⊢
  obtain ⟨X, hX⟩ : ∃ X, X = w1.heap.size := ⟨_, rfl⟩
  have K1 : Hid (Blk W X (netC (b0 : Int) ((Flow.bt s 1 - 65 : Nat) : Int) a ts.length cap) 48) := by rw [hX]; exact K0.out
  rw [← hX]
  clear hX K0 HB1 HO1 c1
  go_loopg [10, 11, 12] (wish.size + 1) (fun gi m' r' i' wr => ∃ (i m : Nat) (ks : List Nat), wish.size + 1 - i ≤ gi ∧ i ≤ wish.size ∧ i ≤ 65536 ∧ m < 65536 ∧ m' = .int .i64 m ∧ r' = .string (Flow.runOf ks) ∧ i' = .int .i64 i ∧ Hid (Below W.heap.size W wr) ∧ Hid (PlayInv ts F wish i m ks))
  case atStart => exact ⟨0, F, [], by omega, by omega, by omega, hf, by rw [HPW.out], rfl, rfl, Below.refl _ _, PlayInv.start ts F wish⟩
  case round =>
    obtain ⟨i, m, ks, hgi, hil, hi6, hm, rfl, rfl, rfl, HW, PI⟩ := hrel
    have z0 := K1.out.lt
    have n2 : wr.cell? ⟨X, 2, none⟩ = some (.slice a ts.length cap) := (K1.out.below HW.out z0).cell 2
    have zz : X < wr.heap.size := by have := HW.out.size; omega
    by_cases hlt : i < wish.size ∧ i < 65536
    · obtain ⟨hl1, hl2⟩ := hlt
      have HB : Hid (wish[i].toNat = Flow.bt wish i) := Flow.bt_at hl1
      have hb256 : wish[i].toNat < 256 := UInt8.toNat_lt _
      have hnl := num_lt (wish[i].toNat)
      by_cases hkn : Flow.num (wish[i].toNat) < ts.length
      · obtain ⟨t, ht⟩ : ∃ t, ts[Flow.num (wish[i].toNat)]? = some t := ⟨_, List.getElem?_eq_getElem hkn⟩
        obtain ⟨s1, s2, s3⟩ := HT.out t (List.mem_of_getElem? ht)
        have OW2 := owns_below HO2.out HW.out (Nat.le_refl _)
        obtain ⟨g, cap', hv, _, hg2⟩ := OW2.form (by omega)
        injection hv with hv1 _ hv3
        subst hv1 hv3
        have t0 := OW2.cellAt (Flow.num (wish[i].toNat) * 3) (by omega)
        have t1 := OW2.cellAt (Flow.num (wish[i].toNat) * 3 + 1) (by omega)
        have t2 := OW2.cellAt (Flow.num (wish[i].toNat) * 3 + 1 + 1) (by omega)
        obtain ⟨d0, d1, d2⟩ := cellsR_get ht
        rw [d0] at t0
        rw [d1] at t1
        rw [show Flow.num (wish[i].toNat) * 3 + 1 + 1 = Flow.num (wish[i].toNat) * 3 + 2 from rfl, d2] at t2
        obtain ⟨kk, ek⟩ : ∃ kk, kk = Flow.num (wish[i].toNat) := ⟨_, rfl⟩
        have SG : Hid (Flow.sgn kk = wish[i]) := (num_sgn ek.symm (by omega)).symm
        have cn : ∀ W, Calls Try.prog 28 #[.int .u8 (wish[i].toNat : Int)] W fun e w' => e = .returned (.int .i64 kk) ∧ W = w' := fun W => (number_any _ W hb256).mono fun e w' h => ⟨by rw [ek]; exact h.1, h.2.symm⟩
        rw [← ek] at t0 t1 t2 ht hkn hnl
        have T : Hid (ts[kk]? = some t) := ht
        have hI0 : (0 : Int) ≤ (kk : Int) := by omega
        have hI1 : (kk : Int) < (ts.length : Int) := by omega
        have hg3 : g < wr.heap.size + 1 := by omega
        have hg4 : g < wr.heap.size + 1 + 1 := by omega
        have zz1 : X < wr.heap.size + 1 := by omega
        have zz2 : X < wr.heap.size + 1 + 1 := by omega
        have ce : ∀ W, Calls Try.prog 29 #[.agg (trR t), .int .i64 m] W fun e w' => e = .returned (.bool (Flow.enabled t m)) ∧ w' = W.alloc (.cells (trR t) 60) := fun W => enabled_any t m W hm s2
        clear OW2 d0 d1 d2 ek ht
        by_cases hen : Flow.enabled t m = true
        · have hle := enabled_le hen
          have cs : ∀ W, Calls Try.prog 30 #[.agg (trR t), .int .i64 m] W fun e w' => e = .returned (.bool (Flow.spills t m)) ∧ w' = W.alloc (.cells (trR t) 60) := fun W => spilling_any t m W hm s3 hle
          by_cases hsp : Flow.spills t m = true
          · have SP : Hid (Flow.spillM ts m kk) := ⟨t, T.out, hen, hsp⟩
            have PI2 := PI.out.skip hl1 hlen (fun k h1 h2 => by
              have : k = kk := sgn_inj (by omega) (by omega) (by rw [h1, SG.out])
              rw [this, nextM_at T.out, if_neg]
              unfold Flow.fireErr; rw [if_neg (by rw [hen]; simp), if_pos hsp]; omega)
            have PJ : Hid (PlayInv ts F wish (i + 1) m ks) := PI2
            clear PI2
            go_wp2_with (first | (go_at_call 28; refine (cn _).mono ?_; rintro e w' ⟨rfl, rfl⟩) | (go_at_call 29; refine (ce _).mono ?_; rintro e w' ⟨rfl, rfl⟩) | (go_at_call 30; refine (cs _).mono ?_; rintro e w' ⟨rfl, rfl⟩))
            go_ret3
            have hpi := PI.out
            have hpj := PJ.out
            have hsm := SP.out
            rw [EQ.out.1, EQ.out.2] at hpi hpj
            rw [EQ.out.2] at hsm
            exact playPost_over hl1 hl2 hm hpi hpj hsm (HB2.out.trans ((((HW.out.alloc HW.out.size _).alloc (by have := HW.out.size; simp; omega) _)).mono HB2.out.size))
          · have hsp' : Flow.spills t m = false := by simpa using hsp
            have e : Flow.fireErr t m = 0 := by unfold Flow.fireErr; rw [if_neg (by rw [hen]; simp), if_neg (by rw [hsp']; simp)]
            have A : Hid (Flow.after t m < 65536) := after_lt hm ⟨s1, s2, s3⟩ e
            have PJ : Hid (PlayInv ts F wish (i + 1) (Flow.after t m) (ks ++ [kk])) := PI.out.step hl1 hlen hkn SG.out (by rw [nextM_at T.out, if_pos e])
            have ca : ∀ W, Calls Try.prog 31 #[.agg (trR t), .int .i64 m] W fun e w' => e = .returned (.int .i64 (Flow.after t m)) ∧ w' = W.alloc (.cells (trR t) 60) := fun W => after_any t m W hm s3 hle
            have hx1 : wish.extract i (i + 1) = Flow.runOf [kk] := by rw [extract_one wish i hl1]; show _ = (⟨[Flow.sgn kk].toArray⟩ : ByteArray); rw [SG.out]
            have A1 : Hid (Flow.runOf ks ++ Flow.runOf [kk] = Flow.runOf (ks ++ [kk])) := runOf_append _ _
            have r1 := runOf_size ks
            have r2 := runOf_size [kk]
            simp at r2
            have hkl := PI.out.2.1
            have hsa := fun W : World => run_string_add (P := Try.prog) (w := W) (Flow.runOf ks) (Flow.runOf [kk]) (by omega) (by omega)
            clear hsp e r1 r2 hkl
            go_wp2_with (first | (go_at_call 28; refine (cn _).mono ?_; rintro e w' ⟨rfl, rfl⟩) | (go_at_call 29; refine (ce _).mono ?_; rintro e w' ⟨rfl, rfl⟩) | (go_at_call 30; refine (cs _).mono ?_; rintro e w' ⟨rfl, rfl⟩) | (go_at_call 31; refine (ca _).mono ?_; rintro e w' ⟨rfl, rfl⟩))
            go_roundg (gk - 1)
            case measure => omega
            case rel => exact ⟨i + 1, Flow.after t m, ks ++ [kk], by omega, by omega, by omega, A.out, rfl, by rw [A1.out], by go_num, (((HW.out.alloc HW.out.size _).alloc (by have := HW.out.size; simp; omega) _).alloc (by have := HW.out.size; simp; omega) _), PJ⟩
        · have hen' : Flow.enabled t m = false := by simpa using hen
          have PJ : Hid (PlayInv ts F wish (i + 1) m ks) := PI.out.skip hl1 hlen (fun k h1 h2 => by
            have : k = kk := sgn_inj (by omega) (by omega) (by rw [h1, SG.out])
            rw [this, nextM_at T.out, if_neg]
            unfold Flow.fireErr; rw [if_pos hen']; omega)
          clear hen
          go_wp2_with (first | (go_at_call 28; refine (cn _).mono ?_; rintro e w' ⟨rfl, rfl⟩) | (go_at_call 29; refine (ce _).mono ?_; rintro e w' ⟨rfl, rfl⟩))
          go_roundg (gk - 1)
          case measure => omega
          case rel => exact ⟨i + 1, m, ks, by omega, by omega, by omega, hm, rfl, rfl, by go_num, HW.out.alloc HW.out.size _, PJ⟩
      · have PJ : Hid (PlayInv ts F wish (i + 1) m ks) := PI.out.skip hl1 hlen (fun k h1 h2 => by
          have := (sgn_num (k := k) (by omega)).2
          rw [h1] at this
          omega)
        have cn : ∀ W, Calls Try.prog 28 #[.int .u8 (wish[i].toNat : Int)] W fun e w' => e = .returned (.int .i64 (Flow.num wish[i].toNat)) ∧ W = w' := fun W => (number_any _ W hb256).mono fun e w' h => ⟨h.1, h.2.symm⟩
        go_wp2_with (go_at_call 28; refine (cn _).mono ?_; rintro e w' ⟨rfl, rfl⟩)
        go_roundg (gk - 1)
        case measure => omega
        case rel => exact ⟨i + 1, m, ks, by omega, by omega, by omega, hm, rfl, rfl, by go_num, HW, PJ⟩
    · by_cases hl1 : i < wish.size
      · have hl2 : ¬ i < 65536 := fun h => hlt ⟨hl1, h⟩
        have E : Hid _ := hlt
        clear hlt
        go_wp2
        go_ret3
        have hpi := PI.out
        rw [EQ.out.1, EQ.out.2] at hpi
        exact playPost_end hil hi6 E.out hm hpi (HB2.out.trans (HW.out.mono HB2.out.size))
      · have E : Hid _ := hlt
        clear hlt
        go_wp2
        go_ret3
        have hpi := PI.out
        rw [EQ.out.1, EQ.out.2] at hpi
        exact playPost_end hil hi6 E.out hm hpi (HB2.out.trans (HW.out.mono HB2.out.size))
end Go.Proofs.Ytdlldljgogbiaab
