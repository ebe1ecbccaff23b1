/-
  The runs that the program's search tells: signOf, runTo, runAndStep; has.
-/
import Derived.Test.YtdlldljgogbiaabGreatExpF
import Derived.Test.YtdlldljgogbiaabGreatRunR
namespace Go.Proofs.YtdlldljgogbiaabGreat
open Go.RowKit
set_option linter.unusedVariables false
set_option maxRecDepth 40000

theorem signOf_any (k : Nat) (w : World) (hk : k < 16) : Calls Tryz.prog 75 #[.int .i64 k] w fun e w' => e = .returned (.int .u8 ((Flow.sgn k).toNat : Int)) ∧ w = w' := by
  have R : Hid ((Flow.sgn k).toNat = (if k < 10 then 48 + k else 55 + k)) := (sgn_num hk).1
  by_cases h : k < 10
  · go_enter Tryz.func75, Tryz.ntmps75
    go_wp2
    go_ret
    exact ⟨ret_int (by rw [R.out, if_pos h]; omega), rfl⟩
  · go_enter Tryz.func75, Tryz.ntmps75
    go_wp2
    go_ret
    exact ⟨ret_int (by rw [R.out, if_neg h]; omega), rfl⟩

theorem has_any (l : List Flow.Node) (base B m : Nat) (w : World) (hm : m < 65536) (h : SeaIn w base B l) : Calls Tryz.prog 88 #[.pointer (some ⟨B, 0, none⟩), .int .i64 m] w fun e w' => e = .returned (.bool (decide (0 ≤ atI l m))) ∧ w = w' := by
  obtain ⟨aV, cV, A, x0, x1, zB, zA, _, ha, _⟩ := h.look
  have xa := ha m hm
  have hI0 : (0 : Int) ≤ (m : Int) := by omega
  have hI1 : (m : Int) < 65536 := by omega
  have d1 : decide ((0 : Int) ≤ (m : Int)) = true := decide_eq_true (by omega)
  have d2 : decide ((m : Int) < 65536) = true := decide_eq_true (by omega)
  obtain ⟨b, hb⟩ : ∃ b, b = decide (0 ≤ atI l m) := ⟨_, rfl⟩
  rw [← hb] at xa ⊢
  clear ha h hm hb
  go_enter Tryz.func88, Tryz.ntmps88
  go_wp2
  go_ret
  exact ⟨rfl, rfl⟩

/-- back's bytes -/
def Flow.rsigns (ks : List Nat) : List UInt8 := Flow.signs ks.reverse
set_option maxHeartbeats 2000000 in
theorem runTo_any (ts : List Flow.Tr) (m : Nat) (l : List Flow.Node) (base B j P : Nat) (w : World) (hu : Flow.Upto ts m l P) (hj : j < l.length) (h : SeaIn w base B l) :
    Calls Tryz.prog 43 #[.pointer (some ⟨B, 0, none⟩), .int .i64 j] w fun e w' => ∃ a cap, e = .returned (.slice a (Flow.signs (Flow.key l j)).length cap) ∧ w'.ownsRow w.heap.size 5 1 (.slice a (Flow.signs (Flow.key l j)).length cap) (Flow.signs (Flow.key l j)).length (cellsB (Flow.signs (Flow.key l j))) ∧ Below w.heap.size w w' := by
  obtain ⟨i0, hi, hz0, hz1, hz2⟩ := info_parts Tryz.infoB
  have h65 := hu.size
  have hkl := Flow.key_len hu j hj
  have U : Hid (Flow.Upto ts m l P) := hu
  have IN : Hid (SeaIn w base B l) := h
  have HJ : Hid (j < l.length) := hj
  clear hu h
  go_enter Tryz.func43, Tryz.ntmps43
  go_wp2
  go_loopw [1, 5] (fun i' s' wr => ∃ (p : Nat) (ks : List Nat) (a : Option Addr) (cap : Nat), p < l.length ∧ i' = .int .i64 p ∧ s' = .slice a ks.length cap ∧ wr.ownsRow w.heap.size 5 1 (.slice a ks.length cap) ks.length (cellsB (Flow.rsigns ks)) ∧ Below w.heap.size w wr ∧ Hid (Flow.key l p ++ ks = Flow.key l j)) (fun i' _ _ => (intOf i').toNat)
  case atStart => exact ⟨j, [], none, 0, hj, rfl, rfl, World.ownsRow_nil _ _ _ _, Below.refl _ _, by show _ = _; simp⟩
  case round =>
    obtain ⟨p, ks, a, cap, hp, rfl, rfl, hown, hbw, HK⟩ := hrel
    have HO : Hid (wr.ownsRow w.heap.size 5 1 (.slice a ks.length cap) ks.length (cellsB (Flow.rsigns ks))) := hown
    have HW : Hid _ := hbw
    have hwb := hbw.size
    obtain ⟨aV, cV, A, x0, x1, zB, zA, _, _, hno⟩ := (IN.out.below hbw).look
    have hn := List.getElem?_eq_getElem hp
    obtain ⟨gV, rfl, l1, e0, e1, e2⟩ := hno p _ hn
    have hks : ks.length ≤ 65536 := by
      have := congrArg List.length HK.out
      simp at this
      omega
    have hI0 : (0 : Int) ≤ (p : Int) := by omega
    have hI1 : (p : Int) < (l.length : Int) := by omega
    clear hown hbw hno x1 zA
    by_cases h0 : p = 0
    · subst h0
      have K := HK.out
      rw [Flow.key_zero U.out] at K
      simp at K
      subst K
      clear hn e0 e1 e2 HK
      go_wp2
      clear x0 zB l1 hI1
      obtain ⟨wo, rfl⟩ : ∃ wo : World, wo = wr := ⟨_, rfl⟩
      go_loopw [6, 7] (fun s' i' wr => ∃ (c : Nat) (a' : Option Addr) (cap' : Nat), c ≤ (Flow.key l j).length ∧ i' = .int .i64 (((Flow.key l j).length : Int) - 1 - c) ∧ s' = .slice a' c cap' ∧ wr.ownsRow wo.heap.size 5 1 (.slice a' c cap') c (cellsB (Flow.signs ((Flow.key l j).take c))) ∧ Below wo.heap.size wo wr) (fun _ i' _ => ((intOf i') + 1).toNat)
      case atStart => exact ⟨0, none, 0, by omega, by simp, rfl, World.ownsRow_nil _ _ _ _, Below.refl _ _⟩
      case round =>
        obtain ⟨c, a', cap', hc, rfl, rfl, hown', hbw'⟩ := hrel
        have O2 : Hid (wr.ownsRow wo.heap.size 5 1 (.slice a' c cap') c (cellsB (Flow.signs ((Flow.key l j).take c)))) := hown'
        have BW : Hid _ := hbw'
        have hwb' := hbw'.size
        have KL : Hid (c ≤ (Flow.key l j).length) := hc
        obtain ⟨n, hn⟩ : ∃ n, n = (Flow.key l j).length := ⟨_, rfl⟩
        rw [← hn] at hks hc ⊢
        by_cases hlt : c < n
        · obtain ⟨x, hx⟩ : ∃ x, (Flow.key l j)[c]? = some x := ⟨_, List.getElem?_eq_getElem (by omega)⟩
          have bk := owns_below HO.out hbw' (Nat.le_refl _)
          rw [← hn] at bk
          obtain ⟨gB, cB, hv, _, hg2⟩ := bk.form (by omega)
          injection hv with hv1 _ hv3
          subst hv1 hv3
          have b0 := bk.cellAt (n - 1 - c) (by omega)
          have hget : (cellsB (Flow.rsigns (Flow.key l j)))[n - 1 - c]? = some (.int .u8 ((Flow.sgn x).toNat : Int)) := by
            have hlen2 : n - 1 - c < (Flow.key l j).reverse.length := by simp; omega
            have : (Flow.key l j).reverse[n - 1 - c]? = some x := by
              rw [List.getElem?_reverse (by omega)]
              have e : (Flow.key l j).length - 1 - (n - 1 - c) = c := by omega
              rw [e]; exact hx
            unfold cellsB Flow.rsigns Flow.signs
            rw [List.getElem?_map, List.getElem?_map, this]; rfl
          rw [hget] at b0
          have ei : ((n : Int) - 1 - c) = ((n - 1 - c : Nat) : Int) := by omega
          have S : Hid (Flow.signs ((Flow.key l j).take (c + 1)) = Flow.signs ((Flow.key l j).take c) ++ [Flow.sgn x]) := by
            show _ = _
            rw [List.take_add_one, hx, signs_append]; rfl
          have NL : Hid (n = (Flow.key l j).length) := hn
          have hJ0 : (0 : Int) ≤ ((n - 1 - c : Nat) : Int) := by omega
          have hJ1 : ((n - 1 - c : Nat) : Int) < (n : Int) := by omega
          obtain ⟨r, hr⟩ : ∃ r, r = n - 1 - c := ⟨_, rfl⟩
          rw [ei]
          rw [← hr] at b0 hJ0 hJ1 ⊢
          have HR : Hid (r = n - 1 - c ∧ c < n) := ⟨hr, hlt⟩
          clear hn bk hx hget hown' hbw' ei hr
          go_wp2_with (first | (at_builtin; go_must (refine wpList_append_lies _ rfl _ _ 82 rfl wo.heap.size 5 i0 (.int .u8 0) 1 1 Tryz.underlying82 hi hz0 hz1 hz2 rfl (by decide) (.slice a' c cap') _ _ rfl (O2.out.alloc _) ⟨wr.heap.size, 0, none⟩ 1 1 [.int .u8 ((Flow.sgn x).toNat : Int)] rfl rfl (cell_one_new _ _ _) (fun x hx => by simp at hx; rcases hx with rfl; rfl) (by decide) (by unfold maxLen; omega) (by omega) (by simp; omega) _ rfl ?_; intro g1 c1 w1 own1 gr1 at1 lt1; have O3 : Hid (w1.ownsRow wo.heap.size 5 1 (.slice (some ⟨g1, 0, none⟩) (c + 1) c1) (c + 1) (cellsB (Flow.signs ((Flow.key l j).take c)) ++ [.int .u8 ((Flow.sgn x).toNat : Int)])) := own1; have B3 : Hid (Below wo.heap.size wo w1) := (BW.out.alloc hwb' _).grown gr1 (by simp; omega) (fun i hi => (O2.out.lt _ hi).1); clear gr1 own1 at1 lt1)))
          go_roundw
          case rel =>
            have hr := HR.out
            refine ⟨c + 1, by omega, by omega, some ⟨g1, 0, none⟩, c1, ⟨rfl, rfl, rfl⟩, ?_, B3.out⟩
            rw [S.out, cellsB_snoc]
            exact O3.out
          case measure => simp [intOf]; omega
        · obtain rfl : c = n := by omega
          have ei : ((c : Int) - 1 - c) = -1 := by omega
          have E : Hid (Flow.signs ((Flow.key l j).take c) = Flow.signs (Flow.key l j)) := by
            show _ = _
            rw [List.take_of_length_le (by omega)]
          have L : Hid (c = (Flow.signs (Flow.key l j)).length) := by show _ = _; rw [signs_len]; exact hn
          rw [ei]
          clear hn hown' hbw' ei
          go_wp2
          go_ret
          have o := O2.out
          rw [E.out] at o
          refine ⟨a', cap', by rw [← L.out]; rfl, ?_, HW.out.trans (BW.out.mono hwb)⟩
          rw [← L.out]
          exact owns_base o hwb
    · obtain ⟨q, k, f1, f2, f3, f4, _⟩ := U.out.back p _ hn h0
      have K : Hid (Flow.key l q ++ (k :: ks) = Flow.key l j) := by
        show _ = _
        rw [← HK.out, Flow.key_step U.out hn h0 f1 f2]; simp
      rw [f1] at e1
      rw [f2] at e2
      simp only [Int.toNat_natCast] at e1 e2
      have c1 : ∀ w, Calls Tryz.prog 75 #[.int .i64 k] w fun e w' => e = .returned (.int .u8 ((Flow.sgn k).toNat : Int)) ∧ w = w' := fun w => signOf_any k w f3
      have F1 : Hid (l[p].frm = (q : Int)) := f1
      clear hn f1 f2 HK e0
      have S : Hid (cellsB (Flow.rsigns (k :: ks)) = cellsB (Flow.rsigns ks) ++ [.int .u8 ((Flow.sgn k).toNat : Int)]) := by
        show _ = _
        unfold Flow.rsigns
        rw [List.reverse_cons, signs_append, show Flow.signs [k] = [Flow.sgn k] from rfl, cellsB_snoc]
      go_wp2_with (first | (go_at_call 75; refine (c1 _).mono ?_; rintro e w' ⟨rfl, rfl⟩) | (at_builtin; go_must (refine wpList_append_lies _ rfl _ _ 82 rfl w.heap.size 5 i0 (.int .u8 0) 1 1 Tryz.underlying82 hi hz0 hz1 hz2 rfl (by decide) (.slice a ks.length cap) _ _ rfl (HO.out.alloc _) ⟨wr.heap.size, 0, none⟩ 1 1 [.int .u8 ((Flow.sgn k).toNat : Int)] rfl rfl (cell_one_new _ _ _) (fun x hx => by simp at hx; rcases hx with rfl; rfl) (by decide) (by unfold maxLen; omega) (by omega) (by simp; omega) _ rfl ?_; intro g1 c1 w1 own1 gr1 at1 lt1; have O3 : Hid (w1.ownsRow w.heap.size 5 1 (.slice (some ⟨g1, 0, none⟩) (ks.length + 1) c1) (ks.length + 1) (cellsB (Flow.rsigns ks) ++ [.int .u8 ((Flow.sgn k).toNat : Int)])) := own1; have B3 : Hid (Below w.heap.size w w1) := (HW.out.alloc hwb _).grown gr1 (by simp; omega) (fun i hi => (HO.out.lt _ hi).1); have LK := (IN.out.below B3.out).look; clear gr1 own1 at1 lt1; obtain ⟨aV2, cV2, A2, y0, _, yB, _, _, _, hno2⟩ := LK; obtain ⟨gV2, hgV, m1, _, e12, _⟩ := hno2 p _ (List.getElem?_eq_getElem hp); subst hgV; rw [F1.out] at e12; simp only [Int.toNat_natCast] at e12; clear hno2)))
      go_roundw
      case rel => exact ⟨q, k :: ks, some ⟨g1, 0, none⟩, c1, by omega, rfl, by simp, by rw [S.out]; simpa using O3.out, B3.out, K⟩
      case measure => simp [intOf]; omega
end Go.Proofs.YtdlldljgogbiaabGreat
