/-
  The reference's steps of a run.
-/
import Derived.Test.YtdlldljgogbiaabGreatRun
namespace Go.Proofs.YtdlldljgogbiaabGreat
open Go.RowKit
set_option linter.unusedVariables false
set_option maxRecDepth 20000

set_option maxHeartbeats 1000000 in
theorem stepsR_any (ts : List Flow.Tr) (x y : Int) (a : Option Addr) (cap m base : Nat) (run : ByteArray) (w : World) (hr : run.size ≤ maxLen) (hm : m < 65536) (hts : ∀ t ∈ ts, Flow.Small t) (hlen : ts.length ≤ 16)
    (hown : w.ownsRow base 108 3 (.slice a ts.length cap) ts.length (cellsR ts)) :
    Calls Tryz.prog 37 #[.agg #[.int .i64 x, .int .i64 y, .slice a ts.length cap], .int .i64 m, .string run] w fun e w' =>
      e = .returned (.tuple #[.int .i64 (Flow.steps ts m run 0).1, .int .i64 (Flow.steps ts m run 0).2.1, .int .i64 (Flow.steps ts m run 0).2.2]) ∧ Below w.heap.size w w' := by
  unfold maxLen at hr
  have OW : Hid (w.ownsRow base 108 3 (.slice a ts.length cap) ts.length (cellsR ts)) := hown
  clear hown
  go_enter Tryz.func37, Tryz.ntmps37
  go_wp2
  go_loopw [1, 9] (fun m' i' wr => ∃ (k q : Nat), k ≤ run.size ∧ q < 65536 ∧ i' = .int .i64 k ∧ m' = .int .i64 q ∧ Blk wr w.heap.size #[.int .i64 x, .int .i64 y, .slice a ts.length cap] 64 ∧ Below w.heap.size w wr ∧ Hid (Flow.steps ts q run k = Flow.steps ts m run 0)) (fun _ i' _ => run.size - (intOf i').toNat)
  case atStart => exact ⟨0, m, by omega, hm, rfl, rfl, Blk.new _ _ _, (Below.refl _ _).alloc (Nat.le_refl _) _, rfl⟩
  case round =>
    obtain ⟨k, q, hk, hq, rfl, rfl, hb0, hbw, HP⟩ := hrel
    have x2 : wr.cell? ⟨w.heap.size, 2, none⟩ = some (.slice a ts.length cap) := hb0.cell 2
    have z0 := hb0.lt
    have HW : Hid _ := hbw
    have B0 : Hid (Blk wr w.heap.size #[.int .i64 x, .int .i64 y, .slice a ts.length cap] 64) := hb0
    clear hbw hb0
    by_cases hlt : k < run.size
    · have HB : Hid (run[k].toNat = Flow.bt run k) := Flow.bt_at hlt
      have hb256 : run[k].toNat < 256 := UInt8.toNat_lt _
      have hnl := num_lt (run[k].toNat)
      by_cases hkn : Flow.num (run[k].toNat) < ts.length
      · obtain ⟨t, ht⟩ : ∃ t, ts[Flow.num (run[k].toNat)]? = some t := ⟨_, List.getElem?_eq_getElem hkn⟩
        have hsm := hts t (List.mem_of_getElem? ht)
        obtain ⟨s1, s2, s3⟩ := hsm
        have OW2 := owns_below OW.out HW.out (Nat.le_refl _)
        obtain ⟨g, cap', hv, _, hg2⟩ := OW.out.form (by omega)
        injection hv with hv1 _ hv3
        subst hv1 hv3
        have c0 := OW2.cellAt (Flow.num (run[k].toNat) * 3) (by omega)
        have c1 := OW2.cellAt (Flow.num (run[k].toNat) * 3 + 1) (by omega)
        have c2 := OW2.cellAt (Flow.num (run[k].toNat) * 3 + 1 + 1) (by omega)
        obtain ⟨d0, d1, d2⟩ := cellsR_get ht
        rw [d0] at c0
        rw [d1] at c1
        rw [show Flow.num (run[k].toNat) * 3 + 1 + 1 = Flow.num (run[k].toNat) * 3 + 2 from rfl, d2] at c2
        have hg3 : g < wr.heap.size := by omega
        clear OW2 d0 d1 d2
        have hI0 : (0 : Int) ≤ (Flow.num (run[k].toNat) : Int) := by omega
        have hI1 : (Flow.num (run[k].toNat) : Int) < (ts.length : Int) := by omega
        have T : Hid _ := ht
        clear ht
        have HT : Hid (ts[Flow.num (Flow.bt run k)]? = some t) := by show _ = _; rw [← HB.out]; exact T.out
        by_cases hen : Flow.enabled t q = true
        · have hle := enabled_le hen
          by_cases hsp : Flow.spills t q = true
          · have R : Hid (Flow.steps ts q run k = (0, 6, k)) := by
              have e : Flow.fireErr t q = 6 := by unfold Flow.fireErr; rw [if_neg (by rw [hen]; simp), if_pos hsp]
              show _ = _; rw [Flow.steps_bad hlt HT.out (by omega), e]
            go_wp2_with (first | (go_at_call 50; refine (number_any _ _ hb256).mono ?_; rintro e w' ⟨rfl, hw⟩; obtain rfl := hw.symm) | (go_at_call 68; refine (enabled_any t q _ hq s2).mono ?_; rintro e w' ⟨rfl, rfl⟩) | (go_at_call 69; refine (spilling_any t q _ hq s3 hle).mono ?_; rintro e w' ⟨rfl, rfl⟩))
            go_ret3
            exact ⟨by rw [← HP.out, R.out]; rfl, ((HW.out.alloc (by omega) _).alloc (by simp; omega) _).alloc (by simp; omega) _⟩
          · have hsp' : Flow.spills t q = false := by simpa using hsp
            clear hsp
            have e : Flow.fireErr t q = 0 := by unfold Flow.fireErr; rw [if_neg (by rw [hen]; simp), if_neg (by rw [hsp']; simp)]
            have A : Hid (Flow.after t q < 65536) := after_lt hq ⟨s1, s2, s3⟩ e
            have R : Hid (Flow.steps ts q run k = Flow.steps ts (Flow.after t q) run (k + 1)) := Flow.steps_go hlt HT.out e
            clear e
            go_wp2_with (first | (go_at_call 50; refine (number_any _ _ hb256).mono ?_; rintro e w' ⟨rfl, hw⟩; obtain rfl := hw.symm) | (go_at_call 68; refine (enabled_any t q _ hq s2).mono ?_; rintro e w' ⟨rfl, rfl⟩) | (go_at_call 69; refine (spilling_any t q _ hq s3 hle).mono ?_; rintro e w' ⟨rfl, rfl⟩) | (go_at_call 70; refine (after_any t q _ hq s3 hle).mono ?_; rintro e w' ⟨rfl, rfl⟩))
            go_roundw
            case rel => exact ⟨k + 1, Flow.after t q, by omega, A.out, by go_num, rfl, (((B0.out.alloc _).alloc _).alloc _).alloc _, (((HW.out.alloc (by omega) _).alloc (by simp; omega) _).alloc (by simp; omega) _).alloc (by simp; omega) _, by show _ = _; rw [← HP.out, R.out]⟩
            case measure => simp [intOf]; omega
        · have hen' : Flow.enabled t q = false := by simpa using hen
          clear hen
          have R : Hid (Flow.steps ts q run k = (0, 5, k)) := by
            have e : Flow.fireErr t q = 5 := by unfold Flow.fireErr; rw [if_pos hen']
            show _ = _; rw [Flow.steps_bad hlt HT.out (by omega), e]
          go_wp2_with (first | (go_at_call 50; refine (number_any _ _ hb256).mono ?_; rintro e w' ⟨rfl, hw⟩; obtain rfl := hw.symm) | (go_at_call 68; refine (enabled_any t q _ hq s2).mono ?_; rintro e w' ⟨rfl, rfl⟩))
          go_ret3
          exact ⟨by rw [← HP.out, R.out]; rfl, (HW.out.alloc (by omega) _).alloc (by simp; omega) _⟩
      · have R : Hid (Flow.steps ts q run k = (0, 4, k)) := Flow.steps_none hlt (by rw [← HB.out]; omega)
        go_wp2_with (go_at_call 50; refine (number_any _ _ hb256).mono ?_; rintro e w' ⟨rfl, hw⟩; obtain rfl := hw.symm)
        go_ret3
        exact ⟨by rw [← HP.out, R.out]; rfl, HW.out⟩
    · go_wp2
      go_ret3
      exact ⟨by rw [← HP.out, Flow.steps_end hlt]; rfl, HW.out⟩
end Go.Proofs.YtdlldljgogbiaabGreat
