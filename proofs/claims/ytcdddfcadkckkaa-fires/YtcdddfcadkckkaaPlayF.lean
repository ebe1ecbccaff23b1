/-
  The program's run of a net.
-/
import Derived.Test.YtcdddfcadkckkaaRun
namespace Go.Proofs.Ytcdddfcadkckkaa
open Go.RowKit
set_option linter.unusedVariables false

theorem snum_none {c n : Nat} (hn : n ≤ 16) (h : ¬ Flow.num c < n) : Flow.snum c = -1 ∨ (Flow.snum c = (Flow.num c : Int) ∧ (n : Int) ≤ Flow.num c) := by
  unfold Flow.snum; split
  · exact .inl rfl
  · exact .inr ⟨rfl, by omega⟩
theorem snum_some {c n : Nat} (hn : n ≤ 16) (h : Flow.num c < n) : Flow.snum c = (Flow.num c : Int) := by
  unfold Flow.snum; rw [if_neg (by omega)]

set_option maxHeartbeats 1000000 in
theorem playF_any (ts : List Flow.Tr) (x y : Nat) (a : Option Addr) (cap base : Nat) (run : ByteArray) (w : World) (hx : x < 256) (hr : run.size ≤ maxLen) (hts : ∀ t ∈ ts, Flow.Small t) (hlen : ts.length ≤ 16)
    (hown : w.ownsRow base 62 2 (.slice a ts.length cap) ts.length (cellsF ts)) :
    Calls Try.prog 13 #[.agg #[.int .u8 x, .int .u8 y, .slice a ts.length cap], .string run] w fun e w' =>
      e = .returned (.tuple #[.int .i64 (Flow.steps ts (Flow.pbit x) run 0).1, .int .i64 (Flow.steps ts (Flow.pbit x) run 0).2.1, .int .i64 (Flow.steps ts (Flow.pbit x) run 0).2.2]) ∧ Below w.heap.size w w' := by
  unfold maxLen at hr
  have OW : Hid (w.ownsRow base 62 2 (.slice a ts.length cap) ts.length (cellsF ts)) := hown
  clear hown
  have hpb := Flow.pbit_lt x
  go_enter Try.func13, Try.ntmps13
  go_wp2_with (go_at_call 22; refine (placeBit_any x _ hx).mono ?_; rintro e w' ⟨rfl, rfl⟩)
  go_loopw [7, 8] (fun m' i' wr => ∃ (k q : Nat), k ≤ run.size ∧ q < 65536 ∧ i' = .int .i64 k ∧ m' = .int .i64 q ∧ Blk wr w.heap.size #[.int .u8 x, .int .u8 y, .slice a ts.length cap] 36 ∧ Below w.heap.size w wr ∧ Hid (Flow.steps ts q run k = Flow.steps ts (Flow.pbit x) run 0)) (fun _ i' _ => run.size - (intOf i').toNat)
  case atStart => exact ⟨0, Flow.pbit x, by omega, hpb, rfl, rfl, Blk.new _ _ _, (Below.refl _ _).alloc (Nat.le_refl _) _, rfl⟩
  case round =>
    obtain ⟨k, q, hk, hq, rfl, rfl, hb0, hbw, HP⟩ := hrel
    have x2 : wr.cell? ⟨w.heap.size, 2, none⟩ = some (.slice a ts.length cap) := hb0.cell 2
    have z0 := hb0.lt
    have HW : Hid _ := hbw
    have B0 : Hid (Blk wr w.heap.size #[.int .u8 x, .int .u8 y, .slice a ts.length cap] 36) := hb0
    clear hbw hb0
    by_cases hlt : k < run.size
    · have HB : Hid (run[k].toNat = Flow.bt run k) := Flow.bt_at hlt
      have hb256 : run[k].toNat < 256 := UInt8.toNat_lt _
      have hnl := num_lt (run[k].toNat)
      by_cases hkn : Flow.num (run[k].toNat) < ts.length
      · obtain ⟨t, ht⟩ : ∃ t, ts[Flow.num (run[k].toNat)]? = some t := ⟨_, List.getElem?_eq_getElem hkn⟩
        obtain ⟨s1, s2, s3⟩ := hts t (List.mem_of_getElem? ht)
        have OW2 := owns_below OW.out HW.out (Nat.le_refl _)
        obtain ⟨g, cap', hv, _, hg2⟩ := OW.out.form (by omega)
        injection hv with hv1 _ hv3
        subst hv1 hv3
        have c0 := OW2.cellAt (Flow.num (run[k].toNat) * 2) (by omega)
        have c1 := OW2.cellAt (Flow.num (run[k].toNat) * 2 + 1) (by omega)
        obtain ⟨d0, d1⟩ := cellsF_get ht
        rw [d0] at c0
        rw [d1] at c1
        have hg3 : g < wr.heap.size := by omega
        clear OW2 d0 d1
        have hI0 : (0 : Int) ≤ (Flow.num (run[k].toNat) : Int) := by omega
        have hI1 : (Flow.num (run[k].toNat) : Int) < (ts.length : Int) := by omega
        have HT : Hid (ts[Flow.num (Flow.bt run k)]? = some t) := by show _ = _; rw [← HB.out]; exact ht
        clear ht
        have cs : ∀ w, Calls Try.prog 23 #[.int .u8 (run[k].toNat : Int)] w fun e w' => e = .returned (.int .i64 (Flow.num run[k].toNat : Int)) ∧ w = w' := fun w => by
          have := signNumber_any _ w hb256
          rw [snum_some hlen hkn] at this
          exact this.mono fun e w' h => ⟨h.1, h.2.symm⟩
        by_cases he : Flow.fireErr t q = 0
        · have A : Hid (Flow.after t q < 65536) := after_lt hq ⟨s1, s2, s3⟩ he
          have R : Hid (Flow.steps ts q run k = Flow.steps ts (Flow.after t q) run (k + 1)) := Flow.steps_go hlt HT.out he
          have cf : ∀ w, Calls Try.prog 24 #[.agg (trF t), .int .i64 q] w fun e w' => e = .returned (.tuple #[.int .i64 (Flow.after t q), .int .i64 0]) ∧ w' = w.alloc (.cells (trF t) 62) := fun w => by
            have := fireAt_any t q w hq s2 s3
            unfold Flow.fireTo at this
            rw [if_pos he, he] at this
            exact this
          clear he
          go_wp2_with (first | (go_at_call 23; refine (cs _).mono ?_; rintro e w' ⟨rfl, rfl⟩) | (go_at_call 24; refine (cf _).mono ?_; rintro e w' ⟨rfl, rfl⟩))
          go_roundw
          case rel => exact ⟨k + 1, Flow.after t q, by omega, A.out, by go_num, rfl, B0.out.alloc _, HW.out.alloc (by omega) _, by show _ = _; rw [← HP.out, R.out]⟩
          case measure => simp [intOf]; omega
        · have R : Hid (Flow.steps ts q run k = (0, Flow.fireErr t q, k)) := Flow.steps_bad hlt HT.out he
          have cf : ∀ w, Calls Try.prog 24 #[.agg (trF t), .int .i64 q] w fun e w' => e = .returned (.tuple #[.int .i64 (Flow.fireTo t q), .int .i64 (Flow.fireErr t q)]) ∧ w' = w.alloc (.cells (trF t) 62) := fun w => fireAt_any t q w hq s2 s3
          have te : ((Flow.fireErr t q : Int) != 0) = true := by simp; omega
          clear he
          go_wp2_with (first | (go_at_call 23; refine (cs _).mono ?_; rintro e w' ⟨rfl, rfl⟩) | (go_at_call 24; refine (cf _).mono ?_; rintro e w' ⟨rfl, rfl⟩))
          go_ret3
          exact ⟨by rw [← HP.out, R.out]; rfl, HW.out.alloc (by omega) _⟩
      · have R : Hid (Flow.steps ts q run k = (0, 4, k)) := Flow.steps_none hlt (by rw [← HB.out]; omega)
        have cs : ∀ w, Calls Try.prog 23 #[.int .u8 (run[k].toNat : Int)] w fun e w' => e = .returned (.int .i64 (Flow.snum run[k].toNat)) ∧ w = w' := fun w => (signNumber_any _ w hb256).mono fun e w' h => ⟨h.1, h.2.symm⟩
        rcases snum_none hlen hkn with h1 | ⟨h1, h2⟩
        · rw [h1] at cs
          go_wp2_with (go_at_call 23; refine (cs _).mono ?_; rintro e w' ⟨rfl, rfl⟩)
          go_ret3
          exact ⟨by rw [← HP.out, R.out]; rfl, HW.out⟩
        · rw [h1] at cs
          clear h1
          go_wp2_with (go_at_call 23; refine (cs _).mono ?_; rintro e w' ⟨rfl, rfl⟩)
          go_ret3
          exact ⟨by rw [← HP.out, R.out]; rfl, HW.out⟩
    · go_wp2
      go_ret3
      exact ⟨by rw [← HP.out, Flow.steps_end hlt]; rfl, HW.out⟩
end Go.Proofs.Ytcdddfcadkckkaa
