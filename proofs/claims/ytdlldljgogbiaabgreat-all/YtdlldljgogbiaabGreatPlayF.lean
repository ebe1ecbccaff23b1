/-
  The program's run of a net.
-/
import Derived.Test.YtdlldljgogbiaabGreatRun
import Derived.RegionTactic
import Derived.RegionCalls
import Derived.Deep.RegionWith
import Derived.Deep.QuietTactic
import Derived.BigQuiet
namespace Go.Proofs.YtdlldljgogbiaabGreat
open Go.RowKit
set_option linter.unusedVariables false
set_option maxRecDepth 20000

theorem snum_none {c n : Nat} (hn : n ≤ 16) (h : ¬ Flow.num c < n) : Flow.snum c = -1 ∨ (Flow.snum c = (Flow.num c : Int) ∧ (n : Int) ≤ Flow.num c) := by
  unfold Flow.snum; split
  · exact .inl rfl
  · exact .inr ⟨rfl, by omega⟩
theorem snum_some {c n : Nat} (hn : n ≤ 16) (h : Flow.num c < n) : Flow.snum c = (Flow.num c : Int) := by
  unfold Flow.snum; rw [if_neg (by omega)]

/-- the cells of a net, as the program holds it -/
abbrev netF (x y : Nat) (a : Option Addr) (n cap : Nat) : Array Value := #[.int .u8 x, .int .u8 y, .slice a n cap]
/-- transitionOf's answer: -1 where there is none -/
def Flow.tnum (n c : Nat) : Int := if Flow.num c < n then (Flow.num c : Int) else -1
theorem transitionOf_any (x y : Nat) (a : Option Addr) (n cap c : Nat) (w : World) (hc : c < 256) (hn : n ≤ 16) :
    Calls Tryz.prog 46 #[.agg (netF x y a n cap), .int .u8 c] w fun e w' => e = .returned (.int .i64 (Flow.tnum n c)) ∧ w' = w.alloc (.cells (netF x y a n cap) 59) := by
  have hnl := num_lt c
  by_cases h : Flow.num c < n
  · have cs : ∀ w, Calls Tryz.prog 83 #[.int .u8 (c : Int)] w fun e w' => e = .returned (.int .i64 (Flow.num c : Int)) ∧ w = w' := fun w => by
      have := signNumber_any _ w hc
      rw [snum_some hn h] at this
      exact this.mono fun e w' h => ⟨h.1, h.2.symm⟩
    have R : Hid (Flow.tnum n c = (Flow.num c : Int)) := by show _ = _; unfold Flow.tnum; rw [if_pos h]
    go_enter Tryz.func46, Tryz.ntmps46
    go_wp2_with (go_at_call 83; refine (cs _).mono ?_; rintro e w' ⟨rfl, rfl⟩)
    go_ret
    exact ⟨by rw [R.out]; rfl, rfl⟩
  · have R : Hid (Flow.tnum n c = -1) := by show _ = _; unfold Flow.tnum; rw [if_neg h]
    have cs : ∀ w, Calls Tryz.prog 83 #[.int .u8 (c : Int)] w fun e w' => e = .returned (.int .i64 (Flow.snum c)) ∧ w = w' := fun w => (signNumber_any _ w hc).mono fun e w' h => ⟨h.1, h.2.symm⟩
    rcases snum_none hn h with h1 | ⟨h1, h2⟩
    · rw [h1] at cs
      have hn0 : (0 : Int) ≤ (n : Int) := by omega
      clear h1
      go_enter Tryz.func46, Tryz.ntmps46
      go_wp2_with (go_at_call 83; refine (cs _).mono ?_; rintro e w' ⟨rfl, rfl⟩)
      all_goals go_ret
      all_goals exact ⟨by rw [R.out]; rfl, rfl⟩
    · rw [h1] at cs
      clear h1
      go_enter Tryz.func46, Tryz.ntmps46
      go_wp2_with (go_at_call 83; refine (cs _).mono ?_; rintro e w' ⟨rfl, rfl⟩)
      all_goals go_ret
      all_goals exact ⟨by rw [R.out]; rfl, rfl⟩

set_option maxHeartbeats 1000000 in
theorem playF_any (ts : List Flow.Tr) (x y : Nat) (a : Option Addr) (cap base : Nat) (run : ByteArray) (w : World) (hx : x < 256) (hr : run.size ≤ maxLen) (hts : ∀ t ∈ ts, Flow.Small t) (hlen : ts.length ≤ 16)
    (hown : w.ownsRow base 93 3 (.slice a ts.length cap) ts.length (cellsF ts)) :
    Calls Tryz.prog 67 #[.agg #[.int .u8 x, .int .u8 y, .slice a ts.length cap], .string run] w fun e w' =>
      e = .returned (.tuple #[.int .i64 (Flow.steps ts (Flow.pbit x) run 0).1, .int .i64 (Flow.steps ts (Flow.pbit x) run 0).2.1, .int .i64 (Flow.steps ts (Flow.pbit x) run 0).2.2]) ∧ Below w.heap.size w w' := by
  unfold maxLen at hr
  have OW : Hid (w.ownsRow base 93 3 (.slice a ts.length cap) ts.length (cellsF ts)) := hown
  clear hown
  have hpb := Flow.pbit_lt x
  go_enter Tryz.func67, Tryz.ntmps67
  go_wp2_with (go_at_call 47; refine (placeBit_any x _ hx).mono ?_; rintro e w' ⟨rfl, rfl⟩)
  go_loopw [7, 8] (fun m' i' wr => ∃ (k q : Nat), k ≤ run.size ∧ q < 65536 ∧ i' = .int .i64 k ∧ m' = .int .i64 q ∧ Blk wr w.heap.size #[.int .u8 x, .int .u8 y, .slice a ts.length cap] 59 ∧ Below w.heap.size w wr ∧ Hid (Flow.steps ts q run k = Flow.steps ts (Flow.pbit x) run 0)) (fun _ i' _ => run.size - (intOf i').toNat)
  case atStart => exact ⟨0, Flow.pbit x, by omega, hpb, rfl, rfl, Blk.new _ _ _, (Below.refl _ _).alloc (Nat.le_refl _) _, rfl⟩
  case round =>
    obtain ⟨k, q, hk, hq, rfl, rfl, hb0, hbw, HP⟩ := hrel
    have x2 : wr.cell? ⟨w.heap.size, 2, none⟩ = some (.slice a ts.length cap) := hb0.cell 2
    have z0 := hb0.lt
    have HW : Hid _ := hbw
    have B0 : Hid (Blk wr w.heap.size #[.int .u8 x, .int .u8 y, .slice a ts.length cap] 59) := hb0
    clear hbw hb0
    by_cases hlt : k < run.size
    · have HB : Hid (run[k].toNat = Flow.bt run k) := Flow.bt_at hlt
      have hb256 : run[k].toNat < 256 := UInt8.toNat_lt _
      have hnl := num_lt (run[k].toNat)
      by_cases hkn : Flow.num (run[k].toNat) < ts.length
      · obtain ⟨t, ht⟩ : ∃ t, ts[Flow.num (run[k].toNat)]? = some t := ⟨_, List.getElem?_eq_getElem hkn⟩
        obtain ⟨s1, s2, s3⟩ := hts t (List.mem_of_getElem? ht)
        have OW2 := owns_below OW.out HW.out (Nat.le_refl _)
        obtain ⟨g, cap', hv, _, hg2⟩ := OW.out.form (by omega)
        injection hv with hv1 _ hv3
        subst hv1 hv3
        have c0 := OW2.cellAt (Flow.num (run[k].toNat) * 3) (by omega)
        have c1 := OW2.cellAt (Flow.num (run[k].toNat) * 3 + 1) (by omega)
        have c2 := OW2.cellAt (Flow.num (run[k].toNat) * 3 + 2) (by omega)
        obtain ⟨d0, d1, d2⟩ := cellsF_get ht
        rw [d0] at c0
        rw [d1] at c1
        rw [d2] at c2
        have hg3 : g < wr.heap.size := by omega
        clear OW2 d0 d1 d2
        have hI0 : (0 : Int) ≤ (Flow.num (run[k].toNat) : Int) := by omega
        have hI1 : (Flow.num (run[k].toNat) : Int) < (ts.length : Int) := by omega
        have HT : Hid (ts[Flow.num (Flow.bt run k)]? = some t) := by show _ = _; rw [← HB.out]; exact ht
        clear ht
        have cs : ∀ w, Calls Tryz.prog 46 #[.agg (netF x y (some ⟨g, 0, none⟩) ts.length cap), .int .u8 (run[k].toNat : Int)] w fun e w' => e = .returned (.int .i64 (Flow.num run[k].toNat : Int)) ∧ w' = w.alloc (.cells (netF x y (some ⟨g, 0, none⟩) ts.length cap) 59) := fun w => by
          have := transitionOf_any x y (some ⟨g, 0, none⟩) ts.length cap _ w hb256 hlen
          unfold Flow.tnum at this
          rw [if_pos hkn] at this
          exact this
        have x0 : wr.cell? ⟨w.heap.size, 0, none⟩ = some (.int .u8 x) := B0.out.cell 0
        have x1 : wr.cell? ⟨w.heap.size, 1, none⟩ = some (.int .u8 y) := B0.out.cell 1
        have hg4 : g < wr.heap.size + 1 := by omega
        have z1 : w.heap.size < wr.heap.size + 1 := by omega
        by_cases he : Flow.fireErr t q = 0
        · have A : Hid (Flow.after t q < 65536) := after_lt hq ⟨s1, s2, s3⟩ he
          have R : Hid (Flow.steps ts q run k = Flow.steps ts (Flow.after t q) run (k + 1)) := Flow.steps_go hlt HT.out he
          have cf : ∀ w, Calls Tryz.prog 84 #[.agg (trF t), .int .i64 q] w fun e w' => e = .returned (.tuple #[.int .i64 (Flow.after t q), .int .i64 0]) ∧ w' = w.alloc (.cells (trF t) 93) := fun w => by
            have := fireAt_any t q w hq s2 s3
            unfold Flow.fireTo at this
            rw [if_pos he, he] at this
            exact this
          clear he
          go_wp2
          go_region_with (go_at_call 46; refine (cs _).mono ?_; rintro e w' ⟨rfl, rfl⟩)
          all_goals go_wp2_with (go_at_call 84; refine (cf _).mono ?_; rintro e w' ⟨rfl, rfl⟩)
          all_goals go_roundw
          all_goals (first | (simp [intOf]; omega) | exact ⟨k + 1, Flow.after t q, by omega, A.out, by go_num, rfl, ((B0.out.alloc _).alloc _).drew, ((HW.out.alloc HW.out.size _).alloc (by have := HW.out.size; simp; omega) _).drew, by show _ = _; rw [← HP.out, R.out]⟩)
        · have R : Hid (Flow.steps ts q run k = (0, Flow.fireErr t q, k)) := Flow.steps_bad hlt HT.out he
          have cf : ∀ w, Calls Tryz.prog 84 #[.agg (trF t), .int .i64 q] w fun e w' => e = .returned (.tuple #[.int .i64 (Flow.fireTo t q), .int .i64 (Flow.fireErr t q)]) ∧ w' = w.alloc (.cells (trF t) 93) := fun w => fireAt_any t q w hq s2 s3
          have te : ((Flow.fireErr t q : Int) != 0) = true := by simp; omega
          clear he
          go_wp2
          go_region_with (go_at_call 46; refine (cs _).mono ?_; rintro e w' ⟨rfl, rfl⟩)
          all_goals go_wp2_with (go_at_call 84; refine (cf _).mono ?_; rintro e w' ⟨rfl, rfl⟩)
          all_goals go_ret3
          all_goals exact ⟨by rw [← HP.out, R.out]; rfl, ((HW.out.alloc HW.out.size _).alloc (by have := HW.out.size; simp; omega) _).drew⟩
      · have R : Hid (Flow.steps ts q run k = (0, 4, k)) := Flow.steps_none hlt (by rw [← HB.out]; omega)
        have cs : ∀ w, Calls Tryz.prog 46 #[.agg (netF x y a ts.length cap), .int .u8 (run[k].toNat : Int)] w fun e w' => e = .returned (.int .i64 (-1)) ∧ w' = w.alloc (.cells (netF x y a ts.length cap) 59) := fun w => by
          have := transitionOf_any x y a ts.length cap _ w hb256 hlen
          unfold Flow.tnum at this
          rw [if_neg hkn] at this
          exact this
        have x0 : wr.cell? ⟨w.heap.size, 0, none⟩ = some (.int .u8 x) := B0.out.cell 0
        have x1 : wr.cell? ⟨w.heap.size, 1, none⟩ = some (.int .u8 y) := B0.out.cell 1
        go_wp2
        go_region_with (go_at_call 46; refine (cs _).mono ?_; rintro e w' ⟨rfl, rfl⟩)
        all_goals go_wp2
        all_goals go_ret3
        all_goals exact ⟨by rw [← HP.out, R.out]; rfl, (HW.out.alloc HW.out.size _).drew⟩
    · go_wp2
      go_ret3
      exact ⟨by rw [← HP.out, Flow.steps_end hlt]; rfl, HW.out⟩
end Go.Proofs.YtdlldljgogbiaabGreat
