/-
  The reference's reader of a net.
-/
import Derived.Test.YtdlldljgogbiaabGreatTransR
import Derived.Test.YtdlldljgogbiaabGreatMany
import Derived.Deep.QuietTactic
import Derived.BigQuiet
import Derived.RegionTactic
import Derived.Test.YtdlldljgogbiaabGreatBaseM
namespace Go.Proofs.YtdlldljgogbiaabGreat
open Go.RowKit
set_option linter.unusedVariables false
set_option maxRecDepth 20000

theorem Tryz.infoR : (Tryz.prog.info? 108).map (fun i => (i.zero, i.size, i.bytes)) = some (some (.agg #[.int .u8 0, .int .i64 0, .int .i64 0]), 3, 24) := by kernel_rfl

/-- the cells of a list of transitions, as the reference holds them -/
def cellsR (l : List Flow.Tr) : List Value := l.flatMap fun t => (trR t).toList
theorem cellsR_snoc (l : List Flow.Tr) (t : Flow.Tr) : cellsR (l ++ [t]) = cellsR l ++ [.int .u8 t.label, .int .i64 t.inn, .int .i64 t.out] := by simp [cellsR]
theorem cellsR_len (l : List Flow.Tr) : (cellsR l).length = l.length * 3 := by
  induction l with
  | nil => rfl
  | cons t r ih => simp [cellsR] at ih ⊢; omega


/-- what read answers for a text whose head stands -/
def ReadPost (s : ByteArray) (w : World) (e : Ending) (w' : World) : Prop :=
  ∃ v, e = .returned (.tuple #[v, .int .i64 (Flow.transes s 2 []).2.1, .bool (Flow.transes s 2 []).2.2]) ∧ Below w.heap.size w w' ∧
       ((Flow.transes s 2 []).2.2 = true → ∃ a cap, v = .agg #[.int .i64 ((Flow.bt s 0 - 65 : Nat) : Int), .int .i64 ((Flow.bt s 1 - 65 : Nat) : Int), .slice a (Flow.transes s 2 []).1.length cap] ∧
         w'.ownsRow w.heap.size 108 3 (.slice a (Flow.transes s 2 []).1.length cap) (Flow.transes s 2 []).1.length (cellsR (Flow.transes s 2 []).1)) ∧
       ((Flow.transes s 2 []).2.2 = false → v = .agg #[.int .i64 0, .int .i64 0, .slice none 0 0])
theorem readPost_bad {s : ByteArray} {w W : World} {acc : List Flow.Tr} {j : Nat} (e : Flow.transes s 2 [] = (acc, j, false)) (hb : Below w.heap.size w W) :
    ReadPost s w (.returned (.tuple #[.agg #[.int .i64 0, .int .i64 0, .slice none 0 0], .int .i64 j, .bool false])) W := by
  unfold ReadPost; rw [e]; exact ⟨_, rfl, hb, (fun h => by cases h), fun _ => rfl⟩
theorem readPost_good {s : ByteArray} {w W : World} {acc : List Flow.Tr} {j : Nat} {a : Option Addr} {cap : Nat} {x y : Int} (e : Flow.transes s 2 [] = (acc, j, true)) (hb : Below w.heap.size w W) (hx : x = ((Flow.bt s 0 - 65 : Nat) : Int)) (hy : y = ((Flow.bt s 1 - 65 : Nat) : Int))
    (hown : W.ownsRow (w.heap.size + 1 + 1) 108 3 (.slice a acc.length cap) acc.length (cellsR acc)) :
    ReadPost s w (.returned (.tuple #[.agg #[.int .i64 x, .int .i64 y, .slice a acc.length cap], .int .i64 j, .bool true])) W := by
  subst hx hy
  unfold ReadPost; rw [e]; exact ⟨_, rfl, hb, fun _ => ⟨a, cap, rfl, owns_base hown (by omega)⟩, fun h => by cases h⟩

set_option maxHeartbeats 1000000 in
theorem readR_net (s : ByteArray) (w : World) (hs : s.size ≤ maxLen) (hh : Flow.headAt s = 2) :
    Calls Tryz.prog 33 #[.string s] w (ReadPost s w) := by
  unfold maxLen at hs
  obtain ⟨i0, hi, hz0, hz1, hz2⟩ := info_parts Tryz.infoR
  have hsz : 2 ≤ s.size ∧ Flow.isPl (Flow.bt s 0) = true ∧ Flow.isPl (Flow.bt s 1) = true ∧ Flow.bt s 1 ≠ Flow.bt s 0 := by
    unfold Flow.headAt at hh
    split at hh
    · omega
    · split at hh
      · omega
      · rename_i h1 h2
        simp at h1 h2
        exact ⟨by omega, h1.2, h2.2.1, h2.2.2⟩
  obtain ⟨h2, p0, p1, hne⟩ := hsz
  have hz0' := Flow.bt_at (s := s) (k := 0) (by omega)
  have hz1' := Flow.bt_at (s := s) (k := 1) (by omega)
  rw [← hz0'] at p0 hne
  rw [← hz1'] at p1 hne
  have H0 : Hid _ := hz0'
  have H1 : Hid _ := hz1'
  have q0 := Flow.isPl_iff.1 p0
  have q1 := Flow.isPl_iff.1 p1
  have tne : ((s[1].toNat : Int) == (s[0].toNat : Int)) = false := by simp; omega
  have hI1 : 0 < s.size := by omega
  have hI2 : 1 < s.size := by omega
  have hI3 : (1 : Int) < (s.size : Int) := by omega
  have hI4 : decide ((s.size : Int) < 2) = false := by simp; omega
  clear hh hz0' hz1' hne
  have hp1c : ∀ w, Calls Tryz.prog 65 #[.int .u8 s[1].toNat] w fun e w' => e = .returned (.bool true) ∧ w' = w := fun w => by have := isPlaceR_any s[1].toNat w; rw [p1] at this; exact this
  go_enter Tryz.func33, Tryz.ntmps33
  go_wp2_with (go_at_call 65; refine (isPlaceR_any _ _).mono ?_; rintro e w' ⟨rfl, rfl⟩)
  go_quiet ((go_at_call 65; exact Calls.quiet_of_same (hp1c _)))
  go_wp2
  go_region
  go_wp2
  go_loopw [6] (fun i' wr => ∃ (k : Nat) (acc : List Flow.Tr) (a : Option Addr) (cap : Nat), k ≤ s.size ∧ acc.length ≤ 16 ∧ i' = .int .i64 k ∧ Blk wr w.heap.size #[.int .i64 0, .int .i64 0, .slice none 0 0] 64 ∧ Blk wr (w.heap.size + 1) #[.int .i64 ((s[0].toNat : Int) - 65), .int .i64 ((s[1].toNat : Int) - 65), .slice a acc.length cap] 64 ∧ wr.ownsRow (w.heap.size + 1 + 1) 108 3 (.slice a acc.length cap) acc.length (cellsR acc) ∧ Below w.heap.size w wr ∧ Hid (Flow.transes s k acc = Flow.transes s 2 [])) (fun i' _ => s.size - (intOf i').toNat)
  case atStart =>
    refine ⟨2, [], none, 0, h2, by simp, rfl, ?_, ?_, World.ownsRow_nil _ _ _ _, ?_, rfl⟩
    · exact ((Blk.new w _ _).drewN _).alloc _
    · exact Blk.new_at (by simp) _ _
    · exact (below_drewN ((Below.refl _ _).alloc (Nat.le_refl _) _) _).alloc (by simp) _
  case round =>
    obtain ⟨k, acc, a, cap, hk, hacc, rfl, hb0, hb1, hown, hbw, HP⟩ := hrel
    have x00 : wr.cell? ⟨w.heap.size, 0, none⟩ = some (.int .i64 0) := hb0.cell 0
    have x01 : wr.cell? ⟨w.heap.size, 1, none⟩ = some (.int .i64 0) := hb0.cell 1
    have x02 : wr.cell? ⟨w.heap.size, 2, none⟩ = some (.slice none 0 0) := hb0.cell 2
    have x10 : wr.cell? ⟨w.heap.size + 1, 0, none⟩ = some (.int .i64 ((s[0].toNat : Int) - 65)) := hb1.cell 0
    have x11 : wr.cell? ⟨w.heap.size + 1, 1, none⟩ = some (.int .i64 ((s[1].toNat : Int) - 65)) := hb1.cell 1
    have x12 : wr.cell? ⟨w.heap.size + 1, 2, none⟩ = some (.slice a acc.length cap) := hb1.cell 2
    have y00 := hb0.froz 0
    have y01 := hb0.froz 1
    have y02 := hb0.froz 2
    have y12 := hb1.froz 2
    have z0 := hb0.lt
    have z1 := hb1.lt
    have z2 : w.heap.size < wr.heap.size + 1 := by omega
    have z3 : w.heap.size + 1 < wr.heap.size + 1 := by omega
    have HO : Hid (wr.ownsRow (w.heap.size + 1 + 1) 108 3 (.slice a acc.length cap) acc.length (cellsR acc)) := hown
    have HW : Hid _ := hbw
    have B0 : Hid (Blk wr w.heap.size #[.int .i64 0, .int .i64 0, .slice none 0 0] 64) := hb0
    have B1 : Hid (Blk wr (w.heap.size + 1) #[.int .i64 ((s[0].toNat : Int) - 65), .int .i64 ((s[1].toNat : Int) - 65), .slice a acc.length cap] 64) := hb1
    clear hown hbw hb0 hb1
    by_cases hlt : k < s.size
    · have HB : Hid (s[k].toNat = Flow.bt s k) := Flow.bt_at hlt
      by_cases h59 : s[k].toNat = 59
      · have t59 : ((s[k].toNat : Int) != 59) = false := by simp; omega
        by_cases h16 : acc.length < 16
        · have hc := transR_any s (k + 1)
          have hj1 := Flow.trans_ge s (k + 1)
          have hj2 := Flow.trans_le s (k + 1) (by omega)
          have G := fun h => Flow.transes_go (acc := acc) hlt (by rw [← HB.out]; exact h59) h16 h
          have B := fun h => Flow.transes_bad (acc := acc) hlt (by rw [← HB.out]; exact h59) h16 h
          obtain ⟨t, j, ok, e⟩ : ∃ t j ok, Flow.trans s (k + 1) = (t, j, ok) := ⟨_, _, _, rfl⟩
          rw [e] at hc hj1 hj2 G B
          dsimp only at hc hj1 hj2 G B
          clear h59
          have c1 : ∀ w, Calls Tryz.prog 66 #[.string s, .int .i64 ((k : Int) + 1)] w fun e w' => e = .returned (.tuple #[.agg (trR t), .int .i64 j, .bool ok]) ∧ w' = w.alloc (.cells (trR t) 108) := fun w => hc w (by unfold maxLen; omega) (by omega)
          clear hc e
          cases ok with
          | false =>
            have R : Hid _ := B rfl
            clear G B
            go_wp2_with (go_at_call 66; refine (c1 _).mono ?_; rintro e w' ⟨rfl, rfl⟩)
            exact bodyPost_ret (v := .tuple #[.agg #[.int .i64 0, .int .i64 0, .slice none 0 0], .int .i64 j, .bool false]) (by simp [results, Tryz.results33, go_sem, x00, x01, x02, z0]) rfl (readPost_bad (by rw [← HP.out, R.out]) ((((HW.out.setCell (p := ⟨w.heap.size, 0, none⟩) (by simp) _).setCell (p := ⟨w.heap.size, 1, none⟩) (by simp) _).setCell (p := ⟨w.heap.size, 2, none⟩) (by simp) _).alloc (by simp; omega) _ |>.alloc (by simp; omega) _))
          | true =>
            have R : Hid _ := G rfl
            clear G B
            go_wp2_with (first | (go_at_call 66; refine (c1 _).mono ?_; rintro e w' ⟨rfl, rfl⟩) | (at_builtin; refine wpList_append_lies _ rfl _ _ 62 rfl (w.heap.size + 1 + 1) 108 i0 (.agg #[.int .u8 0, .int .i64 0, .int .i64 0]) 3 24 Tryz.underlying62 hi hz0 hz1 hz2 rfl (by decide) (.slice a acc.length cap) _ _ rfl (((HO.out.alloc _).alloc _).alloc _) ⟨wr.heap.size + 1 + 1, 0, none⟩ 1 1 [.int .u8 t.label, .int .i64 t.inn, .int .i64 t.out] rfl rfl (cell_three_at _ _ (by simp) _ _ _ _) (fun x hx => by simp at hx; rcases hx with rfl | rfl | rfl <;> rfl) (by decide) (by unfold maxLen; omega) (by omega) (by simp; omega) _ rfl ?_; intro g cap' w1 hown1 hgrow hat hlt1; have HG : Hid _ := hgrow; have HO1 : Hid (w1.ownsRow (w.heap.size + 1 + 1) 108 3 (.slice (some ⟨g, 0, none⟩) (acc.length + 1) cap') (acc.length + 1) (cellsR acc ++ [.int .u8 t.label, .int .i64 t.inn, .int .i64 t.out])) := hown1; have C0 : Hid (Blk w1 w.heap.size #[.int .i64 0, .int .i64 0, .slice none 0 0] 64) := (((B0.out.alloc _).alloc _).alloc _).grown hgrow (fun h => by have := (HO.out.lt _ h.symm).1; omega); have C1 : Hid (Blk w1 (w.heap.size + 1) #[.int .i64 ((s[0].toNat : Int) - 65), .int .i64 ((s[1].toNat : Int) - 65), .slice a acc.length cap] 64) := (((B1.out.alloc _).alloc _).alloc _).grown hgrow (fun h => by have := (HO.out.lt _ h.symm).1; omega); have v12 : w1.cell? ⟨w.heap.size + 1, 2, none⟩ = some (.slice a acc.length cap) := C1.out.cell 2; have u12 := C1.out.froz 2; clear hgrow hown1 hat))
            go_roundw
            case rel =>
              refine ⟨j, acc ++ [t], some ⟨g, 0, none⟩, cap', hj2, by simp; omega, rfl, ?_, ?_, ?_, ?_, ?_⟩
              · exact C0.out.far _ _ (by simp)
              · rw [List.length_append]; exact C1.out.set 2 _
              · rw [cellsR_snoc, List.length_append]; exact ownsRow_setCell_below HO1.out (by simp) _
              · exact (Below.grown (((HW.out.alloc (by omega) _).alloc (by simp; omega) _).alloc (by simp; omega) _) HG.out (by simp; omega) (fun i hi => by have := (HO.out.lt _ hi).1; omega)).setCell (by simp) _
              · show _ = _; rw [← HP.out, R.out]
            case measure => simp [intOf]; omega
        · have R : Hid _ := Flow.transes_no (acc := acc) hlt (by intro h; exact h16 h.2)
          go_wp2
          exact bodyPost_ret (v := .tuple #[.agg #[.int .i64 0, .int .i64 0, .slice none 0 0], .int .i64 k, .bool false]) (by simp [results, Tryz.results33, go_sem, x00, x01, x02]) rfl (readPost_bad (by rw [← HP.out, R.out]) (((HW.out.setCell (p := ⟨w.heap.size, 0, none⟩) (by simp) _).setCell (p := ⟨w.heap.size, 1, none⟩) (by simp) _).setCell (p := ⟨w.heap.size, 2, none⟩) (by simp) _))
      · have R : Hid _ := Flow.transes_no (acc := acc) hlt (by rw [← HB.out]; intro h; exact h59 h.1)
        have t59 : ((s[k].toNat : Int) != 59) = true := by simp; omega
        go_wp2
        exact bodyPost_ret (v := .tuple #[.agg #[.int .i64 0, .int .i64 0, .slice none 0 0], .int .i64 k, .bool false]) (by simp [results, Tryz.results33, go_sem, x00, x01, x02]) rfl (readPost_bad (by rw [← HP.out, R.out]) (((HW.out.setCell (p := ⟨w.heap.size, 0, none⟩) (by simp) _).setCell (p := ⟨w.heap.size, 1, none⟩) (by simp) _).setCell (p := ⟨w.heap.size, 2, none⟩) (by simp) _))
    · go_wp2
      exact bodyPost_ret (v := .tuple #[.agg #[.int .i64 ((s[0].toNat : Int) - 65), .int .i64 ((s[1].toNat : Int) - 65), .slice a acc.length cap], .int .i64 k, .bool true]) (by simp [results, Tryz.results33, go_sem, x00, x01, x02]) rfl (readPost_good (by rw [← HP.out, Flow.transes_end hlt]) (((HW.out.setCell (p := ⟨w.heap.size, 0, none⟩) (by simp) _).setCell (p := ⟨w.heap.size, 1, none⟩) (by simp) _).setCell (p := ⟨w.heap.size, 2, none⟩) (by simp) _) (by rw [← H0.out]; omega) (by rw [← H1.out]; omega) (ownsRow_setCell_below (ownsRow_setCell_below (ownsRow_setCell_below HO.out (by simp; omega) _) (by simp; omega) _) (by simp; omega) _))
end Go.Proofs.YtdlldljgogbiaabGreat
