/-
  The program's reader of a net whose head stands.
-/
import Derived.Test.YtdlldljgogbiaabGreatNetF
namespace Go.Proofs.YtdlldljgogbiaabGreat
open Go.RowKit
set_option linter.unusedVariables false
set_option maxRecDepth 20000

set_option maxHeartbeats 2000000 in
theorem netF_net (s : ByteArray) (w : World) (hs : s.size ≤ maxLen) (hl : ¬ 160 < s.size) (hh : Flow.headAt s = 2) : Calls Tryz.prog 32 #[.string s] w (NetPost s w) := by
  have hs' := hs
  unfold maxLen at hs
  have hsz : 2 ≤ s.size ∧ Flow.isPl (Flow.bt s 0) = true ∧ Flow.isPl (Flow.bt s 1) = true ∧ Flow.bt s 1 ≠ Flow.bt s 0 := by
    unfold Flow.headAt at hh
    split at hh
    · omega
    · split at hh
      · omega
      · rename_i h1 h2
        simp at h1 h2
        exact ⟨by omega, h1.2, h2.2.1, h2.2.2⟩
  obtain ⟨h2, p0, p1, hne⟩ := hsz
  have cw : ∀ w, Calls Tryz.prog 64 #[.string s, .int .u8 (s[0].toNat : Int), .int .u8 (s[1].toNat : Int)] w fun e w' => e = .returned (.int .i64 (Flow.shape s 2 true)) ∧ w' = w := fun w => by
    have := wrongWay_any s w hs' h2
    rw [← Flow.bt_at (s := s) (k := 0) (by omega), ← Flow.bt_at (s := s) (k := 1) (by omega)] at this
    exact this
  have hz0' := Flow.bt_at (s := s) (k := 0) (by omega)
  have hz1' := Flow.bt_at (s := s) (k := 1) (by omega)
  rw [← hz0'] at p0 hne
  rw [← hz1'] at p1 hne
  have H0 : Hid _ := hz0'
  have H1 : Hid _ := hz1'
  have tne : ((s[1].toNat : Int) == (s[0].toNat : Int)) = false := by simp; omega
  have hI1 : 0 < s.size := by omega
  have hI2 : 1 < s.size := by omega
  have hI3 : (1 : Int) < (s.size : Int) := by omega
  have hI4 : decide ((s.size : Int) < 2) = false := by simp; omega
  have HH : Hid _ := hh
  have hat : Flow.readAt s = (Flow.transes s 2 []).2.1 := by unfold Flow.readAt; rw [if_pos hh]
  have hok : Flow.readOk s = (Flow.transes s 2 []).2.2 := by unfold Flow.readOk; rw [hh]; simp
  have c1 : ∀ w, Calls Tryz.prog 63 #[.string s, .int .i64 2] w fun e w' => ∃ a cap, e = .returned (.tuple #[.slice a (Flow.readTr s).length cap, .int .i64 (Flow.readAt s), .bool (Flow.readOk s)]) ∧
      w'.ownsRow w.heap.size 93 3 (.slice a (Flow.readTr s).length cap) (Flow.readTr s).length (cellsF (Flow.readTr s)) ∧ Below w.heap.size w w' := fun w => by
    have := manyF_any s w hs' h2
    rw [hat, hok]
    exact this
  have hp1c : ∀ w, Calls Tryz.prog 62 #[.int .u8 s[1].toNat] w fun e w' => e = .returned (.bool true) ∧ w' = w := fun w => by have := isPlaceF_any s[1].toNat w; rw [p1] at this; exact this
  clear hh hz0' hz1' hne hat hok
  cases hok : Flow.readOk s with
  | false =>
    have R : Hid (Flow.checkErr s = 2) := by show _ = _; unfold Flow.checkErr; rw [if_neg hl, if_pos hok]
    have S : Hid (Flow.checkAt s = Flow.readAt s) := by show _ = _; unfold Flow.checkAt; rw [if_neg hl, if_pos hok]
    rw [hok] at c1
    clear hok cw
    go_enter Tryz.func32, Tryz.ntmps32
    go_wp2_with (go_at_call 62; refine (isPlaceF_any _ _).mono ?_; rintro e w' ⟨rfl, rfl⟩)
    go_quiet ((go_at_call 62; exact Calls.quiet_of_same (hp1c _)))
    go_wp2_with (go_at_call 63; refine (c1 _).mono ?_; rintro e w1 ⟨a, cap, rfl, hown1, hb1⟩; have k0 : Blk w1 w.heap.size #[.int .u8 0, .int .u8 0, .slice none 0 0] 59 := ((Blk.new w _ _).drewN nq).below hb1 (by simp); have x0 : w1.cell? ⟨w.heap.size, 0, none⟩ = some (.int .u8 0) := k0.cell 0; have x1 : w1.cell? ⟨w.heap.size, 1, none⟩ = some (.int .u8 0) := k0.cell 1; have x2 : w1.cell? ⟨w.heap.size, 2, none⟩ = some (.slice none 0 0) := k0.cell 2; have y0 := k0.froz 0; have y1 := k0.froz 1; have y2 := k0.froz 2; have z0 := k0.lt; have HB1 : Hid _ := hb1; have HO1 : Hid (w1.ownsRow _ 93 3 (.slice a (Flow.readTr s).length cap) (Flow.readTr s).length (cellsF (Flow.readTr s))) := hown1; have K0 : Hid (Blk w1 w.heap.size #[.int .u8 0, .int .u8 0, .slice none 0 0] 59) := k0; clear hb1 hown1 k0)
    exact bodyPost_ret (v := .tuple #[.agg #[.int .u8 0, .int .u8 0, .slice none 0 0], .int .i64 2, .int .i64 (Flow.readAt s)]) (by simp [results, Tryz.results32, go_sem, x0, x1, x2]) rfl (netPost_bad (by rw [R.out]) (by rw [S.out]) (by decide) (((((below_drewN ((Below.refl _ _).alloc (Nat.le_refl _) _) nq).trans (HB1.out.mono (by simp))).setCell (p := ⟨w.heap.size, 0, none⟩) (Nat.le_refl _) _).setCell (p := ⟨w.heap.size, 1, none⟩) (Nat.le_refl _) _).setCell (p := ⟨w.heap.size, 2, none⟩) (Nat.le_refl _) _))
  | true =>
    rw [hok] at c1
    rw [shape_start hok] at cw
    have hle := Flow.shape_le s 2 false
    by_cases hsh : Flow.shape s 2 false < s.size
    · have R : Hid (Flow.checkErr s = 3) := by show _ = _; unfold Flow.checkErr; rw [if_neg hl, if_neg (by rw [hok]; simp), if_pos hsh]
      have S : Hid (Flow.checkAt s = Flow.shape s 2 false) := by show _ = _; unfold Flow.checkAt; rw [if_neg hl, if_neg (by rw [hok]; simp), if_pos hsh]
      clear hok
      go_enter Tryz.func32, Tryz.ntmps32
      go_wp2_with (go_at_call 62; refine (isPlaceF_any _ _).mono ?_; rintro e w' ⟨rfl, rfl⟩)
      go_quiet ((go_at_call 62; exact Calls.quiet_of_same (hp1c _)))
      go_wp2_with (go_at_call 63; refine (c1 _).mono ?_; rintro e w1 ⟨a, cap, rfl, hown1, hb1⟩; have k0 : Blk w1 w.heap.size #[.int .u8 0, .int .u8 0, .slice none 0 0] 59 := ((Blk.new w _ _).drewN nq).below hb1 (by simp); have x0 : w1.cell? ⟨w.heap.size, 0, none⟩ = some (.int .u8 0) := k0.cell 0; have x1 : w1.cell? ⟨w.heap.size, 1, none⟩ = some (.int .u8 0) := k0.cell 1; have x2 : w1.cell? ⟨w.heap.size, 2, none⟩ = some (.slice none 0 0) := k0.cell 2; have y0 := k0.froz 0; have y1 := k0.froz 1; have y2 := k0.froz 2; have z0 := k0.lt; have HB1 : Hid _ := hb1; have HO1 : Hid (w1.ownsRow _ 93 3 (.slice a (Flow.readTr s).length cap) (Flow.readTr s).length (cellsF (Flow.readTr s))) := hown1; have K0 : Hid (Blk w1 w.heap.size #[.int .u8 0, .int .u8 0, .slice none 0 0] 59) := k0; clear hb1 hown1 k0)
      go_region
      go_wp2_with (go_at_call 64; refine (cw _).mono ?_; rintro e w' ⟨rfl, rfl⟩)
      exact bodyPost_ret (v := .tuple #[.agg #[.int .u8 0, .int .u8 0, .slice none 0 0], .int .i64 3, .int .i64 (Flow.shape s 2 false)]) (by simp [results, Tryz.results32, go_sem, x0, x1, x2, z0]) rfl (netPost_bad (by rw [R.out]) (by rw [S.out]) (by decide) ((((((below_drewN ((Below.refl _ _).alloc (Nat.le_refl _) _) nq).trans (HB1.out.mono (by simp))).setCell (p := ⟨w.heap.size, 0, none⟩) (Nat.le_refl _) _).setCell (p := ⟨w.heap.size, 1, none⟩) (Nat.le_refl _) _).setCell (p := ⟨w.heap.size, 2, none⟩) (Nat.le_refl _) _ |>.alloc (by simp; omega) _).drew))
    · have R : Hid (Flow.checkErr s = 0) := by show _ = _; unfold Flow.checkErr; rw [if_neg hl, if_neg (by rw [hok]; simp), if_neg hsh]
      have S : Hid (Flow.checkAt s = 0) := by show _ = _; unfold Flow.checkAt; rw [if_neg hl, if_neg (by rw [hok]; simp), if_neg hsh]
      clear hok
      go_enter Tryz.func32, Tryz.ntmps32
      go_wp2_with (go_at_call 62; refine (isPlaceF_any _ _).mono ?_; rintro e w' ⟨rfl, rfl⟩)
      go_quiet ((go_at_call 62; exact Calls.quiet_of_same (hp1c _)))
      go_wp2_with (go_at_call 63; refine (c1 _).mono ?_; rintro e w1 ⟨a, cap, rfl, hown1, hb1⟩; have k0 : Blk w1 w.heap.size #[.int .u8 0, .int .u8 0, .slice none 0 0] 59 := ((Blk.new w _ _).drewN nq).below hb1 (by simp); have x0 : w1.cell? ⟨w.heap.size, 0, none⟩ = some (.int .u8 0) := k0.cell 0; have x1 : w1.cell? ⟨w.heap.size, 1, none⟩ = some (.int .u8 0) := k0.cell 1; have x2 : w1.cell? ⟨w.heap.size, 2, none⟩ = some (.slice none 0 0) := k0.cell 2; have y0 := k0.froz 0; have y1 := k0.froz 1; have y2 := k0.froz 2; have z0 := k0.lt; have HB1 : Hid _ := hb1; have HO1 : Hid (w1.ownsRow _ 93 3 (.slice a (Flow.readTr s).length cap) (Flow.readTr s).length (cellsF (Flow.readTr s))) := hown1; have K0 : Hid (Blk w1 w.heap.size #[.int .u8 0, .int .u8 0, .slice none 0 0] 59) := k0; clear hb1 hown1 k0)
      go_region
      go_wp2_with (go_at_call 64; refine (cw _).mono ?_; rintro e w' ⟨rfl, rfl⟩)
      exact bodyPost_ret (v := .tuple #[.agg #[.int .u8 (s[0].toNat : Int), .int .u8 (s[1].toNat : Int), .slice a (Flow.readTr s).length cap], .int .i64 0, .int .i64 0]) (by simp [results, Tryz.results32, go_sem, x0, x1, x2, z0]) rfl (netPost_good (by rw [R.out]) (by rw [S.out]) ((((((below_drewN ((Below.refl _ _).alloc (Nat.le_refl _) _) nq).trans (HB1.out.mono (by simp))).setCell (p := ⟨w.heap.size, 0, none⟩) (Nat.le_refl _) _).setCell (p := ⟨w.heap.size, 1, none⟩) (Nat.le_refl _) _).setCell (p := ⟨w.heap.size, 2, none⟩) (Nat.le_refl _) _ |>.alloc (by simp; omega) _).drew) H0.out H1.out (owns_base ((ownsRow_setCell_below (ownsRow_setCell_below (ownsRow_setCell_below HO1.out (by simp) _) (by simp) _) (by simp) _).alloc _).drew (by simp)))

theorem netF_any (s : ByteArray) (w : World) (hs : s.size ≤ maxLen) : Calls Tryz.prog 32 #[.string s] w (NetPost s w) := by
  by_cases hl : 160 < s.size
  · exact netF_long s w hs hl
  · by_cases hh : Flow.headAt s = 2
    · exact netF_net s w hs hl hh
    · exact netF_head s w hs hl hh

theorem checkF_any (s : ByteArray) (w : World) (hs : s.size ≤ maxLen) :
    Calls Tryz.prog 13 #[.string s] w fun e w' => e = .returned (.tuple #[.int .i64 (Flow.checkErr s), .int .i64 (Flow.checkAt s)]) ∧ Below w.heap.size w w' := by
  have c1 : ∀ w, Calls Tryz.prog 32 #[.string s] w fun e w' => ∃ x y a n cap, e = .returned (.tuple #[.agg #[.int .u8 x, .int .u8 y, .slice a n cap], .int .i64 (Flow.checkErr s), .int .i64 (Flow.checkAt s)]) ∧ Below w.heap.size w w' := fun w => (netF_any s w hs).mono fun e w' h => by
    obtain ⟨v, he, hb, hg, hn⟩ := h
    by_cases h0 : Flow.checkErr s = 0
    · obtain ⟨a, cap, hv, _⟩ := hg h0
      exact ⟨_, _, _, _, _, by rw [he, hv], hb⟩
    · exact ⟨_, _, _, _, _, by rw [he, hn h0], hb⟩
  go_enter Tryz.func13, Tryz.ntmps13
  go_wp2_with (go_at_call 32; refine (c1 _).mono ?_; rintro e w1 ⟨x, y, a, n, cap, rfl, hb1⟩; have HB1 : Hid _ := hb1; clear hb1)
  go_ret2
  exact ⟨rfl, HB1.out.alloc HB1.out.size _⟩
end Go.Proofs.YtdlldljgogbiaabGreat
