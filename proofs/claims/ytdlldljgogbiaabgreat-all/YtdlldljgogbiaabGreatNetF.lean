/-
  The program's reader of a net, and its Check.
-/
import Derived.Test.YtdlldljgogbiaabGreatMany
import Derived.Test.YtdlldljgogbiaabGreatShape
import Derived.Test.YtdlldljgogbiaabGreatBaseM
import Derived.Deep.QuietTactic
import Derived.BigQuiet
import Derived.RegionTactic
namespace Go.Proofs.YtdlldljgogbiaabGreat
open Go.RowKit
set_option linter.unusedVariables false
set_option maxRecDepth 20000

/-- what readNet answers -/
def NetPost (s : ByteArray) (w : World) (e : Ending) (w' : World) : Prop :=
  ∃ v, e = .returned (.tuple #[v, .int .i64 (Flow.checkErr s), .int .i64 (Flow.checkAt s)]) ∧ Below w.heap.size w w' ∧
       (Flow.checkErr s = 0 → ∃ a cap, v = .agg #[.int .u8 (Flow.bt s 0), .int .u8 (Flow.bt s 1), .slice a (Flow.readTr s).length cap] ∧
         w'.ownsRow w.heap.size 93 3 (.slice a (Flow.readTr s).length cap) (Flow.readTr s).length (cellsF (Flow.readTr s))) ∧
       (Flow.checkErr s ≠ 0 → v = .agg #[.int .u8 0, .int .u8 0, .slice none 0 0])

theorem netPost_bad {s : ByteArray} {w W : World} {er at' : Nat} (h1 : Flow.checkErr s = er) (h2 : Flow.checkAt s = at') (h0 : er ≠ 0) (hb : Below w.heap.size w W) :
    NetPost s w (.returned (.tuple #[.agg #[.int .u8 0, .int .u8 0, .slice none 0 0], .int .i64 er, .int .i64 at'])) W := by
  refine ⟨_, by rw [h1, h2], hb, fun h => ?_, fun _ => rfl⟩
  rw [h1] at h; exact absurd h h0
theorem netPost_good {s : ByteArray} {w W : World} {a : Option Addr} {cap : Nat} {x y : Nat} (h1 : Flow.checkErr s = 0) (h2 : Flow.checkAt s = 0) (hb : Below w.heap.size w W) (hx : x = Flow.bt s 0) (hy : y = Flow.bt s 1)
    (hown : W.ownsRow w.heap.size 93 3 (.slice a (Flow.readTr s).length cap) (Flow.readTr s).length (cellsF (Flow.readTr s))) :
    NetPost s w (.returned (.tuple #[.agg #[.int .u8 x, .int .u8 y, .slice a (Flow.readTr s).length cap], .int .i64 0, .int .i64 0])) W := by
  subst hx hy
  refine ⟨_, by rw [h1, h2]; rfl, hb, fun _ => ⟨a, cap, rfl, hown⟩, fun h => absurd h1 h⟩

/-- the head does not stand: Check's answer -/
theorem check_head {s : ByteArray} {j : Nat} (hl : ¬ 160 < s.size) (hh : Flow.headAt s = j) (hj : j ≠ 2) : Flow.checkErr s = 2 ∧ Flow.checkAt s = j := by
  have h1 : Flow.readAt s = j := by unfold Flow.readAt; rw [if_neg (by omega), hh]
  have h2 : Flow.readOk s = false := by unfold Flow.readOk; rw [hh]; simp [hj]
  exact ⟨by unfold Flow.checkErr; rw [if_neg hl, if_pos h2], by unfold Flow.checkAt; rw [if_neg hl, if_pos h2, h1]⟩

theorem shape_start {s : ByteArray} (h : Flow.readOk s = true) : Flow.shape s 2 true = Flow.shape s 2 false := by
  by_cases h2 : 2 < s.size
  · have h59 : Flow.bt s 2 = 59 := by
      rcases Classical.em (Flow.bt s 2 = 59) with g | g
      · exact g
      · have := Flow.transes_no (s := s) (i := 2) (acc := []) h2 (by intro x; exact g x.1)
        unfold Flow.readOk at h
        rw [this] at h; simp at h
    have e : ∀ p, Flow.putsAt (Flow.bt s 2) p = false := by intro p; rw [h59]; unfold Flow.putsAt; simp
    by_cases g : (Flow.putsAt (Flow.bt s 2) true = true ∧ Flow.bt s 2 = Flow.bt s 0) ∨ (Flow.putsAt (Flow.bt s 2) true = false ∧ Flow.bt s 2 = Flow.bt s 1)
    · rw [Flow.shape_here h2 g, Flow.shape_here h2 (by rw [e] at g ⊢; exact g)]
    · rw [Flow.shape_next h2 g, Flow.shape_next h2 (by rw [e] at g ⊢; exact g), e, e]
  · rw [Flow.shape_end h2, Flow.shape_end h2]

set_option maxHeartbeats 1000000 in
theorem netF_head (s : ByteArray) (w : World) (hs : s.size ≤ maxLen) (hl : ¬ 160 < s.size) (hne : Flow.headAt s ≠ 2) : Calls Tryz.prog 32 #[.string s] w (NetPost s w) := by
  by_cases h1 : s.size < 1
  · obtain ⟨R, S⟩ := check_head hl (head_zero (.inl h1)) (by decide)
    have R : Hid _ := R
    have S : Hid _ := S
    unfold maxLen at hs
    go_enter Tryz.func32, Tryz.ntmps32
    go_wp2
    exact bodyPost_ret (v := .tuple #[.agg #[.int .u8 0, .int .u8 0, .slice none 0 0], .int .i64 2, .int .i64 0]) (by simp [results, Tryz.results32, go_sem]) rfl (netPost_bad (by rw [R.out]) (by rw [S.out]) (by decide) ((Below.refl _ _).alloc (Nat.le_refl _) _))
  · have hI1 : 0 < s.size := by omega
    have hz0 := Flow.bt_at (s := s) (k := 0) hI1
    by_cases p0 : Flow.isPl (Flow.bt s 0) = true
    · by_cases h2 : s.size < 2
      · obtain ⟨R, S⟩ := check_head hl (head_one (by omega) p0 (.inl h2)) (by decide)
        have R : Hid _ := R
        have S : Hid _ := S
        have d2 : decide ((s.size : Int) < 2) = true := by simp; omega
        rw [← hz0] at p0
        clear hz0
        unfold maxLen at hs
        go_enter Tryz.func32, Tryz.ntmps32
        go_wp2_with (go_at_call 62; refine (isPlaceF_any _ _).mono ?_; rintro e w' ⟨rfl, rfl⟩)
        go_quiet (fail)
        go_wp2
        exact bodyPost_ret (v := .tuple #[.agg #[.int .u8 0, .int .u8 0, .slice none 0 0], .int .i64 2, .int .i64 1]) (by simp [results, Tryz.results32, go_sem]) rfl (netPost_bad (by rw [R.out]) (by rw [S.out]) (by decide) ((((below_drewN ((Below.refl _ _).alloc (Nat.le_refl _) _) _).setCell (p := ⟨w.heap.size, 0, none⟩) (Nat.le_refl _) _).setCell (p := ⟨w.heap.size, 1, none⟩) (Nat.le_refl _) _).setCell (p := ⟨w.heap.size, 2, none⟩) (Nat.le_refl _) _))
      · have hI2 : 1 < s.size := by omega
        have hI3 : (1 : Int) < (s.size : Int) := by omega
        have d2 : decide ((s.size : Int) < 2) = false := by simp; omega
        have hz1 := Flow.bt_at (s := s) (k := 1) hI2
        by_cases p1 : Flow.isPl (Flow.bt s 1) = true
        · by_cases g : Flow.bt s 1 = Flow.bt s 0
          · obtain ⟨R, S⟩ := check_head hl (head_one (by omega) p0 (.inr (.inr g))) (by decide)
            have R : Hid _ := R
            have S : Hid _ := S
            have tne : ((s[1].toNat : Int) == (s[0].toNat : Int)) = true := by rw [hz0, hz1, g]; simp
            rw [← hz0] at p0
            rw [← hz1] at p1
            clear hz0 hz1 g
            unfold maxLen at hs
            have hp1c : ∀ w, Calls Tryz.prog 62 #[.int .u8 s[1].toNat] w fun e w' => e = .returned (.bool true) ∧ w' = w := fun w => by have := isPlaceF_any s[1].toNat w; rw [p1] at this; exact this
            go_enter Tryz.func32, Tryz.ntmps32
            go_wp2_with (go_at_call 62; refine (isPlaceF_any _ _).mono ?_; rintro e w' ⟨rfl, rfl⟩)
            go_quiet ((go_at_call 62; exact Calls.quiet_of_same (hp1c _)))
            go_wp2
            exact bodyPost_ret (v := .tuple #[.agg #[.int .u8 0, .int .u8 0, .slice none 0 0], .int .i64 2, .int .i64 1]) (by simp [results, Tryz.results32, go_sem]) rfl (netPost_bad (by rw [R.out]) (by rw [S.out]) (by decide) ((((below_drewN ((Below.refl _ _).alloc (Nat.le_refl _) _) _).setCell (p := ⟨w.heap.size, 0, none⟩) (Nat.le_refl _) _).setCell (p := ⟨w.heap.size, 1, none⟩) (Nat.le_refl _) _).setCell (p := ⟨w.heap.size, 2, none⟩) (Nat.le_refl _) _))
          · exact absurd (head_two (by omega) p0 p1 g) hne
        · have p1' : Flow.isPl (Flow.bt s 1) = false := by simpa using p1
          obtain ⟨R, S⟩ := check_head hl (head_one (by omega) p0 (.inr (.inl p1'))) (by decide)
          have R : Hid _ := R
          have S : Hid _ := S
          rw [← hz0] at p0
          rw [← hz1] at p1'
          clear hz0 hz1 p1
          unfold maxLen at hs
          have hp1c : ∀ w, Calls Tryz.prog 62 #[.int .u8 s[1].toNat] w fun e w' => e = .returned (.bool false) ∧ w' = w := fun w => by have := isPlaceF_any s[1].toNat w; rw [p1'] at this; exact this
          go_enter Tryz.func32, Tryz.ntmps32
          go_wp2_with (go_at_call 62; refine (isPlaceF_any _ _).mono ?_; rintro e w' ⟨rfl, rfl⟩)
          go_quiet ((go_at_call 62; exact Calls.quiet_of_same (hp1c _)))
          go_wp2
          exact bodyPost_ret (v := .tuple #[.agg #[.int .u8 0, .int .u8 0, .slice none 0 0], .int .i64 2, .int .i64 1]) (by simp [results, Tryz.results32, go_sem]) rfl (netPost_bad (by rw [R.out]) (by rw [S.out]) (by decide) ((((below_drewN ((Below.refl _ _).alloc (Nat.le_refl _) _) _).setCell (p := ⟨w.heap.size, 0, none⟩) (Nat.le_refl _) _).setCell (p := ⟨w.heap.size, 1, none⟩) (Nat.le_refl _) _).setCell (p := ⟨w.heap.size, 2, none⟩) (Nat.le_refl _) _))
    · have p0' : Flow.isPl (Flow.bt s 0) = false := by simpa using p0
      obtain ⟨R, S⟩ := check_head hl (head_zero (s := s) (.inr p0')) (by decide)
      have R : Hid _ := R
      have S : Hid _ := S
      rw [← hz0] at p0'
      clear hz0 p0
      unfold maxLen at hs
      go_enter Tryz.func32, Tryz.ntmps32
      go_wp2_with (go_at_call 62; refine (isPlaceF_any _ _).mono ?_; rintro e w' ⟨rfl, rfl⟩)
      exact bodyPost_ret (v := .tuple #[.agg #[.int .u8 0, .int .u8 0, .slice none 0 0], .int .i64 2, .int .i64 0]) (by simp [results, Tryz.results32, go_sem]) rfl (netPost_bad (by rw [R.out]) (by rw [S.out]) (by decide) ((Below.refl _ _).alloc (Nat.le_refl _) _))

set_option maxHeartbeats 1000000 in
theorem netF_long (s : ByteArray) (w : World) (hs : s.size ≤ maxLen) (hl : 160 < s.size) : Calls Tryz.prog 32 #[.string s] w (NetPost s w) := by
  have R : Hid (Flow.checkErr s = 1) := by show _ = _; unfold Flow.checkErr; rw [if_pos hl]
  have S : Hid (Flow.checkAt s = 0) := by show _ = _; unfold Flow.checkAt; rw [if_pos hl]
  unfold maxLen at hs
  go_enter Tryz.func32, Tryz.ntmps32
  go_wp2
  exact bodyPost_ret (v := .tuple #[.agg #[.int .u8 0, .int .u8 0, .slice none 0 0], .int .i64 1, .int .i64 0]) (by simp [results, Tryz.results32, go_sem]) rfl (netPost_bad (by rw [R.out]) (by rw [S.out]) (by decide) ((Below.refl _ _).alloc (Nat.le_refl _) _))
end Go.Proofs.YtdlldljgogbiaabGreat
