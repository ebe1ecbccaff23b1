/-
  The reference's reader at every text, and its Check.
-/
import Derived.Test.YtdlldljgogbiaabGreatReadR
import Derived.Test.YtdlldljgogbiaabGreatShapeR
import Derived.Test.YtdlldljgogbiaabGreatBaseM
namespace Go.Proofs.YtdlldljgogbiaabGreat
open Go.RowKit
set_option linter.unusedVariables false
set_option maxRecDepth 20000

/-- what read answers -/
def ReadAll (s : ByteArray) (w : World) (e : Ending) (w' : World) : Prop :=
  ∃ v, e = .returned (.tuple #[v, .int .i64 (Flow.readAt s), .bool (Flow.readOk s)]) ∧ Below w.heap.size w w' ∧
       (Flow.readOk s = true → ∃ a cap, v = .agg #[.int .i64 ((Flow.bt s 0 - 65 : Nat) : Int), .int .i64 ((Flow.bt s 1 - 65 : Nat) : Int), .slice a (Flow.readTr s).length cap] ∧
         w'.ownsRow w.heap.size 108 3 (.slice a (Flow.readTr s).length cap) (Flow.readTr s).length (cellsR (Flow.readTr s))) ∧
       (Flow.readOk s = false → v = .agg #[.int .i64 0, .int .i64 0, .slice none 0 0])

theorem readAll_head {s : ByteArray} {w W : World} {j : Nat} (hh : Flow.headAt s = j) (hj : j ≠ 2) (hb : Below w.heap.size w W) :
    ReadAll s w (.returned (.tuple #[.agg #[.int .i64 0, .int .i64 0, .slice none 0 0], .int .i64 j, .bool false])) W := by
  have h1 : Flow.readAt s = j := by unfold Flow.readAt; rw [if_neg (by omega), hh]
  have h2 : Flow.readOk s = false := by unfold Flow.readOk; rw [hh]; simp [hj]
  refine ⟨_, by rw [h1, h2], hb, fun h => ?_, fun _ => rfl⟩
  rw [h2] at h; cases h

theorem readAll_net {s : ByteArray} {w W : World} {e : Ending} (hh : Flow.headAt s = 2) (h : ReadPost s w e W) : ReadAll s w e W := by
  have h1 : Flow.readAt s = (Flow.transes s 2 []).2.1 := by unfold Flow.readAt; rw [if_pos hh]
  have h2 : Flow.readOk s = (Flow.transes s 2 []).2.2 := by unfold Flow.readOk; rw [hh]; simp
  unfold ReadAll Flow.readTr
  rw [h1, h2]
  exact h

set_option maxHeartbeats 1000000 in
theorem readR_any (s : ByteArray) (w : World) (hs : s.size ≤ maxLen) : Calls Tryz.prog 33 #[.string s] w (ReadAll s w) := by
  by_cases h1 : s.size < 1
  · have R : Hid _ := head_zero (.inl h1)
    unfold maxLen at hs
    go_enter Tryz.func33, Tryz.ntmps33
    go_wp2
    exact bodyPost_ret (v := .tuple #[.agg #[.int .i64 0, .int .i64 0, .slice none 0 0], .int .i64 0, .bool false]) (by simp [results, Tryz.results33, go_sem]) rfl (readAll_head R.out (by decide) ((Below.refl _ _).alloc (Nat.le_refl _) _))
  · have hI1 : 0 < s.size := by omega
    have hz0 := Flow.bt_at (s := s) (k := 0) hI1
    by_cases p0 : Flow.isPl (Flow.bt s 0) = true
    · by_cases h2 : s.size < 2
      · have R : Hid _ := head_one (by omega) p0 (.inl h2)
        have d2 : decide ((s.size : Int) < 2) = true := by simp; omega
        rw [← hz0] at p0
        clear hz0
        unfold maxLen at hs
        go_enter Tryz.func33, Tryz.ntmps33
        go_wp2_with (go_at_call 65; refine (isPlaceR_any _ _).mono ?_; rintro e w' ⟨rfl, rfl⟩)
        go_quiet (fail)
        go_wp2
        exact bodyPost_ret (v := .tuple #[.agg #[.int .i64 0, .int .i64 0, .slice none 0 0], .int .i64 1, .bool false]) (by simp [results, Tryz.results33, go_sem]) rfl (readAll_head R.out (by decide) ((((below_drewN ((Below.refl _ _).alloc (Nat.le_refl _) _) _).setCell (p := ⟨w.heap.size, 0, none⟩) (Nat.le_refl _) _).setCell (p := ⟨w.heap.size, 1, none⟩) (Nat.le_refl _) _).setCell (p := ⟨w.heap.size, 2, none⟩) (Nat.le_refl _) _))
      · have hI2 : 1 < s.size := by omega
        have hI3 : (1 : Int) < (s.size : Int) := by omega
        have d2 : decide ((s.size : Int) < 2) = false := by simp; omega
        have hz1 := Flow.bt_at (s := s) (k := 1) hI2
        by_cases p1 : Flow.isPl (Flow.bt s 1) = true
        · by_cases g : Flow.bt s 1 = Flow.bt s 0
          · have R : Hid _ := head_one (by omega) p0 (.inr (.inr g))
            have tne : ((s[1].toNat : Int) == (s[0].toNat : Int)) = true := by rw [hz0, hz1, g]; simp
            rw [← hz0] at p0
            rw [← hz1] at p1
            clear hz0 hz1 g
            unfold maxLen at hs
            have hp1c : ∀ w, Calls Tryz.prog 65 #[.int .u8 s[1].toNat] w fun e w' => e = .returned (.bool true) ∧ w' = w := fun w => by have := isPlaceR_any s[1].toNat w; rw [p1] at this; exact this
            go_enter Tryz.func33, Tryz.ntmps33
            go_wp2_with (go_at_call 65; refine (isPlaceR_any _ _).mono ?_; rintro e w' ⟨rfl, rfl⟩)
            go_quiet ((go_at_call 65; exact Calls.quiet_of_same (hp1c _)))
            go_wp2
            exact bodyPost_ret (v := .tuple #[.agg #[.int .i64 0, .int .i64 0, .slice none 0 0], .int .i64 1, .bool false]) (by simp [results, Tryz.results33, go_sem]) rfl (readAll_head R.out (by decide) ((((below_drewN ((Below.refl _ _).alloc (Nat.le_refl _) _) _).setCell (p := ⟨w.heap.size, 0, none⟩) (Nat.le_refl _) _).setCell (p := ⟨w.heap.size, 1, none⟩) (Nat.le_refl _) _).setCell (p := ⟨w.heap.size, 2, none⟩) (Nat.le_refl _) _))
          · have hh := head_two (by omega) p0 p1 g
            exact (readR_net s w hs hh).mono fun e w' h => readAll_net hh h
        · have p1' : Flow.isPl (Flow.bt s 1) = false := by simpa using p1
          have R : Hid _ := head_one (by omega) p0 (.inr (.inl p1'))
          rw [← hz0] at p0
          rw [← hz1] at p1'
          clear hz0 hz1 p1
          unfold maxLen at hs
          have hp1c : ∀ w, Calls Tryz.prog 65 #[.int .u8 s[1].toNat] w fun e w' => e = .returned (.bool false) ∧ w' = w := fun w => by have := isPlaceR_any s[1].toNat w; rw [p1'] at this; exact this
          go_enter Tryz.func33, Tryz.ntmps33
          go_wp2_with (go_at_call 65; refine (isPlaceR_any _ _).mono ?_; rintro e w' ⟨rfl, rfl⟩)
          go_quiet ((go_at_call 65; exact Calls.quiet_of_same (hp1c _)))
          go_wp2
          exact bodyPost_ret (v := .tuple #[.agg #[.int .i64 0, .int .i64 0, .slice none 0 0], .int .i64 1, .bool false]) (by simp [results, Tryz.results33, go_sem]) rfl (readAll_head R.out (by decide) ((((below_drewN ((Below.refl _ _).alloc (Nat.le_refl _) _) _).setCell (p := ⟨w.heap.size, 0, none⟩) (Nat.le_refl _) _).setCell (p := ⟨w.heap.size, 1, none⟩) (Nat.le_refl _) _).setCell (p := ⟨w.heap.size, 2, none⟩) (Nat.le_refl _) _))
    · have p0' : Flow.isPl (Flow.bt s 0) = false := by simpa using p0
      have R : Hid _ := head_zero (s := s) (.inr p0')
      rw [← hz0] at p0'
      clear hz0 p0
      unfold maxLen at hs
      go_enter Tryz.func33, Tryz.ntmps33
      go_wp2_with (go_at_call 65; refine (isPlaceR_any _ _).mono ?_; rintro e w' ⟨rfl, rfl⟩)
      exact bodyPost_ret (v := .tuple #[.agg #[.int .i64 0, .int .i64 0, .slice none 0 0], .int .i64 0, .bool false]) (by simp [results, Tryz.results33, go_sem]) rfl (readAll_head R.out (by decide) ((Below.refl _ _).alloc (Nat.le_refl _) _))

theorem checkR_long (s : ByteArray) (w : World) (hs : s.size ≤ maxLen) (h : 160 < s.size) :
    Calls Tryz.prog 14 #[.string s] w fun e w' => e = .returned (.tuple #[.int .i64 (Flow.checkErr s), .int .i64 (Flow.checkAt s)]) ∧ Below w.heap.size w w' := by
  have e1 : Flow.checkErr s = 1 := by unfold Flow.checkErr; rw [if_pos h]
  have e2 : Flow.checkAt s = 0 := by unfold Flow.checkAt; rw [if_pos h]
  rw [e1, e2]
  unfold maxLen at hs
  go_enter Tryz.func14, Tryz.ntmps14
  go_wp2
  go_ret2
  exact ⟨rfl, Below.refl _ _⟩

set_option maxHeartbeats 1000000 in
theorem checkR_any (s : ByteArray) (w : World) (hs : s.size ≤ maxLen) :
    Calls Tryz.prog 14 #[.string s] w fun e w' => e = .returned (.tuple #[.int .i64 (Flow.checkErr s), .int .i64 (Flow.checkAt s)]) ∧ Below w.heap.size w w' := by
  by_cases h : 160 < s.size
  · exact checkR_long s w hs h
  · have hs' := hs
    unfold maxLen at hs
    cases hok : Flow.readOk s with
    | false =>
      have e1 : Flow.checkErr s = 2 := by unfold Flow.checkErr; rw [if_neg h, if_pos hok]
      have e2 : Flow.checkAt s = Flow.readAt s := by unfold Flow.checkAt; rw [if_neg h, if_pos hok]
      rw [e1, e2]
      have c1 : ∀ w, Calls Tryz.prog 33 #[.string s] w fun e w' => e = .returned (.tuple #[.agg #[.int .i64 0, .int .i64 0, .slice none 0 0], .int .i64 (Flow.readAt s), .bool false]) ∧ Below w.heap.size w w' := fun w => (readR_any s w hs').mono fun e w' h => by
        obtain ⟨v, he, hb, _, hv⟩ := h
        rw [hok] at he
        rw [hv hok] at he
        exact ⟨he, hb⟩
      clear hok e1 e2
      go_enter Tryz.func14, Tryz.ntmps14
      go_wp2_with (go_at_call 33; refine (c1 _).mono ?_; rintro e w1 ⟨rfl, hb1⟩; have HB1 : Hid _ := hb1; clear hb1)
      go_ret2
      exact ⟨rfl, HB1.out.alloc HB1.out.size _⟩
    | true =>
      obtain ⟨h2, hh⟩ := readOk_size hok
      have c2 := fun w => shapeR_any s w hs' h2
      have c1 : ∀ w, Calls Tryz.prog 33 #[.string s] w fun e w' => ∃ x y a n cap, e = .returned (.tuple #[.agg #[.int .i64 x, .int .i64 y, .slice a n cap], .int .i64 (Flow.readAt s), .bool true]) ∧ Below w.heap.size w w' := fun w => (readR_any s w hs').mono fun e w' h => by
        obtain ⟨v, he, hb, hv, _⟩ := h
        rw [hok] at he
        obtain ⟨a, cap, hv, _⟩ := hv hok
        rw [hv] at he
        exact ⟨_, _, _, _, _, he, hb⟩
      by_cases hsh : Flow.shape s 2 false < s.size
      · have e1 : Flow.checkErr s = 3 := by unfold Flow.checkErr; rw [if_neg h, if_neg (by rw [hok]; simp), if_pos hsh]
        have e2 : Flow.checkAt s = Flow.shape s 2 false := by unfold Flow.checkAt; rw [if_neg h, if_neg (by rw [hok]; simp), if_pos hsh]
        have e3 : Flow.shapeI s = (Flow.shape s 2 false : Int) := by unfold Flow.shapeI; rw [if_pos hsh]
        rw [e1, e2]
        rw [e3] at c2
        clear hok e1 e2 e3 hsh hh
        go_enter Tryz.func14, Tryz.ntmps14
        go_wp2_with (first | (go_at_call 33; refine (c1 _).mono ?_; rintro e w1 ⟨x, y, a, n, cap, rfl, hb1⟩; have HB1 : Hid _ := hb1; clear hb1) | (go_at_call 34; refine (c2 _).mono ?_; rintro e w2 ⟨rfl, hb2⟩; have HB2 : Hid _ := hb2; clear hb2))
        go_ret2
        exact ⟨rfl, (HB1.out.alloc HB1.out.size _).trans (HB2.out.mono (by have := HB1.out.size; simp; omega))⟩
      · have e1 : Flow.checkErr s = 0 := by unfold Flow.checkErr; rw [if_neg h, if_neg (by rw [hok]; simp), if_neg hsh]
        have e2 : Flow.checkAt s = 0 := by unfold Flow.checkAt; rw [if_neg h, if_neg (by rw [hok]; simp), if_neg hsh]
        have e3 : Flow.shapeI s = -1 := by unfold Flow.shapeI; rw [if_neg hsh]
        rw [e1, e2]
        rw [e3] at c2
        clear hok e1 e2 e3 hsh hh
        go_enter Tryz.func14, Tryz.ntmps14
        go_wp2_with (first | (go_at_call 33; refine (c1 _).mono ?_; rintro e w1 ⟨x, y, a, n, cap, rfl, hb1⟩; have HB1 : Hid _ := hb1; clear hb1) | (go_at_call 34; refine (c2 _).mono ?_; rintro e w2 ⟨rfl, hb2⟩; have HB2 : Hid _ := hb2; clear hb2))
        go_ret2
        exact ⟨rfl, (HB1.out.alloc HB1.out.size _).trans (HB2.out.mono (by have := HB1.out.size; simp; omega))⟩
end Go.Proofs.YtdlldljgogbiaabGreat
