/-
  The two readers of one transition.
-/
import Derived.Test.YtdlldljgogbiaabGreatPlaces
namespace Go.Proofs.YtdlldljgogbiaabGreat
open Go.RowKit
set_option linter.unusedVariables false
set_option maxRecDepth 20000

theorem Flow.trans_none {s : ByteArray} {i : Nat} (h : ¬ (i < s.size ∧ Flow.isLb (Flow.bt s i) = true)) : Flow.trans s i = (⟨0, 0, 0⟩, i, false) := by
  unfold Flow.trans; rw [if_neg h]
theorem Flow.trans_half {s : ByteArray} {i : Nat} (h : i < s.size) (h1 : Flow.isLb (Flow.bt s i) = true) (g : ¬ ((Flow.places s (i + 1) 0).1 ≠ 0 ∧ (Flow.places s (i + 1) 0).2 < s.size ∧ Flow.bt s (Flow.places s (i + 1) 0).2 = 62)) :
    Flow.trans s i = (⟨0, 0, 0⟩, (Flow.places s (i + 1) 0).2, false) := by
  unfold Flow.trans; rw [if_pos ⟨h, h1⟩, if_neg g]
theorem Flow.trans_all {s : ByteArray} {i : Nat} (h : i < s.size) (h1 : Flow.isLb (Flow.bt s i) = true) {a j b k : Nat} (e : Flow.places s (i + 1) 0 = (a, j)) (e2 : Flow.places s (j + 1) 0 = (b, k)) (g : a ≠ 0) (g2 : j < s.size) (g3 : Flow.bt s j = 62) :
    Flow.trans s i = (⟨Flow.bt s i, a, b⟩, k, decide (b ≠ 0)) := by
  unfold Flow.trans; rw [if_pos ⟨h, h1⟩]; rw [e]; dsimp only; rw [e2]; rw [if_pos ⟨g, g2, g3⟩]

set_option maxHeartbeats 1000000 in
theorem transF_any (s : ByteArray) (i : Nat) (w : World) (hs : s.size ≤ maxLen) (hi : i ≤ s.size) :
    Calls Tryz.prog 100 #[.string s, .int .i64 i] w fun e w' => e = .returned (.tuple #[.agg (trF (Flow.trans s i).1), .int .i64 (Flow.trans s i).2.1, .bool (Flow.trans s i).2.2]) ∧ w' = w.alloc (.cells (trF (Flow.trans s i).1) 93) := by
  unfold maxLen at hs
  by_cases hlt : i < s.size
  · have HB : Hid (s[i].toNat = Flow.bt s i) := Flow.bt_at hlt
    by_cases hl : Flow.isLb (s[i].toNat) = true
    · obtain ⟨a, j, e⟩ : ∃ a j, Flow.places s (i + 1) 0 = (a, j) := ⟨_, _, rfl⟩
      have hj1 := Flow.places_ge s (i + 1) 0
      have hj2 := Flow.places_le s (i + 1) 0 (by omega)
      have ha := Flow.places_lt s (i + 1) 0 (by omega)
      rw [e] at hj1 hj2 ha
      dsimp only at hj1 hj2 ha
      have c1 : ∀ w, Calls Tryz.prog 116 #[.string s, .int .i64 ((i : Int) + 1)] w fun e w' => e = .returned (.tuple #[.int .i64 a, .int .i64 j]) ∧ w' = w := by
        intro w; have := placesF_any s (i + 1) w (by unfold maxLen; omega) (by omega); rw [e] at this; exact this
      have E : Hid _ := e
      clear e
      have tok1 : True := trivial
      by_cases g : a ≠ 0 ∧ j < s.size
      · obtain ⟨g1, g2⟩ := g
        have HJ : Hid (s[j].toNat = Flow.bt s j) := Flow.bt_at g2
        have t0 : ((a : Int) == 0) = false := by simp; omega
        by_cases g3 : s[j].toNat = 62
        · obtain ⟨b, k, e2⟩ : ∃ b k, Flow.places s (j + 1) 0 = (b, k) := ⟨_, _, rfl⟩
          have hk1 := Flow.places_ge s (j + 1) 0
          have hk2 := Flow.places_le s (j + 1) 0 (by omega)
          have hb := Flow.places_lt s (j + 1) 0 (by omega)
          rw [e2] at hk1 hk2 hb
          dsimp only at hk1 hk2 hb
          have c2 : ∀ w, Calls Tryz.prog 116 #[.string s, .int .i64 ((j : Int) + 1)] w fun e w' => e = .returned (.tuple #[.int .i64 b, .int .i64 k]) ∧ w' = w := by
            intro w; have := placesF_any s (j + 1) w (by unfold maxLen; omega) (by omega); rw [e2] at this; exact this
          have R := Flow.trans_all hlt (by rw [← HB.out]; exact hl) E.out e2 g1 g2 (by rw [← HJ.out]; exact g3)
          rw [R, ← HB.out]
          clear R e2
          have hn : decide (b ≠ 0) = ((b : Int) != 0) := by rw [Bool.eq_iff_iff]; simp
          rw [hn]
          clear hn
          skip
          go_enter Tryz.func100, Tryz.ntmps100
          go_wp2_with (first | (go_at_call 115; refine (isLabel_any _ _).mono ?_; rintro e w' ⟨rfl, rfl⟩) | (go_at_call 116; have _t := tok1; refine (c1 _).mono ?_; rintro e w' ⟨rfl, rfl⟩; clear tok1) | (go_at_call 116; refine (c2 _).mono ?_; rintro e w' ⟨rfl, rfl⟩))
          all_goals refine bodyPost_ret (v := .tuple #[.agg (trF ⟨s[i].toNat, a, b⟩), .int .i64 k, .bool ((b : Int) != 0)]) (by simp [results, Tryz.results100, go_sem]) rfl ⟨rfl, rfl⟩
        · have R := Flow.trans_half hlt (by rw [← HB.out]; exact hl) (by rw [E.out]; dsimp only; intro h; rw [← HJ.out] at h; exact g3 h.2.2)
          rw [R, E.out]
          clear R
          have t1 : ((s[j].toNat : Int) != 62) = true := by simp; omega
          skip
          go_enter Tryz.func100, Tryz.ntmps100
          go_wp2_with (first | (go_at_call 115; refine (isLabel_any _ _).mono ?_; rintro e w' ⟨rfl, rfl⟩) | (go_at_call 116; have _t := tok1; refine (c1 _).mono ?_; rintro e w' ⟨rfl, rfl⟩; clear tok1))
          all_goals refine bodyPost_ret (v := .tuple #[.agg (trF ⟨0, 0, 0⟩), .int .i64 j, .bool false]) (by simp [results, Tryz.results100, go_sem]) rfl ⟨rfl, rfl⟩
      · have R := Flow.trans_half hlt (by rw [← HB.out]; exact hl) (by rw [E.out]; dsimp only; intro h; exact g ⟨h.1, h.2.1⟩)
        rw [R, E.out]
        clear R
        by_cases g1 : a = 0
        · subst g1
          skip
          go_enter Tryz.func100, Tryz.ntmps100
          go_wp2_with (first | (go_at_call 115; refine (isLabel_any _ _).mono ?_; rintro e w' ⟨rfl, rfl⟩) | (go_at_call 116; have _t := tok1; refine (c1 _).mono ?_; rintro e w' ⟨rfl, rfl⟩; clear tok1))
          all_goals refine bodyPost_ret (v := .tuple #[.agg (trF ⟨0, 0, 0⟩), .int .i64 j, .bool false]) (by simp [results, Tryz.results100, go_sem]) rfl ⟨rfl, rfl⟩
        · have t0 : ((a : Int) == 0) = false := by simp; omega
          have g2 : ¬ j < s.size := fun h => g ⟨g1, h⟩
          clear g
          skip
          go_enter Tryz.func100, Tryz.ntmps100
          go_wp2_with (first | (go_at_call 115; refine (isLabel_any _ _).mono ?_; rintro e w' ⟨rfl, rfl⟩) | (go_at_call 116; have _t := tok1; refine (c1 _).mono ?_; rintro e w' ⟨rfl, rfl⟩; clear tok1))
          all_goals refine bodyPost_ret (v := .tuple #[.agg (trF ⟨0, 0, 0⟩), .int .i64 j, .bool false]) (by simp [results, Tryz.results100, go_sem]) rfl ⟨rfl, rfl⟩
    · have hl' : Flow.isLb (s[i].toNat) = false := by simpa using hl
      clear hl
      have R := Flow.trans_none (s := s) (i := i) (by intro h; rw [← HB.out, hl'] at h; exact absurd h.2 (by simp))
      rw [R]
      clear R
      skip
      go_enter Tryz.func100, Tryz.ntmps100
      go_wp2_with (go_at_call 115; refine (isLabel_any _ _).mono ?_; rintro e w' ⟨rfl, rfl⟩)
      all_goals refine bodyPost_ret (v := .tuple #[.agg (trF ⟨0, 0, 0⟩), .int .i64 i, .bool false]) (by simp [results, Tryz.results100, go_sem]) rfl ⟨rfl, rfl⟩
  · have R := Flow.trans_none (s := s) (i := i) (fun h => hlt h.1)
    rw [R]
    clear R
    go_enter Tryz.func100, Tryz.ntmps100
    go_wp2
    all_goals refine bodyPost_ret (v := .tuple #[.agg (trF ⟨0, 0, 0⟩), .int .i64 i, .bool false]) (by simp [results, Tryz.results100, go_sem]) rfl ⟨rfl, rfl⟩

end Go.Proofs.YtdlldljgogbiaabGreat
