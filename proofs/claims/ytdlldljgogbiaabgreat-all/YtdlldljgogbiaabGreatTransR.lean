/-
  The reference's reader of one transition.
-/
import Derived.Test.YtdlldljgogbiaabGreatTrans
namespace Go.Proofs.YtdlldljgogbiaabGreat
open Go.RowKit
set_option linter.unusedVariables false
set_option maxRecDepth 20000

set_option maxHeartbeats 1000000 in
theorem transR_task (s : ByteArray) (i : Nat) (w : World) (hs : s.size ≤ maxLen) (hi : i ≤ s.size) (hlt : i < s.size) (hk : Flow.isTk (s[i].toNat) = true) :
    Calls Tryz.prog 66 #[.string s, .int .i64 i] w fun e w' => e = .returned (.tuple #[.agg (trR (Flow.trans s i).1), .int .i64 (Flow.trans s i).2.1, .bool (Flow.trans s i).2.2]) ∧ w' = w.alloc (.cells (trR (Flow.trans s i).1) 108) := by
  unfold maxLen at hs
  have HB : Hid (s[i].toNat = Flow.bt s i) := Flow.bt_at hlt
  have HL : Hid (Flow.isLb (s[i].toNat) = true) := by show _ = _; unfold Flow.isLb; rw [hk]; rfl
  obtain ⟨a, j, e⟩ : ∃ a j, Flow.places s (i + 1) 0 = (a, j) := ⟨_, _, rfl⟩
  have hj1 := Flow.places_ge s (i + 1) 0
  have hj2 := Flow.places_le s (i + 1) 0 (by omega)
  have ha := Flow.places_lt s (i + 1) 0 (by omega)
  rw [e] at hj1 hj2 ha
  dsimp only at hj1 hj2 ha
  have c1 : ∀ w, Calls Tryz.prog 101 #[.string s, .int .i64 ((i : Int) + 1)] w fun e w' => e = .returned (.tuple #[.int .i64 a, .int .i64 j]) ∧ w' = w := by
    intro w; have := placesR_any s (i + 1) w (by unfold maxLen; omega) (by omega); rw [e] at this; exact this
  have E : Hid _ := e
  clear e
  have tok1 : True := trivial
  by_cases g : a ≠ 0 ∧ j < s.size
  · obtain ⟨g1, g2⟩ := g
    have HJ : Hid (s[j].toNat = Flow.bt s j) := Flow.bt_at g2
    have t0 : ((a : Int) == 0) = false := by simp; omega
    by_cases g3 : s[j].toNat = 62
    · obtain ⟨b, k, e2⟩ : ∃ b k, Flow.places s (j + 1) 0 = (b, k) := ⟨_, _, rfl⟩
      have hk1 := Flow.places_ge s (j + 1) 0
      have hk2 := Flow.places_le s (j + 1) 0 (by omega)
      have hb := Flow.places_lt s (j + 1) 0 (by omega)
      rw [e2] at hk1 hk2 hb
      dsimp only at hk1 hk2 hb
      have c2 : ∀ w, Calls Tryz.prog 101 #[.string s, .int .i64 ((j : Int) + 1)] w fun e w' => e = .returned (.tuple #[.int .i64 b, .int .i64 k]) ∧ w' = w := by
        intro w; have := placesR_any s (j + 1) w (by unfold maxLen; omega) (by omega); rw [e2] at this; exact this
      have R := Flow.trans_all hlt (by rw [← HB.out]; exact HL.out) E.out e2 g1 g2 (by rw [← HJ.out]; exact g3)
      rw [R, ← HB.out]
      clear R e2
      have hn : decide (b ≠ 0) = ((b : Int) != 0) := by rw [Bool.eq_iff_iff]; simp
      rw [hn]
      clear hn
      skip
      go_enter Tryz.func66, Tryz.ntmps66
      go_wp2_with (first | (go_at_call 60; refine (isTask_any _ _).mono ?_; rintro e w' ⟨rfl, rfl⟩) | (go_at_call 101; have _t := tok1; refine (c1 _).mono ?_; rintro e w' ⟨rfl, rfl⟩; clear tok1) | (go_at_call 101; refine (c2 _).mono ?_; rintro e w' ⟨rfl, rfl⟩))
      all_goals refine bodyPost_ret (v := .tuple #[.agg (trR ⟨s[i].toNat, a, b⟩), .int .i64 k, .bool ((b : Int) != 0)]) (by simp [results, Tryz.results66, go_sem]) rfl ⟨rfl, rfl⟩
    · have R := Flow.trans_half hlt (by rw [← HB.out]; exact HL.out) (by rw [E.out]; dsimp only; intro h; rw [← HJ.out] at h; exact g3 h.2.2)
      rw [R, E.out]
      clear R
      have t1 : ((s[j].toNat : Int) != 62) = true := by simp; omega
      skip
      go_enter Tryz.func66, Tryz.ntmps66
      go_wp2_with (first | (go_at_call 60; refine (isTask_any _ _).mono ?_; rintro e w' ⟨rfl, rfl⟩) | (go_at_call 101; have _t := tok1; refine (c1 _).mono ?_; rintro e w' ⟨rfl, rfl⟩; clear tok1))
      all_goals refine bodyPost_ret (v := .tuple #[.agg (trR ⟨0, 0, 0⟩), .int .i64 j, .bool false]) (by simp [results, Tryz.results66, go_sem]) rfl ⟨rfl, rfl⟩
  · have R := Flow.trans_half hlt (by rw [← HB.out]; exact HL.out) (by rw [E.out]; dsimp only; intro h; exact g ⟨h.1, h.2.1⟩)
    rw [R, E.out]
    clear R
    by_cases g1 : a = 0
    · subst g1
      skip
      go_enter Tryz.func66, Tryz.ntmps66
      go_wp2_with (first | (go_at_call 60; refine (isTask_any _ _).mono ?_; rintro e w' ⟨rfl, rfl⟩) | (go_at_call 101; have _t := tok1; refine (c1 _).mono ?_; rintro e w' ⟨rfl, rfl⟩; clear tok1))
      all_goals refine bodyPost_ret (v := .tuple #[.agg (trR ⟨0, 0, 0⟩), .int .i64 j, .bool false]) (by simp [results, Tryz.results66, go_sem]) rfl ⟨rfl, rfl⟩
    · have t0 : ((a : Int) == 0) = false := by simp; omega
      have g2 : ¬ j < s.size := fun h => g ⟨g1, h⟩
      clear g
      skip
      go_enter Tryz.func66, Tryz.ntmps66
      go_wp2_with (first | (go_at_call 60; refine (isTask_any _ _).mono ?_; rintro e w' ⟨rfl, rfl⟩) | (go_at_call 101; have _t := tok1; refine (c1 _).mono ?_; rintro e w' ⟨rfl, rfl⟩; clear tok1))
      all_goals refine bodyPost_ret (v := .tuple #[.agg (trR ⟨0, 0, 0⟩), .int .i64 j, .bool false]) (by simp [results, Tryz.results66, go_sem]) rfl ⟨rfl, rfl⟩

set_option maxHeartbeats 1000000 in
theorem transR_dash (s : ByteArray) (i : Nat) (w : World) (hs : s.size ≤ maxLen) (hi : i ≤ s.size) (hlt : i < s.size) (hk : Flow.isTk (s[i].toNat) = false) (hd : ((s[i].toNat : Int) != 45) = false) :
    Calls Tryz.prog 66 #[.string s, .int .i64 i] w fun e w' => e = .returned (.tuple #[.agg (trR (Flow.trans s i).1), .int .i64 (Flow.trans s i).2.1, .bool (Flow.trans s i).2.2]) ∧ w' = w.alloc (.cells (trR (Flow.trans s i).1) 108) := by
  unfold maxLen at hs
  have HB : Hid (s[i].toNat = Flow.bt s i) := Flow.bt_at hlt
  have HL : Hid (Flow.isLb (s[i].toNat) = true) := by show _ = _; unfold Flow.isLb; rw [hk]; simp at hd ⊢; omega
  obtain ⟨a, j, e⟩ : ∃ a j, Flow.places s (i + 1) 0 = (a, j) := ⟨_, _, rfl⟩
  have hj1 := Flow.places_ge s (i + 1) 0
  have hj2 := Flow.places_le s (i + 1) 0 (by omega)
  have ha := Flow.places_lt s (i + 1) 0 (by omega)
  rw [e] at hj1 hj2 ha
  dsimp only at hj1 hj2 ha
  have c1 : ∀ w, Calls Tryz.prog 101 #[.string s, .int .i64 ((i : Int) + 1)] w fun e w' => e = .returned (.tuple #[.int .i64 a, .int .i64 j]) ∧ w' = w := by
    intro w; have := placesR_any s (i + 1) w (by unfold maxLen; omega) (by omega); rw [e] at this; exact this
  have E : Hid _ := e
  clear e
  have tok1 : True := trivial
  by_cases g : a ≠ 0 ∧ j < s.size
  · obtain ⟨g1, g2⟩ := g
    have HJ : Hid (s[j].toNat = Flow.bt s j) := Flow.bt_at g2
    have t0 : ((a : Int) == 0) = false := by simp; omega
    by_cases g3 : s[j].toNat = 62
    · obtain ⟨b, k, e2⟩ : ∃ b k, Flow.places s (j + 1) 0 = (b, k) := ⟨_, _, rfl⟩
      have hk1 := Flow.places_ge s (j + 1) 0
      have hk2 := Flow.places_le s (j + 1) 0 (by omega)
      have hb := Flow.places_lt s (j + 1) 0 (by omega)
      rw [e2] at hk1 hk2 hb
      dsimp only at hk1 hk2 hb
      have c2 : ∀ w, Calls Tryz.prog 101 #[.string s, .int .i64 ((j : Int) + 1)] w fun e w' => e = .returned (.tuple #[.int .i64 b, .int .i64 k]) ∧ w' = w := by
        intro w; have := placesR_any s (j + 1) w (by unfold maxLen; omega) (by omega); rw [e2] at this; exact this
      have R := Flow.trans_all hlt (by rw [← HB.out]; exact HL.out) E.out e2 g1 g2 (by rw [← HJ.out]; exact g3)
      rw [R, ← HB.out]
      clear R e2
      have hn : decide (b ≠ 0) = ((b : Int) != 0) := by rw [Bool.eq_iff_iff]; simp
      rw [hn]
      clear hn
      skip
      go_enter Tryz.func66, Tryz.ntmps66
      go_wp2_with (first | (go_at_call 60; refine (isTask_any _ _).mono ?_; rintro e w' ⟨rfl, rfl⟩) | (go_at_call 101; have _t := tok1; refine (c1 _).mono ?_; rintro e w' ⟨rfl, rfl⟩; clear tok1) | (go_at_call 101; refine (c2 _).mono ?_; rintro e w' ⟨rfl, rfl⟩))
      all_goals refine bodyPost_ret (v := .tuple #[.agg (trR ⟨s[i].toNat, a, b⟩), .int .i64 k, .bool ((b : Int) != 0)]) (by simp [results, Tryz.results66, go_sem]) rfl ⟨rfl, rfl⟩
    · have R := Flow.trans_half hlt (by rw [← HB.out]; exact HL.out) (by rw [E.out]; dsimp only; intro h; rw [← HJ.out] at h; exact g3 h.2.2)
      rw [R, E.out]
      clear R
      have t1 : ((s[j].toNat : Int) != 62) = true := by simp; omega
      skip
      go_enter Tryz.func66, Tryz.ntmps66
      go_wp2_with (first | (go_at_call 60; refine (isTask_any _ _).mono ?_; rintro e w' ⟨rfl, rfl⟩) | (go_at_call 101; have _t := tok1; refine (c1 _).mono ?_; rintro e w' ⟨rfl, rfl⟩; clear tok1))
      all_goals refine bodyPost_ret (v := .tuple #[.agg (trR ⟨0, 0, 0⟩), .int .i64 j, .bool false]) (by simp [results, Tryz.results66, go_sem]) rfl ⟨rfl, rfl⟩
  · have R := Flow.trans_half hlt (by rw [← HB.out]; exact HL.out) (by rw [E.out]; dsimp only; intro h; exact g ⟨h.1, h.2.1⟩)
    rw [R, E.out]
    clear R
    by_cases g1 : a = 0
    · subst g1
      skip
      go_enter Tryz.func66, Tryz.ntmps66
      go_wp2_with (first | (go_at_call 60; refine (isTask_any _ _).mono ?_; rintro e w' ⟨rfl, rfl⟩) | (go_at_call 101; have _t := tok1; refine (c1 _).mono ?_; rintro e w' ⟨rfl, rfl⟩; clear tok1))
      all_goals refine bodyPost_ret (v := .tuple #[.agg (trR ⟨0, 0, 0⟩), .int .i64 j, .bool false]) (by simp [results, Tryz.results66, go_sem]) rfl ⟨rfl, rfl⟩
    · have t0 : ((a : Int) == 0) = false := by simp; omega
      have g2 : ¬ j < s.size := fun h => g ⟨g1, h⟩
      clear g
      skip
      go_enter Tryz.func66, Tryz.ntmps66
      go_wp2_with (first | (go_at_call 60; refine (isTask_any _ _).mono ?_; rintro e w' ⟨rfl, rfl⟩) | (go_at_call 101; have _t := tok1; refine (c1 _).mono ?_; rintro e w' ⟨rfl, rfl⟩; clear tok1))
      all_goals refine bodyPost_ret (v := .tuple #[.agg (trR ⟨0, 0, 0⟩), .int .i64 j, .bool false]) (by simp [results, Tryz.results66, go_sem]) rfl ⟨rfl, rfl⟩

set_option maxHeartbeats 1000000 in
theorem transR_any (s : ByteArray) (i : Nat) (w : World) (hs : s.size ≤ maxLen) (hi : i ≤ s.size) :
    Calls Tryz.prog 66 #[.string s, .int .i64 i] w fun e w' => e = .returned (.tuple #[.agg (trR (Flow.trans s i).1), .int .i64 (Flow.trans s i).2.1, .bool (Flow.trans s i).2.2]) ∧ w' = w.alloc (.cells (trR (Flow.trans s i).1) 108) := by
  by_cases hlt : i < s.size
  · by_cases hk : Flow.isTk (s[i].toNat) = true
    · exact transR_task s i w hs hi hlt hk
    · have hk' : Flow.isTk (s[i].toNat) = false := by simpa using hk
      by_cases hd : s[i].toNat = 45
      · exact transR_dash s i w hs hi hlt hk' (by simp; omega)
      · have HB : Hid (s[i].toNat = Flow.bt s i) := Flow.bt_at hlt
        unfold maxLen at hs
        have hd' : ((s[i].toNat : Int) != 45) = true := by simp; omega
        have hl' : Flow.isLb (s[i].toNat) = false := by unfold Flow.isLb; rw [hk']; simp [hd]
        clear hk hd
        have R := Flow.trans_none (s := s) (i := i) (by intro h; rw [← HB.out, hl'] at h; exact absurd h.2 (by simp))
        rw [R]
        clear R hl'
        skip
        go_enter Tryz.func66, Tryz.ntmps66
        go_wp2_with (go_at_call 60; refine (isTask_any _ _).mono ?_; rintro e w' ⟨rfl, rfl⟩)
        all_goals refine bodyPost_ret (v := .tuple #[.agg (trR ⟨0, 0, 0⟩), .int .i64 i, .bool false]) (by simp [results, Tryz.results66, go_sem]) rfl ⟨rfl, rfl⟩
  · have R := Flow.trans_none (s := s) (i := i) (fun h => hlt h.1)
    unfold maxLen at hs
    rw [R]
    clear R
    go_enter Tryz.func66, Tryz.ntmps66
    go_wp2
    all_goals refine bodyPost_ret (v := .tuple #[.agg (trR ⟨0, 0, 0⟩), .int .i64 i, .bool false]) (by simp [results, Tryz.results66, go_sem]) rfl ⟨rfl, rfl⟩

end Go.Proofs.YtdlldljgogbiaabGreat
