/-
  The reference's Fire.
-/
import Derived.Test.YtdlldljgogbiaabGreatFire
namespace Go.Proofs.YtdlldljgogbiaabGreat
open Go.RowKit
set_option linter.unusedVariables false
set_option maxRecDepth 20000

/-- read's contract for a net that Check admits -/
theorem readR_ok (s : ByteArray) (w : World) (hs : s.size ≤ maxLen) (h2 : Flow.checkErr s = 0) : Calls Tryz.prog 33 #[.string s] w fun e w' => ∃ a cap at', e = .returned (.tuple #[.agg #[.int .i64 ((Flow.bt s 0 - 65 : Nat) : Int), .int .i64 ((Flow.bt s 1 - 65 : Nat) : Int), .slice a (Flow.readTr s).length cap], .int .i64 at', .bool true]) ∧ Below w.heap.size w w' ∧ w'.ownsRow w.heap.size 108 3 (.slice a (Flow.readTr s).length cap) (Flow.readTr s).length (cellsR (Flow.readTr s)) :=
  (readR_any s w hs).mono fun e w' h => by
    obtain ⟨v, he, hb, hg, _⟩ := h
    have hok := (checkErr_ok h2).1
    obtain ⟨a, cap, hv, ho⟩ := hg hok
    rw [hok, hv] at he
    exact ⟨a, cap, _, he, hb, ho⟩

set_option maxHeartbeats 1000000 in
theorem fireR_any (s run : ByteArray) (w : World) (hs : s.size ≤ maxLen) (hr : run.size ≤ maxLen) : Calls Tryz.prog 17 #[.string s, .string run] w (FirePost s run w) := by
  have hr' := hr
  have hs' := hs
  unfold maxLen at hr hs
  have ck := fun w => checkR_any s w hs'
  by_cases h1 : 65536 < run.size
  · by_cases h0 : 160 < s.size
    · go_enter Tryz.func17, Tryz.ntmps17
      go_wp2
      go_ret3
      exact firePost_long h1 (Below.refl _ _)
    · go_enter Tryz.func17, Tryz.ntmps17
      go_wp2
      go_ret3
      exact firePost_long h1 (Below.refl _ _)
  · by_cases h0 : 160 < s.size
    · obtain ⟨e1, e2⟩ := checkErr_long h0
      have P := fun W => firePost_check (s := s) (run := run) (w := w) (W := W) h1 (by omega)
      rw [e1, e2] at P
      go_enter Tryz.func17, Tryz.ntmps17
      go_wp2
      go_ret3
      exact P _ (Below.refl _ _)
    · by_cases h2 : Flow.checkErr s = 0
      · obtain ⟨hok, hsz, hp0, hp1⟩ := checkErr_ok h2
        obtain ⟨hf, hfe⟩ := first_lt hp0
        have c1 := fun w => readR_ok s w hs' h2
        have hq := Flow.isPl_iff.1 hp0
        have hpow := pow_small' (Flow.bt s 0 - 65) (by omega)
        have c2 : ∀ a cap base w, w.ownsRow base 108 3 (.slice a (Flow.readTr s).length cap) (Flow.readTr s).length (cellsR (Flow.readTr s)) → Calls Tryz.prog 37 #[.agg #[.int .i64 ((Flow.bt s 0 - 65 : Nat) : Int), .int .i64 ((Flow.bt s 1 - 65 : Nat) : Int), .slice a (Flow.readTr s).length cap], .int .i64 (IntKind.i64.wrap (2 ^ (Flow.bt s 0 - 65))), .string run] w fun e w' => e = .returned (.tuple #[.int .i64 (Flow.played s run).1, .int .i64 (Flow.played s run).2.1, .int .i64 (Flow.played s run).2.2]) ∧ Below w.heap.size w w' := fun a cap base w ho => by
          rw [show IntKind.i64.wrap (2 ^ (Flow.bt s 0 - 65)) = wrap64 (2 ^ (Flow.bt s 0 - 65)) from IntWalk.i64_left _, hpow]
          exact stepsR_any (Flow.readTr s) _ _ a cap (Flow.first s) base run w hr' hf (readTr_small s) (readTr_size s) ho
        have hlt : (Flow.played s run).1 < 65536 := steps_lt (readTr_small s) hf
        have H2 : Hid _ := h2
        rw [h2] at ck
        obtain ⟨b, hb⟩ : ∃ b, b = Flow.bt s 0 - 65 := ⟨_, rfl⟩
        have hb15 : b ≤ 15 := by omega
        rw [← hb] at c1 c2
        clear h2 hok hp0 hp1 hfe hf hpow hq hb
        by_cases h4 : (Flow.played s run).2.1 = 0
        · have H4 : Hid _ := h4
          rw [h4] at c2
          clear h4
          go_enter Tryz.func17, Tryz.ntmps17
          go_wp2_with (first | (go_at_call 14; refine (ck _).mono ?_; rintro e w0 ⟨rfl, hb0⟩; have HB0 : Hid _ := hb0; clear hb0) | (go_at_call 33; refine (c1 _).mono ?_; rintro e w1 ⟨a, cap, at', rfl, hb1, ho1⟩; have HB1 : Hid _ := hb1; have HO1 : Hid (w1.ownsRow _ 108 3 (.slice a (Flow.readTr s).length cap) (Flow.readTr s).length (cellsR (Flow.readTr s))) := ho1; clear hb1 ho1))
          go_region_with (go_at_call 37; refine (c2 a cap _ _ ((HO1.out.alloc _).drew)).mono ?_; rintro e w2 ⟨rfl, hb2⟩; have HB2 : Hid _ := hb2; clear hb2)
          all_goals go_wp2_with (go_at_call 38; refine (textR_any _ _ hlt).mono ?_; rintro e w3 ⟨rfl, hb3⟩; have HB3 : Hid _ := hb3; clear hb3)
          all_goals go_ret3
          all_goals have q0 := HB0.out.size
          all_goals have q1 := HB1.out.size
          all_goals have q2 := HB2.out.size
          all_goals simp at q2
          all_goals exact firePost_ok h1 H2.out H4.out (((((HB0.out.trans (HB1.out.mono q0)).alloc (by omega) _).drew).trans (HB2.out.mono (by simp; omega))).trans (HB3.out.mono (by omega)))
        · have t4 : (((Flow.played s run).2.1 : Int) != 0) = true := by simp; omega
          have H4 : Hid _ := h4
          clear h4
          go_enter Tryz.func17, Tryz.ntmps17
          go_wp2_with (first | (go_at_call 14; refine (ck _).mono ?_; rintro e w0 ⟨rfl, hb0⟩; have HB0 : Hid _ := hb0; clear hb0) | (go_at_call 33; refine (c1 _).mono ?_; rintro e w1 ⟨a, cap, at', rfl, hb1, ho1⟩; have HB1 : Hid _ := hb1; have HO1 : Hid (w1.ownsRow _ 108 3 (.slice a (Flow.readTr s).length cap) (Flow.readTr s).length (cellsR (Flow.readTr s))) := ho1; clear hb1 ho1))
          go_region_with (go_at_call 37; refine (c2 a cap _ _ ((HO1.out.alloc _).drew)).mono ?_; rintro e w2 ⟨rfl, hb2⟩; have HB2 : Hid _ := hb2; clear hb2)
          all_goals go_wp2
          all_goals go_ret3
          all_goals have q0 := HB0.out.size
          all_goals have q1 := HB1.out.size
          all_goals exact firePost_step h1 H2.out H4.out ((((HB0.out.trans (HB1.out.mono q0)).alloc (by omega) _).drew).trans (HB2.out.mono (by simp; omega)))
      · have t2 : ((Flow.checkErr s : Int) != 0) = true := by simp; omega
        go_enter Tryz.func17, Tryz.ntmps17
        go_wp2_with (go_at_call 14; refine (ck _).mono ?_; rintro e w0 ⟨rfl, hb0⟩; have HB0 : Hid _ := hb0; clear hb0)
        go_ret3
        exact firePost_check h1 h2 HB0.out
end Go.Proofs.YtdlldljgogbiaabGreat
