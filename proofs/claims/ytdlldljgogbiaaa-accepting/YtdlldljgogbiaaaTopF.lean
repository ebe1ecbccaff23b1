/-
  The program's Judge.
-/
import Derived.Test.YtdlldljgogbiaaaJudgeF
import Derived.Test.YtdlldljgogbiaaaJudgeR
import Derived.Test.YtdlldljgogbiaaaFire
namespace Go.Proofs.Ytdlldljgogbiaaa
open Go.RowKit
set_option linter.unusedVariables false
set_option maxRecDepth 40000

theorem last_pbit {s : ByteArray} (h : Flow.isPl (Flow.bt s 1) = true) : Flow.last s = Flow.pbit (Flow.bt s 1) := by
  unfold Flow.last Flow.pbit; rw [if_pos h]

set_option maxHeartbeats 1000000 in
theorem judgeF_any (s : ByteArray) (w : World) (hs : s.size ≤ maxLen) : Calls Try.prog 20 #[.string s] w (JudgePost s w) := by
  by_cases h2 : Flow.checkErr s = 0
  · obtain ⟨hok, hsz, hp0, hp1⟩ := checkErr_ok h2
    obtain ⟨hf, hfe⟩ := first_lt hp0
    have hle := last_pbit hp1
    have c1 := fun w => netF_ok s w hs h2
    have c2 : ∀ a cap base w, w.ownsRow base 91 3 (.slice a (Flow.readTr s).length cap) (Flow.readTr s).length (cellsF (Flow.readTr s)) → Calls Try.prog 45 #[.agg (netF (Flow.bt s 0) (Flow.bt s 1) a (Flow.readTr s).length cap)] w (JudgedPost (Flow.readTr s) (Flow.first s) (Flow.last s) w) := fun a cap base w ho => by
      rw [hfe, hle]
      exact judgeNet_any (Flow.readTr s) (Flow.bt s 0) (Flow.bt s 1) a cap base w (Flow.bt_lt _ _) (Flow.bt_lt _ _) (readTr_small s) (readTr_size s) ho
    have H2 : Hid _ := h2
    clear h2 hok hsz hp0 hp1 hf hfe hle
    go_enter Try.func20, Try.ntmps20
    go_wp2_with (first | (go_at_call 38; refine (c1 _).mono ?_; rintro e w1 ⟨a, cap, rfl, hb1, ho1⟩; have HB1 : Hid _ := hb1; have HO1 : Hid (w1.ownsRow _ 91 3 (.slice a (Flow.readTr s).length cap) (Flow.readTr s).length (cellsF (Flow.readTr s))) := ho1; clear hb1 ho1) | (go_at_call 45; refine (c2 a cap _ _ (HO1.out.alloc _)).mono ?_; rintro e w2 ⟨v, t, l, rfl, hbfs, hj, hb2⟩; have HB2 : Hid _ := hb2; have HJ : Hid (Flow.Bfs (Flow.readTr s) (Flow.first s) l ∧ Flow.JudgeIs (Flow.readTr s) (Flow.last s) l v t) := ⟨hbfs, hj⟩; clear hb2 hbfs hj))
    go_ret3
    have z1 := HB1.out.size
    exact ⟨v, t, 0, rfl, .inr ⟨H2.out, rfl, l, HJ.out⟩, (HB1.out.alloc z1 _).trans (HB2.out.mono (by simp; omega))⟩
  · have c1 := fun w => netF_no s w hs h2
    have t2 : ((Flow.checkErr s : Int) != 0) = true := by simp; omega
    go_enter Try.func20, Try.ntmps20
    go_wp2_with (go_at_call 38; refine (c1 _).mono ?_; rintro e w1 ⟨rfl, hb1⟩; have HB1 : Hid _ := hb1; clear hb1)
    go_ret3
    exact ⟨0, ⟨#[]⟩, Flow.checkErr s, rfl, .inl ⟨h2, rfl, rfl, rfl⟩, HB1.out.alloc HB1.out.size _⟩
end Go.Proofs.Ytdlldljgogbiaaa
