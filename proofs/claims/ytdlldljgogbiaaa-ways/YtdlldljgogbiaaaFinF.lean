/-
  The program's Finish.
-/
import Derived.Test.YtdlldljgogbiaaaJudgeF
import Derived.Test.YtdlldljgogbiaaaJudgeR
import Derived.Test.YtdlldljgogbiaaaFire
namespace Go.Proofs.Ytdlldljgogbiaaa
open Go.RowKit
set_option linter.unusedVariables false
set_option maxRecDepth 40000

theorem finish_ok {s run : ByteArray} {w W : World} {ts : List Flow.Tr} {M i : Nat} {l : List Flow.Node} {n : Flow.Node} (hE : Flow.fireE s run = 0) (h1 : ts = Flow.readTr s) (h2 : M = (Flow.played s run).1) (hl : Flow.last s = Flow.pbit (Flow.bt s 1)) (hb : Flow.Bfs ts M l) (hi : l[i]? = some n) (hn : n.mark = Flow.pbit (Flow.bt s 1)) (hw : Below w.heap.size w W) :
    FinishPost s run w (.returned (.tuple #[.string (Flow.runOf (Flow.key l i)), .int .i64 0])) W := by
  subst h1 h2
  exact ⟨_, 0, rfl, .inr ⟨hE, l, hb, .inl ⟨i, n, hi, by rw [hl]; exact hn, rfl, rfl⟩⟩, hw⟩
theorem finish_no {s run : ByteArray} {w W : World} {ts : List Flow.Tr} {M : Nat} {l : List Flow.Node} (hE : Flow.fireE s run = 0) (h1 : ts = Flow.readTr s) (h2 : M = (Flow.played s run).1) (hl : Flow.last s = Flow.pbit (Flow.bt s 1)) (hb : Flow.Bfs ts M l) (hn : ∀ (i : Nat) (n : Flow.Node), l[i]? = some n → n.mark ≠ Flow.pbit (Flow.bt s 1)) (hw : Below w.heap.size w W) :
    FinishPost s run w (.returned (.tuple #[.string ⟨#[]⟩, .int .i64 7])) W := by
  subst h1 h2
  exact ⟨_, 7, rfl, .inr ⟨hE, l, hb, .inr ⟨fun i n h => by rw [hl]; exact hn i n h, rfl, rfl⟩⟩, hw⟩

set_option maxHeartbeats 2000000 in
theorem finishF_any (s run : ByteArray) (w : World) (hs : s.size ≤ maxLen) (hr : run.size ≤ maxLen) : Calls Try.prog 22 #[.string s, .string run] w (FinishPost s run w) := by
  have c1 := fun w => playNet_any s run w hs hr
  by_cases hE : Flow.fireE s run = 0
  · obtain ⟨h1, h2, h4⟩ := fireE_ok hE
    obtain ⟨hok, hsz, hp0, hp1⟩ := checkErr_ok h2
    obtain ⟨hf, hfe⟩ := first_lt hp0
    have hle : Flow.last s = Flow.pbit (Flow.bt s 1) := by unfold Flow.last Flow.pbit; rw [if_pos hp1]
    have hlt : (Flow.played s run).1 < 65536 := steps_lt (readTr_small s) hf
    have c2 : ∀ w, Calls Try.prog 41 #[.string s, .string run] w fun e w' => ∃ a cap, e = .returned (.tuple #[.agg (netF (Flow.bt s 0) (Flow.bt s 1) a (Flow.readTr s).length cap), .int .i64 (Flow.played s run).1, .int .i64 0, .int .i64 (Flow.played s run).2.2]) ∧ Below w.heap.size w w' ∧ w'.ownsRow w.heap.size 91 3 (.slice a (Flow.readTr s).length cap) (Flow.readTr s).length (cellsF (Flow.readTr s)) := fun w => (c1 w).mono fun e w' h => by
      obtain ⟨hb, ⟨g, _⟩ | ⟨_, g, _⟩ | ⟨_, _, a, cap, he, ho⟩⟩ := h
      · exact absurd g h1
      · exact absurd h2 g
      · rw [h4] at he; exact ⟨a, cap, he, hb, ho⟩
    have c3 := fun a cap b' W ho => explore_any (Flow.readTr s) a cap (Flow.played s run).1 b' W hlt (readTr_small s) (readTr_size s) ho
    have HE : Hid (Flow.fireE s run = 0) := hE
    have HL : Hid (Flow.last s = Flow.pbit (Flow.bt s 1)) := hle
    clear c1 hE h1 h2 h4 hok hsz hp0 hp1 hf hfe hle hlt
    obtain ⟨ts, hts⟩ : ∃ ts, ts = Flow.readTr s := ⟨_, rfl⟩
    obtain ⟨M, hM⟩ : ∃ M, M = (Flow.played s run).1 := ⟨_, rfl⟩
    have TS : Hid (ts = Flow.readTr s ∧ M = (Flow.played s run).1) := ⟨hts, hM⟩
    rw [← hts, ← hM] at c2 c3
    have hlen : ts.length ≤ 16 := by rw [hts]; exact readTr_size s
    clear hts hM
    go_enter Try.func22, Try.ntmps22
    go_wp2_with (first
      | (go_at_call 41; refine (c2 _).mono ?_; rintro e w1 ⟨a, cap, rfl, hb1, ho1⟩; have HB1 : Hid _ := hb1; have HO1 : Hid (w1.ownsRow w.heap.size 91 3 (.slice a ts.length cap) ts.length (cellsF ts)) := ho1; clear hb1 ho1)
      | (go_at_call 47; refine (c3 a cap _ _ (HO1.out.alloc _)).mono ?_; rintro e w2 ⟨aV, cV, A, l, arr, rfl, hbfs, hrows, hb2⟩; have I2 : Hid (SeaIn (w2.alloc (.cells (seaC aV l.length cV A) 78)) 0 w2.heap.size l) := sea_new hrows; have BF : Hid (Flow.Bfs ts M l) := hbfs; have k3 : Blk w2 w1.heap.size (netF (Flow.bt s 0) (Flow.bt s 1) a ts.length cap) 60 := (Blk.new w1 _ _).below hb2 (by simp); have r0 : w2.cell? ⟨w1.heap.size, 0, none⟩ = some (.int .u8 (Flow.bt s 0)) := k3.cell 0; have r1 : w2.cell? ⟨w1.heap.size, 1, none⟩ = some (.int .u8 (Flow.bt s 1)) := k3.cell 1; have r2 : w2.cell? ⟨w1.heap.size, 2, none⟩ = some (.slice a ts.length cap) := k3.cell 2; have z3 := k3.lt; have E2 : Hid (Below w.heap.size w (w2.alloc (.cells (seaC aV l.length cV A) 78))) := (have q1 := HB1.out.size; have q2 := hb2.size; ((HB1.out.alloc q1 _).trans (hb2.mono (by simp; omega))).alloc (by simp at q2; omega) _); clear hbfs hrows hb2 k3)
      | (go_at_call 48; refine (endVisit_any ts M l (Flow.bt s 0) (Flow.bt s 1) a ts.length cap 0 w2.heap.size (l.length * 16) _ (Flow.bt_lt _ _) BF.out I2.out).mono ?_; rintro e w3 ⟨r, rfl, hr, hb3⟩; have I3 : Hid (SeaIn w3 0 w2.heap.size l) := I2.out.below hb3; have E3 : Hid (Below w.heap.size w w3) := E2.out.trans (hb3.mono E2.out.size); clear hb3; rcases hr with ⟨i, n, j1, j2, rfl⟩ | ⟨j3, rfl⟩)
      | (go_at_call 49; refine (runTo_any ts M l 0 w2.heap.size i (l.length * 16) _ BF.out (List.getElem?_eq_some_iff.1 j1).1 I3.out).mono ?_; rintro e w5 ⟨a5, cap5, rfl, ho, hb⟩; have hcv := string_of_owned (Flow.signs (Flow.key l i)) ho; have E5 : Hid (Below w.heap.size w w5) := E3.out.trans (hb.mono E3.out.size); clear hb ho))
    all_goals go_ret2
    all_goals (first
      | (have _t := j1; exact finish_ok HE.out TS.out.1 TS.out.2 HL.out BF.out j1 j2 E5.out)
      | exact finish_no HE.out TS.out.1 TS.out.2 HL.out BF.out j3 E3.out)
  · have t2 : ((Flow.fireE s run : Int) != 0) = true := by simp; omega
    have c2 : ∀ w, Calls Try.prog 41 #[.string s, .string run] w fun e w' => ∃ x y a n cap m p, e = .returned (.tuple #[.agg (netF x y a n cap), .int .i64 (m : Nat), .int .i64 (Flow.fireE s run), .int .i64 (p : Nat)]) ∧ Below w.heap.size w w' := fun w => (c1 w).mono fun e w' h => by
      obtain ⟨hb, ⟨g, he⟩ | ⟨g1, g2, he⟩ | ⟨g1, g2, a, cap, he, _⟩⟩ := h
      · refine ⟨0, 0, none, 0, 0, 0, 0, ?_, hb⟩
        rw [he]; unfold Flow.fireE; rw [if_pos g]; rfl
      · refine ⟨0, 0, none, 0, 0, 0, Flow.checkAt s, ?_, hb⟩
        rw [he]; unfold Flow.fireE; rw [if_neg g1, if_pos g2]; rfl
      · refine ⟨Flow.bt s 0, Flow.bt s 1, a, (Flow.readTr s).length, cap, (Flow.played s run).1, (Flow.played s run).2.2, ?_, hb⟩
        rw [he]; unfold Flow.fireE; rw [if_neg g1, if_neg (fun x => x g2)]
    clear c1
    go_enter Try.func22, Try.ntmps22
    go_wp2_with (go_at_call 41; refine (c2 _).mono ?_; rintro e w1 ⟨x, y, a, n, cap, m, p, rfl, hb1⟩; have HB1 : Hid _ := hb1; clear hb1)
    go_ret2
    exact ⟨⟨#[]⟩, Flow.fireE s run, rfl, .inl ⟨hE, rfl, rfl⟩, HB1.out.alloc HB1.out.size _⟩
end Go.Proofs.Ytdlldljgogbiaaa
