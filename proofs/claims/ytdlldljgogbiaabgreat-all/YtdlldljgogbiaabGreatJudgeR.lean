/-
  The reference's Judge, Finish and Enable.
-/
import Derived.Test.YtdlldljgogbiaabGreatJudgedR
import Derived.Test.YtdlldljgogbiaabGreatFireR
namespace Go.Proofs.YtdlldljgogbiaabGreat
open Go.RowKit
set_option linter.unusedVariables false
set_option maxRecDepth 40000

/-- the end alone -/
def Flow.last (s : ByteArray) : Nat := 2 ^ (Flow.bt s 1 - 65)
/-- what Judge answers -/
def Flow.JudgeA (s : ByteArray) (v : Nat) (t : ByteArray) (e : Nat) : Prop :=
  (Flow.checkErr s ≠ 0 ∧ v = 0 ∧ t = ⟨#[]⟩ ∧ e = Flow.checkErr s) ∨
  (Flow.checkErr s = 0 ∧ e = 0 ∧ ∃ l, Flow.Bfs (Flow.readTr s) (Flow.first s) l ∧ Flow.JudgeIs (Flow.readTr s) (Flow.last s) l v t)
def JudgePost (s : ByteArray) (w : World) (en : Ending) (w' : World) : Prop :=
  ∃ v t e, en = .returned (.tuple #[.int .i64 (v : Nat), .string t, .int .i64 (e : Nat)]) ∧ Flow.JudgeA s v t e ∧ Below w.heap.size w w'
/-- what Finish answers -/
def Flow.FinishA (s run t : ByteArray) (e : Nat) : Prop :=
  (Flow.fireE s run ≠ 0 ∧ t = ⟨#[]⟩ ∧ e = Flow.fireE s run) ∨
  (Flow.fireE s run = 0 ∧ ∃ l, Flow.Bfs (Flow.readTr s) (Flow.played s run).1 l ∧
    ((∃ (i : Nat) (n : Flow.Node), l[i]? = some n ∧ n.mark = Flow.last s ∧ t = Flow.runOf (Flow.key l i) ∧ e = 0) ∨
     ((∀ (i : Nat) (n : Flow.Node), l[i]? = some n → n.mark ≠ Flow.last s) ∧ t = ⟨#[]⟩ ∧ e = 7)))
def FinishPost (s run : ByteArray) (w : World) (en : Ending) (w' : World) : Prop :=
  ∃ t e, en = .returned (.tuple #[.string t, .int .i64 (e : Nat)]) ∧ Flow.FinishA s run t e ∧ Below w.heap.size w w'
/-- what Enable answers -/
def Flow.EnableA (s step t : ByteArray) (e : Nat) : Prop :=
  (65536 < step.size ∧ t = ⟨#[]⟩ ∧ e = 1) ∨
  (¬ 65536 < step.size ∧ Flow.checkErr s ≠ 0 ∧ t = ⟨#[]⟩ ∧ e = Flow.checkErr s) ∨
  (¬ 65536 < step.size ∧ Flow.checkErr s = 0 ∧ ¬ (step.size = 1 ∧ Flow.num (Flow.bt step 0) < (Flow.readTr s).length) ∧ t = ⟨#[]⟩ ∧ e = 4) ∨
  (Flow.checkErr s = 0 ∧ step.size = 1 ∧ Flow.num (Flow.bt step 0) < (Flow.readTr s).length ∧ ∃ l ok, Flow.Bfs (Flow.readTr s) (Flow.first s) l ∧ Flow.ByIs (Flow.readTr s) l (Flow.num (Flow.bt step 0)) t ok ∧ e = if ok then 0 else 7)
def EnablePost (s step : ByteArray) (w : World) (en : Ending) (w' : World) : Prop :=
  ∃ t e, en = .returned (.tuple #[.string t, .int .i64 (e : Nat)]) ∧ Flow.EnableA s step t e ∧ Below w.heap.size w w'

set_option maxHeartbeats 1000000 in
theorem judgeR_any (s : ByteArray) (w : World) (hs : s.size ≤ maxLen) : Calls Tryz.prog 19 #[.string s] w (JudgePost s w) := by
  have ck := fun w => checkR_any s w hs
  by_cases h2 : Flow.checkErr s = 0
  · obtain ⟨hok, hsz, hp0, hp1⟩ := checkErr_ok h2
    have q0 := Flow.isPl_iff.1 hp0
    have q1 := Flow.isPl_iff.1 hp1
    have c1 := fun w => readR_ok s w hs h2
    have c2 : ∀ a cap base w, w.ownsRow base 108 3 (.slice a (Flow.readTr s).length cap) (Flow.readTr s).length (cellsR (Flow.readTr s)) → Calls Tryz.prog 40 #[.agg (netC ((Flow.bt s 0 - 65 : Nat) : Int) ((Flow.bt s 1 - 65 : Nat) : Int) a (Flow.readTr s).length cap)] w (JudgedPost (Flow.readTr s) (Flow.first s) (Flow.last s) w) := fun a cap base w ho => judgedR_any (Flow.readTr s) (Flow.bt s 0 - 65) (Flow.bt s 1 - 65) a cap base w (by omega) (by omega) (readTr_small s) (readTr_size s) ho
    have H2 : Hid _ := h2
    rw [h2] at ck
    clear h2 hok hsz hp0 hp1 q0 q1
    go_enter Tryz.func19, Tryz.ntmps19
    go_wp2_with (first | (go_at_call 14; refine (ck _).mono ?_; rintro e w0 ⟨rfl, hb0⟩; have HB0 : Hid _ := hb0; clear hb0) | (go_at_call 33; refine (c1 _).mono ?_; rintro e w1 ⟨a, cap, at', rfl, hb1, ho1⟩; have HB1 : Hid _ := hb1; have HO1 : Hid (w1.ownsRow _ 108 3 (.slice a (Flow.readTr s).length cap) (Flow.readTr s).length (cellsR (Flow.readTr s))) := ho1; clear hb1 ho1) | (go_at_call 40; refine (c2 a cap _ _ (HO1.out.alloc _)).mono ?_; rintro e w2 ⟨v, t, l, rfl, hbfs, hj, hb2⟩; have HB2 : Hid _ := hb2; have HJ : Hid (Flow.Bfs (Flow.readTr s) (Flow.first s) l ∧ Flow.JudgeIs (Flow.readTr s) (Flow.last s) l v t) := ⟨hbfs, hj⟩; clear hb2 hbfs hj))
    go_ret3
    have z0 := HB0.out.size
    have z1 := HB1.out.size
    exact ⟨v, t, 0, rfl, .inr ⟨H2.out, rfl, l, HJ.out⟩, ((HB0.out.trans (HB1.out.mono z0)).alloc (by omega) _).trans (HB2.out.mono (by simp; omega))⟩
  · have t2 : ((Flow.checkErr s : Int) != 0) = true := by simp; omega
    go_enter Tryz.func19, Tryz.ntmps19
    go_wp2_with (go_at_call 14; refine (ck _).mono ?_; rintro e w0 ⟨rfl, hb0⟩; have HB0 : Hid _ := hb0; clear hb0)
    go_ret3
    exact ⟨0, ⟨#[]⟩, Flow.checkErr s, rfl, .inl ⟨h2, rfl, rfl, rfl⟩, HB0.out⟩
end Go.Proofs.YtdlldljgogbiaabGreat
