/-
  The reference's Ended.
-/
import Derived.Test.YtdlldljgogbiaaaPlayR
namespace Go.Proofs.Ytdlldljgogbiaaa
open Go.RowKit
set_option linter.unusedVariables false
set_option maxRecDepth 40000

/-- the text is a run that has ended -/
def Flow.EndsBy (s run : ByteArray) : Prop := ∃ ks, Flow.runOf ks = run ∧ Flow.goes (Flow.readTr s) (Flow.first s) ks = some (Flow.last s)

/-- what Ended answers -/
def EndedPost (s run : ByteArray) (w : World) (e : Ending) (w' : World) : Prop := ∃ b, e = .returned (.bool b) ∧ (b = true ↔ Flow.EndsBy s run) ∧ Below w.heap.size w w'

set_option maxRecDepth 400000 in
set_option maxHeartbeats 4000000 in
theorem endedR_any (s run : ByteArray) (w : World) (hs : s.size ≤ maxLen) (hr : run.size ≤ maxLen) (hc : Flow.checkErr s = 0) : Calls Try.prog 29 #[.string s, .string run] w (EndedPost s run w) := by
  obtain ⟨hok, hsz, hp0, hp1⟩ := checkErr_ok hc
  have q0 := Flow.isPl_iff.1 hp0
  have q1 := Flow.isPl_iff.1 hp1
  obtain ⟨hf, hfe⟩ := first_lt hp0
  have c1 := fun w => readR_ok s w hs hc
  have hpow := pow_small' (Flow.bt s 0 - 65) (by omega)
  have hlt : (Flow.played s run).1 < 65536 := steps_lt (readTr_small s) hf
  have c2 : ∀ a cap base w, w.ownsRow base 97 3 (.slice a (Flow.readTr s).length cap) (Flow.readTr s).length (cellsR (Flow.readTr s)) → Calls Try.prog 43 #[.agg #[.int .i64 ((Flow.bt s 0 - 65 : Nat) : Int), .int .i64 ((Flow.bt s 1 - 65 : Nat) : Int), .slice a (Flow.readTr s).length cap], .int .i64 (IntKind.i64.wrap (2 ^ (Flow.bt s 0 - 65))), .string run] w fun e w' => e = .returned (.tuple #[.int .i64 (Flow.played s run).1, .int .i64 (Flow.played s run).2.1, .int .i64 (Flow.played s run).2.2]) ∧ Below w.heap.size w w' := fun a cap base w ho => by
    rw [wrap_is, hpow]
    exact stepsR_any (Flow.readTr s) ((Flow.bt s 0 - 65 : Nat) : Int) ((Flow.bt s 1 - 65 : Nat) : Int) a cap (Flow.first s) base run w hr hf (readTr_small s) (readTr_size s) ho
  have hw2 : wrap64 (2 ^ (Flow.bt s 1 - 65)) = (Flow.last s : Int) := pow_small' _ (by omega)
  obtain ⟨E, hE⟩ : ∃ E, E = Flow.last s := ⟨_, rfl⟩
  rw [← hE] at hw2
  have hw1 : IntKind.i64.wrap (2 ^ (Flow.bt s 1 - 65)) = (E : Int) := by rw [wrap_is]; exact hw2
  have PG : Hid (((Flow.played s run).2.1 = 0 ∧ (Flow.played s run).1 = E) ↔ Flow.EndsBy s run) := by rw [hE]; exact played_goes
  obtain ⟨b0, e0⟩ : ∃ b, b = Flow.bt s 0 - 65 := ⟨_, rfl⟩
  obtain ⟨b1, e1⟩ : ∃ b, b = Flow.bt s 1 - 65 := ⟨_, rfl⟩
  have hb0 : b0 ≤ 15 := by omega
  have hb1 : b1 ≤ 15 := by omega
  rw [← e0, ← e1] at c1 c2
  rw [← e1] at hw1 hw2
  obtain ⟨ts, ets⟩ : ∃ ts, ts = Flow.readTr s := ⟨_, rfl⟩
  rw [← ets] at c1 c2
  obtain ⟨pm, epm⟩ : ∃ pm, pm = (Flow.played s run).1 := ⟨_, rfl⟩
  obtain ⟨pe, epe⟩ : ∃ pe, pe = (Flow.played s run).2.1 := ⟨_, rfl⟩
  rw [← epm, ← epe] at c2 PG
  clear hok hsz hp0 hp1 q0 q1 hf hfe hpow e0 e1 ets epm epe hE hlt
  go_enter Try.func29, Try.ntmps29
  go_wp2_with (go_at_call 39; refine (c1 _).mono ?_; rintro e w1 ⟨a, cap, at', rfl, hb1, ho1⟩; have HB1 : Hid _ := hb1; have HO1 : Hid (w1.ownsRow _ 97 3 (.slice a ts.length cap) ts.length (cellsR ts)) := ho1; clear hb1 ho1)
  have HB2 : Hid (Below w.heap.size w (w1.alloc (.cells (netC (b0 : Int) (b1 : Int) a ts.length cap) 65))) := HB1.out.alloc HB1.out.size _
  have K0 : Hid (Blk (w1.alloc (.cells (netC (b0 : Int) (b1 : Int) a ts.length cap) 65)) w1.heap.size (netC (b0 : Int) (b1 : Int) a ts.length cap) 65) := Blk.new _ _ _
  have HO2 : Hid ((w1.alloc (.cells (netC (b0 : Int) (b1 : Int) a ts.length cap) 65)).ownsRow _ 97 3 (.slice a ts.length cap) ts.length (cellsR ts)) := HO1.out.alloc _
  generalize w1.alloc (.cells (netC (b0 : Int) (b1 : Int) a ts.length cap) 65) = W at HB2 K0 HO2 ⊢
  obtain ⟨X, hX⟩ : ∃ X, X = w1.heap.size := ⟨_, rfl⟩
  have K0' : Hid (Blk W X (netC (b0 : Int) (b1 : Int) a ts.length cap) 65) := by rw [hX]; exact K0.out
  rw [← hX]
  clear hX K0 HB1 HO1 c1
  have n0 : W.cell? ⟨X, 0, none⟩ = some (.int .i64 b0) := K0'.out.cell 0
  have n1 : W.cell? ⟨X, 1, none⟩ = some (.int .i64 b1) := K0'.out.cell 1
  have n2 : W.cell? ⟨X, 2, none⟩ = some (.slice a ts.length cap) := K0'.out.cell 2
  have z0 := K0'.out.lt
  go_region_held3 (fun w' => w'.cell? ⟨X, 0, none⟩ = some (.int .i64 b0) ∧ w'.cell? ⟨X, 1, none⟩ = some (.int .i64 b1) ∧ w'.cell? ⟨X, 2, none⟩ = some (.slice a ts.length cap)) (go_keep) (first | (go_at_call 43; refine (c2 a cap _ _ (HO2.out.drew)).mono ?_; rintro e w2 ⟨rfl, hb2⟩; have HB3 : Hid _ := hb2; have v0 : w2.cell? ⟨X, 0, none⟩ = some (.int .i64 b0) := (hb2.cell (p := ⟨X, 0, none⟩) z0).trans n0; have v1 : w2.cell? ⟨X, 1, none⟩ = some (.int .i64 b1) := (hb2.cell (p := ⟨X, 1, none⟩) z0).trans n1; have v2 : w2.cell? ⟨X, 2, none⟩ = some (.slice a ts.length cap) := (hb2.cell (p := ⟨X, 2, none⟩) z0).trans n2; clear hb2))
  have HB4 : Hid (Below w.heap.size w w2) := (HB2.out.drew).trans (HB3.out.mono HB2.out.size)
  clear n0 n1 n2 HB2 HB3 HO2 K0' z0 c2
  by_cases hp : pe = 0
  · subst hp
    go_wp2
    go_ret
    refine ⟨_, rfl, ?_, HB4.out⟩
    rw [← PG.out]
    simp; omega
  · have d : ((pe : Int) == 0) = false := by simp; omega
    have NE : Hid (¬ Flow.EndsBy s run) := fun h => hp (PG.out.2 h).1
    clear PG
    go_wp2
    go_ret
    exact ⟨false, rfl, ⟨fun h => (by cases h), fun h => absurd h NE.out⟩, HB4.out⟩
end Go.Proofs.Ytdlldljgogbiaaa
