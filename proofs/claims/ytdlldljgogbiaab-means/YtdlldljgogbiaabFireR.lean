/-
  The reference's Fire.
-/
import Derived.Test.YtdlldljgogbiaabFire
namespace Go.Proofs.Ytdlldljgogbiaab
open Go.RowKit
set_option linter.unusedVariables false
set_option maxRecDepth 20000

/-- read's contract for a net that Check admits -/
theorem readR_ok (s : ByteArray) (w : World) (hs : s.size ≤ maxLen) (h2 : Flow.checkErr s = 0) : Calls Try.prog 22 #[.string s] w fun e w' => ∃ a cap at', e = .returned (.tuple #[.agg #[.int .i64 ((Flow.bt s 0 - 65 : Nat) : Int), .int .i64 ((Flow.bt s 1 - 65 : Nat) : Int), .slice a (Flow.readTr s).length cap], .int .i64 at', .bool true]) ∧ Below w.heap.size w w' ∧ w'.ownsRow w.heap.size 60 3 (.slice a (Flow.readTr s).length cap) (Flow.readTr s).length (cellsR (Flow.readTr s)) :=
  (readR_any s w hs).mono fun e w' h => by
    obtain ⟨v, he, hb, hg, _⟩ := h
    have hok := (checkErr_ok h2).1
    obtain ⟨a, cap, hv, ho⟩ := hg hok
    rw [hok, hv] at he
    exact ⟨a, cap, _, he, hb, ho⟩

end Go.Proofs.Ytdlldljgogbiaab
