/-
  The program's looks for a step that spills, for a marking that has the end and more.
-/
import Derived.Test.YtdlldljgogbiaabStepF
import Derived.Test.YtdlldljgogbiaabJudgedR
namespace Go.Proofs.Ytdlldljgogbiaab
open Go.RowKit
set_option linter.unusedVariables false
set_option maxRecDepth 40000

/-- what firstSpill answers -/
def Flow.SpillAt (ts : List Flow.Tr) (l : List Flow.Node) (r s : Int) : Prop :=
  (∃ (i k : Nat) (n : Flow.Node), l[i]? = some n ∧ k < ts.length ∧ Flow.spillM ts n.mark k ∧ Flow.NoSpill ts l i k ∧ r = (i : Int) ∧ s = (k : Int)) ∨ (Flow.NoSpill ts l l.length 0 ∧ r = -1 ∧ s = -1)
theorem fireErr_spill {t : Flow.Tr} {m : Nat} : Flow.fireErr t m = 6 ↔ Flow.enabled t m = true ∧ Flow.spills t m = true := by
  unfold Flow.fireErr
  cases Flow.enabled t m <;> cases Flow.spills t m <;> simp

/-- what firstImproper answers -/
def Flow.ImpAt (e : Nat) (l : List Flow.Node) (r : Int) : Prop :=
  (∃ (i : Nat) (n : Flow.Node), l[i]? = some n ∧ Flow.Improper e n.mark ∧ Flow.NoImp e l i ∧ r = (i : Int)) ∨ (Flow.NoImp e l l.length ∧ r = -1)

end Go.Proofs.Ytdlldljgogbiaab
