/-
  The program's Judge.
-/
import Derived.Test.YtdlldljgogbiaabJudgeF
import Derived.Test.YtdlldljgogbiaabJudgeR
import Derived.Test.YtdlldljgogbiaabFire
namespace Go.Proofs.Ytdlldljgogbiaab
open Go.RowKit
set_option linter.unusedVariables false
set_option maxRecDepth 40000

theorem last_pbit {s : ByteArray} (h : Flow.isPl (Flow.bt s 1) = true) : Flow.last s = Flow.pbit (Flow.bt s 1) := by
  unfold Flow.last Flow.pbit; rw [if_pos h]

end Go.Proofs.Ytdlldljgogbiaab
