/-
  The program's exchange of what transitions take and put.
-/
import Derived.Test.YtdlldljgogbiaabPlayF
import Derived.Test.YtdlldljgogbiaabTurn
import Derived.Test.YtdlldljgogbiaabLayR
namespace Go.Proofs.Ytdlldljgogbiaab
open Go.RowKit
set_option linter.unusedVariables false
set_option maxRecDepth 20000

theorem turn_snoc {ts : List Flow.Tr} {k : Nat} {t : Flow.Tr} (h : ts[k]? = some t) : Flow.turn (ts.take (k + 1)) = Flow.turn (ts.take k) ++ [Flow.turnT t] := by
  rw [List.take_add_one, h]; simp [Flow.turn]

end Go.Proofs.Ytdlldljgogbiaab
