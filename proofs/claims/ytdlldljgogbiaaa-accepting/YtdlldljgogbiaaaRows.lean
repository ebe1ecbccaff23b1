/-
  No cell of these rows narrows 'for every input' (looked for: loops, veiled, ifaces, maps, wideKeys, modest, calm, conditions, laid).
  DERIVED. THE GIVEN ROWS OF THIS SEAT. 12 by the template 'for every input the law returns true; each argument reads behind the call as it read before'; 0 by the template 'total and deterministic' (their statements: YtdlldljgogbiaaaTotals.lean).
  GIVEN WITH THE SEED: the statements are not yours to turn. If you find one false, say at which input.
  Laid BY PROGRAM, IN A SANDBOX (cutbox-rows.mjs): the forced cells as the released guide's own fill.sh prints them over the translation 004f7d346c85474c… (all of the seat's roots in one cut). By AI agents, Wed Nov 11 2026. No macro, syntax, notation, axiom, sorry.
-/
import Derived.Test.YtdlldljgogbiaaaChecked
import GoSem.Claim
import GoSem.ClaimJoined
import GoSem.ClaimMapViews
import Derived.JoinedTies
import Derived.KernelRfl
namespace Go.Proofs.Ytdlldljgogbiaaa
/- THE CELL 'sum', in the pinned program and in every row, IS THE sha256 OF THE DUMP (.gsa) THAT YtdlldljgogbiaaaProg.lean LOADS. Nothing in Lean hashes anything: it is a label: what it is worth is what the hold of that sum in a sandbox is worth. -/
noncomputable def Try.pinned : Pinned := { name := "ytdlldljgogbiaaa", sum := "004f7d346c85474c9617301b9d32e61ad095d92e4a3ec6937ed8eedc47fd74cb", checked := Try.checked }
namespace Rows
def none {H : Type} : Left H := { results := [], args := [] }

/-- 'flowlaw.Checks': WHATEVER THE INPUT: true; the input reads as it did. -/
def checksSpec : ChangeSpec := { name := "checks", fn := fun _ => fun
  | [d] => { results := [.lit (.bool true)], args := [d] }
  | _ => none }
def checksRow : OpenClaim := { program := "ytdlldljgogbiaaa", sum := "004f7d346c85474c9617301b9d32e61ad095d92e4a3ec6937ed8eedc47fd74cb", func := "flow/flowlaw.Checks", spec := "checks", apart := false }
def ChecksSaid : Prop := checksRow.holds Try.pinned (OpenSpec.ofChange checksSpec)

/-- ITS FALSE NEIGHBOUR: 'it returns false'. Refute it at one input. -/
def checksWrong : ChangeSpec := { name := "checks", fn := fun _ => fun
  | [d] => { results := [.lit (.bool false)], args := [d] }
  | _ => none }
def ChecksWrongFalsely : Prop := checksRow.holds Try.pinned (OpenSpec.ofChange checksWrong)

/-- 'flowlaw.Fires': WHATEVER THE INPUT: true; the input reads as it did. -/
def firesSpec : ChangeSpec := { name := "fires", fn := fun _ => fun
  | [d1, d2] => { results := [.lit (.bool true)], args := [d1, d2] }
  | _ => none }
def firesRow : OpenClaim := { program := "ytdlldljgogbiaaa", sum := "004f7d346c85474c9617301b9d32e61ad095d92e4a3ec6937ed8eedc47fd74cb", func := "flow/flowlaw.Fires", spec := "fires", apart := false }
def FiresSaid : Prop := firesRow.holds Try.pinned (OpenSpec.ofChange firesSpec)

/-- ITS FALSE NEIGHBOUR: 'it returns false'. Refute it at one input. -/
def firesWrong : ChangeSpec := { name := "fires", fn := fun _ => fun
  | [d1, d2] => { results := [.lit (.bool false)], args := [d1, d2] }
  | _ => none }
def FiresWrongFalsely : Prop := firesRow.holds Try.pinned (OpenSpec.ofChange firesWrong)

/-- 'flowlaw.Judges': WHATEVER THE INPUT: true; the input reads as it did. -/
def judgesSpec : ChangeSpec := { name := "judges", fn := fun _ => fun
  | [d] => { results := [.lit (.bool true)], args := [d] }
  | _ => none }
def judgesRow : OpenClaim := { program := "ytdlldljgogbiaaa", sum := "004f7d346c85474c9617301b9d32e61ad095d92e4a3ec6937ed8eedc47fd74cb", func := "flow/flowlaw.Judges", spec := "judges", apart := false }
def JudgesSaid : Prop := judgesRow.holds Try.pinned (OpenSpec.ofChange judgesSpec)

/-- ITS FALSE NEIGHBOUR: 'it returns false'. Refute it at one input. -/
def judgesWrong : ChangeSpec := { name := "judges", fn := fun _ => fun
  | [d] => { results := [.lit (.bool false)], args := [d] }
  | _ => none }
def JudgesWrongFalsely : Prop := judgesRow.holds Try.pinned (OpenSpec.ofChange judgesWrong)

/-- 'flowlaw.Finishes': WHATEVER THE INPUT: true; the input reads as it did. -/
def finishesSpec : ChangeSpec := { name := "finishes", fn := fun _ => fun
  | [d1, d2] => { results := [.lit (.bool true)], args := [d1, d2] }
  | _ => none }
def finishesRow : OpenClaim := { program := "ytdlldljgogbiaaa", sum := "004f7d346c85474c9617301b9d32e61ad095d92e4a3ec6937ed8eedc47fd74cb", func := "flow/flowlaw.Finishes", spec := "finishes", apart := false }
def FinishesSaid : Prop := finishesRow.holds Try.pinned (OpenSpec.ofChange finishesSpec)

/-- ITS FALSE NEIGHBOUR: 'it returns false'. Refute it at one input. -/
def finishesWrong : ChangeSpec := { name := "finishes", fn := fun _ => fun
  | [d1, d2] => { results := [.lit (.bool false)], args := [d1, d2] }
  | _ => none }
def FinishesWrongFalsely : Prop := finishesRow.holds Try.pinned (OpenSpec.ofChange finishesWrong)

/-- 'flowlaw.Enables': WHATEVER THE INPUT: true; the input reads as it did. -/
def enablesSpec : ChangeSpec := { name := "enables", fn := fun _ => fun
  | [d1, d2] => { results := [.lit (.bool true)], args := [d1, d2] }
  | _ => none }
def enablesRow : OpenClaim := { program := "ytdlldljgogbiaaa", sum := "004f7d346c85474c9617301b9d32e61ad095d92e4a3ec6937ed8eedc47fd74cb", func := "flow/flowlaw.Enables", spec := "enables", apart := false }
def EnablesSaid : Prop := enablesRow.holds Try.pinned (OpenSpec.ofChange enablesSpec)

/-- ITS FALSE NEIGHBOUR: 'it returns false'. Refute it at one input. -/
def enablesWrong : ChangeSpec := { name := "enables", fn := fun _ => fun
  | [d1, d2] => { results := [.lit (.bool false)], args := [d1, d2] }
  | _ => none }
def EnablesWrongFalsely : Prop := enablesRow.holds Try.pinned (OpenSpec.ofChange enablesWrong)

/-- 'flowlaw.SoundMeans': WHATEVER THE INPUT: true; the input reads as it did. -/
def soundMeansSpec : ChangeSpec := { name := "soundMeans", fn := fun _ => fun
  | [d1, d2] => { results := [.lit (.bool true)], args := [d1, d2] }
  | _ => none }
def soundMeansRow : OpenClaim := { program := "ytdlldljgogbiaaa", sum := "004f7d346c85474c9617301b9d32e61ad095d92e4a3ec6937ed8eedc47fd74cb", func := "flow/flowlaw.SoundMeans", spec := "soundMeans", apart := false }
def SoundMeansSaid : Prop := soundMeansRow.holds Try.pinned (OpenSpec.ofChange soundMeansSpec)

/-- ITS FALSE NEIGHBOUR: 'it returns false'. Refute it at one input. -/
def soundMeansWrong : ChangeSpec := { name := "soundMeans", fn := fun _ => fun
  | [d1, d2] => { results := [.lit (.bool false)], args := [d1, d2] }
  | _ => none }
def SoundMeansWrongFalsely : Prop := soundMeansRow.holds Try.pinned (OpenSpec.ofChange soundMeansWrong)

/-- 'flowlaw.SoundLives': WHATEVER THE INPUT: true; the input reads as it did. -/
def soundLivesSpec : ChangeSpec := { name := "soundLives", fn := fun _ => fun
  | [d] => { results := [.lit (.bool true)], args := [d] }
  | _ => none }
def soundLivesRow : OpenClaim := { program := "ytdlldljgogbiaaa", sum := "004f7d346c85474c9617301b9d32e61ad095d92e4a3ec6937ed8eedc47fd74cb", func := "flow/flowlaw.SoundLives", spec := "soundLives", apart := false }
def SoundLivesSaid : Prop := soundLivesRow.holds Try.pinned (OpenSpec.ofChange soundLivesSpec)

/-- ITS FALSE NEIGHBOUR: 'it returns false'. Refute it at one input. -/
def soundLivesWrong : ChangeSpec := { name := "soundLives", fn := fun _ => fun
  | [d] => { results := [.lit (.bool false)], args := [d] }
  | _ => none }
def SoundLivesWrongFalsely : Prop := soundLivesRow.holds Try.pinned (OpenSpec.ofChange soundLivesWrong)

/-- 'flowlaw.Shown': WHATEVER THE INPUT: true; the input reads as it did. -/
def shownSpec : ChangeSpec := { name := "shown", fn := fun _ => fun
  | [d] => { results := [.lit (.bool true)], args := [d] }
  | _ => none }
def shownRow : OpenClaim := { program := "ytdlldljgogbiaaa", sum := "004f7d346c85474c9617301b9d32e61ad095d92e4a3ec6937ed8eedc47fd74cb", func := "flow/flowlaw.Shown", spec := "shown", apart := false }
def ShownSaid : Prop := shownRow.holds Try.pinned (OpenSpec.ofChange shownSpec)

/-- ITS FALSE NEIGHBOUR: 'it returns false'. Refute it at one input. -/
def shownWrong : ChangeSpec := { name := "shown", fn := fun _ => fun
  | [d] => { results := [.lit (.bool false)], args := [d] }
  | _ => none }
def ShownWrongFalsely : Prop := shownRow.holds Try.pinned (OpenSpec.ofChange shownWrong)

/-- 'flowlaw.Ways': WHATEVER THE INPUT: true; the input reads as it did. -/
def waysSpec : ChangeSpec := { name := "ways", fn := fun _ => fun
  | [d1, d2, d3] => { results := [.lit (.bool true)], args := [d1, d2, d3] }
  | _ => none }
def waysRow : OpenClaim := { program := "ytdlldljgogbiaaa", sum := "004f7d346c85474c9617301b9d32e61ad095d92e4a3ec6937ed8eedc47fd74cb", func := "flow/flowlaw.Ways", spec := "ways", apart := false }
def WaysSaid : Prop := waysRow.holds Try.pinned (OpenSpec.ofChange waysSpec)

/-- ITS FALSE NEIGHBOUR: 'it returns false'. Refute it at one input. -/
def waysWrong : ChangeSpec := { name := "ways", fn := fun _ => fun
  | [d1, d2, d3] => { results := [.lit (.bool false)], args := [d1, d2, d3] }
  | _ => none }
def WaysWrongFalsely : Prop := waysRow.holds Try.pinned (OpenSpec.ofChange waysWrong)

/-- 'flowlaw.Lives': WHATEVER THE INPUT: true; the input reads as it did. -/
def livesSpec : ChangeSpec := { name := "lives", fn := fun _ => fun
  | [d1, d2, d3] => { results := [.lit (.bool true)], args := [d1, d2, d3] }
  | _ => none }
def livesRow : OpenClaim := { program := "ytdlldljgogbiaaa", sum := "004f7d346c85474c9617301b9d32e61ad095d92e4a3ec6937ed8eedc47fd74cb", func := "flow/flowlaw.Lives", spec := "lives", apart := false }
def LivesSaid : Prop := livesRow.holds Try.pinned (OpenSpec.ofChange livesSpec)

/-- ITS FALSE NEIGHBOUR: 'it returns false'. Refute it at one input. -/
def livesWrong : ChangeSpec := { name := "lives", fn := fun _ => fun
  | [d1, d2, d3] => { results := [.lit (.bool false)], args := [d1, d2, d3] }
  | _ => none }
def LivesWrongFalsely : Prop := livesRow.holds Try.pinned (OpenSpec.ofChange livesWrong)

/-- 'flowlaw.Playing': WHATEVER THE INPUT: true; the input reads as it did. -/
def playingSpec : ChangeSpec := { name := "playing", fn := fun _ => fun
  | [d1, d2] => { results := [.lit (.bool true)], args := [d1, d2] }
  | _ => none }
def playingRow : OpenClaim := { program := "ytdlldljgogbiaaa", sum := "004f7d346c85474c9617301b9d32e61ad095d92e4a3ec6937ed8eedc47fd74cb", func := "flow/flowlaw.Playing", spec := "playing", apart := false }
def PlayingSaid : Prop := playingRow.holds Try.pinned (OpenSpec.ofChange playingSpec)

/-- ITS FALSE NEIGHBOUR: 'it returns false'. Refute it at one input. -/
def playingWrong : ChangeSpec := { name := "playing", fn := fun _ => fun
  | [d1, d2] => { results := [.lit (.bool false)], args := [d1, d2] }
  | _ => none }
def PlayingWrongFalsely : Prop := playingRow.holds Try.pinned (OpenSpec.ofChange playingWrong)

/-- 'flowlaw.Accepting': WHATEVER THE INPUT: true; the input reads as it did. -/
def acceptingSpec : ChangeSpec := { name := "accepting", fn := fun _ => fun
  | [d1, d2] => { results := [.lit (.bool true)], args := [d1, d2] }
  | _ => none }
def acceptingRow : OpenClaim := { program := "ytdlldljgogbiaaa", sum := "004f7d346c85474c9617301b9d32e61ad095d92e4a3ec6937ed8eedc47fd74cb", func := "flow/flowlaw.Accepting", spec := "accepting", recurses := true, apart := false }
def AcceptingSaid : Prop := acceptingRow.holds Try.pinned (OpenSpec.ofChange acceptingSpec)

/-- ITS FALSE NEIGHBOUR: 'it returns false'. Refute it at one input. -/
def acceptingWrong : ChangeSpec := { name := "accepting", fn := fun _ => fun
  | [d1, d2] => { results := [.lit (.bool false)], args := [d1, d2] }
  | _ => none }
def AcceptingWrongFalsely : Prop := acceptingRow.holds Try.pinned (OpenSpec.ofChange acceptingWrong)

/- THE SECOND FORM. 'bulk': how many values and letters a reading holds, each counted each time it is reached (what is shared counts as often as it is met; a slice's spare places count too). A statement '..UptoSaid' is the law's where the arguments, and the package variables that the reading takes, are together of bulk at most 1048576: NARROWER than '..Said'. Prove '..Said' where nothing that the law and all that it calls make is longer than what came in: it says more and counts as full. Else prove '..UptoSaid'. A law counts once. -/
mutual
def uptoBulk {H : Type} : DataW H → Nat
  | .lit (.string bytes) => bytes.length + 1
  | .lit _ => 1
  | .nil => 1
  | .ptr d => uptoBulk d + 1
  | .slice elems spare => uptoBulkAll elems + uptoBulkAll spare + 1
  | .agg parts => uptoBulkAll parts + 1
  | .iface _ d => uptoBulk d + 1
  | .map entries => uptoBulkEntries entries + 1
  | .held _ => 1
def uptoBulkAll {H : Type} : List (DataW H) → Nat
  | [] => 0
  | d :: r => uptoBulk d + uptoBulkAll r
def uptoBulkEntries {H : Type} : List (Lit × DataW H) → Nat
  | [] => 0
  | x :: r => uptoBulkEntry x + uptoBulkEntries r
def uptoBulkEntry {H : Type} : Lit × DataW H → Nat
  | (.string bytes, d) => bytes.length + uptoBulk d + 1
  | (_, d) => uptoBulk d + 1
 end
def uptoSmall : (H : Type) → List (DataW H) → Bool := fun _ ds => decide (uptoBulkAll ds ≤ 1048576)
def OpenSpec.upto (s : _root_.Go.ChangeSpec) : _root_.Go.OpenSpec := { _root_.Go.OpenSpec.ofChange s with cond := some uptoSmall }

/-- 'flowlaw.Checks', WHERE WHAT IT READS IS OF BULK AT MOST 1048576: true; the input reads as it did. -/
def checksUptoRow : OpenClaim := { program := "ytdlldljgogbiaaa", sum := "004f7d346c85474c9617301b9d32e61ad095d92e4a3ec6937ed8eedc47fd74cb", func := "flow/flowlaw.Checks", spec := "checks", apart := false, narrowed := true }
def ChecksUptoSaid : Prop := checksUptoRow.holds Try.pinned (OpenSpec.upto checksSpec)

/-- 'flowlaw.Fires', WHERE WHAT IT READS IS OF BULK AT MOST 1048576: true; the input reads as it did. -/
def firesUptoRow : OpenClaim := { program := "ytdlldljgogbiaaa", sum := "004f7d346c85474c9617301b9d32e61ad095d92e4a3ec6937ed8eedc47fd74cb", func := "flow/flowlaw.Fires", spec := "fires", apart := false, narrowed := true }
def FiresUptoSaid : Prop := firesUptoRow.holds Try.pinned (OpenSpec.upto firesSpec)

/-- 'flowlaw.Judges', WHERE WHAT IT READS IS OF BULK AT MOST 1048576: true; the input reads as it did. -/
def judgesUptoRow : OpenClaim := { program := "ytdlldljgogbiaaa", sum := "004f7d346c85474c9617301b9d32e61ad095d92e4a3ec6937ed8eedc47fd74cb", func := "flow/flowlaw.Judges", spec := "judges", apart := false, narrowed := true }
def JudgesUptoSaid : Prop := judgesUptoRow.holds Try.pinned (OpenSpec.upto judgesSpec)

/-- 'flowlaw.Finishes', WHERE WHAT IT READS IS OF BULK AT MOST 1048576: true; the input reads as it did. -/
def finishesUptoRow : OpenClaim := { program := "ytdlldljgogbiaaa", sum := "004f7d346c85474c9617301b9d32e61ad095d92e4a3ec6937ed8eedc47fd74cb", func := "flow/flowlaw.Finishes", spec := "finishes", apart := false, narrowed := true }
def FinishesUptoSaid : Prop := finishesUptoRow.holds Try.pinned (OpenSpec.upto finishesSpec)

/-- 'flowlaw.Enables', WHERE WHAT IT READS IS OF BULK AT MOST 1048576: true; the input reads as it did. -/
def enablesUptoRow : OpenClaim := { program := "ytdlldljgogbiaaa", sum := "004f7d346c85474c9617301b9d32e61ad095d92e4a3ec6937ed8eedc47fd74cb", func := "flow/flowlaw.Enables", spec := "enables", apart := false, narrowed := true }
def EnablesUptoSaid : Prop := enablesUptoRow.holds Try.pinned (OpenSpec.upto enablesSpec)

/-- 'flowlaw.SoundMeans', WHERE WHAT IT READS IS OF BULK AT MOST 1048576: true; the input reads as it did. -/
def soundMeansUptoRow : OpenClaim := { program := "ytdlldljgogbiaaa", sum := "004f7d346c85474c9617301b9d32e61ad095d92e4a3ec6937ed8eedc47fd74cb", func := "flow/flowlaw.SoundMeans", spec := "soundMeans", apart := false, narrowed := true }
def SoundMeansUptoSaid : Prop := soundMeansUptoRow.holds Try.pinned (OpenSpec.upto soundMeansSpec)

/-- 'flowlaw.SoundLives', WHERE WHAT IT READS IS OF BULK AT MOST 1048576: true; the input reads as it did. -/
def soundLivesUptoRow : OpenClaim := { program := "ytdlldljgogbiaaa", sum := "004f7d346c85474c9617301b9d32e61ad095d92e4a3ec6937ed8eedc47fd74cb", func := "flow/flowlaw.SoundLives", spec := "soundLives", apart := false, narrowed := true }
def SoundLivesUptoSaid : Prop := soundLivesUptoRow.holds Try.pinned (OpenSpec.upto soundLivesSpec)

/-- 'flowlaw.Shown', WHERE WHAT IT READS IS OF BULK AT MOST 1048576: true; the input reads as it did. -/
def shownUptoRow : OpenClaim := { program := "ytdlldljgogbiaaa", sum := "004f7d346c85474c9617301b9d32e61ad095d92e4a3ec6937ed8eedc47fd74cb", func := "flow/flowlaw.Shown", spec := "shown", apart := false, narrowed := true }
def ShownUptoSaid : Prop := shownUptoRow.holds Try.pinned (OpenSpec.upto shownSpec)

/-- 'flowlaw.Ways', WHERE WHAT IT READS IS OF BULK AT MOST 1048576: true; the input reads as it did. -/
def waysUptoRow : OpenClaim := { program := "ytdlldljgogbiaaa", sum := "004f7d346c85474c9617301b9d32e61ad095d92e4a3ec6937ed8eedc47fd74cb", func := "flow/flowlaw.Ways", spec := "ways", apart := false, narrowed := true }
def WaysUptoSaid : Prop := waysUptoRow.holds Try.pinned (OpenSpec.upto waysSpec)

/-- 'flowlaw.Lives', WHERE WHAT IT READS IS OF BULK AT MOST 1048576: true; the input reads as it did. -/
def livesUptoRow : OpenClaim := { program := "ytdlldljgogbiaaa", sum := "004f7d346c85474c9617301b9d32e61ad095d92e4a3ec6937ed8eedc47fd74cb", func := "flow/flowlaw.Lives", spec := "lives", apart := false, narrowed := true }
def LivesUptoSaid : Prop := livesUptoRow.holds Try.pinned (OpenSpec.upto livesSpec)

/-- 'flowlaw.Playing', WHERE WHAT IT READS IS OF BULK AT MOST 1048576: true; the input reads as it did. -/
def playingUptoRow : OpenClaim := { program := "ytdlldljgogbiaaa", sum := "004f7d346c85474c9617301b9d32e61ad095d92e4a3ec6937ed8eedc47fd74cb", func := "flow/flowlaw.Playing", spec := "playing", apart := false, narrowed := true }
def PlayingUptoSaid : Prop := playingUptoRow.holds Try.pinned (OpenSpec.upto playingSpec)

/-- 'flowlaw.Accepting', WHERE WHAT IT READS IS OF BULK AT MOST 1048576: true; the input reads as it did. -/
def acceptingUptoRow : OpenClaim := { program := "ytdlldljgogbiaaa", sum := "004f7d346c85474c9617301b9d32e61ad095d92e4a3ec6937ed8eedc47fd74cb", func := "flow/flowlaw.Accepting", spec := "accepting", recurses := true, apart := false, narrowed := true }
def AcceptingUptoSaid : Prop := acceptingUptoRow.holds Try.pinned (OpenSpec.upto acceptingSpec)

end Rows
end Go.Proofs.Ytdlldljgogbiaaa
