/-
  The program's looks for a marking that cannot end and for a transition that is dead.
-/
import Derived.Test.YtdlldljgogbiaabStepF
import Derived.Test.YtdlldljgogbiaabTurnF
import Derived.Test.YtdlldljgogbiaabJudgedR
namespace Go.Proofs.Ytdlldljgogbiaab
open Go.RowKit
set_option linter.unusedVariables false
set_option maxRecDepth 40000

/-- what firstDead answers -/
def Flow.DeadAt (ts : List Flow.Tr) (l : List Flow.Node) (r : Int) : Prop :=
  (∃ k, k < ts.length ∧ Flow.NoBy ts l k l.length ∧ Flow.NoDead ts l k ∧ r = (k : Int)) ∨ (Flow.NoDead ts l ts.length ∧ r = -1)

/-- what firstStuck answers -/
def Flow.StuckAt (ts : List Flow.Tr) (e : Nat) (l : List Flow.Node) (r : Int) : Prop :=
  (∃ (i : Nat) (n : Flow.Node), l[i]? = some n ∧ ¬ Flow.CanEnd ts e n.mark ∧ Flow.NoStuck ts e l i ∧ r = (i : Int)) ∨ (Flow.NoStuck ts e l l.length ∧ r = -1)
theorem atI_has {l : List Flow.Node} {m : Nat} : 0 ≤ atI l m ↔ ∃ (j : Nat) (x : Flow.Node), l[j]? = some x ∧ x.mark = m := by
  constructor
  · intro h
    obtain ⟨n, h1, h2⟩ := atI_some h
    exact ⟨_, n, h1, h2⟩
  · rintro ⟨j, x, h1, h2⟩
    rcases Int.lt_or_le (atI l m) 0 with g | g
    · exact absurd h2 (atI_none.1 g j x h1)
    · exact g

theorem can_iff {ts : List Flow.Tr} {E m : Nat} {lb : List Flow.Node} (hts : ∀ t ∈ ts, Flow.Small t) (hlen : ts.length ≤ 16) (hE : E < 65536) (hb : Flow.Bfs (Flow.turn ts) E lb) (hm : m < 65536) : decide (0 ≤ atI lb m) = true ↔ Flow.CanEnd ts E m := by
  rw [decide_eq_true_iff, atI_has]
  exact turn_has hts hlen hE hb hm
/-- a search that was told is laid into a block that was there -/
theorem sea_low {w2 : World} {X b A : Nat} {lb : List Flow.Node} {aV : Option Addr} {cV : Nat} {arr : Array Value} {c0 c1 : Value} (K : Blk w2 X #[c0, c1] 70) (R : SeaRows w2 b A lb aV cV arr) (hX : X < b) :
    SeaIn ((w2.setCell ⟨X, 0, none⟩ (.slice aV lb.length cV)).setCell ⟨X, 1, none⟩ (.slice (some ⟨A, 0, none⟩) 65536 65536)) 0 X lb := by
  refine ⟨aV, cV, A, arr, Nat.zero_le _, by have := R.baseA; omega, ?_, ?_, ((R.farR hX 0 _).farR hX 1 _).lower (Nat.zero_le _)⟩
  · intro e; have := (owns_lt R.rV e).1; omega
  · have := (K.set 0 (.slice aV lb.length cV)).set 1 (.slice (some ⟨A, 0, none⟩) 65536 65536)
    simpa using this
/-- .. or into a new one -/
theorem sea_new {w2 : World} {b A : Nat} {lb : List Flow.Node} {aV : Option Addr} {cV : Nat} {arr : Array Value} (R : SeaRows w2 b A lb aV cV arr) :
    SeaIn (w2.alloc (.cells (seaC aV lb.length cV A) 70)) 0 w2.heap.size lb := by
  refine ⟨aV, cV, A, arr, Nat.zero_le _, by have := R.rA.lt; omega, ?_, Blk.new _ _ _, (R.below ((Below.refl _ _).alloc (Nat.le_refl _) _)).lower (Nat.zero_le _)⟩
  intro e; have := (owns_lt R.rV e).2; omega

end Go.Proofs.Ytdlldljgogbiaab
