/-
  The program's judge of a net that was read.
-/
import Derived.Test.YtdlldljgogbiaabSpillF
import Derived.Test.YtdlldljgogbiaabStuckF
namespace Go.Proofs.Ytdlldljgogbiaab
open Go.RowKit
set_option linter.unusedVariables false
set_option maxRecDepth 40000

/-- what stands all through the program's judge -/
structure StandsF (w : World) (base0 X x y : Nat) (a : Option Addr) (cap : Nat) (ts : List Flow.Tr) (l : List Flow.Node) (wr : World) : Prop where
  net : Blk wr w.heap.size (netF x y a ts.length cap) 64
  own : wr.ownsRow base0 135 3 (.slice a ts.length cap) ts.length (cellsF ts)
  sea : SeaIn wr 0 X l
  bel : Below w.heap.size w wr
theorem StandsF.below {w : World} {base0 X x y : Nat} {a : Option Addr} {cap : Nat} {ts : List Flow.Tr} {l : List Flow.Node} {wr w2 : World} (h : StandsF w base0 X x y a cap ts l wr) (hb : Below wr.heap.size wr w2) : StandsF w base0 X x y a cap ts l w2 :=
  ⟨h.net.below hb h.net.lt, owns_below h.own hb (Nat.le_refl _), h.sea.below hb, h.bel.trans (hb.mono h.bel.size)⟩
theorem StandsF.look {w : World} {base0 X x y : Nat} {a : Option Addr} {cap : Nat} {ts : List Flow.Tr} {l : List Flow.Node} {wr : World} (h : StandsF w base0 X x y a cap ts l wr) :
    wr.cell? ⟨w.heap.size, 0, none⟩ = some (.int .u8 x) ∧ wr.cell? ⟨w.heap.size, 1, none⟩ = some (.int .u8 y) ∧ wr.cell? ⟨w.heap.size, 2, none⟩ = some (.slice a ts.length cap) ∧ w.heap.size < wr.heap.size ∧ X < wr.heap.size :=
  ⟨h.net.cell 0, h.net.cell 1, h.net.cell 2, h.net.lt, by obtain ⟨_, _, _, _, _, z, _⟩ := h.sea.look; exact z⟩
/-- the string of one byte in a new row -/
theorem string_one (W : World) (b : UInt8) : (convert 73 9 (.slice (some ⟨W.heap.size, 0, none⟩) 1 1)).run Try.prog (W.alloc (.cells #[.int .u8 (b.toNat : Int)] 5)).drew = .ok (.string ⟨#[b]⟩) (W.alloc (.cells #[.int .u8 (b.toNat : Int)] 5)).drew := by
  refine run_convert_bytes_back (W.alloc (.cells #[.int .u8 (b.toNat : Int)] 5)).drew 73 9 5 ⟨W.heap.size, 0, none⟩ 1 [b] Try.underlying73 Try.underlying5 Try.underlying9 ?_
  intro j hj
  have := cell_one_new W (.int .u8 (b.toNat : Int)) 5 j (.int .u8 (b.toNat : Int))
  match j, hj with
  | 0, _ => exact this rfl

end Go.Proofs.Ytdlldljgogbiaab
