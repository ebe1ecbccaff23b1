/-
  The two writers of a marking.
-/
import Derived.Test.YtdlldljgogbiaabSmall
import Derived.Test.YtdlldljgogbiaabBlk
import Derived.OwnWalk
import Derived.Deep.AppendLies
import Derived.Laws.IdiomStrings
import Derived.Laws.Concat
import Derived.Test.YtdlldljgogbiaabPlaces
namespace Go.Proofs.Ytdlldljgogbiaab
open Go.RowKit
set_option linter.unusedVariables false
set_option maxRecDepth 20000

/-- the letters of the places below p that the marking has -/
def Flow.letters (m : Nat) : Nat → List UInt8
  | 0 => []
  | p + 1 => if m &&& 2 ^ p = 0 then Flow.letters m p else Flow.letters m p ++ [UInt8.ofNat (65 + p)]
def Flow.text (m : Nat) : ByteArray := ⟨(Flow.letters m 16).toArray⟩
theorem Flow.letters_len (m p : Nat) : (Flow.letters m p).length ≤ p := by
  induction p with
  | zero => simp [Flow.letters]
  | succ p ih =>
    unfold Flow.letters
    split
    · omega
    · simp; omega
theorem Flow.letters_not {m p : Nat} (h : m &&& 2 ^ p = 0) : Flow.letters m (p + 1) = Flow.letters m p := by
  show (if m &&& 2 ^ p = 0 then _ else _) = _; rw [if_pos h]
theorem Flow.letters_has {m p : Nat} (h : ¬ m &&& 2 ^ p = 0) : Flow.letters m (p + 1) = Flow.letters m p ++ [UInt8.ofNat (65 + p)] := by
  show (if m &&& 2 ^ p = 0 then _ else _) = _; rw [if_neg h]
theorem letter_num (p : Nat) (h : p < 16) : (UInt8.ofNat (65 + p)).toNat = 65 + p := by
  rw [UInt8.toNat_ofNat']; omega

theorem Try.infoB : (Try.prog.info? 5).map (fun i => (i.zero, i.size, i.bytes)) = some (some (.int .u8 0), 1, 1) := by kernel_rfl
/-- bytes as cells -/
def cellsB (l : List UInt8) : List Value := l.map fun b => .int .u8 (b.toNat : Int)
theorem cellsB_snoc (l : List UInt8) (b : UInt8) : cellsB (l ++ [b]) = cellsB l ++ [.int .u8 (b.toNat : Int)] := by simp [cellsB]

/-- the string of an owned row of bytes -/
theorem string_of_owned {w : World} {base : Nat} {a : Option Addr} {cap : Nat} (l : List UInt8) (h : w.ownsRow base 5 1 (.slice a l.length cap) l.length (cellsB l)) :
    (convert 73 9 (.slice a l.length cap)).run Try.prog w = .ok (.string ⟨l.toArray⟩) w := by
  rcases h.2 with ⟨hv, h0⟩ | ⟨g, cap', cur, hv, hb, hg, _⟩
  · have hl : l = [] := List.length_eq_zero_iff.1 h0
    subst hl
    rw [hv, run_convert_bytes_string w 73 9 5 _ _ _ Try.underlying73 Try.underlying5 Try.underlying9]
    simp [Conv.bytesToString]
    rfl
  · have ha : a = some ⟨g, 0, none⟩ := by injection hv
    subst ha
    refine run_convert_bytes_back w 73 9 5 ⟨g, 0, none⟩ cap l Try.underlying73 Try.underlying5 Try.underlying9 ?_
    intro j hj
    exact h.cells rfl j _ (by simp [cellsB, hj])

theorem pbit_at (p : Nat) (h : p < 16) : Flow.pbit (65 + p) = 2 ^ p := by
  unfold Flow.pbit
  rw [if_pos (Flow.isPl_iff.2 (by omega))]
  congr 1; omega

end Go.Proofs.Ytdlldljgogbiaab
