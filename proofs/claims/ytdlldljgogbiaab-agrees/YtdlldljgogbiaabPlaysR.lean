/-
  The reference's Words; what Plays answers.
-/
import Derived.Test.YtdlldljgogbiaabWordsR
import Derived.Test.YtdlldljgogbiaabNatsR
import Derived.Test.YtdlldljgogbiaabFireR
namespace Go.Proofs.Ytdlldljgogbiaab
open Go.RowKit
set_option linter.unusedVariables false
set_option maxRecDepth 40000

/-- the end alone, of a net's text -/
def Flow.lastQ (s : ByteArray) : Nat := 2 ^ (Flow.bt s 1 - 65)
theorem wordsN_any (s word : ByteArray) (w : World) (hs : s.size ≤ maxLen) (hw : word.size ≤ maxLen) (hc : Flow.checkErr s = 0) : Calls Try.prog 11 #[.string s, .string word] w fun e w' => ∃ b, e = .returned (.bool b) ∧ (b = true ↔ Flow.Spells (Flow.readTr s) (Flow.first s) (Flow.nats word) (Flow.lastQ s)) ∧ Below w.heap.size w w' := by
  obtain ⟨hok, hsz, hp0, hp1⟩ := checkErr_ok hc
  have q0 := Flow.isPl_iff.1 hp0
  have q1 := Flow.isPl_iff.1 hp1
  have c1 := fun w => readR_ok s w hs hc
  have c2 : ∀ a cap base w, w.ownsRow base 60 3 (.slice a (Flow.readTr s).length cap) (Flow.readTr s).length (cellsR (Flow.readTr s)) → Calls Try.prog 25 #[.agg (netQ ((Flow.bt s 0 - 65 : Nat) : Int) ((Flow.bt s 1 - 65 : Nat) : Int) a (Flow.readTr s).length cap), .string word] w fun e w' => ∃ b, e = .returned (.bool b) ∧ (b = true ↔ Flow.Spells (Flow.readTr s) (Flow.first s) (Flow.nats word) (Flow.lastQ s)) ∧ Below w.heap.size w w' := fun a cap base w ho => wordsR_any (Flow.readTr s) (Flow.bt s 0 - 65) (Flow.bt s 1 - 65) a cap base word w (by omega) (by omega) hw (readTr_small s) (readTr_size s) ho
  clear hok hsz hp0 hp1 q0 q1
  go_enter Try.func11, Try.ntmps11
  go_wp2_with (first | (go_at_call 22; refine (c1 _).mono ?_; rintro e w1 ⟨a, cap, at', rfl, hb1, ho1⟩; have HB1 : Hid _ := hb1; have HO1 : Hid (w1.ownsRow _ 60 3 (.slice a (Flow.readTr s).length cap) (Flow.readTr s).length (cellsR (Flow.readTr s))) := ho1; clear hb1 ho1) | (go_at_call 25; refine (c2 a cap _ _ (HO1.out.alloc _)).mono ?_; rintro e w2 ⟨b, rfl, hb, hb2⟩; have HB2 : Hid _ := hb2; have RB : Hid _ := hb; clear hb2 hb))
  go_ret
  have z1 := HB1.out.size
  exact ⟨b, rfl, RB.out, (HB1.out.alloc z1 _).trans (HB2.out.mono (by simp; omega))⟩

/-- what Plays answers -/
def Flow.PlaysA (s word : ByteArray) (b : Bool) (e : Nat) : Prop :=
  ((160 < s.size ∨ 8 < word.size) ∧ b = false ∧ e = 1) ∨
  (¬ (160 < s.size ∨ 8 < word.size) ∧ Flow.checkErr s ≠ 0 ∧ b = false ∧ e = Flow.checkErr s) ∨
  (¬ (160 < s.size ∨ 8 < word.size) ∧ Flow.checkErr s = 0 ∧ ¬ Flow.IsWord word ∧ b = false ∧ e = 8) ∨
  (¬ (160 < s.size ∨ 8 < word.size) ∧ Flow.checkErr s = 0 ∧ Flow.IsWord word ∧ (b = true ↔ Flow.Spells (Flow.readTr s) (Flow.first s) (Flow.nats word) (Flow.lastQ s)) ∧ e = 0)
def PlaysPost (s word : ByteArray) (w : World) (en : Ending) (w' : World) : Prop := ∃ b e, en = .returned (.tuple #[.bool b, .int .i64 (e : Nat)]) ∧ Flow.PlaysA s word b e ∧ Below w.heap.size w w'
theorem playsA_unique {s word : ByteArray} {b b' : Bool} {e e' : Nat} (h : Flow.PlaysA s word b e) (h' : Flow.PlaysA s word b' e') : b = b' ∧ e = e' := by
  rcases h with ⟨a1, a2, a3⟩ | ⟨a1, a2, a3, a4⟩ | ⟨a1, a2, a3, a4, a5⟩ | ⟨a1, a2, a3, a4, a5⟩ <;> rcases h' with ⟨b1, b2, b3⟩ | ⟨b1, b2, b3, b4⟩ | ⟨b1, b2, b3, b4, b5⟩ | ⟨b1, b2, b3, b4, b5⟩
  · exact ⟨by rw [a2, b2], by rw [a3, b3]⟩
  · exact absurd a1 b1
  · exact absurd a1 b1
  · exact absurd a1 b1
  · exact absurd b1 a1
  · exact ⟨by rw [a3, b3], by rw [a4, b4]⟩
  · exact absurd b2 a2
  · exact absurd b2 a2
  · exact absurd b1 a1
  · exact absurd a2 b2
  · exact ⟨by rw [a4, b4], by rw [a5, b5]⟩
  · exact absurd b3 a3
  · exact absurd b1 a1
  · exact absurd a2 b2
  · exact absurd a3 b3
  · refine ⟨?_, by rw [a5, b5]⟩
    rw [Bool.eq_iff_iff, a4, b4]

end Go.Proofs.Ytdlldljgogbiaab
