/-
  A text's bytes as numbers.
-/
import Derived.Test.YtdlldljgogbiaabPlain
namespace Go.Proofs.Ytdlldljgogbiaab

/-- a text's bytes as numbers -/
def Flow.nats (s : ByteArray) : List Nat := s.data.toList.map UInt8.toNat
theorem nats_take {s : ByteArray} {i : Nat} (h : i < s.size) : (Flow.nats s).take (i + 1) = (Flow.nats s).take i ++ [s[i].toNat] := by
  unfold Flow.nats
  have : s.data.toList[i]? = some s[i] := by rw [List.getElem?_eq_getElem (by simpa using h)]; rfl
  rw [List.take_add_one, List.getElem?_map, this]; rfl
theorem nats_all (s : ByteArray) : (Flow.nats s).take s.size = Flow.nats s := by
  apply List.take_of_length_le
  unfold Flow.nats; simp

/-- the text is a word -/
def Flow.IsWord (word : ByteArray) : Prop := ∀ i, i < word.size → Flow.isTk (Flow.bt word i) = true
theorem not_word {word : ByteArray} {j : Nat} (h1 : j < word.size) (h2 : Flow.isTk (Flow.bt word j) = false) : ¬ Flow.IsWord word := fun h => by
  have := h j h1
  rw [h2] at this; cases this
theorem nats_get (word : ByteArray) {i : Nat} (h : i < word.size) : (Flow.nats word)[i]? = some (Flow.bt word i) := by
  have hb := Flow.bt_at h
  unfold Flow.nats
  have : word.data.toList[i]? = some word[i] := by rw [List.getElem?_eq_getElem (by simpa using h)]; rfl
  rw [List.getElem?_map, this, ← hb]; rfl
theorem nats_len (word : ByteArray) : (Flow.nats word).length = word.size := by unfold Flow.nats; simp
end Go.Proofs.Ytdlldljgogbiaab
