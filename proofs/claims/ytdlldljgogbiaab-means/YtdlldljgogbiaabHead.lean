/-
  The head of a net's text, and the number of its transitions: plain.
-/
import Derived.Test.YtdlldljgogbiaabPlain
namespace Go.Proofs.Ytdlldljgogbiaab

theorem head_zero {s : ByteArray} (h : s.size < 1 ∨ Flow.isPl (Flow.bt s 0) = false) : Flow.headAt s = 0 := by
  unfold Flow.headAt; rw [if_pos h]
theorem head_one {s : ByteArray} (h : 1 ≤ s.size) (p : Flow.isPl (Flow.bt s 0) = true) (g : s.size < 2 ∨ Flow.isPl (Flow.bt s 1) = false ∨ Flow.bt s 1 = Flow.bt s 0) : Flow.headAt s = 1 := by
  unfold Flow.headAt; rw [if_neg (by intro h; rcases h with h | h; omega; rw [p] at h; cases h), if_pos g]
theorem head_two {s : ByteArray} (h : 2 ≤ s.size) (p : Flow.isPl (Flow.bt s 0) = true) (p1 : Flow.isPl (Flow.bt s 1) = true) (g : Flow.bt s 1 ≠ Flow.bt s 0) : Flow.headAt s = 2 := by
  unfold Flow.headAt; rw [if_neg (by intro h; rcases h with h | h; omega; rw [p] at h; cases h), if_neg (by intro h; rcases h with h | h | h; omega; rw [p1] at h; cases h; exact g h)]

theorem transes_size {s : ByteArray} {i : Nat} {acc : List Flow.Tr} (h : acc.length ≤ 16) : (Flow.transes s i acc).1.length ≤ 16 := by
  induction n : s.size - i using Nat.strongRecOn generalizing i acc with
  | ind n ih =>
    by_cases h1 : i < s.size
    · by_cases h2 : Flow.bt s i = 59 ∧ acc.length < 16
      · by_cases h3 : (Flow.trans s (i + 1)).2.2 = true
        · rw [Flow.transes_go h1 h2.1 h2.2 h3]
          have := Flow.trans_ge s (i + 1)
          exact ih (s.size - (Flow.trans s (i + 1)).2.1) (by omega) (by simp; omega) rfl
        · rw [Flow.transes_bad h1 h2.1 h2.2 (by simpa using h3)]; exact h
      · rw [Flow.transes_no h1 h2]; exact h
    · rw [Flow.transes_end h1]; exact h

theorem readOk_size {s : ByteArray} (h : Flow.readOk s = true) : 2 ≤ s.size ∧ Flow.headAt s = 2 := by
  have hh : Flow.headAt s = 2 := by unfold Flow.readOk at h; simp at h; exact h.1
  refine ⟨?_, hh⟩
  unfold Flow.headAt at hh
  split at hh
  · omega
  · split at hh
    · omega
    · rename_i h1 h2; simp at h2; omega

end Go.Proofs.Ytdlldljgogbiaab
