/-
  A text that is processes one behind the other: plain.
-/
import Derived.Test.YtdlldljgogbiaabProc
namespace Go.Proofs.Ytdlldljgogbiaab
set_option linter.unusedVariables false

/-- from at on the text is processes, that begin at these places -/
def SufAt (s : ByteArray) : Nat → List Nat → Prop
  | a, [] => a = s.size
  | a, i :: T => a = i ∧ (Flow.scan s i).2.2 = true ∧ SufAt s (Flow.scan s i).1 T
theorem suf_unique {s : ByteArray} {T T' : List Nat} {a : Nat} (h : SufAt s a T) (h' : SufAt s a T') : T = T' := by
  induction T generalizing a T' with
  | nil =>
    cases T' with
    | nil => rfl
    | cons i T' =>
      have h1 : a = s.size := h
      obtain ⟨h2, h3, _⟩ := h'
      have := (Flow.scan_char h3).1
      omega
  | cons i T ih =>
    obtain ⟨h1, h2, h3⟩ := h
    cases T' with
    | nil =>
      have h4 : a = s.size := h'
      have := (Flow.scan_char h2).1
      omega
    | cons j T' =>
      obtain ⟨g1, g2, g3⟩ := h'
      have e : i = j := by omega
      subst e
      rw [ih h3 g3]
theorem scan_task {s : ByteArray} {i : Nat} (h : (Flow.scan s i).2.2 = true) (hc : Flow.isTk (Flow.bt s i) = true) : (Flow.scan s i).1 = i + 1 := by
  have hi := (Flow.scan_char h).1
  rw [Flow.scan_eq, if_neg (by omega), if_pos hc]
theorem suf_all {s : ByteArray} {i : Nat} {T : List Nat} (h : (Flow.scan s i).2.2 = true) (hT : SufAt s (Flow.scan s i).1 T) : ∀ a, i ≤ a → a ≤ (Flow.scan s i).1 → ∃ T', SufAt s a T' := by
  induction n : s.size - i using Nat.strongRecOn generalizing i T with
  | ind n ih =>
    intro a h1 h2
    by_cases e0 : a = i
    · exact ⟨i :: T, e0, h, hT⟩
    obtain ⟨hi, hc⟩ := Flow.scan_char h
    rcases hc with hc | hc | hc
    · rw [scan_task h hc] at h2 hT
      have : a = i + 1 := by omega
      exact ⟨T, by rw [this]; exact hT⟩
    · obtain ⟨g1, g2, g3⟩ := Flow.scan_one h hc
      rw [g2] at hT h2
      exact ih _ (by omega) g1 hT rfl a (by omega) h2
    · obtain ⟨g1, g2, g3, g4⟩ := Flow.scan_two h hc
      rw [g3] at hT h2
      have hge := Flow.scan_ge s (i + 1)
      by_cases e1 : a ≤ (Flow.scan s (i + 1)).1
      · exact ih _ (by omega) g1 (T := (Flow.scan s (i + 1)).1 :: T) ⟨rfl, g2, hT⟩ rfl a (by omega) e1
      · exact ih _ (by omega) g2 hT rfl a (by omega) h2
theorem suf_head {s : ByteArray} {i : Nat} {T : List Nat} (hi : i < s.size) (h : SufAt s i T) : ∃ T', T = i :: T' ∧ (Flow.scan s i).2.2 = true ∧ SufAt s (Flow.scan s i).1 T' := by
  cases T with
  | nil => have : i = s.size := h; omega
  | cons j T =>
    obtain ⟨h1, h2, h3⟩ := h
    subst h1
    exact ⟨T, rfl, h2, h3⟩
theorem sufRead {s : ByteArray} {i : Nat} {T : List Nat} (hi : i < s.size) (hT : SufAt s i T) : ∃ T', T = i :: T' ∧ (Flow.scan s i).2.2 = true ∧
    ((Flow.isTk (Flow.bt s i) = true ∧ SufAt s (i + 1) T') ∨ (Flow.bt s i = 42 ∧ SufAt s (i + 1) ((i + 1) :: T')) ∨ ((Flow.bt s i = 46 ∨ Flow.bt s i = 43 ∨ Flow.bt s i = 38) ∧ SufAt s (i + 1) ((i + 1) :: (Flow.scan s (i + 1)).1 :: T'))) := by
  obtain ⟨T', rfl, h2, h3⟩ := suf_head hi hT
  refine ⟨T', rfl, h2, ?_⟩
  obtain ⟨_, hc⟩ := Flow.scan_char h2
  rcases hc with hc | hc | hc
  · rw [scan_task h2 hc] at h3; exact .inl ⟨hc, h3⟩
  · obtain ⟨g1, g2, g3⟩ := Flow.scan_one h2 hc
    rw [g2] at h3
    exact .inr (.inl ⟨hc, rfl, g1, h3⟩)
  · obtain ⟨g1, g2, g3, g4⟩ := Flow.scan_two h2 hc
    rw [g3] at h3
    exact .inr (.inr ⟨hc, rfl, g1, rfl, g2, h3⟩)

theorem suf_len {s : ByteArray} {T : List Nat} {a : Nat} (h : SufAt s a T) : T.length + a ≤ s.size := by
  induction T generalizing a with
  | nil => have : a = s.size := h; simp; omega
  | cons i T ih =>
    obtain ⟨h1, h2, h3⟩ := h
    have := ih h3
    have h4 := Flow.scan_nodes h2
    have h5 : 1 ≤ (Flow.scan s i).2.1 := by
      obtain ⟨hi, hc⟩ := Flow.scan_char h2
      rcases hc with hc | hc | hc
      · rw [Flow.scan_eq, if_neg (by omega), if_pos hc]; show 1 ≤ 1; omega
      · obtain ⟨_, _, g⟩ := Flow.scan_one h2 hc; omega
      · obtain ⟨_, _, _, g⟩ := Flow.scan_two h2 hc; omega
    simp
    omega
end Go.Proofs.Ytdlldljgogbiaab
