/-
  What the transitions that were read hold; a step keeps a marking small; the cells of a list of transitions: plain.
-/
import Derived.Test.YtdlldljgogbiaabGreatBaseM
import Derived.Test.YtdlldljgogbiaabGreatReadR
namespace Go.Proofs.YtdlldljgogbiaabGreat
open Go.RowKit

/-- a transition whose numbers are small -/
def Flow.Small (t : Flow.Tr) : Prop := t.label < 256 ∧ t.inn < 65536 ∧ t.out < 65536

theorem transes_small {s : ByteArray} {i : Nat} {acc : List Flow.Tr} (h : ∀ t ∈ acc, Flow.Small t) : ∀ t ∈ (Flow.transes s i acc).1, Flow.Small t := by
  induction n : s.size - i using Nat.strongRecOn generalizing i acc with
  | ind n ih =>
    by_cases h1 : i < s.size
    · by_cases h2 : Flow.bt s i = 59 ∧ acc.length < 16
      · by_cases h3 : (Flow.trans s (i + 1)).2.2 = true
        · rw [Flow.transes_go h1 h2.1 h2.2 h3]
          have := Flow.trans_ge s (i + 1)
          refine ih (s.size - (Flow.trans s (i + 1)).2.1) (by omega) ?_ rfl
          intro t ht
          rcases List.mem_append.1 ht with ht | ht
          · exact h t ht
          · rw [List.mem_singleton.1 ht]; exact Flow.trans_bd s (i + 1)
        · rw [Flow.transes_bad h1 h2.1 h2.2 (by simpa using h3)]; exact h
      · rw [Flow.transes_no h1 h2]; exact h
    · rw [Flow.transes_end h1]; exact h
theorem readTr_small (s : ByteArray) : ∀ t ∈ Flow.readTr s, Flow.Small t := transes_small (fun _ h => by cases h)
theorem readTr_size (s : ByteArray) : (Flow.readTr s).length ≤ 16 := transes_size (by simp)

theorem fireErr_zero {t : Flow.Tr} {m : Nat} (h : Flow.fireErr t m = 0) : Flow.enabled t m = true ∧ Flow.spills t m = false := by
  unfold Flow.fireErr at h
  cases he : Flow.enabled t m <;> cases hs : Flow.spills t m <;> simp_all
theorem after_lt {t : Flow.Tr} {m : Nat} (hm : m < 65536) (ht : Flow.Small t) (h : Flow.fireErr t m = 0) : Flow.after t m < 65536 := by
  obtain ⟨h1, h2⟩ := fireErr_zero h
  have h3 : (m - t.inn) &&& t.out = 0 := by simpa [Flow.spills] using h2
  unfold Flow.after
  rw [← Flow.or_add (by omega) ht.2.2 h3]
  exact Nat.or_lt_two_pow (n := 16) (by omega) ht.2.2

theorem cellsR_get {l : List Flow.Tr} {k : Nat} {t : Flow.Tr} (h : l[k]? = some t) : (cellsR l)[k * 3]? = some (.int .u8 t.label) ∧ (cellsR l)[k * 3 + 1]? = some (.int .i64 t.inn) ∧ (cellsR l)[k * 3 + 2]? = some (.int .i64 t.out) := by
  induction l generalizing k with
  | nil => simp at h
  | cons x r ih =>
    cases k with
    | zero => simp at h; subst h; simp [cellsR]
    | succ k =>
      have := ih (k := k) (by simpa using h)
      have e : cellsR (x :: r) = [.int .u8 x.label, .int .i64 x.inn, .int .i64 x.out] ++ cellsR r := by simp [cellsR]
      rw [e, List.getElem?_append_right (by simp; omega), List.getElem?_append_right (by simp; omega), List.getElem?_append_right (by simp; omega)]
      have e0 : (k + 1) * 3 - 3 = k * 3 := by omega
      have e1 : (k + 1) * 3 + 1 - 3 = k * 3 + 1 := by omega
      have e2 : (k + 1) * 3 + 2 - 3 = k * 3 + 2 := by omega
      simpa [e0, e1, e2] using this
theorem cellsF_get {l : List Flow.Tr} {k : Nat} {t : Flow.Tr} (h : l[k]? = some t) : (cellsF l)[k * 3]? = some (.int .u8 t.label) ∧ (cellsF l)[k * 3 + 1]? = some (.int .i64 t.inn) ∧ (cellsF l)[k * 3 + 2]? = some (.int .i64 t.out) := by
  induction l generalizing k with
  | nil => simp at h
  | cons x r ih =>
    cases k with
    | zero => simp at h; subst h; simp [cellsF]
    | succ k =>
      have := ih (k := k) (by simpa using h)
      have e : cellsF (x :: r) = [.int .u8 x.label, .int .i64 x.inn, .int .i64 x.out] ++ cellsF r := by simp [cellsF]
      rw [e, List.getElem?_append_right (by simp; omega), List.getElem?_append_right (by simp; omega), List.getElem?_append_right (by simp; omega)]
      have e0 : (k + 1) * 3 - 3 = k * 3 := by omega
      have e1 : (k + 1) * 3 + 1 - 3 = k * 3 + 1 := by omega
      have e2 : (k + 1) * 3 + 2 - 3 = k * 3 + 2 := by omega
      simpa [e0, e1, e2] using this

theorem num_lt (c : Nat) : Flow.num c < 100 := by unfold Flow.num; split <;> (try split) <;> omega
end Go.Proofs.YtdlldljgogbiaabGreat
