/-
  The reference's Read.
-/
import Derived.Test.YtdlldljgogbiaabScanR
import Derived.Test.YtdlldljgogbiaabNatsR
namespace Go.Proofs.Ytdlldljgogbiaab
open Go.RowKit
set_option linter.unusedVariables false
set_option maxRecDepth 40000

/-- a process's own errors, and the place -/
def Flow.readE (s : ByteArray) : Nat := if 24 < s.size then 1 else if (Flow.scan s 0).2.2 = false ∨ (Flow.scan s 0).1 < s.size then 9 else if 8 < (Flow.scan s 0).2.1 then 10 else 0
def Flow.readP (s : ByteArray) : Nat := if 24 < s.size then 0 else if (Flow.scan s 0).2.2 = false ∨ (Flow.scan s 0).1 < s.size then (Flow.scan s 0).1 else 0
theorem readE_ok {s : ByteArray} (h : Flow.readE s = 0) : s.size ≤ 24 ∧ (Flow.scan s 0).2.2 = true ∧ (Flow.scan s 0).1 = s.size ∧ (Flow.scan s 0).2.1 ≤ 8 := by
  unfold Flow.readE at h
  split at h
  · omega
  · split at h
    · omega
    · split at h
      · omega
      · rename_i h1 h2 h3
        have hok : (Flow.scan s 0).2.2 = true := by
          cases e : (Flow.scan s 0).2.2 with
          | true => rfl
          | false => exact absurd (.inl e) h2
        have hle := Flow.scan_le s 0 (Nat.zero_le _)
        have : ¬ (Flow.scan s 0).1 < s.size := fun h => h2 (.inr h)
        exact ⟨by omega, hok, by omega, by omega⟩

set_option maxHeartbeats 1000000 in
theorem readP_any (s : ByteArray) (w : World) (hs : s.size ≤ maxLen) : Calls Try.prog 7 #[.string s] w fun e w' => e = .returned (.tuple #[.int .i64 (Flow.readE s), .int .i64 (Flow.readP s)]) ∧ w = w' := by
  unfold maxLen at hs
  by_cases h1 : 24 < s.size
  · have R : Hid (Flow.readE s = 1 ∧ Flow.readP s = 0) := ⟨by unfold Flow.readE; rw [if_pos h1], by unfold Flow.readP; rw [if_pos h1]⟩
    go_enter Try.func7, Try.ntmps7
    go_wp2_with (fail)
    go_ret2
    exact ⟨by rw [R.out.1, R.out.2]; rfl, rfl⟩
  · have c1 := scanR_any s (by omega) (s.size + 1) 0 w (by omega) (by omega)
    have hle := Flow.scan_le s 0 (Nat.zero_le _)
    have E1 : Hid (Flow.readE s = if (Flow.scan s 0).2.2 = false ∨ (Flow.scan s 0).1 < s.size then 9 else if 8 < (Flow.scan s 0).2.1 then 10 else 0) := by show _ = _; unfold Flow.readE; rw [if_neg h1]
    have E2 : Hid (Flow.readP s = if (Flow.scan s 0).2.2 = false ∨ (Flow.scan s 0).1 < s.size then (Flow.scan s 0).1 else 0) := by show _ = _; unfold Flow.readP; rw [if_neg h1]
    have hnd := fun h => Flow.scan_nodes (s := s) (i := 0) h
    obtain ⟨⟨j, d, ok⟩, hsc⟩ : ∃ r, r = Flow.scan s 0 := ⟨_, rfl⟩
    rw [← hsc] at c1 hle E1 E2 hnd
    dsimp only at c1 hle E1 E2 hnd
    clear hsc
    cases ok with
    | false =>
      clear hnd
      go_enter Try.func7, Try.ntmps7
      go_wp2_with (go_at_call 21; refine c1.mono ?_; rintro e w' ⟨rfl, rfl⟩)
      go_ret2
      exact ⟨by rw [E1.out, E2.out, if_pos (.inl (by trivial)), if_pos (.inl (by trivial))]; rfl, rfl⟩
    | true =>
      have hd := hnd rfl
      clear hnd
      by_cases h2 : j < s.size
      · go_enter Try.func7, Try.ntmps7
        go_wp2_with (go_at_call 21; refine c1.mono ?_; rintro e w' ⟨rfl, rfl⟩)
        go_ret2
        exact ⟨by rw [E1.out, E2.out, if_pos (.inr h2), if_pos (.inr h2)]; rfl, rfl⟩
      · have h2' : ¬ (true = false ∨ j < s.size) := fun h => h.elim (fun h => (by cases h)) h2
        by_cases h3 : 8 < d
        · go_enter Try.func7, Try.ntmps7
          go_wp2_with (go_at_call 21; refine c1.mono ?_; rintro e w' ⟨rfl, rfl⟩)
          go_ret2
          exact ⟨by rw [E1.out, E2.out, if_neg h2', if_neg h2', if_pos h3]; rfl, rfl⟩
        · go_enter Try.func7, Try.ntmps7
          go_wp2_with (go_at_call 21; refine c1.mono ?_; rintro e w' ⟨rfl, rfl⟩)
          go_ret2
          exact ⟨by rw [E1.out, E2.out, if_neg h2', if_neg h2', if_neg h3]; rfl, rfl⟩

/-- what Accepts answers -/
def Flow.AcceptsA (s word : ByteArray) (b : Bool) (e at' : Nat) : Prop :=
  ((24 < s.size ∨ 8 < word.size) ∧ b = false ∧ e = 1 ∧ at' = 0) ∨
  (¬ (24 < s.size ∨ 8 < word.size) ∧ Flow.readE s ≠ 0 ∧ b = false ∧ e = Flow.readE s ∧ at' = Flow.readP s) ∨
  (¬ (24 < s.size ∨ 8 < word.size) ∧ Flow.readE s = 0 ∧ (at' < word.size ∧ Flow.isTk (Flow.bt word at') = false ∧ ∀ j, j < at' → Flow.isTk (Flow.bt word j) = true) ∧ b = false ∧ e = 8) ∨
  (¬ (24 < s.size ∨ 8 < word.size) ∧ Flow.readE s = 0 ∧ Flow.IsWord word ∧ (b = true ↔ Flow.Has s 0 (Flow.nats word)) ∧ e = 0 ∧ at' = 0)
def AcceptsPost (s word : ByteArray) (w : World) (en : Ending) (w' : World) : Prop := ∃ b e at', en = .returned (.tuple #[.bool b, .int .i64 (e : Nat), .int .i64 (at' : Nat)]) ∧ Flow.AcceptsA s word b e at' ∧ Below w.heap.size w w'
theorem acceptsA_unique {s word : ByteArray} {b b' : Bool} {e e' a a' : Nat} (h : Flow.AcceptsA s word b e a) (h' : Flow.AcceptsA s word b' e' a') : b = b' ∧ e = e' ∧ a = a' := by
  rcases h with ⟨a1, a2, a3, a4⟩ | ⟨a1, a2, a3, a4, a5⟩ | ⟨a1, a2, ⟨a3, a4, a5⟩, a6, a7⟩ | ⟨a1, a2, a3, a5, a6, a7⟩ <;> rcases h' with ⟨b1, b2, b3, b4⟩ | ⟨b1, b2, b3, b4, b5⟩ | ⟨b1, b2, ⟨b3, b4, b5⟩, b6, b7⟩ | ⟨b1, b2, b3, b5, b6, b7⟩
  · exact ⟨by rw [a2, b2], by rw [a3, b3], by rw [a4, b4]⟩
  · exact absurd a1 b1
  · exact absurd a1 b1
  · exact absurd a1 b1
  · exact absurd b1 a1
  · exact ⟨by rw [a3, b3], by rw [a4, b4], by rw [a5, b5]⟩
  · exact absurd b2 a2
  · exact absurd b2 a2
  · exact absurd b1 a1
  · exact absurd a2 b2
  · refine ⟨by rw [a6, b6], by rw [a7, b7], ?_⟩
    rcases Nat.lt_trichotomy a a' with g | g | g
    · have := b5 a g; rw [a4] at this; cases this
    · exact g
    · have := a5 a' g; rw [b4] at this; cases this
  · have := b3 a a3; rw [a4] at this; cases this
  · exact absurd b1 a1
  · exact absurd a2 b2
  · have := a3 a' b3; rw [b4] at this; cases this
  · exact ⟨by rw [Bool.eq_iff_iff, a5, b5], by rw [a6, b6], by rw [a7, b7]⟩

end Go.Proofs.Ytdlldljgogbiaab
