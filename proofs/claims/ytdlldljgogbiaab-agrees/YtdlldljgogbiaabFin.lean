/-
  What the compiler will have written when all gaps are filled: plain.
-/
import Derived.Test.YtdlldljgogbiaabCompT
import Derived.Test.YtdlldljgogbiaabSuf
namespace Go.Proofs.Ytdlldljgogbiaab
set_option linter.unusedVariables false

def fin (s : ByteArray) : List (Nat × Nat) → Nat → Nat → List Nat → List Nat
  | [], _, _, T => T
  | p :: R, i, k, T => fin s R (Flow.scan s i).1 (comp s i p.1 p.2 k).2 (T ++ (comp s i p.1 p.2 k).1.flatMap rawB)
theorem fin_cons (s : ByteArray) (a b : Nat) (R : List (Nat × Nat)) (i k : Nat) (T : List Nat) : fin s ((a, b) :: R) i k T = fin s R (Flow.scan s i).1 (comp s i a b k).2 (T ++ (comp s i a b k).1.flatMap rawB) := rfl
theorem fin_task {s : ByteArray} {a b i k : Nat} {R : List (Nat × Nat)} {T : List Nat} (h : (Flow.scan s i).2.2 = true) (hc : Flow.isTk (Flow.bt s i) = true) : fin s ((a, b) :: R) i k T = fin s R (i + 1) k (T ++ [59, Flow.bt s i, 65 + a, 62, 65 + b]) := by
  rw [fin_cons, comp_task hc, scan_task h hc]
  simp [rawB]
theorem fin_star {s : ByteArray} {a b i k : Nat} {R : List (Nat × Nat)} {T : List Nat} (h : (Flow.scan s i).2.2 = true) (hc : Flow.bt s i = 42) : fin s ((a, b) :: R) i k T = fin s ((k, k) :: R) (i + 1) (k + 1) (T ++ [59, 45, 65 + a, 62, 65 + k] ++ [59, 45, 65 + k, 62, 65 + b]) := by
  rw [fin_cons, fin_cons, comp_star h hc, (Flow.scan_one h hc).2.1]
  simp [rawB]
theorem fin_seq {s : ByteArray} {a b i k : Nat} {R : List (Nat × Nat)} {T : List Nat} (h : (Flow.scan s i).2.2 = true) (hc : Flow.bt s i = 46) : fin s ((a, b) :: R) i k T = fin s ((a, k) :: (k, b) :: R) (i + 1) (k + 1) T := by
  rw [fin_cons, fin_cons, fin_cons, comp_seq h hc, (Flow.scan_two h (.inl hc)).2.2.1]
  simp
theorem fin_alt {s : ByteArray} {a b i k : Nat} {R : List (Nat × Nat)} {T : List Nat} (h : (Flow.scan s i).2.2 = true) (hc : Flow.bt s i = 43) : fin s ((a, b) :: R) i k T = fin s ((a, b) :: (a, b) :: R) (i + 1) k T := by
  rw [fin_cons, fin_cons, fin_cons, comp_alt h hc, (Flow.scan_two h (.inr (.inl hc))).2.2.1]
  simp
theorem fin_par {s : ByteArray} {a b i k : Nat} {R : List (Nat × Nat)} {T : List Nat} (h : (Flow.scan s i).2.2 = true) (hc : Flow.bt s i = 38) : fin s ((a, b) :: R) i k T = fin s ((k, k + 2) :: (k + 1, k + 3) :: R) (i + 1) (k + 4) (T ++ [59, 45, 65 + a, 62, 65 + k, 65 + (k + 1)] ++ [59, 45, 65 + (k + 2), 65 + (k + 3), 62, 65 + b]) := by
  rw [fin_cons, fin_cons, fin_cons, comp_par h hc, (Flow.scan_two h (.inr (.inr hc))).2.2.1]
  simp [rawB]
theorem fin_start (s : ByteArray) : fin s [(0, 1)] 0 2 [65, 66] = netB (comp s 0 0 1 2).1 := rfl

/-- the bytes of a net are bytes -/
theorem netB_bytes {rs : List Raw} {k' : Nat} (hk : k' ≤ 16) (ok : ∀ r ∈ rs, RawOk 0 1 2 k' r) : ∀ c ∈ netB rs, c < 256 := by
  intro c hc
  unfold netB at hc
  rcases List.mem_cons.1 hc with rfl | hc
  · omega
  · rcases List.mem_cons.1 hc with rfl | hc
    · omega
    · obtain ⟨r, hr, hc⟩ := List.mem_flatMap.1 hc
      have o := ok r hr
      unfold rawB at hc
      rcases List.mem_cons.1 hc with rfl | hc
      · omega
      · rcases List.mem_cons.1 hc with rfl | hc
        · have := o.lab
          unfold Flow.isLb at this
          rw [Bool.or_eq_true] at this
          rcases this with q | q
          · have := Flow.isTk_iff.1 q; omega
          · have : r.lab = 45 := by simpa using q
            omega
        · rcases List.mem_append.1 hc with hc | hc
          · obtain ⟨x, hx, rfl⟩ := List.mem_map.1 hc
            have := o.ins.2.2 x hx
            show 65 + x < 256
            omega
          · rcases List.mem_cons.1 hc with rfl | hc
            · omega
            · obtain ⟨x, hx, rfl⟩ := List.mem_map.1 hc
              have := o.outs.2.2 x hx
              show 65 + x < 256
              omega
end Go.Proofs.Ytdlldljgogbiaab
