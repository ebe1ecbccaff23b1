/-
  The reference's step of a search: next; a sign.
-/
import Derived.Test.YtdlldljgogbiaabGreatRun
import Derived.Test.YtdlldljgogbiaabGreatBaseM
namespace Go.Proofs.YtdlldljgogbiaabGreat
open Go.RowKit
set_option linter.unusedVariables false
set_option maxRecDepth 20000

/-- next's answer: -1 where there is none -/
def Flow.nextI (ts : List Flow.Tr) (m k : Nat) : Int := match Flow.nextM ts m k with | none => -1 | some m' => (m' : Int)
theorem nextM_at {ts : List Flow.Tr} {m k : Nat} {t : Flow.Tr} (h : ts[k]? = some t) : Flow.nextM ts m k = if Flow.fireErr t m = 0 then some (Flow.after t m) else none := by
  unfold Flow.nextM; rw [h]
theorem nextI_go {ts : List Flow.Tr} {m k : Nat} {t : Flow.Tr} (h : ts[k]? = some t) (f : Flow.fireErr t m = 0) : Flow.nextI ts m k = (Flow.after t m : Int) := by
  unfold Flow.nextI; rw [nextM_at h, if_pos f]
theorem nextI_no {ts : List Flow.Tr} {m k : Nat} {t : Flow.Tr} (h : ts[k]? = some t) (f : Flow.fireErr t m ≠ 0) : Flow.nextI ts m k = -1 := by
  unfold Flow.nextI; rw [nextM_at h, if_neg f]
theorem nextM_lt {ts : List Flow.Tr} {m k m' : Nat} (hts : ∀ t ∈ ts, Flow.Small t) (hm : m < 65536) (h : Flow.nextM ts m k = some m') : m' < 65536 := by
  unfold Flow.nextM at h
  cases e : ts[k]? with
  | none => rw [e] at h; cases h
  | some t =>
    rw [e] at h
    dsimp only at h
    by_cases f : Flow.fireErr t m = 0
    · rw [if_pos f] at h
      injection h with h
      rw [← h]
      exact after_lt hm (hts t (List.mem_of_getElem? e)) f
    · rw [if_neg f] at h; cases h

set_option maxHeartbeats 1000000 in
theorem nextR_any (ts : List Flow.Tr) (x y : Int) (a : Option Addr) (cap m k base : Nat) (w : World) (hm : m < 65536) (hts : ∀ t ∈ ts, Flow.Small t) (hlen : ts.length ≤ 16) (hk : k < ts.length)
    (hown : w.ownsRow base 108 3 (.slice a ts.length cap) ts.length (cellsR ts)) :
    Calls Tryz.prog 82 #[.agg #[.int .i64 x, .int .i64 y, .slice a ts.length cap], .int .i64 m, .int .i64 k] w fun e w' => e = .returned (.int .i64 (Flow.nextI ts m k)) ∧ Below w.heap.size w w' := by
  obtain ⟨t, ht⟩ : ∃ t, ts[k]? = some t := ⟨_, List.getElem?_eq_getElem hk⟩
  obtain ⟨s1, s2, s3⟩ := hts t (List.mem_of_getElem? ht)
  obtain ⟨g, cap', hv, _, hg2⟩ := hown.form (by omega)
  injection hv with hv1 _ hv3
  subst hv1 hv3
  have c0 := hown.cellAt (k * 3) (by omega)
  have c1 := hown.cellAt (k * 3 + 1) (by omega)
  have c2 := hown.cellAt (k * 3 + 1 + 1) (by omega)
  obtain ⟨d0, d1, d2⟩ := cellsR_get ht
  rw [d0] at c0
  rw [d1] at c1
  rw [show k * 3 + 1 + 1 = k * 3 + 2 from rfl, d2] at c2
  have hg3 : g < w.heap.size + 1 := by omega
  have hg4 : g < w.heap.size + 1 + 1 := by omega
  have hI0 : (0 : Int) ≤ (k : Int) := by omega
  have hI1 : (k : Int) < (ts.length : Int) := by omega
  have T : Hid _ := ht
  clear ht hown d0 d1 d2
  by_cases hen : Flow.enabled t m = true
  · have hle := enabled_le hen
    by_cases hsp : Flow.spills t m = true
    · have R := nextI_no (ts := ts) (m := m) T.out (by unfold Flow.fireErr; rw [if_neg (by rw [hen]; simp), if_pos hsp]; omega)
      rw [R]
      clear R
      go_enter Tryz.func82, Tryz.ntmps82
      go_wp2_with (first | (go_at_call 68; refine (enabled_any t m _ hm s2).mono ?_; rintro e w' ⟨rfl, rfl⟩) | (go_at_call 69; refine (spilling_any t m _ hm s3 hle).mono ?_; rintro e w' ⟨rfl, rfl⟩))
      go_ret
      exact ⟨rfl, (((Below.refl _ _).alloc (Nat.le_refl _) _).alloc (by simp) _).alloc (by simp; omega) _⟩
    · have hsp' : Flow.spills t m = false := by simpa using hsp
      clear hsp
      have R := nextI_go (ts := ts) (m := m) T.out (by unfold Flow.fireErr; rw [if_neg (by rw [hen]; simp), if_neg (by rw [hsp']; simp)])
      rw [R]
      clear R
      go_enter Tryz.func82, Tryz.ntmps82
      go_wp2_with (first | (go_at_call 68; refine (enabled_any t m _ hm s2).mono ?_; rintro e w' ⟨rfl, rfl⟩) | (go_at_call 69; refine (spilling_any t m _ hm s3 hle).mono ?_; rintro e w' ⟨rfl, rfl⟩) | (go_at_call 70; refine (after_any t m _ hm s3 hle).mono ?_; rintro e w' ⟨rfl, rfl⟩))
      go_ret
      exact ⟨rfl, ((((Below.refl _ _).alloc (Nat.le_refl _) _).alloc (by simp) _).alloc (by simp; omega) _).alloc (by simp; omega) _⟩
  · have hen' : Flow.enabled t m = false := by simpa using hen
    clear hen
    have R := nextI_no (ts := ts) (m := m) T.out (by unfold Flow.fireErr; rw [if_pos hen']; omega)
    rw [R]
    clear R
    go_enter Tryz.func82, Tryz.ntmps82
    go_wp2_with (go_at_call 68; refine (enabled_any t m _ hm s2).mono ?_; rintro e w' ⟨rfl, rfl⟩)
    go_ret
    exact ⟨rfl, ((Below.refl _ _).alloc (Nat.le_refl _) _).alloc (by simp) _⟩

/-- the byte of a sign -/
def Flow.sgn (k : Nat) : UInt8 := UInt8.ofNat (if k < 10 then 48 + k else 55 + k)
def Flow.signs (ks : List Nat) : List UInt8 := ks.map Flow.sgn
def Flow.runOf (ks : List Nat) : ByteArray := ⟨(Flow.signs ks).toArray⟩
theorem sgn_num {k : Nat} (h : k < 16) : (Flow.sgn k).toNat = (if k < 10 then 48 + k else 55 + k) ∧ Flow.num (Flow.sgn k).toNat = k := by
  have e : (Flow.sgn k).toNat = (if k < 10 then 48 + k else 55 + k) := by
    unfold Flow.sgn; rw [UInt8.toNat_ofNat']; split <;> omega
  refine ⟨e, ?_⟩
  rw [e]; unfold Flow.num; split <;> (split <;> (try split) <;> omega)

set_option maxHeartbeats 400000 in
theorem signR_any (k : Nat) (w : World) (hk : k < 16) : Calls Tryz.prog 78 #[.int .i64 k] w fun e w' => e = .returned (.string (Flow.runOf [k])) ∧ w' = w := by
  have hI0 : (0 : Int) ≤ (k : Int) := by omega
  have hI1 : (k : Int) < 16 := by omega
  go_enter Tryz.func78, Tryz.ntmps78
  go_wp2
  go_ret
  refine ⟨congrArg (fun s => Ending.returned (Value.string s)) ?_, rfl⟩
  have hall : ∀ k, k < 16 → (ByteArray.mk #[48, 49, 50, 51, 52, 53, 54, 55, 56, 57, 65, 66, 67, 68, 69, 70]).extract k (k + 1) = Flow.runOf [k] := by decide
  exact hall k hk
end Go.Proofs.YtdlldljgogbiaabGreat
