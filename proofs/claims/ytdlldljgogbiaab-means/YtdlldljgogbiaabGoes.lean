/-
  Runs as texts and as lists of numbers: plain.
-/
import Derived.Test.YtdlldljgogbiaabUniq
namespace Go.Proofs.Ytdlldljgogbiaab
open Go.RowKit

theorem num_sgn {c : UInt8} {k : Nat} (h : Flow.num c.toNat = k) (hk : k < 16) : c = Flow.sgn k := by
  have hc := UInt8.toNat_lt c
  apply UInt8.toNat_inj.1
  rw [(sgn_num hk).1]
  unfold Flow.num at h
  split at h
  · split <;> omega
  · split at h
    · split <;> omega
    · omega
theorem sgn_inj {j k : Nat} (hj : j < 16) (hk : k < 16) (h : Flow.sgn j = Flow.sgn k) : j = k := by
  have h1 := (sgn_num hj).2
  have h2 := (sgn_num hk).2
  rw [h] at h1
  omega
theorem goes_lt {ts : List Flow.Tr} {m m' : Nat} {ks : List Nat} (h : Flow.goes ts m ks = some m') : ∀ k ∈ ks, k < ts.length := by
  induction ks generalizing m with
  | nil => intro k hk; cases hk
  | cons k ks ih =>
    have h' : (match Flow.nextM ts m k with | none => none | some m1 => Flow.goes ts m1 ks) = some m' := h
    cases hx : Flow.nextM ts m k with
    | none => rw [hx] at h'; cases h'
    | some m1 =>
      rw [hx] at h'
      intro j hj
      rcases List.mem_cons.1 hj with rfl | hj
      · rcases Nat.lt_or_ge j ts.length with g | g
        · exact g
        · unfold Flow.nextM at hx; rw [List.getElem?_eq_none g] at hx; cases hx
      · exact ih h' j hj
theorem signs_inj {a b : List Nat} (ha : ∀ k ∈ a, k < 16) (hb : ∀ k ∈ b, k < 16) (h : Flow.signs a = Flow.signs b) : a = b := by
  induction a generalizing b with
  | nil => cases b with
    | nil => rfl
    | cons y b => simp [Flow.signs] at h
  | cons x a ih => cases b with
    | nil => simp [Flow.signs] at h
    | cons y b =>
      simp [Flow.signs] at h
      have e2 := ih (b := b) (fun k hk => ha k (by simp [hk])) (fun k hk => hb k (by simp [hk])) (by simpa [Flow.signs] using h.2)
      rw [sgn_inj (ha x (by simp)) (hb y (by simp)) h.1, e2]
theorem runOf_inj {a b : List Nat} (ha : ∀ k ∈ a, k < 16) (hb : ∀ k ∈ b, k < 16) (h : Flow.runOf a = Flow.runOf b) : a = b := by
  apply signs_inj ha hb
  have := congrArg (fun x => x.data.toList) h
  simpa [Flow.runOf] using this
theorem bt_list (s : ByteArray) {i : Nat} (h : i < s.size) : s.data.toList[i]? = some s[i] := by
  rw [List.getElem?_eq_getElem (by simpa using h)]; rfl
theorem drop_at (s : ByteArray) {i : Nat} (h : i < s.size) : s.data.toList.drop i = s[i] :: s.data.toList.drop (i + 1) := by
  rw [List.drop_eq_getElem_cons (by simpa using h)]; rfl

/-- a text of steps that go, and where they come to -/
theorem steps_goes {ts : List Flow.Tr} (hts : ts.length ≤ 16) (run : ByteArray) (m i : Nat) (hi : i ≤ run.size) (m' : Nat) : ((Flow.steps ts m run i).2.1 = 0 ∧ (Flow.steps ts m run i).1 = m') ↔ ∃ ks, Flow.signs ks = run.data.toList.drop i ∧ Flow.goes ts m ks = some m' := by
  induction n : run.size - i generalizing i m with
  | zero =>
    have he : i = run.size := by omega
    rw [Flow.steps_end (by omega)]
    have hd : run.data.toList.drop i = [] := by apply List.drop_eq_nil_of_le; simp; omega
    rw [hd]
    constructor
    · rintro ⟨_, h⟩; exact ⟨[], rfl, by simpa [Flow.goes] using h⟩
    · rintro ⟨ks, h1, h2⟩
      have : ks = [] := by simpa [Flow.signs] using h1
      subst this
      exact ⟨rfl, by simpa [Flow.goes] using h2⟩
  | succ n ih =>
    have hlt : i < run.size := by omega
    have hb := Flow.bt_at hlt
    rw [drop_at run hlt]
    have key : ∀ k ks, Flow.signs (k :: ks) = run[i] :: run.data.toList.drop (i + 1) ↔ Flow.sgn k = run[i] ∧ Flow.signs ks = run.data.toList.drop (i + 1) := by intro k ks; simp [Flow.signs]
    by_cases g : Flow.num (Flow.bt run i) < ts.length
    · have ht := List.getElem?_eq_getElem g
      have hsg : Flow.sgn (Flow.num (Flow.bt run i)) = run[i] := by rw [← hb]; exact (num_sgn rfl (by rw [hb]; omega)).symm
      have uni : ∀ k, k < 16 → Flow.sgn k = run[i] → k = Flow.num (Flow.bt run i) := fun k hk h => sgn_inj hk (by omega) (by rw [h, hsg])
      by_cases f : Flow.fireErr ts[Flow.num (Flow.bt run i)] m = 0
      · rw [Flow.steps_go hlt ht f, ih (Flow.after ts[Flow.num (Flow.bt run i)] m) (i + 1) (by omega) (by omega)]
        have hx : Flow.nextM ts m (Flow.num (Flow.bt run i)) = some (Flow.after ts[Flow.num (Flow.bt run i)] m) := by rw [nextM_at ht, if_pos f]
        constructor
        · rintro ⟨ks, h1, h2⟩
          refine ⟨Flow.num (Flow.bt run i) :: ks, (key _ _).2 ⟨hsg, h1⟩, ?_⟩
          show (match Flow.nextM ts m (Flow.num (Flow.bt run i)) with | none => none | some m1 => Flow.goes ts m1 ks) = _
          rw [hx]; exact h2
        · rintro ⟨ks, h1, h2⟩
          cases ks with
          | nil => simp [Flow.signs] at h1
          | cons k ks =>
            obtain ⟨h3, h4⟩ := (key _ _).1 h1
            have hk := uni k (by have := goes_lt h2 k (by simp); omega) h3
            subst hk
            refine ⟨ks, h4, ?_⟩
            have h5 : (match Flow.nextM ts m (Flow.num (Flow.bt run i)) with | none => none | some m1 => Flow.goes ts m1 ks) = some m' := h2
            rw [hx] at h5; exact h5
      · rw [Flow.steps_bad hlt ht f]
        constructor
        · rintro ⟨h, _⟩; exact absurd h f
        · rintro ⟨ks, h1, h2⟩
          cases ks with
          | nil => simp [Flow.signs] at h1
          | cons k ks =>
            obtain ⟨h3, h4⟩ := (key _ _).1 h1
            have hk := uni k (by have := goes_lt h2 k (by simp); omega) h3
            subst hk
            have h5 : (match Flow.nextM ts m (Flow.num (Flow.bt run i)) with | none => none | some m1 => Flow.goes ts m1 ks) = some m' := h2
            rw [nextM_at ht, if_neg f] at h5; cases h5
    · rw [Flow.steps_none hlt (by omega)]
      constructor
      · rintro ⟨h, _⟩; cases h
      · rintro ⟨ks, h1, h2⟩
        cases ks with
        | nil => simp [Flow.signs] at h1
        | cons k ks =>
          obtain ⟨h3, h4⟩ := (key _ _).1 h1
          have hk := goes_lt h2 k (by simp)
          have := (sgn_num (k := k) (by omega)).2
          rw [h3, hb] at this
          omega
theorem runOf_iff {ks : List Nat} {run : ByteArray} : Flow.signs ks = run.data.toList ↔ Flow.runOf ks = run := by
  unfold Flow.runOf
  constructor
  · intro h; rw [h]
  · intro h; rw [← h]
theorem played_goes {s run : ByteArray} {m' : Nat} : ((Flow.played s run).2.1 = 0 ∧ (Flow.played s run).1 = m') ↔ ∃ ks, Flow.runOf ks = run ∧ Flow.goes (Flow.readTr s) (Flow.first s) ks = some m' := by
  unfold Flow.played
  rw [steps_goes (readTr_size s) run (Flow.first s) 0 (Nat.zero_le _) m']
  constructor
  · rintro ⟨ks, h1, h2⟩; exact ⟨ks, runOf_iff.1 (by simpa using h1), h2⟩
  · rintro ⟨ks, h1, h2⟩; exact ⟨ks, by simpa using runOf_iff.2 h1, h2⟩

/-- Fire admits just the runs -/
theorem fire_run {s run : ByteArray} : Flow.fireE s run = 0 ↔ run.size ≤ 65536 ∧ Flow.checkErr s = 0 ∧ ∃ ks m, Flow.runOf ks = run ∧ Flow.goes (Flow.readTr s) (Flow.first s) ks = some m := by
  constructor
  · intro h
    obtain ⟨h1, h2, h3⟩ := fireE_ok h
    obtain ⟨ks, h4, h5⟩ := played_goes.1 ⟨h3, rfl⟩
    exact ⟨by omega, h2, ks, _, h4, h5⟩
  · rintro ⟨h1, h2, ks, m, h3, h4⟩
    have := (played_goes.2 ⟨ks, h3, h4⟩).1
    unfold Flow.fireE
    rw [if_neg (by omega), if_neg (fun x => x h2)]
    exact this
end Go.Proofs.Ytdlldljgogbiaab
