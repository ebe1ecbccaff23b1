/-
  Plain mathematics of the token game: bytes, places, transitions, the reader, the shape, signs, steps. It imports nothing of the dump.
-/
namespace Go.Proofs.Ytdlldljgogbiaab
namespace Flow

/-- byte k of s, as a number; 0 beyond the end -/
def bt (s : ByteArray) (k : Nat) : Nat := if h : k < s.size then (s[k]).toNat else 0

theorem bt_at {s : ByteArray} {k : Nat} (h : k < s.size) : (s[k]).toNat = bt s k := by unfold bt; rw [dif_pos h]
theorem bt_lt (s : ByteArray) (k : Nat) : bt s k < 256 := by
  unfold bt; split
  · exact UInt8.toNat_lt _
  · omega

def isPl (c : Nat) : Bool := decide (65 ≤ c) && decide (c ≤ 80)
def isTk (c : Nat) : Bool := decide (97 ≤ c) && decide (c ≤ 122)
def isLb (c : Nat) : Bool := isTk c || decide (c = 45)

theorem isPl_iff {c : Nat} : isPl c = true ↔ 65 ≤ c ∧ c ≤ 80 := by simp [isPl]
theorem isTk_iff {c : Nat} : isTk c = true ↔ 97 ≤ c ∧ c ≤ 122 := by simp [isTk]

/-- the number of a sign; 99: none -/
def num (c : Nat) : Nat := if 48 ≤ c ∧ c ≤ 57 then c - 48 else if 65 ≤ c ∧ c ≤ 70 then c - 65 + 10 else 99

/-- the set written from i on behind 'set', and where it ends; n: at most so many places -/
def placesN (s : ByteArray) : Nat → Nat → Nat → Nat × Nat
  | 0, i, set => (set, i)
  | n + 1, i, set => if i < s.size ∧ isPl (bt s i) = true ∧ set < 2 ^ (bt s i - 65) then placesN s n (i + 1) (set + 2 ^ (bt s i - 65)) else (set, i)
def places (s : ByteArray) (i set : Nat) : Nat × Nat := placesN s (s.size - i) i set

theorem places_go {s : ByteArray} {i set : Nat} (h : i < s.size ∧ isPl (bt s i) = true ∧ set < 2 ^ (bt s i - 65)) : places s i set = places s (i + 1) (set + 2 ^ (bt s i - 65)) := by
  have e : s.size - i = (s.size - (i + 1)) + 1 := by omega
  unfold places; rw [e]; exact if_pos h
theorem places_end {s : ByteArray} {i set : Nat} (h : ¬ (i < s.size ∧ isPl (bt s i) = true ∧ set < 2 ^ (bt s i - 65))) : places s i set = (set, i) := by
  unfold places
  cases e : s.size - i with
  | zero => rfl
  | succ n => exact if_neg h

theorem places_ge (s : ByteArray) (i set : Nat) : i ≤ (places s i set).2 := by
  induction n : s.size - i generalizing i set with
  | zero => rw [places_end (by omega)]; exact Nat.le_refl _
  | succ n ih =>
    by_cases h : i < s.size ∧ isPl (bt s i) = true ∧ set < 2 ^ (bt s i - 65)
    · rw [places_go h]; have := ih (i + 1) (set + 2 ^ (bt s i - 65)) (by omega); omega
    · rw [places_end h]; exact Nat.le_refl _

theorem places_le (s : ByteArray) (i set : Nat) (hi : i ≤ s.size) : (places s i set).2 ≤ s.size := by
  induction n : s.size - i generalizing i set with
  | zero => rw [places_end (by omega)]; exact hi
  | succ n ih =>
    by_cases h : i < s.size ∧ isPl (bt s i) = true ∧ set < 2 ^ (bt s i - 65)
    · rw [places_go h]; exact ih (i + 1) _ (by omega) (by omega)
    · rw [places_end h]; exact hi

theorem places_lt (s : ByteArray) (i set : Nat) (hs : set < 65536) : (places s i set).1 < 65536 := by
  induction n : s.size - i generalizing i set with
  | zero => rw [places_end (by omega)]; exact hs
  | succ n ih =>
    by_cases h : i < s.size ∧ isPl (bt s i) = true ∧ set < 2 ^ (bt s i - 65)
    · rw [places_go h]
      refine ih (i + 1) _ ?_ (by omega)
      have hp := isPl_iff.1 h.2.1
      have h1 : 2 ^ (bt s i - 65) ≤ 2 ^ 15 := Nat.pow_le_pow_right (by omega) (by omega)
      have h2 := h.2.2
      have : (2 : Nat) ^ 15 = 32768 := by decide
      omega
    · rw [places_end h]; exact hs

structure Tr where
  label : Nat
  inn : Nat
  out : Nat

/-- the transition written from i on: it, where it ends, whole? -/
def trans (s : ByteArray) (i : Nat) : Tr × Nat × Bool :=
  if i < s.size ∧ isLb (bt s i) = true then
    if (places s (i + 1) 0).1 ≠ 0 ∧ (places s (i + 1) 0).2 < s.size ∧ bt s (places s (i + 1) 0).2 = 62 then
      (⟨bt s i, (places s (i + 1) 0).1, (places s ((places s (i + 1) 0).2 + 1) 0).1⟩, (places s ((places s (i + 1) 0).2 + 1) 0).2, decide ((places s ((places s (i + 1) 0).2 + 1) 0).1 ≠ 0))
    else (⟨0, 0, 0⟩, (places s (i + 1) 0).2, false)
  else (⟨0, 0, 0⟩, i, false)

theorem trans_ge (s : ByteArray) (i : Nat) : i ≤ (trans s i).2.1 := by
  unfold trans
  have h1 := places_ge s (i + 1) 0
  have h2 := places_ge s ((places s (i + 1) 0).2 + 1) 0
  split
  · split
    · show i ≤ (places s ((places s (i + 1) 0).2 + 1) 0).2
      omega
    · show i ≤ (places s (i + 1) 0).2
      omega
  · exact Nat.le_refl _

theorem trans_le (s : ByteArray) (i : Nat) (hi : i ≤ s.size) : (trans s i).2.1 ≤ s.size := by
  unfold trans
  split
  · rename_i h
    have h1 := places_le s (i + 1) 0 (by omega)
    split
    · rename_i h3
      exact places_le s _ 0 (by omega)
    · exact h1
  · exact hi

theorem trans_bd (s : ByteArray) (i : Nat) : (trans s i).1.label < 256 ∧ (trans s i).1.inn < 65536 ∧ (trans s i).1.out < 65536 := by
  unfold trans
  split
  · split
    · exact ⟨bt_lt _ _, places_lt _ _ _ (by omega), places_lt _ _ _ (by omega)⟩
    · simp
  · simp

/-- the transitions from i on behind acc: them, the place, whole? (n: at most so many) -/
def transesN (s : ByteArray) : Nat → Nat → List Tr → List Tr × Nat × Bool
  | 0, i, acc => (acc, i, true)
  | n + 1, i, acc =>
    if i < s.size then
      if bt s i = 59 ∧ acc.length < 16 then
        if (trans s (i + 1)).2.2 = true then transesN s n (trans s (i + 1)).2.1 (acc ++ [(trans s (i + 1)).1])
        else (acc, (trans s (i + 1)).2.1, false)
      else (acc, i, false)
    else (acc, i, true)
theorem transesN_succ (s : ByteArray) (n i : Nat) (acc : List Tr) : transesN s (n + 1) i acc =
    if i < s.size then
      if bt s i = 59 ∧ acc.length < 16 then
        if (trans s (i + 1)).2.2 = true then transesN s n (trans s (i + 1)).2.1 (acc ++ [(trans s (i + 1)).1])
        else (acc, (trans s (i + 1)).2.1, false)
      else (acc, i, false)
    else (acc, i, true) := rfl
def transes (s : ByteArray) (i : Nat) (acc : List Tr) : List Tr × Nat × Bool := transesN s (s.size - i) i acc
theorem transesN_more (s : ByteArray) (n m i : Nat) (acc : List Tr) (hn : s.size - i ≤ n) (hm : s.size - i ≤ m) : transesN s n i acc = transesN s m i acc := by
  induction n generalizing m i acc with
  | zero =>
    cases m with
    | zero => rfl
    | succ m => exact (if_neg (by omega)).symm
  | succ n ih =>
    cases m with
    | zero => exact if_neg (by omega)
    | succ m =>
      rw [transesN_succ, transesN_succ]
      by_cases h1 : i < s.size
      · rw [if_pos h1, if_pos h1]
        by_cases h2 : bt s i = 59 ∧ acc.length < 16
        · rw [if_pos h2, if_pos h2]
          by_cases h3 : (trans s (i + 1)).2.2 = true
          · rw [if_pos h3, if_pos h3]
            have := trans_ge s (i + 1)
            exact ih m _ _ (by omega) (by omega)
          · rw [if_neg h3, if_neg h3]
        · rw [if_neg h2, if_neg h2]
      · rw [if_neg h1, if_neg h1]
theorem transes_eq (s : ByteArray) (i : Nat) (acc : List Tr) : transes s i acc =
    if i < s.size then
      if bt s i = 59 ∧ acc.length < 16 then
        if (trans s (i + 1)).2.2 = true then transes s (trans s (i + 1)).2.1 (acc ++ [(trans s (i + 1)).1])
        else (acc, (trans s (i + 1)).2.1, false)
      else (acc, i, false)
    else (acc, i, true) := by
  by_cases h1 : i < s.size
  · have e : s.size - i = (s.size - (i + 1)) + 1 := by omega
    unfold transes
    rw [e, transesN_succ]
    rw [if_pos h1, if_pos h1]
    by_cases h2 : bt s i = 59 ∧ acc.length < 16
    · rw [if_pos h2, if_pos h2]
      by_cases h3 : (trans s (i + 1)).2.2 = true
      · rw [if_pos h3, if_pos h3]
        have := trans_ge s (i + 1)
        exact transesN_more s (s.size - (i + 1)) (s.size - (trans s (i + 1)).2.1) (trans s (i + 1)).2.1 _ (by omega) (by omega)
      · rw [if_neg h3, if_neg h3]
    · rw [if_neg h2, if_neg h2]
  · rw [if_neg h1]
    have e : s.size - i = 0 := by omega
    unfold transes; rw [e]; rfl

theorem transes_go {s : ByteArray} {i : Nat} {acc : List Tr} (h1 : i < s.size) (h2 : bt s i = 59) (h3 : acc.length < 16) (h4 : (trans s (i + 1)).2.2 = true) :
    transes s i acc = transes s (trans s (i + 1)).2.1 (acc ++ [(trans s (i + 1)).1]) := by
  rw [transes_eq, if_pos h1, if_pos ⟨h2, h3⟩, if_pos h4]
theorem transes_bad {s : ByteArray} {i : Nat} {acc : List Tr} (h1 : i < s.size) (h2 : bt s i = 59) (h3 : acc.length < 16) (h4 : (trans s (i + 1)).2.2 = false) :
    transes s i acc = (acc, (trans s (i + 1)).2.1, false) := by
  rw [transes_eq, if_pos h1, if_pos ⟨h2, h3⟩, if_neg (by rw [h4]; simp)]
theorem transes_no {s : ByteArray} {i : Nat} {acc : List Tr} (h1 : i < s.size) (h2 : ¬ (bt s i = 59 ∧ acc.length < 16)) :
    transes s i acc = (acc, i, false) := by
  rw [transes_eq, if_pos h1, if_neg h2]
theorem transes_end {s : ByteArray} {i : Nat} {acc : List Tr} (h1 : ¬ i < s.size) : transes s i acc = (acc, i, true) := by
  rw [transes_eq, if_neg h1]

/-- do the first two bytes stand? (2: yes; else the place) -/
def headAt (s : ByteArray) : Nat :=
  if s.size < 1 ∨ isPl (bt s 0) = false then 0
  else if s.size < 2 ∨ isPl (bt s 1) = false ∨ bt s 1 = bt s 0 then 1 else 2

/-- where the reader stands, and: is it a net? -/
def readAt (s : ByteArray) : Nat := if headAt s = 2 then (transes s 2 []).2.1 else headAt s
def readOk (s : ByteArray) : Bool := decide (headAt s = 2) && (transes s 2 []).2.2
def readTr (s : ByteArray) : List Tr := (transes s 2 []).1

/-- what 'puts' is behind the byte c -/
def putsAt (c : Nat) (puts : Bool) : Bool := if c = 62 then true else if c = 59 then false else puts
/-- the first byte from i on by which a transition puts to the start or takes from the end; the length: none (n: at most so many bytes) -/
def shapeN (s : ByteArray) : Nat → Nat → Bool → Nat
  | 0, _, _ => s.size
  | n + 1, i, puts =>
    if (putsAt (bt s i) puts = true ∧ bt s i = bt s 0) ∨ (putsAt (bt s i) puts = false ∧ bt s i = bt s 1) then i else shapeN s n (i + 1) (putsAt (bt s i) puts)
def shape (s : ByteArray) (i : Nat) (puts : Bool) : Nat := shapeN s (s.size - i) i puts
theorem shape_here {s : ByteArray} {i : Nat} {puts : Bool} (h : i < s.size) (g : (putsAt (bt s i) puts = true ∧ bt s i = bt s 0) ∨ (putsAt (bt s i) puts = false ∧ bt s i = bt s 1)) : shape s i puts = i := by
  have e : s.size - i = (s.size - (i + 1)) + 1 := by omega
  unfold shape; rw [e]; exact if_pos g
theorem shape_next {s : ByteArray} {i : Nat} {puts : Bool} (h : i < s.size) (g : ¬ ((putsAt (bt s i) puts = true ∧ bt s i = bt s 0) ∨ (putsAt (bt s i) puts = false ∧ bt s i = bt s 1))) : shape s i puts = shape s (i + 1) (putsAt (bt s i) puts) := by
  have e : s.size - i = (s.size - (i + 1)) + 1 := by omega
  unfold shape; rw [e]; exact if_neg g
theorem shape_end {s : ByteArray} {i : Nat} {puts : Bool} (h : ¬ i < s.size) : shape s i puts = s.size := by
  have e : s.size - i = 0 := by omega
  unfold shape; rw [e]; rfl
theorem shape_le (s : ByteArray) (i : Nat) (puts : Bool) : shape s i puts ≤ s.size := by
  induction n : s.size - i generalizing i puts with
  | zero => rw [shape_end (by omega)]; exact Nat.le_refl _
  | succ n ih =>
    have h : i < s.size := by omega
    by_cases g : (putsAt (bt s i) puts = true ∧ bt s i = bt s 0) ∨ (putsAt (bt s i) puts = false ∧ bt s i = bt s 1)
    · rw [shape_here h g]; omega
    · rw [shape_next h g]; exact ih (i + 1) _ (by omega)

/-- Check -/
def checkErr (s : ByteArray) : Nat := if 160 < s.size then 1 else if readOk s = false then 2 else if shape s 2 false < s.size then 3 else 0
def checkAt (s : ByteArray) : Nat := if 160 < s.size then 0 else if readOk s = false then readAt s else if shape s 2 false < s.size then shape s 2 false else 0

/-- the set of one place -/
def pbit (c : Nat) : Nat := if isPl c = true then 2 ^ (c - 65) else 0
theorem pbit_lt (c : Nat) : pbit c < 65536 := by
  unfold pbit; split
  · rename_i h
    have hp := isPl_iff.1 h
    have h1 : 2 ^ (c - 65) ≤ 2 ^ 15 := Nat.pow_le_pow_right (by omega) (by omega)
    have : (2 : Nat) ^ 15 = 32768 := by decide
    omega
  · omega

/-- a transition at a marking -/
def enabled (t : Tr) (m : Nat) : Bool := decide (m &&& t.inn = t.inn)
def spills (t : Tr) (m : Nat) : Bool := !decide ((m - t.inn) &&& t.out = 0)
def after (t : Tr) (m : Nat) : Nat := m - t.inn + t.out
/-- the error of firing: 5 idle, 6 spill, 0 none -/
def fireErr (t : Tr) (m : Nat) : Nat := if enabled t m = false then 5 else if spills t m = true then 6 else 0
def fireTo (t : Tr) (m : Nat) : Nat := if fireErr t m = 0 then after t m else 0

/-- n steps of a run from marking m on, from step i on: marking, error, place -/
def stepsN (ts : List Tr) (run : ByteArray) : Nat → Nat → Nat → Nat × Nat × Nat
  | 0, m, _ => (m, 0, 0)
  | n + 1, m, i =>
    match ts[num (bt run i)]? with
    | none => (0, 4, i)
    | some t => if fireErr t m = 0 then stepsN ts run n (after t m) (i + 1) else (0, fireErr t m, i)
theorem stepsN_succ (ts : List Tr) (run : ByteArray) (n m i : Nat) : stepsN ts run (n + 1) m i =
    match ts[num (bt run i)]? with
    | none => (0, 4, i)
    | some t => if fireErr t m = 0 then stepsN ts run n (after t m) (i + 1) else (0, fireErr t m, i) := rfl
def steps (ts : List Tr) (m : Nat) (run : ByteArray) (i : Nat) : Nat × Nat × Nat := stepsN ts run (run.size - i) m i
theorem steps_end {ts : List Tr} {m : Nat} {run : ByteArray} {i : Nat} (h : ¬ i < run.size) : steps ts m run i = (m, 0, 0) := by
  have e : run.size - i = 0 := by omega
  unfold steps; rw [e]; rfl
theorem steps_none {ts : List Tr} {m : Nat} {run : ByteArray} {i : Nat} (h : i < run.size) (g : ts.length ≤ num (bt run i)) : steps ts m run i = (0, 4, i) := by
  have e : run.size - i = (run.size - (i + 1)) + 1 := by omega
  unfold steps; rw [e, stepsN_succ, List.getElem?_eq_none g]
theorem steps_go {ts : List Tr} {m : Nat} {run : ByteArray} {i : Nat} {t : Tr} (h : i < run.size) (g : ts[num (bt run i)]? = some t) (f : fireErr t m = 0) : steps ts m run i = steps ts (after t m) run (i + 1) := by
  have e : run.size - i = (run.size - (i + 1)) + 1 := by omega
  unfold steps; rw [e, stepsN_succ, g]; exact if_pos f
theorem steps_bad {ts : List Tr} {m : Nat} {run : ByteArray} {i : Nat} {t : Tr} (h : i < run.size) (g : ts[num (bt run i)]? = some t) (f : fireErr t m ≠ 0) : steps ts m run i = (0, fireErr t m, i) := by
  have e : run.size - i = (run.size - (i + 1)) + 1 := by omega
  unfold steps; rw [e, stepsN_succ, g]; exact if_neg f

end Flow
end Go.Proofs.Ytdlldljgogbiaab
