/-
  Plain mathematics of the token game: bytes, places, transitions, the reader, the shape, signs, steps. It imports nothing of the dump.
-/
namespace Go.Proofs.Ytcdddfcadkckkaa
namespace Flow

/-- byte k of s, as a number; 0 beyond the end -/
def bt (s : ByteArray) (k : Nat) : Nat := if h : k < s.size then (s[k]).toNat else 0

theorem bt_at {s : ByteArray} {k : Nat} (h : k < s.size) : (s[k]).toNat = bt s k := by unfold bt; rw [dif_pos h]
theorem bt_lt (s : ByteArray) (k : Nat) : bt s k < 256 := by
  unfold bt; split
  · exact UInt8.toNat_lt _
  · omega

def isPl (c : Nat) : Bool := decide (65 ≤ c) && decide (c ≤ 80)
def isTk (c : Nat) : Bool := decide (97 ≤ c) && decide (c ≤ 122)
def isLb (c : Nat) : Bool := isTk c || decide (c = 45)

theorem isPl_iff {c : Nat} : isPl c = true ↔ 65 ≤ c ∧ c ≤ 80 := by simp [isPl]
theorem isTk_iff {c : Nat} : isTk c = true ↔ 97 ≤ c ∧ c ≤ 122 := by simp [isTk]

/-- the number of a sign; 99: none -/
def num (c : Nat) : Nat := if 48 ≤ c ∧ c ≤ 57 then c - 48 else if 65 ≤ c ∧ c ≤ 70 then c - 65 + 10 else 99

/-- the set written from i on behind 'set', and where it ends -/
def places (s : ByteArray) (i set : Nat) : Nat × Nat :=
  if i < s.size ∧ isPl (bt s i) = true ∧ set < 2 ^ (bt s i - 65) then places s (i + 1) (set + 2 ^ (bt s i - 65)) else (set, i)
termination_by s.size - i

theorem places_go {s : ByteArray} {i set : Nat} (h : i < s.size ∧ isPl (bt s i) = true ∧ set < 2 ^ (bt s i - 65)) : places s i set = places s (i + 1) (set + 2 ^ (bt s i - 65)) := by
  rw [places, if_pos h]
theorem places_end {s : ByteArray} {i set : Nat} (h : ¬ (i < s.size ∧ isPl (bt s i) = true ∧ set < 2 ^ (bt s i - 65))) : places s i set = (set, i) := by
  rw [places, if_neg h]

theorem places_ge (s : ByteArray) (i set : Nat) : i ≤ (places s i set).2 := by
  by_cases h : i < s.size ∧ isPl (bt s i) = true ∧ set < 2 ^ (bt s i - 65)
  · rw [places_go h]; have := places_ge s (i + 1) (set + 2 ^ (bt s i - 65)); omega
  · rw [places_end h]; exact Nat.le_refl _
termination_by s.size - i
decreasing_by omega

theorem places_le (s : ByteArray) (i set : Nat) (hi : i ≤ s.size) : (places s i set).2 ≤ s.size := by
  by_cases h : i < s.size ∧ isPl (bt s i) = true ∧ set < 2 ^ (bt s i - 65)
  · rw [places_go h]; exact places_le s (i + 1) _ (by omega)
  · rw [places_end h]; exact hi
termination_by s.size - i
decreasing_by omega

theorem places_lt (s : ByteArray) (i set : Nat) (hs : set < 65536) : (places s i set).1 < 65536 := by
  by_cases h : i < s.size ∧ isPl (bt s i) = true ∧ set < 2 ^ (bt s i - 65)
  · rw [places_go h]
    refine places_lt s (i + 1) _ ?_
    have hp := isPl_iff.1 h.2.1
    have h1 : 2 ^ (bt s i - 65) ≤ 2 ^ 15 := Nat.pow_le_pow_right (by omega) (by omega)
    have h2 := h.2.2
    have : (2 : Nat) ^ 15 = 32768 := by decide
    omega
  · rw [places_end h]; exact hs
termination_by s.size - i
decreasing_by omega

structure Tr where
  label : Nat
  inn : Nat
  out : Nat
deriving Inhabited, DecidableEq

/-- the transition written from i on: it, where it ends, whole? -/
def trans (s : ByteArray) (i : Nat) : Tr × Nat × Bool :=
  if i < s.size ∧ isLb (bt s i) = true then
    if (places s (i + 1) 0).1 ≠ 0 ∧ (places s (i + 1) 0).2 < s.size ∧ bt s (places s (i + 1) 0).2 = 62 then
      (⟨bt s i, (places s (i + 1) 0).1, (places s ((places s (i + 1) 0).2 + 1) 0).1⟩, (places s ((places s (i + 1) 0).2 + 1) 0).2, decide ((places s ((places s (i + 1) 0).2 + 1) 0).1 ≠ 0))
    else (⟨0, 0, 0⟩, (places s (i + 1) 0).2, false)
  else (⟨0, 0, 0⟩, i, false)

theorem trans_ge (s : ByteArray) (i : Nat) : i ≤ (trans s i).2.1 := by
  unfold trans
  have h1 := places_ge s (i + 1) 0
  have h2 := places_ge s ((places s (i + 1) 0).2 + 1) 0
  split
  · split
    · show i ≤ (places s ((places s (i + 1) 0).2 + 1) 0).2
      omega
    · show i ≤ (places s (i + 1) 0).2
      omega
  · exact Nat.le_refl _

theorem trans_le (s : ByteArray) (i : Nat) (hi : i ≤ s.size) : (trans s i).2.1 ≤ s.size := by
  unfold trans
  split
  · rename_i h
    have h1 := places_le s (i + 1) 0 (by omega)
    split
    · rename_i h3
      exact places_le s _ 0 (by omega)
    · exact h1
  · exact hi

theorem trans_bd (s : ByteArray) (i : Nat) : (trans s i).1.label < 256 ∧ (trans s i).1.inn < 65536 ∧ (trans s i).1.out < 65536 := by
  unfold trans
  split
  · split
    · exact ⟨bt_lt _ _, places_lt _ _ _ (by omega), places_lt _ _ _ (by omega)⟩
    · simp
  · simp

/-- the transitions from i on behind acc: them, the place, whole? -/
def transes (s : ByteArray) (i : Nat) (acc : List Tr) : List Tr × Nat × Bool :=
  if i < s.size then
    if bt s i = 59 ∧ acc.length < 16 then
      if (trans s (i + 1)).2.2 = true then transes s (trans s (i + 1)).2.1 (acc ++ [(trans s (i + 1)).1])
      else (acc, (trans s (i + 1)).2.1, false)
    else (acc, i, false)
  else (acc, i, true)
termination_by s.size - i
decreasing_by have := trans_ge s (i + 1); omega

theorem transes_go {s : ByteArray} {i : Nat} {acc : List Tr} (h1 : i < s.size) (h2 : bt s i = 59) (h3 : acc.length < 16) (h4 : (trans s (i + 1)).2.2 = true) :
    transes s i acc = transes s (trans s (i + 1)).2.1 (acc ++ [(trans s (i + 1)).1]) := by
  rw [transes, if_pos h1, if_pos ⟨h2, h3⟩, if_pos h4]
theorem transes_bad {s : ByteArray} {i : Nat} {acc : List Tr} (h1 : i < s.size) (h2 : bt s i = 59) (h3 : acc.length < 16) (h4 : (trans s (i + 1)).2.2 = false) :
    transes s i acc = (acc, (trans s (i + 1)).2.1, false) := by
  rw [transes, if_pos h1, if_pos ⟨h2, h3⟩, if_neg (by rw [h4]; simp)]
theorem transes_no {s : ByteArray} {i : Nat} {acc : List Tr} (h1 : i < s.size) (h2 : ¬ (bt s i = 59 ∧ acc.length < 16)) :
    transes s i acc = (acc, i, false) := by
  rw [transes, if_pos h1, if_neg h2]
theorem transes_end {s : ByteArray} {i : Nat} {acc : List Tr} (h1 : ¬ i < s.size) : transes s i acc = (acc, i, true) := by
  rw [transes, if_neg h1]

/-- do the first two bytes stand? (2: yes; else the place) -/
def headAt (s : ByteArray) : Nat :=
  if s.size < 1 ∨ isPl (bt s 0) = false then 0
  else if s.size < 2 ∨ isPl (bt s 1) = false ∨ bt s 1 = bt s 0 then 1 else 2

/-- where the reader stands, and: is it a net? -/
def readAt (s : ByteArray) : Nat := if headAt s = 2 then (transes s 2 []).2.1 else headAt s
def readOk (s : ByteArray) : Bool := decide (headAt s = 2) && (transes s 2 []).2.2
def readTr (s : ByteArray) : List Tr := (transes s 2 []).1

/-- the first byte from i on by which a transition puts to the start or takes from the end; the length: none -/
def shape (s : ByteArray) (i : Nat) (puts : Bool) : Nat :=
  if i < s.size then
    let p := if bt s i = 62 then true else if bt s i = 59 then false else puts
    if (p = true ∧ bt s i = bt s 0) ∨ (p = false ∧ bt s i = bt s 1) then i else shape s (i + 1) p
  else s.size
termination_by s.size - i

/-- Check -/
def checkErr (s : ByteArray) : Nat := if 160 < s.size then 1 else if readOk s = false then 2 else if shape s 2 false < s.size then 3 else 0
def checkAt (s : ByteArray) : Nat := if 160 < s.size then 0 else if readOk s = false then readAt s else if shape s 2 false < s.size then shape s 2 false else 0

/-- the set of one place -/
def pbit (c : Nat) : Nat := if isPl c = true then 2 ^ (c - 65) else 0
theorem pbit_lt (c : Nat) : pbit c < 65536 := by
  unfold pbit; split
  · rename_i h
    have hp := isPl_iff.1 h
    have h1 : 2 ^ (c - 65) ≤ 2 ^ 15 := Nat.pow_le_pow_right (by omega) (by omega)
    have : (2 : Nat) ^ 15 = 32768 := by decide
    omega
  · omega

/-- a transition at a marking -/
def enabled (t : Tr) (m : Nat) : Bool := decide (m &&& t.inn = t.inn)
def spills (t : Tr) (m : Nat) : Bool := !decide ((m - t.inn) &&& t.out = 0)
def after (t : Tr) (m : Nat) : Nat := m - t.inn + t.out
/-- the error of firing: 5 idle, 6 spill, 0 none -/
def fireErr (t : Tr) (m : Nat) : Nat := if enabled t m = false then 5 else if spills t m = true then 6 else 0
def fireTo (t : Tr) (m : Nat) : Nat := if fireErr t m = 0 then after t m else 0

/-- steps of a run from marking m on, from step i on: marking, error, place -/
def steps (ts : List Tr) (m : Nat) (run : ByteArray) (i : Nat) : Nat × Nat × Nat :=
  if i < run.size then
    match ts[num (bt run i)]? with
    | none => (0, 4, i)
    | some t => if fireErr t m = 0 then steps ts (after t m) run (i + 1) else (0, fireErr t m, i)
  else (m, 0, 0)
termination_by run.size - i

end Flow
end Go.Proofs.Ytcdddfcadkckkaa
