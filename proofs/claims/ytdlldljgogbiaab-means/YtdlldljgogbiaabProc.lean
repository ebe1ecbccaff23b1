/-
  Processes: their texts, their nodes, their words: plain.
-/
import Derived.Test.YtdlldljgogbiaabPlain
namespace Go.Proofs.Ytdlldljgogbiaab
namespace Flow

/-- one word behind the other, any number of times -/
def Star (L : List Nat → Prop) (w : List Nat) : Prop := ∃ ws : List (List Nat), w = ws.flatten ∧ ∀ u ∈ ws, L u
/-- w is u and v mixed, each in its own order -/
def Mix : List Nat → List Nat → List Nat → Prop
  | [], u, v => u = [] ∧ v = []
  | c :: w, u, v => (∃ u', u = c :: u' ∧ Mix w u' v) ∨ (∃ v', v = c :: v' ∧ Mix w u v')

/-- the scan of a process at i (n: fuel): where it ends, its nodes, is it one; else where it cannot go on -/
def scanN (s : ByteArray) : Nat → Nat → Nat × Nat × Bool
  | 0, i => (i, 0, false)
  | f + 1, i =>
    if s.size ≤ i then (i, 0, false)
    else if isTk (bt s i) = true then (i + 1, 1, true)
    else if bt s i = 42 then
      (if (scanN s f (i + 1)).2.2 = true then ((scanN s f (i + 1)).1, 1 + (scanN s f (i + 1)).2.1, true) else ((scanN s f (i + 1)).1, 0, false))
    else if bt s i = 46 ∨ bt s i = 43 ∨ bt s i = 38 then
      (if (scanN s f (i + 1)).2.2 = true then
        (if (scanN s f (scanN s f (i + 1)).1).2.2 = true then ((scanN s f (scanN s f (i + 1)).1).1, 1 + (scanN s f (i + 1)).2.1 + (scanN s f (scanN s f (i + 1)).1).2.1, true)
         else ((scanN s f (scanN s f (i + 1)).1).1, 0, false))
       else ((scanN s f (i + 1)).1, 0, false))
    else (i, 0, false)
theorem scanN_ge (s : ByteArray) (f i : Nat) : i ≤ (scanN s f i).1 := by
  induction f generalizing i with
  | zero => exact Nat.le_refl _
  | succ f ih =>
    have h1 := ih (i + 1)
    have h2 := ih (scanN s f (i + 1)).1
    unfold scanN
    split
    · exact Nat.le_refl _
    · split
      · show i ≤ i + 1; omega
      · split
        · split
          · show i ≤ (scanN s f (i + 1)).1; omega
          · show i ≤ (scanN s f (i + 1)).1; omega
        · split
          · split
            · split
              · show i ≤ (scanN s f (scanN s f (i + 1)).1).1; omega
              · show i ≤ (scanN s f (scanN s f (i + 1)).1).1; omega
            · show i ≤ (scanN s f (i + 1)).1; omega
          · exact Nat.le_refl _
theorem scanN_le (s : ByteArray) (f i : Nat) (hi : i ≤ s.size) : (scanN s f i).1 ≤ s.size := by
  induction f generalizing i with
  | zero => exact hi
  | succ f ih =>
    unfold scanN
    split
    · exact hi
    · rename_i hlt
      have h1 := ih (i + 1) (by omega)
      have h2 := ih _ h1
      split
      · show i + 1 ≤ s.size; omega
      · split
        · split
          · exact h1
          · exact h1
        · split
          · split
            · split
              · exact h2
              · exact h2
            · exact h1
          · exact hi
theorem scanN_more (s : ByteArray) (f g i : Nat) (hf : s.size - i < f) (hg : s.size - i < g) : scanN s f i = scanN s g i := by
  induction f generalizing g i with
  | zero => omega
  | succ f ih =>
    cases g with
    | zero => omega
    | succ g =>
      unfold scanN
      by_cases h : s.size ≤ i
      · rw [if_pos h, if_pos h]
      · rw [if_neg h, if_neg h]
        have e1 := ih g (i + 1) (by omega) (by omega)
        have h1 := scanN_ge s g (i + 1)
        have e2 := ih g (scanN s g (i + 1)).1 (by omega) (by omega)
        rw [e1, e2]
def scan (s : ByteArray) (i : Nat) : Nat × Nat × Bool := scanN s (s.size - i + 1) i
theorem scan_ge (s : ByteArray) (i : Nat) : i ≤ (scan s i).1 := scanN_ge _ _ _
theorem scan_le (s : ByteArray) (i : Nat) (h : i ≤ s.size) : (scan s i).1 ≤ s.size := scanN_le _ _ _ h
theorem scan_eq (s : ByteArray) (i : Nat) : scan s i =
    if s.size ≤ i then (i, 0, false)
    else if isTk (bt s i) = true then (i + 1, 1, true)
    else if bt s i = 42 then
      (if (scan s (i + 1)).2.2 = true then ((scan s (i + 1)).1, 1 + (scan s (i + 1)).2.1, true) else ((scan s (i + 1)).1, 0, false))
    else if bt s i = 46 ∨ bt s i = 43 ∨ bt s i = 38 then
      (if (scan s (i + 1)).2.2 = true then
        (if (scan s (scan s (i + 1)).1).2.2 = true then ((scan s (scan s (i + 1)).1).1, 1 + (scan s (i + 1)).2.1 + (scan s (scan s (i + 1)).1).2.1, true)
         else ((scan s (scan s (i + 1)).1).1, 0, false))
       else ((scan s (i + 1)).1, 0, false))
    else (i, 0, false) := by
  by_cases h : s.size ≤ i
  · rw [if_pos h]; unfold scan scanN; rw [if_pos h]
  · have e1 : scanN s (s.size - i) (i + 1) = scan s (i + 1) := scanN_more s _ _ _ (by omega) (by omega)
    have h1 := scan_ge s (i + 1)
    have e2 : scanN s (s.size - i) (scan s (i + 1)).1 = scan s (scan s (i + 1)).1 := scanN_more s _ _ _ (by omega) (by omega)
    show scanN s (s.size - i + 1) i = _
    rw [scanN.eq_2, e1, e2]

theorem isTk_no {c : Nat} (h : c = 42 ∨ c = 46 ∨ c = 43 ∨ c = 38) : ¬ isTk c = true := by
  intro g; have := isTk_iff.1 g; omega
/-- what stands at a process's first byte -/
theorem scan_char {s : ByteArray} {i : Nat} (h : (scan s i).2.2 = true) : i < s.size ∧ (isTk (bt s i) = true ∨ bt s i = 42 ∨ bt s i = 46 ∨ bt s i = 43 ∨ bt s i = 38) := by
  rw [scan_eq] at h
  by_cases h0 : s.size ≤ i
  · rw [if_pos h0] at h; cases h
  · rw [if_neg h0] at h
    refine ⟨by omega, ?_⟩
    by_cases h1 : isTk (bt s i) = true
    · exact .inl h1
    · rw [if_neg h1] at h
      by_cases h2 : bt s i = 42
      · exact .inr (.inl h2)
      · rw [if_neg h2] at h
        by_cases h4 : bt s i = 46 ∨ bt s i = 43 ∨ bt s i = 38
        · exact .inr (.inr h4)
        · rw [if_neg h4] at h; cases h
theorem scan_one {s : ByteArray} {i : Nat} (h : (scan s i).2.2 = true) (hc : bt s i = 42) : (scan s (i + 1)).2.2 = true ∧ (scan s i).1 = (scan s (i + 1)).1 ∧ (scan s i).2.1 = 1 + (scan s (i + 1)).2.1 := by
  have hi := (scan_char h).1
  have E := scan_eq s i
  rw [if_neg (by omega), if_neg (isTk_no (.inl hc)), if_pos hc] at E
  by_cases h3 : (scan s (i + 1)).2.2 = true
  · rw [if_pos h3] at E; rw [E]; exact ⟨h3, rfl, rfl⟩
  · rw [if_neg h3] at E; rw [E] at h; cases h
theorem scan_two {s : ByteArray} {i : Nat} (h : (scan s i).2.2 = true) (hc : bt s i = 46 ∨ bt s i = 43 ∨ bt s i = 38) : (scan s (i + 1)).2.2 = true ∧ (scan s (scan s (i + 1)).1).2.2 = true ∧ (scan s i).1 = (scan s (scan s (i + 1)).1).1 ∧ (scan s i).2.1 = 1 + (scan s (i + 1)).2.1 + (scan s (scan s (i + 1)).1).2.1 := by
  have hi := (scan_char h).1
  have E := scan_eq s i
  rw [if_neg (by omega), if_neg (isTk_no (.inr hc)), if_neg (by omega), if_pos hc] at E
  by_cases h3 : (scan s (i + 1)).2.2 = true
  · rw [if_pos h3] at E
    by_cases h5 : (scan s (scan s (i + 1)).1).2.2 = true
    · rw [if_pos h5] at E; rw [E]; exact ⟨h3, h5, rfl, rfl⟩
    · rw [if_neg h5] at E; rw [E] at h; cases h
  · rw [if_neg h3] at E; rw [E] at h; cases h
theorem scan_nodes {s : ByteArray} {i : Nat} (h : (scan s i).2.2 = true) : (scan s i).2.1 + i ≤ (scan s i).1 := by
  induction n : s.size - i using Nat.strongRecOn generalizing i with
  | ind n ih =>
    obtain ⟨hi, hc⟩ := scan_char h
    rcases hc with hc | hc | hc
    · rw [scan_eq, if_neg (by omega), if_pos hc]; show 1 + i ≤ i + 1; omega
    · obtain ⟨h1, h2, h3⟩ := scan_one h hc
      have := ih (s.size - (i + 1)) (by omega) h1 rfl
      omega
    · obtain ⟨h1, h2, h3, h4⟩ := scan_two h hc
      have g1 := ih (s.size - (i + 1)) (by omega) h1 rfl
      have g0 := scan_ge s (i + 1)
      have g2 := ih (s.size - (scan s (i + 1)).1) (by omega) h2 rfl
      omega

/-- the words of the process at i (f: fuel) -/
def HasN (s : ByteArray) : Nat → Nat → List Nat → Prop
  | 0, _, _ => False
  | f + 1, i, w =>
    if isTk (bt s i) = true then w = [bt s i]
    else if bt s i = 42 then Star (HasN s f (i + 1)) w
    else if bt s i = 46 then ∃ u v, w = u ++ v ∧ HasN s f (i + 1) u ∧ HasN s f (scan s (i + 1)).1 v
    else if bt s i = 43 then HasN s f (i + 1) w ∨ HasN s f (scan s (i + 1)).1 w
    else if bt s i = 38 then ∃ u v, Mix w u v ∧ HasN s f (i + 1) u ∧ HasN s f (scan s (i + 1)).1 v
    else False
theorem bt_out {s : ByteArray} {i : Nat} (h : s.size ≤ i) : bt s i = 0 := by unfold bt; rw [dif_neg (by omega)]
theorem hasN_more (s : ByteArray) (f g i : Nat) (hf : s.size - i < f) (hg : s.size - i < g) : HasN s f i = HasN s g i := by
  induction f generalizing g i with
  | zero => omega
  | succ f ih =>
    cases g with
    | zero => omega
    | succ g =>
      funext w
      by_cases h : s.size ≤ i
      · unfold HasN
        rw [bt_out h]
        have : ¬ isTk 0 = true := by decide
        rw [if_neg this, if_neg this]; rfl
      · have e1 := ih g (i + 1) (by omega) (by omega)
        have h1 := scan_ge s (i + 1)
        have e2 := ih g (scan s (i + 1)).1 (by omega) (by omega)
        unfold HasN
        rw [e1, e2]
def Has (s : ByteArray) (i : Nat) : List Nat → Prop := HasN s (s.size - i + 1) i
theorem has_eq (s : ByteArray) (i : Nat) (h : i < s.size) (w : List Nat) : Has s i w =
    if isTk (bt s i) = true then w = [bt s i]
    else if bt s i = 42 then Star (Has s (i + 1)) w
    else if bt s i = 46 then ∃ u v, w = u ++ v ∧ Has s (i + 1) u ∧ Has s (scan s (i + 1)).1 v
    else if bt s i = 43 then Has s (i + 1) w ∨ Has s (scan s (i + 1)).1 w
    else if bt s i = 38 then ∃ u v, Mix w u v ∧ Has s (i + 1) u ∧ Has s (scan s (i + 1)).1 v
    else False := by
  have e1 : HasN s (s.size - i) (i + 1) = Has s (i + 1) := hasN_more s _ _ _ (by omega) (by omega)
  have h1 := scan_ge s (i + 1)
  have e2 : HasN s (s.size - i) (scan s (i + 1)).1 = Has s (scan s (i + 1)).1 := hasN_more s _ _ _ (by omega) (by omega)
  show HasN s (s.size - i + 1) i w = _
  rw [HasN.eq_2, e1, e2]
theorem has_task {s : ByteArray} {i : Nat} (h : i < s.size) (hc : isTk (bt s i) = true) (w : List Nat) : Has s i w ↔ w = [bt s i] := by rw [has_eq s i h, if_pos hc]
theorem has_star {s : ByteArray} {i : Nat} (h : i < s.size) (hc : bt s i = 42) (w : List Nat) : Has s i w ↔ Star (Has s (i + 1)) w := by rw [has_eq s i h, if_neg (isTk_no (.inl hc)), if_pos hc]
theorem has_seq {s : ByteArray} {i : Nat} (h : i < s.size) (hc : bt s i = 46) (w : List Nat) : Has s i w ↔ ∃ u v, w = u ++ v ∧ Has s (i + 1) u ∧ Has s (scan s (i + 1)).1 v := by rw [has_eq s i h, if_neg (isTk_no (.inr (.inl hc))), if_neg (by omega), if_pos hc]
theorem has_alt {s : ByteArray} {i : Nat} (h : i < s.size) (hc : bt s i = 43) (w : List Nat) : Has s i w ↔ Has s (i + 1) w ∨ Has s (scan s (i + 1)).1 w := by rw [has_eq s i h, if_neg (isTk_no (.inr (.inr (.inl hc)))), if_neg (by omega), if_neg (by omega), if_pos hc]
theorem has_par {s : ByteArray} {i : Nat} (h : i < s.size) (hc : bt s i = 38) (w : List Nat) : Has s i w ↔ ∃ u v, Mix w u v ∧ Has s (i + 1) u ∧ Has s (scan s (i + 1)).1 v := by rw [has_eq s i h, if_neg (isTk_no (.inr (.inr (.inr hc)))), if_neg (by omega), if_neg (by omega), if_neg (by omega), if_pos hc]

/-- a star's word: nothing, or a first word that is not empty, then again -/
theorem star_iff {L : List Nat → Prop} {w : List Nat} : Star L w ↔ w = [] ∨ ∃ k, 1 ≤ k ∧ k ≤ w.length ∧ L (w.take k) ∧ Star L (w.drop k) := by
  constructor
  · rintro ⟨ws, rfl, h⟩
    induction ws with
    | nil => exact .inl rfl
    | cons u ws ih =>
      cases u with
      | nil => exact ih (fun x hx => h x (by simp [hx]))
      | cons c u =>
        right
        refine ⟨(c :: u).length, by simp, by simp, ?_, ?_⟩
        · rw [List.flatten_cons, List.take_left]; exact h _ (by simp)
        · rw [List.flatten_cons, List.drop_left]; exact ⟨ws, rfl, fun x hx => h x (by simp [hx])⟩
  · rintro (rfl | ⟨k, _, _, h1, ws, h2, h3⟩)
    · exact ⟨[], rfl, fun u hu => (by cases hu)⟩
    · refine ⟨w.take k :: ws, ?_, ?_⟩
      · rw [List.flatten_cons, ← h2, List.take_append_drop]
      · intro u hu
        rcases List.mem_cons.1 hu with rfl | hu
        · exact h1
        · exact h3 u hu
theorem seq_iff {A B : List Nat → Prop} {w : List Nat} : (∃ u v, w = u ++ v ∧ A u ∧ B v) ↔ ∃ k, k ≤ w.length ∧ A (w.take k) ∧ B (w.drop k) := by
  constructor
  · rintro ⟨u, v, rfl, h1, h2⟩
    exact ⟨u.length, by simp, by rw [List.take_left]; exact h1, by rw [List.drop_left]; exact h2⟩
  · rintro ⟨k, _, h1, h2⟩
    exact ⟨w.take k, w.drop k, (List.take_append_drop k w).symm, h1, h2⟩
/-- dealing out a word behind u and v -/
def Deals (A B : List Nat → Prop) (w u v : List Nat) : Prop := ∃ x y, Mix w x y ∧ A (u ++ x) ∧ B (v ++ y)
theorem deals_nil {A B : List Nat → Prop} {u v : List Nat} : Deals A B [] u v ↔ A u ∧ B v := by
  constructor
  · rintro ⟨x, y, ⟨rfl, rfl⟩, h1, h2⟩
    rw [List.append_nil] at h1 h2
    exact ⟨h1, h2⟩
  · rintro ⟨h1, h2⟩
    exact ⟨[], [], ⟨rfl, rfl⟩, by rw [List.append_nil]; exact h1, by rw [List.append_nil]; exact h2⟩
theorem deals_cons {A B : List Nat → Prop} {c : Nat} {w u v : List Nat} : Deals A B (c :: w) u v ↔ Deals A B w (u ++ [c]) v ∨ Deals A B w u (v ++ [c]) := by
  constructor
  · rintro ⟨x, y, hm, h1, h2⟩
    rcases hm with ⟨x', rfl, hm⟩ | ⟨y', rfl, hm⟩
    · left; exact ⟨x', y, hm, by rw [List.append_assoc]; exact h1, h2⟩
    · right; exact ⟨x, y', hm, h1, by rw [List.append_assoc]; exact h2⟩
  · rintro (⟨x, y, hm, h1, h2⟩ | ⟨x, y, hm, h1, h2⟩)
    · exact ⟨c :: x, y, .inl ⟨x, rfl, hm⟩, by rw [List.append_assoc] at h1; exact h1, h2⟩
    · exact ⟨x, c :: y, .inr ⟨y, rfl, hm⟩, h1, by rw [List.append_assoc] at h2; exact h2⟩
end Flow
end Go.Proofs.Ytdlldljgogbiaab
