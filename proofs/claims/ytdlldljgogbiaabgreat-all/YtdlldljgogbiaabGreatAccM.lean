/-
  Laid as one: PartF, PartG, StkF, PartP, AccF, AccW, AccTop.
-/
import Derived.Test.YtdlldljgogbiaabGreatKeep
import Derived.Test.YtdlldljgogbiaabGreatScanM
import Derived.Deep.WholeRow
import Derived.Deep.MidRow
import Derived.Deep.RegionHeld3
import Derived.Great.BuildSlice
import Derived.Test.YtdlldljgogbiaabGreatBaseM
namespace Go.Proofs.YtdlldljgogbiaabGreat
open Go.RowKit
set_option linter.unusedVariables false
set_option maxRecDepth 40000

/-- a set of parts as the program holds it -/
def cellsP (f : Nat → Bool) : Array Value := ((List.range 256).map fun i => Value.bool (f i)).toArray
theorem cellsP_size (f : Nat → Bool) : (cellsP f).size = 256 := by simp [cellsP]
theorem cellsP_get (f : Nat → Bool) {i : Nat} (h : i < 256) : (cellsP f)[i]? = some (.bool (f i)) := by simp [cellsP, h]
theorem cellsP_set (f : Nat → Bool) {i : Nat} (h : i < 256) (b : Bool) : (cellsP f).setIfInBounds i (.bool b) = cellsP (fun j => if j = i then b else f j) := by
  apply Array.ext_getElem?
  intro j
  by_cases hj : j < 256
  · rw [cellsP_get _ hj]
    by_cases e : i = j
    · subst e
      rw [Array.getElem?_setIfInBounds_self_of_lt (by rw [cellsP_size]; exact h), if_pos rfl]
    · rw [Array.getElem?_setIfInBounds_ne e, cellsP_get _ hj, if_neg (fun x => e x.symm)]
  · rw [Array.getElem?_eq_none (by simp [cellsP_size]; omega), Array.getElem?_eq_none (by rw [cellsP_size]; omega)]
theorem cellsP_one (f : Nat → Bool) : (cellsP f).all (·.oneCell') = true := by
  rw [Array.all_eq_true_iff_forall_mem]
  intro v hv
  unfold cellsP at hv
  simp at hv
  obtain ⟨i, _, rfl⟩ := hv
  rfl
theorem Tryz.infoPS : (Tryz.prog.info? 134).map (fun i => (i.zero, i.size)) = some (some (.agg (cellsP fun _ => false)), 256) := by kernel_rfl
theorem sizePS (f : Nat → Bool) : (Tryz.prog.info? 134).map (·.size) = some (cellsP f).size := by rw [cellsP_size]; exact (zero_of_info Tryz.infoPS).2
theorem Blk.setRow {w : World} {b : Nat} {cs : Array Value} {t : TypeId} (h : Blk w b cs t) (c : Array Value) : Blk (w.setRow b c) b c t := setRow_heap w b cs c t (0, 0) h
theorem Blk.offRow {w : World} {b b' : Nat} {cs : Array Value} {t : TypeId} (h : Blk w b cs t) (c : Array Value) (hne : b ≠ b') : Blk (w.setRow b' c) b cs t := by
  unfold Blk at h ⊢; rw [setRow_other w b' b c hne]; exact h
theorem below_setRow {B b : Nat} {a w : World} (h : Below B a w) (hb : B ≤ b) (c : Array Value) : Below B a (w.setRow b c) :=
  h.trans ⟨rfl, rfl, rfl, by rw [setRow_size]; exact Nat.le_refl _, fun k hk => setRow_other w b k c (by omega)⟩

/-- a set is made at x: its blocks: the answer's and its own -/
structure Making (w wr : World) (r x : Nat) (h : Nat → Bool) : Prop where
  res : Blk wr r (cellsP fun _ => false) 134
  own : Blk wr x (cellsP h) 134
  bel : Below w.heap.size w wr
  low : w.heap.size ≤ r
  lox : w.heap.size ≤ x
  ne : r ≠ x
theorem Making.set {w wr : World} {r x : Nat} {h : Nat → Bool} (m : Making w wr r x h) {i : Nat} (hi : i < 256) (b : Bool) : Making w (wr.setCell ⟨x, i, none⟩ (.bool b)) r x (fun j => if j = i then b else h j) :=
  ⟨m.res.far _ _ m.ne, by rw [← cellsP_set h hi b]; exact m.own.set _ _, m.bel.setCell (p := ⟨x, i, none⟩) m.lox _, m.low, m.lox, m.ne⟩
theorem Making.same {w wr : World} {r x : Nat} {h h' : Nat → Bool} (m : Making w wr r x h) (e : h = h') : Making w wr r x h' := e ▸ m
theorem Making.cell {w wr : World} {r x : Nat} {h : Nat → Bool} (m : Making w wr r x h) {i : Nat} (hi : i < 256) : wr.cell? ⟨x, i, none⟩ = some (.bool (h i)) := by rw [m.own.cell]; exact cellsP_get h hi
theorem Making.done {w wr : World} {r x : Nat} {h : Nat → Bool} (m : Making w wr r x h) : Blk (wr.setRow r (cellsP h)) r (cellsP h) 134 ∧ Below w.heap.size w (wr.setRow r (cellsP h)) := ⟨m.res.setRow _, below_setRow m.bel m.low _⟩
theorem Blk.partAt {wr : World} {x : Nat} {h : Nat → Bool} (m : Blk wr x (cellsP h) 134) {i : Nat} (hi : i < 256) : wr.cell? ⟨x, i, none⟩ = some (.bool (h i)) := by rw [m.cell]; exact cellsP_get h hi

/-- does it hold below k? -/
def anyTo (t : Nat → Bool) : Nat → Bool
  | 0 => false
  | k + 1 => anyTo t k || t k
theorem anyTo_iff {t : Nat → Bool} {k : Nat} : anyTo t k = true ↔ ∃ j, j < k ∧ t j = true := by
  induction k with
  | zero => simp [anyTo]
  | succ k ih =>
    show (anyTo t k || t k) = true ↔ _
    rw [Bool.or_eq_true, ih]
    constructor
    · rintro (⟨j, h1, h2⟩ | h)
      · exact ⟨j, by omega, h2⟩
      · exact ⟨k, by omega, h⟩
    · rintro ⟨j, h1, h2⟩
      by_cases e : j = k
      · subst e; exact .inr h2
      · exact .inl ⟨j, by omega, h2⟩
/-- the set as far as part p and test k, each part q having len q tests -/
def soFar (t : Nat → Nat → Bool) (len : Nat → Nat) (p k : Nat) : Nat → Bool := fun q => if q < p then anyTo (t q) (len q) else if q = p then anyTo (t p) k else false
theorem soFar_start (t : Nat → Nat → Bool) (len : Nat → Nat) : soFar t len 0 0 = fun _ => false := by
  funext q
  unfold soFar
  rw [if_neg (by omega)]
  split
  · rfl
  · rfl
theorem soFar_hit {t : Nat → Nat → Bool} {len : Nat → Nat} {p k : Nat} (h : t p k = true) : (fun j => if j = p then true else soFar t len p k j) = soFar t len p (k + 1) := by
  funext q
  unfold soFar
  by_cases e : q = p
  · subst e
    rw [if_pos rfl, if_neg (by omega), if_pos rfl]
    show true = (anyTo (t q) k || t q k)
    rw [h]; simp
  · rw [if_neg e]
    by_cases g : q < p
    · rw [if_pos g, if_pos g]
    · rw [if_neg g, if_neg g, if_neg e, if_neg e]
theorem soFar_miss {t : Nat → Nat → Bool} {len : Nat → Nat} {p k : Nat} (h : t p k = false) : soFar t len p k = soFar t len p (k + 1) := by
  funext q
  unfold soFar
  by_cases e : q = p
  · subst e
    have g : ¬ q < q := Nat.lt_irrefl q
    rw [if_neg g, if_neg g, if_pos rfl, if_pos rfl]
    show _ = (anyTo (t q) k || t q k)
    rw [h]; simp
  · rw [if_neg e, if_neg e]
theorem soFar_next (t : Nat → Nat → Bool) (len : Nat → Nat) (p : Nat) : soFar t len p (len p) = soFar t len (p + 1) 0 := by
  funext q
  unfold soFar
  by_cases e : q = p
  · subst e
    rw [if_neg (by omega), if_pos rfl, if_pos (by omega)]
  · by_cases g : q < p
    · rw [if_pos g, if_pos (by omega)]
    · rw [if_neg g, if_neg e, if_neg (by omega)]
      split
      · rfl
      · rfl
theorem soFar_done (t : Nat → Nat → Bool) (len : Nat → Nat) (P : Nat) {q : Nat} (h : q < P) : soFar t len P 0 q = anyTo (t q) (len q) := by
  unfold soFar; rw [if_pos h]

theorem ret_set {fn : Func} {p : Tmp} (hr : fn.results = #[.cell p 134]) (tmps : Array Value) {w wr : World} {r x : Nat} {h : Nat → Bool} (m : Making w wr r x h) (hp : tmps.getD p undef = .pointer (some ⟨r, 0, none⟩)) : (results fn tmps).run Tryz.prog (wr.setRow r (cellsP h)) = .ok (.agg (cellsP h)) (wr.setRow r (cellsP h)) :=
  results_cell_row hr tmps _ r 134 (cellsP h) (0, 0) _ hp m.done.1 Tryz.underlying134 rfl (sizePS h)

set_option maxHeartbeats 1000000 in
theorem choiceParts_any (f g : Nat → Bool) (n : Nat) (w : World) (hn : n < 256) : Calls Tryz.prog 109 #[.agg (cellsP f), .agg (cellsP g), .int .i64 n] w fun e w' => ∃ h, e = .returned (.agg (cellsP h)) ∧ (∀ p, p ≤ n → h p = (f p || g p)) ∧ Below w.heap.size w w' := by
  obtain ⟨hz, hsz⟩ := zero_of_info Tryz.infoPS
  clear hsz
  go_enter Tryz.func109, Tryz.ntmps109
  go_wp2
  have I0 : Hid (Blk ((((w.alloc (.cells (cellsP f) 134)).alloc (.cells (cellsP g) 134)).alloc (.cells (cellsP fun x => false) 134)).alloc (.cells (cellsP fun x => false) 134)) w.heap.size (cellsP f) 134) := (((Blk.new w _ _).alloc _).alloc _).alloc _
  have I1 : Hid (Blk ((((w.alloc (.cells (cellsP f) 134)).alloc (.cells (cellsP g) 134)).alloc (.cells (cellsP fun x => false) 134)).alloc (.cells (cellsP fun x => false) 134)) (w.heap.size + 1) (cellsP g) 134) := ((Blk.new_at (by simp) _ _).alloc _).alloc _
  have MK : Hid (Making w ((((w.alloc (.cells (cellsP f) 134)).alloc (.cells (cellsP g) 134)).alloc (.cells (cellsP fun x => false) 134)).alloc (.cells (cellsP fun x => false) 134)) (w.heap.size + 1 + 1) (w.heap.size + 1 + 1 + 1) (fun _ => false)) := ⟨(Blk.new_at (by simp) _ _).alloc _, Blk.new_at (by simp) _ _, ((((Below.refl _ _).alloc (Nat.le_refl _) _).alloc (by simp) _).alloc (by simp; omega) _).alloc (by simp; omega) _, by omega, by omega, by omega⟩
  generalize (((w.alloc (.cells (cellsP f) 134)).alloc (.cells (cellsP g) 134)).alloc (.cells (cellsP fun x => false) 134)).alloc (.cells (cellsP fun x => false) 134) = V at I0 I1 MK ⊢
  go_loopw [8] (fun i' wr => ∃ (i : Nat) (h : Nat → Bool), i ≤ n + 1 ∧ i' = .int .i64 i ∧ Hid (∀ p, p < i → h p = (f p || g p)) ∧ Hid (Blk wr w.heap.size (cellsP f) 134) ∧ Hid (Blk wr (w.heap.size + 1) (cellsP g) 134) ∧ Hid (Making w wr (w.heap.size + 1 + 1) (w.heap.size + 1 + 1 + 1) h)) (fun i' _ => n + 1 - (intOf i').toNat)
  case atStart => exact ⟨0, fun _ => false, by omega, rfl, fun p hp => by omega, I0, I1, MK⟩
  case round =>
    clear I0 I1 MK
    obtain ⟨i, h, hi, rfl, HP, I0, I1, MK⟩ := hrel
    by_cases hlt : i ≤ n
    · have x0 := I0.out.partAt (i := i) (by omega)
      have x1 := I1.out.partAt (i := i) (by omega)
      have x3 := MK.out.cell (i := i) (by omega)
      have y3 := MK.out.own.froz i
      have z0 := I0.out.lt
      have z1 := I1.out.lt
      have z3 := MK.out.own.lt
      have hI0 : (0 : Int) ≤ (i : Int) := by omega
      have hI1 : (i : Int) < 256 := by omega
      have J0 : ∀ b, Hid (Blk (wr.setCell ⟨w.heap.size + 1 + 1 + 1, i, none⟩ (.bool b)) w.heap.size (cellsP f) 134) := fun b => I0.out.far _ _ (by show w.heap.size ≠ w.heap.size + 1 + 1 + 1; omega)
      have J1 : ∀ b, Hid (Blk (wr.setCell ⟨w.heap.size + 1 + 1 + 1, i, none⟩ (.bool b)) (w.heap.size + 1) (cellsP g) 134) := fun b => I1.out.far _ _ (by show w.heap.size + 1 ≠ w.heap.size + 1 + 1 + 1; omega)
      have JM : ∀ b, Hid (Making w (wr.setCell ⟨w.heap.size + 1 + 1 + 1, i, none⟩ (.bool b)) (w.heap.size + 1 + 1) (w.heap.size + 1 + 1 + 1) (fun j => if j = i then b else h j)) := fun b => MK.out.set (by omega) b
      have JP : ∀ b, b = (f i || g i) → Hid (∀ p, p < i + 1 → (if p = i then b else h p) = (f p || g p)) := fun b hb p hp => by
        by_cases e : p = i
        · rw [if_pos e, e]; exact hb
        · rw [if_neg e]; exact HP.out p (by omega)
      cases hf : f i with
      | true =>
        rw [hf] at x0 JP
        clear hf
        go_wp2
        go_roundw
        case rel => exact ⟨i + 1, _, by omega, by go_num, JP true (by simp), J0 _, J1 _, JM _⟩
        case measure => simp [intOf]; omega
      | false =>
        rw [hf] at x0 JP
        clear hf
        go_wp2
        go_roundw
        case rel => exact ⟨i + 1, _, by omega, by go_num, JP _ (by simp), J0 _, J1 _, JM _⟩
        case measure => simp [intOf]; omega
    · obtain rfl : i = n + 1 := by omega
      go_wp2_with (first
        | (refine wpList_load_row rfl 134 (.tmp 7) rfl (w.heap.size + 1 + 1 + 1) rfl 134 (cellsP h) (0, 0) _ MK.out.own Tryz.underlying134 rfl (sizePS h) ?_)
        | (refine wpList_store_row rfl 134 (.tmp 6) (.tmp 24) rfl (w.heap.size + 1 + 1) (cellsP h) rfl rfl 134 _ MK.out.res (sizePS h) (by rw [cellsP_size, cellsP_size]) (cellsP_one h) ?_))
      refine bodyPost_ret (v := .agg (cellsP h)) (ret_set rfl _ MK.out rfl) rfl ⟨h, rfl, fun p hp => HP.out p (by omega), MK.out.done.2⟩

/-- cutting at letter k -/
def rowTest (f g : Nat → Bool) (p k : Nat) : Bool := f (p % 2 ^ k) && g (p - p % 2 ^ k)
theorem pow_le8 {k : Nat} (h : k ≤ 8) : 2 ^ k ≤ 256 := by
  have := Nat.pow_le_pow_right (n := 2) (by omega) h
  have e : (2 : Nat) ^ 8 = 256 := by decide
  omega
theorem ahead_and {p k : Nat} (hp : p < 256) (hk : k ≤ 8) : bits .and .i64 (p : Int) ((2 ^ k - 1 : Nat) : Int) = ((p % 2 ^ k : Nat) : Int) := by
  have := pow_le8 hk
  rw [Flow.and_nat _ _ (by omega) (by omega), Nat.and_two_pow_sub_one_eq_mod]
theorem ahead_not {p k : Nat} (hp : p < 256) (hk : k ≤ 8) : bits .andNot .i64 (p : Int) ((2 ^ k - 1 : Nat) : Int) = ((p - p % 2 ^ k : Nat) : Int) := by
  have := pow_le8 hk
  rw [Flow.andNot_nat _ _ (by omega) (by omega), Nat.and_two_pow_sub_one_eq_mod]
theorem ahead_next (k : Nat) : (2 ^ k - 1) * 2 + 1 = 2 ^ (k + 1) - 1 := by
  have := Nat.one_le_two_pow (n := k)
  rw [Nat.pow_succ]; omega
theorem ahead_le {k n : Nat} (h : k ≤ n) : 2 ^ k - 1 ≤ 2 ^ n - 1 := by
  have := Nat.pow_le_pow_right (n := 2) (by omega) h
  omega
theorem ahead_gt (n : Nat) : 2 ^ n - 1 < 2 ^ (n + 1) - 1 := by
  have := Nat.one_le_two_pow (n := n)
  rw [Nat.pow_succ]; omega

set_option maxHeartbeats 2000000 in
theorem rowParts_any (f g : Nat → Bool) (n : Nat) (w : World) (hn : n ≤ 8) : Calls Tryz.prog 108 #[.agg (cellsP f), .agg (cellsP g), .int .i64 ((2 ^ n - 1 : Nat) : Int)] w fun e w' => ∃ h, e = .returned (.agg (cellsP h)) ∧ (∀ p, p < 2 ^ n → h p = anyTo (rowTest f g p) (n + 1)) ∧ Below w.heap.size w w' := by
  obtain ⟨hz, hsz⟩ := zero_of_info Tryz.infoPS
  clear hsz
  have HN : Hid (n ≤ 8) := hn
  have h1 := Nat.one_le_two_pow (n := n)
  have h8 := pow_le8 hn
  obtain ⟨W, hW⟩ : ∃ W, W = 2 ^ n - 1 := ⟨_, rfl⟩
  have EW : Hid (W = 2 ^ n - 1) := hW
  have EP : Hid (2 ^ n = W + 1) := by show _ = _; omega
  have hW8 : W < 256 := by omega
  rw [← hW]
  clear hW hn h1 h8
  go_enter Tryz.func108, Tryz.ntmps108
  go_wp2
  have I0 : Hid (Blk ((((w.alloc (.cells (cellsP f) 134)).alloc (.cells (cellsP g) 134)).alloc (.cells (cellsP fun x => false) 134)).alloc (.cells (cellsP fun x => false) 134)) w.heap.size (cellsP f) 134) := (((Blk.new w _ _).alloc _).alloc _).alloc _
  have I1 : Hid (Blk ((((w.alloc (.cells (cellsP f) 134)).alloc (.cells (cellsP g) 134)).alloc (.cells (cellsP fun x => false) 134)).alloc (.cells (cellsP fun x => false) 134)) (w.heap.size + 1) (cellsP g) 134) := ((Blk.new_at (by simp) _ _).alloc _).alloc _
  have MK : Hid (Making w ((((w.alloc (.cells (cellsP f) 134)).alloc (.cells (cellsP g) 134)).alloc (.cells (cellsP fun x => false) 134)).alloc (.cells (cellsP fun x => false) 134)) (w.heap.size + 1 + 1) (w.heap.size + 1 + 1 + 1) (soFar (rowTest f g) (fun _ => n + 1) 0 0)) := by
    rw [soFar_start]
    exact ⟨(Blk.new_at (by simp) _ _).alloc _, Blk.new_at (by simp) _ _, ((((Below.refl _ _).alloc (Nat.le_refl _) _).alloc (by simp) _).alloc (by simp; omega) _).alloc (by simp; omega) _, by omega, by omega, by omega⟩
  generalize (((w.alloc (.cells (cellsP f) 134)).alloc (.cells (cellsP g) 134)).alloc (.cells (cellsP fun x => false) 134)).alloc (.cells (cellsP fun x => false) 134) = V at I0 I1 MK ⊢
  go_loopw [8] (fun i' wr => ∃ (i : Nat), i ≤ W + 1 ∧ i' = .int .i64 i ∧ Hid (Blk wr w.heap.size (cellsP f) 134) ∧ Hid (Blk wr (w.heap.size + 1) (cellsP g) 134) ∧ Hid (Making w wr (w.heap.size + 1 + 1) (w.heap.size + 1 + 1 + 1) (soFar (rowTest f g) (fun _ => n + 1) i 0))) (fun i' _ => W + 1 - (intOf i').toNat)
  case atStart => exact ⟨0, by omega, rfl, I0, I1, MK⟩
  case round =>
    clear I0 I1 MK
    obtain ⟨i, hi, rfl, I0, I1, MK⟩ := hrel
    by_cases hlt : i ≤ W
    · go_wp2
      clear hi
      obtain ⟨wo, rfl⟩ : ∃ wo : World, wo = wr := ⟨_, rfl⟩
      go_loopw [9] (fun a' wr => ∃ (k A : Nat), a' = .int .i64 A ∧ A ≤ 511 ∧ Hid (k ≤ n + 1) ∧ Hid (A = 2 ^ k - 1) ∧ Hid (Blk wr w.heap.size (cellsP f) 134) ∧ Hid (Blk wr (w.heap.size + 1) (cellsP g) 134) ∧ Hid (Making w wr (w.heap.size + 1 + 1) (w.heap.size + 1 + 1 + 1) (soFar (rowTest f g) (fun _ => n + 1) i k))) (fun a' _ => W + 1 - (intOf a').toNat)
      case atStart => exact ⟨0, 0, rfl, by omega, Nat.zero_le _, rfl, I0, I1, MK⟩
      case round =>
        clear I0 I1 MK
        obtain ⟨k, A, rfl, hA5, HK, EA, I0, I1, MK⟩ := hrel
        by_cases hk : k ≤ n
        · have hAW : A ≤ W := by have := ahead_le hk; rw [← EA.out, ← EW.out] at this; exact this
          have hi8 : i < 256 := by omega
          have e1 := ahead_and (k := k) hi8 (Nat.le_trans hk HN.out)
          have e2 := ahead_not (k := k) hi8 (Nat.le_trans hk HN.out)
          rw [← EA.out] at e1 e2
          have l1 := Nat.mod_le i (2 ^ k)
          obtain ⟨q1, hq1⟩ : ∃ q, q = i % 2 ^ k := ⟨_, rfl⟩
          rw [← hq1] at e1 e2 l1
          obtain ⟨q2, hq2⟩ : ∃ q, q = i - q1 := ⟨_, rfl⟩
          rw [← hq2] at e2
          have T : Hid (rowTest f g i k = (f q1 && g q2)) := by show _ = _; unfold rowTest; rw [← hq1, ← hq2]
          have NX : Hid (A * 2 + 1 = 2 ^ (k + 1) - 1) := by show _ = _; rw [EA.out]; exact ahead_next k
          have x0 := I0.out.partAt (i := q1) (by omega)
          have x1 := I1.out.partAt (i := q2) (by omega)
          have x3 := MK.out.cell (i := i) hi8
          have y3 := MK.out.own.froz i
          have z0 := I0.out.lt
          have z1 := I1.out.lt
          have z3 := MK.out.own.lt
          have hI0 : (0 : Int) ≤ (i : Int) := by omega
          have hI1 : (i : Int) < 256 := by omega
          have hQ0 : (0 : Int) ≤ (q1 : Int) := by omega
          have hQ1 : (q1 : Int) < 256 := by omega
          have hR0 : (0 : Int) ≤ (q2 : Int) := by omega
          have hR1 : (q2 : Int) < 256 := by omega
          have J0 : Hid (Blk (wr.setCell ⟨w.heap.size + 1 + 1 + 1, i, none⟩ (.bool true)) w.heap.size (cellsP f) 134) := I0.out.far _ _ (by show w.heap.size ≠ w.heap.size + 1 + 1 + 1; omega)
          have J1 : Hid (Blk (wr.setCell ⟨w.heap.size + 1 + 1 + 1, i, none⟩ (.bool true)) (w.heap.size + 1) (cellsP g) 134) := I1.out.far _ _ (by show w.heap.size + 1 ≠ w.heap.size + 1 + 1 + 1; omega)
          have JM : Hid (rowTest f g i k = true → Making w (wr.setCell ⟨w.heap.size + 1 + 1 + 1, i, none⟩ (.bool true)) (w.heap.size + 1 + 1) (w.heap.size + 1 + 1 + 1) (soFar (rowTest f g) (fun _ => n + 1) i (k + 1))) := fun h => (MK.out.set hi8 true).same (soFar_hit h)
          have JN : Hid (rowTest f g i k = false → Making w wr (w.heap.size + 1 + 1) (w.heap.size + 1 + 1 + 1) (soFar (rowTest f g) (fun _ => n + 1) i (k + 1))) := fun h => MK.out.same (soFar_miss h)
          have HK2 : Hid (k + 1 ≤ n + 1) := Nat.succ_le_succ hk
          clear hq1 hq2 hk l1
          cases hf : f q1 with
          | false =>
            rw [hf] at x0 T
            have M2 : Hid (Making w wr (w.heap.size + 1 + 1) (w.heap.size + 1 + 1 + 1) (soFar (rowTest f g) (fun _ => n + 1) i (k + 1))) := JN.out (by rw [T.out]; simp)
            clear hf
            go_wp2
            go_roundw
            case rel => exact ⟨k + 1, A * 2 + 1, by go_num, by omega, HK2, NX, I0, I1, M2⟩
            case measure => simp [intOf]; omega
          | true =>
            cases hg : g q2 with
            | false =>
              rw [hf] at x0 T
              rw [hg] at x1 T
              have M2 : Hid (Making w wr (w.heap.size + 1 + 1) (w.heap.size + 1 + 1 + 1) (soFar (rowTest f g) (fun _ => n + 1) i (k + 1))) := JN.out (by rw [T.out]; simp)
              clear hf hg
              go_wp2
              go_roundw
              case rel => exact ⟨k + 1, A * 2 + 1, by go_num, by omega, HK2, NX, I0, I1, M2⟩
              case measure => simp [intOf]; omega
            | true =>
              rw [hf] at x0 T
              rw [hg] at x1 T
              have M2 : Hid (Making w (wr.setCell ⟨w.heap.size + 1 + 1 + 1, i, none⟩ (.bool true)) (w.heap.size + 1 + 1) (w.heap.size + 1 + 1 + 1) (soFar (rowTest f g) (fun _ => n + 1) i (k + 1))) := JM.out (by rw [T.out]; simp)
              clear hf hg
              go_wp2
              go_roundw
              case rel => exact ⟨k + 1, A * 2 + 1, by go_num, by omega, HK2, NX, J0, J1, M2⟩
              case measure => simp [intOf]; omega
        · have hk' : k = n + 1 := by have := HK.out; omega
          subst hk'
          have hAW : ¬ A ≤ W := by have := ahead_gt n; rw [← EA.out, ← EW.out] at this; omega
          have MN : Hid (Making w wr (w.heap.size + 1 + 1) (w.heap.size + 1 + 1 + 1) (soFar (rowTest f g) (fun _ => n + 1) (i + 1) 0)) := MK.out.same (soFar_next (rowTest f g) (fun _ => n + 1) i)
          clear hk
          go_wp2
          go_roundw
          case rel => exact ⟨i + 1, by omega, by go_num, I0, I1, MN⟩
          case measure => simp [intOf]; omega
    · obtain rfl : i = W + 1 := by omega
      obtain ⟨h, hh⟩ : ∃ h, h = soFar (rowTest f g) (fun _ => n + 1) (W + 1) 0 := ⟨_, rfl⟩
      have MH : Hid (Making w wr (w.heap.size + 1 + 1) (w.heap.size + 1 + 1 + 1) h) := MK.out.same hh.symm
      have HP : Hid (∀ p, p < 2 ^ n → h p = anyTo (rowTest f g p) (n + 1)) := fun p hp => by rw [hh]; exact soFar_done _ _ _ (by rw [← EP.out]; exact hp)
      clear hh MK
      go_wp2_with (first
        | (refine wpList_load_row rfl 134 (.tmp 7) rfl (w.heap.size + 1 + 1 + 1) rfl 134 (cellsP h) (0, 0) _ MH.out.own Tryz.underlying134 rfl (sizePS h) ?_)
        | (refine wpList_store_row rfl 134 (.tmp 6) (.tmp 35) rfl (w.heap.size + 1 + 1) (cellsP h) rfl rfl 134 _ MH.out.res (sizePS h) (by rw [cellsP_size, cellsP_size]) (cellsP_one h) ?_))
      exact bodyPost_ret (v := .agg (cellsP h)) (ret_set rfl _ MH.out rfl) rfl ⟨h, rfl, HP.out, MH.out.done.2⟩
end Go.Proofs.YtdlldljgogbiaabGreat
namespace Go.Proofs.YtdlldljgogbiaabGreat
open Go.RowKit
set_option linter.unusedVariables false
set_option maxRecDepth 40000

/-- sharing out by k -/
def sideTest (f g : Nat → Bool) (p k : Nat) : Bool := f (p &&& k) && g (p - (p &&& k))
set_option maxHeartbeats 2000000 in
theorem sideParts_any (f g : Nat → Bool) (n : Nat) (w : World) (hn : n < 256) : Calls Tryz.prog 110 #[.agg (cellsP f), .agg (cellsP g), .int .i64 n] w fun e w' => ∃ h, e = .returned (.agg (cellsP h)) ∧ (∀ p, p ≤ n → h p = anyTo (sideTest f g p) (p + 1)) ∧ Below w.heap.size w w' := by
  obtain ⟨hz, hsz⟩ := zero_of_info Tryz.infoPS
  clear hsz
  go_enter Tryz.func110, Tryz.ntmps110
  go_wp2
  have I0 : Hid (Blk ((((w.alloc (.cells (cellsP f) 134)).alloc (.cells (cellsP g) 134)).alloc (.cells (cellsP fun x => false) 134)).alloc (.cells (cellsP fun x => false) 134)) w.heap.size (cellsP f) 134) := (((Blk.new w _ _).alloc _).alloc _).alloc _
  have I1 : Hid (Blk ((((w.alloc (.cells (cellsP f) 134)).alloc (.cells (cellsP g) 134)).alloc (.cells (cellsP fun x => false) 134)).alloc (.cells (cellsP fun x => false) 134)) (w.heap.size + 1) (cellsP g) 134) := ((Blk.new_at (by simp) _ _).alloc _).alloc _
  have MK : Hid (Making w ((((w.alloc (.cells (cellsP f) 134)).alloc (.cells (cellsP g) 134)).alloc (.cells (cellsP fun x => false) 134)).alloc (.cells (cellsP fun x => false) 134)) (w.heap.size + 1 + 1) (w.heap.size + 1 + 1 + 1) (soFar (sideTest f g) (fun q => q + 1) 0 0)) := by
    rw [soFar_start]
    exact ⟨(Blk.new_at (by simp) _ _).alloc _, Blk.new_at (by simp) _ _, ((((Below.refl _ _).alloc (Nat.le_refl _) _).alloc (by simp) _).alloc (by simp; omega) _).alloc (by simp; omega) _, by omega, by omega, by omega⟩
  generalize (((w.alloc (.cells (cellsP f) 134)).alloc (.cells (cellsP g) 134)).alloc (.cells (cellsP fun x => false) 134)).alloc (.cells (cellsP fun x => false) 134) = V at I0 I1 MK ⊢
  go_loopw [8] (fun i' wr => ∃ (i : Nat), i ≤ n + 1 ∧ i' = .int .i64 i ∧ Hid (Blk wr w.heap.size (cellsP f) 134) ∧ Hid (Blk wr (w.heap.size + 1) (cellsP g) 134) ∧ Hid (Making w wr (w.heap.size + 1 + 1) (w.heap.size + 1 + 1 + 1) (soFar (sideTest f g) (fun q => q + 1) i 0))) (fun i' _ => n + 1 - (intOf i').toNat)
  case atStart => exact ⟨0, by omega, rfl, I0, I1, MK⟩
  case round =>
    clear I0 I1 MK
    obtain ⟨i, hi, rfl, I0, I1, MK⟩ := hrel
    by_cases hlt : i ≤ n
    · go_wp2
      clear hi
      obtain ⟨wo, rfl⟩ : ∃ wo : World, wo = wr := ⟨_, rfl⟩
      go_loopw [9] (fun a' wr => ∃ (k : Nat), a' = .int .i64 k ∧ k ≤ i + 1 ∧ Hid (Blk wr w.heap.size (cellsP f) 134) ∧ Hid (Blk wr (w.heap.size + 1) (cellsP g) 134) ∧ Hid (Making w wr (w.heap.size + 1 + 1) (w.heap.size + 1 + 1 + 1) (soFar (sideTest f g) (fun q => q + 1) i k))) (fun a' _ => i + 1 - (intOf a').toNat)
      case atStart => exact ⟨0, rfl, by omega, I0, I1, MK⟩
      case round =>
        clear I0 I1 MK
        obtain ⟨k, rfl, hK, I0, I1, MK⟩ := hrel
        by_cases hk : k ≤ i
        · have hi8 : i < 256 := by omega
          have e1 := Flow.and_nat i k (by omega) (by omega)
          have e2 := Flow.andNot_nat i k (by omega) (by omega)
          have l1 : i &&& k ≤ i := Nat.and_le_left
          obtain ⟨q1, hq1⟩ : ∃ q, q = i &&& k := ⟨_, rfl⟩
          rw [← hq1] at e1 e2 l1
          obtain ⟨q2, hq2⟩ : ∃ q, q = i - q1 := ⟨_, rfl⟩
          rw [← hq2] at e2
          have T : Hid (sideTest f g i k = (f q1 && g q2)) := by show _ = _; unfold sideTest; rw [← hq1, ← hq2]
          have x0 := I0.out.partAt (i := q1) (by omega)
          have x1 := I1.out.partAt (i := q2) (by omega)
          have x3 := MK.out.cell (i := i) hi8
          have y3 := MK.out.own.froz i
          have z0 := I0.out.lt
          have z1 := I1.out.lt
          have z3 := MK.out.own.lt
          have hI0 : (0 : Int) ≤ (i : Int) := by omega
          have hI1 : (i : Int) < 256 := by omega
          have hQ0 : (0 : Int) ≤ (q1 : Int) := by omega
          have hQ1 : (q1 : Int) < 256 := by omega
          have hR0 : (0 : Int) ≤ (q2 : Int) := by omega
          have hR1 : (q2 : Int) < 256 := by omega
          have J0 : Hid (Blk (wr.setCell ⟨w.heap.size + 1 + 1 + 1, i, none⟩ (.bool true)) w.heap.size (cellsP f) 134) := I0.out.far _ _ (by show w.heap.size ≠ w.heap.size + 1 + 1 + 1; omega)
          have J1 : Hid (Blk (wr.setCell ⟨w.heap.size + 1 + 1 + 1, i, none⟩ (.bool true)) (w.heap.size + 1) (cellsP g) 134) := I1.out.far _ _ (by show w.heap.size + 1 ≠ w.heap.size + 1 + 1 + 1; omega)
          have JM : Hid (sideTest f g i k = true → Making w (wr.setCell ⟨w.heap.size + 1 + 1 + 1, i, none⟩ (.bool true)) (w.heap.size + 1 + 1) (w.heap.size + 1 + 1 + 1) (soFar (sideTest f g) (fun q => q + 1) i (k + 1))) := fun h => (MK.out.set hi8 true).same (soFar_hit h)
          have JN : Hid (sideTest f g i k = false → Making w wr (w.heap.size + 1 + 1) (w.heap.size + 1 + 1 + 1) (soFar (sideTest f g) (fun q => q + 1) i (k + 1))) := fun h => MK.out.same (soFar_miss h)
          clear hq1 hq2 l1
          cases hf : f q1 with
          | false =>
            rw [hf] at x0 T
            have M2 : Hid (Making w wr (w.heap.size + 1 + 1) (w.heap.size + 1 + 1 + 1) (soFar (sideTest f g) (fun q => q + 1) i (k + 1))) := JN.out (by rw [T.out]; simp)
            clear hf
            go_wp2
            go_roundw
            case rel => exact ⟨k + 1, by go_num, by omega, I0, I1, M2⟩
            case measure => simp [intOf]; omega
          | true =>
            cases hg : g q2 with
            | false =>
              rw [hf] at x0 T
              rw [hg] at x1 T
              have M2 : Hid (Making w wr (w.heap.size + 1 + 1) (w.heap.size + 1 + 1 + 1) (soFar (sideTest f g) (fun q => q + 1) i (k + 1))) := JN.out (by rw [T.out]; simp)
              clear hf hg
              go_wp2
              go_roundw
              case rel => exact ⟨k + 1, by go_num, by omega, I0, I1, M2⟩
              case measure => simp [intOf]; omega
            | true =>
              rw [hf] at x0 T
              rw [hg] at x1 T
              have M2 : Hid (Making w (wr.setCell ⟨w.heap.size + 1 + 1 + 1, i, none⟩ (.bool true)) (w.heap.size + 1 + 1) (w.heap.size + 1 + 1 + 1) (soFar (sideTest f g) (fun q => q + 1) i (k + 1))) := JM.out (by rw [T.out]; simp)
              clear hf hg
              go_wp2
              go_roundw
              case rel => exact ⟨k + 1, by go_num, by omega, J0, J1, M2⟩
              case measure => simp [intOf]; omega
        · obtain rfl : k = i + 1 := by omega
          have MN : Hid (Making w wr (w.heap.size + 1 + 1) (w.heap.size + 1 + 1 + 1) (soFar (sideTest f g) (fun q => q + 1) (i + 1) 0)) := MK.out.same (soFar_next (sideTest f g) (fun q => q + 1) i)
          clear hk
          go_wp2
          go_roundw
          case rel => exact ⟨i + 1, by omega, by go_num, I0, I1, MN⟩
          case measure => simp [intOf]; omega
    · obtain rfl : i = n + 1 := by omega
      obtain ⟨h, hh⟩ : ∃ h, h = soFar (sideTest f g) (fun q => q + 1) (n + 1) 0 := ⟨_, rfl⟩
      have MH : Hid (Making w wr (w.heap.size + 1 + 1) (w.heap.size + 1 + 1 + 1) h) := MK.out.same hh.symm
      have HP : Hid (∀ p, p ≤ n → h p = anyTo (sideTest f g p) (p + 1)) := fun p hp => by rw [hh]; exact soFar_done _ _ _ (by omega)
      clear hh MK
      go_wp2_with (first
        | (refine wpList_load_row rfl 134 (.tmp 7) rfl (w.heap.size + 1 + 1 + 1) rfl 134 (cellsP h) (0, 0) _ MH.out.own Tryz.underlying134 rfl (sizePS h) ?_)
        | (refine wpList_store_row rfl 134 (.tmp 6) (.tmp 34) rfl (w.heap.size + 1 + 1) (cellsP h) rfl rfl 134 _ MH.out.res (sizePS h) (by rw [cellsP_size, cellsP_size]) (cellsP_one h) ?_))
      exact bodyPost_ret (v := .agg (cellsP h)) (ret_set rfl _ MH.out rfl) rfl ⟨h, rfl, HP.out, MH.out.done.2⟩

/-- the set of a repetition as far as part p: right below it; at it what was found, above it nothing -/
structure RepAt (f : Nat → Bool) (R : Nat → Prop) (p k : Nat) (h : Nat → Bool) : Prop where
  low : ∀ q, q < p → (h q = true ↔ R q)
  here : h p = true ↔ ∃ j, 1 ≤ j ∧ j < k ∧ p % 2 ^ j ≠ 0 ∧ f (p % 2 ^ j) = true ∧ R (p - p % 2 ^ j)
  high : ∀ q, p < q → h q = false
/-- what is asked of R: nothing, or cut off a first part that is not empty -/
def RepIs (f : Nat → Bool) (n : Nat) (R : Nat → Prop) : Prop := R 0 ∧ ∀ p, 1 ≤ p → p < 2 ^ n → (R p ↔ ∃ j, 1 ≤ j ∧ j < n + 1 ∧ p % 2 ^ j ≠ 0 ∧ f (p % 2 ^ j) = true ∧ R (p - p % 2 ^ j))
theorem RepAt.hit {f : Nat → Bool} {R : Nat → Prop} {p k : Nat} {h : Nat → Bool} (a : RepAt f R p k h) (hk : 1 ≤ k) (hf : f (p % 2 ^ k) = true) (hr : h (p - p % 2 ^ k) = true) : RepAt f R p (k + 1) (fun j => if j = p then true else h j) := by
  by_cases e0 : p % 2 ^ k = 0
  · rw [e0, Nat.sub_zero] at hr
    refine ⟨fun q hq => by rw [if_neg (by omega)]; exact a.low q hq, ?_, fun q hq => by rw [if_neg (by omega)]; exact a.high q hq⟩
    rw [if_pos rfl]
    refine ⟨fun _ => ?_, fun _ => rfl⟩
    obtain ⟨j, h1, h2, h3⟩ := a.here.1 hr
    exact ⟨j, h1, by omega, h3⟩
  · refine ⟨fun q hq => by rw [if_neg (by omega)]; exact a.low q hq, ?_, fun q hq => by rw [if_neg (by omega)]; exact a.high q hq⟩
    rw [if_pos rfl]
    have := Nat.mod_le p (2 ^ k)
    exact ⟨fun _ => ⟨k, hk, by omega, e0, hf, (a.low _ (by omega)).1 hr⟩, fun _ => rfl⟩
theorem RepAt.miss {f : Nat → Bool} {R : Nat → Prop} {p k : Nat} {h : Nat → Bool} (a : RepAt f R p k h) (hm : ¬ (f (p % 2 ^ k) = true ∧ h (p - p % 2 ^ k) = true)) : RepAt f R p (k + 1) h := by
  refine ⟨a.low, ?_, a.high⟩
  rw [a.here]
  constructor
  · rintro ⟨j, h1, h2, h3⟩; exact ⟨j, h1, by omega, h3⟩
  · rintro ⟨j, h1, h2, h3, h4, h5⟩
    by_cases e : j = k
    · subst e
      have := Nat.mod_le p (2 ^ j)
      exact absurd ⟨h4, (a.low _ (by omega)).2 h5⟩ hm
    · exact ⟨j, h1, by omega, h3, h4, h5⟩
theorem RepAt.next {f : Nat → Bool} {R : Nat → Prop} {n p : Nat} {h : Nat → Bool} (hR : RepIs f n R) (hp : 1 ≤ p) (hpn : p < 2 ^ n) (a : RepAt f R p (n + 1) h) : RepAt f R (p + 1) 1 h := by
  refine ⟨?_, ?_, fun q hq => a.high q (by omega)⟩
  · intro q hq
    by_cases e : q = p
    · subst e; rw [a.here, hR.2 q hp hpn]
    · exact a.low q (by omega)
  · rw [a.high (p + 1) (by omega)]
    constructor
    · intro h; cases h
    · rintro ⟨j, h1, h2, _⟩; omega

set_option maxHeartbeats 2000000 in
theorem repeatedParts_any (f : Nat → Bool) (n : Nat) (R : Nat → Prop) (w : World) (hn : n ≤ 8) (hR : RepIs f n R) : Calls Tryz.prog 107 #[.agg (cellsP f), .int .i64 ((2 ^ n - 1 : Nat) : Int)] w fun e w' => ∃ h, e = .returned (.agg (cellsP h)) ∧ (∀ p, p < 2 ^ n → (h p = true ↔ R p)) ∧ Below w.heap.size w w' := by
  obtain ⟨hz, hsz⟩ := zero_of_info Tryz.infoPS
  clear hsz
  have HN : Hid (n ≤ 8) := hn
  have HR : Hid (RepIs f n R) := hR
  have h1 := Nat.one_le_two_pow (n := n)
  have h8 := pow_le8 hn
  obtain ⟨W, hW⟩ : ∃ W, W = 2 ^ n - 1 := ⟨_, rfl⟩
  have EW : Hid (W = 2 ^ n - 1) := hW
  have EP : Hid (2 ^ n = W + 1) := by show _ = _; omega
  have hW8 : W < 256 := by omega
  rw [← hW]
  clear hW hn h1 h8 hR
  go_enter Tryz.func107, Tryz.ntmps107
  go_wp2
  rw [cellsP_set (fun x => false) (i := 0) (by omega) true]
  have I0 : Hid (Blk (((w.alloc (.cells (cellsP f) 134)).alloc (.cells (cellsP fun x => false) 134)).alloc (.cells (cellsP fun j => if j = 0 then true else false) 134)) w.heap.size (cellsP f) 134) := ((Blk.new w _ _).alloc _).alloc _
  have MK : Hid (Making w (((w.alloc (.cells (cellsP f) 134)).alloc (.cells (cellsP fun x => false) 134)).alloc (.cells (cellsP fun j => if j = 0 then true else false) 134)) (w.heap.size + 1) (w.heap.size + 1 + 1) (fun j => if j = 0 then true else false)) :=
    ⟨(Blk.new_at (by simp) _ _).alloc _, Blk.new_at (by simp) _ _, (((Below.refl _ _).alloc (Nat.le_refl _) _).alloc (by simp) _).alloc (by simp; omega) _, by omega, by omega, by omega⟩
  have A0 : Hid (RepAt f R 1 1 (fun j => if j = 0 then true else false)) := by
    refine ⟨fun q hq => ?_, ?_, fun q hq => if_neg (by omega)⟩
    · have : q = 0 := by omega
      subst this
      rw [if_pos rfl]; exact ⟨fun _ => HR.out.1, fun _ => rfl⟩
    · rw [if_neg (by omega)]
      constructor
      · intro h; cases h
      · rintro ⟨j, h1, h2, _⟩; omega
  generalize ((w.alloc (.cells (cellsP f) 134)).alloc (.cells (cellsP fun x => false) 134)).alloc (.cells (cellsP fun j => if j = 0 then true else false) 134) = V at I0 MK ⊢
  generalize (fun j => if j = 0 then true else false) = h0 at A0 MK
  go_loopw [6] (fun i' wr => ∃ (i : Nat) (h : Nat → Bool), 1 ≤ i ∧ i ≤ W + 1 ∧ i' = .int .i64 i ∧ Hid (Blk wr w.heap.size (cellsP f) 134) ∧ Hid (Making w wr (w.heap.size + 1) (w.heap.size + 1 + 1) h) ∧ Hid (RepAt f R i 1 h)) (fun i' _ => W + 1 - (intOf i').toNat)
  case atStart => exact ⟨1, h0, by omega, by omega, rfl, I0, MK, A0⟩
  case round =>
    clear I0 MK A0
    obtain ⟨i, h, hi1, hi, rfl, I0, MK, AT⟩ := hrel
    by_cases hlt : i ≤ W
    · go_wp2
      clear hi
      obtain ⟨wo, rfl⟩ : ∃ wo : World, wo = wr := ⟨_, rfl⟩
      go_loopw [7] (fun a' wr => ∃ (k A : Nat) (h : Nat → Bool), a' = .int .i64 A ∧ A ≤ 511 ∧ Hid (1 ≤ k ∧ k ≤ n + 1) ∧ Hid (A = 2 ^ k - 1) ∧ Hid (Blk wr w.heap.size (cellsP f) 134) ∧ Hid (Making w wr (w.heap.size + 1) (w.heap.size + 1 + 1) h) ∧ Hid (RepAt f R i k h)) (fun a' _ => W + 1 - (intOf a').toNat)
      case atStart => exact ⟨1, 1, h, rfl, by omega, ⟨Nat.le_refl _, by omega⟩, rfl, I0, MK, AT⟩
      case round =>
        clear I0 MK AT
        clear h
        obtain ⟨k, A, h, rfl, hA5, HK, EA, I0, MK, AT⟩ := hrel
        by_cases hk : k ≤ n
        · have hAW : A ≤ W := by have := ahead_le hk; rw [← EA.out, ← EW.out] at this; exact this
          have hi8 : i < 256 := by omega
          have e1 := ahead_and (k := k) hi8 (Nat.le_trans hk HN.out)
          have e2 := ahead_not (k := k) hi8 (Nat.le_trans hk HN.out)
          rw [← EA.out] at e1 e2
          have l1 := Nat.mod_le i (2 ^ k)
          have HT : Hid (∀ b c : Bool, f (i % 2 ^ k) = b → h (i - i % 2 ^ k) = c → ((b = true ∧ c = true) → RepAt f R i (k + 1) (fun j => if j = i then true else h j)) ∧ (¬ (b = true ∧ c = true) → RepAt f R i (k + 1) h)) := by
            intro b c hb hc
            subst hb hc
            exact ⟨fun x => AT.out.hit HK.out.1 x.1 x.2, fun x => AT.out.miss x⟩
          obtain ⟨q1, hq1⟩ : ∃ q, q = i % 2 ^ k := ⟨_, rfl⟩
          rw [← hq1] at e1 e2 l1 HT
          obtain ⟨q2, hq2⟩ : ∃ q, q = i - q1 := ⟨_, rfl⟩
          rw [← hq2] at e2 HT
          have NX : Hid (A * 2 + 1 = 2 ^ (k + 1) - 1) := by show _ = _; rw [EA.out]; exact ahead_next k
          have x0 := I0.out.partAt (i := q1) (by omega)
          have x1 := MK.out.cell (i := q2) (by omega)
          have x3 := MK.out.cell (i := i) hi8
          have y3 := MK.out.own.froz i
          have z0 := I0.out.lt
          have z3 := MK.out.own.lt
          have hI0 : (0 : Int) ≤ (i : Int) := by omega
          have hI1 : (i : Int) < 256 := by omega
          have hQ0 : (0 : Int) ≤ (q1 : Int) := by omega
          have hQ1 : (q1 : Int) < 256 := by omega
          have hR0 : (0 : Int) ≤ (q2 : Int) := by omega
          have hR1 : (q2 : Int) < 256 := by omega
          have J0 : Hid (Blk (wr.setCell ⟨w.heap.size + 1 + 1, i, none⟩ (.bool true)) w.heap.size (cellsP f) 134) := I0.out.far _ _ (by show w.heap.size ≠ w.heap.size + 1 + 1; omega)
          have JM : Hid (Making w (wr.setCell ⟨w.heap.size + 1 + 1, i, none⟩ (.bool true)) (w.heap.size + 1) (w.heap.size + 1 + 1) (fun j => if j = i then true else h j)) := MK.out.set hi8 true
          have HK2 : Hid (1 ≤ k + 1 ∧ k + 1 ≤ n + 1) := ⟨by omega, Nat.succ_le_succ hk⟩
          clear hq1 hq2 hk l1
          cases hf : f q1 with
          | false =>
            have A2 : Hid (RepAt f R i (k + 1) h) := (HT.out false _ hf rfl).2 (fun x => by cases x.1)
            rw [hf] at x0
            clear hf
            go_wp2
            go_roundw
            case rel => exact ⟨k + 1, A * 2 + 1, h, by go_num, by omega, HK2, NX, I0, MK, A2⟩
            case measure => simp [intOf]; omega
          | true =>
            cases hg : h q2 with
            | false =>
              have A2 : Hid (RepAt f R i (k + 1) h) := (HT.out true false hf hg).2 (fun x => by cases x.2)
              rw [hf] at x0
              rw [hg] at x1
              clear hf hg
              go_wp2
              go_roundw
              case rel => exact ⟨k + 1, A * 2 + 1, h, by go_num, by omega, HK2, NX, I0, MK, A2⟩
              case measure => simp [intOf]; omega
            | true =>
              have A2 : Hid (RepAt f R i (k + 1) (fun j => if j = i then true else h j)) := (HT.out true true hf hg).1 ⟨rfl, rfl⟩
              rw [hf] at x0
              rw [hg] at x1
              clear hf hg
              go_wp2
              go_roundw
              case rel => exact ⟨k + 1, A * 2 + 1, _, by go_num, by omega, HK2, NX, J0, JM, A2⟩
              case measure => simp [intOf]; omega
        · have hk' : k = n + 1 := by have := HK.out; omega
          subst hk'
          have hAW : ¬ A ≤ W := by have := ahead_gt n; rw [← EA.out, ← EW.out] at this; omega
          have AN : Hid (RepAt f R (i + 1) 1 h) := AT.out.next HR.out hi1 (by rw [EP.out]; omega)
          clear hk
          go_wp2
          go_roundw
          case rel => exact ⟨i + 1, h, by omega, by omega, by go_num, I0, MK, AN⟩
          case measure => simp [intOf]; omega
    · obtain rfl : i = W + 1 := by omega
      have HP : Hid (∀ p, p < 2 ^ n → (h p = true ↔ R p)) := fun p hp => AT.out.low p (by rw [← EP.out]; exact hp)
      go_wp2_with (first
        | (refine wpList_load_row rfl 134 (.tmp 5) rfl (w.heap.size + 1 + 1) rfl 134 (cellsP h) (0, 0) _ MK.out.own Tryz.underlying134 rfl (sizePS h) ?_)
        | (refine wpList_store_row rfl 134 (.tmp 4) (.tmp 34) rfl (w.heap.size + 1) (cellsP h) rfl rfl 134 _ MK.out.res (sizePS h) (by rw [cellsP_size, cellsP_size]) (cellsP_one h) ?_))
      exact bodyPost_ret (v := .agg (cellsP h)) (ret_set rfl _ MK.out rfl) rfl ⟨h, rfl, HP.out, MK.out.done.2⟩

theorem letterBit_any (at' : Nat) (w : World) (h : at' < 8) : Calls Tryz.prog 105 #[.int .i64 at'] w fun e w' => e = .returned (.int .i64 ((2 ^ at' : Nat) : Int)) ∧ w = w' := by
  go_enter Tryz.func105, Tryz.ntmps105
  go_wp2
  go_ret
  exact ⟨ret_int (pow_small' at' (by omega)), rfl⟩

theorem or_bit (n : Nat) : (2 ^ n - 1) ||| 2 ^ n = 2 ^ (n + 1) - 1 := by
  apply Nat.eq_of_testBit_eq
  intro i
  rw [Nat.testBit_or, Nat.testBit_two_pow_sub_one, Nat.testBit_two_pow_sub_one, Nat.testBit_two_pow]
  by_cases h : i < n
  · simp [h]; omega
  · by_cases e : i = n
    · subst e; simp
    · have h1 : ¬ i < n + 1 := by omega
      have h2 : ¬ n = i := fun x => e x.symm
      simp [h, h1, h2]
theorem wholePart_any (word : ByteArray) (w : World) (hw : word.size ≤ 8) : Calls Tryz.prog 90 #[.string word] w fun e w' => e = .returned (.int .i64 ((2 ^ word.size - 1 : Nat) : Int)) ∧ w = w' := by
  go_enter Tryz.func90, Tryz.ntmps90
  go_wp2
  go_loop [3, 4] (fun a' i' => ∃ (i A : Nat), i ≤ word.size ∧ i' = .int .i64 i ∧ a' = .int .i64 A ∧ Hid (A = 2 ^ i - 1)) (fun _ i' => word.size - (intOf i').toNat)
  case atStart => exact ⟨0, 0, by omega, rfl, rfl, rfl⟩
  case round =>
    obtain ⟨i, A, hi, rfl, rfl, EA⟩ := hrel
    by_cases hlt : i < word.size
    · have c1 := fun w => letterBit_any i w (by omega)
      have hA : 2 ^ i ≤ 256 := pow_le8 (by omega)
      have e1 : bits .or .i64 (A : Int) ((2 ^ i : Nat) : Int) = ((2 ^ (i + 1) - 1 : Nat) : Int) := by rw [EA.out, Flow.or_nat _ _ (by omega) (by omega), or_bit]
      have EA2 : Hid ((2 ^ (i + 1) - 1 : Nat) = 2 ^ (i + 1) - 1) := rfl
      generalize (2 ^ i : Nat) = B at c1 e1 hA
      obtain ⟨D, hD⟩ : ∃ D, D = 2 ^ (i + 1) - 1 := ⟨_, rfl⟩
      have ED : Hid (D = 2 ^ (i + 1) - 1) := hD
      rw [← hD] at e1
      clear hD EA2
      go_wp2_with (go_at_call 105; refine (c1 _).mono ?_; rintro e w' ⟨rfl, rfl⟩)
      go_round
      case rel => exact ⟨i + 1, D, by omega, by go_num, by go_num, ED⟩
      case measure => simp [intOf]; omega
    · obtain rfl : i = word.size := by omega
      go_wp2
      go_ret
      exact ⟨by rw [EA.out]; rfl, rfl⟩

/-- the parts that are one letter c -/
def taskTest (word : ByteArray) (c p at' : Nat) : Bool := decide (p = 2 ^ at') && decide (Flow.bt word at' = c)
set_option maxHeartbeats 1000000 in
theorem taskParts_any (word : ByteArray) (c : Nat) (w : World) (hw : word.size ≤ 8) : Calls Tryz.prog 106 #[.int .u8 c, .string word] w fun e w' => ∃ h, e = .returned (.agg (cellsP h)) ∧ (∀ p, h p = anyTo (taskTest word c p) word.size) ∧ Below w.heap.size w w' := by
  obtain ⟨hz, hsz⟩ := zero_of_info Tryz.infoPS
  clear hsz
  go_enter Tryz.func106, Tryz.ntmps106
  go_wp2
  have MK : Hid (Making w ((w.alloc (.cells (cellsP fun x => false) 134)).alloc (.cells (cellsP fun x => false) 134)) w.heap.size (w.heap.size + 1) (fun _ => false)) :=
    ⟨(Blk.new _ _ _).alloc _, Blk.new_at (by simp) _ _, ((Below.refl _ _).alloc (Nat.le_refl _) _).alloc (by simp) _, by omega, by omega, by omega⟩
  generalize (w.alloc (.cells (cellsP fun x => false) 134)).alloc (.cells (cellsP fun x => false) 134) = V at MK ⊢
  go_loopw [6] (fun i' wr => ∃ (i : Nat) (h : Nat → Bool), i ≤ word.size ∧ i' = .int .i64 i ∧ Hid (∀ p, h p = anyTo (taskTest word c p) i) ∧ Hid (Making w wr w.heap.size (w.heap.size + 1) h)) (fun i' _ => word.size - (intOf i').toNat)
  case atStart => exact ⟨0, fun _ => false, by omega, rfl, fun p => rfl, MK⟩
  case round =>
    clear MK
    obtain ⟨i, h, hi, rfl, HP, MK⟩ := hrel
    by_cases hlt : i < word.size
    · have c1 := fun w => letterBit_any i w (by omega)
      have h256 : 2 ^ i < 256 := by
        have h1 := Nat.pow_le_pow_right (n := 2) (by omega) (show i ≤ 7 by omega)
        have e : (2 : Nat) ^ 7 = 128 := by decide
        omega
      have HB : Hid (word[i].toNat = Flow.bt word i) := Flow.bt_at hlt
      have x3 := MK.out.cell (i := 2 ^ i) h256
      have y3 := MK.out.own.froz (2 ^ i)
      have z3 := MK.out.own.lt
      have JM : Hid (Making w (wr.setCell ⟨w.heap.size + 1, 2 ^ i, none⟩ (.bool true)) w.heap.size (w.heap.size + 1) (fun j => if j = 2 ^ i then true else h j)) := MK.out.set h256 true
      have S1 : Hid (Flow.bt word i = c → ∀ p, (if p = 2 ^ i then true else h p) = anyTo (taskTest word c p) (i + 1)) := by
        intro hb p
        show _ = (anyTo (taskTest word c p) i || taskTest word c p i)
        rw [← HP.out p]
        unfold taskTest
        by_cases e : p = 2 ^ i
        · rw [if_pos e, decide_eq_true e, decide_eq_true hb]; simp
        · rw [if_neg e, decide_eq_false e]; simp
      have S0 : Hid (¬ Flow.bt word i = c → ∀ p, h p = anyTo (taskTest word c p) (i + 1)) := by
        intro hb p
        show _ = (anyTo (taskTest word c p) i || taskTest word c p i)
        rw [← HP.out p]
        unfold taskTest
        rw [decide_eq_false hb]; simp
      have hI0 : (0 : Int) ≤ (i : Int) := by omega
      have hI1 : (i : Int) < (word.size : Int) := by omega
      obtain ⟨B, hB⟩ : ∃ B, B = 2 ^ i := ⟨_, rfl⟩
      rw [← hB] at c1 h256 x3 y3 JM S1
      have hB0 : (0 : Int) ≤ (B : Int) := by omega
      have hB1 : (B : Int) < 256 := by omega
      clear hB
      by_cases e : word[i].toNat = c
      · have te : ((word[i].toNat : Int) == (c : Int)) = true := by simp; omega
        have P1 : Hid (∀ p, (if p = B then true else h p) = anyTo (taskTest word c p) (i + 1)) := S1.out (by rw [← HB.out]; exact e)
        clear e
        go_wp2_with (go_at_call 105; refine (c1 _).mono ?_; rintro e w' ⟨rfl, rfl⟩)
        go_roundw
        case rel => exact ⟨i + 1, _, by omega, by go_num, P1, JM⟩
        case measure => simp [intOf]; omega
      · have te : ((word[i].toNat : Int) == (c : Int)) = false := by simp; omega
        have P0 : Hid (∀ p, h p = anyTo (taskTest word c p) (i + 1)) := S0.out (by rw [← HB.out]; exact e)
        clear e
        go_wp2_with (go_at_call 105; refine (c1 _).mono ?_; rintro e w' ⟨rfl, rfl⟩)
        go_roundw
        case rel => exact ⟨i + 1, _, by omega, by go_num, P0, MK⟩
        case measure => simp [intOf]; omega
    · obtain rfl : i = word.size := by omega
      go_wp2_with (first
        | (refine wpList_load_row rfl 134 (.tmp 5) rfl (w.heap.size + 1) rfl 134 (cellsP h) (0, 0) _ MK.out.own Tryz.underlying134 rfl (sizePS h) ?_)
        | (refine wpList_store_row rfl 134 (.tmp 4) _ rfl w.heap.size (cellsP h) rfl rfl 134 _ MK.out.res (sizePS h) (by rw [cellsP_size, cellsP_size]) (cellsP_one h) ?_))
      exact bodyPost_ret (v := .agg (cellsP h)) (ret_set rfl _ MK.out rfl) rfl ⟨h, rfl, HP.out, MK.out.done.2⟩
end Go.Proofs.YtdlldljgogbiaabGreat
namespace Go.Proofs.YtdlldljgogbiaabGreat
open Go.RowKit
set_option linter.unusedVariables false
set_option maxRecDepth 40000

def cellsPL (f : Nat → Bool) : List Value := (List.range 256).map fun i => Value.bool (f i)
theorem cellsPL_eq (f : Nat → Bool) : cellsP f = (cellsPL f).toArray := rfl
theorem cellsPL_len (f : Nat → Bool) : (cellsPL f).length = 256 := by simp [cellsPL]
theorem cellsPL_one (f : Nat → Bool) : ∀ v ∈ cellsPL f, v.oneCell' = true := by
  intro v hv
  unfold cellsPL at hv
  obtain ⟨i, _, rfl⟩ := List.mem_map.1 hv
  rfl
theorem sizePL (f : Nat → Bool) : (Tryz.prog.info? 134).map (·.size) = some (cellsPL f).length := by rw [cellsPL_len]; exact (zero_of_info Tryz.infoPS).2
theorem Tryz.infoPS3 : (Tryz.prog.info? 134).map (fun i => (i.zero, i.size, i.bytes)) = some (some (.agg (cellsP fun _ => false)), 256, 256) := by kernel_rfl

/-- an operation is taken first: its slot written out -/
theorem take_at {P : Program} {md : Region.Mode} {ops : Array Oper} {Q : Exit → Act → World → Prop} {i : Nat} {oi : Oper} {v : Value} {fuel : Nat} {listed : Array Bool} {a : Act} {w : World} (d : Option Tmp) (hi : ops[i]? = some oi) (hd : oi.dst = d)
    (hs : Region.noSelect ops = true) (hf : Region.free md ops listed i = true) (hr : (Region.ready md ops listed).contains i = true)
    (hQ : ∀ c a w, Q (.panic c) (a.put d v) w → Q (.panic c) a w) (hy : Yields P ops oi v a)
    (h : wpAny P md ops Q fuel (listed.setIfInBounds i true) (a.put d v) w) : wpAny P md ops Q (fuel + 1) listed a w := by
  subst hd
  exact wpAny_take hi hs hf hr hQ hy h
/-- the only one that may come up is carried out -/
theorem step_at {P : Program} {md : Region.Mode} {ops : Array Oper} {Q : Exit → Act → World → Prop} {i : Nat} {oi : Oper} {fuel : Nat} {listed : Array Bool} {a : Act} {w : World} (hi : ops[i]? = some oi) (hg : oi.guard = none) (hr : Region.ready md ops listed = [i])
    (h : ∀ K' : Act → World → Prop, Shut (∀ a w, wpAny P md ops Q fuel (listed.setIfInBounds i true) a w → K' a w) → Oper.wp P oi a w K' Q) : wpAny P md ops Q (fuel + 1) listed a w := by
  refine wpAny_ready hr (by simp) (AllReady.cons hi (fun K hK => ?_) AllReady.nil)
  have hw : Region.wanted oi (yielded ops a.tmps) = true := by simp [Region.wanted, hg]
  rw [if_pos hw]
  exact h K hK
/-- two may come up -/
theorem step_two {P : Program} {md : Region.Mode} {ops : Array Oper} {Q : Exit → Act → World → Prop} {i j : Nat} {oi oj : Oper} {fuel : Nat} {listed : Array Bool} {a : Act} {w : World} (hi : ops[i]? = some oi) (hg : oi.guard = none) (hj : ops[j]? = some oj) (hgj : oj.guard = none) (hr : Region.ready md ops listed = [i, j])
    (h : ∀ K' : Act → World → Prop, Shut (∀ a w, wpAny P md ops Q fuel (listed.setIfInBounds i true) a w → K' a w) → Oper.wp P oi a w K' Q)
    (h' : ∀ K' : Act → World → Prop, Shut (∀ a w, wpAny P md ops Q fuel (listed.setIfInBounds j true) a w → K' a w) → Oper.wp P oj a w K' Q) : wpAny P md ops Q (fuel + 1) listed a w := by
  refine wpAny_ready hr (by simp) (AllReady.cons hi (fun K hK => ?_) (AllReady.cons hj (fun K hK => ?_) AllReady.nil))
  · have hw : Region.wanted oi (yielded ops a.tmps) = true := by simp [Region.wanted, hg]
    rw [if_pos hw]
    exact h K hK
  · have hw : Region.wanted oj (yielded ops a.tmps) = true := by simp [Region.wanted, hgj]
    rw [if_pos hw]
    exact h' K hK

theorem reg_drew {P : Program} {ops : Array Oper} {Q : Exit → Act → World → Prop} {id : Nat} {a : Act} {w : World} (hm : P.follows .mixedOrders = true) (h : wpAny P .any ops Q ops.size (Array.replicate ops.size false) a w.drew) : (Code.region id ops true).wp P Q a w := wp_region_any hm h
theorem fill_one (cs : List Value) (hl : cs.length = 256) (z : Array Value) : Instr.fill (fun i => some (i * 256, 256)) ((Array.range (1 * 256)).map (z[· % z.size]!)) [(0, .agg cs.toArray)] = some cs.toArray := by
  have := Great.fill_whole (s := 256) (by decide) [Value.agg cs.toArray] ((Array.range (1 * 256)).map (z[· % z.size]!)) (fun v hv => by rw [List.mem_singleton.1 hv]; simpa [Value.cells] using hl) (by simp)
  simpa [Value.cells] using this

/-- the cells of a list of sets -/
def cellsS (L : List (Nat → Bool)) : List Value := L.flatMap cellsPL
theorem cellsS_snoc (L : List (Nat → Bool)) (f : Nat → Bool) : cellsS (L ++ [f]) = cellsS L ++ cellsPL f := by simp [cellsS]
theorem cellsS_len (L : List (Nat → Bool)) : (cellsS L).length = L.length * 256 := by
  induction L with
  | nil => rfl
  | cons f L ih =>
    show (cellsPL f ++ cellsS L).length = _
    rw [List.length_append, cellsPL_len, ih, List.length_cons]; omega
/-- block B holds a stack -/
def StkA (w : World) (base B : Nat) (aS : Option Addr) (cS : Nat) (L : List (Nat → Bool)) : Prop :=
  base ≤ B ∧ obk aS ≠ some B ∧ Blk w B #[.slice aS L.length cS] 132 ∧ w.ownsRow base 134 256 (.slice aS L.length cS) L.length (cellsS L)
def Stk (w : World) (base B : Nat) (L : List (Nat → Bool)) : Prop := ∃ aS cS, StkA w base B aS cS L
theorem StkA.below {w w1 : World} {base B : Nat} {aS : Option Addr} {cS : Nat} {L : List (Nat → Bool)} (h : StkA w base B aS cS L) (hb : Below w.heap.size w w1) : StkA w1 base B aS cS L := by
  obtain ⟨h1, h2, h3, h4⟩ := h
  exact ⟨h1, h2, h3.below hb h3.lt, owns_below h4 hb (Nat.le_refl _)⟩
theorem Stk.below {w w1 : World} {base B : Nat} {L : List (Nat → Bool)} (h : Stk w base B L) (hb : Below w.heap.size w w1) : Stk w1 base B L := by
  obtain ⟨aS, cS, h1, h2, h3, h4⟩ := h
  exact ⟨aS, cS, h1, h2, h3.below hb h3.lt, owns_below h4 hb (Nat.le_refl _)⟩

set_option maxHeartbeats 2000000 in
theorem push_any (f : Nat → Bool) (L : List (Nat → Bool)) (base B : Nat) (w : World) (hL : L.length ≤ 24) (hbase : base ≤ w.heap.size) (h : Stk w base B L) :
    Calls Tryz.prog 92 #[.pointer (some ⟨B, 0, none⟩), .agg (cellsP f)] w fun e w' => e = .returned (.tuple #[]) ∧ Stk w' base B (L ++ [f]) ∧ Below base w w' := by
  obtain ⟨i0, hi, hz0, hz1, hz2⟩ := info_parts Tryz.infoPS3
  obtain ⟨aS, cS, hB, hap, hblk, hrow⟩ := h
  have hsz := sizePL f
  have hun : Tryz.prog.underlying 134 = _ := Tryz.underlying134
  have hune : Tryz.prog.underlying 130 = _ := Tryz.underlying130
  have HC : Hid ((cellsPL f).length = 256) := cellsPL_len f
  have HO : Hid (∀ v ∈ cellsPL f, v.oneCell' = true) := cellsPL_one f
  have HS : Hid (cellsS (L ++ [f]) = cellsS L ++ cellsPL f) := cellsS_snoc L f
  rw [cellsPL_eq]
  generalize cellsPL f = cs at hsz HC HO HS ⊢
  have rg : (w.alloc (.cells cs.toArray 134)).rangeAt w.heap.size 0 cs := by
    intro j v hv
    have := (Blk.new w cs.toArray 134).cell j
    rw [Nat.zero_add, this]
    simpa using hv
  have KB : Hid (Blk (w.alloc (.cells cs.toArray 134)) B #[.slice aS L.length cS] 132) := hblk.alloc _
  have RO : Hid ((w.alloc (.cells cs.toArray 134)).ownsRow base 134 256 (.slice aS L.length cS) L.length (cellsS L)) := hrow.alloc _
  have NA : Hid (obk aS ≠ some w.heap.size) := fun e => by have := (owns_lt hrow e).2; omega
  have EW : Hid (Below base w (w.alloc (.cells cs.toArray 134))) := (Below.refl _ _).alloc hbase _
  have zV : w.heap.size < (w.alloc (.cells cs.toArray 134)).heap.size := by simp
  have zb : base ≤ (w.alloc (.cells cs.toArray 134)).heap.size := by omega
  go_enter Tryz.func92, Tryz.ntmps92
  go_wp2
  generalize w.alloc (.cells cs.toArray 134) = V at rg KB RO EW zV zb ⊢
  generalize w.heap.size = N at rg NA zV ⊢
  clear hblk hrow
  have y0 : V.cell? ⟨B, 0, none⟩ = some (.slice aS L.length cS) := KB.out.cell 0
  have zBV := KB.out.lt
  have KB2 : Hid (Blk (V.drew.alloc (.cells cs.toArray 134)) B #[.slice aS L.length cS] 132) := KB.out.drew.alloc _
  have RO2 : Hid ((V.drew.alloc (.cells cs.toArray 134)).ownsRow base 134 256 (.slice aS L.length cS) L.length (cellsS L)) := RO.out.drew.alloc _
  have EW2 : Hid (Below base w (V.drew.alloc (.cells cs.toArray 134))) := EW.out.drew.alloc zb _
  have AD : Hid (∀ j u, cs[j]? = some u → (V.drew.alloc (.cells cs.toArray 134)).cell? ((⟨V.heap.size, 0, none⟩ : Addr).add j) = some u) := by
    show ∀ j u, _
    have := World.news_of_block (cs := cs.toArray) (Blk.new V.drew cs.toArray 134)
    simpa using this
  have zb2 : base ≤ (V.drew.alloc (.cells cs.toArray 134)).heap.size := by simp; omega
  have zH : V.heap.size < (V.drew.alloc (.cells cs.toArray 134)).heap.size := by simp
  have y2 : (V.drew.alloc (.cells cs.toArray 134)).cell? ⟨B, 0, none⟩ = some (.slice aS L.length cS) := KB2.out.cell 0
  have BS : ∀ (act : Act) (o : Oper) (K : Act → World → Prop) (Q : Exit → Act → World → Prop), o.op = .buildSlice 130 1 #[(0, .tmp 9)] → act.eval (.tmp 9) = .agg cs.toArray → K (act.put o.dst (.slice (some ⟨V.heap.size, 0, none⟩) 1 1)) (V.drew.alloc (.cells cs.toArray 134)) → o.wp Tryz.prog act V.drew K Q := by
    intro act o K Q ho he hk
    refine wp_buildSlice 130 134 1 _ ho cs.toArray i0 _ hune hi hz0 (by rw [hz1]; decide) (by rw [hz1]; decide) ?_ hk
    rw [hz1]
    have : (#[((0 : Nat), Operand.tmp 9)].map fun (x : Nat × Operand) => (x.1, act.eval x.2)).toList = [(0, .agg cs.toArray)] := by simp [he]
    exact (congrArg _ this).trans (fill_one cs HC.out (Value.agg (cellsP fun _ => false)).cells)
  refine reg_drew (by kernel_rfl) ?_
  refine take_at (i := 0) (some 4) (v := .pointer (some ⟨B, 0, none⟩)) rfl rfl (by kernel_rfl) (by kernel_rfl) (by kernel_rfl) (fun _ _ _ h => h) (Or.inl ⟨by rfl, fun w1 => by go_simp⟩) ?_
  simp only [Act.put, List.setIfInBounds_toArray, List.set_cons_zero, List.set_cons_succ]
  refine take_at (i := 1) (some 5) (v := .pointer (some ⟨B, 0, none⟩)) rfl rfl (by kernel_rfl) (by kernel_rfl) (by kernel_rfl) (fun _ _ _ h => h) (Or.inl ⟨by rfl, fun w1 => by go_simp⟩) ?_
  simp only [Act.put, List.setIfInBounds_toArray, List.set_cons_zero, List.set_cons_succ]
  refine take_at (i := 2) (some 6) (v := .pointer (some ⟨B, 0, none⟩)) rfl rfl (by kernel_rfl) (by kernel_rfl) (by kernel_rfl) (fun _ _ _ h => h) (Or.inl ⟨by rfl, fun w1 => by go_simp⟩) ?_
  simp only [Act.put, List.setIfInBounds_toArray, List.set_cons_zero, List.set_cons_succ]
  refine take_at (i := 3) (some 7) (v := .pointer (some ⟨B, 0, none⟩)) rfl rfl (by kernel_rfl) (by kernel_rfl) (by kernel_rfl) (fun _ _ _ h => h) (Or.inl ⟨by rfl, fun w1 => by go_simp⟩) ?_
  simp only [Act.put, List.setIfInBounds_toArray, List.set_cons_zero, List.set_cons_succ]
  have LD : ∀ (act : Act) (o : Oper) (K : Act → World → Prop) (Q : Exit → Act → World → Prop), o.op = .load 134 (.tmp 3) → act.eval (.tmp 3) = .pointer (some ⟨N, 0, none⟩) → K (act.put o.dst (.agg cs.toArray)) V.drew → o.wp Tryz.prog act V.drew K Q := fun act o K Q ho he hk => wp_load_mid 134 (.tmp 3) ho N 0 he cs _ rg hun rfl hsz hk
  have AP : ∀ (act : Act) (o : Oper) (K : Act → World → Prop) (Q : Exit → Act → World → Prop), o.op = .call { callee := .builtin .append, args := #[.tmp 8, .tmp 10], argTypes := #[130, 130] } → act.eval (.tmp 8) = .slice aS L.length cS → act.eval (.tmp 10) = .slice (some ⟨V.heap.size, 0, none⟩) 1 1 →
      (∀ g cap' w1, w1.ownsRow base 134 256 (.slice (some ⟨g, 0, none⟩) (L.length + 1) cap') (L.length + 1) (cellsS L ++ cs) → (V.drew.alloc (.cells cs.toArray 134)).grownBy w1 (obk aS) → (obk aS = some g ∨ g = (V.drew.alloc (.cells cs.toArray 134)).heap.size) → K (act.put o.dst (.slice (some ⟨g, 0, none⟩) (L.length + 1) cap')) w1) → o.wp Tryz.prog act (V.drew.alloc (.cells cs.toArray 134)) K Q := by
    intro act o K Q ho h8 h10 hk
    refine wp_append_lies _ _ _ 130 ho base 134 i0 (.agg (cellsP fun _ => false)) 256 256 hune hi hz0 hz1 hz2 (by show (cellsP fun _ => false).size = 256; exact cellsP_size _) (by decide) (.slice aS L.length cS) L.length (cellsS L) h8 RO2.out ⟨V.heap.size, 0, none⟩ 1 1 cs h10 (by rw [HC.out]) AD.out HO.out (by decide) (by unfold maxLen; omega) (by omega) zb2 _ rfl ?_
    intro g cap' w1 own1 gr1 at1 _
    rw [ownBlock_slice] at gr1 at1
    exact hk g cap' w1 own1 gr1 at1
  have FIN : ∀ g cap' w1, w1.ownsRow base 134 256 (.slice (some ⟨g, 0, none⟩) (L.length + 1) cap') (L.length + 1) (cellsS L ++ cs) → (V.drew.alloc (.cells cs.toArray 134)).grownBy w1 (obk aS) → (obk aS = some g ∨ g = (V.drew.alloc (.cells cs.toArray 134)).heap.size) →
      w1.cell? ⟨B, 0, none⟩ = some (.slice aS L.length cS) ∧ w1.frozen? ⟨B, 0, none⟩ = false ∧ Stk (w1.setCell ⟨B, 0, none⟩ (.slice (some ⟨g, 0, none⟩) (L.length + 1) cap')) base B (L ++ [f]) ∧ Below base w (w1.setCell ⟨B, 0, none⟩ (.slice (some ⟨g, 0, none⟩) (L.length + 1) cap')) := by
    intro g cap' w1 own1 gr1 at1
    have KB3 : Blk w1 B #[.slice aS L.length cS] 132 := KB2.out.grown gr1 (fun x => hap x.symm)
    have gB : g ≠ B := by
      rcases at1 with x | x
      · exact fun e => hap (by rw [x, e])
      · omega
    have EW3 : Below base w w1 := EW2.out.grown gr1 zb2 (fun k hk => (owns_lt RO2.out hk).1)
    refine ⟨KB3.cell 0, KB3.froz 0, ⟨some ⟨g, 0, none⟩, cap', hB, by show some g ≠ some B; simpa using gB, ?_, ?_⟩, EW3.setCell (p := ⟨B, 0, none⟩) hB _⟩
    · have := KB3.set 0 (.slice (some ⟨g, 0, none⟩) (L.length + 1) cap')
      rw [List.length_append]
      simpa using this
    · rw [HS.out, List.length_append]
      exact owns_far own1 (by show some g ≠ some B; simpa using gB) _
  clear hsz hun HC hi hz0 hz1 hz2 hune HO HS KB RO EW zb NA KB2 RO2 EW2 AD zb2 rg
  refine step_two (i := 4) (j := 5) rfl rfl rfl rfl (by kernel_rfl) (fun K hK => ?_) (fun K hK => ?_)
  · go_simp
    refine hK.out _ _ ?_
    clear hK K
    refine step_at (i := 5) rfl rfl (by kernel_rfl) (fun K hK => ?_)
    refine LD _ _ _ _ rfl rfl (hK.out _ _ ?_)
    clear hK K
    show wpAny _ _ _ _ _ _ (Act.put _ (some 9) _) _
    simp only [Act.put, List.setIfInBounds_toArray, List.set_cons_zero, List.set_cons_succ]
    refine step_at (i := 6) rfl rfl (by kernel_rfl) (fun K hK => ?_)
    refine BS _ _ _ _ rfl rfl (hK.out _ _ ?_)
    clear hK K
    show wpAny _ _ _ _ _ _ (Act.put _ (some 10) _) _
    simp only [Act.put, List.setIfInBounds_toArray, List.set_cons_zero, List.set_cons_succ]
    refine step_at (i := 7) rfl rfl (by kernel_rfl) (fun K hK => ?_)
    refine AP _ _ _ _ rfl rfl rfl (fun g cap' w1 own1 gr1 at1 => hK.out _ _ ?_)
    clear hK K
    obtain ⟨x0, q0, F1, F2⟩ := FIN g cap' w1 own1 gr1 at1
    clear FIN AP LD BS own1 gr1 at1
    show wpAny _ _ _ _ _ _ (Act.put _ (some 11) _) _
    simp only [Act.put, List.setIfInBounds_toArray, List.set_cons_zero, List.set_cons_succ]
    refine take_at (i := 8) (some 12) (v := .pointer (some ⟨B, 0, none⟩)) rfl rfl (by kernel_rfl) (by kernel_rfl) (by kernel_rfl) (fun _ _ _ h => h) (Or.inl ⟨by rfl, fun w1 => by go_simp⟩) ?_
    simp only [Act.put, List.setIfInBounds_toArray, List.set_cons_zero, List.set_cons_succ]
    refine take_at (i := 9) (some 13) (v := .pointer (some ⟨B, 0, none⟩)) rfl rfl (by kernel_rfl) (by kernel_rfl) (by kernel_rfl) (fun _ _ _ h => h) (Or.inl ⟨by rfl, fun w1 => by go_simp⟩) ?_
    simp only [Act.put, List.setIfInBounds_toArray, List.set_cons_zero, List.set_cons_succ]
    refine step_at (i := 10) rfl rfl (by kernel_rfl) (fun K hK => ?_)
    go_simp
    refine hK.out _ _ ?_
    clear hK K
    refine wpAny_done (by kernel_rfl) ?_ _
    go_end0
    exact ⟨rfl, F1, F2⟩
  · refine LD _ _ _ _ rfl rfl (hK.out _ _ ?_)
    clear hK K
    show wpAny _ _ _ _ _ _ (Act.put _ (some 9) _) _
    simp only [Act.put, List.setIfInBounds_toArray, List.set_cons_zero, List.set_cons_succ]
    refine step_two (i := 4) (j := 6) rfl rfl rfl rfl (by kernel_rfl) (fun K hK => ?_) (fun K hK => ?_)
    · go_simp
      refine hK.out _ _ ?_
      clear hK K
      refine step_at (i := 6) rfl rfl (by kernel_rfl) (fun K hK => ?_)
      refine BS _ _ _ _ rfl rfl (hK.out _ _ ?_)
      clear hK K
      show wpAny _ _ _ _ _ _ (Act.put _ (some 10) _) _
      simp only [Act.put, List.setIfInBounds_toArray, List.set_cons_zero, List.set_cons_succ]
      refine step_at (i := 7) rfl rfl (by kernel_rfl) (fun K hK => ?_)
      refine AP _ _ _ _ rfl rfl rfl (fun g cap' w1 own1 gr1 at1 => hK.out _ _ ?_)
      clear hK K
      obtain ⟨x0, q0, F1, F2⟩ := FIN g cap' w1 own1 gr1 at1
      clear FIN AP LD BS own1 gr1 at1
      show wpAny _ _ _ _ _ _ (Act.put _ (some 11) _) _
      simp only [Act.put, List.setIfInBounds_toArray, List.set_cons_zero, List.set_cons_succ]
      refine take_at (i := 8) (some 12) (v := .pointer (some ⟨B, 0, none⟩)) rfl rfl (by kernel_rfl) (by kernel_rfl) (by kernel_rfl) (fun _ _ _ h => h) (Or.inl ⟨by rfl, fun w1 => by go_simp⟩) ?_
      simp only [Act.put, List.setIfInBounds_toArray, List.set_cons_zero, List.set_cons_succ]
      refine take_at (i := 9) (some 13) (v := .pointer (some ⟨B, 0, none⟩)) rfl rfl (by kernel_rfl) (by kernel_rfl) (by kernel_rfl) (fun _ _ _ h => h) (Or.inl ⟨by rfl, fun w1 => by go_simp⟩) ?_
      simp only [Act.put, List.setIfInBounds_toArray, List.set_cons_zero, List.set_cons_succ]
      refine step_at (i := 10) rfl rfl (by kernel_rfl) (fun K hK => ?_)
      go_simp
      refine hK.out _ _ ?_
      clear hK K
      refine wpAny_done (by kernel_rfl) ?_ _
      go_end0
      exact ⟨rfl, F1, F2⟩
    · refine BS _ _ _ _ rfl rfl (hK.out _ _ ?_)
      clear hK K
      show wpAny _ _ _ _ _ _ (Act.put _ (some 10) _) _
      simp only [Act.put, List.setIfInBounds_toArray, List.set_cons_zero, List.set_cons_succ]
      refine step_at (i := 4) rfl rfl (by kernel_rfl) (fun K hK => ?_)
      have y2' : ((V.alloc (.cells cs.toArray 134)).drew).cell? ⟨B, 0, none⟩ = some (.slice aS L.length cS) := y2
      go_simp
      refine hK.out _ _ ?_
      clear hK K y2'
      refine step_at (i := 7) rfl rfl (by kernel_rfl) (fun K hK => ?_)
      refine AP _ _ _ _ rfl rfl rfl (fun g cap' w1 own1 gr1 at1 => hK.out _ _ ?_)
      clear hK K
      obtain ⟨x0, q0, F1, F2⟩ := FIN g cap' w1 own1 gr1 at1
      clear FIN AP LD BS own1 gr1 at1
      show wpAny _ _ _ _ _ _ (Act.put _ (some 11) _) _
      simp only [Act.put, List.setIfInBounds_toArray, List.set_cons_zero, List.set_cons_succ]
      refine take_at (i := 8) (some 12) (v := .pointer (some ⟨B, 0, none⟩)) rfl rfl (by kernel_rfl) (by kernel_rfl) (by kernel_rfl) (fun _ _ _ h => h) (Or.inl ⟨by rfl, fun w1 => by go_simp⟩) ?_
      simp only [Act.put, List.setIfInBounds_toArray, List.set_cons_zero, List.set_cons_succ]
      refine take_at (i := 9) (some 13) (v := .pointer (some ⟨B, 0, none⟩)) rfl rfl (by kernel_rfl) (by kernel_rfl) (by kernel_rfl) (fun _ _ _ h => h) (Or.inl ⟨by rfl, fun w1 => by go_simp⟩) ?_
      simp only [Act.put, List.setIfInBounds_toArray, List.set_cons_zero, List.set_cons_succ]
      refine step_at (i := 10) rfl rfl (by kernel_rfl) (fun K hK => ?_)
      go_simp
      refine hK.out _ _ ?_
      clear hK K
      refine wpAny_done (by kernel_rfl) ?_ _
      go_end0
      exact ⟨rfl, F1, F2⟩

theorem kept_setRow {S : Nat → Prop} {a w : World} {b : Nat} (h : Kept S a w) (hb : ¬ S b) (c : Array Value) : Kept S a (w.setRow b c) :=
  h.trans ⟨rfl, rfl, rfl, by rw [setRow_size]; exact Nat.le_refl _, fun k hk => setRow_other w b k c (fun e => hb (e ▸ hk))⟩
theorem owns_offRow {w : World} {base : Nat} {e : TypeId} {size n c : Nat} {a : Option Addr} {xs : List Value} (h : w.ownsRow base e size (.slice a n c) n xs) {b : Nat} (hne : obk a ≠ some b) (cs : Array Value) : (w.setRow b cs).ownsRow base e size (.slice a n c) n xs := by
  obtain ⟨h1, h2⟩ := h
  refine ⟨h1, ?_⟩
  rcases h2 with h2 | ⟨g, cap, cur, hv, hg, hh, r⟩
  · exact .inl h2
  · injection hv with e1 _ e3
    subst e1 e3
    refine .inr ⟨g, c, cur, rfl, hg, ?_, r⟩
    rw [setRow_other w b g cs (fun x => hne (by show some g = some b; rw [x]))]
    exact hh

set_option maxHeartbeats 2000000 in
theorem pop_any (f : Nat → Bool) (L : List (Nat → Bool)) (base B : Nat) (aS : Option Addr) (cS : Nat) (w : World) (hL : L.length ≤ 24) (h : StkA w base B aS cS (L ++ [f])) :
    Calls Tryz.prog 93 #[.pointer (some ⟨B, 0, none⟩)] w fun e w' => e = .returned (.agg (cellsP f)) ∧ StkA w' base B aS cS L ∧ Kept (fun k => k ≠ B ∧ k < w.heap.size) w w' := by
  obtain ⟨hz, hsz⟩ := zero_of_info Tryz.infoPS
  clear hsz
  obtain ⟨hB, hap, hblk, hrow⟩ := h
  rw [List.length_append] at hblk hrow
  have hcap := owns_cap hrow
  obtain ⟨g, cx, hv, _, hg2⟩ := hrow.form (by simp)
  injection hv with e1 _ e3
  subst e1 e3
  have hgB : g ≠ B := fun e => hap (by show some g = some B; rw [e])
  have hgl : g < w.heap.size := hg2
  have hBl := hblk.lt
  have RO : Hid (w.ownsRow base 134 256 (.slice (some ⟨g, 0, none⟩) (L.length + 1) cS) (L.length + 1) (cellsS L ++ cellsPL f)) := by
    show World.ownsRow _ _ _ _ _ _ _
    rw [← cellsS_snoc]; exact hrow
  have RG : Hid ((w.alloc (.cells (cellsP fun x => false) 134)).rangeAt g (L.length * 256) (cellsPL f)) := by
    intro j v hj
    have hj2 : j < 256 := by have := (List.getElem?_eq_some_iff.1 hj).1; rw [cellsPL_len] at this; exact this
    have := (RO.out.alloc (.cells (cellsP fun x => false) 134)).cellAt (L.length * 256 + j) (by omega)
    rw [this, List.getElem?_append_right (by rw [cellsS_len]; omega), cellsS_len]
    have e : L.length * 256 + j - L.length * 256 = j := by omega
    rw [e]; exact hj
  have X2 : Hid (Blk ((w.alloc (.cells (cellsP fun x => false) 134)).alloc (.cells (cellsP fun x => false) 134)) (w.heap.size + 1) (cellsP fun x => false) 134) := Blk.new_at (by simp) _ _
  have R2 : Hid (Blk ((w.alloc (.cells (cellsP fun x => false) 134)).alloc (.cells (cellsP fun x => false) 134)) w.heap.size (cellsP fun x => false) 134) := (Blk.new _ _ _).alloc _
  have K2 : Hid (Blk ((w.alloc (.cells (cellsP fun x => false) 134)).alloc (.cells (cellsP fun x => false) 134)) B #[.slice (some ⟨g, 0, none⟩) (L.length + 1) cS] 132) := (hblk.alloc _).alloc _
  have O2 : Hid (((w.alloc (.cells (cellsP fun x => false) 134)).alloc (.cells (cellsP fun x => false) 134)).ownsRow base 134 256 (.slice (some ⟨g, 0, none⟩) (L.length + 1) cS) (L.length + 1) (cellsS L ++ cellsPL f)) := (RO.out.alloc _).alloc _
  have E2 : Hid (Kept (fun k => k ≠ B ∧ k < w.heap.size) w ((w.alloc (.cells (cellsP fun x => false) 134)).alloc (.cells (cellsP fun x => false) 134))) := ((Kept.refl _ _).alloc (fun k hk => hk.2) _).alloc (fun k hk => by have := hk.2; simp; omega) _
  have X3 : Hid (Blk (((w.alloc (.cells (cellsP fun x => false) 134)).alloc (.cells (cellsP fun x => false) 134)).setRow (w.heap.size + 1) (cellsPL f).toArray) (w.heap.size + 1) (cellsPL f).toArray 134) := X2.out.setRow _
  have R3 : Hid (Blk (((w.alloc (.cells (cellsP fun x => false) 134)).alloc (.cells (cellsP fun x => false) 134)).setRow (w.heap.size + 1) (cellsPL f).toArray) w.heap.size (cellsP fun x => false) 134) := R2.out.offRow _ (by omega)
  have K3 : Hid (Blk (((w.alloc (.cells (cellsP fun x => false) 134)).alloc (.cells (cellsP fun x => false) 134)).setRow (w.heap.size + 1) (cellsPL f).toArray) B #[.slice (some ⟨g, 0, none⟩) (L.length + 1) cS] 132) := K2.out.offRow _ (by omega)
  have O3 : Hid ((((w.alloc (.cells (cellsP fun x => false) 134)).alloc (.cells (cellsP fun x => false) 134)).setRow (w.heap.size + 1) (cellsPL f).toArray).ownsRow base 134 256 (.slice (some ⟨g, 0, none⟩) (L.length + 1) cS) (L.length + 1) (cellsS L ++ cellsPL f)) := owns_offRow O2.out (by show some g ≠ some _; simp; omega) _
  have E3 : Hid (Kept (fun k => k ≠ B ∧ k < w.heap.size) w (((w.alloc (.cells (cellsP fun x => false) 134)).alloc (.cells (cellsP fun x => false) 134)).setRow (w.heap.size + 1) (cellsPL f).toArray)) := kept_setRow E2.out (fun hk => by omega) _
  have x0 : w.cell? ⟨B, 0, none⟩ = some (.slice (some ⟨g, 0, none⟩) (L.length + 1) cS) := hblk.cell 0
  have hlc : (L.length + 1 : Nat) ≤ cS := by simpa using hcap.1
  have hcl : cS ≤ maxLen := hcap.2
  unfold maxLen at hcl
  have hI0 : (0 : Int) ≤ (L.length : Int) := by omega
  have hI1 : (L.length : Int) < ((L.length : Int) + 1) := by omega
  clear hblk hrow
  clear hcap
  go_enter Tryz.func93, Tryz.ntmps93
  go_wp2_with (first
    | (refine wpList_load_mid rfl 134 (.tmp 19) rfl g (L.length * 256) rfl (cellsPL f) _ RG.out Tryz.underlying134 rfl (sizePL f) ?_)
    | (refine wpList_store_row rfl 134 (.tmp 4) (.tmp 20) rfl (w.heap.size + 1) (cellsPL f).toArray rfl rfl 134 _ X2.out (sizePS f) (by rw [cellsP_size]; simp [cellsPL]) (cellsP_one f) ?_; clear RG X2 R2 K2 O2 E2 RO x0; generalize ((w.alloc (.cells (cellsP fun x => false) 134)).alloc (.cells (cellsP fun x => false) 134)).setRow (w.heap.size + 1) (cellsPL f).toArray = V at X3 R3 K3 O3 E3 ⊢; have y0 : V.cell? ⟨B, 0, none⟩ = some (.slice (some ⟨g, 0, none⟩) (L.length + 1) cS) := K3.out.cell 0; have q0 := K3.out.froz 0; have zV := K3.out.lt; have X4 : Hid (Blk (V.setCell ⟨B, 0, none⟩ (.slice (some ⟨g, 0, none⟩) L.length cS)) (w.heap.size + 1) (cellsPL f).toArray 134) := X3.out.far _ _ (by show w.heap.size + 1 ≠ B; omega); have R4 : Hid (Blk (V.setCell ⟨B, 0, none⟩ (.slice (some ⟨g, 0, none⟩) L.length cS)) w.heap.size (cellsP fun x => false) 134) := R3.out.far _ _ (by show w.heap.size ≠ B; omega))
    | (refine wpList_load_row rfl 134 (.tmp 4) rfl (w.heap.size + 1) rfl 134 (cellsPL f).toArray (0, 0) _ X4.out Tryz.underlying134 rfl (sizePS f) ?_)
    | (refine wpList_store_row rfl 134 (.tmp 2) (.tmp 30) rfl w.heap.size (cellsPL f).toArray rfl rfl 134 _ R4.out (sizePS f) (by rw [cellsP_size]; simp [cellsPL]) (cellsP_one f) ?_))
  refine bodyPost_ret (v := .agg (cellsPL f).toArray) (results_cell_row rfl _ _ w.heap.size 134 (cellsPL f).toArray (0, 0) _ rfl (R4.out.setRow _) Tryz.underlying134 rfl (sizePS f)) rfl ⟨rfl, ⟨hB, hap, ?_, ?_⟩, ?_⟩
  · have := (K3.out.set 0 (.slice (some ⟨g, 0, none⟩) L.length cS)).offRow (b' := w.heap.size) (cellsPL f).toArray (by omega)
    simpa using this
  · exact owns_offRow (owns_far (owns_pop O3.out (cellsS_len L)) (by show some g ≠ some B; simpa using hgB) _) (by show some g ≠ some _; simp; omega) _
  · exact kept_setRow (E3.out.setCell (p := ⟨B, 0, none⟩) (fun hk => hk.1 rfl) _) (fun hk => by omega) _
end Go.Proofs.YtdlldljgogbiaabGreat
namespace Go.Proofs.YtdlldljgogbiaabGreat

/-- the letters of a word that a part has -/
def Flow.part : List Nat → Nat → List Nat
  | [], _ => []
  | c :: w, p => if p % 2 = 1 then c :: Flow.part w (p / 2) else Flow.part w (p / 2)
theorem part_odd {c p : Nat} {w : List Nat} (h : p % 2 = 1) : Flow.part (c :: w) p = c :: Flow.part w (p / 2) := by
  show (if p % 2 = 1 then _ else _) = _; rw [if_pos h]
theorem part_even {c p : Nat} {w : List Nat} (h : p % 2 = 0) : Flow.part (c :: w) p = Flow.part w (p / 2) := by
  show (if p % 2 = 1 then _ else _) = _; rw [if_neg (by omega)]
theorem part_zero (w : List Nat) : Flow.part w 0 = [] := by
  induction w with
  | nil => rfl
  | cons c w ih => rw [part_even (by omega)]; exact ih
theorem part_all (w : List Nat) : Flow.part w (2 ^ w.length - 1) = w := by
  induction w with
  | nil => rfl
  | cons c w ih =>
    have h1 := Nat.one_le_two_pow (n := w.length)
    have e : 2 ^ (c :: w).length = 2 * 2 ^ w.length := by rw [List.length_cons, Nat.pow_succ]; omega
    rw [e, part_odd (by omega)]
    have e2 : (2 * 2 ^ w.length - 1) / 2 = 2 ^ w.length - 1 := by omega
    rw [e2, ih]
theorem part_nil {w : List Nat} {p : Nat} (hp : p < 2 ^ w.length) (h : Flow.part w p = []) : p = 0 := by
  induction w generalizing p with
  | nil => simpa using hp
  | cons c w ih =>
    have e : 2 ^ (c :: w).length = 2 * 2 ^ w.length := by rw [List.length_cons, Nat.pow_succ]; omega
    rw [e] at hp
    rcases Nat.mod_two_eq_zero_or_one p with g | g
    · rw [part_even g] at h
      have := ih (by omega) h
      omega
    · rw [part_odd g] at h; cases h
theorem mod_step (p k : Nat) : p % 2 ^ (k + 1) = p % 2 + 2 * (p / 2 % 2 ^ k) := by
  rw [Nat.pow_succ, Nat.mul_comm, Nat.mod_mul]
theorem part_split (w : List Nat) (p k : Nat) : Flow.part w p = Flow.part w (p % 2 ^ k) ++ Flow.part w (p - p % 2 ^ k) := by
  induction w generalizing p k with
  | nil => rfl
  | cons c w ih =>
    cases k with
    | zero => rw [Nat.pow_zero, Nat.mod_one, part_zero, Nat.sub_zero]; rfl
    | succ k =>
      have hm := mod_step p k
      have hl := Nat.mod_le (p / 2) (2 ^ k)
      have ih' := ih (p / 2) k
      generalize p / 2 % 2 ^ k = r at hm hl ih'
      rw [hm]
      have e1 : (p % 2 + 2 * r) / 2 = r := by omega
      have e2 : (p - (p % 2 + 2 * r)) / 2 = p / 2 - r := by omega
      have e3 : (p - (p % 2 + 2 * r)) % 2 = 0 := by omega
      rw [part_even e3, e2]
      rcases Nat.mod_two_eq_zero_or_one p with g | g
      · rw [part_even g, part_even (p := p % 2 + 2 * r) (by omega), e1]; exact ih'
      · rw [part_odd g, part_odd (p := p % 2 + 2 * r) (by omega), e1, ih']; rfl
theorem part_cut {w : List Nat} {p : Nat} {u v : List Nat} (h : Flow.part w p = u ++ v) : ∃ k, k ≤ w.length ∧ u = Flow.part w (p % 2 ^ k) ∧ v = Flow.part w (p - p % 2 ^ k) := by
  induction w generalizing p u v with
  | nil =>
    have h' : u ++ v = [] := h.symm
    obtain ⟨rfl, rfl⟩ := List.append_eq_nil_iff.1 h'
    exact ⟨0, Nat.le_refl _, rfl, rfl⟩
  | cons c w ih =>
    have key : ∀ u', Flow.part w (p / 2) = u' ++ v → ∃ k, k ≤ (c :: w).length ∧ (if p % 2 = 1 then c :: u' else u') = Flow.part (c :: w) (p % 2 ^ k) ∧ v = Flow.part (c :: w) (p - p % 2 ^ k) := by
      intro u' h'
      obtain ⟨k, hk, h1, h2⟩ := ih h'
      refine ⟨k + 1, by simp; omega, ?_⟩
      have hm := mod_step p k
      have hl := Nat.mod_le (p / 2) (2 ^ k)
      generalize p / 2 % 2 ^ k = r at hm hl h1 h2
      rw [hm]
      have e1 : (p % 2 + 2 * r) / 2 = r := by omega
      have e2 : (p - (p % 2 + 2 * r)) / 2 = p / 2 - r := by omega
      have e3 : (p - (p % 2 + 2 * r)) % 2 = 0 := by omega
      rw [part_even e3, e2]
      refine ⟨?_, h2⟩
      rcases Nat.mod_two_eq_zero_or_one p with g | g
      · rw [if_neg (by omega), part_even (p := p % 2 + 2 * r) (by omega), e1]; exact h1
      · rw [if_pos g, part_odd (p := p % 2 + 2 * r) (by omega), e1, h1]
    rcases Nat.mod_two_eq_zero_or_one p with g | g
    · rw [part_even g] at h
      have := key u h
      rw [if_neg (by omega)] at this
      exact this
    · cases u with
      | nil => exact ⟨0, Nat.zero_le _, by rw [Nat.pow_zero, Nat.mod_one, part_zero], by rw [Nat.pow_zero, Nat.mod_one, Nat.sub_zero]; exact h.symm⟩
      | cons d u' =>
        rw [part_odd g] at h
        injection h with h1 h2
        subst h1
        have := key u' h2
        rw [if_pos g] at this
        exact this
theorem part_one {w : List Nat} {p c : Nat} (hp : p < 2 ^ w.length) : Flow.part w p = [c] ↔ ∃ a, a < w.length ∧ p = 2 ^ a ∧ w[a]? = some c := by
  induction w generalizing p with
  | nil =>
    constructor
    · intro h; cases h
    · rintro ⟨a, h, _⟩; cases h
  | cons d w ih =>
    have e : 2 ^ (d :: w).length = 2 * 2 ^ w.length := by rw [List.length_cons, Nat.pow_succ]; omega
    rw [e] at hp
    rcases Nat.mod_two_eq_zero_or_one p with g | g
    · rw [part_even g, ih (by omega)]
      constructor
      · rintro ⟨a, h1, h2, h3⟩
        exact ⟨a + 1, by simp; omega, by rw [Nat.pow_succ]; omega, by simpa using h3⟩
      · rintro ⟨a, h1, h2, h3⟩
        cases a with
        | zero => rw [Nat.pow_zero] at h2; omega
        | succ a => exact ⟨a, by simpa using h1, by rw [Nat.pow_succ] at h2; omega, by simpa using h3⟩
    · rw [part_odd g]
      constructor
      · intro h
        injection h with h1 h2
        have := part_nil (by omega) h2
        exact ⟨0, by simp, by rw [Nat.pow_zero]; omega, by simp [h1]⟩
      · rintro ⟨a, h1, h2, h3⟩
        cases a with
        | zero =>
          rw [Nat.pow_zero] at h2
          subst h2
          simp at h3
          subst h3
          show _ :: Flow.part w 0 = _
          rw [part_zero]
        | succ a => rw [Nat.pow_succ] at h2; omega
theorem and_step (p q : Nat) : (p &&& q) % 2 = (p % 2) * (q % 2) ∧ (p &&& q) / 2 = p / 2 &&& q / 2 := by
  refine ⟨?_, Nat.and_div_two⟩
  have h := @Nat.and_mod_two_pow p q 1
  rw [Nat.pow_one] at h
  rw [h]
  rcases Nat.mod_two_eq_zero_or_one p with g | g <;> rcases Nat.mod_two_eq_zero_or_one q with g' | g' <;> rw [g, g'] <;> rfl
theorem part_mix {w : List Nat} {p : Nat} {u v : List Nat} : Flow.Mix (Flow.part w p) u v ↔ ∃ q, q ≤ p ∧ u = Flow.part w (p &&& q) ∧ v = Flow.part w (p - (p &&& q)) := by
  induction w generalizing p u v with
  | nil =>
    constructor
    · rintro ⟨rfl, rfl⟩; exact ⟨0, Nat.zero_le _, rfl, rfl⟩
    · rintro ⟨q, _, rfl, rfl⟩; exact ⟨rfl, rfl⟩
  | cons c w ih =>
    have up : ∀ (q' b : Nat), b ≤ 1 → ((p &&& (2 * q' + b)) % 2 = p % 2 * b) ∧ (p &&& (2 * q' + b)) / 2 = (p / 2 &&& q') := by
      intro q' b hb
      obtain ⟨h1, h2⟩ := and_step p (2 * q' + b)
      have e1 : (2 * q' + b) % 2 = b := by omega
      have e2 : (2 * q' + b) / 2 = q' := by omega
      rw [e1] at h1
      rw [e2] at h2
      exact ⟨h1, h2⟩
    rcases Nat.mod_two_eq_zero_or_one p with g | g
    · rw [part_even g, ih]
      constructor
      · rintro ⟨q, h1, h2, h3⟩
        obtain ⟨m1, m2⟩ := up q 0 (by omega)
        have hle : p / 2 &&& q ≤ p / 2 := Nat.and_le_left
        refine ⟨2 * q + 0, by omega, ?_, ?_⟩
        · rw [part_even (by omega), m2]; exact h2
        · have e1 : (p - (p &&& (2 * q + 0))) % 2 = 0 := by omega
          have e2 : (p - (p &&& (2 * q + 0))) / 2 = p / 2 - (p / 2 &&& q) := by omega
          rw [part_even e1, e2]; exact h3
      · rintro ⟨q, h1, h2, h3⟩
        obtain ⟨m1, m2⟩ := and_step p q
        rw [g, Nat.zero_mul] at m1
        have hle : p / 2 &&& q / 2 ≤ p / 2 := Nat.and_le_left
        refine ⟨q / 2, by omega, ?_, ?_⟩
        · rw [part_even m1, m2] at h2; exact h2
        · have e1 : (p - (p &&& q)) % 2 = 0 := by omega
          have e2 : (p - (p &&& q)) / 2 = p / 2 - (p / 2 &&& q / 2) := by omega
          rw [part_even e1, e2] at h3; exact h3
    · rw [part_odd g]
      constructor
      · rintro (⟨u', rfl, hm⟩ | ⟨v', rfl, hm⟩)
        · obtain ⟨q, h1, h2, h3⟩ := ih.1 hm
          obtain ⟨m1, m2⟩ := up q 1 (by omega)
          rw [g] at m1
          have hle : p / 2 &&& q ≤ p / 2 := Nat.and_le_left
          refine ⟨2 * q + 1, by omega, ?_, ?_⟩
          · rw [part_odd (by omega), m2, ← h2]
          · have e1 : (p - (p &&& (2 * q + 1))) % 2 = 0 := by omega
            have e2 : (p - (p &&& (2 * q + 1))) / 2 = p / 2 - (p / 2 &&& q) := by omega
            rw [part_even e1, e2]; exact h3
        · obtain ⟨q, h1, h2, h3⟩ := ih.1 hm
          obtain ⟨m1, m2⟩ := up q 0 (by omega)
          have hle : p / 2 &&& q ≤ p / 2 := Nat.and_le_left
          refine ⟨2 * q + 0, by omega, ?_, ?_⟩
          · rw [part_even (by omega), m2]; exact h2
          · have e1 : (p - (p &&& (2 * q + 0))) % 2 = 1 := by omega
            have e2 : (p - (p &&& (2 * q + 0))) / 2 = p / 2 - (p / 2 &&& q) := by omega
            rw [part_odd e1, e2, ← h3]
      · rintro ⟨q, h1, h2, h3⟩
        obtain ⟨m1, m2⟩ := and_step p q
        have hle : p / 2 &&& q / 2 ≤ p / 2 := Nat.and_le_left
        rcases Nat.mod_two_eq_zero_or_one q with g' | g'
        · right
          rw [g, g'] at m1
          have e1 : (p - (p &&& q)) % 2 = 1 := by omega
          have e2 : (p - (p &&& q)) / 2 = p / 2 - (p / 2 &&& q / 2) := by omega
          rw [part_odd e1, e2] at h3
          rw [part_even (by omega), m2] at h2
          exact ⟨_, h3, ih.2 ⟨q / 2, by omega, h2, rfl⟩⟩
        · left
          rw [g, g'] at m1
          have e1 : (p - (p &&& q)) % 2 = 0 := by omega
          have e2 : (p - (p &&& q)) / 2 = p / 2 - (p / 2 &&& q / 2) := by omega
          rw [part_even e1, e2] at h3
          rw [part_odd (by omega), m2] at h2
          exact ⟨_, h2, ih.2 ⟨q / 2, by omega, rfl, h3⟩⟩

/-- the set has just the parts whose letters are a word of Lg -/
def SetIs (wd : List Nat) (f : Nat → Bool) (Lg : List Nat → Prop) : Prop := ∀ p, p < 2 ^ wd.length → (f p = true ↔ Lg (Flow.part wd p))
theorem set_seq {wd : List Nat} {f g h : Nat → Bool} {A B : List Nat → Prop} (hf : SetIs wd f A) (hg : SetIs wd g B) (hh : ∀ p, p < 2 ^ wd.length → h p = anyTo (rowTest f g p) (wd.length + 1)) : SetIs wd h (fun x => ∃ u v, x = u ++ v ∧ A u ∧ B v) := by
  intro p hp
  rw [hh p hp, anyTo_iff]
  constructor
  · rintro ⟨k, _, hk⟩
    unfold rowTest at hk
    rw [Bool.and_eq_true] at hk
    have h1 := Nat.mod_le p (2 ^ k)
    exact ⟨_, _, part_split wd p k, (hf _ (by omega)).1 hk.1, (hg _ (by omega)).1 hk.2⟩
  · rintro ⟨u, v, he, h1, h2⟩
    obtain ⟨k, hk, rfl, rfl⟩ := part_cut he
    have h3 := Nat.mod_le p (2 ^ k)
    refine ⟨k, by omega, ?_⟩
    unfold rowTest
    rw [Bool.and_eq_true]
    exact ⟨(hf _ (by omega)).2 h1, (hg _ (by omega)).2 h2⟩
theorem set_par {wd : List Nat} {f g h : Nat → Bool} {A B : List Nat → Prop} (hf : SetIs wd f A) (hg : SetIs wd g B) (hh : ∀ p, p < 2 ^ wd.length → h p = anyTo (sideTest f g p) (p + 1)) : SetIs wd h (fun x => ∃ u v, Flow.Mix x u v ∧ A u ∧ B v) := by
  intro p hp
  rw [hh p hp, anyTo_iff]
  constructor
  · rintro ⟨k, hk', hk⟩
    unfold sideTest at hk
    rw [Bool.and_eq_true] at hk
    have h1 : p &&& k ≤ p := Nat.and_le_left
    exact ⟨_, _, part_mix.2 ⟨k, by omega, rfl, rfl⟩, (hf _ (by omega)).1 hk.1, (hg _ (by omega)).1 hk.2⟩
  · rintro ⟨u, v, he, h1, h2⟩
    obtain ⟨q, hq, rfl, rfl⟩ := part_mix.1 he
    have h3 : p &&& q ≤ p := Nat.and_le_left
    refine ⟨q, by omega, ?_⟩
    unfold sideTest
    rw [Bool.and_eq_true]
    exact ⟨(hf _ (by omega)).2 h1, (hg _ (by omega)).2 h2⟩
theorem set_alt {wd : List Nat} {f g h : Nat → Bool} {A B : List Nat → Prop} (hf : SetIs wd f A) (hg : SetIs wd g B) (hh : ∀ p, p < 2 ^ wd.length → h p = (f p || g p)) : SetIs wd h (fun x => A x ∨ B x) := by
  intro p hp
  rw [hh p hp, Bool.or_eq_true, hf p hp, hg p hp]
theorem set_rep {wd : List Nat} {f : Nat → Bool} {A : List Nat → Prop} (hf : SetIs wd f A) : RepIs f wd.length (fun p => Flow.Star A (Flow.part wd p)) := by
  refine ⟨?_, ?_⟩
  · show Flow.Star A (Flow.part wd 0)
    rw [part_zero]; exact Flow.star_iff.2 (.inl rfl)
  · intro p h1 hp
    constructor
    · intro h
      rcases Flow.star_iff.1 h with h | ⟨k, k1, k2, h2, h3⟩
      · have := part_nil hp h; omega
      · obtain ⟨j, hj, e1, e2⟩ := part_cut (List.take_append_drop k (Flow.part wd p)).symm
        rw [e1] at h2
        rw [e2] at h3
        have h4 := Nat.mod_le p (2 ^ j)
        have h0 : p % 2 ^ j ≠ 0 := by
          intro h0
          rw [h0, part_zero] at e1
          have := congrArg List.length e1
          rw [List.length_take, Nat.min_eq_left k2] at this
          simp at this
          omega
        have hj1 : 1 ≤ j := by
          rcases Nat.eq_zero_or_pos j with g | g
          · subst g; rw [Nat.pow_zero, Nat.mod_one] at h0; exact absurd rfl h0
          · exact g
        exact ⟨j, hj1, by omega, h0, (hf _ (by omega)).2 h2, h3⟩
    · rintro ⟨j, j1, j2, h0, hfj, ws, hws, hall⟩
      have h4 := Nat.mod_le p (2 ^ j)
      refine ⟨Flow.part wd (p % 2 ^ j) :: ws, ?_, ?_⟩
      · rw [List.flatten_cons, ← hws]; exact part_split wd p j
      · intro u hu
        rcases List.mem_cons.1 hu with rfl | hu
        · exact (hf _ (by omega)).1 hfj
        · exact hall u hu
theorem set_task {word : ByteArray} {c : Nat} {h : Nat → Bool} (hh : ∀ p, h p = anyTo (taskTest word c p) word.size) : SetIs (Flow.nats word) h (fun x => x = [c]) := by
  intro p hp
  rw [hh p, anyTo_iff]
  show _ ↔ Flow.part (Flow.nats word) p = [c]
  rw [part_one hp, nats_len]
  constructor
  · rintro ⟨j, hj, ht⟩
    unfold taskTest at ht
    rw [Bool.and_eq_true, decide_eq_true_iff, decide_eq_true_iff] at ht
    exact ⟨j, hj, ht.1, by rw [nats_get word hj, ht.2]⟩
  · rintro ⟨j, hj, h1, h2⟩
    rw [nats_get word hj] at h2
    injection h2 with h2
    refine ⟨j, hj, ?_⟩
    unfold taskTest
    rw [Bool.and_eq_true, decide_eq_true_iff, decide_eq_true_iff]
    exact ⟨h1, h2⟩

/-- the sets that lie on the stack, the top first -/
def StackIs (s : ByteArray) (wd : List Nat) : List (Nat → Bool) → List Nat → Prop
  | [], [] => True
  | f :: R, i :: T => SetIs wd f (Flow.Has s i) ∧ StackIs s wd R T
  | _, _ => False
theorem stack_nil {s : ByteArray} {wd : List Nat} {R : List (Nat → Bool)} (h : StackIs s wd R []) : R = [] := by
  cases R with
  | nil => rfl
  | cons f R => exact absurd h id
theorem stack_cons {s : ByteArray} {wd : List Nat} {R : List (Nat → Bool)} {i : Nat} {T : List Nat} (h : StackIs s wd R (i :: T)) : ∃ f R', R = f :: R' ∧ SetIs wd f (Flow.Has s i) ∧ StackIs s wd R' T := by
  cases R with
  | nil => exact absurd h id
  | cons f R => exact ⟨f, R, rfl, h.1, h.2⟩
end Go.Proofs.YtdlldljgogbiaabGreat
namespace Go.Proofs.YtdlldljgogbiaabGreat
open Go.RowKit
set_option linter.unusedVariables false
set_option maxRecDepth 40000

theorem has_set {s : ByteArray} {wd : List Nat} {i : Nat} {h : Nat → Bool} {Lg : List Nat → Prop} (hl : ∀ x, Flow.Has s i x ↔ Lg x) (hs : SetIs wd h Lg) : SetIs wd h (Flow.Has s i) := fun p hp => by rw [hs p hp, hl]

/-- what read answers -/
def ReadPost2 (s : ByteArray) (wd : List Nat) (i base B : Nat) (w : World) (e : Ending) (w' : World) : Prop :=
  ∃ f R T, e = .returned (.agg (cellsP f)) ∧ SetIs wd f (Flow.Has s i) ∧ StackIs s wd R T ∧ SufAt s i (i :: T) ∧ R.length ≤ 23 ∧ Stk w' base B R.reverse ∧ Below base w w'

theorem StkA.offRow {w : World} {base B b : Nat} {aS : Option Addr} {cS : Nat} {L : List (Nat → Bool)} (h : StkA w base B aS cS L) (h1 : b ≠ B) (h2 : obk aS ≠ some b) (c : Array Value) : StkA (w.setRow b c) base B aS cS L := by
  obtain ⟨g1, g2, g3, g4⟩ := h
  exact ⟨g1, g2, g3.offRow _ (fun x => h1 x.symm), owns_offRow g4 h2 _⟩
/-- a variable that was just made is filled -/
structure Var (w w1 : World) (base B : Nat) (aS : Option Addr) (cS : Nat) (L : List (Nat → Bool)) (N : Nat) : Prop where
  stk : StkA w1 base B aS cS L
  bel : Below base w w1
  res : Blk w1 N (cellsP fun _ => false) 134
  offB : B < N
  offS : ∀ g, obk aS = some g → g < N
  low : base ≤ N
theorem Var.ret {w w1 : World} {base B : Nat} {aS : Option Addr} {cS : Nat} {L : List (Nat → Bool)} {N : Nat} (v : Var w w1 base B aS cS L N) (h : Nat → Bool) : Blk (w1.setRow N (cellsP h)) N (cellsP h) 134 ∧ StkA (w1.setRow N (cellsP h)) base B aS cS L ∧ Below base w (w1.setRow N (cellsP h)) :=
  ⟨v.res.setRow _, v.stk.offRow (by have := v.offB; omega) (fun e => by have := v.offS N e; omega) _, below_setRow v.bel v.low _⟩
theorem Var.below {w w1 w2 : World} {base B : Nat} {aS : Option Addr} {cS : Nat} {L : List (Nat → Bool)} {N : Nat} (v : Var w w1 base B aS cS L N) (hb : Below w1.heap.size w1 w2) : Var w w2 base B aS cS L N :=
  ⟨v.stk.below hb, v.bel.trans (hb.mono (by have := v.res.lt; have := v.low; omega)), v.res.below hb v.res.lt, v.offB, v.offS, v.low⟩
/-- pop, and the variable that it is laid into -/
theorem Var.pop {w w1 w2 : World} {base B : Nat} {aS : Option Addr} {cS : Nat} {L L' : List (Nat → Bool)} {N : Nat} (v : Var w w1 base B aS cS L' N) (hs : StkA w2 base B aS cS L) (hk : Kept (fun k => k ≠ B ∧ k < w1.heap.size) w1 w2) (h : Nat → Bool) :
    Var w ((w2.alloc (.cells (cellsP fun _ => false) 134)).setRow w2.heap.size (cellsP h)) base B aS cS L N ∧ Blk ((w2.alloc (.cells (cellsP fun _ => false) 134)).setRow w2.heap.size (cellsP h)) w2.heap.size (cellsP h) 134 := by
  have hN := v.res.lt
  have hz := hk.size
  have hlow := v.low
  have hoB := v.offB
  refine ⟨⟨(hs.below ((Below.refl _ _).alloc (Nat.le_refl _) _)).offRow (by omega) (fun e => by have := v.offS _ e; omega) _, below_setRow ((v.bel.trans (hk.below (fun k hk => ⟨by have := hs.1; omega, by omega⟩))).alloc (by omega) _) (by omega) _, ((v.res.kept hk ⟨by omega, hN⟩).alloc _).offRow _ (by omega), v.offB, v.offS, v.low⟩, (Blk.new _ _ _).setRow _⟩

theorem pop_keeps {w1 w2 : World} {B Z : Nat} {cs c : Array Value} {ty : TypeId} (hk : Kept (fun k => k ≠ B ∧ k < w1.heap.size) w1 w2) (hz : Blk w1 Z cs ty) (hne : Z ≠ B) : Blk ((w2.alloc (.cells (cellsP fun _ => false) 134)).setRow w2.heap.size c) Z cs ty :=
  ((hz.kept hk ⟨hne, hz.lt⟩).alloc _).offRow _ (by have := hz.lt; have := hk.size; omega)

set_option maxHeartbeats 4000000 in
theorem read_any (s word : ByteArray) (i base B : Nat) (R : List (Nat → Bool)) (T T1 : List Nat) (w : World) (hi : i < s.size) (hw : word.size ≤ 8) (hT : SufAt s i T) (hT1 : SufAt s (i + 1) T1) (hR : StackIs s (Flow.nats word) R T1) (hRl : R.length ≤ 23) (hbase : base ≤ w.heap.size) (hst : Stk w base B R.reverse) :
    Calls Tryz.prog 91 #[.pointer (some ⟨B, 0, none⟩), .int .u8 (Flow.bt s i : Int), .string word, .int .i64 ((2 ^ word.size - 1 : Nat) : Int)] w (ReadPost2 s (Flow.nats word) i base B w) := by
  obtain ⟨hz, hsz⟩ := zero_of_info Tryz.infoPS
  clear hsz
  obtain ⟨aS, cS, hst⟩ := hst
  obtain ⟨T', rfl, hok, hcase⟩ := sufRead hi hT
  have HT : Hid (SufAt s i (i :: T')) := hT
  have hnl := nats_len word
  have V0 : Hid (Var w (w.alloc (.cells (cellsP fun x => false) 134)) base B aS cS R.reverse w.heap.size) := ⟨hst.below ((Below.refl _ _).alloc (Nat.le_refl _) _), (Below.refl _ _).alloc hbase _, Blk.new _ _ _, hst.2.2.1.lt, fun g hg => (owns_lt hst.2.2.2 hg).2, hbase⟩
  have ci : ∀ W, Calls Tryz.prog 85 #[.int .u8 (Flow.bt s i : Int)] W fun e w' => e = .returned (.bool (Flow.isTk (Flow.bt s i))) ∧ W = w' := fun W => (isLetter_any (Flow.bt s i) W).mono fun e w' h => ⟨h.1, h.2.symm⟩
  clear hst
  rcases hcase with ⟨hc, h1⟩ | ⟨hc, h1⟩ | ⟨hc, h1⟩
  · have := suf_unique h1 hT1
    subst this
    rw [hc] at ci
    have ct := fun W => taskParts_any word (Flow.bt s i) W hw
    have HS : Hid (∀ h : Nat → Bool, (∀ p, h p = anyTo (taskTest word (Flow.bt s i) p) word.size) → SetIs (Flow.nats word) h (Flow.Has s i)) := fun h hh => has_set (fun x => Flow.has_task hi hc x) (set_task hh)
    have HR : Hid (StackIs s (Flow.nats word) R T') := hR
    generalize Flow.bt s i = c at ci ct HS
    clear hR hT hT1 h1 hc hok hnl
    go_enter Tryz.func91, Tryz.ntmps91
    go_wp2_with (first
      | (go_at_call 85; refine (ci _).mono ?_; rintro e w' ⟨rfl, rfl⟩)
      | (go_at_call 106; refine (ct _).mono ?_; rintro e w1 ⟨h, rfl, hh, hb⟩; have F1 : Hid (SetIs (Flow.nats word) h (Flow.Has s i)) := HS.out h hh; have V1 : Hid (Var w w1 base B aS cS R.reverse w.heap.size) := V0.out.below hb; clear hh hb)
      | (refine wpList_store_row rfl 134 (.tmp 8) _ rfl w.heap.size (cellsP h) rfl rfl 134 _ V1.out.res (sizePS h) (by rw [cellsP_size, cellsP_size]) (cellsP_one h) ?_))
    obtain ⟨v1, v2, v3⟩ := V1.out.ret h
    exact bodyPost_ret (v := .agg (cellsP h)) (results_cell_row rfl _ _ w.heap.size 134 (cellsP h) (0, 0) _ rfl v1 Tryz.underlying134 rfl (sizePS h)) rfl ⟨h, R, T', rfl, F1.out, HR.out, HT.out, hRl, ⟨aS, cS, v2⟩, v3⟩
  · have := suf_unique h1 hT1
    subst this
    obtain ⟨f, R', rfl, hf, hR'⟩ := stack_cons hR
    rw [List.reverse_cons] at V0
    have hRl' : R'.length ≤ 22 := by simp at hRl; omega
    have cp := fun W hs => pop_any f R'.reverse base B aS cS W (by simp; omega) hs
    have cr := fun W => repeatedParts_any f word.size (fun p => Flow.Star (Flow.Has s (i + 1)) (Flow.part (Flow.nats word) p)) W hw (by have := set_rep hf; rw [hnl] at this; exact this)
    have hno : Flow.isTk (Flow.bt s i) = false := by have := Flow.isTk_no (.inl hc); simpa using this
    rw [hno] at ci
    have HS : Hid (∀ h : Nat → Bool, (∀ p, p < 2 ^ word.size → (h p = true ↔ Flow.Star (Flow.Has s (i + 1)) (Flow.part (Flow.nats word) p))) → SetIs (Flow.nats word) h (Flow.Has s i)) := fun h hh => has_set (fun x => Flow.has_star hi hc x) (fun p hp => hh p (by rw [hnl] at hp; exact hp))
    have HR : Hid (StackIs s (Flow.nats word) R' T') := hR'
    rw [hc] at ci ⊢
    generalize 2 ^ word.size - 1 = W8 at cr ⊢
    clear hR hT hT1 h1 hc hok hnl hf hR' hno
    go_enter Tryz.func91, Tryz.ntmps91
    go_wp2_with (first
      | (go_at_call 85; refine (ci _).mono ?_; rintro e w' ⟨rfl, rfl⟩)
      | (go_at_call 93; refine (cp _ V0.out.stk).mono ?_; rintro e w1 ⟨rfl, hs, hk⟩; obtain ⟨hv, hx⟩ := V0.out.pop hs hk f; have V1 : Hid (Var w ((w1.alloc (.cells (cellsP fun _ => false) 134)).setRow w1.heap.size (cellsP f)) base B aS cS R'.reverse w.heap.size) := hv; have X1 : Hid (Blk ((w1.alloc (.cells (cellsP fun _ => false) 134)).setRow w1.heap.size (cellsP f)) w1.heap.size (cellsP f) 134) := hx; have Y1 : Hid (Blk (w1.alloc (.cells (cellsP fun _ => false) 134)) w1.heap.size (cellsP fun _ => false) 134) := Blk.new _ _ _; clear hs hk hv hx)
      | (refine wpList_store_row rfl 134 (.tmp 9) _ rfl w1.heap.size (cellsP f) rfl rfl 134 _ Y1.out (sizePS f) (by rw [cellsP_size, cellsP_size]) (cellsP_one f) ?_; clear Y1; generalize (w1.alloc (.cells (cellsP fun _ => false) 134)).setRow w1.heap.size (cellsP f) = U at V1 X1 ⊢; generalize w1.heap.size = X at X1 ⊢)
      | (refine wpList_load_row rfl 134 (.tmp 9) rfl X rfl 134 (cellsP f) (0, 0) _ X1.out Tryz.underlying134 rfl (sizePS f) ?_)
      | (go_at_call 107; refine (cr _).mono ?_; rintro e w3 ⟨h, rfl, hh, hb⟩; have F1 : Hid (SetIs (Flow.nats word) h (Flow.Has s i)) := HS.out h hh; have V2 : Hid (Var w w3 base B aS cS R'.reverse w.heap.size) := V1.out.below hb; clear hh hb)
      | (refine wpList_store_row rfl 134 (.tmp 8) _ rfl w.heap.size (cellsP h) rfl rfl 134 _ V2.out.res (sizePS h) (by rw [cellsP_size, cellsP_size]) (cellsP_one h) ?_))
    obtain ⟨v1, v2, v3⟩ := V2.out.ret h
    exact bodyPost_ret (v := .agg (cellsP h)) (results_cell_row rfl _ _ w.heap.size 134 (cellsP h) (0, 0) _ rfl v1 Tryz.underlying134 rfl (sizePS h)) rfl ⟨h, R', T', rfl, F1.out, HR.out, HT.out, by omega, ⟨aS, cS, v2⟩, v3⟩
  · have := suf_unique h1 hT1
    subst this
    obtain ⟨f, R1, rfl, hf, hR1⟩ := stack_cons hR
    obtain ⟨g, R', rfl, hg, hR'⟩ := stack_cons hR1
    rw [List.reverse_cons, List.reverse_cons] at V0
    have hRl' : R'.length ≤ 21 := by simp at hRl; omega
    have cp := fun W hs => pop_any f (R'.reverse ++ [g]) base B aS cS W (by simp; omega) hs
    have cq := fun W hs => pop_any g R'.reverse base B aS cS W (by simp; omega) hs
    have hno : Flow.isTk (Flow.bt s i) = false := by have := Flow.isTk_no (.inr hc); simpa using this
    rw [hno] at ci
    have HR : Hid (StackIs s (Flow.nats word) R' T') := hR'
    have h256 := pow_le8 hw
    have h1p := Nat.one_le_two_pow (n := word.size)
    rcases hc with hc | hc | hc
    · have cr := fun W => rowParts_any f g word.size W hw
      have HS : Hid (∀ h : Nat → Bool, (∀ p, p < 2 ^ word.size → h p = anyTo (rowTest f g p) (word.size + 1)) → SetIs (Flow.nats word) h (Flow.Has s i)) := fun h hh => has_set (fun x => Flow.has_seq hi hc x) (set_seq hf hg (by rw [hnl]; exact hh))
      rw [hc] at ci ⊢
      generalize 2 ^ word.size - 1 = W8 at cr ⊢
      clear hR hT hT1 h1 hc hok hnl hf hg hR1 hR' hno h256 h1p

      go_enter Tryz.func91, Tryz.ntmps91
      go_wp2_with (first
        | (go_at_call 85; refine (ci _).mono ?_; rintro e w' ⟨rfl, rfl⟩)
        | (go_at_call 93; refine (cp _ V0.out.stk).mono ?_; rintro e w1 ⟨rfl, hs, hk⟩; obtain ⟨hv, hx⟩ := V0.out.pop hs hk f; have V1 : Hid (Var w ((w1.alloc (.cells (cellsP fun _ => false) 134)).setRow w1.heap.size (cellsP f)) base B aS cS (R'.reverse ++ [g]) w.heap.size) := hv; have X1 : Hid (Blk ((w1.alloc (.cells (cellsP fun _ => false) 134)).setRow w1.heap.size (cellsP f)) w1.heap.size (cellsP f) 134) := hx; have Y1 : Hid (Blk (w1.alloc (.cells (cellsP fun _ => false) 134)) w1.heap.size (cellsP fun _ => false) 134) := Blk.new _ _ _; have NE : Hid (w1.heap.size ≠ B) := (by have h1 := hk.size; have h2 := V0.out.offB; have h3 := V0.out.res.lt; show _ ≠ _; omega); clear hs hk hv hx V0)
        | (refine wpList_store_row rfl 134 (.tmp 9) _ rfl w1.heap.size (cellsP f) rfl rfl 134 _ Y1.out (sizePS f) (by rw [cellsP_size, cellsP_size]) (cellsP_one f) ?_; clear Y1; generalize (w1.alloc (.cells (cellsP fun _ => false) 134)).setRow w1.heap.size (cellsP f) = U at V1 X1 ⊢; generalize w1.heap.size = X at X1 NE ⊢)
        | (go_at_call 93; refine (cq _ V1.out.stk).mono ?_; rintro e w2 ⟨rfl, hs, hk⟩; obtain ⟨hv, hx⟩ := V1.out.pop hs hk g; have V2 : Hid (Var w ((w2.alloc (.cells (cellsP fun _ => false) 134)).setRow w2.heap.size (cellsP g)) base B aS cS R'.reverse w.heap.size) := hv; have X2 : Hid (Blk ((w2.alloc (.cells (cellsP fun _ => false) 134)).setRow w2.heap.size (cellsP g)) X (cellsP f) 134) := pop_keeps hk X1.out NE.out; have Z2 : Hid (Blk ((w2.alloc (.cells (cellsP fun _ => false) 134)).setRow w2.heap.size (cellsP g)) w2.heap.size (cellsP g) 134) := hx; have Y2 : Hid (Blk (w2.alloc (.cells (cellsP fun _ => false) 134)) w2.heap.size (cellsP fun _ => false) 134) := Blk.new _ _ _; clear hs hk hv hx V1)
        | (refine wpList_store_row rfl 134 (.tmp 10) _ rfl w2.heap.size (cellsP g) rfl rfl 134 _ Y2.out (sizePS g) (by rw [cellsP_size, cellsP_size]) (cellsP_one g) ?_; clear Y2; generalize (w2.alloc (.cells (cellsP fun _ => false) 134)).setRow w2.heap.size (cellsP g) = U2 at V2 X2 Z2 ⊢; generalize w2.heap.size = Y at Z2 ⊢)
        | (refine wpList_load_row rfl 134 (.tmp 9) rfl X rfl 134 (cellsP f) (0, 0) _ X2.out Tryz.underlying134 rfl (sizePS f) ?_)
        | (refine wpList_load_row rfl 134 (.tmp 10) rfl Y rfl 134 (cellsP g) (0, 0) _ Z2.out Tryz.underlying134 rfl (sizePS g) ?_)
        | (go_at_call 108; refine (cr _).mono ?_; rintro e w3 ⟨h, rfl, hh, hb⟩; have F1 : Hid (SetIs (Flow.nats word) h (Flow.Has s i)) := HS.out h hh; have V3 : Hid (Var w w3 base B aS cS R'.reverse w.heap.size) := V2.out.below hb; clear hh hb)
        | (refine wpList_store_row rfl 134 (.tmp 8) _ rfl w.heap.size (cellsP h) rfl rfl 134 _ V3.out.res (sizePS h) (by rw [cellsP_size, cellsP_size]) (cellsP_one h) ?_))
      obtain ⟨v1, v2, v3⟩ := V3.out.ret h
      exact bodyPost_ret (v := .agg (cellsP h)) (results_cell_row rfl _ _ w.heap.size 134 (cellsP h) (0, 0) _ rfl v1 Tryz.underlying134 rfl (sizePS h)) rfl ⟨h, R', T', rfl, F1.out, HR.out, HT.out, by omega, ⟨aS, cS, v2⟩, v3⟩
    · have cr := fun W => choiceParts_any f g (2 ^ word.size - 1) W (by omega)
      have HS : Hid (∀ h : Nat → Bool, (∀ p, p ≤ 2 ^ word.size - 1 → h p = (f p || g p)) → SetIs (Flow.nats word) h (Flow.Has s i)) := fun h hh => has_set (fun x => Flow.has_alt hi hc x) (set_alt hf hg (fun p hp => hh p (by rw [hnl] at hp; omega)))
      rw [hc] at ci ⊢
      generalize 2 ^ word.size - 1 = W8 at cr HS ⊢
      clear hR hT hT1 h1 hc hok hnl hf hg hR1 hR' hno h256 h1p

      go_enter Tryz.func91, Tryz.ntmps91
      go_wp2_with (first
        | (go_at_call 85; refine (ci _).mono ?_; rintro e w' ⟨rfl, rfl⟩)
        | (go_at_call 93; refine (cp _ V0.out.stk).mono ?_; rintro e w1 ⟨rfl, hs, hk⟩; obtain ⟨hv, hx⟩ := V0.out.pop hs hk f; have V1 : Hid (Var w ((w1.alloc (.cells (cellsP fun _ => false) 134)).setRow w1.heap.size (cellsP f)) base B aS cS (R'.reverse ++ [g]) w.heap.size) := hv; have X1 : Hid (Blk ((w1.alloc (.cells (cellsP fun _ => false) 134)).setRow w1.heap.size (cellsP f)) w1.heap.size (cellsP f) 134) := hx; have Y1 : Hid (Blk (w1.alloc (.cells (cellsP fun _ => false) 134)) w1.heap.size (cellsP fun _ => false) 134) := Blk.new _ _ _; have NE : Hid (w1.heap.size ≠ B) := (by have h1 := hk.size; have h2 := V0.out.offB; have h3 := V0.out.res.lt; show _ ≠ _; omega); clear hs hk hv hx V0)
        | (refine wpList_store_row rfl 134 (.tmp 9) _ rfl w1.heap.size (cellsP f) rfl rfl 134 _ Y1.out (sizePS f) (by rw [cellsP_size, cellsP_size]) (cellsP_one f) ?_; clear Y1; generalize (w1.alloc (.cells (cellsP fun _ => false) 134)).setRow w1.heap.size (cellsP f) = U at V1 X1 ⊢; generalize w1.heap.size = X at X1 NE ⊢)
        | (go_at_call 93; refine (cq _ V1.out.stk).mono ?_; rintro e w2 ⟨rfl, hs, hk⟩; obtain ⟨hv, hx⟩ := V1.out.pop hs hk g; have V2 : Hid (Var w ((w2.alloc (.cells (cellsP fun _ => false) 134)).setRow w2.heap.size (cellsP g)) base B aS cS R'.reverse w.heap.size) := hv; have X2 : Hid (Blk ((w2.alloc (.cells (cellsP fun _ => false) 134)).setRow w2.heap.size (cellsP g)) X (cellsP f) 134) := pop_keeps hk X1.out NE.out; have Z2 : Hid (Blk ((w2.alloc (.cells (cellsP fun _ => false) 134)).setRow w2.heap.size (cellsP g)) w2.heap.size (cellsP g) 134) := hx; have Y2 : Hid (Blk (w2.alloc (.cells (cellsP fun _ => false) 134)) w2.heap.size (cellsP fun _ => false) 134) := Blk.new _ _ _; clear hs hk hv hx V1)
        | (refine wpList_store_row rfl 134 (.tmp 10) _ rfl w2.heap.size (cellsP g) rfl rfl 134 _ Y2.out (sizePS g) (by rw [cellsP_size, cellsP_size]) (cellsP_one g) ?_; clear Y2; generalize (w2.alloc (.cells (cellsP fun _ => false) 134)).setRow w2.heap.size (cellsP g) = U2 at V2 X2 Z2 ⊢; generalize w2.heap.size = Y at Z2 ⊢)
        | (refine wpList_load_row rfl 134 (.tmp 9) rfl X rfl 134 (cellsP f) (0, 0) _ X2.out Tryz.underlying134 rfl (sizePS f) ?_)
        | (refine wpList_load_row rfl 134 (.tmp 10) rfl Y rfl 134 (cellsP g) (0, 0) _ Z2.out Tryz.underlying134 rfl (sizePS g) ?_)
        | (go_at_call 109; refine (cr _).mono ?_; rintro e w3 ⟨h, rfl, hh, hb⟩; have F1 : Hid (SetIs (Flow.nats word) h (Flow.Has s i)) := HS.out h hh; have V3 : Hid (Var w w3 base B aS cS R'.reverse w.heap.size) := V2.out.below hb; clear hh hb)
        | (refine wpList_store_row rfl 134 (.tmp 8) _ rfl w.heap.size (cellsP h) rfl rfl 134 _ V3.out.res (sizePS h) (by rw [cellsP_size, cellsP_size]) (cellsP_one h) ?_))
      obtain ⟨v1, v2, v3⟩ := V3.out.ret h
      exact bodyPost_ret (v := .agg (cellsP h)) (results_cell_row rfl _ _ w.heap.size 134 (cellsP h) (0, 0) _ rfl v1 Tryz.underlying134 rfl (sizePS h)) rfl ⟨h, R', T', rfl, F1.out, HR.out, HT.out, by omega, ⟨aS, cS, v2⟩, v3⟩
    · have cr := fun W => sideParts_any f g (2 ^ word.size - 1) W (by omega)
      have HS : Hid (∀ h : Nat → Bool, (∀ p, p ≤ 2 ^ word.size - 1 → h p = anyTo (sideTest f g p) (p + 1)) → SetIs (Flow.nats word) h (Flow.Has s i)) := fun h hh => has_set (fun x => Flow.has_par hi hc x) (set_par hf hg (fun p hp => hh p (by rw [hnl] at hp; omega)))
      rw [hc] at ci ⊢
      generalize 2 ^ word.size - 1 = W8 at cr HS ⊢
      clear hR hT hT1 h1 hc hok hnl hf hg hR1 hR' hno h256 h1p

      go_enter Tryz.func91, Tryz.ntmps91
      go_wp2_with (first
        | (go_at_call 85; refine (ci _).mono ?_; rintro e w' ⟨rfl, rfl⟩)
        | (go_at_call 93; refine (cp _ V0.out.stk).mono ?_; rintro e w1 ⟨rfl, hs, hk⟩; obtain ⟨hv, hx⟩ := V0.out.pop hs hk f; have V1 : Hid (Var w ((w1.alloc (.cells (cellsP fun _ => false) 134)).setRow w1.heap.size (cellsP f)) base B aS cS (R'.reverse ++ [g]) w.heap.size) := hv; have X1 : Hid (Blk ((w1.alloc (.cells (cellsP fun _ => false) 134)).setRow w1.heap.size (cellsP f)) w1.heap.size (cellsP f) 134) := hx; have Y1 : Hid (Blk (w1.alloc (.cells (cellsP fun _ => false) 134)) w1.heap.size (cellsP fun _ => false) 134) := Blk.new _ _ _; have NE : Hid (w1.heap.size ≠ B) := (by have h1 := hk.size; have h2 := V0.out.offB; have h3 := V0.out.res.lt; show _ ≠ _; omega); clear hs hk hv hx V0)
        | (refine wpList_store_row rfl 134 (.tmp 9) _ rfl w1.heap.size (cellsP f) rfl rfl 134 _ Y1.out (sizePS f) (by rw [cellsP_size, cellsP_size]) (cellsP_one f) ?_; clear Y1; generalize (w1.alloc (.cells (cellsP fun _ => false) 134)).setRow w1.heap.size (cellsP f) = U at V1 X1 ⊢; generalize w1.heap.size = X at X1 NE ⊢)
        | (go_at_call 93; refine (cq _ V1.out.stk).mono ?_; rintro e w2 ⟨rfl, hs, hk⟩; obtain ⟨hv, hx⟩ := V1.out.pop hs hk g; have V2 : Hid (Var w ((w2.alloc (.cells (cellsP fun _ => false) 134)).setRow w2.heap.size (cellsP g)) base B aS cS R'.reverse w.heap.size) := hv; have X2 : Hid (Blk ((w2.alloc (.cells (cellsP fun _ => false) 134)).setRow w2.heap.size (cellsP g)) X (cellsP f) 134) := pop_keeps hk X1.out NE.out; have Z2 : Hid (Blk ((w2.alloc (.cells (cellsP fun _ => false) 134)).setRow w2.heap.size (cellsP g)) w2.heap.size (cellsP g) 134) := hx; have Y2 : Hid (Blk (w2.alloc (.cells (cellsP fun _ => false) 134)) w2.heap.size (cellsP fun _ => false) 134) := Blk.new _ _ _; clear hs hk hv hx V1)
        | (refine wpList_store_row rfl 134 (.tmp 10) _ rfl w2.heap.size (cellsP g) rfl rfl 134 _ Y2.out (sizePS g) (by rw [cellsP_size, cellsP_size]) (cellsP_one g) ?_; clear Y2; generalize (w2.alloc (.cells (cellsP fun _ => false) 134)).setRow w2.heap.size (cellsP g) = U2 at V2 X2 Z2 ⊢; generalize w2.heap.size = Y at Z2 ⊢)
        | (refine wpList_load_row rfl 134 (.tmp 9) rfl X rfl 134 (cellsP f) (0, 0) _ X2.out Tryz.underlying134 rfl (sizePS f) ?_)
        | (refine wpList_load_row rfl 134 (.tmp 10) rfl Y rfl 134 (cellsP g) (0, 0) _ Z2.out Tryz.underlying134 rfl (sizePS g) ?_)
        | (go_at_call 110; refine (cr _).mono ?_; rintro e w3 ⟨h, rfl, hh, hb⟩; have F1 : Hid (SetIs (Flow.nats word) h (Flow.Has s i)) := HS.out h hh; have V3 : Hid (Var w w3 base B aS cS R'.reverse w.heap.size) := V2.out.below hb; clear hh hb)
        | (refine wpList_store_row rfl 134 (.tmp 8) _ rfl w.heap.size (cellsP h) rfl rfl 134 _ V3.out.res (sizePS h) (by rw [cellsP_size, cellsP_size]) (cellsP_one h) ?_))
      obtain ⟨v1, v2, v3⟩ := V3.out.ret h
      exact bodyPost_ret (v := .agg (cellsP h)) (results_cell_row rfl _ _ w.heap.size 134 (cellsP h) (0, 0) _ rfl v1 Tryz.underlying134 rfl (sizePS h)) rfl ⟨h, R', T', rfl, F1.out, HR.out, HT.out, by omega, ⟨aS, cS, v2⟩, v3⟩
end Go.Proofs.YtdlldljgogbiaabGreat
namespace Go.Proofs.YtdlldljgogbiaabGreat
open Go.RowKit
set_option linter.unusedVariables false
set_option maxRecDepth 40000

theorem stack_len {s : ByteArray} {wd : List Nat} {R : List (Nat → Bool)} {T : List Nat} (h : StackIs s wd R T) : R.length = T.length := by
  induction T generalizing R with
  | nil => rw [stack_nil h]; rfl
  | cons i T ih =>
    obtain ⟨f, R', rfl, _, h2⟩ := stack_cons h
    simp [ih h2]
theorem Tryz.infoStk : (Tryz.prog.info? 132).map (fun i => (i.zero, i.size)) = some (some (.agg #[.slice none 0 0]), 1) := by kernel_rfl
/-- a set that was told is laid into a new variable -/
theorem stk_var {w w1 : World} {base B : Nat} {L : List (Nat → Bool)} (h : Stk w1 base B L) (hb : Below base w w1) (hbase : base ≤ w1.heap.size) (f : Nat → Bool) :
    Stk ((w1.alloc (.cells (cellsP fun _ => false) 134)).setRow w1.heap.size (cellsP f)) base B L ∧ Below base w ((w1.alloc (.cells (cellsP fun _ => false) 134)).setRow w1.heap.size (cellsP f)) ∧ Blk ((w1.alloc (.cells (cellsP fun _ => false) 134)).setRow w1.heap.size (cellsP f)) w1.heap.size (cellsP f) 134 := by
  obtain ⟨aS, cS, h⟩ := h
  refine ⟨⟨aS, cS, (h.below ((Below.refl _ _).alloc (Nat.le_refl _) _)).offRow (by have := h.2.2.1.lt; omega) (fun e => by have := (owns_lt h.2.2.2 e).2; omega) _⟩, below_setRow (hb.alloc hbase _) hbase _, (Blk.new _ _ _).setRow _⟩

set_option maxHeartbeats 4000000 in
theorem acceptsWord_any (s word : ByteArray) (w : World) (hs : s.size ≤ 24) (hw : word.size ≤ 8) (hok : (Flow.scan s 0).2.2 = true) (hend : (Flow.scan s 0).1 = s.size) :
    Calls Tryz.prog 56 #[.string s, .string word] w fun e w' => ∃ b, e = .returned (.bool b) ∧ (b = true ↔ Flow.Has s 0 (Flow.nats word)) ∧ Below w.heap.size w w' := by
  obtain ⟨hz, hsz⟩ := zero_of_info Tryz.infoPS
  clear hsz
  have ALL : Hid (∀ a, a ≤ s.size → ∃ T, SufAt s a T) := fun a ha => suf_all (T := []) hok hend a (Nat.zero_le _) (by rw [hend]; exact ha)
  have ONE : Hid (SufAt s 0 [0]) := ⟨rfl, hok, hend⟩
  have cw := fun W => wholePart_any word W hw
  have h256 := pow_le8 hw
  have h1p := Nat.one_le_two_pow (n := word.size)
  have EW : Hid (∃ W8, W8 = 2 ^ word.size - 1 ∧ W8 < 256) := ⟨_, rfl, by omega⟩
  have FIN : Hid (∀ f : Nat → Bool, SetIs (Flow.nats word) f (Flow.Has s 0) → (f (2 ^ word.size - 1) = true ↔ Flow.Has s 0 (Flow.nats word))) := fun f hf => by
    have := hf (2 ^ word.size - 1) (by rw [nats_len]; omega)
    rw [← nats_len, part_all] at this
    rw [← nats_len]; exact this
  have crd := fun i base B R T T1 W (hi : i < s.size) h1 h2 h3 h4 h5 h6 => read_any s word i base B R T T1 W hi hw h1 h2 h3 h4 h5 h6
  obtain ⟨W8, hW8, hlt8⟩ := EW.out
  rw [← hW8] at cw crd FIN
  clear hW8 EW h256 h1p hok hend
  go_enter Tryz.func56, Tryz.ntmps56
  go_wp2_with (go_at_call 90; refine (cw _).mono ?_; rintro e w' ⟨rfl, rfl⟩)
  have S0 : Hid (Stk (w.alloc (.cells #[.slice none 0 0] 132)) w.heap.size w.heap.size ([] : List (Nat → Bool)).reverse) := ⟨none, 0, Nat.le_refl _, by simp [obk], Blk.new _ _ _, World.ownsRow_nil _ _ _ _⟩
  have E0 : Hid (Below w.heap.size w (w.alloc (.cells #[.slice none 0 0] 132))) := (Below.refl _ _).alloc (Nat.le_refl _) _
  go_loopw [7] (fun a' wr => ∃ (a : Nat) (R : List (Nat → Bool)) (T : List Nat), a ≤ s.size ∧ a' = .int .i64 ((a : Int) - 1) ∧ Hid (SufAt s a T) ∧ Hid (StackIs s (Flow.nats word) R T) ∧ Hid (Stk wr w.heap.size w.heap.size R.reverse) ∧ Hid (Below w.heap.size w wr)) (fun a' _ => ((intOf a') + 1).toNat)
  case atStart => exact ⟨s.size, [], [], Nat.le_refl _, rfl, rfl, trivial, S0, E0⟩
  case round =>
    clear S0 E0
    obtain ⟨a, R, T, ha, rfl, SU, ST, SK, HW⟩ := hrel
    have hzw := HW.out.size
    by_cases h0 : a = 0
    · subst h0
      have e1 : ((0 : Nat) : Int) - 1 = -1 := by omega
      rw [e1]
      have hT := suf_unique SU.out ONE.out
      subst hT
      obtain ⟨f, R', rfl, hf, hR'⟩ := stack_cons ST.out
      have hR2 := stack_nil hR'
      subst hR2
      obtain ⟨aS, cS, hst⟩ := SK.out
      have cp := pop_any f [] w.heap.size w.heap.size aS cS wr (by simp) hst
      have FE : Hid (f W8 = true ↔ Flow.Has s 0 (Flow.nats word)) := FIN.out f hf
      have hI0 : (0 : Int) ≤ (W8 : Int) := by omega
      have hI1 : (W8 : Int) < 256 := by omega
      clear hst hR' hf crd cw
      go_wp2_with (first
        | (go_at_call 93; refine cp.mono ?_; rintro e w1 ⟨rfl, hs1, hk⟩; have S1 : Hid (Below w.heap.size w w1) := (by exact HW.out.trans (hk.below (fun k hk => ⟨by omega, by omega⟩))); have X1 : Hid (Blk ((w1.alloc (.cells (cellsP fun _ => false) 134)).setRow w1.heap.size (cellsP f)) w1.heap.size (cellsP f) 134) := (Blk.new _ _ _).setRow _; have E1 : Hid (Below w.heap.size w ((w1.alloc (.cells (cellsP fun _ => false) 134)).setRow w1.heap.size (cellsP f))) := below_setRow (S1.out.alloc S1.out.size _) S1.out.size _; have Y1 : Hid (Blk (w1.alloc (.cells (cellsP fun _ => false) 134)) w1.heap.size (cellsP fun _ => false) 134) := Blk.new _ _ _; clear hs1 hk)
        | (refine wpList_store_row rfl 134 (.tmp 9) _ rfl w1.heap.size (cellsP f) rfl rfl 134 _ Y1.out (sizePS f) (by rw [cellsP_size, cellsP_size]) (cellsP_one f) ?_; clear Y1; generalize (w1.alloc (.cells (cellsP fun _ => false) 134)).setRow w1.heap.size (cellsP f) = U at X1 E1 ⊢; generalize w1.heap.size = X at X1 ⊢; have x0 := X1.out.partAt (i := W8) hlt8; have zX := X1.out.lt))
      go_ret
      exact ⟨f W8, rfl, FE.out, E1.out⟩
    · obtain ⟨i, rfl⟩ : ∃ i, a = i + 1 := ⟨a - 1, by omega⟩
      have e1 : ((i + 1 : Nat) : Int) - 1 = (i : Int) := by omega
      rw [e1]
      have hlt : i < s.size := by omega
      obtain ⟨T2, hT2⟩ := ALL.out i (by omega)
      have hRl : R.length ≤ 23 := by have h1 := suf_len SU.out; have h2 := stack_len ST.out; omega
      have cr : Calls Tryz.prog 91 #[.pointer (some ⟨w.heap.size, 0, none⟩), .int .u8 (s[i].toNat : Int), .string word, .int .i64 (W8 : Int)] wr (ReadPost2 s (Flow.nats word) i w.heap.size w.heap.size wr) := by
        rw [Flow.bt_at hlt]
        exact crd i w.heap.size w.heap.size R T2 T wr hlt hT2 SU.out ST.out hRl hzw SK.out
      have hI0 : (0 : Int) ≤ (i : Int) := by omega
      have hI1 : (i : Int) < (s.size : Int) := by omega
      clear crd cw hRl hT2
      go_wp2_with (first
        | (go_at_call 91; refine cr.mono ?_; rintro e w1 ⟨f, R2, T3, rfl, hf, hR2, hT3, hl2, hs2, hb2⟩; obtain ⟨v1, v2, v3⟩ := stk_var hs2 (HW.out.trans hb2) (by have := hb2.size; omega) f; have S1 : Hid (Stk ((w1.alloc (.cells (cellsP fun _ => false) 134)).setRow w1.heap.size (cellsP f)) w.heap.size w.heap.size R2.reverse) := v1; have E1 : Hid (Below w.heap.size w ((w1.alloc (.cells (cellsP fun _ => false) 134)).setRow w1.heap.size (cellsP f))) := v2; have X1 : Hid (Blk ((w1.alloc (.cells (cellsP fun _ => false) 134)).setRow w1.heap.size (cellsP f)) w1.heap.size (cellsP f) 134) := v3; have Y1 : Hid (Blk (w1.alloc (.cells (cellsP fun _ => false) 134)) w1.heap.size (cellsP fun _ => false) 134) := Blk.new _ _ _; have SU2 : Hid (SufAt s i (i :: T3)) := hT3; have ST2 : Hid (StackIs s (Flow.nats word) (f :: R2) (i :: T3)) := ⟨hf, hR2⟩; clear v1 v2 v3 hf hR2 hT3 hs2 hb2)
        | (refine wpList_store_row rfl 134 (.tmp 8) _ rfl w1.heap.size (cellsP f) rfl rfl 134 _ Y1.out (sizePS f) (by rw [cellsP_size, cellsP_size]) (cellsP_one f) ?_; clear Y1; generalize (w1.alloc (.cells (cellsP fun _ => false) 134)).setRow w1.heap.size (cellsP f) = U at S1 X1 E1 ⊢; generalize w1.heap.size = X at X1 ⊢)
        | (refine wpList_load_row rfl 134 (.tmp 8) rfl X rfl 134 (cellsP f) (0, 0) _ X1.out Tryz.underlying134 rfl (sizePS f) ?_)
        | (go_at_call 92; refine (push_any f R2.reverse w.heap.size w.heap.size U (by simp; omega) E1.out.size S1.out).mono ?_; rintro e w3 ⟨rfl, hs3, hb3⟩; have S3 : Hid (Stk w3 w.heap.size w.heap.size (f :: R2).reverse) := (by show Stk _ _ _ _; rw [List.reverse_cons]; exact hs3); have E3 : Hid (Below w.heap.size w w3) := E1.out.trans hb3; clear hs3 hb3))
      all_goals go_roundw
      all_goals (first | (simp [intOf]; omega) | (simp [intOf]; done) | exact ⟨i, f :: R2, i :: T3, by omega, rfl, SU2, ST2, S3, E3⟩)

/-- how many processes stand behind a sign -/
def Flow.arity (c : Nat) : Int := if c = 46 ∨ c = 43 ∨ c = 38 then 2 else if c = 42 then 1 else if Flow.isTk c = true then 0 else -1
theorem partsBehind_any (c : Nat) (w : World) : Calls Tryz.prog 89 #[.int .u8 c] w fun e w' => e = .returned (.int .i64 (Flow.arity c)) ∧ w = w' := by
  have ci : ∀ W, Calls Tryz.prog 85 #[.int .u8 c] W fun e w' => e = .returned (.bool (Flow.isTk c)) ∧ W = w' := fun W => (isLetter_any c W).mono fun e w' h => ⟨h.1, h.2.symm⟩
  by_cases h1 : c = 46 ∨ c = 43 ∨ c = 38
  · have R : Hid (Flow.arity c = 2) := if_pos h1
    rcases h1 with rfl | rfl | rfl
    all_goals
      go_enter Tryz.func89, Tryz.ntmps89
      go_wp2
      go_ret
      exact ⟨by rw [R.out]; rfl, rfl⟩
  · by_cases h2 : c = 42
    · subst h2
      go_enter Tryz.func89, Tryz.ntmps89
      go_wp2
      go_ret
      exact ⟨rfl, rfl⟩
    · have t1 : ((c : Int) == 46) = false := by simp; omega
      have t2 : ((c : Int) == 43) = false := by simp; omega
      have t3 : ((c : Int) == 38) = false := by simp; omega
      have t4 : ((c : Int) == 42) = false := by simp; omega
      cases h3 : Flow.isTk c with
      | true =>
        have R : Hid (Flow.arity c = 0) := by show _ = _; unfold Flow.arity; rw [if_neg h1, if_neg h2, if_pos h3]
        rw [h3] at ci
        clear h1 h2 h3
        go_enter Tryz.func89, Tryz.ntmps89
        go_wp2_with (go_at_call 85; refine (ci _).mono ?_; rintro e w' ⟨rfl, rfl⟩)
        go_ret
        exact ⟨by rw [R.out]; rfl, rfl⟩
      | false =>
        have R : Hid (Flow.arity c = -1) := by show _ = _; unfold Flow.arity; rw [if_neg h1, if_neg h2, if_neg (by rw [h3]; simp)]
        rw [h3] at ci
        clear h1 h2 h3
        go_enter Tryz.func89, Tryz.ntmps89
        go_wp2_with (go_at_call 85; refine (ci _).mono ?_; rintro e w' ⟨rfl, rfl⟩)
        go_ret
        exact ⟨by rw [R.out]; rfl, rfl⟩

/-- so many processes from i on: where that ends, and whether they are there -/
def Flow.scanMany (s : ByteArray) : Nat → Nat → Nat × Bool
  | 0, i => (i, true)
  | m + 1, i => if (Flow.scan s i).2.2 = true then Flow.scanMany s m (Flow.scan s i).1 else ((Flow.scan s i).1, false)
theorem many_one (s : ByteArray) : Flow.scanMany s 1 0 = ((Flow.scan s 0).1, (Flow.scan s 0).2.2) := by
  show (if _ then _ else _) = _
  cases h : (Flow.scan s 0).2.2 with
  | true => rw [if_pos rfl]; rfl
  | false => rw [if_neg (by simp)]
theorem many_bad {s : ByteArray} {m i : Nat} (h : i < s.size) (hc : Flow.arity (Flow.bt s i) < 0) : Flow.scanMany s (m + 1) i = (i, false) := by
  have h1 : ¬ (Flow.bt s i = 46 ∨ Flow.bt s i = 43 ∨ Flow.bt s i = 38) := fun x => by unfold Flow.arity at hc; rw [if_pos x] at hc; omega
  have h2 : ¬ Flow.bt s i = 42 := fun x => by unfold Flow.arity at hc; rw [if_neg h1, if_pos x] at hc; omega
  have h3 : ¬ Flow.isTk (Flow.bt s i) = true := fun x => by unfold Flow.arity at hc; rw [if_neg h1, if_neg h2, if_pos x] at hc; omega
  have E : Flow.scan s i = (i, 0, false) := by rw [Flow.scan_eq, if_neg (by omega), if_neg h3, if_neg h2, if_neg h1]
  show (if _ then _ else _) = _
  rw [E, if_neg (by simp)]
theorem manyEnd {s : ByteArray} {m : Nat} : Flow.scanMany s (m + 1) s.size = (s.size, false) := by
  have E : Flow.scan s s.size = (s.size, 0, false) := by rw [Flow.scan_eq, if_pos (Nat.le_refl _)]
  show (if _ then _ else _) = _
  rw [E, if_neg (by simp)]
theorem many_step {s : ByteArray} {m i p : Nat} (h : i < s.size) (hc : Flow.arity (Flow.bt s i) = (p : Int)) : Flow.scanMany s (m + 1) i = Flow.scanMany s (m + p) (i + 1) := by
  have E := Flow.scan_eq s i
  rw [if_neg (by omega)] at E
  unfold Flow.arity at hc
  by_cases h1 : Flow.bt s i = 46 ∨ Flow.bt s i = 43 ∨ Flow.bt s i = 38
  · rw [if_pos h1] at hc
    have hp : p = 2 := by omega
    subst hp
    rw [if_neg (Flow.isTk_no (.inr h1)), if_neg (by omega), if_pos h1] at E
    show (if _ then _ else _) = (if _ then (if _ then _ else _) else _)
    by_cases h3 : (Flow.scan s (i + 1)).2.2 = true
    · rw [if_pos h3] at E
      rw [if_pos h3]
      by_cases h4 : (Flow.scan s (Flow.scan s (i + 1)).1).2.2 = true
      · rw [if_pos h4] at E; rw [if_pos h4, E, if_pos rfl]
      · rw [if_neg h4] at E; rw [if_neg h4, E, if_neg (by simp)]
    · rw [if_neg h3] at E; rw [if_neg h3, E, if_neg (by simp)]
  · rw [if_neg h1] at hc
    by_cases h2 : Flow.bt s i = 42
    · rw [if_pos h2] at hc
      have hp : p = 1 := by omega
      subst hp
      rw [if_neg (Flow.isTk_no (.inl h2)), if_pos h2] at E
      show (if _ then _ else _) = (if _ then _ else _)
      by_cases h3 : (Flow.scan s (i + 1)).2.2 = true
      · rw [if_pos h3] at E; rw [if_pos h3, E, if_pos rfl]
      · rw [if_neg h3] at E; rw [if_neg h3, E, if_neg (by simp)]
    · rw [if_neg h2] at hc
      by_cases h3 : Flow.isTk (Flow.bt s i) = true
      · rw [if_pos h3] at hc
        have hp : p = 0 := by omega
        subst hp
        rw [if_pos h3] at E
        show (if _ then _ else _) = _
        rw [E, if_pos rfl]; rfl
      · rw [if_neg h3] at hc; omega
theorem nodes_eq {s : ByteArray} {i : Nat} (h : (Flow.scan s i).2.2 = true) : (Flow.scan s i).2.1 + i = (Flow.scan s i).1 := by
  induction n : s.size - i using Nat.strongRecOn generalizing i with
  | ind n ih =>
    obtain ⟨hi, hc⟩ := Flow.scan_char h
    rcases hc with hc | hc | hc
    · rw [Flow.scan_eq, if_neg (by omega), if_pos hc]; show 1 + i = i + 1; omega
    · obtain ⟨h1, h2, h3⟩ := Flow.scan_one h hc
      have := ih (s.size - (i + 1)) (by omega) h1 rfl
      omega
    · obtain ⟨h1, h2, h3, h4⟩ := Flow.scan_two h hc
      have g1 := ih (s.size - (i + 1)) (by omega) h1 rfl
      have g0 := Flow.scan_ge s (i + 1)
      have g2 := ih (s.size - (Flow.scan s (i + 1)).1) (by omega) h2 rfl
      omega
theorem read_no {s : ByteArray} {j : Nat} {b : Bool} (hs : ¬ 24 < s.size) (h : ((Flow.scan s 0).1, (Flow.scan s 0).2.2) = (j, b)) (hb : b = false ∨ j < s.size) : Flow.readE s = 9 ∧ Flow.readP s = j := by
  injection h with h1 h2
  have hx : (Flow.scan s 0).2.2 = false ∨ (Flow.scan s 0).1 < s.size := by
    rcases hb with hb | hb
    · exact .inl (by rw [h2, hb])
    · exact .inr (by rw [h1]; exact hb)
  exact ⟨by unfold Flow.readE; rw [if_neg hs, if_pos hx], by unfold Flow.readP; rw [if_neg hs, if_pos hx, h1]⟩
theorem read_yes {s : ByteArray} (hs : ¬ 24 < s.size) (h : ((Flow.scan s 0).1, (Flow.scan s 0).2.2) = (s.size, true)) : Flow.readE s = (if 8 < s.size then 10 else 0) ∧ Flow.readP s = 0 := by
  injection h with h1 h2
  have hx : ¬ ((Flow.scan s 0).2.2 = false ∨ (Flow.scan s 0).1 < s.size) := by
    rintro (x | x)
    · rw [h2] at x; cases x
    · omega
  have hn := nodes_eq h2
  have e : (Flow.scan s 0).2.1 = s.size := by omega
  exact ⟨by unfold Flow.readE; rw [if_neg hs, if_neg hx, e], by unfold Flow.readP; rw [if_neg hs, if_neg hx]⟩

set_option maxHeartbeats 1000000 in
theorem readProcess_any (s : ByteArray) (w : World) (hs : s.size ≤ maxLen) : Calls Tryz.prog 55 #[.string s] w fun e w' => e = .returned (.tuple #[.int .i64 (Flow.readE s), .int .i64 (Flow.readP s)]) ∧ w = w' := by
  unfold maxLen at hs
  by_cases h24 : 24 < s.size
  · have R : Hid (Flow.readE s = 1 ∧ Flow.readP s = 0) := ⟨by unfold Flow.readE; rw [if_pos h24], by unfold Flow.readP; rw [if_pos h24]⟩
    go_enter Tryz.func55, Tryz.ntmps55
    go_wp2
    go_ret2
    exact ⟨by rw [R.out.1, R.out.2]; rfl, rfl⟩
  · have H24 : Hid (¬ 24 < s.size) := h24
    have ONE : Hid (Flow.scanMany s 1 0 = ((Flow.scan s 0).1, (Flow.scan s 0).2.2)) := many_one s
    have h24' : s.size ≤ 24 := by omega
    go_enter Tryz.func55, Tryz.ntmps55
    go_wp2
    go_loop [4, 5] (fun m' i' => ∃ (m i : Nat), i ≤ s.size ∧ m ≤ i + 1 ∧ i' = .int .i64 i ∧ m' = .int .i64 m ∧ Hid (Flow.scanMany s m i = Flow.scanMany s 1 0)) (fun _ i' => s.size - (intOf i').toNat)
    case atStart => exact ⟨1, 0, by omega, by omega, rfl, rfl, rfl⟩
    case round =>
      obtain ⟨m, i, hi, hm, rfl, rfl, SM⟩ := hrel
      by_cases hlt : i < s.size
      · have cb : ∀ W, Calls Tryz.prog 89 #[.int .u8 (s[i].toNat : Int)] W fun e w' => e = .returned (.int .i64 (Flow.arity (Flow.bt s i))) ∧ W = w' := fun W => by rw [Flow.bt_at hlt]; exact partsBehind_any _ W
        have hI0 : (0 : Int) ≤ (i : Int) := by omega
        have hI1 : (i : Int) < (s.size : Int) := by omega
        by_cases hm0 : m = 0
        · subst hm0
          have R : Hid (Flow.readE s = 9 ∧ Flow.readP s = i) := read_no H24.out (by rw [← ONE.out, ← SM.out]; rfl) (.inr hlt)
          go_wp2_with (go_at_call 89; refine (cb _).mono ?_; rintro e w' ⟨rfl, rfl⟩)
          all_goals go_ret2
          all_goals exact ⟨by rw [R.out.1, R.out.2]; rfl, rfl⟩
        · obtain ⟨m1, rfl⟩ : ∃ m1, m = m1 + 1 := ⟨m - 1, by omega⟩
          have tm : ((m1 : Int) + 1 == 0) = false := by simp; omega
          by_cases hneg : Flow.arity (Flow.bt s i) < 0
          · have R : Hid (Flow.readE s = 9 ∧ Flow.readP s = i) := read_no H24.out (by rw [← ONE.out, ← SM.out, many_bad hlt hneg]) (.inl rfl)
            generalize Flow.arity (Flow.bt s i) = ar at cb hneg
            go_wp2_with (go_at_call 89; refine (cb _).mono ?_; rintro e w' ⟨rfl, rfl⟩)
            all_goals go_ret2
            all_goals exact ⟨by rw [R.out.1, R.out.2]; rfl, rfl⟩
          · obtain ⟨p, hp⟩ : ∃ p : Nat, Flow.arity (Flow.bt s i) = (p : Int) := ⟨(Flow.arity (Flow.bt s i)).toNat, by omega⟩
            have hp2 : p ≤ 2 := by
              unfold Flow.arity at hp
              split at hp
              · omega
              · split at hp
                · omega
                · split at hp <;> omega
            have NX : Hid (Flow.scanMany s (m1 + p) (i + 1) = Flow.scanMany s 1 0) := by show _ = _; rw [← many_step hlt hp]; exact SM.out
            rw [hp] at cb
            have tp : decide ((p : Int) < 0) = false := decide_eq_false (by omega)
            clear hp hneg hm0
            go_wp2_with (go_at_call 89; refine (cb _).mono ?_; rintro e w' ⟨rfl, rfl⟩)
            go_round
            case rel => exact ⟨m1 + p, i + 1, by omega, by omega, by go_num, by go_num, NX⟩
            case measure => simp [intOf]; omega
      · obtain rfl : i = s.size := by omega
        by_cases hm0 : m = 0
        · subst hm0
          have R : Hid (Flow.readE s = (if 8 < s.size then 10 else 0) ∧ Flow.readP s = 0) := read_yes H24.out (by rw [← ONE.out, ← SM.out]; rfl)
          by_cases h8 : 8 < s.size
          · go_wp2
            go_ret2
            exact ⟨by rw [R.out.1, R.out.2, if_pos h8]; rfl, rfl⟩
          · go_wp2
            go_ret2
            exact ⟨by rw [R.out.1, R.out.2, if_neg h8]; rfl, rfl⟩
        · obtain ⟨m1, rfl⟩ : ∃ m1, m = m1 + 1 := ⟨m - 1, by omega⟩
          have R : Hid (Flow.readE s = 9 ∧ Flow.readP s = s.size) := read_no H24.out (by rw [← ONE.out, ← SM.out, manyEnd]) (.inl rfl)
          go_wp2
          go_ret2
          exact ⟨by rw [R.out.1, R.out.2]; rfl, rfl⟩
end Go.Proofs.YtdlldljgogbiaabGreat
namespace Go.Proofs.YtdlldljgogbiaabGreat
open Go.RowKit
set_option linter.unusedVariables false
set_option maxRecDepth 40000

set_option maxHeartbeats 2000000 in
theorem acceptsF_any (s word : ByteArray) (w : World) (hs : s.size ≤ maxLen) (hw : word.size ≤ maxLen) : Calls Tryz.prog 26 #[.string s, .string word] w (AcceptsPost s word w) := by
  have cl := fun w => firstNoLetter_any word w hw
  have c1 := fun w => readProcess_any s w hs
  have hs' := hs
  unfold maxLen at hs hw
  by_cases h1 : 8 < word.size
  · have P : Hid (Flow.AcceptsA s word false 1 0) := .inl ⟨.inr h1, rfl, rfl, rfl⟩
    go_enter Tryz.func26, Tryz.ntmps26
    go_wp2_with (fail)
    go_ret3
    exact ⟨false, 1, 0, rfl, P.out, Below.refl _ _⟩
  · have hwz : word.size ≤ 8 := by omega
    by_cases h2 : Flow.readE s = 0
    · obtain ⟨hsz, hok, hend, _⟩ := readE_ok h2
      have H1 : Hid (¬ (24 < s.size ∨ 8 < word.size)) := by show ¬ _; omega
      have c2 := fun w => acceptsWord_any s word w hsz hwz hok hend
      have HP : Hid (Flow.readP s = 0) := by
        show _ = _
        unfold Flow.readP
        rw [if_neg (by omega), if_neg (by rw [hok, hend]; rintro (x | x); cases x; omega)]
      have H2 : Hid (Flow.readE s = 0) := h2
      rw [h2, HP.out] at c1
      clear h2 hsz hok hend
      go_enter Tryz.func26, Tryz.ntmps26
      go_wp2_with (first
        | (go_at_call 55; refine (c1 _).mono ?_; rintro e w' ⟨rfl, rfl⟩)
        | (go_at_call 52; refine (cl _).mono ?_; rintro e w' ⟨r, rfl, hrl, hr, rfl⟩; rcases hr with ⟨rfl, hyes⟩ | ⟨hj1, hj2, hj3⟩)
        | (go_at_call 56; refine (c2 _).mono ?_; rintro e w2 ⟨b, rfl, hbi, hb2⟩; have HB2 : Hid (Below w.heap.size w w2) := hb2; have BI : Hid _ := hbi; clear hb2 hbi))
      all_goals go_ret3
      all_goals (first
        | exact ⟨b, 0, 0, rfl, .inr (.inr (.inr ⟨H1.out, H2.out, hyes, BI.out, rfl, rfl⟩)), HB2.out⟩
        | exact ⟨false, 8, r, rfl, .inr (.inr (.inl ⟨H1.out, H2.out, ⟨hj1, hj2, hj3⟩, rfl, rfl⟩)), Below.refl _ _⟩)
    · have t2 : ((Flow.readE s : Int) != 0) = true := by simp; omega
      have P : Hid (Flow.AcceptsA s word false (Flow.readE s) (Flow.readP s)) := by
        by_cases h24 : 24 < s.size
        · exact .inl ⟨.inl h24, rfl, by unfold Flow.readE; rw [if_pos h24], by unfold Flow.readP; rw [if_pos h24]⟩
        · exact .inr (.inl ⟨by omega, h2, rfl, rfl, rfl⟩)
      go_enter Tryz.func26, Tryz.ntmps26
      go_wp2_with (go_at_call 55; refine (c1 _).mono ?_; rintro e w' ⟨rfl, rfl⟩)
      go_ret3
      exact ⟨false, Flow.readE s, Flow.readP s, rfl, P.out, Below.refl _ _⟩
end Go.Proofs.YtdlldljgogbiaabGreat
