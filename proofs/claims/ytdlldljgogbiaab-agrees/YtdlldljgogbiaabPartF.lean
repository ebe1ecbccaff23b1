/-
  The program's sets of parts.
-/
import Derived.Test.YtdlldljgogbiaabKeep
import Derived.Test.YtdlldljgogbiaabLetF
import Derived.Deep.WholeRow
import Derived.Deep.MidRow
namespace Go.Proofs.Ytdlldljgogbiaab
open Go.RowKit
set_option linter.unusedVariables false
set_option maxRecDepth 40000

/-- a set of parts as the program holds it -/
def cellsP (f : Nat → Bool) : Array Value := ((List.range 256).map fun i => Value.bool (f i)).toArray
theorem cellsP_size (f : Nat → Bool) : (cellsP f).size = 256 := by simp [cellsP]
theorem cellsP_get (f : Nat → Bool) {i : Nat} (h : i < 256) : (cellsP f)[i]? = some (.bool (f i)) := by simp [cellsP, h]
theorem cellsP_set (f : Nat → Bool) {i : Nat} (h : i < 256) (b : Bool) : (cellsP f).setIfInBounds i (.bool b) = cellsP (fun j => if j = i then b else f j) := by
  apply Array.ext_getElem?
  intro j
  by_cases hj : j < 256
  · rw [cellsP_get _ hj]
    by_cases e : i = j
    · subst e
      rw [Array.getElem?_setIfInBounds_self_of_lt (by rw [cellsP_size]; exact h), if_pos rfl]
    · rw [Array.getElem?_setIfInBounds_ne e, cellsP_get _ hj, if_neg (fun x => e x.symm)]
  · rw [Array.getElem?_eq_none (by simp [cellsP_size]; omega), Array.getElem?_eq_none (by rw [cellsP_size]; omega)]
theorem cellsP_one (f : Nat → Bool) : (cellsP f).all (·.oneCell') = true := by
  rw [Array.all_eq_true_iff_forall_mem]
  intro v hv
  unfold cellsP at hv
  simp at hv
  obtain ⟨i, _, rfl⟩ := hv
  rfl
theorem Try.infoPS : (Try.prog.info? 115).map (fun i => (i.zero, i.size)) = some (some (.agg (cellsP fun _ => false)), 256) := by kernel_rfl
theorem sizePS (f : Nat → Bool) : (Try.prog.info? 115).map (·.size) = some (cellsP f).size := by rw [cellsP_size]; exact (zero_of_info Try.infoPS).2
theorem Blk.setRow {w : World} {b : Nat} {cs : Array Value} {t : TypeId} (h : Blk w b cs t) (c : Array Value) : Blk (w.setRow b c) b c t := setRow_heap w b cs c t (0, 0) h
theorem Blk.offRow {w : World} {b b' : Nat} {cs : Array Value} {t : TypeId} (h : Blk w b cs t) (c : Array Value) (hne : b ≠ b') : Blk (w.setRow b' c) b cs t := by
  unfold Blk at h ⊢; rw [setRow_other w b' b c hne]; exact h
theorem below_setRow {B b : Nat} {a w : World} (h : Below B a w) (hb : B ≤ b) (c : Array Value) : Below B a (w.setRow b c) :=
  h.trans ⟨rfl, rfl, rfl, by rw [setRow_size]; exact Nat.le_refl _, fun k hk => setRow_other w b k c (by omega)⟩

/-- a set is made at x: its blocks: the answer's and its own -/
structure Making (w wr : World) (r x : Nat) (h : Nat → Bool) : Prop where
  res : Blk wr r (cellsP fun _ => false) 115
  own : Blk wr x (cellsP h) 115
  bel : Below w.heap.size w wr
  low : w.heap.size ≤ r
  lox : w.heap.size ≤ x
  ne : r ≠ x
theorem Making.set {w wr : World} {r x : Nat} {h : Nat → Bool} (m : Making w wr r x h) {i : Nat} (hi : i < 256) (b : Bool) : Making w (wr.setCell ⟨x, i, none⟩ (.bool b)) r x (fun j => if j = i then b else h j) :=
  ⟨m.res.far _ _ m.ne, by rw [← cellsP_set h hi b]; exact m.own.set _ _, m.bel.setCell (p := ⟨x, i, none⟩) m.lox _, m.low, m.lox, m.ne⟩
theorem Making.same {w wr : World} {r x : Nat} {h h' : Nat → Bool} (m : Making w wr r x h) (e : h = h') : Making w wr r x h' := e ▸ m
theorem Making.cell {w wr : World} {r x : Nat} {h : Nat → Bool} (m : Making w wr r x h) {i : Nat} (hi : i < 256) : wr.cell? ⟨x, i, none⟩ = some (.bool (h i)) := by rw [m.own.cell]; exact cellsP_get h hi
theorem Making.done {w wr : World} {r x : Nat} {h : Nat → Bool} (m : Making w wr r x h) : Blk (wr.setRow r (cellsP h)) r (cellsP h) 115 ∧ Below w.heap.size w (wr.setRow r (cellsP h)) := ⟨m.res.setRow _, below_setRow m.bel m.low _⟩
theorem Blk.partAt {wr : World} {x : Nat} {h : Nat → Bool} (m : Blk wr x (cellsP h) 115) {i : Nat} (hi : i < 256) : wr.cell? ⟨x, i, none⟩ = some (.bool (h i)) := by rw [m.cell]; exact cellsP_get h hi

/-- does it hold below k? -/
def anyTo (t : Nat → Bool) : Nat → Bool
  | 0 => false
  | k + 1 => anyTo t k || t k
theorem anyTo_iff {t : Nat → Bool} {k : Nat} : anyTo t k = true ↔ ∃ j, j < k ∧ t j = true := by
  induction k with
  | zero => simp [anyTo]
  | succ k ih =>
    show (anyTo t k || t k) = true ↔ _
    rw [Bool.or_eq_true, ih]
    constructor
    · rintro (⟨j, h1, h2⟩ | h)
      · exact ⟨j, by omega, h2⟩
      · exact ⟨k, by omega, h⟩
    · rintro ⟨j, h1, h2⟩
      by_cases e : j = k
      · subst e; exact .inr h2
      · exact .inl ⟨j, by omega, h2⟩
/-- the set as far as part p and test k, each part q having len q tests -/
def soFar (t : Nat → Nat → Bool) (len : Nat → Nat) (p k : Nat) : Nat → Bool := fun q => if q < p then anyTo (t q) (len q) else if q = p then anyTo (t p) k else false
theorem soFar_start (t : Nat → Nat → Bool) (len : Nat → Nat) : soFar t len 0 0 = fun _ => false := by
  funext q
  unfold soFar
  rw [if_neg (by omega)]
  split
  · rfl
  · rfl
theorem soFar_hit {t : Nat → Nat → Bool} {len : Nat → Nat} {p k : Nat} (h : t p k = true) : (fun j => if j = p then true else soFar t len p k j) = soFar t len p (k + 1) := by
  funext q
  unfold soFar
  by_cases e : q = p
  · subst e
    rw [if_pos rfl, if_neg (by omega), if_pos rfl]
    show true = (anyTo (t q) k || t q k)
    rw [h]; simp
  · rw [if_neg e]
    by_cases g : q < p
    · rw [if_pos g, if_pos g]
    · rw [if_neg g, if_neg g, if_neg e, if_neg e]
theorem soFar_miss {t : Nat → Nat → Bool} {len : Nat → Nat} {p k : Nat} (h : t p k = false) : soFar t len p k = soFar t len p (k + 1) := by
  funext q
  unfold soFar
  by_cases e : q = p
  · subst e
    have g : ¬ q < q := Nat.lt_irrefl q
    rw [if_neg g, if_neg g, if_pos rfl, if_pos rfl]
    show _ = (anyTo (t q) k || t q k)
    rw [h]; simp
  · rw [if_neg e, if_neg e]
theorem soFar_next (t : Nat → Nat → Bool) (len : Nat → Nat) (p : Nat) : soFar t len p (len p) = soFar t len (p + 1) 0 := by
  funext q
  unfold soFar
  by_cases e : q = p
  · subst e
    rw [if_neg (by omega), if_pos rfl, if_pos (by omega)]
  · by_cases g : q < p
    · rw [if_pos g, if_pos (by omega)]
    · rw [if_neg g, if_neg e, if_neg (by omega)]
      split
      · rfl
      · rfl
theorem soFar_done (t : Nat → Nat → Bool) (len : Nat → Nat) (P : Nat) {q : Nat} (h : q < P) : soFar t len P 0 q = anyTo (t q) (len q) := by
  unfold soFar; rw [if_pos h]

theorem ret_set {fn : Func} {p : Tmp} (hr : fn.results = #[.cell p 115]) (tmps : Array Value) {w wr : World} {r x : Nat} {h : Nat → Bool} (m : Making w wr r x h) (hp : tmps.getD p undef = .pointer (some ⟨r, 0, none⟩)) : (results fn tmps).run Try.prog (wr.setRow r (cellsP h)) = .ok (.agg (cellsP h)) (wr.setRow r (cellsP h)) :=
  results_cell_row hr tmps _ r 115 (cellsP h) (0, 0) _ hp m.done.1 Try.underlying115 rfl (sizePS h)

set_option maxHeartbeats 1000000 in
theorem choiceParts_any (f g : Nat → Bool) (n : Nat) (w : World) (hn : n < 256) : Calls Try.prog 87 #[.agg (cellsP f), .agg (cellsP g), .int .i64 n] w fun e w' => ∃ h, e = .returned (.agg (cellsP h)) ∧ (∀ p, p ≤ n → h p = (f p || g p)) ∧ Below w.heap.size w w' := by
  obtain ⟨hz, hsz⟩ := zero_of_info Try.infoPS
  clear hsz
  go_enter Try.func87, Try.ntmps87
  go_wp2
  have I0 : Hid (Blk ((((w.alloc (.cells (cellsP f) 115)).alloc (.cells (cellsP g) 115)).alloc (.cells (cellsP fun x => false) 115)).alloc (.cells (cellsP fun x => false) 115)) w.heap.size (cellsP f) 115) := (((Blk.new w _ _).alloc _).alloc _).alloc _
  have I1 : Hid (Blk ((((w.alloc (.cells (cellsP f) 115)).alloc (.cells (cellsP g) 115)).alloc (.cells (cellsP fun x => false) 115)).alloc (.cells (cellsP fun x => false) 115)) (w.heap.size + 1) (cellsP g) 115) := ((Blk.new_at (by simp) _ _).alloc _).alloc _
  have MK : Hid (Making w ((((w.alloc (.cells (cellsP f) 115)).alloc (.cells (cellsP g) 115)).alloc (.cells (cellsP fun x => false) 115)).alloc (.cells (cellsP fun x => false) 115)) (w.heap.size + 1 + 1) (w.heap.size + 1 + 1 + 1) (fun _ => false)) := ⟨(Blk.new_at (by simp) _ _).alloc _, Blk.new_at (by simp) _ _, ((((Below.refl _ _).alloc (Nat.le_refl _) _).alloc (by simp) _).alloc (by simp; omega) _).alloc (by simp; omega) _, by omega, by omega, by omega⟩
  generalize (((w.alloc (.cells (cellsP f) 115)).alloc (.cells (cellsP g) 115)).alloc (.cells (cellsP fun x => false) 115)).alloc (.cells (cellsP fun x => false) 115) = V at I0 I1 MK ⊢
  go_loopw [8] (fun i' wr => ∃ (i : Nat) (h : Nat → Bool), i ≤ n + 1 ∧ i' = .int .i64 i ∧ Hid (∀ p, p < i → h p = (f p || g p)) ∧ Hid (Blk wr w.heap.size (cellsP f) 115) ∧ Hid (Blk wr (w.heap.size + 1) (cellsP g) 115) ∧ Hid (Making w wr (w.heap.size + 1 + 1) (w.heap.size + 1 + 1 + 1) h)) (fun i' _ => n + 1 - (intOf i').toNat)
  case atStart => exact ⟨0, fun _ => false, by omega, rfl, fun p hp => by omega, I0, I1, MK⟩
  case round =>
    clear I0 I1 MK
    obtain ⟨i, h, hi, rfl, HP, I0, I1, MK⟩ := hrel
    by_cases hlt : i ≤ n
    · have x0 := I0.out.partAt (i := i) (by omega)
      have x1 := I1.out.partAt (i := i) (by omega)
      have x3 := MK.out.cell (i := i) (by omega)
      have y3 := MK.out.own.froz i
      have z0 := I0.out.lt
      have z1 := I1.out.lt
      have z3 := MK.out.own.lt
      have hI0 : (0 : Int) ≤ (i : Int) := by omega
      have hI1 : (i : Int) < 256 := by omega
      have J0 : ∀ b, Hid (Blk (wr.setCell ⟨w.heap.size + 1 + 1 + 1, i, none⟩ (.bool b)) w.heap.size (cellsP f) 115) := fun b => I0.out.far _ _ (by show w.heap.size ≠ w.heap.size + 1 + 1 + 1; omega)
      have J1 : ∀ b, Hid (Blk (wr.setCell ⟨w.heap.size + 1 + 1 + 1, i, none⟩ (.bool b)) (w.heap.size + 1) (cellsP g) 115) := fun b => I1.out.far _ _ (by show w.heap.size + 1 ≠ w.heap.size + 1 + 1 + 1; omega)
      have JM : ∀ b, Hid (Making w (wr.setCell ⟨w.heap.size + 1 + 1 + 1, i, none⟩ (.bool b)) (w.heap.size + 1 + 1) (w.heap.size + 1 + 1 + 1) (fun j => if j = i then b else h j)) := fun b => MK.out.set (by omega) b
      have JP : ∀ b, b = (f i || g i) → Hid (∀ p, p < i + 1 → (if p = i then b else h p) = (f p || g p)) := fun b hb p hp => by
        by_cases e : p = i
        · rw [if_pos e, e]; exact hb
        · rw [if_neg e]; exact HP.out p (by omega)
      cases hf : f i with
      | true =>
        rw [hf] at x0 JP
        clear hf
        go_wp2
        go_roundw
        case rel => exact ⟨i + 1, _, by omega, by go_num, JP true (by simp), J0 _, J1 _, JM _⟩
        case measure => simp [intOf]; omega
      | false =>
        rw [hf] at x0 JP
        clear hf
        go_wp2
        go_roundw
        case rel => exact ⟨i + 1, _, by omega, by go_num, JP _ (by simp), J0 _, J1 _, JM _⟩
        case measure => simp [intOf]; omega
    · obtain rfl : i = n + 1 := by omega
      go_wp2_with (first
        | (refine wpList_load_row rfl 115 (.tmp 7) rfl (w.heap.size + 1 + 1 + 1) rfl 115 (cellsP h) (0, 0) _ MK.out.own Try.underlying115 rfl (sizePS h) ?_)
        | (refine wpList_store_row rfl 115 (.tmp 6) (.tmp 24) rfl (w.heap.size + 1 + 1) (cellsP h) rfl rfl 115 _ MK.out.res (sizePS h) (by rw [cellsP_size, cellsP_size]) (cellsP_one h) ?_))
      refine bodyPost_ret (v := .agg (cellsP h)) (ret_set rfl _ MK.out rfl) rfl ⟨h, rfl, fun p hp => HP.out p (by omega), MK.out.done.2⟩

/-- cutting at letter k -/
def rowTest (f g : Nat → Bool) (p k : Nat) : Bool := f (p % 2 ^ k) && g (p - p % 2 ^ k)
theorem pow_le8 {k : Nat} (h : k ≤ 8) : 2 ^ k ≤ 256 := by
  have := Nat.pow_le_pow_right (n := 2) (by omega) h
  have e : (2 : Nat) ^ 8 = 256 := by decide
  omega
theorem ahead_and {p k : Nat} (hp : p < 256) (hk : k ≤ 8) : bits .and .i64 (p : Int) ((2 ^ k - 1 : Nat) : Int) = ((p % 2 ^ k : Nat) : Int) := by
  have := pow_le8 hk
  rw [Flow.and_nat _ _ (by omega) (by omega), Nat.and_two_pow_sub_one_eq_mod]
theorem ahead_not {p k : Nat} (hp : p < 256) (hk : k ≤ 8) : bits .andNot .i64 (p : Int) ((2 ^ k - 1 : Nat) : Int) = ((p - p % 2 ^ k : Nat) : Int) := by
  have := pow_le8 hk
  rw [Flow.andNot_nat _ _ (by omega) (by omega), Nat.and_two_pow_sub_one_eq_mod]
theorem ahead_next (k : Nat) : (2 ^ k - 1) * 2 + 1 = 2 ^ (k + 1) - 1 := by
  have := Nat.one_le_two_pow (n := k)
  rw [Nat.pow_succ]; omega
theorem ahead_le {k n : Nat} (h : k ≤ n) : 2 ^ k - 1 ≤ 2 ^ n - 1 := by
  have := Nat.pow_le_pow_right (n := 2) (by omega) h
  omega
theorem ahead_gt (n : Nat) : 2 ^ n - 1 < 2 ^ (n + 1) - 1 := by
  have := Nat.one_le_two_pow (n := n)
  rw [Nat.pow_succ]; omega

set_option maxHeartbeats 2000000 in
theorem rowParts_any (f g : Nat → Bool) (n : Nat) (w : World) (hn : n ≤ 8) : Calls Try.prog 86 #[.agg (cellsP f), .agg (cellsP g), .int .i64 ((2 ^ n - 1 : Nat) : Int)] w fun e w' => ∃ h, e = .returned (.agg (cellsP h)) ∧ (∀ p, p < 2 ^ n → h p = anyTo (rowTest f g p) (n + 1)) ∧ Below w.heap.size w w' := by
  obtain ⟨hz, hsz⟩ := zero_of_info Try.infoPS
  clear hsz
  have HN : Hid (n ≤ 8) := hn
  have h1 := Nat.one_le_two_pow (n := n)
  have h8 := pow_le8 hn
  obtain ⟨W, hW⟩ : ∃ W, W = 2 ^ n - 1 := ⟨_, rfl⟩
  have EW : Hid (W = 2 ^ n - 1) := hW
  have EP : Hid (2 ^ n = W + 1) := by show _ = _; omega
  have hW8 : W < 256 := by omega
  rw [← hW]
  clear hW hn h1 h8
  go_enter Try.func86, Try.ntmps86
  go_wp2
  have I0 : Hid (Blk ((((w.alloc (.cells (cellsP f) 115)).alloc (.cells (cellsP g) 115)).alloc (.cells (cellsP fun x => false) 115)).alloc (.cells (cellsP fun x => false) 115)) w.heap.size (cellsP f) 115) := (((Blk.new w _ _).alloc _).alloc _).alloc _
  have I1 : Hid (Blk ((((w.alloc (.cells (cellsP f) 115)).alloc (.cells (cellsP g) 115)).alloc (.cells (cellsP fun x => false) 115)).alloc (.cells (cellsP fun x => false) 115)) (w.heap.size + 1) (cellsP g) 115) := ((Blk.new_at (by simp) _ _).alloc _).alloc _
  have MK : Hid (Making w ((((w.alloc (.cells (cellsP f) 115)).alloc (.cells (cellsP g) 115)).alloc (.cells (cellsP fun x => false) 115)).alloc (.cells (cellsP fun x => false) 115)) (w.heap.size + 1 + 1) (w.heap.size + 1 + 1 + 1) (soFar (rowTest f g) (fun _ => n + 1) 0 0)) := by
    rw [soFar_start]
    exact ⟨(Blk.new_at (by simp) _ _).alloc _, Blk.new_at (by simp) _ _, ((((Below.refl _ _).alloc (Nat.le_refl _) _).alloc (by simp) _).alloc (by simp; omega) _).alloc (by simp; omega) _, by omega, by omega, by omega⟩
  generalize (((w.alloc (.cells (cellsP f) 115)).alloc (.cells (cellsP g) 115)).alloc (.cells (cellsP fun x => false) 115)).alloc (.cells (cellsP fun x => false) 115) = V at I0 I1 MK ⊢
  go_loopw [8] (fun i' wr => ∃ (i : Nat), i ≤ W + 1 ∧ i' = .int .i64 i ∧ Hid (Blk wr w.heap.size (cellsP f) 115) ∧ Hid (Blk wr (w.heap.size + 1) (cellsP g) 115) ∧ Hid (Making w wr (w.heap.size + 1 + 1) (w.heap.size + 1 + 1 + 1) (soFar (rowTest f g) (fun _ => n + 1) i 0))) (fun i' _ => W + 1 - (intOf i').toNat)
  case atStart => exact ⟨0, by omega, rfl, I0, I1, MK⟩
  case round =>
    clear I0 I1 MK
    obtain ⟨i, hi, rfl, I0, I1, MK⟩ := hrel
    by_cases hlt : i ≤ W
    · go_wp2
      clear hi
      obtain ⟨wo, rfl⟩ : ∃ wo : World, wo = wr := ⟨_, rfl⟩
      go_loopw [9] (fun a' wr => ∃ (k A : Nat), a' = .int .i64 A ∧ A ≤ 511 ∧ Hid (k ≤ n + 1) ∧ Hid (A = 2 ^ k - 1) ∧ Hid (Blk wr w.heap.size (cellsP f) 115) ∧ Hid (Blk wr (w.heap.size + 1) (cellsP g) 115) ∧ Hid (Making w wr (w.heap.size + 1 + 1) (w.heap.size + 1 + 1 + 1) (soFar (rowTest f g) (fun _ => n + 1) i k))) (fun a' _ => W + 1 - (intOf a').toNat)
      case atStart => exact ⟨0, 0, rfl, by omega, Nat.zero_le _, rfl, I0, I1, MK⟩
      case round =>
        clear I0 I1 MK
        obtain ⟨k, A, rfl, hA5, HK, EA, I0, I1, MK⟩ := hrel
        by_cases hk : k ≤ n
        · have hAW : A ≤ W := by have := ahead_le hk; rw [← EA.out, ← EW.out] at this; exact this
          have hi8 : i < 256 := by omega
          have e1 := ahead_and (k := k) hi8 (Nat.le_trans hk HN.out)
          have e2 := ahead_not (k := k) hi8 (Nat.le_trans hk HN.out)
          rw [← EA.out] at e1 e2
          have l1 := Nat.mod_le i (2 ^ k)
          obtain ⟨q1, hq1⟩ : ∃ q, q = i % 2 ^ k := ⟨_, rfl⟩
          rw [← hq1] at e1 e2 l1
          obtain ⟨q2, hq2⟩ : ∃ q, q = i - q1 := ⟨_, rfl⟩
          rw [← hq2] at e2
          have T : Hid (rowTest f g i k = (f q1 && g q2)) := by show _ = _; unfold rowTest; rw [← hq1, ← hq2]
          have NX : Hid (A * 2 + 1 = 2 ^ (k + 1) - 1) := by show _ = _; rw [EA.out]; exact ahead_next k
          have x0 := I0.out.partAt (i := q1) (by omega)
          have x1 := I1.out.partAt (i := q2) (by omega)
          have x3 := MK.out.cell (i := i) hi8
          have y3 := MK.out.own.froz i
          have z0 := I0.out.lt
          have z1 := I1.out.lt
          have z3 := MK.out.own.lt
          have hI0 : (0 : Int) ≤ (i : Int) := by omega
          have hI1 : (i : Int) < 256 := by omega
          have hQ0 : (0 : Int) ≤ (q1 : Int) := by omega
          have hQ1 : (q1 : Int) < 256 := by omega
          have hR0 : (0 : Int) ≤ (q2 : Int) := by omega
          have hR1 : (q2 : Int) < 256 := by omega
          have J0 : Hid (Blk (wr.setCell ⟨w.heap.size + 1 + 1 + 1, i, none⟩ (.bool true)) w.heap.size (cellsP f) 115) := I0.out.far _ _ (by show w.heap.size ≠ w.heap.size + 1 + 1 + 1; omega)
          have J1 : Hid (Blk (wr.setCell ⟨w.heap.size + 1 + 1 + 1, i, none⟩ (.bool true)) (w.heap.size + 1) (cellsP g) 115) := I1.out.far _ _ (by show w.heap.size + 1 ≠ w.heap.size + 1 + 1 + 1; omega)
          have JM : Hid (rowTest f g i k = true → Making w (wr.setCell ⟨w.heap.size + 1 + 1 + 1, i, none⟩ (.bool true)) (w.heap.size + 1 + 1) (w.heap.size + 1 + 1 + 1) (soFar (rowTest f g) (fun _ => n + 1) i (k + 1))) := fun h => (MK.out.set hi8 true).same (soFar_hit h)
          have JN : Hid (rowTest f g i k = false → Making w wr (w.heap.size + 1 + 1) (w.heap.size + 1 + 1 + 1) (soFar (rowTest f g) (fun _ => n + 1) i (k + 1))) := fun h => MK.out.same (soFar_miss h)
          have HK2 : Hid (k + 1 ≤ n + 1) := Nat.succ_le_succ hk
          clear hq1 hq2 hk l1
          cases hf : f q1 with
          | false =>
            rw [hf] at x0 T
            have M2 : Hid (Making w wr (w.heap.size + 1 + 1) (w.heap.size + 1 + 1 + 1) (soFar (rowTest f g) (fun _ => n + 1) i (k + 1))) := JN.out (by rw [T.out]; simp)
            clear hf
            go_wp2
            go_roundw
            case rel => exact ⟨k + 1, A * 2 + 1, by go_num, by omega, HK2, NX, I0, I1, M2⟩
            case measure => simp [intOf]; omega
          | true =>
            cases hg : g q2 with
            | false =>
              rw [hf] at x0 T
              rw [hg] at x1 T
              have M2 : Hid (Making w wr (w.heap.size + 1 + 1) (w.heap.size + 1 + 1 + 1) (soFar (rowTest f g) (fun _ => n + 1) i (k + 1))) := JN.out (by rw [T.out]; simp)
              clear hf hg
              go_wp2
              go_roundw
              case rel => exact ⟨k + 1, A * 2 + 1, by go_num, by omega, HK2, NX, I0, I1, M2⟩
              case measure => simp [intOf]; omega
            | true =>
              rw [hf] at x0 T
              rw [hg] at x1 T
              have M2 : Hid (Making w (wr.setCell ⟨w.heap.size + 1 + 1 + 1, i, none⟩ (.bool true)) (w.heap.size + 1 + 1) (w.heap.size + 1 + 1 + 1) (soFar (rowTest f g) (fun _ => n + 1) i (k + 1))) := JM.out (by rw [T.out]; simp)
              clear hf hg
              go_wp2
              go_roundw
              case rel => exact ⟨k + 1, A * 2 + 1, by go_num, by omega, HK2, NX, J0, J1, M2⟩
              case measure => simp [intOf]; omega
        · have hk' : k = n + 1 := by have := HK.out; omega
          subst hk'
          have hAW : ¬ A ≤ W := by have := ahead_gt n; rw [← EA.out, ← EW.out] at this; omega
          have MN : Hid (Making w wr (w.heap.size + 1 + 1) (w.heap.size + 1 + 1 + 1) (soFar (rowTest f g) (fun _ => n + 1) (i + 1) 0)) := MK.out.same (soFar_next (rowTest f g) (fun _ => n + 1) i)
          clear hk
          go_wp2
          go_roundw
          case rel => exact ⟨i + 1, by omega, by go_num, I0, I1, MN⟩
          case measure => simp [intOf]; omega
    · obtain rfl : i = W + 1 := by omega
      obtain ⟨h, hh⟩ : ∃ h, h = soFar (rowTest f g) (fun _ => n + 1) (W + 1) 0 := ⟨_, rfl⟩
      have MH : Hid (Making w wr (w.heap.size + 1 + 1) (w.heap.size + 1 + 1 + 1) h) := MK.out.same hh.symm
      have HP : Hid (∀ p, p < 2 ^ n → h p = anyTo (rowTest f g p) (n + 1)) := fun p hp => by rw [hh]; exact soFar_done _ _ _ (by rw [← EP.out]; exact hp)
      clear hh MK
      go_wp2_with (first
        | (refine wpList_load_row rfl 115 (.tmp 7) rfl (w.heap.size + 1 + 1 + 1) rfl 115 (cellsP h) (0, 0) _ MH.out.own Try.underlying115 rfl (sizePS h) ?_)
        | (refine wpList_store_row rfl 115 (.tmp 6) (.tmp 35) rfl (w.heap.size + 1 + 1) (cellsP h) rfl rfl 115 _ MH.out.res (sizePS h) (by rw [cellsP_size, cellsP_size]) (cellsP_one h) ?_))
      exact bodyPost_ret (v := .agg (cellsP h)) (ret_set rfl _ MH.out rfl) rfl ⟨h, rfl, HP.out, MH.out.done.2⟩
end Go.Proofs.Ytdlldljgogbiaab
