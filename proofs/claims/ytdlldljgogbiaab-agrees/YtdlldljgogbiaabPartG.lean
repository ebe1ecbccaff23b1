/-
  The program's sets of parts: side by side, repeated, a task.
-/
import Derived.Test.YtdlldljgogbiaabPartF
namespace Go.Proofs.Ytdlldljgogbiaab
open Go.RowKit
set_option linter.unusedVariables false
set_option maxRecDepth 40000

/-- sharing out by k -/
def sideTest (f g : Nat → Bool) (p k : Nat) : Bool := f (p &&& k) && g (p - (p &&& k))
set_option maxHeartbeats 2000000 in
theorem sideParts_any (f g : Nat → Bool) (n : Nat) (w : World) (hn : n < 256) : Calls Try.prog 88 #[.agg (cellsP f), .agg (cellsP g), .int .i64 n] w fun e w' => ∃ h, e = .returned (.agg (cellsP h)) ∧ (∀ p, p ≤ n → h p = anyTo (sideTest f g p) (p + 1)) ∧ Below w.heap.size w w' := by
  obtain ⟨hz, hsz⟩ := zero_of_info Try.infoPS
  clear hsz
  go_enter Try.func88, Try.ntmps88
  go_wp2
  have I0 : Hid (Blk ((((w.alloc (.cells (cellsP f) 115)).alloc (.cells (cellsP g) 115)).alloc (.cells (cellsP fun x => false) 115)).alloc (.cells (cellsP fun x => false) 115)) w.heap.size (cellsP f) 115) := (((Blk.new w _ _).alloc _).alloc _).alloc _
  have I1 : Hid (Blk ((((w.alloc (.cells (cellsP f) 115)).alloc (.cells (cellsP g) 115)).alloc (.cells (cellsP fun x => false) 115)).alloc (.cells (cellsP fun x => false) 115)) (w.heap.size + 1) (cellsP g) 115) := ((Blk.new_at (by simp) _ _).alloc _).alloc _
  have MK : Hid (Making w ((((w.alloc (.cells (cellsP f) 115)).alloc (.cells (cellsP g) 115)).alloc (.cells (cellsP fun x => false) 115)).alloc (.cells (cellsP fun x => false) 115)) (w.heap.size + 1 + 1) (w.heap.size + 1 + 1 + 1) (soFar (sideTest f g) (fun q => q + 1) 0 0)) := by
    rw [soFar_start]
    exact ⟨(Blk.new_at (by simp) _ _).alloc _, Blk.new_at (by simp) _ _, ((((Below.refl _ _).alloc (Nat.le_refl _) _).alloc (by simp) _).alloc (by simp; omega) _).alloc (by simp; omega) _, by omega, by omega, by omega⟩
  generalize (((w.alloc (.cells (cellsP f) 115)).alloc (.cells (cellsP g) 115)).alloc (.cells (cellsP fun x => false) 115)).alloc (.cells (cellsP fun x => false) 115) = V at I0 I1 MK ⊢
  go_loopw [8] (fun i' wr => ∃ (i : Nat), i ≤ n + 1 ∧ i' = .int .i64 i ∧ Hid (Blk wr w.heap.size (cellsP f) 115) ∧ Hid (Blk wr (w.heap.size + 1) (cellsP g) 115) ∧ Hid (Making w wr (w.heap.size + 1 + 1) (w.heap.size + 1 + 1 + 1) (soFar (sideTest f g) (fun q => q + 1) i 0))) (fun i' _ => n + 1 - (intOf i').toNat)
  case atStart => exact ⟨0, by omega, rfl, I0, I1, MK⟩
  case round =>
    clear I0 I1 MK
    obtain ⟨i, hi, rfl, I0, I1, MK⟩ := hrel
    by_cases hlt : i ≤ n
    · go_wp2
      clear hi
      obtain ⟨wo, rfl⟩ : ∃ wo : World, wo = wr := ⟨_, rfl⟩
      go_loopw [9] (fun a' wr => ∃ (k : Nat), a' = .int .i64 k ∧ k ≤ i + 1 ∧ Hid (Blk wr w.heap.size (cellsP f) 115) ∧ Hid (Blk wr (w.heap.size + 1) (cellsP g) 115) ∧ Hid (Making w wr (w.heap.size + 1 + 1) (w.heap.size + 1 + 1 + 1) (soFar (sideTest f g) (fun q => q + 1) i k))) (fun a' _ => i + 1 - (intOf a').toNat)
      case atStart => exact ⟨0, rfl, by omega, I0, I1, MK⟩
      case round =>
        clear I0 I1 MK
        obtain ⟨k, rfl, hK, I0, I1, MK⟩ := hrel
        by_cases hk : k ≤ i
        · have hi8 : i < 256 := by omega
          have e1 := Flow.and_nat i k (by omega) (by omega)
          have e2 := Flow.andNot_nat i k (by omega) (by omega)
          have l1 : i &&& k ≤ i := Nat.and_le_left
          obtain ⟨q1, hq1⟩ : ∃ q, q = i &&& k := ⟨_, rfl⟩
          rw [← hq1] at e1 e2 l1
          obtain ⟨q2, hq2⟩ : ∃ q, q = i - q1 := ⟨_, rfl⟩
          rw [← hq2] at e2
          have T : Hid (sideTest f g i k = (f q1 && g q2)) := by show _ = _; unfold sideTest; rw [← hq1, ← hq2]
          have x0 := I0.out.partAt (i := q1) (by omega)
          have x1 := I1.out.partAt (i := q2) (by omega)
          have x3 := MK.out.cell (i := i) hi8
          have y3 := MK.out.own.froz i
          have z0 := I0.out.lt
          have z1 := I1.out.lt
          have z3 := MK.out.own.lt
          have hI0 : (0 : Int) ≤ (i : Int) := by omega
          have hI1 : (i : Int) < 256 := by omega
          have hQ0 : (0 : Int) ≤ (q1 : Int) := by omega
          have hQ1 : (q1 : Int) < 256 := by omega
          have hR0 : (0 : Int) ≤ (q2 : Int) := by omega
          have hR1 : (q2 : Int) < 256 := by omega
          have J0 : Hid (Blk (wr.setCell ⟨w.heap.size + 1 + 1 + 1, i, none⟩ (.bool true)) w.heap.size (cellsP f) 115) := I0.out.far _ _ (by show w.heap.size ≠ w.heap.size + 1 + 1 + 1; omega)
          have J1 : Hid (Blk (wr.setCell ⟨w.heap.size + 1 + 1 + 1, i, none⟩ (.bool true)) (w.heap.size + 1) (cellsP g) 115) := I1.out.far _ _ (by show w.heap.size + 1 ≠ w.heap.size + 1 + 1 + 1; omega)
          have JM : Hid (sideTest f g i k = true → Making w (wr.setCell ⟨w.heap.size + 1 + 1 + 1, i, none⟩ (.bool true)) (w.heap.size + 1 + 1) (w.heap.size + 1 + 1 + 1) (soFar (sideTest f g) (fun q => q + 1) i (k + 1))) := fun h => (MK.out.set hi8 true).same (soFar_hit h)
          have JN : Hid (sideTest f g i k = false → Making w wr (w.heap.size + 1 + 1) (w.heap.size + 1 + 1 + 1) (soFar (sideTest f g) (fun q => q + 1) i (k + 1))) := fun h => MK.out.same (soFar_miss h)
          clear hq1 hq2 l1
          cases hf : f q1 with
          | false =>
            rw [hf] at x0 T
            have M2 : Hid (Making w wr (w.heap.size + 1 + 1) (w.heap.size + 1 + 1 + 1) (soFar (sideTest f g) (fun q => q + 1) i (k + 1))) := JN.out (by rw [T.out]; simp)
            clear hf
            go_wp2
            go_roundw
            case rel => exact ⟨k + 1, by go_num, by omega, I0, I1, M2⟩
            case measure => simp [intOf]; omega
          | true =>
            cases hg : g q2 with
            | false =>
              rw [hf] at x0 T
              rw [hg] at x1 T
              have M2 : Hid (Making w wr (w.heap.size + 1 + 1) (w.heap.size + 1 + 1 + 1) (soFar (sideTest f g) (fun q => q + 1) i (k + 1))) := JN.out (by rw [T.out]; simp)
              clear hf hg
              go_wp2
              go_roundw
              case rel => exact ⟨k + 1, by go_num, by omega, I0, I1, M2⟩
              case measure => simp [intOf]; omega
            | true =>
              rw [hf] at x0 T
              rw [hg] at x1 T
              have M2 : Hid (Making w (wr.setCell ⟨w.heap.size + 1 + 1 + 1, i, none⟩ (.bool true)) (w.heap.size + 1 + 1) (w.heap.size + 1 + 1 + 1) (soFar (sideTest f g) (fun q => q + 1) i (k + 1))) := JM.out (by rw [T.out]; simp)
              clear hf hg
              go_wp2
              go_roundw
              case rel => exact ⟨k + 1, by go_num, by omega, J0, J1, M2⟩
              case measure => simp [intOf]; omega
        · obtain rfl : k = i + 1 := by omega
          have MN : Hid (Making w wr (w.heap.size + 1 + 1) (w.heap.size + 1 + 1 + 1) (soFar (sideTest f g) (fun q => q + 1) (i + 1) 0)) := MK.out.same (soFar_next (sideTest f g) (fun q => q + 1) i)
          clear hk
          go_wp2
          go_roundw
          case rel => exact ⟨i + 1, by omega, by go_num, I0, I1, MN⟩
          case measure => simp [intOf]; omega
    · obtain rfl : i = n + 1 := by omega
      obtain ⟨h, hh⟩ : ∃ h, h = soFar (sideTest f g) (fun q => q + 1) (n + 1) 0 := ⟨_, rfl⟩
      have MH : Hid (Making w wr (w.heap.size + 1 + 1) (w.heap.size + 1 + 1 + 1) h) := MK.out.same hh.symm
      have HP : Hid (∀ p, p ≤ n → h p = anyTo (sideTest f g p) (p + 1)) := fun p hp => by rw [hh]; exact soFar_done _ _ _ (by omega)
      clear hh MK
      go_wp2_with (first
        | (refine wpList_load_row rfl 115 (.tmp 7) rfl (w.heap.size + 1 + 1 + 1) rfl 115 (cellsP h) (0, 0) _ MH.out.own Try.underlying115 rfl (sizePS h) ?_)
        | (refine wpList_store_row rfl 115 (.tmp 6) (.tmp 34) rfl (w.heap.size + 1 + 1) (cellsP h) rfl rfl 115 _ MH.out.res (sizePS h) (by rw [cellsP_size, cellsP_size]) (cellsP_one h) ?_))
      exact bodyPost_ret (v := .agg (cellsP h)) (ret_set rfl _ MH.out rfl) rfl ⟨h, rfl, HP.out, MH.out.done.2⟩

/-- the set of a repetition as far as part p: right below it; at it what was found, above it nothing -/
structure RepAt (f : Nat → Bool) (R : Nat → Prop) (p k : Nat) (h : Nat → Bool) : Prop where
  low : ∀ q, q < p → (h q = true ↔ R q)
  here : h p = true ↔ ∃ j, 1 ≤ j ∧ j < k ∧ p % 2 ^ j ≠ 0 ∧ f (p % 2 ^ j) = true ∧ R (p - p % 2 ^ j)
  high : ∀ q, p < q → h q = false
/-- what is asked of R: nothing, or cut off a first part that is not empty -/
def RepIs (f : Nat → Bool) (n : Nat) (R : Nat → Prop) : Prop := R 0 ∧ ∀ p, 1 ≤ p → p < 2 ^ n → (R p ↔ ∃ j, 1 ≤ j ∧ j < n + 1 ∧ p % 2 ^ j ≠ 0 ∧ f (p % 2 ^ j) = true ∧ R (p - p % 2 ^ j))
theorem RepAt.hit {f : Nat → Bool} {R : Nat → Prop} {p k : Nat} {h : Nat → Bool} (a : RepAt f R p k h) (hk : 1 ≤ k) (hf : f (p % 2 ^ k) = true) (hr : h (p - p % 2 ^ k) = true) : RepAt f R p (k + 1) (fun j => if j = p then true else h j) := by
  by_cases e0 : p % 2 ^ k = 0
  · rw [e0, Nat.sub_zero] at hr
    refine ⟨fun q hq => by rw [if_neg (by omega)]; exact a.low q hq, ?_, fun q hq => by rw [if_neg (by omega)]; exact a.high q hq⟩
    rw [if_pos rfl]
    refine ⟨fun _ => ?_, fun _ => rfl⟩
    obtain ⟨j, h1, h2, h3⟩ := a.here.1 hr
    exact ⟨j, h1, by omega, h3⟩
  · refine ⟨fun q hq => by rw [if_neg (by omega)]; exact a.low q hq, ?_, fun q hq => by rw [if_neg (by omega)]; exact a.high q hq⟩
    rw [if_pos rfl]
    have := Nat.mod_le p (2 ^ k)
    exact ⟨fun _ => ⟨k, hk, by omega, e0, hf, (a.low _ (by omega)).1 hr⟩, fun _ => rfl⟩
theorem RepAt.miss {f : Nat → Bool} {R : Nat → Prop} {p k : Nat} {h : Nat → Bool} (a : RepAt f R p k h) (hm : ¬ (f (p % 2 ^ k) = true ∧ h (p - p % 2 ^ k) = true)) : RepAt f R p (k + 1) h := by
  refine ⟨a.low, ?_, a.high⟩
  rw [a.here]
  constructor
  · rintro ⟨j, h1, h2, h3⟩; exact ⟨j, h1, by omega, h3⟩
  · rintro ⟨j, h1, h2, h3, h4, h5⟩
    by_cases e : j = k
    · subst e
      have := Nat.mod_le p (2 ^ j)
      exact absurd ⟨h4, (a.low _ (by omega)).2 h5⟩ hm
    · exact ⟨j, h1, by omega, h3, h4, h5⟩
theorem RepAt.next {f : Nat → Bool} {R : Nat → Prop} {n p : Nat} {h : Nat → Bool} (hR : RepIs f n R) (hp : 1 ≤ p) (hpn : p < 2 ^ n) (a : RepAt f R p (n + 1) h) : RepAt f R (p + 1) 1 h := by
  refine ⟨?_, ?_, fun q hq => a.high q (by omega)⟩
  · intro q hq
    by_cases e : q = p
    · subst e; rw [a.here, hR.2 q hp hpn]
    · exact a.low q (by omega)
  · rw [a.high (p + 1) (by omega)]
    constructor
    · intro h; cases h
    · rintro ⟨j, h1, h2, _⟩; omega

set_option maxHeartbeats 2000000 in
theorem repeatedParts_any (f : Nat → Bool) (n : Nat) (R : Nat → Prop) (w : World) (hn : n ≤ 8) (hR : RepIs f n R) : Calls Try.prog 85 #[.agg (cellsP f), .int .i64 ((2 ^ n - 1 : Nat) : Int)] w fun e w' => ∃ h, e = .returned (.agg (cellsP h)) ∧ (∀ p, p < 2 ^ n → (h p = true ↔ R p)) ∧ Below w.heap.size w w' := by
  obtain ⟨hz, hsz⟩ := zero_of_info Try.infoPS
  clear hsz
  have HN : Hid (n ≤ 8) := hn
  have HR : Hid (RepIs f n R) := hR
  have h1 := Nat.one_le_two_pow (n := n)
  have h8 := pow_le8 hn
  obtain ⟨W, hW⟩ : ∃ W, W = 2 ^ n - 1 := ⟨_, rfl⟩
  have EW : Hid (W = 2 ^ n - 1) := hW
  have EP : Hid (2 ^ n = W + 1) := by show _ = _; omega
  have hW8 : W < 256 := by omega
  rw [← hW]
  clear hW hn h1 h8 hR
  go_enter Try.func85, Try.ntmps85
  go_wp2
  rw [cellsP_set (fun x => false) (i := 0) (by omega) true]
  have I0 : Hid (Blk (((w.alloc (.cells (cellsP f) 115)).alloc (.cells (cellsP fun x => false) 115)).alloc (.cells (cellsP fun j => if j = 0 then true else false) 115)) w.heap.size (cellsP f) 115) := ((Blk.new w _ _).alloc _).alloc _
  have MK : Hid (Making w (((w.alloc (.cells (cellsP f) 115)).alloc (.cells (cellsP fun x => false) 115)).alloc (.cells (cellsP fun j => if j = 0 then true else false) 115)) (w.heap.size + 1) (w.heap.size + 1 + 1) (fun j => if j = 0 then true else false)) :=
    ⟨(Blk.new_at (by simp) _ _).alloc _, Blk.new_at (by simp) _ _, (((Below.refl _ _).alloc (Nat.le_refl _) _).alloc (by simp) _).alloc (by simp; omega) _, by omega, by omega, by omega⟩
  have A0 : Hid (RepAt f R 1 1 (fun j => if j = 0 then true else false)) := by
    refine ⟨fun q hq => ?_, ?_, fun q hq => if_neg (by omega)⟩
    · have : q = 0 := by omega
      subst this
      rw [if_pos rfl]; exact ⟨fun _ => HR.out.1, fun _ => rfl⟩
    · rw [if_neg (by omega)]
      constructor
      · intro h; cases h
      · rintro ⟨j, h1, h2, _⟩; omega
  generalize ((w.alloc (.cells (cellsP f) 115)).alloc (.cells (cellsP fun x => false) 115)).alloc (.cells (cellsP fun j => if j = 0 then true else false) 115) = V at I0 MK ⊢
  generalize (fun j => if j = 0 then true else false) = h0 at A0 MK
  go_loopw [6] (fun i' wr => ∃ (i : Nat) (h : Nat → Bool), 1 ≤ i ∧ i ≤ W + 1 ∧ i' = .int .i64 i ∧ Hid (Blk wr w.heap.size (cellsP f) 115) ∧ Hid (Making w wr (w.heap.size + 1) (w.heap.size + 1 + 1) h) ∧ Hid (RepAt f R i 1 h)) (fun i' _ => W + 1 - (intOf i').toNat)
  case atStart => exact ⟨1, h0, by omega, by omega, rfl, I0, MK, A0⟩
  case round =>
    clear I0 MK A0
    obtain ⟨i, h, hi1, hi, rfl, I0, MK, AT⟩ := hrel
    by_cases hlt : i ≤ W
    · go_wp2
      clear hi
      obtain ⟨wo, rfl⟩ : ∃ wo : World, wo = wr := ⟨_, rfl⟩
      go_loopw [7] (fun a' wr => ∃ (k A : Nat) (h : Nat → Bool), a' = .int .i64 A ∧ A ≤ 511 ∧ Hid (1 ≤ k ∧ k ≤ n + 1) ∧ Hid (A = 2 ^ k - 1) ∧ Hid (Blk wr w.heap.size (cellsP f) 115) ∧ Hid (Making w wr (w.heap.size + 1) (w.heap.size + 1 + 1) h) ∧ Hid (RepAt f R i k h)) (fun a' _ => W + 1 - (intOf a').toNat)
      case atStart => exact ⟨1, 1, h, rfl, by omega, ⟨Nat.le_refl _, by omega⟩, rfl, I0, MK, AT⟩
      case round =>
        clear I0 MK AT
        clear h
        obtain ⟨k, A, h, rfl, hA5, HK, EA, I0, MK, AT⟩ := hrel
        by_cases hk : k ≤ n
        · have hAW : A ≤ W := by have := ahead_le hk; rw [← EA.out, ← EW.out] at this; exact this
          have hi8 : i < 256 := by omega
          have e1 := ahead_and (k := k) hi8 (Nat.le_trans hk HN.out)
          have e2 := ahead_not (k := k) hi8 (Nat.le_trans hk HN.out)
          rw [← EA.out] at e1 e2
          have l1 := Nat.mod_le i (2 ^ k)
          have HT : Hid (∀ b c : Bool, f (i % 2 ^ k) = b → h (i - i % 2 ^ k) = c → ((b = true ∧ c = true) → RepAt f R i (k + 1) (fun j => if j = i then true else h j)) ∧ (¬ (b = true ∧ c = true) → RepAt f R i (k + 1) h)) := by
            intro b c hb hc
            subst hb hc
            exact ⟨fun x => AT.out.hit HK.out.1 x.1 x.2, fun x => AT.out.miss x⟩
          obtain ⟨q1, hq1⟩ : ∃ q, q = i % 2 ^ k := ⟨_, rfl⟩
          rw [← hq1] at e1 e2 l1 HT
          obtain ⟨q2, hq2⟩ : ∃ q, q = i - q1 := ⟨_, rfl⟩
          rw [← hq2] at e2 HT
          have NX : Hid (A * 2 + 1 = 2 ^ (k + 1) - 1) := by show _ = _; rw [EA.out]; exact ahead_next k
          have x0 := I0.out.partAt (i := q1) (by omega)
          have x1 := MK.out.cell (i := q2) (by omega)
          have x3 := MK.out.cell (i := i) hi8
          have y3 := MK.out.own.froz i
          have z0 := I0.out.lt
          have z3 := MK.out.own.lt
          have hI0 : (0 : Int) ≤ (i : Int) := by omega
          have hI1 : (i : Int) < 256 := by omega
          have hQ0 : (0 : Int) ≤ (q1 : Int) := by omega
          have hQ1 : (q1 : Int) < 256 := by omega
          have hR0 : (0 : Int) ≤ (q2 : Int) := by omega
          have hR1 : (q2 : Int) < 256 := by omega
          have J0 : Hid (Blk (wr.setCell ⟨w.heap.size + 1 + 1, i, none⟩ (.bool true)) w.heap.size (cellsP f) 115) := I0.out.far _ _ (by show w.heap.size ≠ w.heap.size + 1 + 1; omega)
          have JM : Hid (Making w (wr.setCell ⟨w.heap.size + 1 + 1, i, none⟩ (.bool true)) (w.heap.size + 1) (w.heap.size + 1 + 1) (fun j => if j = i then true else h j)) := MK.out.set hi8 true
          have HK2 : Hid (1 ≤ k + 1 ∧ k + 1 ≤ n + 1) := ⟨by omega, Nat.succ_le_succ hk⟩
          clear hq1 hq2 hk l1
          cases hf : f q1 with
          | false =>
            have A2 : Hid (RepAt f R i (k + 1) h) := (HT.out false _ hf rfl).2 (fun x => by cases x.1)
            rw [hf] at x0
            clear hf
            go_wp2
            go_roundw
            case rel => exact ⟨k + 1, A * 2 + 1, h, by go_num, by omega, HK2, NX, I0, MK, A2⟩
            case measure => simp [intOf]; omega
          | true =>
            cases hg : h q2 with
            | false =>
              have A2 : Hid (RepAt f R i (k + 1) h) := (HT.out true false hf hg).2 (fun x => by cases x.2)
              rw [hf] at x0
              rw [hg] at x1
              clear hf hg
              go_wp2
              go_roundw
              case rel => exact ⟨k + 1, A * 2 + 1, h, by go_num, by omega, HK2, NX, I0, MK, A2⟩
              case measure => simp [intOf]; omega
            | true =>
              have A2 : Hid (RepAt f R i (k + 1) (fun j => if j = i then true else h j)) := (HT.out true true hf hg).1 ⟨rfl, rfl⟩
              rw [hf] at x0
              rw [hg] at x1
              clear hf hg
              go_wp2
              go_roundw
              case rel => exact ⟨k + 1, A * 2 + 1, _, by go_num, by omega, HK2, NX, J0, JM, A2⟩
              case measure => simp [intOf]; omega
        · have hk' : k = n + 1 := by have := HK.out; omega
          subst hk'
          have hAW : ¬ A ≤ W := by have := ahead_gt n; rw [← EA.out, ← EW.out] at this; omega
          have AN : Hid (RepAt f R (i + 1) 1 h) := AT.out.next HR.out hi1 (by rw [EP.out]; omega)
          clear hk
          go_wp2
          go_roundw
          case rel => exact ⟨i + 1, h, by omega, by omega, by go_num, I0, MK, AN⟩
          case measure => simp [intOf]; omega
    · obtain rfl : i = W + 1 := by omega
      have HP : Hid (∀ p, p < 2 ^ n → (h p = true ↔ R p)) := fun p hp => AT.out.low p (by rw [← EP.out]; exact hp)
      go_wp2_with (first
        | (refine wpList_load_row rfl 115 (.tmp 5) rfl (w.heap.size + 1 + 1) rfl 115 (cellsP h) (0, 0) _ MK.out.own Try.underlying115 rfl (sizePS h) ?_)
        | (refine wpList_store_row rfl 115 (.tmp 4) (.tmp 34) rfl (w.heap.size + 1) (cellsP h) rfl rfl 115 _ MK.out.res (sizePS h) (by rw [cellsP_size, cellsP_size]) (cellsP_one h) ?_))
      exact bodyPost_ret (v := .agg (cellsP h)) (ret_set rfl _ MK.out rfl) rfl ⟨h, rfl, HP.out, MK.out.done.2⟩

theorem letterBit_any (at' : Nat) (w : World) (h : at' < 8) : Calls Try.prog 83 #[.int .i64 at'] w fun e w' => e = .returned (.int .i64 ((2 ^ at' : Nat) : Int)) ∧ w = w' := by
  go_enter Try.func83, Try.ntmps83
  go_wp2
  go_ret
  exact ⟨ret_int (pow_small' at' (by omega)), rfl⟩

theorem or_bit (n : Nat) : (2 ^ n - 1) ||| 2 ^ n = 2 ^ (n + 1) - 1 := by
  apply Nat.eq_of_testBit_eq
  intro i
  rw [Nat.testBit_or, Nat.testBit_two_pow_sub_one, Nat.testBit_two_pow_sub_one, Nat.testBit_two_pow]
  by_cases h : i < n
  · simp [h]; omega
  · by_cases e : i = n
    · subst e; simp
    · have h1 : ¬ i < n + 1 := by omega
      have h2 : ¬ n = i := fun x => e x.symm
      simp [h, h1, h2]
theorem wholePart_any (word : ByteArray) (w : World) (hw : word.size ≤ 8) : Calls Try.prog 62 #[.string word] w fun e w' => e = .returned (.int .i64 ((2 ^ word.size - 1 : Nat) : Int)) ∧ w = w' := by
  go_enter Try.func62, Try.ntmps62
  go_wp2
  go_loop [3, 4] (fun a' i' => ∃ (i A : Nat), i ≤ word.size ∧ i' = .int .i64 i ∧ a' = .int .i64 A ∧ Hid (A = 2 ^ i - 1)) (fun _ i' => word.size - (intOf i').toNat)
  case atStart => exact ⟨0, 0, by omega, rfl, rfl, rfl⟩
  case round =>
    obtain ⟨i, A, hi, rfl, rfl, EA⟩ := hrel
    by_cases hlt : i < word.size
    · have c1 := fun w => letterBit_any i w (by omega)
      have hA : 2 ^ i ≤ 256 := pow_le8 (by omega)
      have e1 : bits .or .i64 (A : Int) ((2 ^ i : Nat) : Int) = ((2 ^ (i + 1) - 1 : Nat) : Int) := by rw [EA.out, Flow.or_nat _ _ (by omega) (by omega), or_bit]
      have EA2 : Hid ((2 ^ (i + 1) - 1 : Nat) = 2 ^ (i + 1) - 1) := rfl
      generalize (2 ^ i : Nat) = B at c1 e1 hA
      obtain ⟨D, hD⟩ : ∃ D, D = 2 ^ (i + 1) - 1 := ⟨_, rfl⟩
      have ED : Hid (D = 2 ^ (i + 1) - 1) := hD
      rw [← hD] at e1
      clear hD EA2
      go_wp2_with (go_at_call 83; refine (c1 _).mono ?_; rintro e w' ⟨rfl, rfl⟩)
      go_round
      case rel => exact ⟨i + 1, D, by omega, by go_num, by go_num, ED⟩
      case measure => simp [intOf]; omega
    · obtain rfl : i = word.size := by omega
      go_wp2
      go_ret
      exact ⟨by rw [EA.out]; rfl, rfl⟩

/-- the parts that are one letter c -/
def taskTest (word : ByteArray) (c p at' : Nat) : Bool := decide (p = 2 ^ at') && decide (Flow.bt word at' = c)
set_option maxHeartbeats 1000000 in
theorem taskParts_any (word : ByteArray) (c : Nat) (w : World) (hw : word.size ≤ 8) : Calls Try.prog 84 #[.int .u8 c, .string word] w fun e w' => ∃ h, e = .returned (.agg (cellsP h)) ∧ (∀ p, h p = anyTo (taskTest word c p) word.size) ∧ Below w.heap.size w w' := by
  obtain ⟨hz, hsz⟩ := zero_of_info Try.infoPS
  clear hsz
  go_enter Try.func84, Try.ntmps84
  go_wp2
  have MK : Hid (Making w ((w.alloc (.cells (cellsP fun x => false) 115)).alloc (.cells (cellsP fun x => false) 115)) w.heap.size (w.heap.size + 1) (fun _ => false)) :=
    ⟨(Blk.new _ _ _).alloc _, Blk.new_at (by simp) _ _, ((Below.refl _ _).alloc (Nat.le_refl _) _).alloc (by simp) _, by omega, by omega, by omega⟩
  generalize (w.alloc (.cells (cellsP fun x => false) 115)).alloc (.cells (cellsP fun x => false) 115) = V at MK ⊢
  go_loopw [6] (fun i' wr => ∃ (i : Nat) (h : Nat → Bool), i ≤ word.size ∧ i' = .int .i64 i ∧ Hid (∀ p, h p = anyTo (taskTest word c p) i) ∧ Hid (Making w wr w.heap.size (w.heap.size + 1) h)) (fun i' _ => word.size - (intOf i').toNat)
  case atStart => exact ⟨0, fun _ => false, by omega, rfl, fun p => rfl, MK⟩
  case round =>
    clear MK
    obtain ⟨i, h, hi, rfl, HP, MK⟩ := hrel
    by_cases hlt : i < word.size
    · have c1 := fun w => letterBit_any i w (by omega)
      have h256 : 2 ^ i < 256 := by
        have h1 := Nat.pow_le_pow_right (n := 2) (by omega) (show i ≤ 7 by omega)
        have e : (2 : Nat) ^ 7 = 128 := by decide
        omega
      have HB : Hid (word[i].toNat = Flow.bt word i) := Flow.bt_at hlt
      have x3 := MK.out.cell (i := 2 ^ i) h256
      have y3 := MK.out.own.froz (2 ^ i)
      have z3 := MK.out.own.lt
      have JM : Hid (Making w (wr.setCell ⟨w.heap.size + 1, 2 ^ i, none⟩ (.bool true)) w.heap.size (w.heap.size + 1) (fun j => if j = 2 ^ i then true else h j)) := MK.out.set h256 true
      have S1 : Hid (Flow.bt word i = c → ∀ p, (if p = 2 ^ i then true else h p) = anyTo (taskTest word c p) (i + 1)) := by
        intro hb p
        show _ = (anyTo (taskTest word c p) i || taskTest word c p i)
        rw [← HP.out p]
        unfold taskTest
        by_cases e : p = 2 ^ i
        · rw [if_pos e, decide_eq_true e, decide_eq_true hb]; simp
        · rw [if_neg e, decide_eq_false e]; simp
      have S0 : Hid (¬ Flow.bt word i = c → ∀ p, h p = anyTo (taskTest word c p) (i + 1)) := by
        intro hb p
        show _ = (anyTo (taskTest word c p) i || taskTest word c p i)
        rw [← HP.out p]
        unfold taskTest
        rw [decide_eq_false hb]; simp
      have hI0 : (0 : Int) ≤ (i : Int) := by omega
      have hI1 : (i : Int) < (word.size : Int) := by omega
      obtain ⟨B, hB⟩ : ∃ B, B = 2 ^ i := ⟨_, rfl⟩
      rw [← hB] at c1 h256 x3 y3 JM S1
      have hB0 : (0 : Int) ≤ (B : Int) := by omega
      have hB1 : (B : Int) < 256 := by omega
      clear hB
      by_cases e : word[i].toNat = c
      · have te : ((word[i].toNat : Int) == (c : Int)) = true := by simp; omega
        have P1 : Hid (∀ p, (if p = B then true else h p) = anyTo (taskTest word c p) (i + 1)) := S1.out (by rw [← HB.out]; exact e)
        clear e
        go_wp2_with (go_at_call 83; refine (c1 _).mono ?_; rintro e w' ⟨rfl, rfl⟩)
        go_roundw
        case rel => exact ⟨i + 1, _, by omega, by go_num, P1, JM⟩
        case measure => simp [intOf]; omega
      · have te : ((word[i].toNat : Int) == (c : Int)) = false := by simp; omega
        have P0 : Hid (∀ p, h p = anyTo (taskTest word c p) (i + 1)) := S0.out (by rw [← HB.out]; exact e)
        clear e
        go_wp2_with (go_at_call 83; refine (c1 _).mono ?_; rintro e w' ⟨rfl, rfl⟩)
        go_roundw
        case rel => exact ⟨i + 1, _, by omega, by go_num, P0, MK⟩
        case measure => simp [intOf]; omega
    · obtain rfl : i = word.size := by omega
      go_wp2_with (first
        | (refine wpList_load_row rfl 115 (.tmp 5) rfl (w.heap.size + 1) rfl 115 (cellsP h) (0, 0) _ MK.out.own Try.underlying115 rfl (sizePS h) ?_)
        | (refine wpList_store_row rfl 115 (.tmp 4) _ rfl w.heap.size (cellsP h) rfl rfl 115 _ MK.out.res (sizePS h) (by rw [cellsP_size, cellsP_size]) (cellsP_one h) ?_))
      exact bodyPost_ret (v := .agg (cellsP h)) (ret_set rfl _ MK.out rfl) rfl ⟨h, rfl, HP.out, MK.out.done.2⟩
end Go.Proofs.Ytdlldljgogbiaab
