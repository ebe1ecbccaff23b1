/-
  The program's step of a whole search.
-/
import Derived.Test.YtdlldljgogbiaabLabF
import Derived.RegionTactic
import Derived.BigRegion
namespace Go.Proofs.Ytdlldljgogbiaab
open Go.RowKit
set_option linter.unusedVariables false
set_option maxRecDepth 40000

theorem has_raw (B A m : Nat) (b : Bool) (w : World) (hm : m < 65536) (x1 : w.cell? ⟨B, 1, none⟩ = some (.slice (some ⟨A, 0, none⟩) 65536 65536)) (xa : w.cell? ⟨A, m, none⟩ = some (.bool b)) (zB : B < w.heap.size) (zA : A < w.heap.size) :
    Calls Try.prog 71 #[.pointer (some ⟨B, 0, none⟩), .int .i64 m] w fun e w' => e = .returned (.bool b) ∧ w = w' := by
  have hI0 : (0 : Int) ≤ (m : Int) := by omega
  have hI1 : (m : Int) < 65536 := by omega
  have d1 : decide ((0 : Int) ≤ (m : Int)) = true := decide_eq_true (by omega)
  have d2 : decide ((m : Int) < 65536) = true := decide_eq_true (by omega)
  clear hm
  go_enter Try.func71, Try.ntmps71
  go_wp2
  go_ret
  exact ⟨rfl, rfl⟩

theorem drop_at {l : List Flow.Node} {i : Nat} {n : Flow.Node} (h : l[i]? = some n) : l.drop i = n :: l.drop (i + 1) := by
  have hl := (List.getElem?_eq_some_iff.1 h).1
  rw [List.drop_eq_getElem_cons hl]
  have : l[i] = n := by rw [List.getElem?_eq_getElem hl] at h; injection h
  rw [this]
theorem drop_on {l : List Flow.Node} {i : Nat} {n : Flow.Node} (h : l[i]? = some n) : 0 ≤ atI (l.drop i) n.mark := by
  rw [drop_at h]; unfold atI; rw [if_pos rfl]; omega
theorem drop_next {l : List Flow.Node} {i m : Nat} {n : Flow.Node} (h : l[i]? = some n) (hm : n.mark ≠ m) : (0 ≤ atI (l.drop i) m) ↔ 0 ≤ atI (l.drop (i + 1)) m := by
  rw [drop_at h]
  show 0 ≤ (if n.mark = m then (0 : Int) else if atI (l.drop (i + 1)) m < 0 then -1 else atI (l.drop (i + 1)) m + 1) ↔ _
  rw [if_neg hm]
  by_cases g : atI (l.drop (i + 1)) m < 0
  · rw [if_pos g]; omega
  · rw [if_neg g]; omega
theorem drop_off {l : List Flow.Node} {i : Nat} {n : Flow.Node} (hf : Flow.Fine l) (h : l[i]? = some n) : ¬ 0 ≤ atI (l.drop (i + 1)) n.mark := by
  intro hx
  obtain ⟨x, h1, h2⟩ := atI_some hx
  rw [List.getElem?_drop] at h1
  have := hf.once i _ n x h h1 h2.symm
  omega

set_option maxHeartbeats 4000000 in
theorem stepOn_any (ts : List Flow.Tr) (S : Nat → Prop) (a : Option Addr) (cap base0 B : Nat) (l : List Flow.Node) (w : World) (hts : ∀ t ∈ ts, Flow.Small t) (hlen : ts.length ≤ 16) (hf : Flow.Fine l) (hS : ∀ g, S g → g < w.heap.size) (hrow : ∀ g, obk a = some g → S g)
    (hown : w.ownsRow base0 135 3 (.slice a ts.length cap) ts.length (cellsF ts)) (h : SeaS w S B l) :
    Calls Try.prog 70 #[.pointer (some ⟨B, 0, none⟩), .slice a ts.length cap] w fun e w' => e = .returned (.tuple #[]) ∧ SeaS w' S B (Flow.stepTo ts l l.length) ∧ Kept S w w' := by
  obtain ⟨aV, cV, A, arr, hB, hA, hV, hne, hap, hblk, hrows⟩ := h
  have OW : Hid (w.ownsRow base0 135 3 (.slice a ts.length cap) ts.length (cellsF ts)) := hown
  have HT : Hid (∀ t ∈ ts, Flow.Small t) := hts
  have HR : Hid (∀ g, obk a = some g → S g) := hrow
  have FN : Hid (Flow.Fine l) := hf
  have LE : Hid (ts.length ≤ 16) := hlen
  have h65 := hf.size
  have T0 : Hid (∀ g, (S g ∨ obk aV = some g) → g < w.heap.size) := by
    rintro g (hg | hg)
    · exact hS g hg
    · exact (owns_lt hrows.rV hg).2
  have TB : Hid (¬ (S B ∨ obk aV = some B)) := by rintro (x | x); exact hB x; exact hap x
  have TA : Hid (¬ (S A ∨ obk aV = some A)) := by rintro (x | x); exact hA x; exact hrows.ap x
  have x0 : w.cell? ⟨B, 0, none⟩ = some (.slice aV l.length cV) := hblk.cell 0
  have y0 := hblk.froz 0
  have zB := hblk.lt
  have K1 : Hid (Blk (w.setCell ⟨B, 0, none⟩ (.slice none 0 0)) B (seaC none 0 0 A) 70) := by
    show Blk _ _ _ _
    have := hblk.set 0 (.slice none 0 0)
    simpa using this
  have A1 : Hid (Blk (w.setCell ⟨B, 0, none⟩ (.slice none 0 0)) A arr 4) := hrows.rA.far _ _ hne
  have R0 : Hid (w.ownsRow 0 109 3 (.slice aV l.length cV) l.length (cellsV l)) := hrows.rV
  have SZ : Hid (arr.size = 65536) := hrows.sA
  have HH : Hid (∀ m, m < 65536 → arr[m]? = some (.bool (decide (0 ≤ atI (l.drop 0) m)))) := by
    intro m hm; rw [List.drop_zero]; exact hrows.has m hm
  have W1 : Hid (Kept (fun g => S g ∨ obk aV = some g) w (w.setCell ⟨B, 0, none⟩ (.slice none 0 0))) := (Kept.refl _ w).setCell (p := ⟨B, 0, none⟩) TB.out _
  have NE : Hid (A ≠ B) := hne
  clear hown hts hrow hf hlen hS hB hA hV hap hblk hrows hne
  go_enter Try.func70, Try.ntmps70
  go_wp2
  clear x0 y0 zB
  go_loopw [5] (fun i' wr => ∃ (i : Nat) (arr' : Array Value), i ≤ l.length ∧ i' = .int .i64 i ∧ Hid (Blk wr B (seaC none 0 0 A) 70) ∧ Hid (Blk wr A arr' 4) ∧ Hid (arr'.size = 65536) ∧ Hid (∀ m, m < 65536 → arr'[m]? = some (.bool (decide (0 ≤ atI (l.drop i) m)))) ∧ Hid (Kept (fun g => S g ∨ obk aV = some g) w wr)) (fun i' _ => l.length - (intOf i').toNat)
  case atStart => exact ⟨0, arr, by omega, rfl, K1, A1, SZ, HH, W1⟩
  case round =>
    clear K1 A1 SZ HH W1
    obtain ⟨i, arr', hil, rfl, KB, KA, SZ, HH, HW⟩ := hrel
    by_cases hlt : i < l.length
    · obtain ⟨n, hn⟩ : ∃ n, l[i]? = some n := ⟨_, List.getElem?_eq_getElem hlt⟩
      have hnm := FN.out.small i n hn
      have ro := owns_kept R0.out HW.out (fun g hg => .inr hg)
      obtain ⟨gV, cx, hv, _, l1⟩ := ro.form (by omega)
      injection hv with hv1 _ hv3
      subst hv1 hv3
      obtain ⟨d0, _, _⟩ := cellsV_get hn
      have e0 := ro.cellAt (i * 3) (by omega)
      rw [d0] at e0
      have x1 : wr.cell? ⟨B, 1, none⟩ = some (.slice (some ⟨A, 0, none⟩) 65536 65536) := KB.out.cell 1
      have xa : wr.cell? ⟨A, n.mark, none⟩ = some (.bool true) := by
        rw [KA.out.cell, HH.out n.mark hnm, decide_eq_true (drop_on hn)]
      have ya := KA.out.froz n.mark
      have zB := KB.out.lt
      have zA := KA.out.lt
      have ch := has_raw B A n.mark true wr hnm x1 xa zB zA
      have N : Hid (l[i]? = some n) := hn
      have NM : Hid (n.mark < 65536) := hnm
      have hI0 : (0 : Int) ≤ (i : Int) := by omega
      have hI1 : (i : Int) < (l.length : Int) := by omega
      have hM0 : (0 : Int) ≤ (n.mark : Int) := by omega
      have hM1 : (n.mark : Int) < 65536 := by omega
      have KB2 : Hid (Blk (wr.setCell ⟨A, n.mark, none⟩ (.bool false)) B (seaC none 0 0 A) 70) := KB.out.far _ _ (fun x => NE.out x.symm)
      have KA2 : Hid (Blk (wr.setCell ⟨A, n.mark, none⟩ (.bool false)) A (arr'.setIfInBounds n.mark (.bool false)) 4) := KA.out.set _ _
      have HW2 : Hid (Kept (fun g => S g ∨ obk (some ⟨gV, 0, none⟩) = some g) w (wr.setCell ⟨A, n.mark, none⟩ (.bool false))) := HW.out.setCell (p := ⟨A, n.mark, none⟩) TA.out _
      have HH2 : Hid (∀ m, m < 65536 → (arr'.setIfInBounds n.mark (.bool false))[m]? = some (.bool (decide (0 ≤ atI (l.drop (i + 1)) m)))) := by
        intro m hm
        by_cases e : n.mark = m
        · subst e
          rw [Array.getElem?_setIfInBounds_self_of_lt (by rw [SZ.out]; exact hm), decide_eq_false (drop_off FN.out hn)]
        · rw [Array.getElem?_setIfInBounds_ne e, HH.out m hm]
          congr 2
          rw [decide_eq_decide]
          exact drop_next hn e
      clear ro d0 hn hnm KB KA HW
      go_wp2_with (go_at_call 71; refine ch.mono ?_; rintro e w' ⟨rfl, rfl⟩)
      go_region
      all_goals go_wp2
      all_goals go_roundw
      all_goals (first | (simp [intOf]; omega) | exact ⟨i + 1, _, by omega, by go_num, KB2, KA2, by show _ = _; rw [Array.size_setIfInBounds]; exact SZ.out, HH2, HW2.out.drew⟩)
    · obtain rfl : i = l.length := by omega
      have IN0 : Hid (SeaS wr (fun g => S g ∨ obk aV = some g) B []) := by
        refine ⟨none, 0, A, arr', TB.out, TA.out, fun g hg => by simp [obk] at hg, NE.out, by simp [obk], KB.out, Nat.zero_le _, World.ownsRow_nil _ _ _ _, KA.out, SZ.out, by simp [obk], ?_⟩
        intro m hm
        rw [HH.out m hm, List.drop_length]
      clear KB KA SZ HH
      go_wp2
      obtain ⟨wo, rfl⟩ : ∃ wo : World, wo = wr := ⟨_, rfl⟩
      go_loopw [6] (fun i' wr => ∃ (i : Nat), i ≤ l.length ∧ i' = .int .i64 i ∧ Hid (SeaS wr (fun g => S g ∨ obk aV = some g) B (Flow.stepTo ts l i)) ∧ Hid (Kept (fun g => S g ∨ obk aV = some g) w wr)) (fun i' _ => l.length - (intOf i').toNat)
      case atStart => exact ⟨0, by omega, rfl, IN0, HW⟩
      case round =>
        clear IN0 HW hil hlt
        obtain ⟨i, hil, rfl, IN, HW⟩ := hrel
        by_cases hlt : i < l.length
        · obtain ⟨n, hn⟩ : ∃ n, l[i]? = some n := ⟨_, List.getElem?_eq_getElem hlt⟩
          have hnm := FN.out.small i n hn
          have T2 : ∀ g, (S g ∨ obk aV = some g) → g < wr.heap.size := fun g hg => Nat.lt_of_lt_of_le (T0.out g hg) HW.out.size
          have c1 : Calls Try.prog 82 #[.pointer (some ⟨B, 0, none⟩), .slice a ts.length cap, .int .i64 n.mark, .int .i64 0] wr fun e w' => e = .returned (.tuple #[]) ∧ SeaS w' (fun g => S g ∨ obk aV = some g) B (Flow.seenTo ts n.mark 0 (Flow.stepTo ts l i) ts.length) ∧ Kept (fun g => S g ∨ obk aV = some g) wr w' := visitNext_any ts (fun g => S g ∨ obk aV = some g) a cap n.mark 0 base0 B (Flow.stepTo ts l i) wr hnm HT.out LE.out (stepTo_fine HT.out FN.out i) T2 (fun g hg => .inl (HR.out g hg)) (owns_kept OW.out HW.out (fun g hg => .inl (HR.out g hg))) IN.out
          rw [← stepTo_at hn] at c1
          have ro := owns_kept R0.out HW.out (fun g hg => .inr hg)
          obtain ⟨gV, cx, hv, _, l1⟩ := ro.form (by omega)
          injection hv with hv1 _ hv3
          subst hv1 hv3
          obtain ⟨d0, _, _⟩ := cellsV_get hn
          have e0 := ro.cellAt (i * 3) (by omega)
          rw [d0] at e0
          have hI0 : (0 : Int) ≤ (i : Int) := by omega
          have hI1 : (i : Int) < (l.length : Int) := by omega
          clear ro d0 hn hnm T2
          go_wp2_with (go_at_call 82; refine c1.mono ?_; rintro e w2 ⟨rfl, hin, hbel⟩; have IN3 : Hid (SeaS w2 (fun g => S g ∨ obk (some ⟨gV, 0, none⟩) = some g) B (Flow.stepTo ts l (i + 1))) := hin; have HW3 : Hid (Kept (fun g => S g ∨ obk (some ⟨gV, 0, none⟩) = some g) w w2) := HW.out.trans hbel; clear hin hbel)
          all_goals go_roundw
          all_goals (first | (simp [intOf]; omega) | exact ⟨i + 1, by omega, by go_num, IN3, HW3⟩)
        · obtain rfl : i = l.length := by omega
          go_wp2
          go_end0
          exact ⟨rfl, IN.out.more (Below.refl _ _) (fun k hk => .inl (.inl hk)), HW.out.mono (fun k hk => .inl hk)⟩
end Go.Proofs.Ytdlldljgogbiaab
