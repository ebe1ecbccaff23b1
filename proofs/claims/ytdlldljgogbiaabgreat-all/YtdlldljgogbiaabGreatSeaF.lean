/-
  A search in memory, as the program holds it; visit and has.
-/
import Derived.Test.YtdlldljgogbiaabGreatLayR
import Derived.Test.YtdlldljgogbiaabGreatKeep
import Derived.Test.YtdlldljgogbiaabGreatText
import Derived.Laws.MakeOwn
import Derived.Deep.QuietTactic
import Derived.BigQuiet
namespace Go.Proofs.YtdlldljgogbiaabGreat
open Go.RowKit
set_option linter.unusedVariables false
set_option maxRecDepth 20000

theorem Tryz.infoV : (Tryz.prog.info? 124).map (fun i => (i.zero, i.size, i.bytes)) = some (some (.agg #[.int .i64 0, .int .i64 0, .int .i64 0]), 3, 24) := by kernel_rfl
theorem Tryz.infoO : (Tryz.prog.info? 4).map (fun i => (i.zero, i.size, i.bytes)) = some (some (.bool false), 1, 1) := by kernel_rfl

/-- the cells of a list of visits -/
def cellsV (l : List Flow.Node) : List Value := l.flatMap fun n => [.int .i64 n.mark, .int .i64 (n.frm.toNat : Int), .int .i64 (n.via.toNat : Int)]
theorem cellsV_snoc (l : List Flow.Node) (n : Flow.Node) : cellsV (l ++ [n]) = cellsV l ++ [.int .i64 n.mark, .int .i64 (n.frm.toNat : Int), .int .i64 (n.via.toNat : Int)] := by simp [cellsV]
theorem cellsV_get {l : List Flow.Node} {k : Nat} {n : Flow.Node} (h : l[k]? = some n) : (cellsV l)[k * 3]? = some (.int .i64 n.mark) ∧ (cellsV l)[k * 3 + 1]? = some (.int .i64 (n.frm.toNat : Int)) ∧ (cellsV l)[k * 3 + 2]? = some (.int .i64 (n.via.toNat : Int)) := by
  induction l generalizing k with
  | nil => simp at h
  | cons x r ih =>
    cases k with
    | zero => simp at h; subst h; simp [cellsV]
    | succ k =>
      have := ih (k := k) (by simpa using h)
      have e : cellsV (x :: r) = [.int .i64 x.mark, .int .i64 (x.frm.toNat : Int), .int .i64 (x.via.toNat : Int)] ++ cellsV r := by simp [cellsV]
      rw [e, List.getElem?_append_right (by simp; omega), List.getElem?_append_right (by simp; omega), List.getElem?_append_right (by simp; omega)]
      have e0 : (k + 1) * 3 - 3 = k * 3 := by omega
      have e1 : (k + 1) * 3 + 1 - 3 = k * 3 + 1 := by omega
      have e2 : (k + 1) * 3 + 2 - 3 = k * 3 + 2 := by omega
      simpa [e0, e1, e2] using this

/-- the cells of a search -/
abbrev seaC (aV : Option Addr) (n cV A : Nat) : Array Value := #[.slice aV n cV, .slice (some ⟨A, 0, none⟩) 65536 65536]
/-- the rows of a search -/
structure SeaRows (w : World) (base A : Nat) (l : List Flow.Node) (aV : Option Addr) (cV : Nat) (arr : Array Value) : Prop where
  baseA : base ≤ A
  rV : w.ownsRow base 124 3 (.slice aV l.length cV) l.length (cellsV l)
  rA : Blk w A arr 4
  sA : arr.size = 65536
  ap : obk aV ≠ some A
  has : ∀ m, m < 65536 → arr[m]? = some (.bool (decide (0 ≤ atI l m)))
/-- block B holds a search whose markings are l -/
def SeaIn (w : World) (base B : Nat) (l : List Flow.Node) : Prop :=
  ∃ aV cV A arr, base ≤ B ∧ A ≠ B ∧ obk aV ≠ some B ∧ Blk w B (seaC aV l.length cV A) 79 ∧ SeaRows w base A l aV cV arr

theorem SeaRows.below {w : World} {w1 : World} {base : Nat} {A : Nat} {l : List Flow.Node} {aV : Option Addr} {cV : Nat} {arr : Array Value} (h : SeaRows w base A l aV cV arr) (hb : Below w.heap.size w w1) : SeaRows w1 base A l aV cV arr :=
  ⟨h.baseA, owns_below h.rV hb (Nat.le_refl _), h.rA.below hb h.rA.lt, h.sA, h.ap, h.has⟩
theorem SeaRows.lower {w : World} {base : Nat} {A : Nat} {l : List Flow.Node} {aV : Option Addr} {cV : Nat} {arr : Array Value} (h : SeaRows w base A l aV cV arr) {base' : Nat} (hb : base' ≤ base) : SeaRows w base' A l aV cV arr :=
  ⟨Nat.le_trans hb h.baseA, owns_base h.rV hb, h.rA, h.sA, h.ap, h.has⟩
theorem SeaIn.below {w : World} {w1 : World} {base : Nat} {B : Nat} {l : List Flow.Node} (h : SeaIn w base B l) (hb : Below w.heap.size w w1) : SeaIn w1 base B l := by
  obtain ⟨aV, cV, A, arr, h1, h2, h3, h4, h5⟩ := h
  exact ⟨aV, cV, A, arr, h1, h2, h3, h4.below hb h4.lt, h5.below hb⟩
theorem SeaIn.drewN {w : World} {base : Nat} {B : Nat} {l : List Flow.Node} (h : SeaIn w base B l) (n : Nat) : SeaIn (w.drewN n) base B l := h.below ⟨rfl, rfl, rfl, Nat.le_refl _, fun _ _ => rfl⟩
theorem SeaIn.drew {w : World} {base : Nat} {B : Nat} {l : List Flow.Node} (h : SeaIn w base B l) : SeaIn w.drew base B l := h.below ⟨rfl, rfl, rfl, Nat.le_refl _, fun _ _ => rfl⟩
/-- what is read of a search in memory -/
theorem SeaIn.look {w : World} {base : Nat} {B : Nat} {l : List Flow.Node} (h : SeaIn w base B l) : ∃ aV cV A, w.cell? ⟨B, 0, none⟩ = some (.slice aV l.length cV) ∧ w.cell? ⟨B, 1, none⟩ = some (.slice (some ⟨A, 0, none⟩) 65536 65536) ∧ B < w.heap.size ∧ A < w.heap.size ∧ base ≤ B ∧
    (∀ m, m < 65536 → w.cell? ⟨A, m, none⟩ = some (.bool (decide (0 ≤ atI l m)))) ∧
    (∀ (i : Nat) (n : Flow.Node), l[i]? = some n → ∃ g, aV = some ⟨g, 0, none⟩ ∧ g < w.heap.size ∧ w.cell? ⟨g, i * 3, none⟩ = some (.int .i64 n.mark) ∧ w.cell? ⟨g, i * 3 + 1, none⟩ = some (.int .i64 (n.frm.toNat : Int)) ∧ w.cell? ⟨g, i * 3 + 2, none⟩ = some (.int .i64 (n.via.toNat : Int))) := by
  obtain ⟨aV, cV, A, arr, h1, h2, h3, h4, h5⟩ := h
  refine ⟨aV, cV, A, h4.cell 0, h4.cell 1, h4.lt, h5.rA.lt, h1, fun m hm => by rw [h5.rA.cell]; exact h5.has m hm, ?_⟩
  intro i n hi
  have hil := (List.getElem?_eq_some_iff.1 hi).1
  obtain ⟨g, c1, e1, _, l1⟩ := h5.rV.form (by omega)
  injection e1 with e1 _ f1
  subst e1
  obtain ⟨d0, d1, d2⟩ := cellsV_get hi
  exact ⟨g, rfl, l1, by rw [h5.rV.cellAt (i * 3) (by omega)]; exact d0, by rw [h5.rV.cellAt (i * 3 + 1) (by omega)]; exact d1, by rw [h5.rV.cellAt (i * 3 + 2) (by omega)]; exact d2⟩

/-- block B holds a search whose markings are l, and touches none of the blocks S -/
def SeaS (w : World) (S : Nat → Prop) (B : Nat) (l : List Flow.Node) : Prop :=
  ∃ aV cV A arr, ¬ S B ∧ ¬ S A ∧ (∀ g, obk aV = some g → ¬ S g) ∧ A ≠ B ∧ obk aV ≠ some B ∧ Blk w B (seaC aV l.length cV A) 79 ∧ SeaRows w 0 A l aV cV arr
theorem SeaS.sea {w : World} {S : Nat → Prop} {base B : Nat} {l : List Flow.Node} (h : SeaS w S B l) (hS : ∀ k, k < base → S k) : SeaIn w base B l := by
  obtain ⟨aV, cV, A, arr, h1, h2, h3, h4, h5, h6, h7⟩ := h
  have low : ∀ k, ¬ S k → base ≤ k := fun k hk => Nat.le_of_not_lt fun hl => hk (hS k hl)
  exact ⟨aV, cV, A, arr, low B h1, h4, h5, h6, low A h2, owns_up h7.rV (fun g hg => low g (h3 g hg)), h7.rA, h7.sA, h7.ap, h7.has⟩
theorem SeaIn.seaS {w : World} {S : Nat → Prop} {base B : Nat} {l : List Flow.Node} (h : SeaIn w base B l) (hS : ∀ k, S k → k < base) : SeaS w S B l := by
  obtain ⟨aV, cV, A, arr, h1, h2, h3, h4, h5⟩ := h
  refine ⟨aV, cV, A, arr, fun x => ?_, fun x => ?_, fun g hg x => ?_, h2, h3, h4, h5.lower (Nat.zero_le _)⟩
  · have := hS _ x; omega
  · have := hS _ x; have := h5.baseA; omega
  · have := hS _ x; have := (owns_lt h5.rV hg).1; omega
theorem SeaS.below {w w1 : World} {S : Nat → Prop} {B : Nat} {l : List Flow.Node} (h : SeaS w S B l) (hb : Below w.heap.size w w1) : SeaS w1 S B l := by
  obtain ⟨aV, cV, A, arr, h1, h2, h3, h4, h5, h6, h7⟩ := h
  exact ⟨aV, cV, A, arr, h1, h2, h3, h4, h5, h6.below hb h6.lt, h7.below hb⟩
/-- blocks that are new, or that it does not touch, may be added to S -/
theorem SeaS.more {w w1 : World} {S T : Nat → Prop} {B : Nat} {l : List Flow.Node} (h : SeaS w S B l) (hb : Below w.heap.size w w1) (hT : ∀ k, T k → S k ∨ w.heap.size ≤ k) : SeaS w1 T B l := by
  obtain ⟨aV, cV, A, arr, h1, h2, h3, h4, h5, h6, h7⟩ := h
  have no : ∀ k, k < w.heap.size → ¬ S k → ¬ T k := fun k hk hs ht => by
    rcases hT k ht with x | x
    · exact hs x
    · omega
  exact ⟨aV, cV, A, arr, no B h6.lt h1, no A h7.rA.lt h2, fun g hg => no g (owns_lt h7.rV hg).2 (h3 g hg), h4, h5, h6.below hb h6.lt, h7.below hb⟩

/-- a marking that was visited before -/
theorem visit_old (l : List Flow.Node) (S : Nat → Prop) (m p k B : Nat) (w : World) (hm : m < 65536) (hat : 0 ≤ atI l m) (h : SeaS w S B l) :
    Calls Tryz.prog 79 #[.pointer (some ⟨B, 0, none⟩), .int .i64 m, .int .i64 p, .int .i64 k] w fun e w' => e = .returned (.tuple #[]) ∧ w = w' := by
  obtain ⟨aV, cV, A, x0, x1, zB, zA, _, ha, _⟩ := (h.sea (base := 0) (fun k hk => by omega)).look
  have xa := ha m hm
  rw [decide_eq_true hat] at xa
  have hI0 : (0 : Int) ≤ (m : Int) := by omega
  have hI1 : (m : Int) < 65536 := by omega
  clear ha h
  go_enter Tryz.func79, Tryz.ntmps79
  go_wp2
  refine bodyPost_ret (results_none rfl _ _ _) rfl ?_
  exact ⟨rfl, rfl⟩

set_option maxHeartbeats 400000 in
/-- a marking that is new -/
theorem visit_new (l : List Flow.Node) (S : Nat → Prop) (n : Flow.Node) (p k B : Nat) (w : World) (hp : n.frm.toNat = p) (hk : n.via.toNat = k) (hl : l.length < 65536) (hm : n.mark < 65536) (hno : atI l n.mark < 0) (hS : ∀ g, S g → g < w.heap.size) (h : SeaS w S B l) :
    Calls Tryz.prog 79 #[.pointer (some ⟨B, 0, none⟩), .int .i64 n.mark, .int .i64 p, .int .i64 k] w fun e w' => e = .returned (.tuple #[]) ∧ SeaS w' S B (l ++ [n]) ∧ Kept S w w' := by
  obtain ⟨aV, cV, A, arr, hB, hA, hV, hne, hap, hblk, hrows⟩ := h
  have x0 : w.cell? ⟨B, 0, none⟩ = some (.slice aV l.length cV) := hblk.cell 0
  have x1 : w.cell? ⟨B, 1, none⟩ = some (.slice (some ⟨A, 0, none⟩) 65536 65536) := hblk.cell 1
  have xa : w.cell? ⟨A, n.mark, none⟩ = some (.bool false) := by
    rw [hrows.rA.cell, hrows.has _ hm, decide_eq_false (by omega)]
  have ya := hrows.rA.froz n.mark
  have zB := hblk.lt
  have zA := hrows.rA.lt
  have hne' : B ≠ A := fun x => hne x.symm
  have hI0 : (0 : Int) ≤ (n.mark : Int) := by omega
  have hI1 : (n.mark : Int) < 65536 := by omega
  have K : Hid (Blk w B (seaC aV l.length cV A) 79) := hblk
  have R : Hid (SeaRows w 0 A l aV cV arr) := hrows
  have HN : Hid (atI l n.mark < 0) := hno
  have hl1 : (l.length : Int) < 65536 := by omega
  have HL : Hid (l.length < 65536 ∧ n.mark < 65536) := ⟨hl, hm⟩
  have HS : Hid (∀ g, S g → g < w.heap.size) := hS
  have HB : Hid (¬ S B) := hB
  have HA : Hid (¬ S A) := hA
  have HV : Hid (∀ g, obk aV = some g → ¬ S g) := hV
  clear hblk hrows hno hl hm hS hB hA hV
  have d1 : decide ((n.mark : Int) < 0) = false := decide_eq_false (by omega)
  have d2 : decide ((65536 : Int) ≤ (n.mark : Int)) = false := decide_eq_false (by omega)
  obtain ⟨i0, hi, hz0, hz1, hz2⟩ := info_parts Tryz.infoV
  go_enter Tryz.func79, Tryz.ntmps79
  have R0 : Hid ((w.setCell ⟨A, n.mark, none⟩ (.bool true)).ownsRow 0 124 3 (.slice aV l.length cV) l.length (cellsV l)) := owns_far R.out.rV (by rw [ownBlock_slice]; exact R.out.ap) _
  have K0 : Hid (Blk (w.setCell ⟨A, n.mark, none⟩ (.bool true)) B (seaC aV l.length cV A) 79) := K.out.far _ _ hne'
  have A0 : Hid (Blk (w.setCell ⟨A, n.mark, none⟩ (.bool true)) A (arr.setIfInBounds n.mark (.bool true)) 4) := R.out.rA.set _ _
  have BW : Hid (Kept S w (w.setCell ⟨A, n.mark, none⟩ (.bool true))) := (Kept.refl S w).setCell (p := ⟨A, n.mark, none⟩) HA.out _
  go_wp2_with (at_builtin; go_must (refine wpList_append_lies _ rfl _ _ 76 rfl 0 124 i0 (.agg #[.int .i64 0, .int .i64 0, .int .i64 0]) 3 24 Tryz.underlying76 hi hz0 hz1 hz2 rfl (by decide) (.slice aV l.length cV) _ _ rfl (R0.out.alloc _) ⟨w.heap.size, 0, none⟩ 1 1 [.int .i64 n.mark, .int .i64 p, .int .i64 k] rfl rfl (cell_three_at _ _ (by simp) _ _ _ _) (fun x hx => by simp at hx; rcases hx with rfl | rfl | rfl <;> rfl) (by decide) (by unfold maxLen; omega) (by omega) (by simp) (w.heap.size + 1) (by simp) ?_; intro g1 c1 w1 own1 gr1 at1 lt1; rw [ownBlock_slice] at gr1 at1; have K1 := (K0.out.alloc _).grown gr1 (fun x => hap x.symm); have p0 : w1.cell? ⟨B, 0, none⟩ = some (.slice aV l.length cV) := K1.cell 0; have q0 := K1.froz 0; have zB1 := K1.lt; have O1 : Hid (w1.ownsRow 0 124 3 (.slice (some ⟨g1, 0, none⟩) (l.length + 1) c1) (l.length + 1) (cellsV l ++ [.int .i64 n.mark, .int .i64 p, .int .i64 k])) := own1; have AT : Hid (obk aV = some g1 ∨ g1 = w.heap.size + 1) := at1; have KB : Hid (Blk w1 B (seaC aV l.length cV A) 79) := K1; have KA : Hid (Blk w1 A (arr.setIfInBounds n.mark (.bool true)) 4) := (A0.out.alloc _).grown gr1 (fun x => R.out.ap x.symm); have E1 : Hid (Kept S w w1) := (BW.out.alloc (fun g hg => by have := HS.out g hg; simpa using this) _).grown gr1 (fun g hg => by have := HS.out g hg; simp; omega) (fun j hj => HV.out j hj); clear K1 gr1 own1 at1 lt1))
  go_end0
  have gA : g1 ≠ A := by
    rcases AT.out with x | x
    · exact fun e => R.out.ap (by rw [x, e])
    · omega
  have gB : g1 ≠ B := by
    rcases AT.out with x | x
    · exact fun e => hap (by rw [x, e])
    · omega
  have gS : ¬ S g1 := by
    rcases AT.out with x | x
    · exact HV.out g1 x
    · intro y; have := HS.out g1 y; omega
  refine ⟨rfl, ⟨some ⟨g1, 0, none⟩, c1, A, arr.setIfInBounds n.mark (.bool true), HB.out, HA.out, fun g hg => ?_, hne, by show some g1 ≠ some B; simpa using gB, ?_, Nat.zero_le _, ?_, KA.out.far _ _ hne, by simp [R.out.sA], by show some g1 ≠ some A; simpa using gA, ?_⟩, E1.out.setCell (p := ⟨B, 0, none⟩) HB.out _⟩
  · have : g1 = g := by simpa [obk] using hg
    rw [← this]; exact gS
  · have := KB.out.set 0 (.slice (some ⟨g1, 0, none⟩) (l.length + 1) c1)
    simpa using this
  · rw [cellsV_snoc, List.length_append, hp, hk]
    exact owns_far O1.out (by show some g1 ≠ some B; simpa using gB) _
  · intro m hm'
    rw [atI_snoc l n m HN.out]
    by_cases e : n.mark = m
    · subst e
      rw [if_pos rfl, Array.getElem?_setIfInBounds_self_of_lt (by rw [R.out.sA]; exact hm'), decide_eq_true (by omega)]
    · rw [if_neg e, Array.getElem?_setIfInBounds_ne e]
      exact R.out.has m hm'
end Go.Proofs.YtdlldljgogbiaabGreat
