/-
  A search in memory, as the reference holds it; lay.
-/
import Derived.Test.YtdlldljgogbiaabGreatNextR
import Derived.RegionTactic
import Derived.BigRegion
namespace Go.Proofs.YtdlldljgogbiaabGreat
open Go.RowKit
set_option linter.unusedVariables false
set_option maxRecDepth 20000

theorem Tryz.infoI : (Tryz.prog.info? 3).map (fun i => (i.zero, i.size, i.bytes)) = some (some (.int .i64 0), 1, 8) := by kernel_rfl

/-- what is owned stays owned where a cell of another block is written -/
theorem owns_far {w : World} {base : Nat} {e : TypeId} {size : Nat} {v : Value} {n : Nat} {xs : List Value} (h : w.ownsRow base e size v n xs) {a : Addr} (ha : v.ownBlock ≠ some a.block) (u : Value) : (w.setCell a u).ownsRow base e size v n xs := by
  obtain ⟨h1, h2⟩ := h
  refine ⟨h1, ?_⟩
  rcases h2 with h2 | ⟨g, cap, cur, hv, hg, hh, r⟩
  · exact .inl h2
  · refine .inr ⟨g, cap, cur, hv, hg, ?_, r⟩
    rw [heap_setCell_other w a g u (by intro x; apply ha; rw [hv, x]; rfl)]
    exact hh

def cellsI (l : List Int) : List Value := l.map fun z => .int .i64 z
theorem cellsI_snoc (l : List Int) (z : Int) : cellsI (l ++ [z]) = cellsI l ++ [.int .i64 z] := by simp [cellsI]
def marksI (l : List Flow.Node) : List Int := l.map fun n => (n.mark : Int)
def frmsI (l : List Flow.Node) : List Int := l.map fun n => n.frm
def viasI (l : List Flow.Node) : List Int := l.map fun n => n.via

/-- the number of the marking m in the list, or -1 -/
def atI : List Flow.Node → Nat → Int
  | [], _ => -1
  | n :: r, m => if n.mark = m then 0 else if atI r m < 0 then -1 else atI r m + 1
theorem atI_bd (l : List Flow.Node) (m : Nat) : -1 ≤ atI l m ∧ atI l m < l.length := by
  induction l with
  | nil => simp [atI]
  | cons n r ih =>
    unfold atI
    by_cases h : n.mark = m
    · rw [if_pos h]; simp
    · rw [if_neg h]
      by_cases g : atI r m < 0
      · rw [if_pos g]; simp; omega
      · rw [if_neg g]; simp; omega
theorem atI_none {l : List Flow.Node} {m : Nat} : atI l m < 0 ↔ ∀ (q : Nat) (n : Flow.Node), l[q]? = some n → n.mark ≠ m := by
  induction l with
  | nil => simp [atI]
  | cons n r ih =>
    unfold atI
    by_cases h : n.mark = m
    · rw [if_pos h]
      constructor
      · intro x; omega
      · intro x; exact absurd h (x 0 n rfl)
    · rw [if_neg h]
      by_cases g : atI r m < 0
      · rw [if_pos g]
        have := ih.1 g
        constructor
        · intro _ q
          cases q with
          | zero => intro n' hn'; simp at hn'; rw [← hn']; exact h
          | succ q => intro n' hn'; exact this q n' (by simpa using hn')
        · intro _; decide
      · rw [if_neg g]
        constructor
        · intro x; omega
        · intro x
          exact absurd (ih.2 (fun q n' hn' => x (q + 1) n' (by simpa using hn'))) g
theorem atI_some {l : List Flow.Node} {m : Nat} (h : 0 ≤ atI l m) : ∃ n, l[(atI l m).toNat]? = some n ∧ n.mark = m := by
  induction l with
  | nil => simp [atI] at h
  | cons n r ih =>
    unfold atI at h ⊢
    by_cases e : n.mark = m
    · rw [if_pos e]; exact ⟨n, rfl, e⟩
    · rw [if_neg e] at h ⊢
      by_cases g : atI r m < 0
      · rw [if_pos g] at h; omega
      · rw [if_neg g] at h ⊢
        obtain ⟨n', hn', hm⟩ := ih (by omega)
        refine ⟨n', ?_, hm⟩
        have : (atI r m + 1).toNat = (atI r m).toNat + 1 := by omega
        rw [this]; simpa using hn'
theorem atI_snoc (l : List Flow.Node) (n : Flow.Node) (m : Nat) (hno : atI l n.mark < 0) : atI (l ++ [n]) m = if n.mark = m then (l.length : Int) else atI l m := by
  induction l with
  | nil => simp [atI]
  | cons x r ih =>
    have hx : x.mark ≠ n.mark := atI_none.1 hno 0 x rfl
    have hr : atI r n.mark < 0 := atI_none.2 (fun q n' hn' => atI_none.1 hno (q + 1) n' (by simpa using hn'))
    show (if x.mark = m then (0 : Int) else if atI (r ++ [n]) m < 0 then -1 else atI (r ++ [n]) m + 1) = _
    rw [ih hr]
    by_cases e : n.mark = m
    · rw [if_pos e, if_pos e, if_neg (by omega), if_neg (by omega)]; simp
    · rw [if_neg e, if_neg e]; rfl

theorem cell_one_at (W : World) (n : Nat) (hn : W.heap.size = n) (x : Value) (t : TypeId) : ∀ j u, [x][j]? = some u → (W.alloc (.cells #[x] t)).cell? ((⟨n, 0, none⟩ : Addr).add j) = some u := by
  subst hn; exact cell_one_new W x t

/-- the block of a slice -/
def obk (a : Option Addr) : Option Nat := a.map (·.block)
theorem ownBlock_slice (a : Option Addr) (n c : Nat) : (Value.slice a n c).ownBlock = obk a := by cases a <;> rfl

/-- the rows of a search lie apart -/
structure Apart (aM aF aB : Option Addr) (A B : Nat) : Prop where
  mA : obk aM ≠ some A
  mB : obk aM ≠ some B
  fA : obk aF ≠ some A
  fB : obk aF ≠ some B
  bA : obk aB ≠ some A
  bB : obk aB ≠ some B
  mf : ∀ g, obk aM = some g → obk aF ≠ some g
  mb : ∀ g, obk aM = some g → obk aB ≠ some g
  fb : ∀ g, obk aF = some g → obk aB ≠ some g

/-- block B holds three rows of numbers and the row A -/
structure Rows3 (w : World) (base B A : Nat) (LM LF LB : List Int) (aM aF aB : Option Addr) (cM cF cB : Nat) (arr : Array Value) : Prop where
  baseB : base ≤ B
  baseA : base ≤ A
  ne : A ≠ B
  blk : Blk w B #[.slice aM LM.length cM, .slice aF LF.length cF, .slice aB LB.length cB, .slice (some ⟨A, 0, none⟩) 65536 65536] 88
  rM : w.ownsRow base 3 1 (.slice aM LM.length cM) LM.length (cellsI LM)
  rF : w.ownsRow base 3 1 (.slice aF LF.length cF) LF.length (cellsI LF)
  rB : w.ownsRow base 3 1 (.slice aB LB.length cB) LB.length (cellsI LB)
  rA : Blk w A arr 3
  sA : arr.size = 65536
  apart : Apart aM aF aB A B

theorem owns_lt {w : World} {base : Nat} {e : TypeId} {size n c : Nat} {a : Option Addr} {xs : List Value} (h : w.ownsRow base e size (.slice a n c) n xs) {g : Nat} (hg : obk a = some g) : base ≤ g ∧ g < w.heap.size := h.lt g (by rw [ownBlock_slice]; exact hg)


theorem Rows3.below {w : World} {w1 : World} {base : Nat} {B : Nat} {A : Nat} {LM : List Int} {LF : List Int} {LB : List Int} {aM : Option Addr} {aF : Option Addr} {aB : Option Addr} {cM : Nat} {cF : Nat} {cB : Nat} {arr : Array Value} (h : Rows3 w base B A LM LF LB aM aF aB cM cF cB arr) (hb : Below w.heap.size w w1) : Rows3 w1 base B A LM LF LB aM aF aB cM cF cB arr :=
  ⟨h.baseB, h.baseA, h.ne, h.blk.below hb h.blk.lt, owns_below h.rM hb (Nat.le_refl _), owns_below h.rF hb (Nat.le_refl _), owns_below h.rB hb (Nat.le_refl _), h.rA.below hb h.rA.lt, h.sA, h.apart⟩

theorem Rows3.drew {w : World} {base : Nat} {B : Nat} {A : Nat} {LM : List Int} {LF : List Int} {LB : List Int} {aM : Option Addr} {aF : Option Addr} {aB : Option Addr} {cM : Nat} {cF : Nat} {cB : Nat} {arr : Array Value} (h : Rows3 w base B A LM LF LB aM aF aB cM cF cB arr) : Rows3 w.drew base B A LM LF LB aM aF aB cM cF cB arr :=
  ⟨h.baseB, h.baseA, h.ne, h.blk.drew, h.rM.drew, h.rF.drew, h.rB.drew, h.rA.drew, h.sA, h.apart⟩
/-- the row A is written -/
theorem Rows3.setA {w : World} {base : Nat} {B : Nat} {A : Nat} {LM : List Int} {LF : List Int} {LB : List Int} {aM : Option Addr} {aF : Option Addr} {aB : Option Addr} {cM : Nat} {cF : Nat} {cB : Nat} {arr : Array Value} (h : Rows3 w base B A LM LF LB aM aF aB cM cF cB arr) (m : Nat) (v : Value) : Rows3 (w.setCell ⟨A, m, none⟩ v) base B A LM LF LB aM aF aB cM cF cB (arr.setIfInBounds m v) :=
  ⟨h.baseB, h.baseA, h.ne, h.blk.far _ _ (fun x => h.ne x.symm), owns_far h.rM (by rw [ownBlock_slice]; exact h.apart.mA) _, owns_far h.rF (by rw [ownBlock_slice]; exact h.apart.fA) _, owns_far h.rB (by rw [ownBlock_slice]; exact h.apart.bA) _, h.rA.set m v, by simp [h.sA], h.apart⟩

theorem Rows3.blk1 {w : World} {w1 : World} {base : Nat} {B : Nat} {A : Nat} {LM : List Int} {LF : List Int} {LB : List Int} {aM : Option Addr} {aF : Option Addr} {aB : Option Addr} {cM : Nat} {cF : Nat} {cB : Nat} {arr : Array Value} {o : Obj} (h : Rows3 w base B A LM LF LB aM aF aB cM cF cB arr) {row : Option Nat} (hrow : row ≠ some B) (hgr : (w.alloc o).grownBy w1 row) : Blk w1 B #[.slice aM LM.length cM, .slice aF LF.length cF, .slice aB LB.length cB, .slice (some ⟨A, 0, none⟩) 65536 65536] 88 :=
  (h.blk.alloc o).grown hgr (fun x => hrow x.symm)

theorem Rows3.pushM {w : World} {w1 : World} {base : Nat} {B : Nat} {A : Nat} {LM : List Int} {LF : List Int} {LB : List Int} {aM : Option Addr} {aF : Option Addr} {aB : Option Addr} {cM : Nat} {cF : Nat} {cB : Nat} {arr : Array Value} {g : Nat} {c' : Nat} {o : Obj} (h : Rows3 w base B A LM LF LB aM aF aB cM cF cB arr) (z : Int) (hgr : (w.alloc o).grownBy w1 (obk aM))
    (hown : w1.ownsRow base 3 1 (.slice (some ⟨g, 0, none⟩) (LM.length + 1) c') (LM.length + 1) (cellsI LM ++ [.int .i64 z])) (hat : obk aM = some g ∨ g = w.heap.size + 1) :
    Rows3 (w1.setCell ⟨B, 0, none⟩ (.slice (some ⟨g, 0, none⟩) (LM.length + 1) c')) base B A (LM ++ [z]) LF LB (some ⟨g, 0, none⟩) aF aB c' cF cB arr := by
  have hB := h.blk.lt
  have hA := h.rA.lt
  have gA : g ≠ A := by rcases hat with x | x; exact fun e => h.apart.mA (by rw [x, e]); omega
  have gB : g ≠ B := by rcases hat with x | x; exact fun e => h.apart.mB (by rw [x, e]); omega
  have gF : obk aF ≠ some g := by
    rcases hat with x | x
    · exact h.apart.mf g x
    · intro e; have := (owns_lt h.rF e).2; omega
  have gC : obk aB ≠ some g := by
    rcases hat with x | x
    · exact h.apart.mb g x
    · intro e; have := (owns_lt h.rB e).2; omega
  have kF : w1.ownsRow base 3 1 (.slice aF LF.length cF) LF.length (cellsI LF) := (h.rF.alloc o).kept hgr (by
    rw [ownBlock_slice]
    cases e : obk aF with
    | none => exact .inl rfl
    | some x => exact .inr (fun y => h.apart.mf x y.symm e))
  have kB : w1.ownsRow base 3 1 (.slice aB LB.length cB) LB.length (cellsI LB) := (h.rB.alloc o).kept hgr (by
    rw [ownBlock_slice]
    cases e : obk aB with
    | none => exact .inl rfl
    | some x => exact .inr (fun y => h.apart.mb x y.symm e))
  refine ⟨h.baseB, h.baseA, h.ne, ?_, ?_, owns_far kF (by rw [ownBlock_slice]; exact h.apart.fB) _, owns_far kB (by rw [ownBlock_slice]; exact h.apart.bB) _, ?_, h.sA, ?_⟩
  · have := (h.blk1 h.apart.mB hgr).set 0 (.slice (some ⟨g, 0, none⟩) (LM.length + 1) c')
    simpa using this
  · rw [cellsI_snoc, List.length_append]
    exact owns_far hown (by show some g ≠ some B; simpa using gB) _
  · exact ((h.rA.alloc o).grown hgr (fun x => h.apart.mA x.symm)).far _ _ h.ne
  · refine ⟨by show some g ≠ some A; simpa using gA, by show some g ≠ some B; simpa using gB, h.apart.fA, h.apart.fB, h.apart.bA, h.apart.bB, ?_, ?_, h.apart.fb⟩
    · intro x hx; have : g = x := by simpa [obk] using hx
      rw [← this]; exact gF
    · intro x hx; have : g = x := by simpa [obk] using hx
      rw [← this]; exact gC

theorem Rows3.pushF {w : World} {w1 : World} {base : Nat} {B : Nat} {A : Nat} {LM : List Int} {LF : List Int} {LB : List Int} {aM : Option Addr} {aF : Option Addr} {aB : Option Addr} {cM : Nat} {cF : Nat} {cB : Nat} {arr : Array Value} {g : Nat} {c' : Nat} {o : Obj} (h : Rows3 w base B A LM LF LB aM aF aB cM cF cB arr) (z : Int) (hgr : (w.alloc o).grownBy w1 (obk aF))
    (hown : w1.ownsRow base 3 1 (.slice (some ⟨g, 0, none⟩) (LF.length + 1) c') (LF.length + 1) (cellsI LF ++ [.int .i64 z])) (hat : obk aF = some g ∨ g = w.heap.size + 1) :
    Rows3 (w1.setCell ⟨B, 1, none⟩ (.slice (some ⟨g, 0, none⟩) (LF.length + 1) c')) base B A LM (LF ++ [z]) LB aM (some ⟨g, 0, none⟩) aB cM c' cB arr := by
  have hB := h.blk.lt
  have hA := h.rA.lt
  have gA : g ≠ A := by rcases hat with x | x; exact fun e => h.apart.fA (by rw [x, e]); omega
  have gB : g ≠ B := by rcases hat with x | x; exact fun e => h.apart.fB (by rw [x, e]); omega
  have gM : obk aM ≠ some g := by
    rcases hat with x | x
    · intro e; exact h.apart.mf g e x
    · intro e; have := (owns_lt h.rM e).2; omega
  have gC : obk aB ≠ some g := by
    rcases hat with x | x
    · exact h.apart.fb g x
    · intro e; have := (owns_lt h.rB e).2; omega
  have kM : w1.ownsRow base 3 1 (.slice aM LM.length cM) LM.length (cellsI LM) := (h.rM.alloc o).kept hgr (by
    rw [ownBlock_slice]
    cases e : obk aM with
    | none => exact .inl rfl
    | some x => exact .inr (fun y => h.apart.mf x e y.symm))
  have kB : w1.ownsRow base 3 1 (.slice aB LB.length cB) LB.length (cellsI LB) := (h.rB.alloc o).kept hgr (by
    rw [ownBlock_slice]
    cases e : obk aB with
    | none => exact .inl rfl
    | some x => exact .inr (fun y => h.apart.fb x y.symm e))
  refine ⟨h.baseB, h.baseA, h.ne, ?_, owns_far kM (by rw [ownBlock_slice]; exact h.apart.mB) _, ?_, owns_far kB (by rw [ownBlock_slice]; exact h.apart.bB) _, ?_, h.sA, ?_⟩
  · have := (h.blk1 h.apart.fB hgr).set 1 (.slice (some ⟨g, 0, none⟩) (LF.length + 1) c')
    simpa using this
  · rw [cellsI_snoc, List.length_append]
    exact owns_far hown (by show some g ≠ some B; simpa using gB) _
  · exact ((h.rA.alloc o).grown hgr (fun x => h.apart.fA x.symm)).far _ _ h.ne
  · refine ⟨h.apart.mA, h.apart.mB, by show some g ≠ some A; simpa using gA, by show some g ≠ some B; simpa using gB, h.apart.bA, h.apart.bB, ?_, h.apart.mb, ?_⟩
    · intro x hx y; have : g = x := by simpa [obk] using y
      exact gM (by rw [this]; exact hx)
    · intro x hx; have : g = x := by simpa [obk] using hx
      rw [← this]; exact gC

theorem Rows3.pushB {w : World} {w1 : World} {base : Nat} {B : Nat} {A : Nat} {LM : List Int} {LF : List Int} {LB : List Int} {aM : Option Addr} {aF : Option Addr} {aB : Option Addr} {cM : Nat} {cF : Nat} {cB : Nat} {arr : Array Value} {g : Nat} {c' : Nat} {o : Obj} (h : Rows3 w base B A LM LF LB aM aF aB cM cF cB arr) (z : Int) (hgr : (w.alloc o).grownBy w1 (obk aB))
    (hown : w1.ownsRow base 3 1 (.slice (some ⟨g, 0, none⟩) (LB.length + 1) c') (LB.length + 1) (cellsI LB ++ [.int .i64 z])) (hat : obk aB = some g ∨ g = w.heap.size + 1) :
    Rows3 (w1.setCell ⟨B, 2, none⟩ (.slice (some ⟨g, 0, none⟩) (LB.length + 1) c')) base B A LM LF (LB ++ [z]) aM aF (some ⟨g, 0, none⟩) cM cF c' arr := by
  have hB := h.blk.lt
  have hA := h.rA.lt
  have gA : g ≠ A := by rcases hat with x | x; exact fun e => h.apart.bA (by rw [x, e]); omega
  have gB : g ≠ B := by rcases hat with x | x; exact fun e => h.apart.bB (by rw [x, e]); omega
  have gM : obk aM ≠ some g := by
    rcases hat with x | x
    · intro e; exact h.apart.mb g e x
    · intro e; have := (owns_lt h.rM e).2; omega
  have gF : obk aF ≠ some g := by
    rcases hat with x | x
    · intro e; exact h.apart.fb g e x
    · intro e; have := (owns_lt h.rF e).2; omega
  have kM : w1.ownsRow base 3 1 (.slice aM LM.length cM) LM.length (cellsI LM) := (h.rM.alloc o).kept hgr (by
    rw [ownBlock_slice]
    cases e : obk aM with
    | none => exact .inl rfl
    | some x => exact .inr (fun y => h.apart.mb x e y.symm))
  have kF : w1.ownsRow base 3 1 (.slice aF LF.length cF) LF.length (cellsI LF) := (h.rF.alloc o).kept hgr (by
    rw [ownBlock_slice]
    cases e : obk aF with
    | none => exact .inl rfl
    | some x => exact .inr (fun y => h.apart.fb x e y.symm))
  refine ⟨h.baseB, h.baseA, h.ne, ?_, owns_far kM (by rw [ownBlock_slice]; exact h.apart.mB) _, owns_far kF (by rw [ownBlock_slice]; exact h.apart.fB) _, ?_, ?_, h.sA, ?_⟩
  · have := (h.blk1 h.apart.bB hgr).set 2 (.slice (some ⟨g, 0, none⟩) (LB.length + 1) c')
    simpa using this
  · rw [cellsI_snoc, List.length_append]
    exact owns_far hown (by show some g ≠ some B; simpa using gB) _
  · exact ((h.rA.alloc o).grown hgr (fun x => h.apart.bA x.symm)).far _ _ h.ne
  · refine ⟨h.apart.mA, h.apart.mB, h.apart.fA, h.apart.fB, by show some g ≠ some A; simpa using gA, by show some g ≠ some B; simpa using gB, h.apart.mf, ?_, ?_⟩
    · intro x hx y; have : g = x := by simpa [obk] using y
      exact gM (by rw [this]; exact hx)
    · intro x hx y; have : g = x := by simpa [obk] using y
      exact gF (by rw [this]; exact hx)

/-- a search in memory: its markings are l -/
def WalkIn (w : World) (base B : Nat) (l : List Flow.Node) : Prop :=
  ∃ aM aF aB cM cF cB A arr, Rows3 w base B A (marksI l) (frmsI l) (viasI l) aM aF aB cM cF cB arr ∧ ∀ m, m < 65536 → arr[m]? = some (.int .i64 (atI l m))
theorem WalkIn.below {w w' : World} {base B : Nat} {l : List Flow.Node} (h : WalkIn w base B l) (hb : Below w.heap.size w w') : WalkIn w' base B l := by
  obtain ⟨aM, aF, aB, cM, cF, cB, A, arr, h, g⟩ := h
  exact ⟨aM, aF, aB, cM, cF, cB, A, arr, h.below hb, g⟩
theorem marksI_len (l : List Flow.Node) : (marksI l).length = l.length := by simp [marksI]
theorem frmsI_len (l : List Flow.Node) : (frmsI l).length = l.length := by simp [frmsI]
theorem viasI_len (l : List Flow.Node) : (viasI l).length = l.length := by simp [viasI]

set_option maxHeartbeats 2000000 in
theorem layR_any (l : List Flow.Node) (n : Flow.Node) (base B : Nat) (w : World) (hl : l.length < 65536) (hm : n.mark < 65536) (hno : atI l n.mark < 0) (hbase : base ≤ w.heap.size) (h : WalkIn w base B l) :
    Calls Tryz.prog 81 #[.pointer (some ⟨B, 0, none⟩), .int .i64 n.mark, .int .i64 n.frm, .int .i64 n.via] w fun e w' => e = .returned (.tuple #[]) ∧ WalkIn w' base B (l ++ [n]) ∧ Below base w w' := by
  obtain ⟨aM, aF, aB, cM, cF, cB, A, arr, h, hA⟩ := h
  have kM := marksI_len l
  have kF := frmsI_len l
  have kB := viasI_len l
  obtain ⟨LM, eM⟩ : ∃ LM, LM = marksI l := ⟨_, rfl⟩
  obtain ⟨LF, eF⟩ : ∃ LF, LF = frmsI l := ⟨_, rfl⟩
  obtain ⟨LB, eB⟩ : ∃ LB, LB = viasI l := ⟨_, rfl⟩
  rw [← eM] at h kM
  rw [← eF] at h kF
  rw [← eB] at h kB
  have EL : Hid (LM = marksI l ∧ LF = frmsI l ∧ LB = viasI l) := ⟨eM, eF, eB⟩
  have KL : Hid (LM.length = l.length ∧ LF.length = l.length ∧ LB.length = l.length) := ⟨kM, kF, kB⟩
  have hl1 : LM.length < 65536 := by omega
  have hl2 : LF.length < 65536 := by omega
  have hl3 : LB.length < 65536 := by omega
  clear eM eF eB kM kF kB hl
  have H : Hid (Rows3 w base B A LM LF LB aM aF aB cM cF cB arr) := h
  have HA : Hid (∀ m, m < 65536 → arr[m]? = some (.int .i64 (atI l m))) := hA
  have HN : Hid (atI l n.mark < 0) := hno
  have x0 : w.cell? ⟨B, 0, none⟩ = some (.slice aM LM.length cM) := h.blk.cell 0
  have x1 : w.cell? ⟨B, 1, none⟩ = some (.slice aF LF.length cF) := h.blk.cell 1
  have x2 : w.cell? ⟨B, 2, none⟩ = some (.slice aB LB.length cB) := h.blk.cell 2
  have x3 : w.cell? ⟨B, 3, none⟩ = some (.slice (some ⟨A, 0, none⟩) 65536 65536) := h.blk.cell 3
  have y0 := h.blk.froz 0
  have y1 := h.blk.froz 1
  have y2 := h.blk.froz 2
  have xa : w.cell? ⟨A, n.mark, none⟩ = some (.int .i64 (atI l n.mark)) := by rw [h.rA.cell]; exact hA n.mark hm
  have ya := h.rA.froz n.mark
  have hne : A ≠ B := h.ne
  have hne' : B ≠ A := fun x => h.ne x.symm
  have zB := h.blk.lt
  have zA := h.rA.lt
  have hI0 : (0 : Int) ≤ (n.mark : Int) := by omega
  have hI1 : (n.mark : Int) < 65536 := by omega
  clear h hA hno
  obtain ⟨i0, hi, hz0, hz1, hz2⟩ := info_parts Tryz.infoI
  go_enter Tryz.func81, Tryz.ntmps81
  go_wp2
  go_region
  have R0 : Hid (Rows3 ((w.setCell ⟨A, n.mark, none⟩ (.int .i64 LM.length)).drew) base B A LM LF LB aM aF aB cM cF cB (arr.setIfInBounds n.mark (.int .i64 LM.length))) := (H.out.setA n.mark (.int .i64 LM.length)).drew
  have BW : Hid (Below base w (w.setCell ⟨A, n.mark, none⟩ (.int .i64 LM.length)).drew) := ((Below.refl base w).setCell (p := ⟨A, n.mark, none⟩) H.out.baseA _).drew
  generalize (w.setCell ⟨A, n.mark, none⟩ (.int .i64 LM.length)).drew = W at R0 BW ⊢
  clear x0 x1 x2 x3 y0 y1 y2 xa ya zB zA
  have x0 : W.cell? ⟨B, 0, none⟩ = some (.slice aM LM.length cM) := R0.out.blk.cell 0
  have x1 : W.cell? ⟨B, 1, none⟩ = some (.slice aF LF.length cF) := R0.out.blk.cell 1
  have x2 : W.cell? ⟨B, 2, none⟩ = some (.slice aB LB.length cB) := R0.out.blk.cell 2
  have y0 := R0.out.blk.froz 0
  have zB := R0.out.blk.lt
  have hbW : base ≤ W.heap.size := by have := BW.out.size; omega
  have tok1 : True := trivial
  have tok2 : True := trivial
  go_wp2_with (first | (at_builtin; have _t := tok1; go_must (refine wpList_append_lies _ rfl _ _ 86 rfl base 3 i0 (.int .i64 0) 1 8 Tryz.underlying86 hi hz0 hz1 hz2 rfl (by decide) (.slice aM LM.length cM) _ _ rfl (R0.out.rM.alloc _) ⟨W.heap.size, 0, none⟩ 1 1 [.int .i64 n.mark] rfl rfl (cell_one_at _ _ (by simp) _ _) (fun x hx => by simp at hx; subst hx; rfl) (by decide) (by unfold maxLen; omega) (by omega) (by simp; omega) (W.heap.size + 1) (by simp) ?_; intro g1 c1 w1 own1 gr1 at1 lt1; rw [ownBlock_slice] at gr1 at1; have R1 : Hid (Rows3 (w1.setCell ⟨B, 0, none⟩ (.slice (some ⟨g1, 0, none⟩) (LM.length + 1) c1)) base B A (LM ++ [(n.mark : Int)]) LF LB (some ⟨g1, 0, none⟩) aF aB c1 cF cB _) := R0.out.pushM _ gr1 own1 at1; have K1 := R0.out.blk1 R0.out.apart.mB gr1; have p0 : w1.cell? ⟨B, 0, none⟩ = some (.slice aM LM.length cM) := K1.cell 0; have p1 : w1.cell? ⟨B, 1, none⟩ = some (.slice aF LF.length cF) := K1.cell 1; have p2 : w1.cell? ⟨B, 2, none⟩ = some (.slice aB LB.length cB) := K1.cell 2; have q0 := K1.froz 0; have zB1 := K1.lt; have hb1 : base ≤ w1.heap.size := (by have := gr1.size; simp at this; omega); have E1 : Hid (Below base w w1) := (BW.out.alloc hbW _).grown gr1 (by simp; omega) (fun k hk => (owns_lt R0.out.rM hk).1); clear K1 gr1 own1 at1 lt1 tok1)) | (at_builtin; have _t := tok2; go_must (refine wpList_append_lies _ rfl _ _ 86 rfl base 3 i0 (.int .i64 0) 1 8 Tryz.underlying86 hi hz0 hz1 hz2 rfl (by decide) (.slice aF LF.length cF) _ _ rfl (R1.out.rF.alloc _) ⟨w1.heap.size, 0, none⟩ 1 1 [.int .i64 n.frm] rfl rfl (cell_one_at _ _ (by simp) _ _) (fun x hx => by simp at hx; subst hx; rfl) (by decide) (by unfold maxLen; omega) (by omega) (by simp; omega) (w1.heap.size + 1) (by simp) ?_; intro g2 c2 w2 own2 gr2 at2 lt2; rw [ownBlock_slice] at gr2 at2; have R2 : Hid (Rows3 (w2.setCell ⟨B, 1, none⟩ (.slice (some ⟨g2, 0, none⟩) (LF.length + 1) c2)) base B A (LM ++ [(n.mark : Int)]) (LF ++ [n.frm]) LB (some ⟨g1, 0, none⟩) (some ⟨g2, 0, none⟩) aB c1 c2 cB _) := R1.out.pushF _ gr2 own2 (by simpa using at2); have K2 := R1.out.blk1 R1.out.apart.fB gr2; have r1 : w2.cell? ⟨B, 1, none⟩ = some (.slice aF LF.length cF) := K2.cell 1; have r2 : w2.cell? ⟨B, 2, none⟩ = some (.slice aB LB.length cB) := K2.cell 2; have s1 := K2.froz 1; have zB2 := K2.lt; have hb2 : base ≤ w2.heap.size := (by have := gr2.size; simp at this; omega); have E2 : Hid (Below base w w2) := ((E1.out.setCell (p := ⟨B, 0, none⟩) R0.out.baseB _).alloc (by simp; omega) _).grown gr2 (by simp; omega) (fun k hk => (owns_lt R1.out.rF hk).1); clear K2 gr2 own2 at2 lt2 tok2)) | (at_builtin; go_must (refine wpList_append_lies _ rfl _ _ 86 rfl base 3 i0 (.int .i64 0) 1 8 Tryz.underlying86 hi hz0 hz1 hz2 rfl (by decide) (.slice aB LB.length cB) _ _ rfl (R2.out.rB.alloc _) ⟨w2.heap.size, 0, none⟩ 1 1 [.int .i64 n.via] rfl rfl (cell_one_at _ _ (by simp) _ _) (fun x hx => by simp at hx; subst hx; rfl) (by decide) (by unfold maxLen; omega) (by omega) (by simp; omega) (w2.heap.size + 1) (by simp) ?_; intro g3 c3 w3 own3 gr3 at3 lt3; rw [ownBlock_slice] at gr3 at3; have R3 : Hid (Rows3 (w3.setCell ⟨B, 2, none⟩ (.slice (some ⟨g3, 0, none⟩) (LB.length + 1) c3)) base B A (LM ++ [(n.mark : Int)]) (LF ++ [n.frm]) (LB ++ [n.via]) (some ⟨g1, 0, none⟩) (some ⟨g2, 0, none⟩) (some ⟨g3, 0, none⟩) c1 c2 c3 _) := R2.out.pushB _ gr3 own3 (by simpa using at3); have K3 := R2.out.blk1 R2.out.apart.bB gr3; have t2 : w3.cell? ⟨B, 2, none⟩ = some (.slice aB LB.length cB) := K3.cell 2; have u2 := K3.froz 2; have E3 : Hid (Below base w w3) := ((E2.out.setCell (p := ⟨B, 1, none⟩) R0.out.baseB _).alloc (by simp; omega) _).grown gr3 (by simp; omega) (fun k hk => (owns_lt R2.out.rB hk).1); clear K3 gr3 own3 at3 lt3)))
  go_end0
  refine ⟨rfl, ⟨some ⟨g1, 0, none⟩, some ⟨g2, 0, none⟩, some ⟨g3, 0, none⟩, c1, c2, c3, A, arr.setIfInBounds n.mark (.int .i64 LM.length), ?_, ?_⟩, E3.out.setCell (p := ⟨B, 2, none⟩) R0.out.baseB _⟩
  · have e1 : marksI (l ++ [n]) = LM ++ [(n.mark : Int)] := by rw [EL.out.1]; simp [marksI]
    have e2 : frmsI (l ++ [n]) = LF ++ [n.frm] := by rw [EL.out.2.1]; simp [frmsI]
    have e3 : viasI (l ++ [n]) = LB ++ [n.via] := by rw [EL.out.2.2]; simp [viasI]
    rw [e1, e2, e3]
    exact R3.out
  · intro m hm'
    rw [atI_snoc l n m HN.out, KL.out.1]
    by_cases e : n.mark = m
    · subst e
      rw [if_pos rfl, Array.getElem?_setIfInBounds_self_of_lt (by rw [H.out.sA]; exact hm')]
    · rw [if_neg e, Array.getElem?_setIfInBounds_ne e]
      exact HA.out m hm'
end Go.Proofs.YtdlldljgogbiaabGreat
