/-
  The reference's lists of markings: has, with.
-/
import Derived.Test.YtdlldljgogbiaabSpell
import Derived.Test.YtdlldljgogbiaabLayR
import Derived.Deep.QuietTactic
import Derived.BigQuiet
import Derived.RegionCalls
import Derived.Deep.RegionWith
namespace Go.Proofs.Ytdlldljgogbiaab
open Go.RowKit
set_option linter.unusedVariables false
set_option maxRecDepth 20000

/-- markings as cells -/
def cellsN (l : List Nat) : List Value := l.map fun (m : Nat) => .int .i64 (m : Int)
theorem cellsN_snoc (l : List Nat) (m : Nat) : cellsN (l ++ [m]) = cellsN l ++ [.int .i64 (m : Int)] := by simp [cellsN]
theorem cellsN_get {l : List Nat} {i m : Nat} (h : l[i]? = some m) : (cellsN l)[i]? = some (.int .i64 (m : Int)) := by simp [cellsN, h]

set_option maxHeartbeats 1000000 in
theorem inList_any (l : List Nat) (m : Nat) (a : Option Addr) (cap base : Nat) (w : World) (hl : l.length ≤ 65536) (hown : w.ownsRow base 3 1 (.slice a l.length cap) l.length (cellsN l)) :
    Calls Try.prog 55 #[.slice a l.length cap, .int .i64 m] w fun e w' => e = .returned (.bool (decide (m ∈ l))) ∧ w = w' := by
  have OW : Hid (w.ownsRow base 3 1 (.slice a l.length cap) l.length (cellsN l)) := hown
  have HL : Hid (l.length ≤ 65536) := hl
  clear hown
  go_enter Try.func55, Try.ntmps55
  go_wp2
  go_loop [5] (fun i' => ∃ (i : Nat), i ≤ l.length ∧ i' = .int .i64 i ∧ Hid (∀ (p x : Nat), p < i → l[p]? = some x → x ≠ m)) (fun i' => l.length - (intOf i').toNat)
  case atStart => exact ⟨0, by omega, rfl, fun p x hp => by omega⟩
  case round =>
    obtain ⟨i, hil, rfl, HN⟩ := hrel
    by_cases hlt : i < l.length
    · obtain ⟨x, hx⟩ : ∃ x, l[i]? = some x := ⟨_, List.getElem?_eq_getElem hlt⟩
      obtain ⟨g, capx, hv, _, hg2⟩ := OW.out.form (by omega)
      injection hv with hv1 _ hv3
      subst hv1 hv3
      have t0 := OW.out.cellAt i (by omega)
      rw [cellsN_get hx] at t0
      have hI0 : (0 : Int) ≤ (i : Int) := by omega
      have hI1 : (i : Int) < (l.length : Int) := by omega
      have N : Hid (l[i]? = some x) := hx
      clear hx
      by_cases he : x = m
      · have te : ((x : Int) == (m : Int)) = true := by rw [he]; simp
        have R : Hid (decide (m ∈ l) = true) := decide_eq_true (by rw [← he]; exact List.mem_of_getElem? N.out)
        clear he
        go_wp2
        go_ret
        exact ⟨by rw [R.out]; rfl, rfl⟩
      · have te : ((x : Int) == (m : Int)) = false := by simp; omega
        have HN' : Hid (∀ (p x : Nat), p < i + 1 → l[p]? = some x → x ≠ m) := by
          intro p y hp hy
          by_cases e : p = i
          · subst e; rw [N.out] at hy; injection hy with hy; rw [← hy]; exact he
          · exact HN.out p y (by omega) hy
        clear he
        go_wp2
        go_round
        case rel => exact ⟨i + 1, by omega, by go_num, HN'⟩
        case measure => simp [intOf]; omega
    · obtain rfl : i = l.length := by omega
      have R : Hid (decide (m ∈ l) = false) := decide_eq_false (fun h => by
        obtain ⟨p, hp⟩ := List.mem_iff_getElem?.1 h
        exact HN.out p m (List.getElem?_eq_some_iff.1 hp).1 hp rfl)
      go_wp2
      go_ret
      exact ⟨by rw [R.out]; rfl, rfl⟩

theorem grown_alloc {w w1 : World} {o : Obj} {row : Option Nat} (h : (w.alloc o).grownBy w1 row) : w.grownBy w1 row :=
  ⟨h.os, h.tape, h.output, by have := h.size; simp at this; omega, fun k hk hr => (h.block k (by simp; omega) hr).trans (Below.heap_alloc w o k hk)⟩
theorem grown_refl (w : World) (row : Option Nat) : w.grownBy w row := ⟨rfl, rfl, rfl, Nat.le_refl _, fun _ _ _ => rfl⟩

theorem with_old (l : List Nat) (m : Nat) (a : Option Addr) (cap base : Nat) (w : World) (hl : l.length ≤ 65536) (hin : m ∈ l) (hown : w.ownsRow base 3 1 (.slice a l.length cap) l.length (cellsN l)) :
    Calls Try.prog 79 #[.slice a l.length cap, .int .i64 m] w fun e w' => e = .returned (.slice a l.length cap) ∧ w = w' := by
  have c1 := inList_any l m a cap base w hl hown
  rw [decide_eq_true hin] at c1
  clear hl hin hown
  go_enter Try.func79, Try.ntmps79
  go_wp2_with (go_at_call 55; refine c1.mono ?_; rintro e w' ⟨rfl, rfl⟩)
  go_ret
  exact ⟨rfl, rfl⟩
set_option maxHeartbeats 1000000 in
theorem with_new (l : List Nat) (m : Nat) (a : Option Addr) (cap base : Nat) (w : World) (hl : l.length < 65536) (hno : m ∉ l) (hbase : base ≤ w.heap.size) (hown : w.ownsRow base 3 1 (.slice a l.length cap) l.length (cellsN l)) :
    Calls Try.prog 79 #[.slice a l.length cap, .int .i64 m] w fun e w' => ∃ g cap', e = .returned (.slice (some ⟨g, 0, none⟩) (l.length + 1) cap') ∧ w'.ownsRow base 3 1 (.slice (some ⟨g, 0, none⟩) (l.length + 1) cap') (l.length + 1) (cellsN (l ++ [m])) ∧ w.grownBy w' (obk a) ∧ (obk a = some g ∨ w.heap.size < g) := by
  obtain ⟨i0, hi, hz0, hz1, hz2⟩ := info_parts Try.infoI
  have c1 := inList_any l m a cap base w (by omega) hown
  rw [decide_eq_false hno] at c1
  have OW : Hid (w.ownsRow base 3 1 (.slice a l.length cap) l.length (cellsN l)) := hown
  clear hno hown
  go_enter Try.func79, Try.ntmps79
  go_wp2_with (first | (go_at_call 55; refine c1.mono ?_; rintro e w' ⟨rfl, rfl⟩) | (at_builtin; go_must (refine wpList_append_lies _ rfl _ _ 94 rfl base 3 i0 (.int .i64 0) 1 8 Try.underlying94 hi hz0 hz1 hz2 rfl (by decide) (.slice a l.length cap) _ _ rfl (OW.out.alloc _) ⟨w.heap.size, 0, none⟩ 1 1 [.int .i64 m] rfl rfl (cell_one_new _ _ _) (fun x hx => by simp at hx; subst hx; rfl) (by decide) (by unfold maxLen; omega) (by omega) (by simp; omega) (w.heap.size + 1) (by simp) ?_; intro g1 cp w1 own1 gr1 at1 lt1; rw [ownBlock_slice] at gr1 at1; have O3 : Hid (w1.ownsRow base 3 1 (.slice (some ⟨g1, 0, none⟩) (l.length + 1) cp) (l.length + 1) (cellsN l ++ [.int .i64 (m : Int)])) := own1; have G3 : Hid (w.grownBy w1 (obk a)) := grown_alloc gr1; have AT : Hid (obk a = some g1 ∨ g1 = w.heap.size + 1) := at1; clear gr1 own1 at1 lt1)))
  go_ret
  refine ⟨g1, cp, rfl, by rw [cellsN_snoc]; exact O3.out, G3.out, ?_⟩
  rcases AT.out with h | h
  · exact .inl h
  · exact .inr (by omega)
end Go.Proofs.Ytdlldljgogbiaab
