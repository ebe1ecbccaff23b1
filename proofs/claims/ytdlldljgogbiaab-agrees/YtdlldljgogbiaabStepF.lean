/-
  The program's looks at a search: runAndStep, endVisit, firstStep.
-/
import Derived.Test.YtdlldljgogbiaabRunF
namespace Go.Proofs.Ytdlldljgogbiaab
open Go.RowKit
set_option linter.unusedVariables false
set_option maxRecDepth 40000

theorem string_snoc {w : World} {base g c : Nat} (ks : List Nat) (k : Nat) (h : w.ownsRow base 5 1 (.slice (some ⟨g, 0, none⟩) ((Flow.signs ks).length + 1) c) ((Flow.signs ks).length + 1) (cellsB (Flow.signs ks) ++ [.int .u8 ((Flow.sgn k).toNat : Int)])) :
    (convert 73 9 (.slice (some ⟨g, 0, none⟩) ((Flow.signs ks).length + 1) c)).run Try.prog w = .ok (.string (Flow.runOf (ks ++ [k]))) w := by
  have e : Flow.signs (ks ++ [k]) = Flow.signs ks ++ [Flow.sgn k] := signs_append ks [k]
  have el : (Flow.signs (ks ++ [k])).length = (Flow.signs ks).length + 1 := by rw [e]; simp
  have := string_of_owned (w := w) (base := base) (a := some ⟨g, 0, none⟩) (cap := c) (Flow.signs (ks ++ [k])) (by rw [el, e, cellsB_snoc]; exact h)
  rw [el] at this
  exact this

/-- the place of a marking among the visits, or -1 -/
def Flow.EndIs (l : List Flow.Node) (e : Nat) (r : Int) : Prop :=
  (∃ (i : Nat) (n : Flow.Node), l[i]? = some n ∧ n.mark = e ∧ r = (i : Int)) ∨ ((∀ (i : Nat) (n : Flow.Node), l[i]? = some n → n.mark ≠ e) ∧ r = -1)

set_option maxHeartbeats 1000000 in
theorem endVisit_any (ts : List Flow.Tr) (m : Nat) (l : List Flow.Node) (x y : Nat) (a : Option Addr) (n0 cap base B P : Nat) (w : World) (hy : y < 256) (hu : Flow.Upto ts m l P) (h : SeaIn w base B l) :
    Calls Try.prog 34 #[.pointer (some ⟨B, 0, none⟩), .agg (netF x y a n0 cap)] w fun e w' => ∃ r, e = .returned (.int .i64 r) ∧ Flow.EndIs l (Flow.pbit y) r ∧ Below w.heap.size w w' := by
  have h65 := hu.size
  have U : Hid (Flow.Upto ts m l P) := hu
  have IN : Hid (SeaIn w base B l) := h
  have cp : ∀ W, Calls Try.prog 59 #[.int .u8 y] W fun e w' => e = .returned (.int .i64 (Flow.pbit y)) ∧ w' = W := fun W => placeBit_any y W hy
  clear hu h
  go_enter Try.func34, Try.ntmps34
  go_wp2
  go_loopw [5] (fun i' wr => ∃ (i : Nat), i ≤ l.length ∧ i' = .int .i64 i ∧ Blk wr w.heap.size (netF x y a n0 cap) 64 ∧ Below w.heap.size w wr ∧ Hid (∀ (p : Nat) (n : Flow.Node), p < i → l[p]? = some n → n.mark ≠ Flow.pbit y)) (fun i' _ => l.length - (intOf i').toNat)
  case atStart => exact ⟨0, by omega, rfl, Blk.new _ _ _, (Below.refl _ _).alloc (Nat.le_refl _) _, fun p n hp => by omega⟩
  case round =>
    obtain ⟨i, hil, rfl, hb0, hbw, HN⟩ := hrel
    obtain ⟨aV, cV, A, x0, x1, zB, zA, _, _, hno⟩ := (IN.out.below hbw).look
    have B0 : Hid (Blk wr w.heap.size (netF x y a n0 cap) 64) := hb0
    have HW : Hid _ := hbw
    have y1 : wr.cell? ⟨w.heap.size, 1, none⟩ = some (.int .u8 y) := hb0.cell 1
    have z0 := hb0.lt
    clear hb0 hbw x1 zA
    by_cases hlt : i < l.length
    · have hn := List.getElem?_eq_getElem hlt
      obtain ⟨gV, rfl, l1, e0, _, _⟩ := hno i _ hn
      obtain ⟨n, en⟩ : ∃ n, n = l[i] := ⟨_, rfl⟩
      rw [← en] at hn e0
      have N : Hid (l[i]? = some n) := hn
      have hI0 : (0 : Int) ≤ (i : Int) := by omega
      have hI1 : (i : Int) < (l.length : Int) := by omega
      clear hno hn en
      by_cases hE : n.mark = Flow.pbit y
      · have te : ((n.mark : Int) == (Flow.pbit y : Int)) = true := by rw [hE]; simp
        have E : Hid (n.mark = Flow.pbit y) := hE
        clear hE
        go_wp2
        go_quiet ((go_at_call 59; exact Calls.quiet_of_same (cp _)))
        go_wp2
        all_goals go_ret
        all_goals exact ⟨(i : Int), rfl, .inl ⟨i, n, N.out, E.out, rfl⟩, below_drewN HW.out _⟩
      · have te : ((n.mark : Int) == (Flow.pbit y : Int)) = false := by simp; omega
        have HN' : Hid (∀ (p : Nat) (n : Flow.Node), p < i + 1 → l[p]? = some n → n.mark ≠ Flow.pbit y) := by
          intro p n' hp hn'
          by_cases e : p = i
          · subst e; rw [N.out] at hn'; injection hn' with hn'; rw [← hn']; exact hE
          · exact HN.out p n' (by omega) hn'
        clear hE
        go_wp2
        go_quiet ((go_at_call 59; exact Calls.quiet_of_same (cp _)))
        go_wp2
        all_goals go_roundw
        all_goals (first | (simp [intOf]; omega) | exact ⟨i + 1, by omega, by go_num, B0.out.drewN _, below_drewN HW.out _, HN'⟩)
    · obtain rfl : i = l.length := by omega
      clear hno
      go_wp2
      go_ret
      exact ⟨-1, rfl, .inr ⟨fun i n hi => HN.out i n (List.getElem?_eq_some_iff.1 hi).1 hi, rfl⟩, HW.out⟩

/-- the first visit at which transition k fires, or -1 -/
def Flow.FirstIs (ts : List Flow.Tr) (l : List Flow.Node) (k : Nat) (r : Int) : Prop :=
  (∃ (i : Nat) (n : Flow.Node) (m' : Nat), l[i]? = some n ∧ Flow.nextM ts n.mark k = some m' ∧ Flow.NoBy ts l k i ∧ r = (i : Int)) ∨ (Flow.NoBy ts l k l.length ∧ r = -1)

end Go.Proofs.Ytdlldljgogbiaab
