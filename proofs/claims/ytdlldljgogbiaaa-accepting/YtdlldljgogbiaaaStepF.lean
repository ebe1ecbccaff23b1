/-
  The program's looks at a search: runAndStep, endVisit, firstStep.
-/
import Derived.Test.YtdlldljgogbiaaaRunF
namespace Go.Proofs.Ytdlldljgogbiaaa
open Go.RowKit
set_option linter.unusedVariables false
set_option maxRecDepth 40000

theorem string_snoc {w : World} {base g c : Nat} (ks : List Nat) (k : Nat) (h : w.ownsRow base 5 1 (.slice (some ⟨g, 0, none⟩) ((Flow.signs ks).length + 1) c) ((Flow.signs ks).length + 1) (cellsB (Flow.signs ks) ++ [.int .u8 ((Flow.sgn k).toNat : Int)])) :
    (convert 81 9 (.slice (some ⟨g, 0, none⟩) ((Flow.signs ks).length + 1) c)).run Try.prog w = .ok (.string (Flow.runOf (ks ++ [k]))) w := by
  have e : Flow.signs (ks ++ [k]) = Flow.signs ks ++ [Flow.sgn k] := signs_append ks [k]
  have el : (Flow.signs (ks ++ [k])).length = (Flow.signs ks).length + 1 := by rw [e]; simp
  have := string_of_owned (w := w) (base := base) (a := some ⟨g, 0, none⟩) (cap := c) (Flow.signs (ks ++ [k])) (by rw [el, e, cellsB_snoc]; exact h)
  rw [el] at this
  exact this

set_option maxHeartbeats 1000000 in
theorem runAndStep_any (ts : List Flow.Tr) (m : Nat) (l : List Flow.Node) (base B i k P : Nat) (w : World) (hu : Flow.Upto ts m l P) (hi : i < l.length) (hk : k < 16) (h : SeaIn w base B l) :
    Calls Try.prog 55 #[.pointer (some ⟨B, 0, none⟩), .int .i64 i, .int .i64 k] w fun e w' => e = .returned (.string (Flow.runOf (Flow.key l i ++ [k]))) ∧ Below w.heap.size w w' := by
  obtain ⟨i0, hi0, hz0, hz1, hz2⟩ := info_parts Try.infoB
  have h65 := hu.size
  have hkl := Flow.key_len hu i hi
  have hsl := signs_len (Flow.key l i)
  have hn8 : (Flow.signs (Flow.key l i)).length ≤ 65536 := by omega
  have c1 := runTo_any ts m l base B i P w hu hi h
  have c2 := fun W => signOf_any k W hk
  clear hu h hsl hkl h65
  go_enter Try.func55, Try.ntmps55
  go_wp2_with (first | (go_at_call 49; refine c1.mono ?_; rintro e w1 ⟨a, cap, rfl, ho1, hb1⟩; have HO : Hid (w1.ownsRow w.heap.size 5 1 (.slice a (Flow.signs (Flow.key l i)).length cap) (Flow.signs (Flow.key l i)).length (cellsB (Flow.signs (Flow.key l i)))) := ho1; have HB : Hid _ := hb1; have hwb := hb1.size; clear ho1 hb1) | (go_at_call 78; refine (c2 _).mono ?_; rintro e w' ⟨rfl, rfl⟩) | (at_builtin; go_must (refine wpList_append_lies _ rfl _ _ 81 rfl w.heap.size 5 i0 (.int .u8 0) 1 1 Try.underlying81 hi0 hz0 hz1 hz2 rfl (by decide) (.slice a (Flow.signs (Flow.key l i)).length cap) _ _ rfl (HO.out.alloc _) ⟨w1.heap.size, 0, none⟩ 1 1 [.int .u8 ((Flow.sgn k).toNat : Int)] rfl rfl (cell_one_new _ _ _) (fun x hx => by simp at hx; rcases hx with rfl; rfl) (by decide) (by unfold maxLen; omega) (by omega) (by simp; omega) _ rfl ?_; intro g1 cp w2 own1 gr1 at1 lt1; have hcv := string_snoc (Flow.key l i) k own1; have B3 : Hid (Below w.heap.size w w2) := (HB.out.alloc hwb _).grown gr1 (by simp; omega) (fun i hi => (HO.out.lt _ hi).1); clear gr1 own1 at1 lt1)))
  go_ret
  exact ⟨rfl, B3.out⟩

/-- the place of a marking among the visits, or -1 -/
def Flow.EndIs (l : List Flow.Node) (e : Nat) (r : Int) : Prop :=
  (∃ (i : Nat) (n : Flow.Node), l[i]? = some n ∧ n.mark = e ∧ r = (i : Int)) ∨ ((∀ (i : Nat) (n : Flow.Node), l[i]? = some n → n.mark ≠ e) ∧ r = -1)

set_option maxHeartbeats 1000000 in
theorem endVisit_any (ts : List Flow.Tr) (m : Nat) (l : List Flow.Node) (x y : Nat) (a : Option Addr) (n0 cap base B P : Nat) (w : World) (hy : y < 256) (hu : Flow.Upto ts m l P) (h : SeaIn w base B l) :
    Calls Try.prog 48 #[.pointer (some ⟨B, 0, none⟩), .agg (netF x y a n0 cap)] w fun e w' => ∃ r, e = .returned (.int .i64 r) ∧ Flow.EndIs l (Flow.pbit y) r ∧ Below w.heap.size w w' := by
  have h65 := hu.size
  have U : Hid (Flow.Upto ts m l P) := hu
  have IN : Hid (SeaIn w base B l) := h
  have cp : ∀ W, Calls Try.prog 53 #[.int .u8 y] W fun e w' => e = .returned (.int .i64 (Flow.pbit y)) ∧ w' = W := fun W => placeBit_any y W hy
  clear hu h
  go_enter Try.func48, Try.ntmps48
  go_wp2
  go_loopw [5] (fun i' wr => ∃ (i : Nat), i ≤ l.length ∧ i' = .int .i64 i ∧ Blk wr w.heap.size (netF x y a n0 cap) 60 ∧ Below w.heap.size w wr ∧ Hid (∀ (p : Nat) (n : Flow.Node), p < i → l[p]? = some n → n.mark ≠ Flow.pbit y)) (fun i' _ => l.length - (intOf i').toNat)
  case atStart => exact ⟨0, by omega, rfl, Blk.new _ _ _, (Below.refl _ _).alloc (Nat.le_refl _) _, fun p n hp => by omega⟩
  case round =>
    obtain ⟨i, hil, rfl, hb0, hbw, HN⟩ := hrel
    obtain ⟨aV, cV, A, x0, x1, zB, zA, _, _, hno⟩ := (IN.out.below hbw).look
    have B0 : Hid (Blk wr w.heap.size (netF x y a n0 cap) 60) := hb0
    have HW : Hid _ := hbw
    have y1 : wr.cell? ⟨w.heap.size, 1, none⟩ = some (.int .u8 y) := hb0.cell 1
    have z0 := hb0.lt
    clear hb0 hbw x1 zA
    by_cases hlt : i < l.length
    · have hn := List.getElem?_eq_getElem hlt
      obtain ⟨gV, rfl, l1, e0, _, _⟩ := hno i _ hn
      obtain ⟨n, en⟩ : ∃ n, n = l[i] := ⟨_, rfl⟩
      rw [← en] at hn e0
      have N : Hid (l[i]? = some n) := hn
      have hI0 : (0 : Int) ≤ (i : Int) := by omega
      have hI1 : (i : Int) < (l.length : Int) := by omega
      clear hno hn en
      by_cases hE : n.mark = Flow.pbit y
      · have te : ((n.mark : Int) == (Flow.pbit y : Int)) = true := by rw [hE]; simp
        have E : Hid (n.mark = Flow.pbit y) := hE
        clear hE
        go_wp2
        go_quiet ((go_at_call 53; exact Calls.quiet_of_same (cp _)))
        go_wp2
        all_goals go_ret
        all_goals exact ⟨(i : Int), rfl, .inl ⟨i, n, N.out, E.out, rfl⟩, below_drewN HW.out _⟩
      · have te : ((n.mark : Int) == (Flow.pbit y : Int)) = false := by simp; omega
        have HN' : Hid (∀ (p : Nat) (n : Flow.Node), p < i + 1 → l[p]? = some n → n.mark ≠ Flow.pbit y) := by
          intro p n' hp hn'
          by_cases e : p = i
          · subst e; rw [N.out] at hn'; injection hn' with hn'; rw [← hn']; exact hE
          · exact HN.out p n' (by omega) hn'
        clear hE
        go_wp2
        go_quiet ((go_at_call 53; exact Calls.quiet_of_same (cp _)))
        go_wp2
        all_goals go_roundw
        all_goals (first | (simp [intOf]; omega) | exact ⟨i + 1, by omega, by go_num, B0.out.drewN _, below_drewN HW.out _, HN'⟩)
    · obtain rfl : i = l.length := by omega
      clear hno
      go_wp2
      go_ret
      exact ⟨-1, rfl, .inr ⟨fun i n hi => HN.out i n (List.getElem?_eq_some_iff.1 hi).1 hi, rfl⟩, HW.out⟩

/-- the first visit at which transition k fires, or -1 -/
def Flow.FirstIs (ts : List Flow.Tr) (l : List Flow.Node) (k : Nat) (r : Int) : Prop :=
  (∃ (i : Nat) (n : Flow.Node) (m' : Nat), l[i]? = some n ∧ Flow.nextM ts n.mark k = some m' ∧ Flow.NoBy ts l k i ∧ r = (i : Int)) ∨ (Flow.NoBy ts l k l.length ∧ r = -1)

set_option maxHeartbeats 1000000 in
theorem firstStep_any (ts : List Flow.Tr) (t : Flow.Tr) (m k : Nat) (l : List Flow.Node) (base B P : Nat) (w : World) (hts : ∀ t ∈ ts, Flow.Small t) (ht : ts[k]? = some t) (hu : Flow.Upto ts m l P) (h : SeaIn w base B l) :
    Calls Try.prog 54 #[.pointer (some ⟨B, 0, none⟩), .agg (trF t)] w fun e w' => ∃ r, e = .returned (.int .i64 r) ∧ Flow.FirstIs ts l k r ∧ Below w.heap.size w w' := by
  have h65 := hu.size
  obtain ⟨s1, s2, s3⟩ := hts t (List.mem_of_getElem? ht)
  have U : Hid (Flow.Upto ts m l P) := hu
  have IN : Hid (SeaIn w base B l) := h
  have T : Hid (ts[k]? = some t) := ht
  clear hu h hts ht s1
  go_enter Try.func54, Try.ntmps54
  go_wp2
  go_loopw [5] (fun i' wr => ∃ (i : Nat), i ≤ l.length ∧ i' = .int .i64 i ∧ Blk wr w.heap.size (trF t) 91 ∧ Below w.heap.size w wr ∧ Hid (Flow.NoBy ts l k i)) (fun i' _ => l.length - (intOf i').toNat)
  case atStart => exact ⟨0, by omega, rfl, Blk.new _ _ _, (Below.refl _ _).alloc (Nat.le_refl _) _, fun p n hp => by omega⟩
  case round =>
    obtain ⟨i, hil, rfl, hb0, hbw, HN⟩ := hrel
    obtain ⟨aV, cV, A, x0, x1, zB, zA, _, _, hno⟩ := (IN.out.below hbw).look
    have B0 : Hid (Blk wr w.heap.size (trF t) 91) := hb0
    have HW : Hid _ := hbw
    have hwb := hbw.size
    have y0 : wr.cell? ⟨w.heap.size, 0, none⟩ = some (.int .u8 t.label) := hb0.cell 0
    have y1 : wr.cell? ⟨w.heap.size, 1, none⟩ = some (.int .i64 t.inn) := hb0.cell 1
    have y2 : wr.cell? ⟨w.heap.size, 2, none⟩ = some (.int .i64 t.out) := hb0.cell 2
    have z0 := hb0.lt
    clear hb0 hbw x1 zA
    by_cases hlt : i < l.length
    · have hn := List.getElem?_eq_getElem hlt
      obtain ⟨gV, rfl, l1, e0, _, _⟩ := hno i _ hn
      obtain ⟨n, en⟩ : ∃ n, n = l[i] := ⟨_, rfl⟩
      rw [← en] at hn e0
      have N : Hid (l[i]? = some n) := hn
      have hnm := U.out.small i n hn
      have hI0 : (0 : Int) ≤ (i : Int) := by omega
      have hI1 : (i : Int) < (l.length : Int) := by omega
      have cf : ∀ W, Calls Try.prog 86 #[.agg (trF t), .int .i64 n.mark] W fun e w' => e = .returned (.tuple #[.int .i64 (Flow.fireTo t n.mark), .int .i64 (Flow.fireErr t n.mark)]) ∧ w' = W.alloc (.cells (trF t) 91) := fun W => fireAt_any t n.mark W hnm s2 s3
      clear hno hn en hnm
      cases hnx : Flow.nextM ts n.mark k with
      | none =>
        have te : ((Flow.fireErr t n.mark : Int) == 0) = false := by
          have := fireAt_none T.out hnx
          simp; omega
        have HN' : Hid (Flow.NoBy ts l k (i + 1)) := by
          intro p n' hp hn'
          by_cases e : p = i
          · subst e; rw [N.out] at hn'; injection hn' with hn'; rw [← hn']; exact hnx
          · exact HN.out p n' (by omega) hn'
        clear hnx
        go_wp2
        go_region_with (go_at_call 86; refine (cf _).mono ?_; rintro e w2 ⟨rfl, rfl⟩)
        all_goals go_wp2
        all_goals go_roundw
        all_goals (first | (simp [intOf]; omega) | exact ⟨i + 1, by omega, by go_num, (B0.out.alloc _).drew, (HW.out.alloc hwb _).drew, HN'⟩)
      | some m' =>
        obtain ⟨e1, e2⟩ := fireAt_some T.out hnx
        rw [e1, e2] at cf
        have X : Hid (Flow.nextM ts n.mark k = some m') := hnx
        clear hnx e1 e2
        go_wp2
        go_region_with (go_at_call 86; refine (cf _).mono ?_; rintro e w2 ⟨rfl, rfl⟩)
        all_goals go_wp2
        all_goals go_ret
        all_goals exact ⟨(i : Int), rfl, .inl ⟨i, n, m', N.out, X.out, HN.out, rfl⟩, (HW.out.alloc hwb _).drew⟩
    · obtain rfl : i = l.length := by omega
      clear hno
      go_wp2
      go_ret
      exact ⟨-1, rfl, .inr ⟨HN.out, rfl⟩, HW.out⟩
end Go.Proofs.Ytdlldljgogbiaaa
