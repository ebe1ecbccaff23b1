/-
  Laid as one: StepF, SpillF, TurnF, StuckF, JudgeF, TopF.
-/
import Derived.Test.YtdlldljgogbiaabGreatRunF
import Derived.Test.YtdlldljgogbiaabGreatJudgedR
import Derived.Test.YtdlldljgogbiaabGreatPlayF
import Derived.Test.YtdlldljgogbiaabGreatTurn
import Derived.Test.YtdlldljgogbiaabGreatLayR
import Derived.Test.YtdlldljgogbiaabGreatJudgeR
import Derived.Test.YtdlldljgogbiaabGreatFire
namespace Go.Proofs.YtdlldljgogbiaabGreat
open Go.RowKit
set_option linter.unusedVariables false
set_option maxRecDepth 40000

theorem string_snoc {w : World} {base g c : Nat} (ks : List Nat) (k : Nat) (h : w.ownsRow base 5 1 (.slice (some ⟨g, 0, none⟩) ((Flow.signs ks).length + 1) c) ((Flow.signs ks).length + 1) (cellsB (Flow.signs ks) ++ [.int .u8 ((Flow.sgn k).toNat : Int)])) :
    (convert 82 9 (.slice (some ⟨g, 0, none⟩) ((Flow.signs ks).length + 1) c)).run Tryz.prog w = .ok (.string (Flow.runOf (ks ++ [k]))) w := by
  have e : Flow.signs (ks ++ [k]) = Flow.signs ks ++ [Flow.sgn k] := signs_append ks [k]
  have el : (Flow.signs (ks ++ [k])).length = (Flow.signs ks).length + 1 := by rw [e]; simp
  have := string_of_owned (w := w) (base := base) (a := some ⟨g, 0, none⟩) (cap := c) (Flow.signs (ks ++ [k])) (by rw [el, e, cellsB_snoc]; exact h)
  rw [el] at this
  exact this

set_option maxHeartbeats 1000000 in
theorem runAndStep_any (ts : List Flow.Tr) (m : Nat) (l : List Flow.Node) (base B i k P : Nat) (w : World) (hu : Flow.Upto ts m l P) (hi : i < l.length) (hk : k < 16) (h : SeaIn w base B l) :
    Calls Tryz.prog 49 #[.pointer (some ⟨B, 0, none⟩), .int .i64 i, .int .i64 k] w fun e w' => e = .returned (.string (Flow.runOf (Flow.key l i ++ [k]))) ∧ Below w.heap.size w w' := by
  obtain ⟨i0, hi0, hz0, hz1, hz2⟩ := info_parts Tryz.infoB
  have h65 := hu.size
  have hkl := Flow.key_len hu i hi
  have hsl := signs_len (Flow.key l i)
  have hn8 : (Flow.signs (Flow.key l i)).length ≤ 65536 := by omega
  have c1 := runTo_any ts m l base B i P w hu hi h
  have c2 := fun W => signOf_any k W hk
  clear hu h hsl hkl h65
  go_enter Tryz.func49, Tryz.ntmps49
  go_wp2_with (first | (go_at_call 43; refine c1.mono ?_; rintro e w1 ⟨a, cap, rfl, ho1, hb1⟩; have HO : Hid (w1.ownsRow w.heap.size 5 1 (.slice a (Flow.signs (Flow.key l i)).length cap) (Flow.signs (Flow.key l i)).length (cellsB (Flow.signs (Flow.key l i)))) := ho1; have HB : Hid _ := hb1; have hwb := hb1.size; clear ho1 hb1) | (go_at_call 75; refine (c2 _).mono ?_; rintro e w' ⟨rfl, rfl⟩) | (at_builtin; go_must (refine wpList_append_lies _ rfl _ _ 82 rfl w.heap.size 5 i0 (.int .u8 0) 1 1 Tryz.underlying82 hi0 hz0 hz1 hz2 rfl (by decide) (.slice a (Flow.signs (Flow.key l i)).length cap) _ _ rfl (HO.out.alloc _) ⟨w1.heap.size, 0, none⟩ 1 1 [.int .u8 ((Flow.sgn k).toNat : Int)] rfl rfl (cell_one_new _ _ _) (fun x hx => by simp at hx; rcases hx with rfl; rfl) (by decide) (by unfold maxLen; omega) (by omega) (by simp; omega) _ rfl ?_; intro g1 cp w2 own1 gr1 at1 lt1; have hcv := string_snoc (Flow.key l i) k own1; have B3 : Hid (Below w.heap.size w w2) := (HB.out.alloc hwb _).grown gr1 (by simp; omega) (fun i hi => (HO.out.lt _ hi).1); clear gr1 own1 at1 lt1)))
  go_ret
  exact ⟨rfl, B3.out⟩

/-- the place of a marking among the visits, or -1 -/
def Flow.EndIs (l : List Flow.Node) (e : Nat) (r : Int) : Prop :=
  (∃ (i : Nat) (n : Flow.Node), l[i]? = some n ∧ n.mark = e ∧ r = (i : Int)) ∨ ((∀ (i : Nat) (n : Flow.Node), l[i]? = some n → n.mark ≠ e) ∧ r = -1)

set_option maxHeartbeats 1000000 in
theorem endVisit_any (ts : List Flow.Tr) (m : Nat) (l : List Flow.Node) (x y : Nat) (a : Option Addr) (n0 cap base B P : Nat) (w : World) (hy : y < 256) (hu : Flow.Upto ts m l P) (h : SeaIn w base B l) :
    Calls Tryz.prog 42 #[.pointer (some ⟨B, 0, none⟩), .agg (netF x y a n0 cap)] w fun e w' => ∃ r, e = .returned (.int .i64 r) ∧ Flow.EndIs l (Flow.pbit y) r ∧ Below w.heap.size w w' := by
  have h65 := hu.size
  have U : Hid (Flow.Upto ts m l P) := hu
  have IN : Hid (SeaIn w base B l) := h
  have cp : ∀ W, Calls Tryz.prog 47 #[.int .u8 y] W fun e w' => e = .returned (.int .i64 (Flow.pbit y)) ∧ w' = W := fun W => placeBit_any y W hy
  clear hu h
  go_enter Tryz.func42, Tryz.ntmps42
  go_wp2
  go_loopw [5] (fun i' wr => ∃ (i : Nat), i ≤ l.length ∧ i' = .int .i64 i ∧ Blk wr w.heap.size (netF x y a n0 cap) 59 ∧ Below w.heap.size w wr ∧ Hid (∀ (p : Nat) (n : Flow.Node), p < i → l[p]? = some n → n.mark ≠ Flow.pbit y)) (fun i' _ => l.length - (intOf i').toNat)
  case atStart => exact ⟨0, by omega, rfl, Blk.new _ _ _, (Below.refl _ _).alloc (Nat.le_refl _) _, fun p n hp => by omega⟩
  case round =>
    obtain ⟨i, hil, rfl, hb0, hbw, HN⟩ := hrel
    obtain ⟨aV, cV, A, x0, x1, zB, zA, _, _, hno⟩ := (IN.out.below hbw).look
    have B0 : Hid (Blk wr w.heap.size (netF x y a n0 cap) 59) := hb0
    have HW : Hid _ := hbw
    have y1 : wr.cell? ⟨w.heap.size, 1, none⟩ = some (.int .u8 y) := hb0.cell 1
    have z0 := hb0.lt
    clear hb0 hbw x1 zA
    by_cases hlt : i < l.length
    · have hn := List.getElem?_eq_getElem hlt
      obtain ⟨gV, rfl, l1, e0, _, _⟩ := hno i _ hn
      obtain ⟨n, en⟩ : ∃ n, n = l[i] := ⟨_, rfl⟩
      rw [← en] at hn e0
      have N : Hid (l[i]? = some n) := hn
      have hI0 : (0 : Int) ≤ (i : Int) := by omega
      have hI1 : (i : Int) < (l.length : Int) := by omega
      clear hno hn en
      by_cases hE : n.mark = Flow.pbit y
      · have te : ((n.mark : Int) == (Flow.pbit y : Int)) = true := by rw [hE]; simp
        have E : Hid (n.mark = Flow.pbit y) := hE
        clear hE
        go_wp2
        go_quiet ((go_at_call 47; exact Calls.quiet_of_same (cp _)))
        go_wp2
        all_goals go_ret
        all_goals exact ⟨(i : Int), rfl, .inl ⟨i, n, N.out, E.out, rfl⟩, below_drewN HW.out _⟩
      · have te : ((n.mark : Int) == (Flow.pbit y : Int)) = false := by simp; omega
        have HN' : Hid (∀ (p : Nat) (n : Flow.Node), p < i + 1 → l[p]? = some n → n.mark ≠ Flow.pbit y) := by
          intro p n' hp hn'
          by_cases e : p = i
          · subst e; rw [N.out] at hn'; injection hn' with hn'; rw [← hn']; exact hE
          · exact HN.out p n' (by omega) hn'
        clear hE
        go_wp2
        go_quiet ((go_at_call 47; exact Calls.quiet_of_same (cp _)))
        go_wp2
        all_goals go_roundw
        all_goals (first | (simp [intOf]; omega) | exact ⟨i + 1, by omega, by go_num, B0.out.drewN _, below_drewN HW.out _, HN'⟩)
    · obtain rfl : i = l.length := by omega
      clear hno
      go_wp2
      go_ret
      exact ⟨-1, rfl, .inr ⟨fun i n hi => HN.out i n (List.getElem?_eq_some_iff.1 hi).1 hi, rfl⟩, HW.out⟩

/-- the first visit at which transition k fires, or -1 -/
def Flow.FirstIs (ts : List Flow.Tr) (l : List Flow.Node) (k : Nat) (r : Int) : Prop :=
  (∃ (i : Nat) (n : Flow.Node) (m' : Nat), l[i]? = some n ∧ Flow.nextM ts n.mark k = some m' ∧ Flow.NoBy ts l k i ∧ r = (i : Int)) ∨ (Flow.NoBy ts l k l.length ∧ r = -1)

set_option maxHeartbeats 1000000 in
theorem firstStep_any (ts : List Flow.Tr) (t : Flow.Tr) (m k : Nat) (l : List Flow.Node) (base B P : Nat) (w : World) (hts : ∀ t ∈ ts, Flow.Small t) (ht : ts[k]? = some t) (hu : Flow.Upto ts m l P) (h : SeaIn w base B l) :
    Calls Tryz.prog 48 #[.pointer (some ⟨B, 0, none⟩), .agg (trF t)] w fun e w' => ∃ r, e = .returned (.int .i64 r) ∧ Flow.FirstIs ts l k r ∧ Below w.heap.size w w' := by
  have h65 := hu.size
  obtain ⟨s1, s2, s3⟩ := hts t (List.mem_of_getElem? ht)
  have U : Hid (Flow.Upto ts m l P) := hu
  have IN : Hid (SeaIn w base B l) := h
  have T : Hid (ts[k]? = some t) := ht
  clear hu h hts ht s1
  go_enter Tryz.func48, Tryz.ntmps48
  go_wp2
  go_loopw [5] (fun i' wr => ∃ (i : Nat), i ≤ l.length ∧ i' = .int .i64 i ∧ Blk wr w.heap.size (trF t) 93 ∧ Below w.heap.size w wr ∧ Hid (Flow.NoBy ts l k i)) (fun i' _ => l.length - (intOf i').toNat)
  case atStart => exact ⟨0, by omega, rfl, Blk.new _ _ _, (Below.refl _ _).alloc (Nat.le_refl _) _, fun p n hp => by omega⟩
  case round =>
    obtain ⟨i, hil, rfl, hb0, hbw, HN⟩ := hrel
    obtain ⟨aV, cV, A, x0, x1, zB, zA, _, _, hno⟩ := (IN.out.below hbw).look
    have B0 : Hid (Blk wr w.heap.size (trF t) 93) := hb0
    have HW : Hid _ := hbw
    have hwb := hbw.size
    have y0 : wr.cell? ⟨w.heap.size, 0, none⟩ = some (.int .u8 t.label) := hb0.cell 0
    have y1 : wr.cell? ⟨w.heap.size, 1, none⟩ = some (.int .i64 t.inn) := hb0.cell 1
    have y2 : wr.cell? ⟨w.heap.size, 2, none⟩ = some (.int .i64 t.out) := hb0.cell 2
    have z0 := hb0.lt
    clear hb0 hbw x1 zA
    by_cases hlt : i < l.length
    · have hn := List.getElem?_eq_getElem hlt
      obtain ⟨gV, rfl, l1, e0, _, _⟩ := hno i _ hn
      obtain ⟨n, en⟩ : ∃ n, n = l[i] := ⟨_, rfl⟩
      rw [← en] at hn e0
      have N : Hid (l[i]? = some n) := hn
      have hnm := U.out.small i n hn
      have hI0 : (0 : Int) ≤ (i : Int) := by omega
      have hI1 : (i : Int) < (l.length : Int) := by omega
      have cf : ∀ W, Calls Tryz.prog 84 #[.agg (trF t), .int .i64 n.mark] W fun e w' => e = .returned (.tuple #[.int .i64 (Flow.fireTo t n.mark), .int .i64 (Flow.fireErr t n.mark)]) ∧ w' = W.alloc (.cells (trF t) 93) := fun W => fireAt_any t n.mark W hnm s2 s3
      clear hno hn en hnm
      cases hnx : Flow.nextM ts n.mark k with
      | none =>
        have te : ((Flow.fireErr t n.mark : Int) == 0) = false := by
          have := fireAt_none T.out hnx
          simp; omega
        have HN' : Hid (Flow.NoBy ts l k (i + 1)) := by
          intro p n' hp hn'
          by_cases e : p = i
          · subst e; rw [N.out] at hn'; injection hn' with hn'; rw [← hn']; exact hnx
          · exact HN.out p n' (by omega) hn'
        clear hnx
        go_wp2
        go_region_with (go_at_call 84; refine (cf _).mono ?_; rintro e w2 ⟨rfl, rfl⟩)
        all_goals go_wp2
        all_goals go_roundw
        all_goals (first | (simp [intOf]; omega) | exact ⟨i + 1, by omega, by go_num, (B0.out.alloc _).drew, (HW.out.alloc hwb _).drew, HN'⟩)
      | some m' =>
        obtain ⟨e1, e2⟩ := fireAt_some T.out hnx
        rw [e1, e2] at cf
        have X : Hid (Flow.nextM ts n.mark k = some m') := hnx
        clear hnx e1 e2
        go_wp2
        go_region_with (go_at_call 84; refine (cf _).mono ?_; rintro e w2 ⟨rfl, rfl⟩)
        all_goals go_wp2
        all_goals go_ret
        all_goals exact ⟨(i : Int), rfl, .inl ⟨i, n, m', N.out, X.out, HN.out, rfl⟩, (HW.out.alloc hwb _).drew⟩
    · obtain rfl : i = l.length := by omega
      clear hno
      go_wp2
      go_ret
      exact ⟨-1, rfl, .inr ⟨HN.out, rfl⟩, HW.out⟩
end Go.Proofs.YtdlldljgogbiaabGreat
namespace Go.Proofs.YtdlldljgogbiaabGreat
open Go.RowKit
set_option linter.unusedVariables false
set_option maxRecDepth 40000

/-- what firstSpill answers -/
def Flow.SpillAt (ts : List Flow.Tr) (l : List Flow.Node) (r s : Int) : Prop :=
  (∃ (i k : Nat) (n : Flow.Node), l[i]? = some n ∧ k < ts.length ∧ Flow.spillM ts n.mark k ∧ Flow.NoSpill ts l i k ∧ r = (i : Int) ∧ s = (k : Int)) ∨ (Flow.NoSpill ts l l.length 0 ∧ r = -1 ∧ s = -1)
theorem fireErr_spill {t : Flow.Tr} {m : Nat} : Flow.fireErr t m = 6 ↔ Flow.enabled t m = true ∧ Flow.spills t m = true := by
  unfold Flow.fireErr
  cases Flow.enabled t m <;> cases Flow.spills t m <;> simp

set_option maxHeartbeats 2000000 in
theorem firstSpill_any (ts : List Flow.Tr) (x y : Nat) (a : Option Addr) (cap m base0 : Nat) (l : List Flow.Node) (base B P : Nat) (w : World) (hts : ∀ t ∈ ts, Flow.Small t) (hlen : ts.length ≤ 16) (hu : Flow.Upto ts m l P) (h : SeaIn w base B l)
    (hown : w.ownsRow base0 93 3 (.slice a ts.length cap) ts.length (cellsF ts)) :
    Calls Tryz.prog 71 #[.agg (netF x y a ts.length cap), .pointer (some ⟨B, 0, none⟩)] w fun e w' => ∃ r s, e = .returned (.tuple #[.int .i64 r, .int .i64 s]) ∧ Flow.SpillAt ts l r s ∧ Below w.heap.size w w' := by
  have h65 := hu.size
  have U : Hid (Flow.Upto ts m l P) := hu
  have IN : Hid (SeaIn w base B l) := h
  have OW : Hid (w.ownsRow base0 93 3 (.slice a ts.length cap) ts.length (cellsF ts)) := hown
  have HT : Hid (∀ t ∈ ts, Flow.Small t) := hts
  clear hu h hown hts
  go_enter Tryz.func71, Tryz.ntmps71
  go_wp2
  go_loopw [6] (fun i' wr => ∃ (i : Nat), i ≤ l.length ∧ i' = .int .i64 i ∧ Blk wr w.heap.size (netF x y a ts.length cap) 59 ∧ Below w.heap.size w wr ∧ Hid (Flow.NoSpill ts l i 0)) (fun i' _ => l.length - (intOf i').toNat)
  case atStart => exact ⟨0, by omega, rfl, Blk.new _ _ _, (Below.refl _ _).alloc (Nat.le_refl _) _, fun p j n _ hp => by omega⟩
  case round =>
    obtain ⟨i, hil, rfl, hb0, hbw, HN⟩ := hrel
    obtain ⟨aV, cV, A, x0, x1, zB, zA, _, _, hno⟩ := (IN.out.below hbw).look
    have B0 : Hid (Blk wr w.heap.size (netF x y a ts.length cap) 59) := hb0
    have HW : Hid _ := hbw
    clear hb0 hbw x1 zA hno
    by_cases hlt : i < l.length
    · go_wp2
      clear x0 zB
      obtain ⟨wo, rfl⟩ : ∃ wo : World, wo = wr := ⟨_, rfl⟩
      go_loopw [7] (fun k' wr => ∃ (k : Nat), k ≤ ts.length ∧ k' = .int .i64 k ∧ Blk wr w.heap.size (netF x y a ts.length cap) 59 ∧ Below w.heap.size w wr ∧ Hid (Flow.NoSpill ts l i k)) (fun k' _ => ts.length - (intOf k').toNat)
      case atStart => exact ⟨0, by omega, rfl, B0.out, HW.out, HN⟩
      case round =>
        clear HN B0 HW
        obtain ⟨k, hkl, rfl, hb0, hbw, HN⟩ := hrel
        have n2 : wr.cell? ⟨w.heap.size, 2, none⟩ = some (.slice a ts.length cap) := hb0.cell 2
        have z0 := hb0.lt
        have hwb := hbw.size
        have B0 : Hid (Blk wr w.heap.size (netF x y a ts.length cap) 59) := hb0
        have HW : Hid _ := hbw
        by_cases hk : k < ts.length
        · obtain ⟨aV, cV, A, x0, x1, zB, zA, _, _, hno⟩ := (IN.out.below hbw).look
          have hn := List.getElem?_eq_getElem hlt
          obtain ⟨gV, rfl, l1, e0, _, _⟩ := hno i _ hn
          obtain ⟨n, en⟩ : ∃ n, n = l[i] := ⟨_, rfl⟩
          rw [← en] at hn e0
          have N : Hid (l[i]? = some n) := hn
          have hnm := U.out.small i n hn
          obtain ⟨t, ht⟩ : ∃ t, ts[k]? = some t := ⟨_, List.getElem?_eq_getElem hk⟩
          obtain ⟨s1, s2, s3⟩ := HT.out t (List.mem_of_getElem? ht)
          have ow2 := owns_below OW.out hbw (Nat.le_refl _)
          obtain ⟨g, cap', hv, _, hg2⟩ := ow2.form (by omega)
          injection hv with hv1 _ hv3
          subst hv1 hv3
          have t0 := ow2.cellAt (k * 3) (by omega)
          have t1 := ow2.cellAt (k * 3 + 1) (by omega)
          have t2 := ow2.cellAt (k * 3 + 2) (by omega)
          obtain ⟨f0, f1, f2⟩ := cellsF_get ht
          rw [f0] at t0
          rw [f1] at t1
          rw [f2] at t2
          have T : Hid (ts[k]? = some t) := ht
          have hI0 : (0 : Int) ≤ (i : Int) := by omega
          have hI1 : (i : Int) < (l.length : Int) := by omega
          have hJ0 : (0 : Int) ≤ (k : Int) := by omega
          have hJ1 : (k : Int) < (ts.length : Int) := by omega
          have cf : ∀ W, Calls Tryz.prog 84 #[.agg (trF t), .int .i64 n.mark] W fun e w' => e = .returned (.tuple #[.int .i64 (Flow.fireTo t n.mark), .int .i64 (Flow.fireErr t n.mark)]) ∧ w' = W.alloc (.cells (trF t) 93) := fun W => fireAt_any t n.mark W hnm s2 s3
          clear hn en hnm ow2 f0 f1 f2 ht s1 s2 s3 hno x1 zA hb0 hbw
          by_cases hE : Flow.fireErr t n.mark = 6
          · have te : ((Flow.fireErr t n.mark : Int) == 6) = true := by rw [hE]; rfl
            have S : Hid (Flow.spillM ts n.mark k) := ⟨t, T.out, fireErr_spill.1 hE⟩
            clear hE
            go_wp2
            go_region_with (go_at_call 84; refine (cf _).mono ?_; rintro e w2 ⟨rfl, rfl⟩)
            all_goals go_wp2
            all_goals go_ret2
            all_goals exact ⟨(i : Int), (k : Int), rfl, .inl ⟨i, k, n, N.out, hk, S.out, HN.out, rfl, rfl⟩, (HW.out.alloc hwb _).drew⟩
          · have te : ((Flow.fireErr t n.mark : Int) == 6) = false := by simp; omega
            have HN' : Hid (Flow.NoSpill ts l i (k + 1)) := by
              intro p j n' hp hc hs
              by_cases e : p = i ∧ j = k
              · obtain ⟨rfl, rfl⟩ := e
                rw [N.out] at hp
                injection hp with hp
                subst hp
                obtain ⟨t', ht', hs'⟩ := hs
                rw [T.out] at ht'
                injection ht' with ht'
                subst ht'
                exact hE (fireErr_spill.2 hs')
              · exact HN.out p j n' hp (by omega) hs
            clear hE
            go_wp2
            go_region_with (go_at_call 84; refine (cf _).mono ?_; rintro e w2 ⟨rfl, rfl⟩)
            all_goals go_wp2
            all_goals go_roundw
            all_goals (first | (simp [intOf]; omega) | exact ⟨k + 1, by omega, by go_num, (B0.out.alloc _).drew, (HW.out.alloc hwb _).drew, HN'⟩)
        · obtain rfl : k = ts.length := by omega
          have HN' : Hid (Flow.NoSpill ts l (i + 1) 0) := by
            intro p j n' hp hc hs
            by_cases e : p = i
            · subst e
              obtain ⟨t', ht', hs'⟩ := hs
              exact HN.out p j n' hp (.inr ⟨rfl, (List.getElem?_eq_some_iff.1 ht').1⟩) ⟨t', ht', hs'⟩
            · exact HN.out p j n' hp (by omega) hs
          clear hb0 hbw
          go_wp2
          go_roundw
          case rel => exact ⟨i + 1, by omega, by go_num, B0.out, HW.out, HN'⟩
          case measure => simp [intOf]; omega
    · obtain rfl : i = l.length := by omega
      go_wp2
      go_ret2
      exact ⟨-1, -1, rfl, .inr ⟨HN.out, rfl, rfl⟩, HW.out⟩

/-- what firstImproper answers -/
def Flow.ImpAt (e : Nat) (l : List Flow.Node) (r : Int) : Prop :=
  (∃ (i : Nat) (n : Flow.Node), l[i]? = some n ∧ Flow.Improper e n.mark ∧ Flow.NoImp e l i ∧ r = (i : Int)) ∨ (Flow.NoImp e l l.length ∧ r = -1)

set_option maxHeartbeats 2000000 in
theorem firstImproper_any (ts : List Flow.Tr) (m : Nat) (l : List Flow.Node) (x y : Nat) (a : Option Addr) (n0 cap base B P : Nat) (w : World) (hy : y < 256) (hu : Flow.Upto ts m l P) (h : SeaIn w base B l) :
    Calls Tryz.prog 72 #[.agg (netF x y a n0 cap), .pointer (some ⟨B, 0, none⟩)] w fun e w' => ∃ r, e = .returned (.int .i64 r) ∧ Flow.ImpAt (Flow.pbit y) l r ∧ Below w.heap.size w w' := by
  have h65 := hu.size
  have U : Hid (Flow.Upto ts m l P) := hu
  have IN : Hid (SeaIn w base B l) := h
  have hpb := Flow.pbit_lt y
  have cp : ∀ W, Calls Tryz.prog 47 #[.int .u8 y] W fun e w' => e = .returned (.int .i64 (Flow.pbit y)) ∧ W = w' := fun W => (placeBit_any y W hy).mono fun e w' h => ⟨h.1, h.2.symm⟩
  obtain ⟨E, hE⟩ : ∃ E, E = Flow.pbit y := ⟨_, rfl⟩
  rw [← hE] at hpb cp ⊢
  have HP : Hid (E < 65536) := hpb
  clear hu h hE hpb
  go_enter Tryz.func72, Tryz.ntmps72
  go_wp2_with (go_at_call 47; refine (cp _).mono ?_; rintro e w' ⟨rfl, rfl⟩)
  go_loopw [6] (fun i' wr => ∃ (i : Nat), i ≤ l.length ∧ i' = .int .i64 i ∧ Below w.heap.size w wr ∧ Hid (Flow.NoImp E l i)) (fun i' _ => l.length - (intOf i').toNat)
  case atStart => exact ⟨0, by omega, rfl, (Below.refl _ _).alloc (Nat.le_refl _) _, fun p n hp => by omega⟩
  case round =>
    obtain ⟨i, hil, rfl, hbw, HN⟩ := hrel
    obtain ⟨aV, cV, A, x0, x1, zB, zA, _, _, hno⟩ := (IN.out.below hbw).look
    have HW : Hid _ := hbw
    clear hbw x1 zA
    by_cases hlt : i < l.length
    · have hn := List.getElem?_eq_getElem hlt
      obtain ⟨gV, rfl, l1, e0, _, _⟩ := hno i _ hn
      obtain ⟨n, en⟩ : ∃ n, n = l[i] := ⟨_, rfl⟩
      rw [← en] at hn e0
      have N : Hid (l[i]? = some n) := hn
      have hnm := U.out.small i n hn
      have hI0 : (0 : Int) ≤ (i : Int) := by omega
      have hI1 : (i : Int) < (l.length : Int) := by omega
      have ea := Flow.and_nat n.mark E hnm HP.out
      clear hno hn en hnm
      by_cases hA : n.mark &&& E = 0
      · have t1 : (bits .and .i64 (n.mark : Int) (E : Int) != 0) = false := by rw [ea, hA]; rfl
        have HN' : Hid (Flow.NoImp E l (i + 1)) := by
          intro p n' hp hn'
          by_cases e : p = i
          · subst e; rw [N.out] at hn'; injection hn' with hn'; rw [← hn']; exact fun h => h.1 hA
          · exact HN.out p n' (by omega) hn'
        clear ea hA
        go_wp2
        go_roundw
        case rel => exact ⟨i + 1, by omega, by go_num, HW.out, HN'⟩
        case measure => simp [intOf]; omega
      · have t1 : (bits .and .i64 (n.mark : Int) (E : Int) != 0) = true := by rw [ea]; simp; omega
        by_cases hQ : n.mark = E
        · have t2 : ((n.mark : Int) != (E : Int)) = false := by rw [hQ]; simp
          have HN' : Hid (Flow.NoImp E l (i + 1)) := by
            intro p n' hp hn'
            by_cases e : p = i
            · subst e; rw [N.out] at hn'; injection hn' with hn'; rw [← hn']; exact fun h => h.2 hQ
            · exact HN.out p n' (by omega) hn'
          clear ea hA hQ
          go_wp2
          go_roundw
          case rel => exact ⟨i + 1, by omega, by go_num, HW.out, HN'⟩
          case measure => simp [intOf]; omega
        · have t2 : ((n.mark : Int) != (E : Int)) = true := by simp; omega
          have I : Hid (Flow.Improper E n.mark) := ⟨hA, hQ⟩
          clear ea hA hQ
          go_wp2
          go_ret
          exact ⟨(i : Int), rfl, .inl ⟨i, n, N.out, I.out, HN.out, rfl⟩, HW.out⟩
    · obtain rfl : i = l.length := by omega
      clear hno
      go_wp2
      go_ret
      exact ⟨-1, rfl, .inr ⟨HN.out, rfl⟩, HW.out⟩
end Go.Proofs.YtdlldljgogbiaabGreat
namespace Go.Proofs.YtdlldljgogbiaabGreat
open Go.RowKit
set_option linter.unusedVariables false
set_option maxRecDepth 20000

theorem turn_snoc {ts : List Flow.Tr} {k : Nat} {t : Flow.Tr} (h : ts[k]? = some t) : Flow.turn (ts.take (k + 1)) = Flow.turn (ts.take k) ++ [Flow.turnT t] := by
  rw [List.take_add_one, h]; simp [Flow.turn]

set_option maxHeartbeats 1000000 in
theorem turned_any (ts : List Flow.Tr) (a : Option Addr) (cap base : Nat) (w : World) (hlen : ts.length ≤ 16) (hown : w.ownsRow base 93 3 (.slice a ts.length cap) ts.length (cellsF ts)) :
    Calls Tryz.prog 102 #[.slice a ts.length cap] w fun e w' => ∃ a' cap', e = .returned (.slice a' (Flow.turn ts).length cap') ∧ w'.ownsRow w.heap.size 93 3 (.slice a' (Flow.turn ts).length cap') (Flow.turn ts).length (cellsF (Flow.turn ts)) ∧ Below w.heap.size w w' := by
  obtain ⟨i0, hi, hz0, hz1, hz2⟩ := info_parts Tryz.infoF
  have OW : Hid (w.ownsRow base 93 3 (.slice a ts.length cap) ts.length (cellsF ts)) := hown
  clear hown
  go_enter Tryz.func102, Tryz.ntmps102
  go_wp2
  go_loopw [3, 4] (fun s' k' wr => ∃ (k : Nat) (a' : Option Addr) (cap' : Nat), k ≤ ts.length ∧ k' = .int .i64 k ∧ s' = .slice a' k cap' ∧ wr.ownsRow w.heap.size 93 3 (.slice a' k cap') k (cellsF (Flow.turn (ts.take k))) ∧ Below w.heap.size w wr) (fun _ k' _ => ts.length - (intOf k').toNat)
  case atStart => exact ⟨0, none, 0, by omega, rfl, rfl, World.ownsRow_nil _ _ _ _, Below.refl _ _⟩
  case round =>
    obtain ⟨k, a', cap', hk, rfl, rfl, hown', hbw⟩ := hrel
    have HO : Hid (wr.ownsRow w.heap.size 93 3 (.slice a' k cap') k (cellsF (Flow.turn (ts.take k)))) := hown'
    have HW : Hid _ := hbw
    have hwb := hbw.size
    by_cases hlt : k < ts.length
    · obtain ⟨t, ht⟩ : ∃ t, ts[k]? = some t := ⟨_, List.getElem?_eq_getElem hlt⟩
      have ow2 := owns_below OW.out hbw (Nat.le_refl _)
      obtain ⟨g, capx, hv, _, hg2⟩ := ow2.form (by omega)
      injection hv with hv1 _ hv3
      subst hv1 hv3
      have t0 := ow2.cellAt (k * 3) (by omega)
      have t1 := ow2.cellAt (k * 3 + 1) (by omega)
      have t2 := ow2.cellAt (k * 3 + 2) (by omega)
      obtain ⟨f0, f1, f2⟩ := cellsF_get ht
      rw [f0] at t0
      rw [f1] at t1
      rw [f2] at t2
      have S : Hid (Flow.turn (ts.take (k + 1)) = Flow.turn (ts.take k) ++ [Flow.turnT t]) := turn_snoc ht
      have hI0 : (0 : Int) ≤ (k : Int) := by omega
      have hI1 : (k : Int) < (ts.length : Int) := by omega
      clear hown' hbw ow2 f0 f1 f2 ht
      go_wp2_with (at_builtin; go_must (refine wpList_append_lies _ rfl _ _ 57 rfl w.heap.size 93 i0 (.agg #[.int .u8 0, .int .i64 0, .int .i64 0]) 3 24 Tryz.underlying57 hi hz0 hz1 hz2 rfl (by decide) (.slice a' k cap') _ _ rfl ((HO.out.alloc _).alloc _) ⟨wr.heap.size + 1, 0, none⟩ 1 1 [.int .u8 0, .int .i64 t.out, .int .i64 t.inn] rfl rfl (cell_three_at _ _ (by simp) _ _ _ _) (fun x hx => by simp at hx; rcases hx with rfl | rfl | rfl <;> rfl) (by decide) (by unfold maxLen; omega) (by omega) (by simp; omega) _ rfl ?_; intro g1 c1 w1 own1 gr1 at1 lt1; have O3 : Hid (w1.ownsRow w.heap.size 93 3 (.slice (some ⟨g1, 0, none⟩) (k + 1) c1) (k + 1) (cellsF (Flow.turn (ts.take k)) ++ [.int .u8 0, .int .i64 t.out, .int .i64 t.inn])) := own1; have B3 : Hid (Below w.heap.size w w1) := ((HW.out.alloc hwb _).alloc (by simp; omega) _).grown gr1 (by simp; omega) (fun i hi => (HO.out.lt _ hi).1); clear gr1 own1 at1 lt1))
      go_roundw
      case rel =>
        refine ⟨k + 1, some ⟨g1, 0, none⟩, c1, by omega, by go_num, rfl, ?_, B3.out⟩
        rw [S.out, cellsF_snoc]
        exact O3.out
      case measure => simp [intOf]; omega
    · obtain rfl : k = ts.length := by omega
      have E : Hid (Flow.turn (ts.take ts.length) = Flow.turn ts) := by show _ = _; rw [List.take_length]
      clear hown' hbw
      go_wp2
      go_ret
      have o := HO.out
      rw [E.out] at o
      refine ⟨a', cap', by rw [turn_len]; rfl, ?_, HW.out⟩
      rw [turn_len]; exact o
end Go.Proofs.YtdlldljgogbiaabGreat
namespace Go.Proofs.YtdlldljgogbiaabGreat
open Go.RowKit
set_option linter.unusedVariables false
set_option maxRecDepth 40000

/-- what firstDead answers -/
def Flow.DeadAt (ts : List Flow.Tr) (l : List Flow.Node) (r : Int) : Prop :=
  (∃ k, k < ts.length ∧ Flow.NoBy ts l k l.length ∧ Flow.NoDead ts l k ∧ r = (k : Int)) ∨ (Flow.NoDead ts l ts.length ∧ r = -1)

set_option maxHeartbeats 2000000 in
theorem firstDead_any (ts : List Flow.Tr) (x y : Nat) (a : Option Addr) (cap m base0 : Nat) (l : List Flow.Node) (base B P : Nat) (w : World) (hts : ∀ t ∈ ts, Flow.Small t) (hlen : ts.length ≤ 16) (hu : Flow.Upto ts m l P) (h : SeaIn w base B l)
    (hown : w.ownsRow base0 93 3 (.slice a ts.length cap) ts.length (cellsF ts)) :
    Calls Tryz.prog 74 #[.agg (netF x y a ts.length cap), .pointer (some ⟨B, 0, none⟩)] w fun e w' => ∃ r, e = .returned (.int .i64 r) ∧ Flow.DeadAt ts l r ∧ Below w.heap.size w w' := by
  have U : Hid (Flow.Upto ts m l P) := hu
  have IN : Hid (SeaIn w base B l) := h
  have OW : Hid (w.ownsRow base0 93 3 (.slice a ts.length cap) ts.length (cellsF ts)) := hown
  have HT : Hid (∀ t ∈ ts, Flow.Small t) := hts
  clear hu h hown hts
  go_enter Tryz.func74, Tryz.ntmps74
  go_wp2
  go_loopw [5] (fun k' wr => ∃ (k : Nat), k ≤ ts.length ∧ k' = .int .i64 k ∧ Blk wr w.heap.size (netF x y a ts.length cap) 59 ∧ Below w.heap.size w wr ∧ Hid (Flow.NoDead ts l k)) (fun k' _ => ts.length - (intOf k').toNat)
  case atStart => exact ⟨0, by omega, rfl, Blk.new _ _ _, (Below.refl _ _).alloc (Nat.le_refl _) _, fun j hj => by omega⟩
  case round =>
    obtain ⟨k, hkl, rfl, hb0, hbw, HN⟩ := hrel
    have n2 : wr.cell? ⟨w.heap.size, 2, none⟩ = some (.slice a ts.length cap) := hb0.cell 2
    have z0 := hb0.lt
    have hwb := hbw.size
    have B0 : Hid (Blk wr w.heap.size (netF x y a ts.length cap) 59) := hb0
    have HW : Hid _ := hbw
    by_cases hk : k < ts.length
    · obtain ⟨t, ht⟩ : ∃ t, ts[k]? = some t := ⟨_, List.getElem?_eq_getElem hk⟩
      have ow2 := owns_below OW.out hbw (Nat.le_refl _)
      have cf := firstStep_any ts t m k l base B P wr HT.out ht U.out (IN.out.below hbw)
      obtain ⟨g, cap', hv, _, hg2⟩ := ow2.form (by omega)
      injection hv with hv1 _ hv3
      subst hv1 hv3
      have t0 := ow2.cellAt (k * 3) (by omega)
      have t1 := ow2.cellAt (k * 3 + 1) (by omega)
      have t2 := ow2.cellAt (k * 3 + 2) (by omega)
      obtain ⟨f0, f1, f2⟩ := cellsF_get ht
      rw [f0] at t0
      rw [f1] at t1
      rw [f2] at t2
      have hJ0 : (0 : Int) ≤ (k : Int) := by omega
      have hJ1 : (k : Int) < (ts.length : Int) := by omega
      clear ow2 f0 f1 f2 ht hb0 hbw
      go_wp2_with (go_at_call 48; refine cf.mono ?_; rintro e w2 ⟨r, rfl, hr, hb2⟩; have R : Hid (Flow.FirstIs ts l k r) := hr; have HB2 : Hid _ := hb2; clear hr hb2)
      · have hr0 : r < 0 := by omega
        go_ret
        refine ⟨(k : Int), rfl, .inl ⟨k, hk, ?_, HN.out, rfl⟩, HW.out.trans (HB2.out.mono hwb)⟩
        rcases R.out with ⟨i, n, m', _, _, _, e⟩ | ⟨e, _⟩
        · omega
        · exact e
      · have hr0 : 0 ≤ r := by omega
        have HN' : Hid (Flow.NoDead ts l (k + 1)) := by
          intro j hj hno
          by_cases e : j = k
          · subst e
            rcases R.out with ⟨i, n, m', h1, h2, _⟩ | ⟨_, e⟩
            · have := hno i n (List.getElem?_eq_some_iff.1 h1).1 h1
              rw [h2] at this; cases this
            · omega
          · exact HN.out j (by omega) hno
        go_roundw
        case rel => exact ⟨k + 1, by omega, by go_num, B0.out.below HB2.out z0, HW.out.trans (HB2.out.mono hwb), HN'⟩
        case measure => simp [intOf]; omega
    · obtain rfl : k = ts.length := by omega
      clear hb0 hbw
      go_wp2
      go_ret
      exact ⟨-1, rfl, .inr ⟨HN.out, rfl⟩, HW.out⟩

/-- what firstStuck answers -/
def Flow.StuckAt (ts : List Flow.Tr) (e : Nat) (l : List Flow.Node) (r : Int) : Prop :=
  (∃ (i : Nat) (n : Flow.Node), l[i]? = some n ∧ ¬ Flow.CanEnd ts e n.mark ∧ Flow.NoStuck ts e l i ∧ r = (i : Int)) ∨ (Flow.NoStuck ts e l l.length ∧ r = -1)
theorem atI_has {l : List Flow.Node} {m : Nat} : 0 ≤ atI l m ↔ ∃ (j : Nat) (x : Flow.Node), l[j]? = some x ∧ x.mark = m := by
  constructor
  · intro h
    obtain ⟨n, h1, h2⟩ := atI_some h
    exact ⟨_, n, h1, h2⟩
  · rintro ⟨j, x, h1, h2⟩
    rcases Int.lt_or_le (atI l m) 0 with g | g
    · exact absurd h2 (atI_none.1 g j x h1)
    · exact g

theorem can_iff {ts : List Flow.Tr} {E m : Nat} {lb : List Flow.Node} (hts : ∀ t ∈ ts, Flow.Small t) (hlen : ts.length ≤ 16) (hE : E < 65536) (hb : Flow.Bfs (Flow.turn ts) E lb) (hm : m < 65536) : decide (0 ≤ atI lb m) = true ↔ Flow.CanEnd ts E m := by
  rw [decide_eq_true_iff, atI_has]
  exact turn_has hts hlen hE hb hm
/-- a search that was told is laid into a block that was there -/
theorem sea_low {w2 : World} {X b A : Nat} {lb : List Flow.Node} {aV : Option Addr} {cV : Nat} {arr : Array Value} {c0 c1 : Value} (K : Blk w2 X #[c0, c1] 79) (R : SeaRows w2 b A lb aV cV arr) (hX : X < b) :
    SeaIn ((w2.setCell ⟨X, 0, none⟩ (.slice aV lb.length cV)).setCell ⟨X, 1, none⟩ (.slice (some ⟨A, 0, none⟩) 65536 65536)) 0 X lb := by
  refine ⟨aV, cV, A, arr, Nat.zero_le _, by have := R.baseA; omega, ?_, ?_, ((R.farR hX 0 _).farR hX 1 _).lower (Nat.zero_le _)⟩
  · intro e; have := (owns_lt R.rV e).1; omega
  · have := (K.set 0 (.slice aV lb.length cV)).set 1 (.slice (some ⟨A, 0, none⟩) 65536 65536)
    simpa using this
/-- .. or into a new one -/
theorem sea_new {w2 : World} {b A : Nat} {lb : List Flow.Node} {aV : Option Addr} {cV : Nat} {arr : Array Value} (R : SeaRows w2 b A lb aV cV arr) :
    SeaIn (w2.alloc (.cells (seaC aV lb.length cV A) 79)) 0 w2.heap.size lb := by
  refine ⟨aV, cV, A, arr, Nat.zero_le _, by have := R.rA.lt; omega, ?_, Blk.new _ _ _, (R.below ((Below.refl _ _).alloc (Nat.le_refl _) _)).lower (Nat.zero_le _)⟩
  intro e; have := (owns_lt R.rV e).2; omega

set_option maxHeartbeats 2000000 in
theorem firstStuck_any (ts : List Flow.Tr) (x y : Nat) (a : Option Addr) (cap m base0 : Nat) (l : List Flow.Node) (base B P : Nat) (w : World) (hy : y < 256) (hts : ∀ t ∈ ts, Flow.Small t) (hlen : ts.length ≤ 16) (hu : Flow.Upto ts m l P) (h : SeaIn w base B l)
    (hown : w.ownsRow base0 93 3 (.slice a ts.length cap) ts.length (cellsF ts)) :
    Calls Tryz.prog 73 #[.agg (netF x y a ts.length cap), .pointer (some ⟨B, 0, none⟩)] w fun e w' => ∃ r, e = .returned (.int .i64 r) ∧ Flow.StuckAt ts (Flow.pbit y) l r ∧ Below w.heap.size w w' := by
  have h65 := hu.size
  have U : Hid (Flow.Upto ts m l P) := hu
  have IN : Hid (SeaIn w base B l) := h
  have OW : Hid (w.ownsRow base0 93 3 (.slice a ts.length cap) ts.length (cellsF ts)) := hown
  have HT : Hid (∀ t ∈ ts, Flow.Small t) := hts
  have hpb := Flow.pbit_lt y
  have cp : ∀ W, Calls Tryz.prog 47 #[.int .u8 y] W fun e w' => e = .returned (.int .i64 (Flow.pbit y)) ∧ W = w' := fun W => (placeBit_any y W hy).mono fun e w' h => ⟨h.1, h.2.symm⟩
  obtain ⟨E, hE⟩ : ∃ E, E = Flow.pbit y := ⟨_, rfl⟩
  rw [← hE] at hpb cp ⊢
  have HP : Hid (E < 65536) := hpb
  have c1 := fun W ho => turned_any ts a cap base0 W hlen ho
  have c2 := fun a' cap' b' W ho => explore_any (Flow.turn ts) a' cap' E b' W HP.out (turn_small HT.out) (by rw [turn_len]; exact hlen) ho
  clear hu h hown hts hE hpb
  go_enter Tryz.func73, Tryz.ntmps73
  go_wp2
  have n1 : (w.alloc (.cells (netF x y a ts.length cap) 59)).cell? ⟨w.heap.size, 1, none⟩ = some (.int .u8 y) := (Blk.new w _ _).cell 1
  have n2 : (w.alloc (.cells (netF x y a ts.length cap) 59)).cell? ⟨w.heap.size, 2, none⟩ = some (.slice a ts.length cap) := (Blk.new w _ _).cell 2
  have B0 : Hid (Blk (w.alloc (.cells (netF x y a ts.length cap) 59)) w.heap.size (netF x y a ts.length cap) 59) := Blk.new w _ _
  have OW1 : Hid ((w.alloc (.cells (netF x y a ts.length cap) 59)).ownsRow base0 93 3 (.slice a ts.length cap) ts.length (cellsF ts)) := OW.out.alloc _
  have IN1 : Hid (SeaIn (w.alloc (.cells (netF x y a ts.length cap) 59)) base B l) := IN.out.below ((Below.refl _ _).alloc (Nat.le_refl _) _)
  have HW : Hid (Below w.heap.size w (w.alloc (.cells (netF x y a ts.length cap) 59))) := (Below.refl _ _).alloc (Nat.le_refl _) _
  generalize w.alloc (.cells (netF x y a ts.length cap) 59) = W at n1 n2 B0 OW1 IN1 HW ⊢
  have z0 := B0.out.lt
  have nW : W.heap.size ≠ w.heap.size := by omega
  have nW2 : w.heap.size ≠ W.heap.size := by omega
  rename_i K hK
  have H : ∀ (X : Nat) (wF : World) (lb : List Flow.Node) (v9 v13 : Value), SeaIn wF 0 X lb → Flow.Bfs (Flow.turn ts) E lb → Below W.heap.size W wF →
      K { tmps := #[.agg (netF x y a ts.length cap), .pointer (some ⟨B, 0, none⟩), .pointer (some ⟨w.heap.size, 0, none⟩), undef, .int .i64 0, .pointer (some ⟨X, 0, none⟩), undef, .pointer (some ⟨w.heap.size, 2, none⟩), .slice a ts.length cap, v9, .pointer (some ⟨w.heap.size, 1, none⟩), .int .u8 y, .int .i64 E, v13, undef, undef, undef, undef, undef, undef, undef, undef, undef, undef, undef, undef, undef, undef, undef, undef, undef, undef, undef, undef], defers := [] } wF := by
    intro X wF lb v9 v13 hI2 hBF hBW
    have I2 : Hid (SeaIn wF 0 X lb) := hI2
    have IN3 : Hid (SeaIn wF base B l) := IN1.out.below hBW
    have HW3 : Hid (Below w.heap.size w wF) := HW.out.trans (hBW.mono HW.out.size)
    have CE : Hid (∀ (i : Nat) (n : Flow.Node), l[i]? = some n → (decide (0 ≤ atI lb n.mark) = true ↔ Flow.CanEnd ts E n.mark)) := fun i n hn => can_iff HT.out hlen HP.out hBF (U.out.small i n hn)
    clear n1 n2 B0 OW1 IN1 HW z0 nW nW2 c1 c2 cp OW IN hI2 hBF hBW
    go_wp2
    go_loopw [6] (fun i' wr => ∃ (i : Nat), i ≤ l.length ∧ i' = .int .i64 i ∧ Hid (SeaIn wr 0 X lb) ∧ Hid (SeaIn wr base B l) ∧ Hid (Below w.heap.size w wr) ∧ Hid (Flow.NoStuck ts E l i)) (fun i' _ => l.length - (intOf i').toNat)
    case atStart => exact ⟨0, by omega, rfl, I2, IN3, HW3, fun p n hp => by omega⟩
    case round =>
      clear I2 IN3 HW3
      obtain ⟨i, hil, rfl, I2, IN3, HW3, HN⟩ := hrel
      obtain ⟨aV, cV, A, x0, x1, zB, zA, _, _, hno⟩ := IN3.out.look
      clear x1 zA
      by_cases hlt : i < l.length
      · have hn := List.getElem?_eq_getElem hlt
        obtain ⟨gV, rfl, l1, e0, _, _⟩ := hno i _ hn
        obtain ⟨n, en⟩ : ∃ n, n = l[i] := ⟨_, rfl⟩
        rw [← en] at hn e0
        have N : Hid (l[i]? = some n) := hn
        have hnm := U.out.small i n hn
        have hI0 : (0 : Int) ≤ (i : Int) := by omega
        have hI1 : (i : Int) < (l.length : Int) := by omega
        have ch := has_any lb 0 X n.mark wr hnm I2.out
        have C1 : Hid (decide (0 ≤ atI lb n.mark) = true ↔ Flow.CanEnd ts E n.mark) := CE.out i n hn
        clear hno hn en hnm
        cases hd : decide (0 ≤ atI lb n.mark) with
        | true =>
          rw [hd] at ch
          have HN' : Hid (Flow.NoStuck ts E l (i + 1)) := by
            intro p n' hp hn'
            by_cases e : p = i
            · subst e; rw [N.out] at hn'; injection hn' with hn'; rw [← hn']; exact C1.out.1 hd
            · exact HN.out p n' (by omega) hn'
          clear hd
          go_wp2_with (go_at_call 88; refine ch.mono ?_; rintro e w' ⟨rfl, rfl⟩)
          go_roundw
          case rel => exact ⟨i + 1, by omega, by go_num, I2, IN3, HW3, HN'⟩
          case measure => simp [intOf]; omega
        | false =>
          rw [hd] at ch
          have S : Hid (¬ Flow.CanEnd ts E n.mark) := fun h => by
            have := C1.out.2 h
            rw [hd] at this; cases this
          clear hd
          go_wp2_with (go_at_call 88; refine ch.mono ?_; rintro e w' ⟨rfl, rfl⟩)
          go_ret
          exact ⟨(i : Int), rfl, .inl ⟨i, n, N.out, S.out, HN.out, rfl⟩, HW3.out⟩
      · obtain rfl : i = l.length := by omega
        clear hno
        go_wp2
        go_ret
        exact ⟨-1, rfl, .inr ⟨HN.out, rfl⟩, HW3.out⟩
  clear hK
  go_region_held3 (fun w' => w'.cell? ⟨w.heap.size, 1, none⟩ = some (.int .u8 y) ∧ w'.cell? ⟨w.heap.size, 2, none⟩ = some (.slice a ts.length cap)) (go_keep) (first | (go_at_call 102; (first | refine (c1 _ (OW1.out.drew)).mono ?_ | refine (c1 _ (OW1.out.drew.alloc _)).mono ?_); rintro e w1 ⟨a1, cap1, rfl, ho1, hb1⟩; have HO1 : Hid (w1.ownsRow _ 93 3 (.slice a1 (Flow.turn ts).length cap1) (Flow.turn ts).length (cellsF (Flow.turn ts))) := ho1; have HB1 : Hid _ := hb1; have BW1 : Hid (Below W.heap.size W w1) := (by first | exact (Below.refl _ _).drew.trans hb1 | exact ((Below.refl _ _).drew.alloc (Nat.le_refl _) _).trans (hb1.mono (by simp))); have v1 : w1.cell? ⟨w.heap.size, 1, none⟩ = some (.int .u8 y) := (BW1.out.cell (p := ⟨w.heap.size, 1, none⟩) z0).trans n1; have v2 : w1.cell? ⟨w.heap.size, 2, none⟩ = some (.slice a ts.length cap) := (BW1.out.cell (p := ⟨w.heap.size, 2, none⟩) z0).trans n2; have z1 : w.heap.size < w1.heap.size := (by have := BW1.out.size; omega); have nX : w1.heap.size ≠ w.heap.size := (by omega); have nX2 : w.heap.size ≠ w1.heap.size := (by omega); (try have KX : Hid (Blk w1 W.heap.size #[.slice none 0 0, .slice none 0 0] 79) := (Blk.new_at (w := W.drew) rfl _ _).below hb1 (by simp)); clear ho1 hb1) | (go_at_call 47; refine (cp _).mono ?_; rintro e w' ⟨rfl, rfl⟩) | (go_at_call 41; (first | refine (c2 _ _ _ _ HO1.out).mono ?_ | refine (c2 _ _ _ _ (HO1.out.alloc _)).mono ?_); rintro e w2 ⟨aV, cV, A, lb, arr, rfl, hbfs, hrows, hb2⟩; have RW : Hid (SeaRows w2 _ A lb aV cV arr) := hrows; have BF : Hid (Flow.Bfs (Flow.turn ts) E lb) := hbfs; have HB2 : Hid _ := hb2; (first | (have k2 : Blk w2 W.heap.size #[.slice none 0 0, .slice none 0 0] 79 := KX.out.below hb2 KX.out.lt; have u0 := k2.cell 0; have u1 := k2.cell 1; simp only [List.getElem?_toArray, List.getElem?_cons_zero, List.getElem?_cons_succ] at u0 u1; have q0 := k2.froz 0; have q1 := k2.froz 1; have zz := k2.lt; have K2 : Hid (Blk w2 W.heap.size #[.slice none 0 0, .slice none 0 0] 79) := k2; clear k2) | (have k2 : Blk w2 w1.heap.size #[.slice none 0 0, .slice none 0 0] 79 := (Blk.new w1 _ _).below hb2 (by simp); have u0 := k2.cell 0; have u1 := k2.cell 1; simp only [List.getElem?_toArray, List.getElem?_cons_zero, List.getElem?_cons_succ] at u0 u1; have q0 := k2.froz 0; have q1 := k2.froz 1; have zz := k2.lt; have K2 : Hid (Blk w2 w1.heap.size #[.slice none 0 0, .slice none 0 0] 79) := k2; clear k2) | skip); have BW2 : Hid (Below W.heap.size W w2) := (by first | exact BW1.out.trans (hb2.mono BW1.out.size) | exact (BW1.out.alloc BW1.out.size _).trans (hb2.mono (by have := BW1.out.size; simp; omega))); have v3 : w2.cell? ⟨w.heap.size, 1, none⟩ = some (.int .u8 y) := (BW2.out.cell (p := ⟨w.heap.size, 1, none⟩) z0).trans n1; have v4 : w2.cell? ⟨w.heap.size, 2, none⟩ = some (.slice a ts.length cap) := (BW2.out.cell (p := ⟨w.heap.size, 2, none⟩) z0).trans n2; have z2 : w.heap.size < w2.heap.size := (by have := BW2.out.size; omega); have nY : w2.heap.size ≠ w.heap.size := (by omega); have nY2 : w.heap.size ≠ w2.heap.size := (by omega); clear hbfs hrows hb2))
  all_goals have q1 := BW1.out.size
  all_goals have q2 := BW2.out.size
  all_goals simp only [Exit.then]
  all_goals (first
    | exact H _ _ lb _ _ (sea_low (X := W.heap.size) K2.out RW.out KX.out.lt) BF.out ((BW2.out.setCell (p := ⟨W.heap.size, 0, none⟩) (Nat.le_refl _) _).setCell (p := ⟨W.heap.size, 1, none⟩) (Nat.le_refl _) _)
    | exact H _ _ lb _ _ (sea_low (X := w1.heap.size) K2.out RW.out (by simp)) BF.out ((BW2.out.setCell (p := ⟨w1.heap.size, 0, none⟩) q1 _).setCell (p := ⟨w1.heap.size, 1, none⟩) q1 _)
    | exact H _ _ lb _ _ (sea_new RW.out) BF.out (BW2.out.alloc q2 _))
end Go.Proofs.YtdlldljgogbiaabGreat
namespace Go.Proofs.YtdlldljgogbiaabGreat
open Go.RowKit
set_option linter.unusedVariables false
set_option maxRecDepth 40000

/-- what stands all through the program's judge -/
structure StandsF (w : World) (base0 X x y : Nat) (a : Option Addr) (cap : Nat) (ts : List Flow.Tr) (l : List Flow.Node) (wr : World) : Prop where
  net : Blk wr w.heap.size (netF x y a ts.length cap) 59
  own : wr.ownsRow base0 93 3 (.slice a ts.length cap) ts.length (cellsF ts)
  sea : SeaIn wr 0 X l
  bel : Below w.heap.size w wr
theorem StandsF.below {w : World} {base0 X x y : Nat} {a : Option Addr} {cap : Nat} {ts : List Flow.Tr} {l : List Flow.Node} {wr w2 : World} (h : StandsF w base0 X x y a cap ts l wr) (hb : Below wr.heap.size wr w2) : StandsF w base0 X x y a cap ts l w2 :=
  ⟨h.net.below hb h.net.lt, owns_below h.own hb (Nat.le_refl _), h.sea.below hb, h.bel.trans (hb.mono h.bel.size)⟩
theorem StandsF.look {w : World} {base0 X x y : Nat} {a : Option Addr} {cap : Nat} {ts : List Flow.Tr} {l : List Flow.Node} {wr : World} (h : StandsF w base0 X x y a cap ts l wr) :
    wr.cell? ⟨w.heap.size, 0, none⟩ = some (.int .u8 x) ∧ wr.cell? ⟨w.heap.size, 1, none⟩ = some (.int .u8 y) ∧ wr.cell? ⟨w.heap.size, 2, none⟩ = some (.slice a ts.length cap) ∧ w.heap.size < wr.heap.size ∧ X < wr.heap.size :=
  ⟨h.net.cell 0, h.net.cell 1, h.net.cell 2, h.net.lt, by obtain ⟨_, _, _, _, _, z, _⟩ := h.sea.look; exact z⟩
/-- the string of one byte in a new row -/
theorem string_one (W : World) (b : UInt8) : (convert 82 9 (.slice (some ⟨W.heap.size, 0, none⟩) 1 1)).run Tryz.prog (W.alloc (.cells #[.int .u8 (b.toNat : Int)] 5)).drew = .ok (.string ⟨#[b]⟩) (W.alloc (.cells #[.int .u8 (b.toNat : Int)] 5)).drew := by
  refine run_convert_bytes_back (W.alloc (.cells #[.int .u8 (b.toNat : Int)] 5)).drew 82 9 5 ⟨W.heap.size, 0, none⟩ 1 [b] Tryz.underlying82 Tryz.underlying5 Tryz.underlying9 ?_
  intro j hj
  have := cell_one_new W (.int .u8 (b.toNat : Int)) 5 j (.int .u8 (b.toNat : Int))
  match j, hj with
  | 0, _ => exact this rfl

set_option maxHeartbeats 4000000 in
theorem judgeNet_any (ts : List Flow.Tr) (x y : Nat) (a : Option Addr) (cap base0 : Nat) (w : World) (hx : x < 256) (hy : y < 256) (hts : ∀ t ∈ ts, Flow.Small t) (hlen : ts.length ≤ 16)
    (hown : w.ownsRow base0 93 3 (.slice a ts.length cap) ts.length (cellsF ts)) :
    Calls Tryz.prog 39 #[.agg (netF x y a ts.length cap)] w (JudgedPost ts (Flow.pbit x) (Flow.pbit y) w) := by
  have OW : Hid (w.ownsRow base0 93 3 (.slice a ts.length cap) ts.length (cellsF ts)) := hown
  have HT : Hid (∀ t ∈ ts, Flow.Small t) := hts
  have hpb := Flow.pbit_lt x
  have cp : ∀ W, Calls Tryz.prog 47 #[.int .u8 x] W fun e w' => e = .returned (.int .i64 (Flow.pbit x)) ∧ W = w' := fun W => (placeBit_any x W hx).mono fun e w' h => ⟨h.1, h.2.symm⟩
  obtain ⟨M, hM⟩ : ∃ M, M = Flow.pbit x := ⟨_, rfl⟩
  rw [← hM] at hpb cp ⊢
  have HM : Hid (M < 65536) := hpb
  have c2 := fun b' W ho => explore_any ts a cap M b' W HM.out HT.out hlen ho
  have HY : Hid (y < 256) := hy
  clear hown hts hM hpb hy hx
  go_enter Tryz.func39, Tryz.ntmps39
  go_wp2
  have n0 : (w.alloc (.cells (netF x y a ts.length cap) 59)).cell? ⟨w.heap.size, 0, none⟩ = some (.int .u8 x) := (Blk.new w _ _).cell 0
  have n2 : (w.alloc (.cells (netF x y a ts.length cap) 59)).cell? ⟨w.heap.size, 2, none⟩ = some (.slice a ts.length cap) := (Blk.new w _ _).cell 2
  have B0 : Hid (Blk (w.alloc (.cells (netF x y a ts.length cap) 59)) w.heap.size (netF x y a ts.length cap) 59) := Blk.new w _ _
  have OW1 : Hid ((w.alloc (.cells (netF x y a ts.length cap) 59)).ownsRow base0 93 3 (.slice a ts.length cap) ts.length (cellsF ts)) := OW.out.alloc _
  have HW : Hid (Below w.heap.size w (w.alloc (.cells (netF x y a ts.length cap) 59))) := (Below.refl _ _).alloc (Nat.le_refl _) _
  generalize w.alloc (.cells (netF x y a ts.length cap) 59) = W at n0 n2 B0 OW1 HW ⊢
  have z0 := B0.out.lt
  have nW : W.heap.size ≠ w.heap.size := by omega
  have nW2 : w.heap.size ≠ W.heap.size := by omega
  clear OW
  rename_i K hK
  have H : ∀ (X : Nat) (wF : World) (l : List Flow.Node) (v12 : Value), SeaIn wF 0 X l → Flow.Bfs ts M l → Below W.heap.size W wF →
      K { tmps := #[.agg (netF x y a ts.length cap), .pointer (some ⟨w.heap.size, 0, none⟩), .int .i64 0, .string ⟨#[]⟩, .pointer (some ⟨X, 0, none⟩), undef, undef, .pointer (some ⟨w.heap.size, 2, none⟩), .slice a ts.length cap, .pointer (some ⟨w.heap.size, 0, none⟩), .int .u8 x, .int .i64 M, v12, undef, undef, undef, undef, undef, undef, undef, undef, undef, undef, undef, undef, undef, undef, undef, undef, undef, undef, undef, undef, undef, undef, undef, undef, undef, undef, undef, undef, undef, undef, undef, undef], defers := [] } wF := by
    intro X wF l v12 hI2 hBF hBW
    have ST0 : Hid (StandsF w base0 X x y a cap ts l wF) := ⟨B0.out.below hBW z0, owns_below OW1.out hBW (Nat.le_refl _), hI2, HW.out.trans (hBW.mono HW.out.size)⟩
    have U : Hid (Flow.Bfs ts M l) := hBF
    clear n0 n2 B0 OW1 HW z0 nW nW2 c2 cp hI2 hBF hBW
    obtain ⟨n0, n1, n2, z0, zX⟩ := ST0.out.look
    have c1 := firstSpill_any ts x y a cap M base0 l 0 X (l.length * 16) wF HT.out hlen U.out ST0.out.sea ST0.out.own
    go_wp2_with (first
      | (go_at_call 71; refine c1.mono ?_; rintro e w1 ⟨r, s, rfl, hr, hb⟩; have ST1 : Hid (StandsF w base0 X x y a cap ts l w1) := ST0.out.below hb; obtain ⟨p0, p1, p2, y0, yX⟩ := ST1.out.look; clear hb n0 n1 n2 z0 zX c1; rcases hr with ⟨i, k, n, h1, h2, h3, h4, rfl, rfl⟩ | ⟨h4, rfl, rfl⟩)
      | (go_at_call 49; refine (runAndStep_any ts M l 0 X i k (l.length * 16) _ U.out (List.getElem?_eq_some_iff.1 h1).1 (by omega) ST1.out.sea).mono ?_; rintro e w5 ⟨rfl, hb⟩; have F1 : Hid (Flow.JudgeIs ts (Flow.pbit y) l 2 (Flow.runOf (Flow.key l i ++ [k])) ∧ Below w.heap.size w w5) := ⟨.inl ⟨.inl ⟨i, k, n, h1, h2, h3, h4, rfl, rfl⟩, rfl⟩, ST1.out.bel.trans (hb.mono ST1.out.bel.size)⟩; clear hb)
      | (go_at_call 72; refine (firstImproper_any ts M l x y a ts.length cap 0 X (l.length * 16) _ HY.out U.out ST1.out.sea).mono ?_; rintro e w2 ⟨r, rfl, hr, hb⟩; have ST2 : Hid (StandsF w base0 X x y a cap ts l w2) := ST1.out.below hb; obtain ⟨r0, r1, r2, x0, xX⟩ := ST2.out.look; clear hb p0 p1 p2 y0 yX; rcases hr with ⟨i, n, j1, j2, j3, rfl⟩ | ⟨j3, rfl⟩)
      | (go_at_call 73; refine (firstStuck_any ts x y a cap M base0 l 0 X (l.length * 16) _ HY.out HT.out hlen U.out ST2.out.sea ST2.out.own).mono ?_; rintro e w3 ⟨r, rfl, hr, hb⟩; have ST3 : Hid (StandsF w base0 X x y a cap ts l w3) := ST2.out.below hb; obtain ⟨s0, s1, s2, u0, uX⟩ := ST3.out.look; clear hb r0 r1 r2 x0 xX; rcases hr with ⟨i, n, k1, k2, k3, rfl⟩ | ⟨k3, rfl⟩)
      | (go_at_call 74; refine (firstDead_any ts x y a cap M base0 l 0 X (l.length * 16) _ HT.out hlen U.out ST3.out.sea ST3.out.own).mono ?_; rintro e w4 ⟨r, rfl, hr, hb⟩; have ST4 : Hid (StandsF w base0 X x y a cap ts l w4) := ST3.out.below hb; clear hb s0 s1 s2 u0 uX; rcases hr with ⟨k, m1, m2, m3, rfl⟩ | ⟨m3, rfl⟩))
    all_goals (first
      | (have _t := h1; go_ret2; exact ⟨2, _, l, rfl, U.out, F1.out.1, F1.out.2⟩)
      | (have _t := j1; go_region_with (go_at_call 43; have _t := j1; refine (runTo_any ts M l 0 X i (l.length * 16) _ U.out (List.getElem?_eq_some_iff.1 _t).1 ST2.out.sea.drew).mono ?_; rintro e w5 ⟨a5, cap5, rfl, ho, hb⟩; have hcv := string_of_owned (Flow.signs (Flow.key l i)) ho; have F2 : Hid (Flow.JudgeIs ts (Flow.pbit y) l 3 (Flow.runOf (Flow.key l i)) ∧ Below w.heap.size w w5) := ⟨.inr ⟨h4, .inl ⟨i, n, j1, j2, j3, rfl, rfl⟩⟩, ST2.out.bel.drew.trans (hb.mono ST2.out.bel.size)⟩; clear hb ho _t)
         all_goals go_wp2
         all_goals go_ret2
         all_goals (first | exact ⟨3, _, l, rfl, U.out, F2.out.1, F2.out.2⟩ | exact ⟨3, _, l, rfl, U.out, F2.out.1, F2.out.2.drew⟩))
      | (have _t := k1; go_region_with (go_at_call 43; have _t := k1; refine (runTo_any ts M l 0 X i (l.length * 16) _ U.out (List.getElem?_eq_some_iff.1 _t).1 ST3.out.sea.drew).mono ?_; rintro e w5 ⟨a5, cap5, rfl, ho, hb⟩; have hcv := string_of_owned (Flow.signs (Flow.key l i)) ho; have F3 : Hid (Flow.JudgeIs ts (Flow.pbit y) l 4 (Flow.runOf (Flow.key l i)) ∧ Below w.heap.size w w5) := ⟨.inr ⟨h4, .inr ⟨j3, .inl ⟨i, n, k1, k2, k3, rfl, rfl⟩⟩⟩, ST3.out.bel.drew.trans (hb.mono ST3.out.bel.size)⟩; clear hb ho _t)
         all_goals go_wp2
         all_goals go_ret2
         all_goals (first | exact ⟨4, _, l, rfl, U.out, F3.out.1, F3.out.2⟩ | exact ⟨4, _, l, rfl, U.out, F3.out.1, F3.out.2.drew⟩))
      | (go_ret2; exact ⟨1, _, l, rfl, U.out, .inr ⟨h4, .inr ⟨j3, .inr ⟨k3, .inr ⟨m3, rfl, rfl⟩⟩⟩⟩, ST4.out.bel⟩)
      | skip)
    go_region_with (go_at_call 75; refine (signOf_any k _ (by omega)).mono ?_; rintro e w' ⟨rfl, rfl⟩; have F4 : Hid (Flow.JudgeIs ts (Flow.pbit y) l 5 (Flow.runOf [k])) := .inr ⟨h4, .inr ⟨j3, .inr ⟨k3, .inl ⟨k, m1, m2, m3, rfl, rfl⟩⟩⟩⟩; have hcd := string_one w4 (Flow.sgn k))
    all_goals go_wp2
    all_goals go_ret2
    all_goals exact ⟨5, _, l, rfl, U.out, F4.out, (ST4.out.bel.alloc ST4.out.bel.size _).drew⟩
  clear hK
  go_region_held3 (fun w' => w'.cell? ⟨w.heap.size, 0, none⟩ = some (.int .u8 x) ∧ w'.cell? ⟨w.heap.size, 2, none⟩ = some (.slice a ts.length cap)) (go_keep) (first | (go_at_call 47; refine (cp _).mono ?_; rintro e w' ⟨rfl, rfl⟩) | (go_at_call 41; (first | refine (c2 _ _ (OW1.out.drew)).mono ?_ | refine (c2 _ _ (OW1.out.drew.alloc _)).mono ?_); rintro e w2 ⟨aV, cV, A, lb, arr, rfl, hbfs, hrows, hb2⟩; have RW : Hid (SeaRows w2 _ A lb aV cV arr) := hrows; have BF : Hid (Flow.Bfs ts M lb) := hbfs; (try (have k2 : Blk w2 W.heap.size #[.slice none 0 0, .slice none 0 0] 79 := (Blk.new_at (w := W.drew) rfl _ _).below hb2 (by simp); have u0 := k2.cell 0; have u1 := k2.cell 1; simp only [List.getElem?_toArray, List.getElem?_cons_zero, List.getElem?_cons_succ] at u0 u1; have q0 := k2.froz 0; have q1 := k2.froz 1; have zz := k2.lt; have K2 : Hid (Blk w2 W.heap.size #[.slice none 0 0, .slice none 0 0] 79) := k2; clear k2)); have BW2 : Hid (Below W.heap.size W w2) := (by first | exact (Below.refl _ _).drew.trans hb2 | exact ((Below.refl _ _).drew.alloc (Nat.le_refl _) _).trans (hb2.mono (by simp))); have v3 : w2.cell? ⟨w.heap.size, 0, none⟩ = some (.int .u8 x) := (BW2.out.cell (p := ⟨w.heap.size, 0, none⟩) z0).trans n0; have v4 : w2.cell? ⟨w.heap.size, 2, none⟩ = some (.slice a ts.length cap) := (BW2.out.cell (p := ⟨w.heap.size, 2, none⟩) z0).trans n2; have z2 : w.heap.size < w2.heap.size := (by have := BW2.out.size; omega); have nY : w2.heap.size ≠ w.heap.size := (by omega); have nY2 : w.heap.size ≠ w2.heap.size := (by omega); clear hbfs hrows hb2))
  all_goals have q2 := BW2.out.size
  all_goals simp only [Exit.then]
  all_goals (first
    | exact H _ _ lb _ (sea_low (X := W.heap.size) K2.out RW.out (by simp)) BF.out ((BW2.out.setCell (p := ⟨W.heap.size, 0, none⟩) (Nat.le_refl _) _).setCell (p := ⟨W.heap.size, 1, none⟩) (Nat.le_refl _) _)
    | exact H _ _ lb _ (sea_new RW.out) BF.out (BW2.out.alloc q2 _))
end Go.Proofs.YtdlldljgogbiaabGreat
namespace Go.Proofs.YtdlldljgogbiaabGreat
open Go.RowKit
set_option linter.unusedVariables false
set_option maxRecDepth 40000

theorem last_pbit {s : ByteArray} (h : Flow.isPl (Flow.bt s 1) = true) : Flow.last s = Flow.pbit (Flow.bt s 1) := by
  unfold Flow.last Flow.pbit; rw [if_pos h]

set_option maxHeartbeats 1000000 in
theorem judgeF_any (s : ByteArray) (w : World) (hs : s.size ≤ maxLen) : Calls Tryz.prog 18 #[.string s] w (JudgePost s w) := by
  by_cases h2 : Flow.checkErr s = 0
  · obtain ⟨hok, hsz, hp0, hp1⟩ := checkErr_ok h2
    obtain ⟨hf, hfe⟩ := first_lt hp0
    have hle := last_pbit hp1
    have c1 := fun w => netF_ok s w hs h2
    have c2 : ∀ a cap base w, w.ownsRow base 93 3 (.slice a (Flow.readTr s).length cap) (Flow.readTr s).length (cellsF (Flow.readTr s)) → Calls Tryz.prog 39 #[.agg (netF (Flow.bt s 0) (Flow.bt s 1) a (Flow.readTr s).length cap)] w (JudgedPost (Flow.readTr s) (Flow.first s) (Flow.last s) w) := fun a cap base w ho => by
      rw [hfe, hle]
      exact judgeNet_any (Flow.readTr s) (Flow.bt s 0) (Flow.bt s 1) a cap base w (Flow.bt_lt _ _) (Flow.bt_lt _ _) (readTr_small s) (readTr_size s) ho
    have H2 : Hid _ := h2
    clear h2 hok hsz hp0 hp1 hf hfe hle
    go_enter Tryz.func18, Tryz.ntmps18
    go_wp2_with (first | (go_at_call 32; refine (c1 _).mono ?_; rintro e w1 ⟨a, cap, rfl, hb1, ho1⟩; have HB1 : Hid _ := hb1; have HO1 : Hid (w1.ownsRow _ 93 3 (.slice a (Flow.readTr s).length cap) (Flow.readTr s).length (cellsF (Flow.readTr s))) := ho1; clear hb1 ho1) | (go_at_call 39; refine (c2 a cap _ _ (HO1.out.alloc _)).mono ?_; rintro e w2 ⟨v, t, l, rfl, hbfs, hj, hb2⟩; have HB2 : Hid _ := hb2; have HJ : Hid (Flow.Bfs (Flow.readTr s) (Flow.first s) l ∧ Flow.JudgeIs (Flow.readTr s) (Flow.last s) l v t) := ⟨hbfs, hj⟩; clear hb2 hbfs hj))
    go_ret3
    have z1 := HB1.out.size
    exact ⟨v, t, 0, rfl, .inr ⟨H2.out, rfl, l, HJ.out⟩, (HB1.out.alloc z1 _).trans (HB2.out.mono (by simp; omega))⟩
  · have c1 := fun w => netF_no s w hs h2
    have t2 : ((Flow.checkErr s : Int) != 0) = true := by simp; omega
    go_enter Tryz.func18, Tryz.ntmps18
    go_wp2_with (go_at_call 32; refine (c1 _).mono ?_; rintro e w1 ⟨rfl, hb1⟩; have HB1 : Hid _ := hb1; clear hb1)
    go_ret3
    exact ⟨0, ⟨#[]⟩, Flow.checkErr s, rfl, .inl ⟨h2, rfl, rfl, rfl⟩, HB1.out.alloc HB1.out.size _⟩
end Go.Proofs.YtdlldljgogbiaabGreat
