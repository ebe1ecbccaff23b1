/-
  The program's looks for a step that spills, for a marking that has the end and more.
-/
import Derived.Test.YtdlldljgogbiaaaStepF
import Derived.Test.YtdlldljgogbiaaaJudgedR
namespace Go.Proofs.Ytdlldljgogbiaaa
open Go.RowKit
set_option linter.unusedVariables false
set_option maxRecDepth 40000

/-- what firstSpill answers -/
def Flow.SpillAt (ts : List Flow.Tr) (l : List Flow.Node) (r s : Int) : Prop :=
  (∃ (i k : Nat) (n : Flow.Node), l[i]? = some n ∧ k < ts.length ∧ Flow.spillM ts n.mark k ∧ Flow.NoSpill ts l i k ∧ r = (i : Int) ∧ s = (k : Int)) ∨ (Flow.NoSpill ts l l.length 0 ∧ r = -1 ∧ s = -1)
theorem fireErr_spill {t : Flow.Tr} {m : Nat} : Flow.fireErr t m = 6 ↔ Flow.enabled t m = true ∧ Flow.spills t m = true := by
  unfold Flow.fireErr
  cases Flow.enabled t m <;> cases Flow.spills t m <;> simp

set_option maxHeartbeats 2000000 in
theorem firstSpill_any (ts : List Flow.Tr) (x y : Nat) (a : Option Addr) (cap m base0 : Nat) (l : List Flow.Node) (base B P : Nat) (w : World) (hts : ∀ t ∈ ts, Flow.Small t) (hlen : ts.length ≤ 16) (hu : Flow.Upto ts m l P) (h : SeaIn w base B l)
    (hown : w.ownsRow base0 91 3 (.slice a ts.length cap) ts.length (cellsF ts)) :
    Calls Try.prog 74 #[.agg (netF x y a ts.length cap), .pointer (some ⟨B, 0, none⟩)] w fun e w' => ∃ r s, e = .returned (.tuple #[.int .i64 r, .int .i64 s]) ∧ Flow.SpillAt ts l r s ∧ Below w.heap.size w w' := by
  have h65 := hu.size
  have U : Hid (Flow.Upto ts m l P) := hu
  have IN : Hid (SeaIn w base B l) := h
  have OW : Hid (w.ownsRow base0 91 3 (.slice a ts.length cap) ts.length (cellsF ts)) := hown
  have HT : Hid (∀ t ∈ ts, Flow.Small t) := hts
  clear hu h hown hts
  go_enter Try.func74, Try.ntmps74
  go_wp2
  go_loopw [6] (fun i' wr => ∃ (i : Nat), i ≤ l.length ∧ i' = .int .i64 i ∧ Blk wr w.heap.size (netF x y a ts.length cap) 60 ∧ Below w.heap.size w wr ∧ Hid (Flow.NoSpill ts l i 0)) (fun i' _ => l.length - (intOf i').toNat)
  case atStart => exact ⟨0, by omega, rfl, Blk.new _ _ _, (Below.refl _ _).alloc (Nat.le_refl _) _, fun p j n _ hp => by omega⟩
  case round =>
    obtain ⟨i, hil, rfl, hb0, hbw, HN⟩ := hrel
    obtain ⟨aV, cV, A, x0, x1, zB, zA, _, _, hno⟩ := (IN.out.below hbw).look
    have B0 : Hid (Blk wr w.heap.size (netF x y a ts.length cap) 60) := hb0
    have HW : Hid _ := hbw
    clear hb0 hbw x1 zA hno
    by_cases hlt : i < l.length
    · go_wp2
      clear x0 zB
      obtain ⟨wo, rfl⟩ : ∃ wo : World, wo = wr := ⟨_, rfl⟩
      go_loopw [7] (fun k' wr => ∃ (k : Nat), k ≤ ts.length ∧ k' = .int .i64 k ∧ Blk wr w.heap.size (netF x y a ts.length cap) 60 ∧ Below w.heap.size w wr ∧ Hid (Flow.NoSpill ts l i k)) (fun k' _ => ts.length - (intOf k').toNat)
      case atStart => exact ⟨0, by omega, rfl, B0.out, HW.out, HN⟩
      case round =>
        clear HN B0 HW
        obtain ⟨k, hkl, rfl, hb0, hbw, HN⟩ := hrel
        have n2 : wr.cell? ⟨w.heap.size, 2, none⟩ = some (.slice a ts.length cap) := hb0.cell 2
        have z0 := hb0.lt
        have hwb := hbw.size
        have B0 : Hid (Blk wr w.heap.size (netF x y a ts.length cap) 60) := hb0
        have HW : Hid _ := hbw
        by_cases hk : k < ts.length
        · obtain ⟨aV, cV, A, x0, x1, zB, zA, _, _, hno⟩ := (IN.out.below hbw).look
          have hn := List.getElem?_eq_getElem hlt
          obtain ⟨gV, rfl, l1, e0, _, _⟩ := hno i _ hn
          obtain ⟨n, en⟩ : ∃ n, n = l[i] := ⟨_, rfl⟩
          rw [← en] at hn e0
          have N : Hid (l[i]? = some n) := hn
          have hnm := U.out.small i n hn
          obtain ⟨t, ht⟩ : ∃ t, ts[k]? = some t := ⟨_, List.getElem?_eq_getElem hk⟩
          obtain ⟨s1, s2, s3⟩ := HT.out t (List.mem_of_getElem? ht)
          have ow2 := owns_below OW.out hbw (Nat.le_refl _)
          obtain ⟨g, cap', hv, _, hg2⟩ := ow2.form (by omega)
          injection hv with hv1 _ hv3
          subst hv1 hv3
          have t0 := ow2.cellAt (k * 3) (by omega)
          have t1 := ow2.cellAt (k * 3 + 1) (by omega)
          have t2 := ow2.cellAt (k * 3 + 2) (by omega)
          obtain ⟨f0, f1, f2⟩ := cellsF_get ht
          rw [f0] at t0
          rw [f1] at t1
          rw [f2] at t2
          have T : Hid (ts[k]? = some t) := ht
          have hI0 : (0 : Int) ≤ (i : Int) := by omega
          have hI1 : (i : Int) < (l.length : Int) := by omega
          have hJ0 : (0 : Int) ≤ (k : Int) := by omega
          have hJ1 : (k : Int) < (ts.length : Int) := by omega
          have cf : ∀ W, Calls Try.prog 86 #[.agg (trF t), .int .i64 n.mark] W fun e w' => e = .returned (.tuple #[.int .i64 (Flow.fireTo t n.mark), .int .i64 (Flow.fireErr t n.mark)]) ∧ w' = W.alloc (.cells (trF t) 91) := fun W => fireAt_any t n.mark W hnm s2 s3
          clear hn en hnm ow2 f0 f1 f2 ht s1 s2 s3 hno x1 zA hb0 hbw
          by_cases hE : Flow.fireErr t n.mark = 6
          · have te : ((Flow.fireErr t n.mark : Int) == 6) = true := by rw [hE]; rfl
            have S : Hid (Flow.spillM ts n.mark k) := ⟨t, T.out, fireErr_spill.1 hE⟩
            clear hE
            go_wp2
            go_region_with (go_at_call 86; refine (cf _).mono ?_; rintro e w2 ⟨rfl, rfl⟩)
            all_goals go_wp2
            all_goals go_ret2
            all_goals exact ⟨(i : Int), (k : Int), rfl, .inl ⟨i, k, n, N.out, hk, S.out, HN.out, rfl, rfl⟩, (HW.out.alloc hwb _).drew⟩
          · have te : ((Flow.fireErr t n.mark : Int) == 6) = false := by simp; omega
            have HN' : Hid (Flow.NoSpill ts l i (k + 1)) := by
              intro p j n' hp hc hs
              by_cases e : p = i ∧ j = k
              · obtain ⟨rfl, rfl⟩ := e
                rw [N.out] at hp
                injection hp with hp
                subst hp
                obtain ⟨t', ht', hs'⟩ := hs
                rw [T.out] at ht'
                injection ht' with ht'
                subst ht'
                exact hE (fireErr_spill.2 hs')
              · exact HN.out p j n' hp (by omega) hs
            clear hE
            go_wp2
            go_region_with (go_at_call 86; refine (cf _).mono ?_; rintro e w2 ⟨rfl, rfl⟩)
            all_goals go_wp2
            all_goals go_roundw
            all_goals (first | (simp [intOf]; omega) | exact ⟨k + 1, by omega, by go_num, (B0.out.alloc _).drew, (HW.out.alloc hwb _).drew, HN'⟩)
        · obtain rfl : k = ts.length := by omega
          have HN' : Hid (Flow.NoSpill ts l (i + 1) 0) := by
            intro p j n' hp hc hs
            by_cases e : p = i
            · subst e
              obtain ⟨t', ht', hs'⟩ := hs
              exact HN.out p j n' hp (.inr ⟨rfl, (List.getElem?_eq_some_iff.1 ht').1⟩) ⟨t', ht', hs'⟩
            · exact HN.out p j n' hp (by omega) hs
          clear hb0 hbw
          go_wp2
          go_roundw
          case rel => exact ⟨i + 1, by omega, by go_num, B0.out, HW.out, HN'⟩
          case measure => simp [intOf]; omega
    · obtain rfl : i = l.length := by omega
      go_wp2
      go_ret2
      exact ⟨-1, -1, rfl, .inr ⟨HN.out, rfl, rfl⟩, HW.out⟩

/-- what firstImproper answers -/
def Flow.ImpAt (e : Nat) (l : List Flow.Node) (r : Int) : Prop :=
  (∃ (i : Nat) (n : Flow.Node), l[i]? = some n ∧ Flow.Improper e n.mark ∧ Flow.NoImp e l i ∧ r = (i : Int)) ∨ (Flow.NoImp e l l.length ∧ r = -1)

set_option maxHeartbeats 2000000 in
theorem firstImproper_any (ts : List Flow.Tr) (m : Nat) (l : List Flow.Node) (x y : Nat) (a : Option Addr) (n0 cap base B P : Nat) (w : World) (hy : y < 256) (hu : Flow.Upto ts m l P) (h : SeaIn w base B l) :
    Calls Try.prog 75 #[.agg (netF x y a n0 cap), .pointer (some ⟨B, 0, none⟩)] w fun e w' => ∃ r, e = .returned (.int .i64 r) ∧ Flow.ImpAt (Flow.pbit y) l r ∧ Below w.heap.size w w' := by
  have h65 := hu.size
  have U : Hid (Flow.Upto ts m l P) := hu
  have IN : Hid (SeaIn w base B l) := h
  have hpb := Flow.pbit_lt y
  have cp : ∀ W, Calls Try.prog 53 #[.int .u8 y] W fun e w' => e = .returned (.int .i64 (Flow.pbit y)) ∧ W = w' := fun W => (placeBit_any y W hy).mono fun e w' h => ⟨h.1, h.2.symm⟩
  obtain ⟨E, hE⟩ : ∃ E, E = Flow.pbit y := ⟨_, rfl⟩
  rw [← hE] at hpb cp ⊢
  have HP : Hid (E < 65536) := hpb
  clear hu h hE hpb
  go_enter Try.func75, Try.ntmps75
  go_wp2_with (go_at_call 53; refine (cp _).mono ?_; rintro e w' ⟨rfl, rfl⟩)
  go_loopw [6] (fun i' wr => ∃ (i : Nat), i ≤ l.length ∧ i' = .int .i64 i ∧ Below w.heap.size w wr ∧ Hid (Flow.NoImp E l i)) (fun i' _ => l.length - (intOf i').toNat)
  case atStart => exact ⟨0, by omega, rfl, (Below.refl _ _).alloc (Nat.le_refl _) _, fun p n hp => by omega⟩
  case round =>
    obtain ⟨i, hil, rfl, hbw, HN⟩ := hrel
    obtain ⟨aV, cV, A, x0, x1, zB, zA, _, _, hno⟩ := (IN.out.below hbw).look
    have HW : Hid _ := hbw
    clear hbw x1 zA
    by_cases hlt : i < l.length
    · have hn := List.getElem?_eq_getElem hlt
      obtain ⟨gV, rfl, l1, e0, _, _⟩ := hno i _ hn
      obtain ⟨n, en⟩ : ∃ n, n = l[i] := ⟨_, rfl⟩
      rw [← en] at hn e0
      have N : Hid (l[i]? = some n) := hn
      have hnm := U.out.small i n hn
      have hI0 : (0 : Int) ≤ (i : Int) := by omega
      have hI1 : (i : Int) < (l.length : Int) := by omega
      have ea := Flow.and_nat n.mark E hnm HP.out
      clear hno hn en hnm
      by_cases hA : n.mark &&& E = 0
      · have t1 : (bits .and .i64 (n.mark : Int) (E : Int) != 0) = false := by rw [ea, hA]; rfl
        have HN' : Hid (Flow.NoImp E l (i + 1)) := by
          intro p n' hp hn'
          by_cases e : p = i
          · subst e; rw [N.out] at hn'; injection hn' with hn'; rw [← hn']; exact fun h => h.1 hA
          · exact HN.out p n' (by omega) hn'
        clear ea hA
        go_wp2
        go_roundw
        case rel => exact ⟨i + 1, by omega, by go_num, HW.out, HN'⟩
        case measure => simp [intOf]; omega
      · have t1 : (bits .and .i64 (n.mark : Int) (E : Int) != 0) = true := by rw [ea]; simp; omega
        by_cases hQ : n.mark = E
        · have t2 : ((n.mark : Int) != (E : Int)) = false := by rw [hQ]; simp
          have HN' : Hid (Flow.NoImp E l (i + 1)) := by
            intro p n' hp hn'
            by_cases e : p = i
            · subst e; rw [N.out] at hn'; injection hn' with hn'; rw [← hn']; exact fun h => h.2 hQ
            · exact HN.out p n' (by omega) hn'
          clear ea hA hQ
          go_wp2
          go_roundw
          case rel => exact ⟨i + 1, by omega, by go_num, HW.out, HN'⟩
          case measure => simp [intOf]; omega
        · have t2 : ((n.mark : Int) != (E : Int)) = true := by simp; omega
          have I : Hid (Flow.Improper E n.mark) := ⟨hA, hQ⟩
          clear ea hA hQ
          go_wp2
          go_ret
          exact ⟨(i : Int), rfl, .inl ⟨i, n, N.out, I.out, HN.out, rfl⟩, HW.out⟩
    · obtain rfl : i = l.length := by omega
      clear hno
      go_wp2
      go_ret
      exact ⟨-1, rfl, .inr ⟨HN.out, rfl⟩, HW.out⟩
end Go.Proofs.Ytdlldljgogbiaaa
