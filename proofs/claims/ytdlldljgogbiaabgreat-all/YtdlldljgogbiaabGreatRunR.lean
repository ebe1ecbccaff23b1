/-
  The run by which the reference's search came to a marking; the first run whose last step is a transition.
-/
import Derived.Test.YtdlldljgogbiaabGreatWalkR
import Derived.Laws.Concat
namespace Go.Proofs.YtdlldljgogbiaabGreat
open Go.RowKit
set_option linter.unusedVariables false
set_option maxRecDepth 40000

theorem signs_append (a b : List Nat) : Flow.signs (a ++ b) = Flow.signs a ++ Flow.signs b := by simp [Flow.signs]
theorem signs_len (a : List Nat) : (Flow.signs a).length = a.length := by simp [Flow.signs]
theorem runOf_append (a b : List Nat) : Flow.runOf a ++ Flow.runOf b = Flow.runOf (a ++ b) := by
  unfold Flow.runOf; rw [signs_append]; exact ByteArray.mk_append_mk _ _
theorem runOf_size (a : List Nat) : (Flow.runOf a).size = a.length := by
  show (Flow.signs a).toArray.size = _; simp [Flow.signs]

set_option maxHeartbeats 1000000 in
theorem runR_any (ts : List Flow.Tr) (m : Nat) (l : List Flow.Node) (base B j P : Nat) (w : World) (hu : Flow.Upto ts m l P) (hj : j < l.length) (h : WalkIn w base B l) :
    Calls Tryz.prog 45 #[.pointer (some ⟨B, 0, none⟩), .int .i64 j] w fun e w' => e = .returned (.string (Flow.runOf (Flow.key l j))) ∧ w' = w := by
  obtain ⟨aM, aF, aB, cM, cF, cB, A, x0, x1, x2, x3, zB, zA, _, hat, hno⟩ := h.look
  have h65 := hu.size
  have hkl := Flow.key_len hu j hj
  have U : Hid (Flow.Upto ts m l P) := hu
  have NO : Hid (∀ (i : Nat) (n : Flow.Node), l[i]? = some n → ∃ gM gF gB, aM = some ⟨gM, 0, none⟩ ∧ aF = some ⟨gF, 0, none⟩ ∧ aB = some ⟨gB, 0, none⟩ ∧ gM < w.heap.size ∧ gF < w.heap.size ∧ gB < w.heap.size ∧ w.cell? ⟨gM, i, none⟩ = some (.int .i64 n.mark) ∧ w.cell? ⟨gF, i, none⟩ = some (.int .i64 n.frm) ∧ w.cell? ⟨gB, i, none⟩ = some (.int .i64 n.via)) := hno
  clear h hat hno hu x0 x3
  go_enter Tryz.func45, Tryz.ntmps45
  go_wp2
  go_loop [1, 5] (fun i' s' => ∃ (p : Nat) (ks : List Nat), p < l.length ∧ i' = .int .i64 p ∧ s' = .string (Flow.runOf ks) ∧ Hid (Flow.key l p ++ ks = Flow.key l j)) (fun i' _ => (intOf i').toNat)
  case atStart => exact ⟨j, [], hj, rfl, rfl, by show _ = _; simp⟩
  case round =>
    obtain ⟨p, ks, hp, rfl, rfl, HK⟩ := hrel
    have hn := List.getElem?_eq_getElem hp
    obtain ⟨gM, gF, gB, rfl, rfl, rfl, l1, l2, l3, d1, d2, d3⟩ := NO.out p _ hn
    have hI0 : (0 : Int) ≤ (p : Int) := by omega
    have hI1 : (p : Int) < (l.length : Int) := by omega
    have hks : ks.length ≤ 65536 := by
      have := congrArg List.length HK.out
      simp at this
      omega
    by_cases h0 : p = 0
    · subst h0
      have e := U.out.zero
      rw [hn] at e
      injection e with e
      rw [e] at d2
      have K := HK.out
      rw [Flow.key_zero U.out] at K
      simp at K
      clear hn e d1 d3 l1 l3 HK
      go_wp2
      go_ret
      exact ⟨rfl, rfl⟩
    · obtain ⟨q, k, e1, e2, e3, e4, _⟩ := U.out.back p _ hn h0
      have K : Hid (Flow.key l q ++ (k :: ks) = Flow.key l j) := by
        show _ = _
        rw [← HK.out, Flow.key_step U.out hn h0 e1 e2]; simp
      rw [e1] at d2
      rw [e2] at d3
      have A1 : Hid (Flow.runOf [k] ++ Flow.runOf ks = Flow.runOf (k :: ks)) := runOf_append [k] ks
      have r1 := runOf_size [k]
      have r2 := runOf_size ks
      simp at r1
      have z1 : ((Flow.runOf [k]).size : Int) ≤ 8388608 := by omega
      have z2 : ((Flow.runOf ks).size : Int) ≤ 8388608 := by omega
      have hsa := fun W : World => run_string_add (P := Tryz.prog) (w := W) (Flow.runOf [k]) (Flow.runOf ks) z1 z2
      clear hn e1 e2 d1 l1 HK r1 r2 z1 z2
      go_wp2_with (go_at_call 78; refine (signR_any k _ e3).mono ?_; rintro e w' ⟨rfl, hw⟩; obtain rfl := hw.symm)
      go_round
      case rel => exact ⟨q, k :: ks, by omega, rfl, by rw [← A1.out], K⟩
      case measure => simp [intOf]; omega

/-- no marking ahead of the i-th lets transition k fire -/
def Flow.NoBy (ts : List Flow.Tr) (l : List Flow.Node) (k i : Nat) : Prop := ∀ (p : Nat) (n : Flow.Node), p < i → l[p]? = some n → Flow.nextM ts n.mark k = none
/-- what 'by' answers -/
def Flow.ByIs (ts : List Flow.Tr) (l : List Flow.Node) (k : Nat) (s : ByteArray) (ok : Bool) : Prop :=
  (∃ (i : Nat) (n : Flow.Node) (m' : Nat), l[i]? = some n ∧ Flow.nextM ts n.mark k = some m' ∧ Flow.NoBy ts l k i ∧ s = Flow.runOf (Flow.key l i ++ [k]) ∧ ok = true) ∨
  (Flow.NoBy ts l k l.length ∧ s = ⟨#[]⟩ ∧ ok = false)

set_option maxHeartbeats 2000000 in
theorem byR_any (ts : List Flow.Tr) (x y : Int) (a : Option Addr) (cap m base0 : Nat) (l : List Flow.Node) (base B k P : Nat) (w : World) (hts : ∀ t ∈ ts, Flow.Small t) (hlen : ts.length ≤ 16) (hk : k < ts.length) (hu : Flow.Upto ts m l P) (h : WalkIn w base B l)
    (hown : w.ownsRow base0 108 3 (.slice a ts.length cap) ts.length (cellsR ts)) :
    Calls Tryz.prog 51 #[.pointer (some ⟨B, 0, none⟩), .agg (netC x y a ts.length cap), .int .i64 k] w fun e w' => ∃ s ok, e = .returned (.tuple #[.string s, .bool ok]) ∧ Flow.ByIs ts l k s ok ∧ Below w.heap.size w w' := by
  have h65 := hu.size
  have U : Hid (Flow.Upto ts m l P) := hu
  have IN : Hid (WalkIn w base B l) := h
  have OW : Hid (w.ownsRow base0 108 3 (.slice a ts.length cap) ts.length (cellsR ts)) := hown
  have HT : Hid (∀ t ∈ ts, Flow.Small t) := hts
  clear hu h hown hts
  go_enter Tryz.func51, Tryz.ntmps51
  go_wp2
  go_loopw [8] (fun i' wr => ∃ (i : Nat), i ≤ l.length ∧ i' = .int .i64 i ∧ Blk wr w.heap.size (netC x y a ts.length cap) 64 ∧ Below w.heap.size w wr ∧ Hid (Flow.NoBy ts l k i)) (fun i' _ => l.length - (intOf i').toNat)
  case atStart => exact ⟨0, by omega, rfl, Blk.new _ _ _, (Below.refl _ _).alloc (Nat.le_refl _) _, fun p n hp => by omega⟩
  case round =>
    obtain ⟨i, hi, rfl, hb0, hbw, HN⟩ := hrel
    have n0 : wr.cell? ⟨w.heap.size, 0, none⟩ = some (.int .i64 x) := hb0.cell 0
    have n1 : wr.cell? ⟨w.heap.size, 1, none⟩ = some (.int .i64 y) := hb0.cell 1
    have n2 : wr.cell? ⟨w.heap.size, 2, none⟩ = some (.slice a ts.length cap) := hb0.cell 2
    have z0 := hb0.lt
    have hwb := hbw.size
    have IN2 : Hid (WalkIn wr base B l) := IN.out.below hbw
    have OW2 : Hid (wr.ownsRow base0 108 3 (.slice a ts.length cap) ts.length (cellsR ts)) := owns_below OW.out hbw (Nat.le_refl _)
    have B0 : Hid (Blk wr w.heap.size (netC x y a ts.length cap) 64) := hb0
    have HW : Hid _ := hbw
    obtain ⟨aM, aF, aB, cM, cF, cB, A, x0, x1, x2, x3, zB, zA, _, hat, hno⟩ := IN2.out.look
    clear hb0 hbw x1 x2 x3 hat
    by_cases hlt : i < l.length
    · have hn := List.getElem?_eq_getElem hlt
      obtain ⟨gM, gF, gB, rfl, rfl, rfl, l1, l2, l3, d1, d2, d3⟩ := hno i _ hn
      obtain ⟨n, en⟩ : ∃ n, n = l[i] := ⟨_, rfl⟩
      rw [← en] at hn d1
      have N : Hid (l[i]? = some n) := hn
      have hnm := U.out.small i n hn
      have hI0 : (0 : Int) ≤ (i : Int) := by omega
      have hI1 : (i : Int) < (l.length : Int) := by omega
      have c2 : ∀ W, W.ownsRow base0 108 3 (.slice a ts.length cap) ts.length (cellsR ts) → Calls Tryz.prog 82 #[.agg (netC x y a ts.length cap), .int .i64 n.mark, .int .i64 k] W fun e w' => e = .returned (.int .i64 (Flow.nextI ts n.mark k)) ∧ Below W.heap.size W w' := fun W ho => nextR_any ts x y a cap n.mark k base0 W hnm HT.out hlen hk ho
      clear hn en d2 d3 l2 l3 hno
      cases hnx : Flow.nextM ts n.mark k with
      | none =>
        have e1 : Flow.nextI ts n.mark k = -1 := by unfold Flow.nextI; rw [hnx]
        rw [e1] at c2
        have HN' : Hid (Flow.NoBy ts l k (i + 1)) := by
          intro p n' hp hn'
          by_cases e : p = i
          · subst e; rw [N.out] at hn'; injection hn' with hn'; rw [← hn']; exact hnx
          · exact HN.out p n' (by omega) hn'
        clear e1 hnx
        go_wp2
        go_region_with (go_at_call 82; refine (c2 _ ((OW2.out).drew)).mono ?_; rintro e w2 ⟨rfl, hb2⟩; have HB2 : Hid _ := hb2; clear hb2)
        all_goals go_wp2
        all_goals go_roundw
        all_goals (first | (simp [intOf]; omega) | exact ⟨i + 1, by omega, by go_num, B0.out.drew.below HB2.out B0.out.lt, (HW.out.drew).trans (HB2.out.mono hwb), HN'⟩)
      | some m' =>
        have e1 : Flow.nextI ts n.mark k = (m' : Int) := by unfold Flow.nextI; rw [hnx]
        rw [e1] at c2
        have hJ0 : (0 : Int) ≤ (m' : Int) := by omega
        have X : Hid (Flow.nextM ts n.mark k = some m') := hnx
        have c3 : ∀ W, WalkIn W base B l → Calls Tryz.prog 45 #[.pointer (some ⟨B, 0, none⟩), .int .i64 i] W fun e w' => e = .returned (.string (Flow.runOf (Flow.key l i))) ∧ W = w' := fun W hW => (runR_any ts m l base B i P W U.out hlt hW).mono fun e w' h => ⟨h.1, h.2.symm⟩
        have hkl := Flow.key_len U.out i hlt
        have r1 := runOf_size (Flow.key l i)
        have r2 := runOf_size [k]
        simp at r2
        have A1 : Hid (Flow.runOf (Flow.key l i) ++ Flow.runOf [k] = Flow.runOf (Flow.key l i ++ [k])) := runOf_append _ _
        have hsa := fun W : World => run_string_add (P := Tryz.prog) (w := W) (Flow.runOf (Flow.key l i)) (Flow.runOf [k]) (by omega) (by omega)
        have hk16 : k < 16 := by omega
        clear e1 hnx r1 r2 hkl
        go_wp2
        go_region_with (go_at_call 82; refine (c2 _ ((OW2.out).drew)).mono ?_; rintro e w2 ⟨rfl, hb2⟩; have HB2 : Hid _ := hb2; clear hb2)
        all_goals go_wp2_with (first | (go_at_call 45; refine (c3 _ (IN2.out.drew.below HB2.out)).mono ?_; rintro e w3 ⟨rfl, rfl⟩) | (go_at_call 78; refine (signR_any k _ hk16).mono ?_; rintro e w' ⟨rfl, hw⟩; obtain rfl := hw.symm))
        all_goals go_ret2
        all_goals exact ⟨_, true, rfl, .inl ⟨i, n, m', N.out, X.out, HN.out, A1.out, rfl⟩, (HW.out.drew).trans (HB2.out.mono hwb)⟩
    · obtain rfl : i = l.length := by omega
      clear hno
      go_wp2
      go_ret2
      exact ⟨_, false, rfl, .inr ⟨HN.out, rfl, rfl⟩, HW.out⟩
end Go.Proofs.YtdlldljgogbiaabGreat
