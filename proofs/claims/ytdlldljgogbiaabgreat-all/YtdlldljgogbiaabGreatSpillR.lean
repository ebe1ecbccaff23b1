/-
  The reference's look for a step that spills.
-/
import Derived.Test.YtdlldljgogbiaabGreatRunR
import Derived.Deep.RegionHeld3
namespace Go.Proofs.YtdlldljgogbiaabGreat
open Go.RowKit
set_option linter.unusedVariables false
set_option maxRecDepth 40000

/-- transition k is enabled at m and spills there -/
def Flow.spillM (ts : List Flow.Tr) (m k : Nat) : Prop := ∃ t, ts[k]? = some t ∧ Flow.enabled t m = true ∧ Flow.spills t m = true
/-- no step ahead of transition k at the i-th marking spills -/
def Flow.NoSpill (ts : List Flow.Tr) (l : List Flow.Node) (i k : Nat) : Prop := ∀ (p j : Nat) (n : Flow.Node), l[p]? = some n → (p < i ∨ (p = i ∧ j < k)) → ¬ Flow.spillM ts n.mark j
def Flow.SpillIs (ts : List Flow.Tr) (l : List Flow.Node) (s : ByteArray) (bad : Bool) : Prop :=
  (∃ (i k : Nat) (n : Flow.Node), l[i]? = some n ∧ k < ts.length ∧ Flow.spillM ts n.mark k ∧ Flow.NoSpill ts l i k ∧ s = Flow.runOf (Flow.key l i ++ [k]) ∧ bad = true) ∨
  (Flow.NoSpill ts l l.length 0 ∧ s = ⟨#[]⟩ ∧ bad = false)

set_option maxRecDepth 400000 in
set_option maxHeartbeats 4000000 in
theorem spillR_any (ts : List Flow.Tr) (x y : Int) (a : Option Addr) (cap m base0 : Nat) (l : List Flow.Node) (base B P : Nat) (w : World) (hts : ∀ t ∈ ts, Flow.Small t) (hlen : ts.length ≤ 16) (hu : Flow.Upto ts m l P) (h : WalkIn w base B l)
    (hown : w.ownsRow base0 108 3 (.slice a ts.length cap) ts.length (cellsR ts)) :
    Calls Tryz.prog 76 #[.pointer (some ⟨B, 0, none⟩), .agg (netC x y a ts.length cap)] w fun e w' => ∃ s ok, e = .returned (.tuple #[.string s, .bool ok]) ∧ Flow.SpillIs ts l s ok ∧ Below w.heap.size w w' := by
  have h65 := hu.size
  have U : Hid (Flow.Upto ts m l P) := hu
  have IN : Hid (WalkIn w base B l) := h
  have OW : Hid (w.ownsRow base0 108 3 (.slice a ts.length cap) ts.length (cellsR ts)) := hown
  have HT : Hid (∀ t ∈ ts, Flow.Small t) := hts
  clear hu h hown hts
  go_enter Tryz.func76, Tryz.ntmps76
  go_wp2
  go_loopw [6] (fun i' wr => ∃ (i : Nat), i ≤ l.length ∧ i' = .int .i64 i ∧ Blk wr w.heap.size (netC x y a ts.length cap) 64 ∧ Below w.heap.size w wr ∧ Hid (Flow.NoSpill ts l i 0)) (fun i' _ => l.length - (intOf i').toNat)
  case atStart => exact ⟨0, by omega, rfl, Blk.new _ _ _, (Below.refl _ _).alloc (Nat.le_refl _) _, fun p j n _ hp => by omega⟩
  case round =>
    obtain ⟨i, hi, rfl, hb0, hbw, HN⟩ := hrel
    obtain ⟨aM, aF, aB, cM, cF, cB, A, x0, _, _, _, zB, _, _, _, _⟩ := (IN.out.below hbw).look
    by_cases hlt : i < l.length
    · have B0 : Hid (Blk wr w.heap.size (netC x y a ts.length cap) 64) := hb0
      have HW : Hid _ := hbw
      clear hb0 hbw
      go_wp2
      obtain ⟨wo, rfl⟩ : ∃ wo : World, wo = wr := ⟨_, rfl⟩
      go_loopw [7] (fun k' wr => ∃ (k : Nat), k ≤ ts.length ∧ k' = .int .i64 k ∧ Blk wr w.heap.size (netC x y a ts.length cap) 64 ∧ Below w.heap.size w wr ∧ Hid (Flow.NoSpill ts l i k)) (fun k' _ => ts.length - (intOf k').toNat)
      case atStart => exact ⟨0, by omega, rfl, B0.out, HW.out, HN⟩
      case round =>
        clear HN B0 HW x0 zB
        obtain ⟨k, hkl, rfl, hb0, hbw, HN⟩ := hrel
        have n0 : wr.cell? ⟨w.heap.size, 0, none⟩ = some (.int .i64 x) := hb0.cell 0
        have n1 : wr.cell? ⟨w.heap.size, 1, none⟩ = some (.int .i64 y) := hb0.cell 1
        have n2 : wr.cell? ⟨w.heap.size, 2, none⟩ = some (.slice a ts.length cap) := hb0.cell 2
        have z0 := hb0.lt
        have hwb := hbw.size
        have B0 : Hid (Blk wr w.heap.size (netC x y a ts.length cap) 64) := hb0
        have HW : Hid _ := hbw
        by_cases hk : k < ts.length
        · have IN2 : Hid (WalkIn wr base B l) := IN.out.below hbw
          have ow2 := owns_below OW.out hbw (Nat.le_refl _)
          obtain ⟨aM, aF, aB, cM, cF, cB, A, x0, x1, x2, x3, zB, zA, _, hat, hno⟩ := IN2.out.look
          have hn := List.getElem?_eq_getElem hlt
          obtain ⟨gM, gF, gB, rfl, rfl, rfl, l1, l2, l3, d1, d2, d3⟩ := hno i _ hn
          obtain ⟨n, en⟩ : ∃ n, n = l[i] := ⟨_, rfl⟩
          rw [← en] at hn d1
          have N : Hid (l[i]? = some n) := hn
          have hnm := U.out.small i n hn
          obtain ⟨t, ht⟩ : ∃ t, ts[k]? = some t := ⟨_, List.getElem?_eq_getElem hk⟩
          obtain ⟨s1, s2, s3⟩ := HT.out t (List.mem_of_getElem? ht)
          obtain ⟨g, cap', hv, _, hg2⟩ := ow2.form (by omega)
          injection hv with hv1 _ hv3
          subst hv1 hv3
          have t0 := ow2.cellAt (k * 3) (by omega)
          have t1 := ow2.cellAt (k * 3 + 1) (by omega)
          have t2 := ow2.cellAt (k * 3 + 1 + 1) (by omega)
          obtain ⟨f0, f1, f2⟩ := cellsR_get ht
          rw [f0] at t0
          rw [f1] at t1
          rw [show k * 3 + 1 + 1 = k * 3 + 2 from rfl, f2] at t2
          have OW2 : Hid (wr.ownsRow base0 108 3 (.slice (some ⟨g, 0, none⟩) ts.length cap) ts.length (cellsR ts)) := ow2
          have T : Hid (ts[k]? = some t) := ht
          have hI0 : (0 : Int) ≤ (i : Int) := by omega
          have hI1 : (i : Int) < (l.length : Int) := by omega
          have hJ0 : (0 : Int) ≤ (k : Int) := by omega
          have hJ1 : (k : Int) < (ts.length : Int) := by omega
          have c1 : ∀ W, Calls Tryz.prog 68 #[.agg (trR t), .int .i64 n.mark] W fun e w' => e = .returned (.bool (Flow.enabled t n.mark)) ∧ w' = W.alloc (.cells (trR t) 108) := fun W => enabled_any t n.mark W hnm s2
          have c2 : ∀ W, W.ownsRow base0 108 3 (.slice (some ⟨g, 0, none⟩) ts.length cap) ts.length (cellsR ts) → Calls Tryz.prog 82 #[.agg (netC x y (some ⟨g, 0, none⟩) ts.length cap), .int .i64 n.mark, .int .i64 k] W fun e w' => e = .returned (.int .i64 (Flow.nextI ts n.mark k)) ∧ Below W.heap.size W w' := fun W ho => nextR_any ts x y _ cap n.mark k base0 W hnm HT.out hlen hk ho
          clear hn en d2 d3 l2 l3 hno x1 x2 x3 zA hat hb0 hbw ow2 ht f0 f1 f2 s2 s3 s1
          have hmk : w.heap.size < wr.heap.size + 1 := by omega
          have hmB : B < wr.heap.size + 1 := by omega
          have hmM : gM < wr.heap.size + 1 := by omega
          go_wp2
          go_region_held3 (fun w' => w'.cell? ⟨w.heap.size, 2, none⟩ = some (.slice (some ⟨g, 0, none⟩) ts.length cap) ∧ w'.cell? ⟨g, k * 3, none⟩ = some (.int .u8 t.label) ∧ w'.cell? ⟨g, k * 3 + 1, none⟩ = some (.int .i64 t.inn) ∧ w'.cell? ⟨g, k * 3 + 2, none⟩ = some (.int .i64 t.out) ∧ w'.cell? ⟨B, 0, none⟩ = some (.slice (some ⟨gM, 0, none⟩) l.length cM) ∧ w'.cell? ⟨gM, i, none⟩ = some (.int .i64 n.mark)) (go_keep) (first | (go_at_call 68; refine (c1 _).mono ?_; rintro e w2 ⟨rfl, rfl⟩))
          have BW : Hid (Below wr.heap.size wr (wr.alloc (Obj.cells (trR t) 108)).drew) := ((Below.refl _ _).alloc (Nat.le_refl _) _).drew
          have sz : (wr.alloc (Obj.cells (trR t) 108)).drew.heap.size = wr.heap.size + 1 := by simp
          generalize (wr.alloc (Obj.cells (trR t) 108)).drew = W at BW sz ⊢
          have m0 : W.cell? ⟨w.heap.size, 0, none⟩ = some (.int .i64 x) := (BW.out.cell (p := ⟨w.heap.size, 0, none⟩) z0).trans n0
          have m1 : W.cell? ⟨w.heap.size, 1, none⟩ = some (.int .i64 y) := (BW.out.cell (p := ⟨w.heap.size, 1, none⟩) z0).trans n1
          have m2 : W.cell? ⟨w.heap.size, 2, none⟩ = some (.slice (some ⟨g, 0, none⟩) ts.length cap) := (BW.out.cell (p := ⟨w.heap.size, 2, none⟩) z0).trans n2
          have m3 : W.cell? ⟨B, 0, none⟩ = some (.slice (some ⟨gM, 0, none⟩) l.length cM) := (BW.out.cell (p := ⟨B, 0, none⟩) zB).trans x0
          have m4 : W.cell? ⟨gM, i, none⟩ = some (.int .i64 n.mark) := (BW.out.cell (p := ⟨gM, i, none⟩) l1).trans d1
          have OW3 : Hid (W.ownsRow base0 108 3 (.slice (some ⟨g, 0, none⟩) ts.length cap) ts.length (cellsR ts)) := owns_below OW2.out BW.out (Nat.le_refl _)
          have IN3 : Hid (WalkIn W base B l) := IN2.out.below BW.out
          have HW3 : Hid (Below w.heap.size w W) := HW.out.trans (BW.out.mono hwb)
          have B3 : Hid (Blk W w.heap.size (netC x y (some ⟨g, 0, none⟩) ts.length cap) 64) := B0.out.below BW.out z0
          have z0 : w.heap.size < W.heap.size := by omega
          have zB : B < W.heap.size := by omega
          have l1 : gM < W.heap.size := by omega
          have hwb : w.heap.size ≤ W.heap.size := by omega
          clear n0 n1 n2 x0 d1 t0 t1 t2 hmk hmB hmM sz c1
          go_wp2
          go_region_held3 (fun w' => w'.cell? ⟨w.heap.size, 0, none⟩ = some (.int .i64 x) ∧ w'.cell? ⟨w.heap.size, 1, none⟩ = some (.int .i64 y) ∧ w'.cell? ⟨w.heap.size, 2, none⟩ = some (.slice (some ⟨g, 0, none⟩) ts.length cap) ∧ w'.cell? ⟨B, 0, none⟩ = some (.slice (some ⟨gM, 0, none⟩) l.length cM) ∧ w'.cell? ⟨gM, i, none⟩ = some (.int .i64 n.mark)) (go_keep) (first | (go_at_call 82; refine (c2 _ (OW3.out.drew)).mono ?_; rintro e w3 ⟨rfl, hb3⟩; have HB3 : Hid _ := hb3; have v0 : w3.cell? ⟨w.heap.size, 0, none⟩ = some (.int .i64 x) := (hb3.cell (p := ⟨w.heap.size, 0, none⟩) z0).trans m0; have v1 : w3.cell? ⟨w.heap.size, 1, none⟩ = some (.int .i64 y) := (hb3.cell (p := ⟨w.heap.size, 1, none⟩) z0).trans m1; have v2 : w3.cell? ⟨w.heap.size, 2, none⟩ = some (.slice (some ⟨g, 0, none⟩) ts.length cap) := (hb3.cell (p := ⟨w.heap.size, 2, none⟩) z0).trans m2; have v3 : w3.cell? ⟨B, 0, none⟩ = some (.slice (some ⟨gM, 0, none⟩) l.length cM) := (hb3.cell (p := ⟨B, 0, none⟩) zB).trans m3; have v4 : w3.cell? ⟨gM, i, none⟩ = some (.int .i64 n.mark) := (hb3.cell (p := ⟨gM, i, none⟩) l1).trans m4; clear hb3))
          have IN4 : Hid (WalkIn w3 base B l) := IN3.out.drew.below HB3.out
          have HW4 : Hid (Below w.heap.size w w3) := (HW3.out.drew).trans (HB3.out.mono hwb)
          have B4 : Hid (Blk w3 w.heap.size (netC x y (some ⟨g, 0, none⟩) ts.length cap) 64) := B3.out.drew.below HB3.out z0
          clear m0 m1 m2 m3 m4 v0 v1 v2 v3 v4 c2
          by_cases hen : Flow.enabled t n.mark = true
          · by_cases hsp : Flow.spills t n.mark = true
            · have e1 := nextI_no (ts := ts) (m := n.mark) T.out (by unfold Flow.fireErr; rw [if_neg (by rw [hen]; simp), if_pos hsp]; omega)
              have S : Hid (Flow.spillM ts n.mark k) := ⟨t, T.out, hen, hsp⟩
              have c3 : ∀ W, WalkIn W base B l → Calls Tryz.prog 45 #[.pointer (some ⟨B, 0, none⟩), .int .i64 i] W fun e w' => e = .returned (.string (Flow.runOf (Flow.key l i))) ∧ W = w' := fun W hW => (runR_any ts m l base B i P W U.out hlt hW).mono fun e w' h => ⟨h.1, h.2.symm⟩
              have hkl := Flow.key_len U.out i hlt
              have r1 := runOf_size (Flow.key l i)
              have r2 := runOf_size [k]
              simp at r2
              have A1 : Hid (Flow.runOf (Flow.key l i) ++ Flow.runOf [k] = Flow.runOf (Flow.key l i ++ [k])) := runOf_append _ _
              have hsa := fun W : World => run_string_add (P := Tryz.prog) (w := W) (Flow.runOf (Flow.key l i)) (Flow.runOf [k]) (by omega) (by omega)
              have hk16 : k < 16 := by omega
              clear r1 r2 hkl hsp
              go_wp2_with (first | (go_at_call 45; refine (c3 _ IN4.out).mono ?_; rintro e w4 ⟨rfl, rfl⟩) | (go_at_call 78; refine (signR_any k _ hk16).mono ?_; rintro e w' ⟨rfl, hw⟩; obtain rfl := hw.symm))
              go_ret2
              exact ⟨_, true, rfl, .inl ⟨i, k, n, N.out, hk, S.out, HN.out, A1.out, rfl⟩, HW4.out⟩
            · have hsp' : Flow.spills t n.mark = false := by simpa using hsp
              have e1 := nextI_go (ts := ts) (m := n.mark) T.out (by unfold Flow.fireErr; rw [if_neg (by rw [hen]; simp), if_neg (by rw [hsp']; simp)])
              have HN' : Hid (Flow.NoSpill ts l i (k + 1)) := by
                intro p j n' hp hc hs
                by_cases e : p = i ∧ j = k
                · obtain ⟨rfl, rfl⟩ := e
                  rw [N.out] at hp
                  injection hp with hp
                  subst hp
                  obtain ⟨t', ht', _, hs'⟩ := hs
                  rw [T.out] at ht'
                  injection ht' with ht'
                  subst ht'
                  exact hsp hs'
                · exact HN.out p j n' hp (by omega) hs
              have hge : (0 : Int) ≤ (Flow.after t n.mark : Int) := by omega
              clear hsp hsp'
              go_wp2
              go_roundw
              case rel => exact ⟨k + 1, by omega, by go_num, B4.out, HW4.out, HN'⟩
              case measure => simp [intOf]; omega
          · have hen' : Flow.enabled t n.mark = false := by simpa using hen
            have HN' : Hid (Flow.NoSpill ts l i (k + 1)) := by
              intro p j n' hp hc hs
              by_cases e : p = i ∧ j = k
              · obtain ⟨rfl, rfl⟩ := e
                rw [N.out] at hp
                injection hp with hp
                subst hp
                obtain ⟨t', ht', hs', _⟩ := hs
                rw [T.out] at ht'
                injection ht' with ht'
                subst ht'
                exact hen hs'
              · exact HN.out p j n' hp (by omega) hs
            clear hen
            go_wp2
            go_roundw
            case rel => exact ⟨k + 1, by omega, by go_num, B4.out, HW4.out, HN'⟩
            case measure => simp [intOf]; omega
        · clear hb0 hbw
          obtain rfl : k = ts.length := by omega
          have HN' : Hid (Flow.NoSpill ts l (i + 1) 0) := by
            intro p j n hp hc hs
            by_cases e : p = i ∧ ts.length ≤ j
            · obtain ⟨t, ht, _⟩ := hs
              rw [List.getElem?_eq_none e.2] at ht; cases ht
            · exact HN.out p j n hp (by omega) hs
          go_wp2
          go_roundw
          case rel => exact ⟨i + 1, by omega, by go_num, B0.out, HW.out, HN'⟩
          case measure => simp [intOf]; omega
    · obtain rfl : i = l.length := by omega
      go_wp2
      go_ret2
      exact ⟨_, false, rfl, .inr ⟨HN.out, rfl, rfl⟩, hbw⟩
end Go.Proofs.YtdlldljgogbiaabGreat
