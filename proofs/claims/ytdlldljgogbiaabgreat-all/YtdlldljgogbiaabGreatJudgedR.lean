/-
  The reference's judge of a net that was read.
-/
import Derived.Test.YtdlldljgogbiaabGreatEndsR
import Derived.Test.YtdlldljgogbiaabGreatSpillR
namespace Go.Proofs.YtdlldljgogbiaabGreat
open Go.RowKit
set_option linter.unusedVariables false
set_option maxRecDepth 40000

/-- the marking has the end and another place -/
def Flow.Improper (e m : Nat) : Prop := m &&& e ≠ 0 ∧ m ≠ e
def Flow.NoImp (e : Nat) (l : List Flow.Node) (i : Nat) : Prop := ∀ (p : Nat) (n : Flow.Node), p < i → l[p]? = some n → ¬ Flow.Improper e n.mark
def Flow.NoStuck (ts : List Flow.Tr) (e : Nat) (l : List Flow.Node) (i : Nat) : Prop := ∀ (p : Nat) (n : Flow.Node), p < i → l[p]? = some n → Flow.CanEnd ts e n.mark
def Flow.NoDead (ts : List Flow.Tr) (l : List Flow.Node) (k : Nat) : Prop := ∀ j, j < k → ¬ Flow.NoBy ts l j l.length
/-- the verdict and the text, of the markings in the order of their first runs -/
def Flow.JudgeIs (ts : List Flow.Tr) (e : Nat) (l : List Flow.Node) (v : Nat) (s : ByteArray) : Prop :=
  (Flow.SpillIs ts l s true ∧ v = 2) ∨
  (Flow.NoSpill ts l l.length 0 ∧
    ((∃ (i : Nat) (n : Flow.Node), l[i]? = some n ∧ Flow.Improper e n.mark ∧ Flow.NoImp e l i ∧ v = 3 ∧ s = Flow.runOf (Flow.key l i)) ∨
     (Flow.NoImp e l l.length ∧
       ((∃ (i : Nat) (n : Flow.Node), l[i]? = some n ∧ ¬ Flow.CanEnd ts e n.mark ∧ Flow.NoStuck ts e l i ∧ v = 4 ∧ s = Flow.runOf (Flow.key l i)) ∨
        (Flow.NoStuck ts e l l.length ∧
          ((∃ k, k < ts.length ∧ Flow.NoBy ts l k l.length ∧ Flow.NoDead ts l k ∧ v = 5 ∧ s = Flow.runOf [k]) ∨
           (Flow.NoDead ts l ts.length ∧ v = 1 ∧ s = ⟨#[]⟩)))))))
def JudgedPost (ts : List Flow.Tr) (m0 e : Nat) (w : World) (en : Ending) (w' : World) : Prop :=
  ∃ v s l, en = .returned (.tuple #[.int .i64 (v : Nat), .string s]) ∧ Flow.Bfs ts m0 l ∧ Flow.JudgeIs ts e l v s ∧ Below w.heap.size w w'

theorem and_pow {m b : Nat} (hm : m < 65536) (hb : b ≤ 15) : bits .and .i64 (m : Int) (wrap64 (2 ^ b)) = ((m &&& 2 ^ b : Nat) : Int) := by
  have h1 : (2 : Nat) ^ b ≤ 2 ^ 15 := Nat.pow_le_pow_right (by omega) hb
  have h2 : (2 : Nat) ^ 15 = 32768 := by decide
  rw [pow_small' b hb, Flow.and_nat _ _ hm (by omega)]
theorem wrap_is (z : Int) : IntKind.i64.wrap z = wrap64 z := IntWalk.i64_left _

/-- what stands all through judged -/
structure Stands (w : World) (base0 base B : Nat) (x y : Int) (a : Option Addr) (cap : Nat) (ts : List Flow.Tr) (l : List Flow.Node) (wr : World) : Prop where
  net : Blk wr w.heap.size (netC x y a ts.length cap) 64
  own : wr.ownsRow base0 108 3 (.slice a ts.length cap) ts.length (cellsR ts)
  walk : WalkIn wr base B l
  bel : Below w.heap.size w wr
theorem WalkIn.drewN {w : World} {base B : Nat} {l : List Flow.Node} (h : WalkIn w base B l) (n : Nat) : WalkIn (w.drewN n) base B l := h.below ⟨rfl, rfl, rfl, Nat.le_refl _, fun _ _ => rfl⟩
theorem Stands.below {w : World} {base0 base B : Nat} {x y : Int} {a : Option Addr} {cap : Nat} {ts : List Flow.Tr} {l : List Flow.Node} {wr w2 : World} (h : Stands w base0 base B x y a cap ts l wr) (hb : Below wr.heap.size wr w2) : Stands w base0 base B x y a cap ts l w2 :=
  ⟨h.net.below hb h.net.lt, owns_below h.own hb (Nat.le_refl _), h.walk.below hb, h.bel.trans (hb.mono h.bel.size)⟩
theorem Stands.drewN {w : World} {base0 base B : Nat} {x y : Int} {a : Option Addr} {cap : Nat} {ts : List Flow.Tr} {l : List Flow.Node} {wr : World} (h : Stands w base0 base B x y a cap ts l wr) (n : Nat) : Stands w base0 base B x y a cap ts l (wr.drewN n) := h.below ⟨rfl, rfl, rfl, Nat.le_refl _, fun _ _ => rfl⟩

set_option maxRecDepth 400000 in
set_option maxHeartbeats 8000000 in
theorem judgedR_any (ts : List Flow.Tr) (st b : Nat) (a : Option Addr) (cap base0 : Nat) (w : World) (hst : st ≤ 15) (hb15 : b ≤ 15) (hts : ∀ t ∈ ts, Flow.Small t) (hlen : ts.length ≤ 16)
    (hown : w.ownsRow base0 108 3 (.slice a ts.length cap) ts.length (cellsR ts)) :
    Calls Tryz.prog 40 #[.agg (netC (st : Int) (b : Int) a ts.length cap)] w (JudgedPost ts (2 ^ st) (2 ^ b) w) := by
  have OW : Hid (w.ownsRow base0 108 3 (.slice a ts.length cap) ts.length (cellsR ts)) := hown
  have HT : Hid (∀ t ∈ ts, Flow.Small t) := hts
  have hpow := pow_small' st hst
  have h1 : (2 : Nat) ^ st ≤ 2 ^ 15 := Nat.pow_le_pow_right (by omega) hst
  have h2 : (2 : Nat) ^ 15 = 32768 := by decide
  have hm0 : 2 ^ st < 65536 := by omega
  have c1 : ∀ W, W.ownsRow base0 108 3 (.slice a ts.length cap) ts.length (cellsR ts) → Calls Tryz.prog 44 #[.agg (netC (st : Int) (b : Int) a ts.length cap), .int .i64 (IntKind.i64.wrap (2 ^ st))] W fun e w' => ∃ B l, e = .returned (.pointer (some ⟨B, 0, none⟩)) ∧ Flow.Bfs ts (2 ^ st) l ∧ WalkIn w' W.heap.size B l ∧ Below W.heap.size W w' := fun W ho => by
    rw [wrap_is, hpow]
    exact walkR_any ts st b a cap (2 ^ st) base0 W hm0 hts hlen ho
  clear hown hts hpow h1 h2 hm0
  go_enter Tryz.func40, Tryz.ntmps40
  go_wp2
  have n0 : (w.alloc (.cells (netC (st : Int) (b : Int) a ts.length cap) 64)).cell? ⟨w.heap.size, 0, none⟩ = some (.int .i64 st) := (Blk.new w _ _).cell 0
  have n1 : (w.alloc (.cells (netC (st : Int) (b : Int) a ts.length cap) 64)).cell? ⟨w.heap.size, 1, none⟩ = some (.int .i64 b) := (Blk.new w _ _).cell 1
  have n2 : (w.alloc (.cells (netC (st : Int) (b : Int) a ts.length cap) 64)).cell? ⟨w.heap.size, 2, none⟩ = some (.slice a ts.length cap) := (Blk.new w _ _).cell 2
  have B0 : Hid (Blk (w.alloc (.cells (netC (st : Int) (b : Int) a ts.length cap) 64)) w.heap.size (netC (st : Int) (b : Int) a ts.length cap) 64) := Blk.new w _ _
  have OW1 : Hid ((w.alloc (.cells (netC (st : Int) (b : Int) a ts.length cap) 64)).ownsRow base0 108 3 (.slice a ts.length cap) ts.length (cellsR ts)) := OW.out.alloc _
  have HW : Hid (Below w.heap.size w (w.alloc (.cells (netC (st : Int) (b : Int) a ts.length cap) 64))) := (Below.refl _ _).alloc (Nat.le_refl _) _
  generalize w.alloc (.cells (netC (st : Int) (b : Int) a ts.length cap) 64) = W at n0 n1 n2 B0 OW1 HW ⊢
  have z0 := B0.out.lt
  go_region_held3 (fun w' => w'.cell? ⟨w.heap.size, 0, none⟩ = some (.int .i64 st) ∧ w'.cell? ⟨w.heap.size, 1, none⟩ = some (.int .i64 b) ∧ w'.cell? ⟨w.heap.size, 2, none⟩ = some (.slice a ts.length cap)) (go_keep) (first | (go_at_call 44; refine (c1 _ (OW1.out.drew)).mono ?_; rintro e w1 ⟨B, l, rfl, hbfs, hin, hb1⟩; have U : Hid _ := hbfs; have IN1 : Hid (WalkIn w1 _ B l) := hin; have HB1 : Hid _ := hb1; have v0 : w1.cell? ⟨w.heap.size, 0, none⟩ = some (.int .i64 st) := (hb1.cell (p := ⟨w.heap.size, 0, none⟩) z0).trans n0; have v1 : w1.cell? ⟨w.heap.size, 1, none⟩ = some (.int .i64 b) := (hb1.cell (p := ⟨w.heap.size, 1, none⟩) z0).trans n1; have v2 : w1.cell? ⟨w.heap.size, 2, none⟩ = some (.slice a ts.length cap) := (hb1.cell (p := ⟨w.heap.size, 2, none⟩) z0).trans n2; clear hb1 hbfs hin))
  have ST1 : Hid (Stands w base0 W.heap.size B (st : Int) (b : Int) a cap ts l w1) := ⟨B0.out.drew.below HB1.out z0, owns_below OW1.out.drew HB1.out (Nat.le_refl _), IN1.out, (HW.out.drew).trans (HB1.out.mono HW.out.size)⟩
  have U : Hid (Flow.Bfs ts (2 ^ st) l) := U.out
  clear n0 n1 n2 B0 OW1 HW IN1 HB1 v0 v1 v2 c1 OW
  have n0 : w1.cell? ⟨w.heap.size, 0, none⟩ = some (.int .i64 st) := ST1.out.net.cell 0
  have n1 : w1.cell? ⟨w.heap.size, 1, none⟩ = some (.int .i64 b) := ST1.out.net.cell 1
  have n2 : w1.cell? ⟨w.heap.size, 2, none⟩ = some (.slice a ts.length cap) := ST1.out.net.cell 2
  have c2 := spillR_any ts st b a cap (2 ^ st) base0 l W.heap.size B (l.length * 16) w1 HT.out hlen U.out ST1.out.walk ST1.out.own
  have h65 := U.out.size
  go_wp2_with (go_at_call 76; refine c2.mono ?_; rintro e w2 ⟨s, ok, rfl, hsp, hb2⟩; have SP : Hid (Flow.SpillIs ts l s ok) := hsp; have ST2 : Hid (Stands w base0 W.heap.size B (st : Int) (b : Int) a cap ts l w2) := ST1.out.below hb2; clear hsp hb2)
  · have hok : ok = true := by assumption
    go_ret2
    refine ⟨2, s, l, rfl, U.out, .inl ⟨?_, rfl⟩, ST2.out.bel⟩
    have := SP.out
    rw [hok] at this
    exact this
  · have hok : ok = false := by assumption
    have NS : Hid (Flow.NoSpill ts l l.length 0) := by
      rcases SP.out with ⟨_, _, _, _, _, _, _, _, h⟩ | ⟨h, _⟩
      · rw [hok] at h; cases h
      · exact h
    clear n0 n1 n2 c2 ST1 SP
    subst hok
    go_loopg [7] (l.length + 1) (fun gi i' wr => ∃ (i : Nat), l.length + 1 - i ≤ gi ∧ i ≤ l.length ∧ i' = .int .i64 i ∧ Hid (Stands w base0 W.heap.size B (st : Int) (b : Int) a cap ts l wr) ∧ Hid (Flow.NoImp (2 ^ b) l i))
    case atStart => exact ⟨0, by omega, by omega, rfl, ST2, fun p n hp => by omega⟩
    case round =>
      obtain ⟨i, hgi, hil, rfl, ST, NI⟩ := hrel
      clear ST2
      obtain ⟨aM, aF, aB, cM, cF, cB, A, x0, x1, x2, x3, zB, zA, _, hat, hno⟩ := ST.out.walk.look
      have n1 : wr.cell? ⟨w.heap.size, 1, none⟩ = some (.int .i64 b) := ST.out.net.cell 1
      by_cases hlt : i < l.length
      · have hn := List.getElem?_eq_getElem hlt
        obtain ⟨gM, gF, gB, rfl, rfl, rfl, l1, l2, l3, d1, d2, d3⟩ := hno i _ hn
        obtain ⟨n, en⟩ : ∃ n, n = l[i] := ⟨_, rfl⟩
        rw [← en] at hn d1
        have N : Hid (l[i]? = some n) := hn
        have hnm := U.out.small i n hn
        have hI0 : (0 : Int) ≤ (i : Int) := by omega
        have hI1 : (i : Int) < (l.length : Int) := by omega
        have ea := and_pow hnm hb15
        have ew := wrap_is (2 ^ b)
        clear hno hn en x1 x2 x3 hat d2 d3
        by_cases hA : n.mark &&& 2 ^ b = 0
        · have t2 : (bits .and .i64 (n.mark : Int) (wrap64 (2 ^ b)) != 0) = false := by rw [ea, hA]; rfl
          have t1 : (bits .and .i64 (n.mark : Int) (IntKind.i64.wrap (2 ^ b)) != 0) = false := by rw [ew]; exact t2
          have NI' : Hid (Flow.NoImp (2 ^ b) l (i + 1)) := by
            intro p n' hp hn'
            by_cases e : p = i
            · subst e; rw [N.out] at hn'; injection hn' with hn'; rw [← hn']; exact fun h => h.1 hA
            · exact NI.out p n' (by omega) hn'
          clear ea ew hA
          go_wp2
          go_quiet (fail)
          go_wp2
          go_roundg (gk - 1)
          case measure => omega
          case rel => exact ⟨i + 1, by omega, by omega, by go_num, ST.out.drewN _, NI'⟩
        · have t2 : (bits .and .i64 (n.mark : Int) (wrap64 (2 ^ b)) != 0) = true := by rw [ea]; simp; omega
          have t1 : (bits .and .i64 (n.mark : Int) (IntKind.i64.wrap (2 ^ b)) != 0) = true := by rw [ew]; exact t2
          by_cases hE : n.mark = 2 ^ b
          · have q2 : ((n.mark : Int) != wrap64 (2 ^ b)) = false := by rw [pow_small' b hb15, hE]; simp
            have q1 : ((n.mark : Int) != IntKind.i64.wrap (2 ^ b)) = false := by rw [ew]; exact q2
            have NI' : Hid (Flow.NoImp (2 ^ b) l (i + 1)) := by
              intro p n' hp hn'
              by_cases e : p = i
              · subst e; rw [N.out] at hn'; injection hn' with hn'; rw [← hn']; exact fun h => h.2 hE
              · exact NI.out p n' (by omega) hn'
            clear ea ew hA hE
            go_wp2
            go_quiet (fail)
            go_wp2
            go_roundg (gk - 1)
            case measure => omega
            case rel => exact ⟨i + 1, by omega, by omega, by go_num, ST.out.drewN _, NI'⟩
          · have q2 : ((n.mark : Int) != wrap64 (2 ^ b)) = true := by
              have := mark_ne hb15 hE
              rw [bne, this]; rfl
            have q1 : ((n.mark : Int) != IntKind.i64.wrap (2 ^ b)) = true := by rw [ew]; exact q2
            have IM : Hid (Flow.Improper (2 ^ b) n.mark) := ⟨hA, hE⟩
            have c3 : ∀ W', WalkIn W' W.heap.size B l → Calls Tryz.prog 45 #[.pointer (some ⟨B, 0, none⟩), .int .i64 i] W' fun e w' => e = .returned (.string (Flow.runOf (Flow.key l i))) ∧ W' = w' := fun W' hW => (runR_any ts (2 ^ st) l W.heap.size B i (l.length * 16) W' U.out hlt hW).mono fun e w' h => ⟨h.1, h.2.symm⟩
            clear ea ew hA hE
            go_wp2
            go_quiet (fail)
            go_wp2_with (go_at_call 45; refine (c3 _ (ST.out.walk.drewN _)).mono ?_; rintro e w4 ⟨rfl, rfl⟩)
            go_ret2
            exact ⟨3, _, l, rfl, U.out, .inr ⟨NS.out, .inl ⟨i, n, N.out, IM.out, NI.out, rfl, rfl⟩⟩, (ST.out.drewN _).bel⟩
      · obtain rfl : i = l.length := by omega
        have n0 : wr.cell? ⟨w.heap.size, 0, none⟩ = some (.int .i64 st) := ST.out.net.cell 0
        have n2 : wr.cell? ⟨w.heap.size, 2, none⟩ = some (.slice a ts.length cap) := ST.out.net.cell 2
        have c3 := endsR_any ts st b a cap (2 ^ st) base0 l W.heap.size B wr hb15 HT.out hlen U.out ST.out.walk ST.out.own
        have z0' := ST.out.net.lt
        clear hno hat
        go_wp2_with (go_at_call 77; refine c3.mono ?_; rintro e w5 ⟨C, cs, rfl, hbC, hcs, hiff, hb5⟩; have BC : Hid (Blk w5 C (cellsT cs) 4) := hbC; have IFF : Hid (∀ (j : Nat) (n : Flow.Node), l[j]? = some n → (cs[j]? = some true ↔ Flow.CanEnd ts (2 ^ b) n.mark)) := hiff; have ST5 : Hid (Stands w base0 W.heap.size B (st : Int) (b : Int) a cap ts l w5) := ST.out.below hb5; clear hbC hiff hb5)
        clear n0 n1 n2 x0 x1 x2 x3 zB zA c3 ST z0' hgi hil hlt
        obtain ⟨wo, hwo⟩ : ∃ wo : World, wo = w5 := ⟨_, rfl⟩
        clear hwo
        go_loopg [10] (l.length + 1) (fun gi i' wr => ∃ (i : Nat), l.length + 1 - i ≤ gi ∧ i ≤ l.length ∧ i' = .int .i64 i ∧ Hid (wr = w5) ∧ Hid (Flow.NoStuck ts (2 ^ b) l i))
        case atStart => exact ⟨0, by omega, by omega, rfl, rfl, fun p n hp => by omega⟩
        case round =>
          obtain ⟨i, hgi, hil, rfl, EW, NK⟩ := hrel
          have e5 := EW.out
          subst e5
          clear EW
          obtain ⟨aM, aF, aB, cM, cF, cB, A, x0, _, _, _, zB, _, _, _, _⟩ := ST5.out.walk.look
          by_cases hlt : i < l.length
          · have hn := List.getElem?_eq_getElem hlt
            have N : Hid (l[i]? = some l[i]) := hn
            have hI0 : (0 : Int) ≤ (i : Int) := by omega
            have hI1 : (i : Int) < (l.length : Int) := by omega
            obtain ⟨cb, hcb⟩ : ∃ cb, cs[i]? = some cb := ⟨_, List.getElem?_eq_getElem (by omega)⟩
            have m7 : wr.cell? ⟨C, i, none⟩ = some (.bool cb) := by rw [BC.out.cell]; exact cellsT_get hcb
            clear hn
            cases cb with
            | true =>
              have NK' : Hid (Flow.NoStuck ts (2 ^ b) l (i + 1)) := by
                intro p n' hp hn'
                by_cases e : p = i
                · subst e; exact (IFF.out p n' hn').1 hcb
                · exact NK.out p n' (by omega) hn'
              clear hcb
              go_wp2
              go_roundg (gk - 1)
              case measure => omega
              case rel => exact ⟨i + 1, by omega, by omega, by go_num, rfl, NK'⟩
            | false =>
              have SK : Hid (¬ Flow.CanEnd ts (2 ^ b) l[i].mark) := fun h => by
                have := (IFF.out i _ N.out).2 h
                rw [hcb] at this; cases this
              have c3 : ∀ W', WalkIn W' W.heap.size B l → Calls Tryz.prog 45 #[.pointer (some ⟨B, 0, none⟩), .int .i64 i] W' fun e w' => e = .returned (.string (Flow.runOf (Flow.key l i))) ∧ W' = w' := fun W' hW => (runR_any ts (2 ^ st) l W.heap.size B i (l.length * 16) W' U.out hlt hW).mono fun e w' h => ⟨h.1, h.2.symm⟩
              clear hcb
              go_wp2_with (go_at_call 45; refine (c3 _ ST5.out.walk).mono ?_; rintro e w6 ⟨rfl, rfl⟩)
              go_ret2
              exact ⟨4, _, l, rfl, U.out, .inr ⟨NS.out, .inr ⟨NI.out, .inl ⟨i, _, N.out, SK.out, NK.out, rfl, rfl⟩⟩⟩, ST5.out.bel⟩
          · obtain rfl : i = l.length := by omega
            clear BC IFF hgi hil hlt
            go_wp2
            clear x0 zB
            go_loopg [12] (ts.length + 1) (fun gi k' wr => ∃ (k : Nat), ts.length + 1 - k ≤ gi ∧ k ≤ ts.length ∧ k' = .int .i64 k ∧ Hid (Stands w base0 W.heap.size B (st : Int) (b : Int) a cap ts l wr) ∧ Hid (Flow.NoDead ts l k))
            case atStart => exact ⟨0, by omega, by omega, rfl, ST5, fun j hj => by omega⟩
            case round =>
              obtain ⟨k, hgi, hkl, rfl, ST, ND⟩ := hrel
              have n0 : wr.cell? ⟨w.heap.size, 0, none⟩ = some (.int .i64 st) := ST.out.net.cell 0
              have n1 : wr.cell? ⟨w.heap.size, 1, none⟩ = some (.int .i64 b) := ST.out.net.cell 1
              have n2 : wr.cell? ⟨w.heap.size, 2, none⟩ = some (.slice a ts.length cap) := ST.out.net.cell 2
              by_cases hk : k < ts.length
              · have c4 := byR_any ts st b a cap (2 ^ st) base0 l W.heap.size B k (l.length * 16) wr HT.out hlen hk U.out ST.out.walk ST.out.own
                have hk16 : k < 16 := by omega
                clear ST5
                go_wp2_with (first | (go_at_call 51; refine c4.mono ?_; rintro e w7 ⟨s7, ok, rfl, hby, hb7⟩; have BY : Hid (Flow.ByIs ts l k s7 ok) := hby; have ST7 : Hid (Stands w base0 W.heap.size B (st : Int) (b : Int) a cap ts l w7) := ST.out.below hb7; clear hby hb7) | (go_at_call 78; refine (signR_any k _ hk16).mono ?_; rintro e w' ⟨rfl, hw⟩; obtain rfl := hw.symm))
                · have hok : (!ok) = true := by assumption
                  have NB : Hid (Flow.NoBy ts l k l.length) := by
                    rcases BY.out with ⟨_, _, _, _, _, _, _, h⟩ | ⟨h, _⟩
                    · rw [h] at hok; cases hok
                    · exact h
                  go_ret2
                  exact ⟨5, _, l, rfl, U.out, .inr ⟨NS.out, .inr ⟨NI.out, .inr ⟨NK.out, .inl ⟨k, hk, NB.out, ND.out, rfl, rfl⟩⟩⟩⟩, ST7.out.bel⟩
                · have hok : (!ok) = false := by assumption
                  have ND' : Hid (Flow.NoDead ts l (k + 1)) := by
                    intro j hj hno
                    by_cases e : j = k
                    · subst e
                      rcases BY.out with ⟨i, n, m', h1, h2, _⟩ | ⟨_, _, h⟩
                      · have := hno i n (List.getElem?_eq_some_iff.1 h1).1 h1
                        rw [h2] at this; cases this
                      · rw [h] at hok; cases hok
                    · exact ND.out j (by omega) hno
                  go_roundg (gk - 1)
                  case measure => omega
                  case rel => exact ⟨k + 1, by omega, by omega, by go_num, ST7, ND'⟩
              · obtain rfl : k = ts.length := by omega
                go_wp2
                go_ret2
                exact ⟨1, _, l, rfl, U.out, .inr ⟨NS.out, .inr ⟨NI.out, .inr ⟨NK.out, .inr ⟨ND.out, rfl, rfl⟩⟩⟩⟩, ST.out.bel⟩
end Go.Proofs.YtdlldljgogbiaabGreat
