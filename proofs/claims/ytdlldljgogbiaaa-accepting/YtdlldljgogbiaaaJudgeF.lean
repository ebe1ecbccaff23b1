/-
  The program's judge of a net that was read.
-/
import Derived.Test.YtdlldljgogbiaaaSpillF
import Derived.Test.YtdlldljgogbiaaaStuckF
namespace Go.Proofs.Ytdlldljgogbiaaa
open Go.RowKit
set_option linter.unusedVariables false
set_option maxRecDepth 40000

/-- what stands all through the program's judge -/
structure StandsF (w : World) (base0 X x y : Nat) (a : Option Addr) (cap : Nat) (ts : List Flow.Tr) (l : List Flow.Node) (wr : World) : Prop where
  net : Blk wr w.heap.size (netF x y a ts.length cap) 60
  own : wr.ownsRow base0 91 3 (.slice a ts.length cap) ts.length (cellsF ts)
  sea : SeaIn wr 0 X l
  bel : Below w.heap.size w wr
theorem StandsF.below {w : World} {base0 X x y : Nat} {a : Option Addr} {cap : Nat} {ts : List Flow.Tr} {l : List Flow.Node} {wr w2 : World} (h : StandsF w base0 X x y a cap ts l wr) (hb : Below wr.heap.size wr w2) : StandsF w base0 X x y a cap ts l w2 :=
  ⟨h.net.below hb h.net.lt, owns_below h.own hb (Nat.le_refl _), h.sea.below hb, h.bel.trans (hb.mono h.bel.size)⟩
theorem StandsF.look {w : World} {base0 X x y : Nat} {a : Option Addr} {cap : Nat} {ts : List Flow.Tr} {l : List Flow.Node} {wr : World} (h : StandsF w base0 X x y a cap ts l wr) :
    wr.cell? ⟨w.heap.size, 0, none⟩ = some (.int .u8 x) ∧ wr.cell? ⟨w.heap.size, 1, none⟩ = some (.int .u8 y) ∧ wr.cell? ⟨w.heap.size, 2, none⟩ = some (.slice a ts.length cap) ∧ w.heap.size < wr.heap.size ∧ X < wr.heap.size :=
  ⟨h.net.cell 0, h.net.cell 1, h.net.cell 2, h.net.lt, by obtain ⟨_, _, _, _, _, z, _⟩ := h.sea.look; exact z⟩
/-- the string of one byte in a new row -/
theorem string_one (W : World) (b : UInt8) : (convert 81 9 (.slice (some ⟨W.heap.size, 0, none⟩) 1 1)).run Try.prog (W.alloc (.cells #[.int .u8 (b.toNat : Int)] 5)).drew = .ok (.string ⟨#[b]⟩) (W.alloc (.cells #[.int .u8 (b.toNat : Int)] 5)).drew := by
  refine run_convert_bytes_back (W.alloc (.cells #[.int .u8 (b.toNat : Int)] 5)).drew 81 9 5 ⟨W.heap.size, 0, none⟩ 1 [b] Try.underlying81 Try.underlying5 Try.underlying9 ?_
  intro j hj
  have := cell_one_new W (.int .u8 (b.toNat : Int)) 5 j (.int .u8 (b.toNat : Int))
  match j, hj with
  | 0, _ => exact this rfl

set_option maxHeartbeats 4000000 in
theorem judgeNet_any (ts : List Flow.Tr) (x y : Nat) (a : Option Addr) (cap base0 : Nat) (w : World) (hx : x < 256) (hy : y < 256) (hts : ∀ t ∈ ts, Flow.Small t) (hlen : ts.length ≤ 16)
    (hown : w.ownsRow base0 91 3 (.slice a ts.length cap) ts.length (cellsF ts)) :
    Calls Try.prog 45 #[.agg (netF x y a ts.length cap)] w (JudgedPost ts (Flow.pbit x) (Flow.pbit y) w) := by
  have OW : Hid (w.ownsRow base0 91 3 (.slice a ts.length cap) ts.length (cellsF ts)) := hown
  have HT : Hid (∀ t ∈ ts, Flow.Small t) := hts
  have hpb := Flow.pbit_lt x
  have cp : ∀ W, Calls Try.prog 53 #[.int .u8 x] W fun e w' => e = .returned (.int .i64 (Flow.pbit x)) ∧ W = w' := fun W => (placeBit_any x W hx).mono fun e w' h => ⟨h.1, h.2.symm⟩
  obtain ⟨M, hM⟩ : ∃ M, M = Flow.pbit x := ⟨_, rfl⟩
  rw [← hM] at hpb cp ⊢
  have HM : Hid (M < 65536) := hpb
  have c2 := fun b' W ho => explore_any ts a cap M b' W HM.out HT.out hlen ho
  have HY : Hid (y < 256) := hy
  clear hown hts hM hpb hy hx
  go_enter Try.func45, Try.ntmps45
  go_wp2
  have n0 : (w.alloc (.cells (netF x y a ts.length cap) 60)).cell? ⟨w.heap.size, 0, none⟩ = some (.int .u8 x) := (Blk.new w _ _).cell 0
  have n2 : (w.alloc (.cells (netF x y a ts.length cap) 60)).cell? ⟨w.heap.size, 2, none⟩ = some (.slice a ts.length cap) := (Blk.new w _ _).cell 2
  have B0 : Hid (Blk (w.alloc (.cells (netF x y a ts.length cap) 60)) w.heap.size (netF x y a ts.length cap) 60) := Blk.new w _ _
  have OW1 : Hid ((w.alloc (.cells (netF x y a ts.length cap) 60)).ownsRow base0 91 3 (.slice a ts.length cap) ts.length (cellsF ts)) := OW.out.alloc _
  have HW : Hid (Below w.heap.size w (w.alloc (.cells (netF x y a ts.length cap) 60))) := (Below.refl _ _).alloc (Nat.le_refl _) _
  generalize w.alloc (.cells (netF x y a ts.length cap) 60) = W at n0 n2 B0 OW1 HW ⊢
  have z0 := B0.out.lt
  have nW : W.heap.size ≠ w.heap.size := by omega
  have nW2 : w.heap.size ≠ W.heap.size := by omega
  clear OW
  rename_i K hK
  have H : ∀ (X : Nat) (wF : World) (l : List Flow.Node) (v12 : Value), SeaIn wF 0 X l → Flow.Bfs ts M l → Below W.heap.size W wF →
      K { tmps := #[.agg (netF x y a ts.length cap), .pointer (some ⟨w.heap.size, 0, none⟩), .int .i64 0, .string ⟨#[]⟩, .pointer (some ⟨X, 0, none⟩), undef, undef, .pointer (some ⟨w.heap.size, 2, none⟩), .slice a ts.length cap, .pointer (some ⟨w.heap.size, 0, none⟩), .int .u8 x, .int .i64 M, v12, undef, undef, undef, undef, undef, undef, undef, undef, undef, undef, undef, undef, undef, undef, undef, undef, undef, undef, undef, undef, undef, undef, undef, undef, undef, undef, undef, undef, undef, undef, undef, undef], defers := [] } wF := by
    intro X wF l v12 hI2 hBF hBW
    have ST0 : Hid (StandsF w base0 X x y a cap ts l wF) := ⟨B0.out.below hBW z0, owns_below OW1.out hBW (Nat.le_refl _), hI2, HW.out.trans (hBW.mono HW.out.size)⟩
    have U : Hid (Flow.Bfs ts M l) := hBF
    clear n0 n2 B0 OW1 HW z0 nW nW2 c2 cp hI2 hBF hBW
    obtain ⟨n0, n1, n2, z0, zX⟩ := ST0.out.look
    have c1 := firstSpill_any ts x y a cap M base0 l 0 X (l.length * 16) wF HT.out hlen U.out ST0.out.sea ST0.out.own
    go_wp2_with (first
      | (go_at_call 74; refine c1.mono ?_; rintro e w1 ⟨r, s, rfl, hr, hb⟩; have ST1 : Hid (StandsF w base0 X x y a cap ts l w1) := ST0.out.below hb; obtain ⟨p0, p1, p2, y0, yX⟩ := ST1.out.look; clear hb n0 n1 n2 z0 zX c1; rcases hr with ⟨i, k, n, h1, h2, h3, h4, rfl, rfl⟩ | ⟨h4, rfl, rfl⟩)
      | (go_at_call 55; refine (runAndStep_any ts M l 0 X i k (l.length * 16) _ U.out (List.getElem?_eq_some_iff.1 h1).1 (by omega) ST1.out.sea).mono ?_; rintro e w5 ⟨rfl, hb⟩; have F1 : Hid (Flow.JudgeIs ts (Flow.pbit y) l 2 (Flow.runOf (Flow.key l i ++ [k])) ∧ Below w.heap.size w w5) := ⟨.inl ⟨.inl ⟨i, k, n, h1, h2, h3, h4, rfl, rfl⟩, rfl⟩, ST1.out.bel.trans (hb.mono ST1.out.bel.size)⟩; clear hb)
      | (go_at_call 75; refine (firstImproper_any ts M l x y a ts.length cap 0 X (l.length * 16) _ HY.out U.out ST1.out.sea).mono ?_; rintro e w2 ⟨r, rfl, hr, hb⟩; have ST2 : Hid (StandsF w base0 X x y a cap ts l w2) := ST1.out.below hb; obtain ⟨r0, r1, r2, x0, xX⟩ := ST2.out.look; clear hb p0 p1 p2 y0 yX; rcases hr with ⟨i, n, j1, j2, j3, rfl⟩ | ⟨j3, rfl⟩)
      | (go_at_call 76; refine (firstStuck_any ts x y a cap M base0 l 0 X (l.length * 16) _ HY.out HT.out hlen U.out ST2.out.sea ST2.out.own).mono ?_; rintro e w3 ⟨r, rfl, hr, hb⟩; have ST3 : Hid (StandsF w base0 X x y a cap ts l w3) := ST2.out.below hb; obtain ⟨s0, s1, s2, u0, uX⟩ := ST3.out.look; clear hb r0 r1 r2 x0 xX; rcases hr with ⟨i, n, k1, k2, k3, rfl⟩ | ⟨k3, rfl⟩)
      | (go_at_call 77; refine (firstDead_any ts x y a cap M base0 l 0 X (l.length * 16) _ HT.out hlen U.out ST3.out.sea ST3.out.own).mono ?_; rintro e w4 ⟨r, rfl, hr, hb⟩; have ST4 : Hid (StandsF w base0 X x y a cap ts l w4) := ST3.out.below hb; clear hb s0 s1 s2 u0 uX; rcases hr with ⟨k, m1, m2, m3, rfl⟩ | ⟨m3, rfl⟩))
    all_goals (first
      | (have _t := h1; go_ret2; exact ⟨2, _, l, rfl, U.out, F1.out.1, F1.out.2⟩)
      | (have _t := j1; go_region_with (go_at_call 49; have _t := j1; refine (runTo_any ts M l 0 X i (l.length * 16) _ U.out (List.getElem?_eq_some_iff.1 _t).1 ST2.out.sea.drew).mono ?_; rintro e w5 ⟨a5, cap5, rfl, ho, hb⟩; have hcv := string_of_owned (Flow.signs (Flow.key l i)) ho; have F2 : Hid (Flow.JudgeIs ts (Flow.pbit y) l 3 (Flow.runOf (Flow.key l i)) ∧ Below w.heap.size w w5) := ⟨.inr ⟨h4, .inl ⟨i, n, j1, j2, j3, rfl, rfl⟩⟩, ST2.out.bel.drew.trans (hb.mono ST2.out.bel.size)⟩; clear hb ho _t)
         all_goals go_wp2
         all_goals go_ret2
         all_goals (first | exact ⟨3, _, l, rfl, U.out, F2.out.1, F2.out.2⟩ | exact ⟨3, _, l, rfl, U.out, F2.out.1, F2.out.2.drew⟩))
      | (have _t := k1; go_region_with (go_at_call 49; have _t := k1; refine (runTo_any ts M l 0 X i (l.length * 16) _ U.out (List.getElem?_eq_some_iff.1 _t).1 ST3.out.sea.drew).mono ?_; rintro e w5 ⟨a5, cap5, rfl, ho, hb⟩; have hcv := string_of_owned (Flow.signs (Flow.key l i)) ho; have F3 : Hid (Flow.JudgeIs ts (Flow.pbit y) l 4 (Flow.runOf (Flow.key l i)) ∧ Below w.heap.size w w5) := ⟨.inr ⟨h4, .inr ⟨j3, .inl ⟨i, n, k1, k2, k3, rfl, rfl⟩⟩⟩, ST3.out.bel.drew.trans (hb.mono ST3.out.bel.size)⟩; clear hb ho _t)
         all_goals go_wp2
         all_goals go_ret2
         all_goals (first | exact ⟨4, _, l, rfl, U.out, F3.out.1, F3.out.2⟩ | exact ⟨4, _, l, rfl, U.out, F3.out.1, F3.out.2.drew⟩))
      | (go_ret2; exact ⟨1, _, l, rfl, U.out, .inr ⟨h4, .inr ⟨j3, .inr ⟨k3, .inr ⟨m3, rfl, rfl⟩⟩⟩⟩, ST4.out.bel⟩)
      | skip)
    go_region_with (go_at_call 78; refine (signOf_any k _ (by omega)).mono ?_; rintro e w' ⟨rfl, rfl⟩; have F4 : Hid (Flow.JudgeIs ts (Flow.pbit y) l 5 (Flow.runOf [k])) := .inr ⟨h4, .inr ⟨j3, .inr ⟨k3, .inl ⟨k, m1, m2, m3, rfl, rfl⟩⟩⟩⟩; have hcd := string_one w4 (Flow.sgn k))
    all_goals go_wp2
    all_goals go_ret2
    all_goals exact ⟨5, _, l, rfl, U.out, F4.out, (ST4.out.bel.alloc ST4.out.bel.size _).drew⟩
  clear hK
  go_region_held3 (fun w' => w'.cell? ⟨w.heap.size, 0, none⟩ = some (.int .u8 x) ∧ w'.cell? ⟨w.heap.size, 2, none⟩ = some (.slice a ts.length cap)) (go_keep) (first | (go_at_call 53; refine (cp _).mono ?_; rintro e w' ⟨rfl, rfl⟩) | (go_at_call 47; (first | refine (c2 _ _ (OW1.out.drew)).mono ?_ | refine (c2 _ _ (OW1.out.drew.alloc _)).mono ?_); rintro e w2 ⟨aV, cV, A, lb, arr, rfl, hbfs, hrows, hb2⟩; have RW : Hid (SeaRows w2 _ A lb aV cV arr) := hrows; have BF : Hid (Flow.Bfs ts M lb) := hbfs; (try (have k2 : Blk w2 W.heap.size #[.slice none 0 0, .slice none 0 0] 78 := (Blk.new_at (w := W.drew) rfl _ _).below hb2 (by simp); have u0 := k2.cell 0; have u1 := k2.cell 1; simp only [List.getElem?_toArray, List.getElem?_cons_zero, List.getElem?_cons_succ] at u0 u1; have q0 := k2.froz 0; have q1 := k2.froz 1; have zz := k2.lt; have K2 : Hid (Blk w2 W.heap.size #[.slice none 0 0, .slice none 0 0] 78) := k2; clear k2)); have BW2 : Hid (Below W.heap.size W w2) := (by first | exact (Below.refl _ _).drew.trans hb2 | exact ((Below.refl _ _).drew.alloc (Nat.le_refl _) _).trans (hb2.mono (by simp))); have v3 : w2.cell? ⟨w.heap.size, 0, none⟩ = some (.int .u8 x) := (BW2.out.cell (p := ⟨w.heap.size, 0, none⟩) z0).trans n0; have v4 : w2.cell? ⟨w.heap.size, 2, none⟩ = some (.slice a ts.length cap) := (BW2.out.cell (p := ⟨w.heap.size, 2, none⟩) z0).trans n2; have z2 : w.heap.size < w2.heap.size := (by have := BW2.out.size; omega); have nY : w2.heap.size ≠ w.heap.size := (by omega); have nY2 : w.heap.size ≠ w2.heap.size := (by omega); clear hbfs hrows hb2))
  all_goals have q2 := BW2.out.size
  all_goals simp only [Exit.then]
  all_goals (first
    | exact H _ _ lb _ (sea_low (X := W.heap.size) K2.out RW.out (by simp)) BF.out ((BW2.out.setCell (p := ⟨W.heap.size, 0, none⟩) (Nat.le_refl _) _).setCell (p := ⟨W.heap.size, 1, none⟩) (Nat.le_refl _) _)
    | exact H _ _ lb _ (sea_new RW.out) BF.out (BW2.out.alloc q2 _))
end Go.Proofs.Ytdlldljgogbiaaa
