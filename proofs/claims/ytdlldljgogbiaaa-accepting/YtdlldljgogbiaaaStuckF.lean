/-
  The program's looks for a marking that cannot end and for a transition that is dead.
-/
import Derived.Test.YtdlldljgogbiaaaStepF
import Derived.Test.YtdlldljgogbiaaaTurnF
import Derived.Test.YtdlldljgogbiaaaJudgedR
namespace Go.Proofs.Ytdlldljgogbiaaa
open Go.RowKit
set_option linter.unusedVariables false
set_option maxRecDepth 40000

/-- what firstDead answers -/
def Flow.DeadAt (ts : List Flow.Tr) (l : List Flow.Node) (r : Int) : Prop :=
  (∃ k, k < ts.length ∧ Flow.NoBy ts l k l.length ∧ Flow.NoDead ts l k ∧ r = (k : Int)) ∨ (Flow.NoDead ts l ts.length ∧ r = -1)

set_option maxHeartbeats 2000000 in
theorem firstDead_any (ts : List Flow.Tr) (x y : Nat) (a : Option Addr) (cap m base0 : Nat) (l : List Flow.Node) (base B P : Nat) (w : World) (hts : ∀ t ∈ ts, Flow.Small t) (hlen : ts.length ≤ 16) (hu : Flow.Upto ts m l P) (h : SeaIn w base B l)
    (hown : w.ownsRow base0 91 3 (.slice a ts.length cap) ts.length (cellsF ts)) :
    Calls Try.prog 77 #[.agg (netF x y a ts.length cap), .pointer (some ⟨B, 0, none⟩)] w fun e w' => ∃ r, e = .returned (.int .i64 r) ∧ Flow.DeadAt ts l r ∧ Below w.heap.size w w' := by
  have U : Hid (Flow.Upto ts m l P) := hu
  have IN : Hid (SeaIn w base B l) := h
  have OW : Hid (w.ownsRow base0 91 3 (.slice a ts.length cap) ts.length (cellsF ts)) := hown
  have HT : Hid (∀ t ∈ ts, Flow.Small t) := hts
  clear hu h hown hts
  go_enter Try.func77, Try.ntmps77
  go_wp2
  go_loopw [5] (fun k' wr => ∃ (k : Nat), k ≤ ts.length ∧ k' = .int .i64 k ∧ Blk wr w.heap.size (netF x y a ts.length cap) 60 ∧ Below w.heap.size w wr ∧ Hid (Flow.NoDead ts l k)) (fun k' _ => ts.length - (intOf k').toNat)
  case atStart => exact ⟨0, by omega, rfl, Blk.new _ _ _, (Below.refl _ _).alloc (Nat.le_refl _) _, fun j hj => by omega⟩
  case round =>
    obtain ⟨k, hkl, rfl, hb0, hbw, HN⟩ := hrel
    have n2 : wr.cell? ⟨w.heap.size, 2, none⟩ = some (.slice a ts.length cap) := hb0.cell 2
    have z0 := hb0.lt
    have hwb := hbw.size
    have B0 : Hid (Blk wr w.heap.size (netF x y a ts.length cap) 60) := hb0
    have HW : Hid _ := hbw
    by_cases hk : k < ts.length
    · obtain ⟨t, ht⟩ : ∃ t, ts[k]? = some t := ⟨_, List.getElem?_eq_getElem hk⟩
      have ow2 := owns_below OW.out hbw (Nat.le_refl _)
      have cf := firstStep_any ts t m k l base B P wr HT.out ht U.out (IN.out.below hbw)
      obtain ⟨g, cap', hv, _, hg2⟩ := ow2.form (by omega)
      injection hv with hv1 _ hv3
      subst hv1 hv3
      have t0 := ow2.cellAt (k * 3) (by omega)
      have t1 := ow2.cellAt (k * 3 + 1) (by omega)
      have t2 := ow2.cellAt (k * 3 + 2) (by omega)
      obtain ⟨f0, f1, f2⟩ := cellsF_get ht
      rw [f0] at t0
      rw [f1] at t1
      rw [f2] at t2
      have hJ0 : (0 : Int) ≤ (k : Int) := by omega
      have hJ1 : (k : Int) < (ts.length : Int) := by omega
      clear ow2 f0 f1 f2 ht hb0 hbw
      go_wp2_with (go_at_call 54; refine cf.mono ?_; rintro e w2 ⟨r, rfl, hr, hb2⟩; have R : Hid (Flow.FirstIs ts l k r) := hr; have HB2 : Hid _ := hb2; clear hr hb2)
      · have hr0 : r < 0 := by omega
        go_ret
        refine ⟨(k : Int), rfl, .inl ⟨k, hk, ?_, HN.out, rfl⟩, HW.out.trans (HB2.out.mono hwb)⟩
        rcases R.out with ⟨i, n, m', _, _, _, e⟩ | ⟨e, _⟩
        · omega
        · exact e
      · have hr0 : 0 ≤ r := by omega
        have HN' : Hid (Flow.NoDead ts l (k + 1)) := by
          intro j hj hno
          by_cases e : j = k
          · subst e
            rcases R.out with ⟨i, n, m', h1, h2, _⟩ | ⟨_, e⟩
            · have := hno i n (List.getElem?_eq_some_iff.1 h1).1 h1
              rw [h2] at this; cases this
            · omega
          · exact HN.out j (by omega) hno
        go_roundw
        case rel => exact ⟨k + 1, by omega, by go_num, B0.out.below HB2.out z0, HW.out.trans (HB2.out.mono hwb), HN'⟩
        case measure => simp [intOf]; omega
    · obtain rfl : k = ts.length := by omega
      clear hb0 hbw
      go_wp2
      go_ret
      exact ⟨-1, rfl, .inr ⟨HN.out, rfl⟩, HW.out⟩

/-- what firstStuck answers -/
def Flow.StuckAt (ts : List Flow.Tr) (e : Nat) (l : List Flow.Node) (r : Int) : Prop :=
  (∃ (i : Nat) (n : Flow.Node), l[i]? = some n ∧ ¬ Flow.CanEnd ts e n.mark ∧ Flow.NoStuck ts e l i ∧ r = (i : Int)) ∨ (Flow.NoStuck ts e l l.length ∧ r = -1)
theorem atI_has {l : List Flow.Node} {m : Nat} : 0 ≤ atI l m ↔ ∃ (j : Nat) (x : Flow.Node), l[j]? = some x ∧ x.mark = m := by
  constructor
  · intro h
    obtain ⟨n, h1, h2⟩ := atI_some h
    exact ⟨_, n, h1, h2⟩
  · rintro ⟨j, x, h1, h2⟩
    rcases Int.lt_or_le (atI l m) 0 with g | g
    · exact absurd h2 (atI_none.1 g j x h1)
    · exact g

theorem can_iff {ts : List Flow.Tr} {E m : Nat} {lb : List Flow.Node} (hts : ∀ t ∈ ts, Flow.Small t) (hlen : ts.length ≤ 16) (hE : E < 65536) (hb : Flow.Bfs (Flow.turn ts) E lb) (hm : m < 65536) : decide (0 ≤ atI lb m) = true ↔ Flow.CanEnd ts E m := by
  rw [decide_eq_true_iff, atI_has]
  exact turn_has hts hlen hE hb hm
/-- a search that was told is laid into a block that was there -/
theorem sea_low {w2 : World} {X b A : Nat} {lb : List Flow.Node} {aV : Option Addr} {cV : Nat} {arr : Array Value} {c0 c1 : Value} (K : Blk w2 X #[c0, c1] 78) (R : SeaRows w2 b A lb aV cV arr) (hX : X < b) :
    SeaIn ((w2.setCell ⟨X, 0, none⟩ (.slice aV lb.length cV)).setCell ⟨X, 1, none⟩ (.slice (some ⟨A, 0, none⟩) 65536 65536)) 0 X lb := by
  refine ⟨aV, cV, A, arr, Nat.zero_le _, by have := R.baseA; omega, ?_, ?_, ((R.farR hX 0 _).farR hX 1 _).lower (Nat.zero_le _)⟩
  · intro e; have := (owns_lt R.rV e).1; omega
  · have := (K.set 0 (.slice aV lb.length cV)).set 1 (.slice (some ⟨A, 0, none⟩) 65536 65536)
    simpa using this
/-- .. or into a new one -/
theorem sea_new {w2 : World} {b A : Nat} {lb : List Flow.Node} {aV : Option Addr} {cV : Nat} {arr : Array Value} (R : SeaRows w2 b A lb aV cV arr) :
    SeaIn (w2.alloc (.cells (seaC aV lb.length cV A) 78)) 0 w2.heap.size lb := by
  refine ⟨aV, cV, A, arr, Nat.zero_le _, by have := R.rA.lt; omega, ?_, Blk.new _ _ _, (R.below ((Below.refl _ _).alloc (Nat.le_refl _) _)).lower (Nat.zero_le _)⟩
  intro e; have := (owns_lt R.rV e).2; omega

set_option maxHeartbeats 2000000 in
theorem firstStuck_any (ts : List Flow.Tr) (x y : Nat) (a : Option Addr) (cap m base0 : Nat) (l : List Flow.Node) (base B P : Nat) (w : World) (hy : y < 256) (hts : ∀ t ∈ ts, Flow.Small t) (hlen : ts.length ≤ 16) (hu : Flow.Upto ts m l P) (h : SeaIn w base B l)
    (hown : w.ownsRow base0 91 3 (.slice a ts.length cap) ts.length (cellsF ts)) :
    Calls Try.prog 76 #[.agg (netF x y a ts.length cap), .pointer (some ⟨B, 0, none⟩)] w fun e w' => ∃ r, e = .returned (.int .i64 r) ∧ Flow.StuckAt ts (Flow.pbit y) l r ∧ Below w.heap.size w w' := by
  have h65 := hu.size
  have U : Hid (Flow.Upto ts m l P) := hu
  have IN : Hid (SeaIn w base B l) := h
  have OW : Hid (w.ownsRow base0 91 3 (.slice a ts.length cap) ts.length (cellsF ts)) := hown
  have HT : Hid (∀ t ∈ ts, Flow.Small t) := hts
  have hpb := Flow.pbit_lt y
  have cp : ∀ W, Calls Try.prog 53 #[.int .u8 y] W fun e w' => e = .returned (.int .i64 (Flow.pbit y)) ∧ W = w' := fun W => (placeBit_any y W hy).mono fun e w' h => ⟨h.1, h.2.symm⟩
  obtain ⟨E, hE⟩ : ∃ E, E = Flow.pbit y := ⟨_, rfl⟩
  rw [← hE] at hpb cp ⊢
  have HP : Hid (E < 65536) := hpb
  have c1 := fun W ho => turned_any ts a cap base0 W hlen ho
  have c2 := fun a' cap' b' W ho => explore_any (Flow.turn ts) a' cap' E b' W HP.out (turn_small HT.out) (by rw [turn_len]; exact hlen) ho
  clear hu h hown hts hE hpb
  go_enter Try.func76, Try.ntmps76
  go_wp2
  have n1 : (w.alloc (.cells (netF x y a ts.length cap) 60)).cell? ⟨w.heap.size, 1, none⟩ = some (.int .u8 y) := (Blk.new w _ _).cell 1
  have n2 : (w.alloc (.cells (netF x y a ts.length cap) 60)).cell? ⟨w.heap.size, 2, none⟩ = some (.slice a ts.length cap) := (Blk.new w _ _).cell 2
  have B0 : Hid (Blk (w.alloc (.cells (netF x y a ts.length cap) 60)) w.heap.size (netF x y a ts.length cap) 60) := Blk.new w _ _
  have OW1 : Hid ((w.alloc (.cells (netF x y a ts.length cap) 60)).ownsRow base0 91 3 (.slice a ts.length cap) ts.length (cellsF ts)) := OW.out.alloc _
  have IN1 : Hid (SeaIn (w.alloc (.cells (netF x y a ts.length cap) 60)) base B l) := IN.out.below ((Below.refl _ _).alloc (Nat.le_refl _) _)
  have HW : Hid (Below w.heap.size w (w.alloc (.cells (netF x y a ts.length cap) 60))) := (Below.refl _ _).alloc (Nat.le_refl _) _
  generalize w.alloc (.cells (netF x y a ts.length cap) 60) = W at n1 n2 B0 OW1 IN1 HW ⊢
  have z0 := B0.out.lt
  have nW : W.heap.size ≠ w.heap.size := by omega
  have nW2 : w.heap.size ≠ W.heap.size := by omega
  rename_i K hK
  have H : ∀ (X : Nat) (wF : World) (lb : List Flow.Node) (v9 v13 : Value), SeaIn wF 0 X lb → Flow.Bfs (Flow.turn ts) E lb → Below W.heap.size W wF →
      K { tmps := #[.agg (netF x y a ts.length cap), .pointer (some ⟨B, 0, none⟩), .pointer (some ⟨w.heap.size, 0, none⟩), undef, .int .i64 0, .pointer (some ⟨X, 0, none⟩), undef, .pointer (some ⟨w.heap.size, 2, none⟩), .slice a ts.length cap, v9, .pointer (some ⟨w.heap.size, 1, none⟩), .int .u8 y, .int .i64 E, v13, undef, undef, undef, undef, undef, undef, undef, undef, undef, undef, undef, undef, undef, undef, undef, undef, undef, undef, undef, undef], defers := [] } wF := by
    intro X wF lb v9 v13 hI2 hBF hBW
    have I2 : Hid (SeaIn wF 0 X lb) := hI2
    have IN3 : Hid (SeaIn wF base B l) := IN1.out.below hBW
    have HW3 : Hid (Below w.heap.size w wF) := HW.out.trans (hBW.mono HW.out.size)
    have CE : Hid (∀ (i : Nat) (n : Flow.Node), l[i]? = some n → (decide (0 ≤ atI lb n.mark) = true ↔ Flow.CanEnd ts E n.mark)) := fun i n hn => can_iff HT.out hlen HP.out hBF (U.out.small i n hn)
    clear n1 n2 B0 OW1 IN1 HW z0 nW nW2 c1 c2 cp OW IN hI2 hBF hBW
    go_wp2
    go_loopw [6] (fun i' wr => ∃ (i : Nat), i ≤ l.length ∧ i' = .int .i64 i ∧ Hid (SeaIn wr 0 X lb) ∧ Hid (SeaIn wr base B l) ∧ Hid (Below w.heap.size w wr) ∧ Hid (Flow.NoStuck ts E l i)) (fun i' _ => l.length - (intOf i').toNat)
    case atStart => exact ⟨0, by omega, rfl, I2, IN3, HW3, fun p n hp => by omega⟩
    case round =>
      clear I2 IN3 HW3
      obtain ⟨i, hil, rfl, I2, IN3, HW3, HN⟩ := hrel
      obtain ⟨aV, cV, A, x0, x1, zB, zA, _, _, hno⟩ := IN3.out.look
      clear x1 zA
      by_cases hlt : i < l.length
      · have hn := List.getElem?_eq_getElem hlt
        obtain ⟨gV, rfl, l1, e0, _, _⟩ := hno i _ hn
        obtain ⟨n, en⟩ : ∃ n, n = l[i] := ⟨_, rfl⟩
        rw [← en] at hn e0
        have N : Hid (l[i]? = some n) := hn
        have hnm := U.out.small i n hn
        have hI0 : (0 : Int) ≤ (i : Int) := by omega
        have hI1 : (i : Int) < (l.length : Int) := by omega
        have ch := has_any lb 0 X n.mark wr hnm I2.out
        have C1 : Hid (decide (0 ≤ atI lb n.mark) = true ↔ Flow.CanEnd ts E n.mark) := CE.out i n hn
        clear hno hn en hnm
        cases hd : decide (0 ≤ atI lb n.mark) with
        | true =>
          rw [hd] at ch
          have HN' : Hid (Flow.NoStuck ts E l (i + 1)) := by
            intro p n' hp hn'
            by_cases e : p = i
            · subst e; rw [N.out] at hn'; injection hn' with hn'; rw [← hn']; exact C1.out.1 hd
            · exact HN.out p n' (by omega) hn'
          clear hd
          go_wp2_with (go_at_call 90; refine ch.mono ?_; rintro e w' ⟨rfl, rfl⟩)
          go_roundw
          case rel => exact ⟨i + 1, by omega, by go_num, I2, IN3, HW3, HN'⟩
          case measure => simp [intOf]; omega
        | false =>
          rw [hd] at ch
          have S : Hid (¬ Flow.CanEnd ts E n.mark) := fun h => by
            have := C1.out.2 h
            rw [hd] at this; cases this
          clear hd
          go_wp2_with (go_at_call 90; refine ch.mono ?_; rintro e w' ⟨rfl, rfl⟩)
          go_ret
          exact ⟨(i : Int), rfl, .inl ⟨i, n, N.out, S.out, HN.out, rfl⟩, HW3.out⟩
      · obtain rfl : i = l.length := by omega
        clear hno
        go_wp2
        go_ret
        exact ⟨-1, rfl, .inr ⟨HN.out, rfl⟩, HW3.out⟩
  clear hK
  go_region_held3 (fun w' => w'.cell? ⟨w.heap.size, 1, none⟩ = some (.int .u8 y) ∧ w'.cell? ⟨w.heap.size, 2, none⟩ = some (.slice a ts.length cap)) (go_keep) (first | (go_at_call 102; (first | refine (c1 _ (OW1.out.drew)).mono ?_ | refine (c1 _ (OW1.out.drew.alloc _)).mono ?_); rintro e w1 ⟨a1, cap1, rfl, ho1, hb1⟩; have HO1 : Hid (w1.ownsRow _ 91 3 (.slice a1 (Flow.turn ts).length cap1) (Flow.turn ts).length (cellsF (Flow.turn ts))) := ho1; have HB1 : Hid _ := hb1; have BW1 : Hid (Below W.heap.size W w1) := (by first | exact (Below.refl _ _).drew.trans hb1 | exact ((Below.refl _ _).drew.alloc (Nat.le_refl _) _).trans (hb1.mono (by simp))); have v1 : w1.cell? ⟨w.heap.size, 1, none⟩ = some (.int .u8 y) := (BW1.out.cell (p := ⟨w.heap.size, 1, none⟩) z0).trans n1; have v2 : w1.cell? ⟨w.heap.size, 2, none⟩ = some (.slice a ts.length cap) := (BW1.out.cell (p := ⟨w.heap.size, 2, none⟩) z0).trans n2; have z1 : w.heap.size < w1.heap.size := (by have := BW1.out.size; omega); have nX : w1.heap.size ≠ w.heap.size := (by omega); have nX2 : w.heap.size ≠ w1.heap.size := (by omega); (try have KX : Hid (Blk w1 W.heap.size #[.slice none 0 0, .slice none 0 0] 78) := (Blk.new_at (w := W.drew) rfl _ _).below hb1 (by simp)); clear ho1 hb1) | (go_at_call 53; refine (cp _).mono ?_; rintro e w' ⟨rfl, rfl⟩) | (go_at_call 47; (first | refine (c2 _ _ _ _ HO1.out).mono ?_ | refine (c2 _ _ _ _ (HO1.out.alloc _)).mono ?_); rintro e w2 ⟨aV, cV, A, lb, arr, rfl, hbfs, hrows, hb2⟩; have RW : Hid (SeaRows w2 _ A lb aV cV arr) := hrows; have BF : Hid (Flow.Bfs (Flow.turn ts) E lb) := hbfs; have HB2 : Hid _ := hb2; (first | (have k2 : Blk w2 W.heap.size #[.slice none 0 0, .slice none 0 0] 78 := KX.out.below hb2 KX.out.lt; have u0 := k2.cell 0; have u1 := k2.cell 1; simp only [List.getElem?_toArray, List.getElem?_cons_zero, List.getElem?_cons_succ] at u0 u1; have q0 := k2.froz 0; have q1 := k2.froz 1; have zz := k2.lt; have K2 : Hid (Blk w2 W.heap.size #[.slice none 0 0, .slice none 0 0] 78) := k2; clear k2) | (have k2 : Blk w2 w1.heap.size #[.slice none 0 0, .slice none 0 0] 78 := (Blk.new w1 _ _).below hb2 (by simp); have u0 := k2.cell 0; have u1 := k2.cell 1; simp only [List.getElem?_toArray, List.getElem?_cons_zero, List.getElem?_cons_succ] at u0 u1; have q0 := k2.froz 0; have q1 := k2.froz 1; have zz := k2.lt; have K2 : Hid (Blk w2 w1.heap.size #[.slice none 0 0, .slice none 0 0] 78) := k2; clear k2) | skip); have BW2 : Hid (Below W.heap.size W w2) := (by first | exact BW1.out.trans (hb2.mono BW1.out.size) | exact (BW1.out.alloc BW1.out.size _).trans (hb2.mono (by have := BW1.out.size; simp; omega))); have v3 : w2.cell? ⟨w.heap.size, 1, none⟩ = some (.int .u8 y) := (BW2.out.cell (p := ⟨w.heap.size, 1, none⟩) z0).trans n1; have v4 : w2.cell? ⟨w.heap.size, 2, none⟩ = some (.slice a ts.length cap) := (BW2.out.cell (p := ⟨w.heap.size, 2, none⟩) z0).trans n2; have z2 : w.heap.size < w2.heap.size := (by have := BW2.out.size; omega); have nY : w2.heap.size ≠ w.heap.size := (by omega); have nY2 : w.heap.size ≠ w2.heap.size := (by omega); clear hbfs hrows hb2))
  all_goals have q1 := BW1.out.size
  all_goals have q2 := BW2.out.size
  all_goals simp only [Exit.then]
  all_goals (first
    | exact H _ _ lb _ _ (sea_low (X := W.heap.size) K2.out RW.out KX.out.lt) BF.out ((BW2.out.setCell (p := ⟨W.heap.size, 0, none⟩) (Nat.le_refl _) _).setCell (p := ⟨W.heap.size, 1, none⟩) (Nat.le_refl _) _)
    | exact H _ _ lb _ _ (sea_low (X := w1.heap.size) K2.out RW.out (by simp)) BF.out ((BW2.out.setCell (p := ⟨w1.heap.size, 0, none⟩) q1 _).setCell (p := ⟨w1.heap.size, 1, none⟩) q1 _)
    | exact H _ _ lb _ _ (sea_new RW.out) BF.out (BW2.out.alloc q2 _))
end Go.Proofs.Ytdlldljgogbiaaa
