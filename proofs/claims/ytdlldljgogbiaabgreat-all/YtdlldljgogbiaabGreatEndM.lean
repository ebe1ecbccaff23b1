/-
  Laid as one: FinF, EnF.
-/
import Derived.Test.YtdlldljgogbiaabGreatStepM
import Derived.Test.YtdlldljgogbiaabGreatJudgeR
import Derived.Test.YtdlldljgogbiaabGreatFire
namespace Go.Proofs.YtdlldljgogbiaabGreat
open Go.RowKit
set_option linter.unusedVariables false
set_option maxRecDepth 40000

theorem finish_ok {s run : ByteArray} {w W : World} {ts : List Flow.Tr} {M i : Nat} {l : List Flow.Node} {n : Flow.Node} (hE : Flow.fireE s run = 0) (h1 : ts = Flow.readTr s) (h2 : M = (Flow.played s run).1) (hl : Flow.last s = Flow.pbit (Flow.bt s 1)) (hb : Flow.Bfs ts M l) (hi : l[i]? = some n) (hn : n.mark = Flow.pbit (Flow.bt s 1)) (hw : Below w.heap.size w W) :
    FinishPost s run w (.returned (.tuple #[.string (Flow.runOf (Flow.key l i)), .int .i64 0])) W := by
  subst h1 h2
  exact ⟨_, 0, rfl, .inr ⟨hE, l, hb, .inl ⟨i, n, hi, by rw [hl]; exact hn, rfl, rfl⟩⟩, hw⟩
theorem finish_no {s run : ByteArray} {w W : World} {ts : List Flow.Tr} {M : Nat} {l : List Flow.Node} (hE : Flow.fireE s run = 0) (h1 : ts = Flow.readTr s) (h2 : M = (Flow.played s run).1) (hl : Flow.last s = Flow.pbit (Flow.bt s 1)) (hb : Flow.Bfs ts M l) (hn : ∀ (i : Nat) (n : Flow.Node), l[i]? = some n → n.mark ≠ Flow.pbit (Flow.bt s 1)) (hw : Below w.heap.size w W) :
    FinishPost s run w (.returned (.tuple #[.string ⟨#[]⟩, .int .i64 7])) W := by
  subst h1 h2
  exact ⟨_, 7, rfl, .inr ⟨hE, l, hb, .inr ⟨fun i n h => by rw [hl]; exact hn i n h, rfl, rfl⟩⟩, hw⟩

set_option maxHeartbeats 2000000 in
theorem finishF_any (s run : ByteArray) (w : World) (hs : s.size ≤ maxLen) (hr : run.size ≤ maxLen) : Calls Tryz.prog 20 #[.string s, .string run] w (FinishPost s run w) := by
  have c1 := fun w => playNet_any s run w hs hr
  by_cases hE : Flow.fireE s run = 0
  · obtain ⟨h1, h2, h4⟩ := fireE_ok hE
    obtain ⟨hok, hsz, hp0, hp1⟩ := checkErr_ok h2
    obtain ⟨hf, hfe⟩ := first_lt hp0
    have hle : Flow.last s = Flow.pbit (Flow.bt s 1) := by unfold Flow.last Flow.pbit; rw [if_pos hp1]
    have hlt : (Flow.played s run).1 < 65536 := steps_lt (readTr_small s) hf
    have c2 : ∀ w, Calls Tryz.prog 35 #[.string s, .string run] w fun e w' => ∃ a cap, e = .returned (.tuple #[.agg (netF (Flow.bt s 0) (Flow.bt s 1) a (Flow.readTr s).length cap), .int .i64 (Flow.played s run).1, .int .i64 0, .int .i64 (Flow.played s run).2.2]) ∧ Below w.heap.size w w' ∧ w'.ownsRow w.heap.size 93 3 (.slice a (Flow.readTr s).length cap) (Flow.readTr s).length (cellsF (Flow.readTr s)) := fun w => (c1 w).mono fun e w' h => by
      obtain ⟨hb, ⟨g, _⟩ | ⟨_, g, _⟩ | ⟨_, _, a, cap, he, ho⟩⟩ := h
      · exact absurd g h1
      · exact absurd h2 g
      · rw [h4] at he; exact ⟨a, cap, he, hb, ho⟩
    have c3 := fun a cap b' W ho => explore_any (Flow.readTr s) a cap (Flow.played s run).1 b' W hlt (readTr_small s) (readTr_size s) ho
    have HE : Hid (Flow.fireE s run = 0) := hE
    have HL : Hid (Flow.last s = Flow.pbit (Flow.bt s 1)) := hle
    clear c1 hE h1 h2 h4 hok hsz hp0 hp1 hf hfe hle hlt
    obtain ⟨ts, hts⟩ : ∃ ts, ts = Flow.readTr s := ⟨_, rfl⟩
    obtain ⟨M, hM⟩ : ∃ M, M = (Flow.played s run).1 := ⟨_, rfl⟩
    have TS : Hid (ts = Flow.readTr s ∧ M = (Flow.played s run).1) := ⟨hts, hM⟩
    rw [← hts, ← hM] at c2 c3
    have hlen : ts.length ≤ 16 := by rw [hts]; exact readTr_size s
    clear hts hM
    go_enter Tryz.func20, Tryz.ntmps20
    go_wp2_with (first
      | (go_at_call 35; refine (c2 _).mono ?_; rintro e w1 ⟨a, cap, rfl, hb1, ho1⟩; have HB1 : Hid _ := hb1; have HO1 : Hid (w1.ownsRow w.heap.size 93 3 (.slice a ts.length cap) ts.length (cellsF ts)) := ho1; clear hb1 ho1)
      | (go_at_call 41; refine (c3 a cap _ _ (HO1.out.alloc _)).mono ?_; rintro e w2 ⟨aV, cV, A, l, arr, rfl, hbfs, hrows, hb2⟩; have I2 : Hid (SeaIn (w2.alloc (.cells (seaC aV l.length cV A) 79)) 0 w2.heap.size l) := sea_new hrows; have BF : Hid (Flow.Bfs ts M l) := hbfs; have k3 : Blk w2 w1.heap.size (netF (Flow.bt s 0) (Flow.bt s 1) a ts.length cap) 59 := (Blk.new w1 _ _).below hb2 (by simp); have r0 : w2.cell? ⟨w1.heap.size, 0, none⟩ = some (.int .u8 (Flow.bt s 0)) := k3.cell 0; have r1 : w2.cell? ⟨w1.heap.size, 1, none⟩ = some (.int .u8 (Flow.bt s 1)) := k3.cell 1; have r2 : w2.cell? ⟨w1.heap.size, 2, none⟩ = some (.slice a ts.length cap) := k3.cell 2; have z3 := k3.lt; have E2 : Hid (Below w.heap.size w (w2.alloc (.cells (seaC aV l.length cV A) 79))) := (have q1 := HB1.out.size; have q2 := hb2.size; ((HB1.out.alloc q1 _).trans (hb2.mono (by simp; omega))).alloc (by simp at q2; omega) _); clear hbfs hrows hb2 k3)
      | (go_at_call 42; refine (endVisit_any ts M l (Flow.bt s 0) (Flow.bt s 1) a ts.length cap 0 w2.heap.size (l.length * 16) _ (Flow.bt_lt _ _) BF.out I2.out).mono ?_; rintro e w3 ⟨r, rfl, hr, hb3⟩; have I3 : Hid (SeaIn w3 0 w2.heap.size l) := I2.out.below hb3; have E3 : Hid (Below w.heap.size w w3) := E2.out.trans (hb3.mono E2.out.size); clear hb3; rcases hr with ⟨i, n, j1, j2, rfl⟩ | ⟨j3, rfl⟩)
      | (go_at_call 43; refine (runTo_any ts M l 0 w2.heap.size i (l.length * 16) _ BF.out (List.getElem?_eq_some_iff.1 j1).1 I3.out).mono ?_; rintro e w5 ⟨a5, cap5, rfl, ho, hb⟩; have hcv := string_of_owned (Flow.signs (Flow.key l i)) ho; have E5 : Hid (Below w.heap.size w w5) := E3.out.trans (hb.mono E3.out.size); clear hb ho))
    all_goals go_ret2
    all_goals (first
      | (have _t := j1; exact finish_ok HE.out TS.out.1 TS.out.2 HL.out BF.out j1 j2 E5.out)
      | exact finish_no HE.out TS.out.1 TS.out.2 HL.out BF.out j3 E3.out)
  · have t2 : ((Flow.fireE s run : Int) != 0) = true := by simp; omega
    have c2 : ∀ w, Calls Tryz.prog 35 #[.string s, .string run] w fun e w' => ∃ x y a n cap m p, e = .returned (.tuple #[.agg (netF x y a n cap), .int .i64 (m : Nat), .int .i64 (Flow.fireE s run), .int .i64 (p : Nat)]) ∧ Below w.heap.size w w' := fun w => (c1 w).mono fun e w' h => by
      obtain ⟨hb, ⟨g, he⟩ | ⟨g1, g2, he⟩ | ⟨g1, g2, a, cap, he, _⟩⟩ := h
      · refine ⟨0, 0, none, 0, 0, 0, 0, ?_, hb⟩
        rw [he]; unfold Flow.fireE; rw [if_pos g]; rfl
      · refine ⟨0, 0, none, 0, 0, 0, Flow.checkAt s, ?_, hb⟩
        rw [he]; unfold Flow.fireE; rw [if_neg g1, if_pos g2]; rfl
      · refine ⟨Flow.bt s 0, Flow.bt s 1, a, (Flow.readTr s).length, cap, (Flow.played s run).1, (Flow.played s run).2.2, ?_, hb⟩
        rw [he]; unfold Flow.fireE; rw [if_neg g1, if_neg (fun x => x g2)]
    clear c1
    go_enter Tryz.func20, Tryz.ntmps20
    go_wp2_with (go_at_call 35; refine (c2 _).mono ?_; rintro e w1 ⟨x, y, a, n, cap, m, p, rfl, hb1⟩; have HB1 : Hid _ := hb1; clear hb1)
    go_ret2
    exact ⟨⟨#[]⟩, Flow.fireE s run, rfl, .inl ⟨hE, rfl, rfl⟩, HB1.out.alloc HB1.out.size _⟩
end Go.Proofs.YtdlldljgogbiaabGreat
namespace Go.Proofs.YtdlldljgogbiaabGreat
open Go.RowKit
set_option linter.unusedVariables false
set_option maxRecDepth 40000

set_option maxHeartbeats 2000000 in
theorem enableF_any (s step : ByteArray) (w : World) (hs : s.size ≤ maxLen) (hr : step.size ≤ maxLen) : Calls Tryz.prog 22 #[.string s, .string step] w (EnablePost s step w) := by
  unfold maxLen at hr
  by_cases h1 : 65536 < step.size
  · go_enter Tryz.func22, Tryz.ntmps22
    go_wp2
    go_ret2
    exact ⟨⟨#[]⟩, 1, rfl, .inl ⟨h1, rfl, rfl⟩, Below.refl _ _⟩
  · by_cases h2 : Flow.checkErr s = 0
    · obtain ⟨hok, hsz, hp0, hp1⟩ := checkErr_ok h2
      obtain ⟨hf, hfe⟩ := first_lt hp0
      have c1 := fun w => netF_ok s w hs h2
      have H2 : Hid (Flow.checkErr s = 0) := h2
      have FE : Hid (Flow.first s = Flow.pbit (Flow.bt s 0)) := hfe
      have HF : Hid (Flow.first s < 65536) := hf
      clear h2 hok hsz hp0 hp1 hf hfe
      by_cases h3 : step.size = 1
      · have hI1 : 0 < step.size := by omega
        have HB : Hid (step[0].toNat = Flow.bt step 0) := Flow.bt_at hI1
        have hb256 : step[0].toNat < 256 := UInt8.toNat_lt _
        have d1 : (((step.size : Nat) : Int) != 1) = false := by simp; omega
        by_cases hkn : Flow.num (step[0].toNat) < (Flow.readTr s).length
        · have ct : ∀ a cap w, Calls Tryz.prog 46 #[.agg (netF (Flow.bt s 0) (Flow.bt s 1) a (Flow.readTr s).length cap), .int .u8 (step[0].toNat : Int)] w fun e w' => e = .returned (.int .i64 (Flow.num step[0].toNat : Int)) ∧ w' = w.alloc (.cells (netF (Flow.bt s 0) (Flow.bt s 1) a (Flow.readTr s).length cap) 59) := fun a cap w => by
            have := transitionOf_any (Flow.bt s 0) (Flow.bt s 1) a (Flow.readTr s).length cap _ w hb256 (readTr_size s)
            unfold Flow.tnum at this
            rw [if_pos hkn] at this
            exact this
          go_enter Tryz.func22, Tryz.ntmps22
          go_wp2_with (first | (go_at_call 32; refine (c1 _).mono ?_; rintro e w1 ⟨a, cap, rfl, hb1, ho1⟩; have HB1 : Hid _ := hb1; have HO1 : Hid (w1.ownsRow _ 93 3 (.slice a (Flow.readTr s).length cap) (Flow.readTr s).length (cellsF (Flow.readTr s))) := ho1; clear hb1 ho1))
          have r0 : (w1.alloc (.cells (netF (Flow.bt s 0) (Flow.bt s 1) a (Flow.readTr s).length cap) 59)).cell? ⟨w1.heap.size, 0, none⟩ = some (.int .u8 (Flow.bt s 0)) := (Blk.new w1 _ _).cell 0
          have r1 : (w1.alloc (.cells (netF (Flow.bt s 0) (Flow.bt s 1) a (Flow.readTr s).length cap) 59)).cell? ⟨w1.heap.size, 1, none⟩ = some (.int .u8 (Flow.bt s 1)) := (Blk.new w1 _ _).cell 1
          have r2 : (w1.alloc (.cells (netF (Flow.bt s 0) (Flow.bt s 1) a (Flow.readTr s).length cap) 59)).cell? ⟨w1.heap.size, 2, none⟩ = some (.slice a (Flow.readTr s).length cap) := (Blk.new w1 _ _).cell 2
          have K0 : Hid (Blk (w1.alloc (.cells (netF (Flow.bt s 0) (Flow.bt s 1) a (Flow.readTr s).length cap) 59)) w1.heap.size (netF (Flow.bt s 0) (Flow.bt s 1) a (Flow.readTr s).length cap) 59) := Blk.new w1 _ _
          have HO2 : Hid ((w1.alloc (.cells (netF (Flow.bt s 0) (Flow.bt s 1) a (Flow.readTr s).length cap) 59)).ownsRow w.heap.size 93 3 (.slice a (Flow.readTr s).length cap) (Flow.readTr s).length (cellsF (Flow.readTr s))) := HO1.out.alloc _
          have E1 : Hid (Below w.heap.size w (w1.alloc (.cells (netF (Flow.bt s 0) (Flow.bt s 1) a (Flow.readTr s).length cap) 59))) := HB1.out.alloc HB1.out.size _
          generalize w1.alloc (.cells (netF (Flow.bt s 0) (Flow.bt s 1) a (Flow.readTr s).length cap) 59) = W at r0 r1 r2 K0 HO2 E1 ⊢
          generalize w1.heap.size = N at r0 r1 r2 K0 ⊢
          have z0 := K0.out.lt
          clear HB1 HO1 c1
          go_region_with (go_at_call 46; refine (ct _ _ _).mono ?_; rintro e w2 ⟨rfl, rfl⟩)
          all_goals
            go_wp2
            have BV : Hid (Below W.heap.size W (W.alloc (.cells (netF (Flow.bt s 0) (Flow.bt s 1) a (Flow.readTr s).length cap) 59)).drew) := ((Below.refl _ _).alloc (Nat.le_refl _) _).drew
            generalize (W.alloc (.cells (netF (Flow.bt s 0) (Flow.bt s 1) a (Flow.readTr s).length cap) 59)).drew = V at BV ⊢
            have K1 : Hid (Blk V N (netF (Flow.bt s 0) (Flow.bt s 1) a (Flow.readTr s).length cap) 59) := K0.out.below BV.out z0
            have HO3 : Hid (V.ownsRow w.heap.size 93 3 (.slice a (Flow.readTr s).length cap) (Flow.readTr s).length (cellsF (Flow.readTr s))) := owns_below HO2.out BV.out (Nat.le_refl _)
            have E3 : Hid (Below w.heap.size w V) := E1.out.trans (BV.out.mono E1.out.size)
            clear r0 r1 r2 z0 BV K0 HO2 E1 ct
            have n0 : V.cell? ⟨N, 0, none⟩ = some (.int .u8 (Flow.bt s 0)) := K1.out.cell 0
            have n2 : V.cell? ⟨N, 2, none⟩ = some (.slice a (Flow.readTr s).length cap) := K1.out.cell 2
            have z0 := K1.out.lt
            obtain ⟨k, hk⟩ : ∃ k, k = Flow.num step[0].toNat := ⟨_, rfl⟩
            rw [← hk] at hkn ⊢
            have KN : Hid (k = Flow.num (Flow.bt step 0)) := by show _ = _; rw [← HB.out]; exact hk
            obtain ⟨ts, hts⟩ : ∃ ts, ts = Flow.readTr s := ⟨_, rfl⟩
            have TS : Hid (ts = Flow.readTr s) := hts
            have hlen : ts.length ≤ 16 := by rw [hts]; exact readTr_size s
            have HT : Hid (∀ t ∈ ts, Flow.Small t) := by rw [hts]; exact readTr_small s
            rw [← hts] at K1 HO3 n2 hkn ⊢
            have cp : ∀ W, Calls Tryz.prog 47 #[.int .u8 (Flow.bt s 0)] W fun e w' => e = .returned (.int .i64 (Flow.first s)) ∧ W = w' := fun W => (placeBit_any (Flow.bt s 0) W (Flow.bt_lt _ _)).mono fun e w' h => ⟨by rw [FE.out]; exact h.1, h.2.symm⟩
            have c2 := fun b' W ho => explore_any ts a cap (Flow.first s) b' W HF.out HT.out hlen ho
            have nW : V.heap.size ≠ N := by omega
            have nW2 : N ≠ V.heap.size := by omega
            have P4 : Hid (∀ l r e t, Flow.Bfs ts (Flow.first s) l → Flow.ByIs ts l k t r → e = (if r then 0 else 7) → Flow.EnableA s step t e) := fun l r e t hb hby he => .inr (.inr (.inr ⟨H2.out, h3, by rw [← KN.out, ← TS.out]; exact hkn, l, r, by rw [← TS.out]; exact hb, by rw [← KN.out, ← TS.out]; exact hby, he⟩))
            clear hts hk
            rename_i K hK
            have H : ∀ (X : Nat) (wF : World) (l : List Flow.Node) (u0 u1 u7 u8 u12 u13 u14 u15 u16 u17 u18 u19 u20 u21 u22 u23 u24 u25 u26 u27 u28 u29 u30 u31 u32 u33 u34 u35 u36 u37 u38 : Value), SeaIn wF 0 X l → Flow.Bfs ts (Flow.first s) l → Below V.heap.size V wF →
                K { tmps := #[u0, u1, undef, undef, .string ⟨#[]⟩, .int .i64 0, .pointer (some ⟨N, 0, none⟩), u7, u8, .int .i64 (k : Int), .pointer (some ⟨X, 0, none⟩), undef, u12, u13, u14, u15, u16, u17, u18, u19, u20, u21, u22, u23, u24, u25, u26, u27, u28, u29, u30, u31, u32, u33, u34, u35, u36, u37, u38, undef, undef, undef, undef, undef, undef, undef, undef, undef, undef, undef], defers := [] } wF := by
              intro X wF l u0 u1 u7 u8 u12 u13 u14 u15 u16 u17 u18 u19 u20 u21 u22 u23 u24 u25 u26 u27 u28 u29 u30 u31 u32 u33 u34 u35 u36 u37 u38 hI2 hBF hBW
              have U : Hid (Flow.Bfs ts (Flow.first s) l) := hBF
              have I2 : Hid (SeaIn wF 0 X l) := hI2
              have E4 : Hid (Below w.heap.size w wF) := E3.out.trans (hBW.mono E3.out.size)
              have x2 : wF.cell? ⟨N, 2, none⟩ = some (.slice a ts.length cap) := (hBW.cell (p := ⟨N, 2, none⟩) z0).trans n2
              have zN : N < wF.heap.size := by have := hBW.size; omega
              obtain ⟨t, ht⟩ : ∃ t, ts[k]? = some t := ⟨_, List.getElem?_eq_getElem hkn⟩
              have ow2 := owns_below HO3.out hBW (Nat.le_refl _)
              have cf := firstStep_any ts t (Flow.first s) k l 0 X (l.length * 16) wF HT.out ht U.out I2.out
              obtain ⟨g, cap', hv, _, hg2⟩ := ow2.form (by omega)
              injection hv with hv1 _ hv3
              subst hv1 hv3
              have t0 := ow2.cellAt (k * 3) (by omega)
              have t1 := ow2.cellAt (k * 3 + 1) (by omega)
              have t2 := ow2.cellAt (k * 3 + 2) (by omega)
              obtain ⟨f0, f1, f2⟩ := cellsF_get ht
              rw [f0] at t0
              rw [f1] at t1
              rw [f2] at t2
              have hJ0 : (0 : Int) ≤ (k : Int) := by omega
              have hJ1 : (k : Int) < (ts.length : Int) := by omega
              have hk16 : k < 16 := by omega
              clear ow2 f0 f1 f2 ht hBW hI2 hBF n0 n2 z0 nW nW2 c2 cp K1 HO3 E3
              go_wp2_with (first
                | (go_at_call 48; refine cf.mono ?_; rintro e w2 ⟨r, rfl, hr, hb2⟩; have I3 : Hid (SeaIn w2 0 X l) := I2.out.below hb2; have E5 : Hid (Below w.heap.size w w2) := E4.out.trans (hb2.mono E4.out.size); clear hb2; rcases hr with ⟨i, n, m', j1, j2, j3, rfl⟩ | ⟨j3, rfl⟩)
                | (go_at_call 49; refine (runAndStep_any ts (Flow.first s) l 0 X i k (l.length * 16) _ U.out (List.getElem?_eq_some_iff.1 j1).1 hk16 I3.out).mono ?_; rintro e w5 ⟨rfl, hb⟩; have E6 : Hid (Below w.heap.size w w5) := E5.out.trans (hb.mono E5.out.size); clear hb))
              all_goals go_ret2
              all_goals (first
                | (have _t := j1; exact ⟨_, 0, rfl, P4.out l true 0 _ U.out (.inl ⟨i, n, m', j1, j2, j3, rfl, rfl⟩) rfl, E6.out⟩)
                | exact ⟨_, 7, rfl, P4.out l false 7 _ U.out (.inr ⟨j3, rfl, rfl⟩) rfl, E5.out⟩)
            clear hK
            go_region_held3 (fun w' => w'.cell? ⟨N, 0, none⟩ = some (.int .u8 (Flow.bt s 0)) ∧ w'.cell? ⟨N, 2, none⟩ = some (.slice a ts.length cap)) (go_keep) (first | (go_at_call 47; refine (cp _).mono ?_; rintro e w' ⟨rfl, rfl⟩) | (go_at_call 41; (first | refine (c2 _ _ (HO3.out.drew)).mono ?_ | refine (c2 _ _ (HO3.out.drew.alloc _)).mono ?_); rintro e w2 ⟨aV, cV, A, lb, arr, rfl, hbfs, hrows, hb2⟩; have RW : Hid (SeaRows w2 _ A lb aV cV arr) := hrows; have BF : Hid (Flow.Bfs ts (Flow.first s) lb) := hbfs; (try (have k2 : Blk w2 V.heap.size #[.slice none 0 0, .slice none 0 0] 79 := (Blk.new_at (w := V.drew) rfl _ _).below hb2 (by simp); have u0 := k2.cell 0; have u1 := k2.cell 1; simp only [List.getElem?_toArray, List.getElem?_cons_zero, List.getElem?_cons_succ] at u0 u1; have q0 := k2.froz 0; have q1 := k2.froz 1; have zz := k2.lt; have K2 : Hid (Blk w2 V.heap.size #[.slice none 0 0, .slice none 0 0] 79) := k2; clear k2)); have BW2 : Hid (Below V.heap.size V w2) := (by first | exact (Below.refl _ _).drew.trans hb2 | exact ((Below.refl _ _).drew.alloc (Nat.le_refl _) _).trans (hb2.mono (by simp))); have v3 : w2.cell? ⟨N, 0, none⟩ = some (.int .u8 (Flow.bt s 0)) := (BW2.out.cell (p := ⟨N, 0, none⟩) z0).trans n0; have v4 : w2.cell? ⟨N, 2, none⟩ = some (.slice a ts.length cap) := (BW2.out.cell (p := ⟨N, 2, none⟩) z0).trans n2; have z2 : N < w2.heap.size := (by have := BW2.out.size; omega); have nY : w2.heap.size ≠ N := (by omega); have nY2 : N ≠ w2.heap.size := (by omega); clear hbfs hrows hb2))
            all_goals have q2 := BW2.out.size
            all_goals simp only [Exit.then]
            all_goals (first
              | exact H _ _ lb _ _ _ _ _ _ _ _ _ _ _ _ _ _ _ _ _ _ _ _ _ _ _ _ _ _ _ _ _ _ _ (sea_low (X := V.heap.size) K2.out RW.out (by simp)) BF.out ((BW2.out.setCell (p := ⟨V.heap.size, 0, none⟩) (Nat.le_refl _) _).setCell (p := ⟨V.heap.size, 1, none⟩) (Nat.le_refl _) _)
              | exact H _ _ lb _ _ _ _ _ _ _ _ _ _ _ _ _ _ _ _ _ _ _ _ _ _ _ _ _ _ _ _ _ _ _ (sea_new RW.out) BF.out (BW2.out.alloc q2 _))
        · have ct : ∀ a cap w, Calls Tryz.prog 46 #[.agg (netF (Flow.bt s 0) (Flow.bt s 1) a (Flow.readTr s).length cap), .int .u8 (step[0].toNat : Int)] w fun e w' => e = .returned (.int .i64 (-1)) ∧ w' = w.alloc (.cells (netF (Flow.bt s 0) (Flow.bt s 1) a (Flow.readTr s).length cap) 59) := fun a cap w => by
            have := transitionOf_any (Flow.bt s 0) (Flow.bt s 1) a (Flow.readTr s).length cap _ w hb256 (readTr_size s)
            unfold Flow.tnum at this
            rw [if_neg hkn] at this
            exact this
          have P : Hid (Flow.EnableA s step ⟨#[]⟩ 4) := .inr (.inr (.inl ⟨h1, H2.out, fun h => hkn (by rw [HB.out]; exact h.2), rfl, rfl⟩))
          go_enter Tryz.func22, Tryz.ntmps22
          go_wp2_with (first | (go_at_call 32; refine (c1 _).mono ?_; rintro e w1 ⟨a, cap, rfl, hb1, ho1⟩; have HB1 : Hid _ := hb1; clear hb1 ho1))
          have r0 : (w1.alloc (.cells (netF (Flow.bt s 0) (Flow.bt s 1) a (Flow.readTr s).length cap) 59)).cell? ⟨w1.heap.size, 0, none⟩ = some (.int .u8 (Flow.bt s 0)) := (Blk.new w1 _ _).cell 0
          have r1 : (w1.alloc (.cells (netF (Flow.bt s 0) (Flow.bt s 1) a (Flow.readTr s).length cap) 59)).cell? ⟨w1.heap.size, 1, none⟩ = some (.int .u8 (Flow.bt s 1)) := (Blk.new w1 _ _).cell 1
          have r2 : (w1.alloc (.cells (netF (Flow.bt s 0) (Flow.bt s 1) a (Flow.readTr s).length cap) 59)).cell? ⟨w1.heap.size, 2, none⟩ = some (.slice a (Flow.readTr s).length cap) := (Blk.new w1 _ _).cell 2
          have K0 : Hid (Blk (w1.alloc (.cells (netF (Flow.bt s 0) (Flow.bt s 1) a (Flow.readTr s).length cap) 59)) w1.heap.size (netF (Flow.bt s 0) (Flow.bt s 1) a (Flow.readTr s).length cap) 59) := Blk.new w1 _ _
          have E1 : Hid (Below w.heap.size w (w1.alloc (.cells (netF (Flow.bt s 0) (Flow.bt s 1) a (Flow.readTr s).length cap) 59))) := HB1.out.alloc HB1.out.size _
          generalize w1.alloc (.cells (netF (Flow.bt s 0) (Flow.bt s 1) a (Flow.readTr s).length cap) 59) = W at r0 r1 r2 K0 E1 ⊢
          generalize w1.heap.size = N at r0 r1 r2 K0 ⊢
          have z0 := K0.out.lt
          clear HB1 c1
          go_region_with (go_at_call 46; refine (ct _ _ _).mono ?_; rintro e w2 ⟨rfl, rfl⟩)
          all_goals go_wp2
          all_goals go_ret2
          all_goals exact ⟨⟨#[]⟩, 4, rfl, P.out, (E1.out.alloc E1.out.size _).drew⟩
      · have d1 : (((step.size : Nat) : Int) != 1) = true := by simp; omega
        go_enter Tryz.func22, Tryz.ntmps22
        go_wp2_with (first | (go_at_call 32; refine (c1 _).mono ?_; rintro e w1 ⟨a, cap, rfl, hb1, ho1⟩; have HB1 : Hid _ := hb1; clear hb1 ho1))
        go_ret2
        exact ⟨⟨#[]⟩, 4, rfl, .inr (.inr (.inl ⟨h1, H2.out, fun h => h3 h.1, rfl, rfl⟩)), HB1.out.alloc HB1.out.size _⟩
    · have c1 := fun w => netF_no s w hs h2
      have t2 : ((Flow.checkErr s : Int) != 0) = true := by simp; omega
      go_enter Tryz.func22, Tryz.ntmps22
      go_wp2_with (go_at_call 32; refine (c1 _).mono ?_; rintro e w1 ⟨rfl, hb1⟩; have HB1 : Hid _ := hb1; clear hb1)
      go_ret2
      exact ⟨⟨#[]⟩, Flow.checkErr s, rfl, .inr (.inl ⟨h1, h2, rfl, rfl⟩), HB1.out.alloc HB1.out.size _⟩
end Go.Proofs.YtdlldljgogbiaabGreat
