/-
  Laid as one: FinishR, EnableR.
-/
import Derived.Test.YtdlldljgogbiaabGreatJudgeR
namespace Go.Proofs.YtdlldljgogbiaabGreat
open Go.RowKit
set_option linter.unusedVariables false
set_option maxRecDepth 40000

set_option maxRecDepth 400000 in
set_option maxHeartbeats 4000000 in
theorem finishR_any (s run : ByteArray) (w : World) (hs : s.size ≤ maxLen) (hr : run.size ≤ maxLen) : Calls Tryz.prog 21 #[.string s, .string run] w (FinishPost s run w) := by
  have cf : ∀ W, Calls Tryz.prog 17 #[.string s, .string run] W fun e w' => e = .returned (.tuple #[.string (Flow.fireS s run), .int .i64 (Flow.fireE s run), .int .i64 (Flow.fireP s run)]) ∧ Below W.heap.size W w' := fun W => fireR_any s run W hs hr
  by_cases h2 : Flow.fireE s run = 0
  · obtain ⟨hl, hc, hpl⟩ := fireE_ok h2
    obtain ⟨hok, hsz, hp0, hp1⟩ := checkErr_ok hc
    have q0 := Flow.isPl_iff.1 hp0
    have q1 := Flow.isPl_iff.1 hp1
    obtain ⟨hf, hfe⟩ := first_lt hp0
    have c1 := fun w => readR_ok s w hs hc
    have hpow := pow_small' (Flow.bt s 0 - 65) (by omega)
    have hlt : (Flow.played s run).1 < 65536 := steps_lt (readTr_small s) hf
    have c2 : ∀ a cap base w, w.ownsRow base 108 3 (.slice a (Flow.readTr s).length cap) (Flow.readTr s).length (cellsR (Flow.readTr s)) → Calls Tryz.prog 37 #[.agg #[.int .i64 ((Flow.bt s 0 - 65 : Nat) : Int), .int .i64 ((Flow.bt s 1 - 65 : Nat) : Int), .slice a (Flow.readTr s).length cap], .int .i64 (IntKind.i64.wrap (2 ^ (Flow.bt s 0 - 65))), .string run] w fun e w' => e = .returned (.tuple #[.int .i64 (Flow.played s run).1, .int .i64 0, .int .i64 (Flow.played s run).2.2]) ∧ Below w.heap.size w w' := fun a cap base w ho => by
      rw [wrap_is, hpow]
      have := stepsR_any (Flow.readTr s) ((Flow.bt s 0 - 65 : Nat) : Int) ((Flow.bt s 1 - 65 : Nat) : Int) a cap (Flow.first s) base run w hr hf (readTr_small s) (readTr_size s) ho
      have e : (Flow.steps (Flow.readTr s) (Flow.first s) run 0).2.1 = 0 := hpl
      rw [e] at this
      exact this
    have c3 : ∀ a cap base w, w.ownsRow base 108 3 (.slice a (Flow.readTr s).length cap) (Flow.readTr s).length (cellsR (Flow.readTr s)) → Calls Tryz.prog 44 #[.agg (netC ((Flow.bt s 0 - 65 : Nat) : Int) ((Flow.bt s 1 - 65 : Nat) : Int) a (Flow.readTr s).length cap), .int .i64 (Flow.played s run).1] w fun e w' => ∃ B l, e = .returned (.pointer (some ⟨B, 0, none⟩)) ∧ Flow.Bfs (Flow.readTr s) (Flow.played s run).1 l ∧ WalkIn w' w.heap.size B l ∧ Below w.heap.size w w' := fun a cap base w ho => walkR_any (Flow.readTr s) _ _ a cap (Flow.played s run).1 base w hlt (readTr_small s) (readTr_size s) ho
    obtain ⟨E, hE⟩ : ∃ E, E = Flow.last s := ⟨_, rfl⟩
    have hw2 : wrap64 (2 ^ (Flow.bt s 1 - 65)) = (E : Int) := by rw [hE]; exact pow_small' _ (by omega)
    have hw1 : IntKind.i64.wrap (2 ^ (Flow.bt s 1 - 65)) = (E : Int) := by rw [wrap_is]; exact hw2
    have hE16 : E < 65536 := by
      rw [hE]
      have h1 : (2 : Nat) ^ (Flow.bt s 1 - 65) ≤ 2 ^ 15 := Nat.pow_le_pow_right (by omega) (by omega)
      have h2 : (2 : Nat) ^ 15 = 32768 := by decide
      show 2 ^ (Flow.bt s 1 - 65) < 65536
      omega
    have HE : Hid _ := hE
    have H2 : Hid _ := h2
    rw [h2] at cf
    obtain ⟨b0, e0⟩ : ∃ b, b = Flow.bt s 0 - 65 := ⟨_, rfl⟩
    obtain ⟨b1, e1⟩ : ∃ b, b = Flow.bt s 1 - 65 := ⟨_, rfl⟩
    have hb0 : b0 ≤ 15 := by omega
    have hb1 : b1 ≤ 15 := by omega
    rw [← e0, ← e1] at c1 c2 c3
    rw [← e1] at hw1 hw2
    obtain ⟨ts, ets⟩ : ∃ ts, ts = Flow.readTr s := ⟨_, rfl⟩
    rw [← ets] at c1 c2 c3
    have ETS : Hid _ := ets
    clear h2 hl hc hpl hok hsz hp0 hp1 q0 q1 hf hfe hpow hE e0 e1 ets
    have hJ0 : (0 : Int) ≤ (E : Int) := by omega
    have hJ1 : (E : Int) < 65536 := by omega
    go_enter Tryz.func21, Tryz.ntmps21
    go_wp2_with (first | (go_at_call 17; refine (cf _).mono ?_; rintro e w0 ⟨rfl, hb0⟩; have HB0 : Hid _ := hb0; clear hb0) | (go_at_call 33; refine (c1 _).mono ?_; rintro e w1 ⟨a, cap, at', rfl, hb1, ho1⟩; have HB1 : Hid _ := hb1; have HO1 : Hid (w1.ownsRow _ 108 3 (.slice a ts.length cap) ts.length (cellsR ts)) := ho1; clear hb1 ho1))
    have HB2 : Hid (Below w.heap.size w (w1.alloc (.cells (netC (b0 : Int) (b1 : Int) a ts.length cap) 64))) := (HB0.out.trans (HB1.out.mono HB0.out.size)).alloc (by have := HB0.out.size; have := HB1.out.size; omega) _
    have K0 : Hid (Blk (w1.alloc (.cells (netC (b0 : Int) (b1 : Int) a ts.length cap) 64)) w1.heap.size (netC (b0 : Int) (b1 : Int) a ts.length cap) 64) := Blk.new _ _ _
    have HO2 : Hid ((w1.alloc (.cells (netC (b0 : Int) (b1 : Int) a ts.length cap) 64)).ownsRow _ 108 3 (.slice a ts.length cap) ts.length (cellsR ts)) := HO1.out.alloc _
    generalize w1.alloc (.cells (netC (b0 : Int) (b1 : Int) a ts.length cap) 64) = W at HB2 K0 HO2 ⊢
    obtain ⟨X, hX⟩ : ∃ X, X = w1.heap.size := ⟨_, rfl⟩
    have K0' : Hid (Blk W X (netC (b0 : Int) (b1 : Int) a ts.length cap) 64) := by rw [hX]; exact K0.out
    rw [← hX]
    clear hX K0 HB0 HB1 HO1
    have n0 : W.cell? ⟨X, 0, none⟩ = some (.int .i64 b0) := K0'.out.cell 0
    have n1 : W.cell? ⟨X, 1, none⟩ = some (.int .i64 b1) := K0'.out.cell 1
    have n2 : W.cell? ⟨X, 2, none⟩ = some (.slice a ts.length cap) := K0'.out.cell 2
    have z0 := K0'.out.lt
    go_region_held3 (fun w' => w'.cell? ⟨X, 0, none⟩ = some (.int .i64 b0) ∧ w'.cell? ⟨X, 1, none⟩ = some (.int .i64 b1) ∧ w'.cell? ⟨X, 2, none⟩ = some (.slice a ts.length cap)) (go_keep) (first | (go_at_call 37; refine (c2 a cap _ _ (HO2.out.drew)).mono ?_; rintro e w2 ⟨rfl, hb2⟩; have HB3 : Hid _ := hb2; have v0 : w2.cell? ⟨X, 0, none⟩ = some (.int .i64 b0) := (hb2.cell (p := ⟨X, 0, none⟩) z0).trans n0; have v1 : w2.cell? ⟨X, 1, none⟩ = some (.int .i64 b1) := (hb2.cell (p := ⟨X, 1, none⟩) z0).trans n1; have v2 : w2.cell? ⟨X, 2, none⟩ = some (.slice a ts.length cap) := (hb2.cell (p := ⟨X, 2, none⟩) z0).trans n2; clear hb2))
    have HO3 : Hid (w2.ownsRow _ 108 3 (.slice a ts.length cap) ts.length (cellsR ts)) := owns_below HO2.out.drew HB3.out (Nat.le_refl _)
    have HB4 : Hid (Below w.heap.size w w2) := (HB2.out.drew).trans (HB3.out.mono HB2.out.size)
    have z2 : X < w2.heap.size := by have := HB3.out.size; simp at this; omega
    clear n0 n1 n2 HB2 HB3 HO2 K0' z0 c1 c2 cf
    go_wp2_with (go_at_call 44; refine (c3 a cap _ _ HO3.out).mono ?_; rintro e w3 ⟨B, l, rfl, hbfs, hin, hb3⟩; have HBF : Hid (Flow.Bfs ts (Flow.played s run).1 l) := hbfs; have IN : Hid (WalkIn w3 _ B l) := hin; have u1 : w3.cell? ⟨X, 1, none⟩ = some (.int .i64 b1) := (hb3.cell (p := ⟨X, 1, none⟩) z2).trans v1; have HB5 : Hid (Below w.heap.size w w3) := HB4.out.trans (hb3.mono HB4.out.size); clear hbfs hin hb3)
    obtain ⟨aM, aF, aB, cM, cF, cB, A, x0, x1, x2, x3, zB, zA, _, hat, hno⟩ := IN.out.look
    have xa := hat E hE16
    have hbd := atI_bd l E
    have h65 := HBF.out.size
    clear hno hat x0 x1 x2 v0 v1 v2 HO3 HB4 c3
    by_cases hq : atI l E < 0
    · have NO : Hid _ := atI_none.1 hq
      obtain ⟨q, eq⟩ : ∃ q, q = atI l E := ⟨_, rfl⟩
      rw [← eq] at xa hq hbd
      clear eq
      go_wp2
      go_quiet (fail)
      go_wp2
      go_ret2
      refine ⟨⟨#[]⟩, 7, rfl, .inr ⟨H2.out, l, by rw [← ETS.out]; exact HBF.out, .inr ⟨?_, rfl, rfl⟩⟩, below_drewN HB5.out _⟩
      intro i n hi
      rw [← HE.out]; exact NO.out i n hi
    · obtain ⟨q, eq⟩ : ∃ q : Nat, (q : Int) = atI l E := ⟨(atI l E).toNat, by omega⟩
      obtain ⟨n, hn, hnm⟩ := atI_some (l := l) (m := E) (by omega)
      have hqn : (atI l E).toNat = q := by omega
      rw [hqn] at hn
      have hql : q < l.length := by omega
      rw [← eq] at xa
      have N : Hid (l[q]? = some n ∧ n.mark = E) := ⟨hn, hnm⟩
      have cr : ∀ base W', WalkIn W' base B l → Calls Tryz.prog 45 #[.pointer (some ⟨B, 0, none⟩), .int .i64 q] W' fun e w' => e = .returned (.string (Flow.runOf (Flow.key l q))) ∧ W' = w' := fun base W' hW => (runR_any ts (Flow.played s run).1 l base B q (l.length * 16) W' HBF.out hql hW).mono fun e w' h => ⟨h.1, h.2.symm⟩
      clear eq hq hbd hqn hn hnm
      go_wp2
      go_quiet (fail)
      go_wp2_with (go_at_call 45; refine (cr _ _ (IN.out.drewN _)).mono ?_; rintro e w4 ⟨rfl, rfl⟩)
      go_ret2
      exact ⟨Flow.runOf (Flow.key l q), 0, rfl, .inr ⟨H2.out, l, by rw [← ETS.out]; exact HBF.out, .inl ⟨q, n, N.out.1, by rw [← HE.out]; exact N.out.2, rfl, rfl⟩⟩, below_drewN HB5.out _⟩
  · have t2 : ((Flow.fireE s run : Int) != 0) = true := by simp; omega
    go_enter Tryz.func21, Tryz.ntmps21
    go_wp2_with (go_at_call 17; refine (cf _).mono ?_; rintro e w0 ⟨rfl, hb0⟩; have HB0 : Hid _ := hb0; clear hb0)
    go_ret2
    exact ⟨⟨#[]⟩, Flow.fireE s run, rfl, .inl ⟨h2, rfl, rfl⟩, HB0.out⟩
end Go.Proofs.YtdlldljgogbiaabGreat
namespace Go.Proofs.YtdlldljgogbiaabGreat
open Go.RowKit
set_option linter.unusedVariables false
set_option maxRecDepth 40000

set_option maxRecDepth 400000 in
set_option maxHeartbeats 4000000 in
theorem enableR_any (s step : ByteArray) (w : World) (hs : s.size ≤ maxLen) (hr : step.size ≤ maxLen) : Calls Tryz.prog 23 #[.string s, .string step] w (EnablePost s step w) := by
  have ck := fun w => checkR_any s w hs
  have hs' := hs
  unfold maxLen at hs hr
  by_cases h1 : 65536 < step.size
  · by_cases h0 : 160 < s.size
    · go_enter Tryz.func23, Tryz.ntmps23
      go_wp2
      go_ret2
      exact ⟨⟨#[]⟩, 1, rfl, .inl ⟨h1, rfl, rfl⟩, Below.refl _ _⟩
    · go_enter Tryz.func23, Tryz.ntmps23
      go_wp2
      go_ret2
      exact ⟨⟨#[]⟩, 1, rfl, .inl ⟨h1, rfl, rfl⟩, Below.refl _ _⟩
  · by_cases h0 : 160 < s.size
    · obtain ⟨e1, e2⟩ := checkErr_long h0
      have P : Hid (Flow.EnableA s step ⟨#[]⟩ 1) := .inr (.inl ⟨h1, by omega, rfl, e1.symm⟩)
      go_enter Tryz.func23, Tryz.ntmps23
      go_wp2
      go_ret2
      exact ⟨⟨#[]⟩, 1, rfl, P.out, Below.refl _ _⟩
    · by_cases h2 : Flow.checkErr s = 0
      · obtain ⟨hok, hsz, hp0, hp1⟩ := checkErr_ok h2
        obtain ⟨hf, hfe⟩ := first_lt hp0
        have q0 := Flow.isPl_iff.1 hp0
        have c1 := fun w => readR_ok s w hs' h2
        have hpow := pow_small' (Flow.bt s 0 - 65) (by omega)
        have c3 : ∀ a cap base w, w.ownsRow base 108 3 (.slice a (Flow.readTr s).length cap) (Flow.readTr s).length (cellsR (Flow.readTr s)) → Calls Tryz.prog 44 #[.agg (netC ((Flow.bt s 0 - 65 : Nat) : Int) ((Flow.bt s 1 - 65 : Nat) : Int) a (Flow.readTr s).length cap), .int .i64 (IntKind.i64.wrap (2 ^ (Flow.bt s 0 - 65)))] w fun e w' => ∃ B l, e = .returned (.pointer (some ⟨B, 0, none⟩)) ∧ Flow.Bfs (Flow.readTr s) (Flow.first s) l ∧ WalkIn w' w.heap.size B l ∧ Below w.heap.size w w' := fun a cap base w ho => by
          rw [wrap_is, hpow]
          exact walkR_any (Flow.readTr s) _ _ a cap (Flow.first s) base w hf (readTr_small s) (readTr_size s) ho
        have c4 : ∀ a cap base0 base B k l w, k < (Flow.readTr s).length → Flow.Bfs (Flow.readTr s) (Flow.first s) l → WalkIn w base B l → w.ownsRow base0 108 3 (.slice a (Flow.readTr s).length cap) (Flow.readTr s).length (cellsR (Flow.readTr s)) → Calls Tryz.prog 51 #[.pointer (some ⟨B, 0, none⟩), .agg (netC ((Flow.bt s 0 - 65 : Nat) : Int) ((Flow.bt s 1 - 65 : Nat) : Int) a (Flow.readTr s).length cap), .int .i64 (k : Int)] w fun e w' => ∃ t ok, e = .returned (.tuple #[.string t, .bool ok]) ∧ Flow.ByIs (Flow.readTr s) l k t ok ∧ Below w.heap.size w w' := fun a cap base0 base B k l w hk hb hi ho => byR_any (Flow.readTr s) _ _ a cap (Flow.first s) base0 l base B k (l.length * 16) w (readTr_small s) (readTr_size s) hk hb hi ho
        have H2 : Hid _ := h2
        rw [h2] at ck
        obtain ⟨b0, e0⟩ : ∃ b, b = Flow.bt s 0 - 65 := ⟨_, rfl⟩
        obtain ⟨b1, e1⟩ : ∃ b, b = Flow.bt s 1 - 65 := ⟨_, rfl⟩
        have hb0 : b0 ≤ 15 := by omega
        rw [← e0, ← e1] at c1 c3 c4
        have hts16 := readTr_size s
        obtain ⟨ts, ets⟩ : ∃ ts, ts = Flow.readTr s := ⟨_, rfl⟩
        rw [← ets] at c1 c3 c4 hts16
        have ETS : Hid _ := ets
        clear h2 hok hsz hp0 hp1 hf hfe q0 hpow e0 e1 ets
        by_cases h3 : step.size = 1
        · have hI1 : 0 < step.size := by omega
          have hz0 := Flow.bt_at (s := step) (k := 0) hI1
          have hb256 : step[0].toNat < 256 := UInt8.toNat_lt _
          have HZ : Hid _ := hz0
          have d1 : (((step.size : Nat) : Int) != 1) = false := by simp; omega
          have cn : ∀ W, Calls Tryz.prog 50 #[.int .u8 (step[0].toNat : Int)] W fun e w' => e = .returned (.int .i64 (Flow.num step[0].toNat)) ∧ w' = W := fun W => number_any _ W hb256
          have hnl := num_lt step[0].toNat
          obtain ⟨kk, ek⟩ : ∃ k, k = Flow.num step[0].toNat := ⟨_, rfl⟩
          rw [← ek] at cn hnl
          have EK : Hid (kk = Flow.num (Flow.bt step 0)) := by show _ = _; rw [← HZ.out]; exact ek
          have H3 : Hid (step.size = 1) := h3
          clear hz0 ek h3
          by_cases hk : kk < ts.length
          · have d2 : decide ((ts.length : Int) ≤ (kk : Int)) = false := by simp; omega
            have d3 : ((kk : Int) < (ts.length : Int)) := by omega
            go_enter Tryz.func23, Tryz.ntmps23
            go_wp2_with (first | (go_at_call 14; refine (ck _).mono ?_; rintro e w0 ⟨rfl, hb0⟩; have HB0 : Hid _ := hb0; clear hb0) | (go_at_call 33; refine (c1 _).mono ?_; rintro e w1 ⟨a, cap, at', rfl, hb1, ho1⟩; have HB1 : Hid _ := hb1; have HO1 : Hid (w1.ownsRow _ 108 3 (.slice a ts.length cap) ts.length (cellsR ts)) := ho1; clear hb1 ho1))
            have HB2 : Hid (Below w.heap.size w (w1.alloc (.cells (netC (b0 : Int) (b1 : Int) a ts.length cap) 64))) := (HB0.out.trans (HB1.out.mono HB0.out.size)).alloc (by have := HB0.out.size; have := HB1.out.size; omega) _
            have K0 : Hid (Blk (w1.alloc (.cells (netC (b0 : Int) (b1 : Int) a ts.length cap) 64)) w1.heap.size (netC (b0 : Int) (b1 : Int) a ts.length cap) 64) := Blk.new _ _ _
            have HO2 : Hid ((w1.alloc (.cells (netC (b0 : Int) (b1 : Int) a ts.length cap) 64)).ownsRow _ 108 3 (.slice a ts.length cap) ts.length (cellsR ts)) := HO1.out.alloc _
            generalize w1.alloc (.cells (netC (b0 : Int) (b1 : Int) a ts.length cap) 64) = W at HB2 K0 HO2 ⊢
            obtain ⟨X, hX⟩ : ∃ X, X = w1.heap.size := ⟨_, rfl⟩
            have K0' : Hid (Blk W X (netC (b0 : Int) (b1 : Int) a ts.length cap) 64) := by rw [hX]; exact K0.out
            rw [← hX]
            clear hX K0 HB0 HB1 HO1 c1 ck
            have n0 : W.cell? ⟨X, 0, none⟩ = some (.int .i64 b0) := K0'.out.cell 0
            have n1 : W.cell? ⟨X, 1, none⟩ = some (.int .i64 b1) := K0'.out.cell 1
            have n2 : W.cell? ⟨X, 2, none⟩ = some (.slice a ts.length cap) := K0'.out.cell 2
            have z0 := K0'.out.lt
            go_quiet ((go_at_call 50; exact Calls.quiet_of_same (cn _)))
            go_wp2
            go_region_held3 (fun w' => w'.cell? ⟨X, 0, none⟩ = some (.int .i64 b0) ∧ w'.cell? ⟨X, 1, none⟩ = some (.int .i64 b1) ∧ w'.cell? ⟨X, 2, none⟩ = some (.slice a ts.length cap)) (go_keep) (first | (go_at_call 44; refine (c3 a cap _ _ ((owns_below HO2.out (below_drewN (Below.refl _ _) _) (Nat.le_refl _)).drew)).mono ?_; rintro e w2 ⟨B, l, rfl, hbfs, hin, hb2⟩; have HB3 : Hid _ := hb2; have HBF : Hid (Flow.Bfs ts (Flow.first s) l) := hbfs; have IN : Hid (WalkIn w2 _ B l) := hin; have v0 : w2.cell? ⟨X, 0, none⟩ = some (.int .i64 b0) := (hb2.cell (p := ⟨X, 0, none⟩) z0).trans n0; have v1 : w2.cell? ⟨X, 1, none⟩ = some (.int .i64 b1) := (hb2.cell (p := ⟨X, 1, none⟩) z0).trans n1; have v2 : w2.cell? ⟨X, 2, none⟩ = some (.slice a ts.length cap) := (hb2.cell (p := ⟨X, 2, none⟩) z0).trans n2; clear hb2 hbfs hin))
            have HO3 : Hid (w2.ownsRow _ 108 3 (.slice a ts.length cap) ts.length (cellsR ts)) := owns_below (owns_below HO2.out (below_drewN (Below.refl _ _) nq) (Nat.le_refl _)).drew HB3.out (Nat.le_refl _)
            have HB4 : Hid (Below w.heap.size w w2) := ((below_drewN HB2.out nq).drew).trans (HB3.out.mono HB2.out.size)
            have z2 : X < w2.heap.size := by have := HB3.out.size; simp at this; omega
            clear n0 n1 n2 HB2 HB3 HO2 K0' z0 c3 d1 d2
            go_wp2
            go_region_held3 (fun w' => w'.cell? ⟨X, 0, none⟩ = some (.int .i64 b0) ∧ w'.cell? ⟨X, 1, none⟩ = some (.int .i64 b1) ∧ w'.cell? ⟨X, 2, none⟩ = some (.slice a ts.length cap)) (go_keep) (first | (go_at_call 50; refine (cn _).mono ?_; rintro e w' ⟨rfl, hw⟩; obtain rfl := hw.symm) | (go_at_call 51; refine (c4 a cap _ _ B kk l _ hk HBF.out IN.out.drew (HO3.out.drew)).mono ?_; rintro e w3 ⟨t, ok, rfl, hby, hb3⟩; have BY : Hid (Flow.ByIs ts l kk t ok) := hby; have HB5 : Hid (Below w.heap.size w w3) := (HB4.out.drew).trans (hb3.mono HB4.out.size); have u0 : w3.cell? ⟨X, 0, none⟩ = some (.int .i64 b0) := (hb3.cell (p := ⟨X, 0, none⟩) z2).trans v0; have u1 : w3.cell? ⟨X, 1, none⟩ = some (.int .i64 b1) := (hb3.cell (p := ⟨X, 1, none⟩) z2).trans v1; have u2 : w3.cell? ⟨X, 2, none⟩ = some (.slice a ts.length cap) := (hb3.cell (p := ⟨X, 2, none⟩) z2).trans v2; clear hby hb3))
            have P : Hid (Flow.EnableA s step t (if ok then 0 else 7)) := .inr (.inr (.inr ⟨H2.out, H3.out, by rw [← EK.out, ← ETS.out]; exact hk, l, ok, by rw [← ETS.out]; exact HBF.out, by rw [← ETS.out, ← EK.out]; exact BY.out, rfl⟩))
            cases ok with
            | true =>
              go_wp2
              go_ret2
              exact ⟨t, 0, rfl, P.out, HB5.out⟩
            | false =>
              have et : t = ⟨#[]⟩ := by
                rcases BY.out with ⟨_, _, _, _, _, _, _, h⟩ | ⟨_, h, _⟩
                · cases h
                · exact h
              have P' : Hid (Flow.EnableA s step ⟨#[]⟩ 7) := by rw [et] at P; exact P.out
              clear et
              go_wp2
              go_ret2
              exact ⟨⟨#[]⟩, 7, rfl, P'.out, HB5.out⟩
          · have d2 : decide ((ts.length : Int) ≤ (kk : Int)) = true := by simp; omega
            have P : Hid (Flow.EnableA s step ⟨#[]⟩ 4) := .inr (.inr (.inl ⟨h1, H2.out, by rw [← EK.out, ← ETS.out]; exact fun h => hk h.2, rfl, rfl⟩))
            go_enter Tryz.func23, Tryz.ntmps23
            go_wp2_with (first | (go_at_call 14; refine (ck _).mono ?_; rintro e w0 ⟨rfl, hb0⟩; have HB0 : Hid _ := hb0; clear hb0) | (go_at_call 33; refine (c1 _).mono ?_; rintro e w1 ⟨a, cap, at', rfl, hb1, ho1⟩; have HB1 : Hid _ := hb1; have HO1 : Hid (w1.ownsRow _ 108 3 (.slice a ts.length cap) ts.length (cellsR ts)) := ho1; clear hb1 ho1))
            have HB2 : Hid (Below w.heap.size w (w1.alloc (.cells (netC (b0 : Int) (b1 : Int) a ts.length cap) 64))) := (HB0.out.trans (HB1.out.mono HB0.out.size)).alloc (by have := HB0.out.size; have := HB1.out.size; omega) _
            have K0 : Hid (Blk (w1.alloc (.cells (netC (b0 : Int) (b1 : Int) a ts.length cap) 64)) w1.heap.size (netC (b0 : Int) (b1 : Int) a ts.length cap) 64) := Blk.new _ _ _
            have HO2 : Hid ((w1.alloc (.cells (netC (b0 : Int) (b1 : Int) a ts.length cap) 64)).ownsRow _ 108 3 (.slice a ts.length cap) ts.length (cellsR ts)) := HO1.out.alloc _
            generalize w1.alloc (.cells (netC (b0 : Int) (b1 : Int) a ts.length cap) 64) = W at HB2 K0 HO2 ⊢
            obtain ⟨X, hX⟩ : ∃ X, X = w1.heap.size := ⟨_, rfl⟩
            have K0' : Hid (Blk W X (netC (b0 : Int) (b1 : Int) a ts.length cap) 64) := by rw [hX]; exact K0.out
            rw [← hX]
            clear hX K0 HB0 HB1 HO1 c1 ck
            have n0 : W.cell? ⟨X, 0, none⟩ = some (.int .i64 b0) := K0'.out.cell 0
            have n1 : W.cell? ⟨X, 1, none⟩ = some (.int .i64 b1) := K0'.out.cell 1
            have n2 : W.cell? ⟨X, 2, none⟩ = some (.slice a ts.length cap) := K0'.out.cell 2
            have z0 := K0'.out.lt
            go_quiet ((go_at_call 50; exact Calls.quiet_of_same (cn _)))
            go_wp2
            go_ret2
            exact ⟨⟨#[]⟩, 4, rfl, P.out, below_drewN HB2.out _⟩
        · have d1 : (((step.size : Nat) : Int) != 1) = true := by simp; omega
          have P : Hid (Flow.EnableA s step ⟨#[]⟩ 4) := .inr (.inr (.inl ⟨h1, H2.out, fun h => h3 h.1, rfl, rfl⟩))
          go_enter Tryz.func23, Tryz.ntmps23
          go_wp2_with (first | (go_at_call 14; refine (ck _).mono ?_; rintro e w0 ⟨rfl, hb0⟩; have HB0 : Hid _ := hb0; clear hb0) | (go_at_call 33; refine (c1 _).mono ?_; rintro e w1 ⟨a, cap, at', rfl, hb1, ho1⟩; have HB1 : Hid _ := hb1; have HO1 : Hid (w1.ownsRow _ 108 3 (.slice a ts.length cap) ts.length (cellsR ts)) := ho1; clear hb1 ho1))
          have HB2 : Hid (Below w.heap.size w (w1.alloc (.cells (netC (b0 : Int) (b1 : Int) a ts.length cap) 64))) := (HB0.out.trans (HB1.out.mono HB0.out.size)).alloc (by have := HB0.out.size; have := HB1.out.size; omega) _
          have K0 : Hid (Blk (w1.alloc (.cells (netC (b0 : Int) (b1 : Int) a ts.length cap) 64)) w1.heap.size (netC (b0 : Int) (b1 : Int) a ts.length cap) 64) := Blk.new _ _ _
          have HO2 : Hid ((w1.alloc (.cells (netC (b0 : Int) (b1 : Int) a ts.length cap) 64)).ownsRow _ 108 3 (.slice a ts.length cap) ts.length (cellsR ts)) := HO1.out.alloc _
          generalize w1.alloc (.cells (netC (b0 : Int) (b1 : Int) a ts.length cap) 64) = W at HB2 K0 HO2 ⊢
          obtain ⟨X, hX⟩ : ∃ X, X = w1.heap.size := ⟨_, rfl⟩
          have K0' : Hid (Blk W X (netC (b0 : Int) (b1 : Int) a ts.length cap) 64) := by rw [hX]; exact K0.out
          rw [← hX]
          clear hX K0 HB0 HB1 HO1 c1 ck
          have n0 : W.cell? ⟨X, 0, none⟩ = some (.int .i64 b0) := K0'.out.cell 0
          have n1 : W.cell? ⟨X, 1, none⟩ = some (.int .i64 b1) := K0'.out.cell 1
          have n2 : W.cell? ⟨X, 2, none⟩ = some (.slice a ts.length cap) := K0'.out.cell 2
          have z0 := K0'.out.lt
          go_quiet (fail)
          go_wp2
          go_ret2
          exact ⟨⟨#[]⟩, 4, rfl, P.out, below_drewN HB2.out _⟩
      · have t2 : ((Flow.checkErr s : Int) != 0) = true := by simp; omega
        go_enter Tryz.func23, Tryz.ntmps23
        go_wp2_with (go_at_call 14; refine (ck _).mono ?_; rintro e w0 ⟨rfl, hb0⟩; have HB0 : Hid _ := hb0; clear hb0)
        go_ret2
        exact ⟨⟨#[]⟩, Flow.checkErr s, rfl, .inr (.inl ⟨h1, h2, rfl, rfl⟩), HB0.out⟩
end Go.Proofs.YtdlldljgogbiaabGreat
