/-
  The reference's Enable.
-/
import Derived.Test.YtdlldljgogbiaaaJudgeR
namespace Go.Proofs.Ytdlldljgogbiaaa
open Go.RowKit
set_option linter.unusedVariables false
set_option maxRecDepth 40000

set_option maxRecDepth 400000 in
set_option maxHeartbeats 4000000 in
theorem enableR_any (s step : ByteArray) (w : World) (hs : s.size ≤ maxLen) (hr : step.size ≤ maxLen) : Calls Try.prog 25 #[.string s, .string step] w (EnablePost s step w) := by
  have ck := fun w => checkR_any s w hs
  have hs' := hs
  unfold maxLen at hs hr
  by_cases h1 : 65536 < step.size
  · by_cases h0 : 160 < s.size
    · go_enter Try.func25, Try.ntmps25
      go_wp2
      go_ret2
      exact ⟨⟨#[]⟩, 1, rfl, .inl ⟨h1, rfl, rfl⟩, Below.refl _ _⟩
    · go_enter Try.func25, Try.ntmps25
      go_wp2
      go_ret2
      exact ⟨⟨#[]⟩, 1, rfl, .inl ⟨h1, rfl, rfl⟩, Below.refl _ _⟩
  · by_cases h0 : 160 < s.size
    · obtain ⟨e1, e2⟩ := checkErr_long h0
      have P : Hid (Flow.EnableA s step ⟨#[]⟩ 1) := .inr (.inl ⟨h1, by omega, rfl, e1.symm⟩)
      go_enter Try.func25, Try.ntmps25
      go_wp2
      go_ret2
      exact ⟨⟨#[]⟩, 1, rfl, P.out, Below.refl _ _⟩
    · by_cases h2 : Flow.checkErr s = 0
      · obtain ⟨hok, hsz, hp0, hp1⟩ := checkErr_ok h2
        obtain ⟨hf, hfe⟩ := first_lt hp0
        have q0 := Flow.isPl_iff.1 hp0
        have c1 := fun w => readR_ok s w hs' h2
        have hpow := pow_small' (Flow.bt s 0 - 65) (by omega)
        have c3 : ∀ a cap base w, w.ownsRow base 97 3 (.slice a (Flow.readTr s).length cap) (Flow.readTr s).length (cellsR (Flow.readTr s)) → Calls Try.prog 50 #[.agg (netC ((Flow.bt s 0 - 65 : Nat) : Int) ((Flow.bt s 1 - 65 : Nat) : Int) a (Flow.readTr s).length cap), .int .i64 (IntKind.i64.wrap (2 ^ (Flow.bt s 0 - 65)))] w fun e w' => ∃ B l, e = .returned (.pointer (some ⟨B, 0, none⟩)) ∧ Flow.Bfs (Flow.readTr s) (Flow.first s) l ∧ WalkIn w' w.heap.size B l ∧ Below w.heap.size w w' := fun a cap base w ho => by
          rw [wrap_is, hpow]
          exact walkR_any (Flow.readTr s) _ _ a cap (Flow.first s) base w hf (readTr_small s) (readTr_size s) ho
        have c4 : ∀ a cap base0 base B k l w, k < (Flow.readTr s).length → Flow.Bfs (Flow.readTr s) (Flow.first s) l → WalkIn w base B l → w.ownsRow base0 97 3 (.slice a (Flow.readTr s).length cap) (Flow.readTr s).length (cellsR (Flow.readTr s)) → Calls Try.prog 56 #[.pointer (some ⟨B, 0, none⟩), .agg (netC ((Flow.bt s 0 - 65 : Nat) : Int) ((Flow.bt s 1 - 65 : Nat) : Int) a (Flow.readTr s).length cap), .int .i64 (k : Int)] w fun e w' => ∃ t ok, e = .returned (.tuple #[.string t, .bool ok]) ∧ Flow.ByIs (Flow.readTr s) l k t ok ∧ Below w.heap.size w w' := fun a cap base0 base B k l w hk hb hi ho => byR_any (Flow.readTr s) _ _ a cap (Flow.first s) base0 l base B k (l.length * 16) w (readTr_small s) (readTr_size s) hk hb hi ho
        have H2 : Hid _ := h2
        rw [h2] at ck
        obtain ⟨b0, e0⟩ : ∃ b, b = Flow.bt s 0 - 65 := ⟨_, rfl⟩
        obtain ⟨b1, e1⟩ : ∃ b, b = Flow.bt s 1 - 65 := ⟨_, rfl⟩
        have hb0 : b0 ≤ 15 := by omega
        rw [← e0, ← e1] at c1 c3 c4
        have hts16 := readTr_size s
        obtain ⟨ts, ets⟩ : ∃ ts, ts = Flow.readTr s := ⟨_, rfl⟩
        rw [← ets] at c1 c3 c4 hts16
        have ETS : Hid _ := ets
        clear h2 hok hsz hp0 hp1 hf hfe q0 hpow e0 e1 ets
        by_cases h3 : step.size = 1
        · have hI1 : 0 < step.size := by omega
          have hz0 := Flow.bt_at (s := step) (k := 0) hI1
          have hb256 : step[0].toNat < 256 := UInt8.toNat_lt _
          have HZ : Hid _ := hz0
          have d1 : (((step.size : Nat) : Int) != 1) = false := by simp; omega
          have cn : ∀ W, Calls Try.prog 33 #[.int .u8 (step[0].toNat : Int)] W fun e w' => e = .returned (.int .i64 (Flow.num step[0].toNat)) ∧ w' = W := fun W => number_any _ W hb256
          have hnl := num_lt step[0].toNat
          obtain ⟨kk, ek⟩ : ∃ k, k = Flow.num step[0].toNat := ⟨_, rfl⟩
          rw [← ek] at cn hnl
          have EK : Hid (kk = Flow.num (Flow.bt step 0)) := by show _ = _; rw [← HZ.out]; exact ek
          have H3 : Hid (step.size = 1) := h3
          clear hz0 ek h3
          by_cases hk : kk < ts.length
          · have d2 : decide ((ts.length : Int) ≤ (kk : Int)) = false := by simp; omega
            have d3 : ((kk : Int) < (ts.length : Int)) := by omega
            go_enter Try.func25, Try.ntmps25
            go_wp2_with (first | (go_at_call 16; refine (ck _).mono ?_; rintro e w0 ⟨rfl, hb0⟩; have HB0 : Hid _ := hb0; clear hb0) | (go_at_call 39; refine (c1 _).mono ?_; rintro e w1 ⟨a, cap, at', rfl, hb1, ho1⟩; have HB1 : Hid _ := hb1; have HO1 : Hid (w1.ownsRow _ 97 3 (.slice a ts.length cap) ts.length (cellsR ts)) := ho1; clear hb1 ho1))
            have HB2 : Hid (Below w.heap.size w (w1.alloc (.cells (netC (b0 : Int) (b1 : Int) a ts.length cap) 65))) := (HB0.out.trans (HB1.out.mono HB0.out.size)).alloc (by have := HB0.out.size; have := HB1.out.size; omega) _
            have K0 : Hid (Blk (w1.alloc (.cells (netC (b0 : Int) (b1 : Int) a ts.length cap) 65)) w1.heap.size (netC (b0 : Int) (b1 : Int) a ts.length cap) 65) := Blk.new _ _ _
            have HO2 : Hid ((w1.alloc (.cells (netC (b0 : Int) (b1 : Int) a ts.length cap) 65)).ownsRow _ 97 3 (.slice a ts.length cap) ts.length (cellsR ts)) := HO1.out.alloc _
            generalize w1.alloc (.cells (netC (b0 : Int) (b1 : Int) a ts.length cap) 65) = W at HB2 K0 HO2 ⊢
            obtain ⟨X, hX⟩ : ∃ X, X = w1.heap.size := ⟨_, rfl⟩
            have K0' : Hid (Blk W X (netC (b0 : Int) (b1 : Int) a ts.length cap) 65) := by rw [hX]; exact K0.out
            rw [← hX]
            clear hX K0 HB0 HB1 HO1 c1 ck
            have n0 : W.cell? ⟨X, 0, none⟩ = some (.int .i64 b0) := K0'.out.cell 0
            have n1 : W.cell? ⟨X, 1, none⟩ = some (.int .i64 b1) := K0'.out.cell 1
            have n2 : W.cell? ⟨X, 2, none⟩ = some (.slice a ts.length cap) := K0'.out.cell 2
            have z0 := K0'.out.lt
            go_quiet ((go_at_call 33; exact Calls.quiet_of_same (cn _)))
            go_wp2
            go_region_held3 (fun w' => w'.cell? ⟨X, 0, none⟩ = some (.int .i64 b0) ∧ w'.cell? ⟨X, 1, none⟩ = some (.int .i64 b1) ∧ w'.cell? ⟨X, 2, none⟩ = some (.slice a ts.length cap)) (go_keep) (first | (go_at_call 50; refine (c3 a cap _ _ ((owns_below HO2.out (below_drewN (Below.refl _ _) _) (Nat.le_refl _)).drew)).mono ?_; rintro e w2 ⟨B, l, rfl, hbfs, hin, hb2⟩; have HB3 : Hid _ := hb2; have HBF : Hid (Flow.Bfs ts (Flow.first s) l) := hbfs; have IN : Hid (WalkIn w2 _ B l) := hin; have v0 : w2.cell? ⟨X, 0, none⟩ = some (.int .i64 b0) := (hb2.cell (p := ⟨X, 0, none⟩) z0).trans n0; have v1 : w2.cell? ⟨X, 1, none⟩ = some (.int .i64 b1) := (hb2.cell (p := ⟨X, 1, none⟩) z0).trans n1; have v2 : w2.cell? ⟨X, 2, none⟩ = some (.slice a ts.length cap) := (hb2.cell (p := ⟨X, 2, none⟩) z0).trans n2; clear hb2 hbfs hin))
            have HO3 : Hid (w2.ownsRow _ 97 3 (.slice a ts.length cap) ts.length (cellsR ts)) := owns_below (owns_below HO2.out (below_drewN (Below.refl _ _) nq) (Nat.le_refl _)).drew HB3.out (Nat.le_refl _)
            have HB4 : Hid (Below w.heap.size w w2) := ((below_drewN HB2.out nq).drew).trans (HB3.out.mono HB2.out.size)
            have z2 : X < w2.heap.size := by have := HB3.out.size; simp at this; omega
            clear n0 n1 n2 HB2 HB3 HO2 K0' z0 c3 d1 d2
            go_wp2
            go_region_held3 (fun w' => w'.cell? ⟨X, 0, none⟩ = some (.int .i64 b0) ∧ w'.cell? ⟨X, 1, none⟩ = some (.int .i64 b1) ∧ w'.cell? ⟨X, 2, none⟩ = some (.slice a ts.length cap)) (go_keep) (first | (go_at_call 33; refine (cn _).mono ?_; rintro e w' ⟨rfl, hw⟩; obtain rfl := hw.symm) | (go_at_call 56; refine (c4 a cap _ _ B kk l _ hk HBF.out IN.out.drew (HO3.out.drew)).mono ?_; rintro e w3 ⟨t, ok, rfl, hby, hb3⟩; have BY : Hid (Flow.ByIs ts l kk t ok) := hby; have HB5 : Hid (Below w.heap.size w w3) := (HB4.out.drew).trans (hb3.mono HB4.out.size); have u0 : w3.cell? ⟨X, 0, none⟩ = some (.int .i64 b0) := (hb3.cell (p := ⟨X, 0, none⟩) z2).trans v0; have u1 : w3.cell? ⟨X, 1, none⟩ = some (.int .i64 b1) := (hb3.cell (p := ⟨X, 1, none⟩) z2).trans v1; have u2 : w3.cell? ⟨X, 2, none⟩ = some (.slice a ts.length cap) := (hb3.cell (p := ⟨X, 2, none⟩) z2).trans v2; clear hby hb3))
            have P : Hid (Flow.EnableA s step t (if ok then 0 else 7)) := .inr (.inr (.inr ⟨H2.out, H3.out, by rw [← EK.out, ← ETS.out]; exact hk, l, ok, by rw [← ETS.out]; exact HBF.out, by rw [← ETS.out, ← EK.out]; exact BY.out, rfl⟩))
            cases ok with
            | true =>
              go_wp2
              go_ret2
              exact ⟨t, 0, rfl, P.out, HB5.out⟩
            | false =>
              have et : t = ⟨#[]⟩ := by
                rcases BY.out with ⟨_, _, _, _, _, _, _, h⟩ | ⟨_, h, _⟩
                · cases h
                · exact h
              have P' : Hid (Flow.EnableA s step ⟨#[]⟩ 7) := by rw [et] at P; exact P.out
              clear et
              go_wp2
              go_ret2
              exact ⟨⟨#[]⟩, 7, rfl, P'.out, HB5.out⟩
          · have d2 : decide ((ts.length : Int) ≤ (kk : Int)) = true := by simp; omega
            have P : Hid (Flow.EnableA s step ⟨#[]⟩ 4) := .inr (.inr (.inl ⟨h1, H2.out, by rw [← EK.out, ← ETS.out]; exact fun h => hk h.2, rfl, rfl⟩))
            go_enter Try.func25, Try.ntmps25
            go_wp2_with (first | (go_at_call 16; refine (ck _).mono ?_; rintro e w0 ⟨rfl, hb0⟩; have HB0 : Hid _ := hb0; clear hb0) | (go_at_call 39; refine (c1 _).mono ?_; rintro e w1 ⟨a, cap, at', rfl, hb1, ho1⟩; have HB1 : Hid _ := hb1; have HO1 : Hid (w1.ownsRow _ 97 3 (.slice a ts.length cap) ts.length (cellsR ts)) := ho1; clear hb1 ho1))
            have HB2 : Hid (Below w.heap.size w (w1.alloc (.cells (netC (b0 : Int) (b1 : Int) a ts.length cap) 65))) := (HB0.out.trans (HB1.out.mono HB0.out.size)).alloc (by have := HB0.out.size; have := HB1.out.size; omega) _
            have K0 : Hid (Blk (w1.alloc (.cells (netC (b0 : Int) (b1 : Int) a ts.length cap) 65)) w1.heap.size (netC (b0 : Int) (b1 : Int) a ts.length cap) 65) := Blk.new _ _ _
            have HO2 : Hid ((w1.alloc (.cells (netC (b0 : Int) (b1 : Int) a ts.length cap) 65)).ownsRow _ 97 3 (.slice a ts.length cap) ts.length (cellsR ts)) := HO1.out.alloc _
            generalize w1.alloc (.cells (netC (b0 : Int) (b1 : Int) a ts.length cap) 65) = W at HB2 K0 HO2 ⊢
            obtain ⟨X, hX⟩ : ∃ X, X = w1.heap.size := ⟨_, rfl⟩
            have K0' : Hid (Blk W X (netC (b0 : Int) (b1 : Int) a ts.length cap) 65) := by rw [hX]; exact K0.out
            rw [← hX]
            clear hX K0 HB0 HB1 HO1 c1 ck
            have n0 : W.cell? ⟨X, 0, none⟩ = some (.int .i64 b0) := K0'.out.cell 0
            have n1 : W.cell? ⟨X, 1, none⟩ = some (.int .i64 b1) := K0'.out.cell 1
            have n2 : W.cell? ⟨X, 2, none⟩ = some (.slice a ts.length cap) := K0'.out.cell 2
            have z0 := K0'.out.lt
            go_quiet ((go_at_call 33; exact Calls.quiet_of_same (cn _)))
            go_wp2
            go_ret2
            exact ⟨⟨#[]⟩, 4, rfl, P.out, below_drewN HB2.out _⟩
        · have d1 : (((step.size : Nat) : Int) != 1) = true := by simp; omega
          have P : Hid (Flow.EnableA s step ⟨#[]⟩ 4) := .inr (.inr (.inl ⟨h1, H2.out, fun h => h3 h.1, rfl, rfl⟩))
          go_enter Try.func25, Try.ntmps25
          go_wp2_with (first | (go_at_call 16; refine (ck _).mono ?_; rintro e w0 ⟨rfl, hb0⟩; have HB0 : Hid _ := hb0; clear hb0) | (go_at_call 39; refine (c1 _).mono ?_; rintro e w1 ⟨a, cap, at', rfl, hb1, ho1⟩; have HB1 : Hid _ := hb1; have HO1 : Hid (w1.ownsRow _ 97 3 (.slice a ts.length cap) ts.length (cellsR ts)) := ho1; clear hb1 ho1))
          have HB2 : Hid (Below w.heap.size w (w1.alloc (.cells (netC (b0 : Int) (b1 : Int) a ts.length cap) 65))) := (HB0.out.trans (HB1.out.mono HB0.out.size)).alloc (by have := HB0.out.size; have := HB1.out.size; omega) _
          have K0 : Hid (Blk (w1.alloc (.cells (netC (b0 : Int) (b1 : Int) a ts.length cap) 65)) w1.heap.size (netC (b0 : Int) (b1 : Int) a ts.length cap) 65) := Blk.new _ _ _
          have HO2 : Hid ((w1.alloc (.cells (netC (b0 : Int) (b1 : Int) a ts.length cap) 65)).ownsRow _ 97 3 (.slice a ts.length cap) ts.length (cellsR ts)) := HO1.out.alloc _
          generalize w1.alloc (.cells (netC (b0 : Int) (b1 : Int) a ts.length cap) 65) = W at HB2 K0 HO2 ⊢
          obtain ⟨X, hX⟩ : ∃ X, X = w1.heap.size := ⟨_, rfl⟩
          have K0' : Hid (Blk W X (netC (b0 : Int) (b1 : Int) a ts.length cap) 65) := by rw [hX]; exact K0.out
          rw [← hX]
          clear hX K0 HB0 HB1 HO1 c1 ck
          have n0 : W.cell? ⟨X, 0, none⟩ = some (.int .i64 b0) := K0'.out.cell 0
          have n1 : W.cell? ⟨X, 1, none⟩ = some (.int .i64 b1) := K0'.out.cell 1
          have n2 : W.cell? ⟨X, 2, none⟩ = some (.slice a ts.length cap) := K0'.out.cell 2
          have z0 := K0'.out.lt
          go_quiet (fail)
          go_wp2
          go_ret2
          exact ⟨⟨#[]⟩, 4, rfl, P.out, below_drewN HB2.out _⟩
      · have t2 : ((Flow.checkErr s : Int) != 0) = true := by simp; omega
        go_enter Try.func25, Try.ntmps25
        go_wp2_with (go_at_call 16; refine (ck _).mono ?_; rintro e w0 ⟨rfl, hb0⟩; have HB0 : Hid _ := hb0; clear hb0)
        go_ret2
        exact ⟨⟨#[]⟩, Flow.checkErr s, rfl, .inr (.inl ⟨h1, h2, rfl, rfl⟩), HB0.out⟩
end Go.Proofs.Ytdlldljgogbiaaa
