/-
  The program's words of a net.
-/
import Derived.Test.YtdlldljgogbiaabStepOn
import Derived.Test.YtdlldljgogbiaabStuckF
import Derived.Test.YtdlldljgogbiaabPlaysR
import Derived.Test.YtdlldljgogbiaabNetN
namespace Go.Proofs.Ytdlldljgogbiaab
open Go.RowKit
set_option linter.unusedVariables false
set_option maxRecDepth 40000

theorem sea_lowB {w2 : World} {X b A c : Nat} {lb : List Flow.Node} {aV : Option Addr} {cV : Nat} {arr : Array Value} {c0 c1 : Value} (K : Blk w2 X #[c0, c1] 70) (R : SeaRows w2 b A lb aV cV arr) (hX : X < b) (hc : c ≤ X) :
    SeaIn ((w2.setCell ⟨X, 0, none⟩ (.slice aV lb.length cV)).setCell ⟨X, 1, none⟩ (.slice (some ⟨A, 0, none⟩) 65536 65536)) c X lb := by
  refine ⟨aV, cV, A, arr, hc, by have := R.baseA; omega, ?_, ?_, ((R.farR hX 0 _).farR hX 1 _).lower (by omega)⟩
  · intro e; have := (owns_lt R.rV e).1; omega
  · have := (K.set 0 (.slice aV lb.length cV)).set 1 (.slice (some ⟨A, 0, none⟩) 65536 65536)
    simpa using this
theorem sea_newB {w2 : World} {b A c : Nat} {lb : List Flow.Node} {aV : Option Addr} {cV : Nat} {arr : Array Value} (R : SeaRows w2 b A lb aV cV arr) (hc : c ≤ b) (hb : b ≤ w2.heap.size) :
    SeaIn (w2.alloc (.cells (seaC aV lb.length cV A) 70)) c w2.heap.size lb := by
  refine ⟨aV, cV, A, arr, by omega, by have := R.rA.lt; omega, ?_, Blk.new _ _ _, (R.below ((Below.refl _ _).alloc (Nat.le_refl _) _)).lower hc⟩
  intro e; have := (owns_lt R.rV e).2; omega
theorem tk_loud {c : Nat} (h : Flow.isTk c = true) : c ≠ 45 := by
  unfold Flow.isTk at h
  simp at h
  omega

set_option maxHeartbeats 4000000 in
theorem playsWord_any (ts : List Flow.Tr) (x y : Nat) (a : Option Addr) (cap base0 : Nat) (word : ByteArray) (w : World) (hx : x < 256) (hy : y < 256) (hw : word.size ≤ 8) (hiw : Flow.IsWord word) (hts : ∀ t ∈ ts, Flow.Small t) (hlen : ts.length ≤ 16)
    (hown : w.ownsRow base0 135 3 (.slice a ts.length cap) ts.length (cellsF ts)) :
    Calls Try.prog 40 #[.agg (netF x y a ts.length cap), .string word] w fun e w' => ∃ b, e = .returned (.bool b) ∧ (b = true ↔ Flow.Spells ts (Flow.pbit x) (Flow.nats word) (Flow.pbit y)) ∧ Below w.heap.size w w' := by
  have OW : Hid (w.ownsRow base0 135 3 (.slice a ts.length cap) ts.length (cellsF ts)) := hown
  have HT : Hid (∀ t ∈ ts, Flow.Small t) := hts
  have IW : Hid (Flow.IsWord word) := hiw
  have hpb := Flow.pbit_lt y
  have hpx := Flow.pbit_lt x
  have cpx : ∀ W, Calls Try.prog 59 #[.int .u8 x] W fun e w' => e = .returned (.int .i64 (Flow.pbit x)) ∧ W = w' := fun W => (placeBit_any x W hx).mono fun e w' h => ⟨h.1, h.2.symm⟩
  have cpy : ∀ W, Calls Try.prog 59 #[.int .u8 y] W fun e w' => e = .returned (.int .i64 (Flow.pbit y)) ∧ W = w' := fun W => (placeBit_any y W hy).mono fun e w' h => ⟨h.1, h.2.symm⟩
  obtain ⟨M, hM⟩ : ∃ M, M = Flow.pbit x := ⟨_, rfl⟩
  obtain ⟨E, hE⟩ : ∃ E, E = Flow.pbit y := ⟨_, rfl⟩
  rw [← hM] at hpx cpx ⊢
  rw [← hE] at hpb cpy ⊢
  have HM : Hid (M < 65536) := hpx
  have HE : Hid (E < 65536) := hpb
  have c1 := fun c W ho => labelled_any ts a cap base0 c W hlen ho
  have HL : Hid (ts.length ≤ 16) := hlen
  have LQ : Hid ((Flow.labelled ts 45).length ≤ 16) := Nat.le_trans (labelled_le ts 45) hlen
  have c2 := fun a' cap' b' W ho => exploreS_any (Flow.labelled ts 45) a' cap' M b' W HM.out (labelled_small 45 HT.out) LQ.out ho
  clear hown hts hiw hM hE hpx hpb hx hy
  go_enter Try.func40, Try.ntmps40
  have n0 : (w.alloc (.cells (netF x y a ts.length cap) 64)).cell? ⟨w.heap.size, 0, none⟩ = some (.int .u8 x) := (Blk.new w _ _).cell 0
  have n1 : (w.alloc (.cells (netF x y a ts.length cap) 64)).cell? ⟨w.heap.size, 1, none⟩ = some (.int .u8 y) := (Blk.new w _ _).cell 1
  have n2 : (w.alloc (.cells (netF x y a ts.length cap) 64)).cell? ⟨w.heap.size, 2, none⟩ = some (.slice a ts.length cap) := (Blk.new w _ _).cell 2
  have K0 : Hid (Blk (w.alloc (.cells (netF x y a ts.length cap) 64)) w.heap.size (netF x y a ts.length cap) 64) := Blk.new w _ _
  have OW1 : Hid ((w.alloc (.cells (netF x y a ts.length cap) 64)).ownsRow base0 135 3 (.slice a ts.length cap) ts.length (cellsF ts)) := OW.out.alloc _
  have E1 : Hid (Below w.heap.size w (w.alloc (.cells (netF x y a ts.length cap) 64))) := (Below.refl _ _).alloc (Nat.le_refl _) _
  have z0 : w.heap.size < (w.alloc (.cells (netF x y a ts.length cap) 64)).heap.size := by simp
  go_wp2_with (fail)
  generalize w.alloc (.cells (netF x y a ts.length cap) 64) = V at n0 n1 n2 K0 OW1 E1 z0 ⊢
  go_wp2_with (first
    | (go_at_call 69; refine (c1 45 _ OW1.out).mono ?_; rintro e w1 ⟨aq, cq, rfl, hoq, hbq⟩; have OQ : Hid (w1.ownsRow _ 135 3 (.slice aq (Flow.labelled ts 45).length cq) (Flow.labelled ts 45).length (cellsF (Flow.labelled ts 45))) := hoq; have BQ : Hid (Below V.heap.size V w1) := hbq; have m0 : w1.cell? ⟨w.heap.size, 0, none⟩ = some (.int .u8 x) := (hbq.cell (p := ⟨w.heap.size, 0, none⟩) z0).trans n0; have z1 : w.heap.size < w1.heap.size := Nat.lt_of_lt_of_le z0 hbq.size; clear hoq hbq)
    | (go_at_call 59; refine (cpx _).mono ?_; rintro e w' ⟨rfl, rfl⟩)
    | (go_at_call 33; refine (c2 _ _ _ _ OQ.out).mono ?_; rintro e w2 ⟨aV, cV, A, lb, arr, rfl, hsp, hfi, hrows, hb2⟩; have RW : Hid (SeaRows w2 w1.heap.size A lb aV cV arr) := hrows; have SP : Hid (Flow.Spread (Flow.labelled ts 45) [⟨M, -1, -1⟩] lb) := hsp; have FI : Hid (Flow.Fine lb) := hfi; have B2 : Hid (Below w1.heap.size w1 w2) := hb2; clear hsp hfi hrows hb2))
  have KN : Hid (Blk w1 w.heap.size (netF x y a ts.length cap) 64) := K0.out.below BQ.out z0
  have OWt : Hid (w1.ownsRow base0 135 3 (.slice a ts.length cap) ts.length (cellsF ts)) := owns_below OW1.out BQ.out (Nat.le_refl _)
  have E2 : Hid (Below w.heap.size w w1) := E1.out.trans (BQ.out.mono (by omega))
  have I0 : Hid (SeaS (w2.alloc (.cells (seaC aV lb.length cV A) 70)) (fun g => g < w1.heap.size) w2.heap.size lb) := (sea_newB (c := w1.heap.size) RW.out (Nat.le_refl _) B2.out.size).seaS (fun k hk => hk)
  have B3 : Hid (Below w1.heap.size w1 (w2.alloc (.cells (seaC aV lb.length cV A) 70))) := B2.out.alloc B2.out.size _
  have P0 : Hid (∀ m, m ∈ Flow.marks lb ↔ Flow.Spells ts M ((Flow.nats word).take 0) m) := fun m => plays_first SP.out m
  have zX : Hid (w1.heap.size ≤ w2.heap.size) := B2.out.size
  generalize w2.alloc (.cells (seaC aV lb.length cV A) 70) = V2 at I0 B3 ⊢
  generalize w2.heap.size = X at I0 zX ⊢
  clear c2 n0 n1 n2 K0 OW1 E1 RW SP B2 m0 BQ z0
  go_loopw [7] (fun i' wr => ∃ (i : Nat) (l : List Flow.Node), i ≤ word.size ∧ i' = .int .i64 i ∧ Hid (SeaS wr (fun g => g < w1.heap.size) X l) ∧ Hid (Flow.Fine l) ∧ Hid (∀ m, m ∈ Flow.marks l ↔ Flow.Spells ts M ((Flow.nats word).take i) m) ∧ Hid (Below w1.heap.size w1 wr)) (fun i' _ => word.size - (intOf i').toNat)
  case atStart => exact ⟨0, lb, by omega, rfl, I0, FI, P0, B3⟩
  case round =>
    clear I0 FI P0 B3
    obtain ⟨i, l, hil, rfl, IN, FN, PL, HW⟩ := hrel
    have hz := HW.out.size
    have KR : Hid (Blk wr w.heap.size (netF x y a ts.length cap) 64) := KN.out.below HW.out z1
    have OWr : Hid (wr.ownsRow base0 135 3 (.slice a ts.length cap) ts.length (cellsF ts)) := owns_below OWt.out HW.out (Nat.le_refl _)
    have r1 : wr.cell? ⟨w.heap.size, 1, none⟩ = some (.int .u8 y) := KR.out.cell 1
    have r2 : wr.cell? ⟨w.heap.size, 2, none⟩ = some (.slice a ts.length cap) := KR.out.cell 2
    have zr := KR.out.lt
    by_cases hlt : i < word.size
    · have HB : Hid (word[i].toNat = Flow.bt word i) := Flow.bt_at hlt
      have NT : Hid ((Flow.nats word).take (i + 1) = (Flow.nats word).take i ++ [word[i].toNat]) := nats_take hlt
      have LD : Hid (word[i].toNat ≠ 45) := by
        show _ ≠ _
        rw [HB.out]; exact tk_loud (IW.out i hlt)
      obtain ⟨c, hc⟩ : ∃ c, c = word[i].toNat := ⟨_, rfl⟩
      have HC : Hid (c = word[i].toNat) := hc
      rw [← hc] at NT LD
      have hI0 : (0 : Int) ≤ (i : Int) := by omega
      have hI1 : (i : Int) < (word.size : Int) := by omega
      have cl : ∀ W, W.ownsRow base0 135 3 (.slice a ts.length cap) ts.length (cellsF ts) → Calls Try.prog 69 #[.slice a ts.length cap, .int .u8 (word[i].toNat : Int)] W fun e w' => ∃ a' cap', e = .returned (.slice a' (Flow.labelled ts c).length cap') ∧ w'.ownsRow W.heap.size 135 3 (.slice a' (Flow.labelled ts c).length cap') (Flow.labelled ts c).length (cellsF (Flow.labelled ts c)) ∧ Below W.heap.size W w' := fun W ho => by
        rw [← hc]; exact c1 c W ho
      have LC : Hid ((Flow.labelled ts c).length ≤ 16) := Nat.le_trans (labelled_le ts c) HL.out
      clear hc
      go_wp2
      go_region_with (go_at_call 69; refine (cl _ (OWr.out.drew)).mono ?_; rintro e w3 ⟨aS, cS, rfl, hoS, hbS⟩; have OS : Hid (w3.ownsRow wr.heap.size 135 3 (.slice aS (Flow.labelled ts c).length cS) (Flow.labelled ts c).length (cellsF (Flow.labelled ts c))) := hoS; have BS : Hid (Below wr.heap.size wr w3) := (Below.refl _ _).drew.trans hbS; clear hoS hbS)
      all_goals
        have IN3 : Hid (SeaS w3 (fun g => g < w1.heap.size ∨ obk aS = some g) X l) := IN.out.more BS.out (fun k hk => hk.imp id (fun h => (owns_lt OS.out h).1))
        have hz3 := BS.out.size
        have T3 : Hid (∀ g, (g < w1.heap.size ∨ obk aS = some g) → g < w3.heap.size) := by
          rintro g (hg | hg)
          · omega
          · exact (owns_lt OS.out hg).2
        have OQ3 : Hid (w3.ownsRow V.heap.size 135 3 (.slice aq (Flow.labelled ts 45).length cq) (Flow.labelled ts 45).length (cellsF (Flow.labelled ts 45))) := owns_below (owns_below OQ.out HW.out (Nat.le_refl _)) BS.out (Nat.le_refl _)
        have HW3 : Hid (Below w1.heap.size w1 w3) := HW.out.trans (BS.out.mono hz)
        have QL : Hid (∀ g, obk aq = some g → g < w1.heap.size) := fun g hg => (owns_lt OQ.out hg).2
        go_wp2_with (first
          | (go_at_call 70; refine (stepOn_any (Flow.labelled ts c) (fun g => g < w1.heap.size ∨ obk aS = some g) aS cS wr.heap.size X l w3 (labelled_small c HT.out) LC.out FN.out T3.out (fun g hg => .inr hg) OS.out IN3.out).mono ?_; rintro e w4 ⟨rfl, hin, hkp⟩; have IN4 : Hid (SeaS w4 (fun g => g < w1.heap.size) X (Flow.stepTo (Flow.labelled ts c) l l.length)) := hin.more (Below.refl _ _) (fun k hk => .inl (.inl hk)); have B4 : Hid (Below w1.heap.size w3 w4) := hkp.below (fun k hk => .inl hk); clear hin hkp)
          | (go_at_call 58; refine (spread_any (Flow.labelled ts 45) (fun g => g < w1.heap.size) aq cq V.heap.size X (Flow.stepTo (Flow.labelled ts c) l l.length) w4 (labelled_small 45 HT.out) LQ.out (stepTo_fine (labelled_small c HT.out) FN.out _) (fun g hg => by have := B4.out.size; omega) QL.out (owns_kept OQ3.out (S := fun g => g < w1.heap.size) (Kept.of_below B4.out (fun k hk => hk)) QL.out) IN4.out).mono ?_; rintro e w5 ⟨l', rfl, hsp, hfi, hin, hkp⟩; have IN5 : Hid (SeaS w5 (fun g => g < w1.heap.size) X l') := hin; have FN5 : Hid (Flow.Fine l') := hfi; have HW5 : Hid (Below w1.heap.size w1 w5) := (HW3.out.trans B4.out).trans (hkp.below (fun k hk => hk)); have PL5 : Hid (∀ m, m ∈ Flow.marks l' ↔ Flow.Spells ts M ((Flow.nats word).take (i + 1)) m) := (fun m => by rw [NT.out]; exact plays_next LD.out PL.out hsp m); clear hsp hfi hin hkp))
      all_goals go_roundw
      all_goals (first | (simp [intOf]; omega) | exact ⟨i + 1, l', by omega, by go_num, IN5, FN5, PL5, HW5⟩)
    · obtain rfl : i = word.size := by omega
      have ch := has_any l 0 X E wr HE.out (IN.out.sea (fun k hk => by omega))
      have PF : Hid ((decide (0 ≤ atI l E)) = true ↔ Flow.Spells ts M (Flow.nats word) E) := by
        show _ ↔ _
        rw [decide_eq_true_iff, marks_at, PL.out E, nats_all]
      clear c1
      go_wp2_with (first
        | (go_at_call 59; refine (cpy _).mono ?_; rintro e w' ⟨rfl, rfl⟩)
        | (go_at_call 71; refine ch.mono ?_; rintro e w' ⟨rfl, rfl⟩))
      go_ret
      exact ⟨_, rfl, PF.out, E2.out.trans (HW.out.mono (by have := E2.out.size; omega))⟩
end Go.Proofs.Ytdlldljgogbiaab
