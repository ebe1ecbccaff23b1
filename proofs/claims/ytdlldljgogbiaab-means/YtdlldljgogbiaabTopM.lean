/-
  Laid as one: CplI, AgrP, SpeltR, EndedR, Wish, MeansP, InR, FinF.
-/
import Derived.Test.YtdlldljgogbiaabCplM
import Derived.Test.YtdlldljgogbiaabNetM
import Derived.Test.YtdlldljgogbiaabAccM
import Derived.Test.YtdlldljgogbiaabReadP
import Derived.Test.YtdlldljgogbiaabWordM
import Derived.Test.YtdlldljgogbiaabFireR
import Derived.Test.YtdlldljgogbiaabRunR
import Derived.Test.YtdlldljgogbiaabPlayR
import Derived.Laws.Cover1
import Derived.Test.YtdlldljgogbiaabScanR
import Derived.Test.YtdlldljgogbiaabNatsR
import Derived.Laws.Concat
import Derived.Test.YtdlldljgogbiaabStepM
import Derived.Test.YtdlldljgogbiaabJudgeR
import Derived.Test.YtdlldljgogbiaabFire
namespace Go.Proofs.Ytdlldljgogbiaab
open Go.RowKit
set_option linter.unusedVariables false
set_option maxRecDepth 40000

theorem cpl_pop {w : World} {S : Nat → Prop} {B : Nat} {aT aG : Option Addr} {cT cG : Nat} {T : List Nat} {k : Nat} {G : List (Nat × Nat)} {p : Nat × Nat} (h : CplA w S B aT cT aG cG T k (G ++ [p])) : Cpl (w.setCell ⟨B, 2, none⟩ (.slice aG G.length cG)) S B T k G := by
  have rG := h.rG
  rw [List.length_append, cellsG_snoc] at rG
  refine ⟨aT, cT, aG, cG, h.low, h.lowT, h.lowG, h.nT, h.nG, h.apart, ?_, owns_far h.rT (by rw [ownBlock_slice]; exact h.nT) _, owns_far (owns_pop rG (cellsG_len G)) (by rw [ownBlock_slice]; exact h.nG) _⟩
  have := h.blk.set 2 (.slice aG G.length cG)
  simpa using this
/-- gaps as the program holds them -/
def bytesG (Gt : List (Nat × Nat)) : List (Nat × Nat) := (Gt.map fun p => (65 + p.1, 65 + p.2)).reverse
theorem bytesG_cons (a b : Nat) (R : List (Nat × Nat)) : bytesG ((a, b) :: R) = bytesG R ++ [(65 + a, 65 + b)] := by simp [bytesG]
theorem bytesG_len (R : List (Nat × Nat)) : (bytesG R).length = R.length := by simp [bytesG]
theorem lay_fin {s : ByteArray} {i a b k : Nat} {R : List (Nat × Nat)} {T Tl : List Nat} (hi : i < s.size) (hT : SufAt s i Tl) (hl : Tl.length = R.length + 1) :
    ∃ Gt, laidG (Flow.bt s i) (65 + a) (65 + b) k (bytesG R) = bytesG Gt ∧ fin s Gt (i + 1) (laidK (Flow.bt s i) k) (laidT (Flow.bt s i) (65 + a) (65 + b) k T) = fin s ((a, b) :: R) i k T ∧ Gt.length ≤ R.length + 2 ∧ ∃ Tl', SufAt s (i + 1) Tl' ∧ Tl'.length = Gt.length := by
  obtain ⟨T', rfl, hok, hc⟩ := sufRead hi hT
  have hl' : T'.length = R.length := by simpa using hl
  rcases hc with ⟨hc, h1⟩ | ⟨hc, h1⟩ | ⟨hc, h1⟩
  · have ht := Flow.isTk_iff.1 hc
    refine ⟨R, by unfold laidG; rw [if_neg (by omega), if_neg (by omega), if_neg (by omega), if_neg (by omega)], ?_, by omega, T', h1, hl'⟩
    rw [fin_task hok hc]
    have e1 : laidK (Flow.bt s i) k = k := by unfold laidK; rw [if_neg (by omega), if_neg (by omega)]
    have e2 : laidT (Flow.bt s i) (65 + a) (65 + b) k T = T ++ [59, Flow.bt s i, 65 + a, 62, 65 + b] := by unfold laidT; rw [if_neg (by omega), if_neg (by omega), if_neg (by omega)]
    rw [e1, e2]
  · refine ⟨(k, k) :: R, by rw [bytesG_cons, hc]; simp [laidG], ?_, by simp, _, h1, by simp [hl']⟩
    rw [fin_star hok hc, hc]
    simp [laidK, laidT]
  · rcases hc with hc | hc | hc
    · refine ⟨(a, k) :: (k, b) :: R, by rw [bytesG_cons, bytesG_cons, hc]; simp [laidG], ?_, by simp, _, h1, by simp [hl']⟩
      rw [fin_seq hok hc, hc]
      simp [laidK, laidT]
    · refine ⟨(a, b) :: (a, b) :: R, by rw [bytesG_cons, bytesG_cons, hc]; simp [laidG], ?_, by simp, _, h1, by simp [hl']⟩
      rw [fin_alt hok hc, hc]
      simp [laidK, laidT]
    · refine ⟨(k, k + 2) :: (k + 1, k + 3) :: R, by rw [bytesG_cons, bytesG_cons, hc]; simp [laidG], ?_, by simp, _, h1, by simp [hl']⟩
      rw [fin_par hok hc, hc]
      simp [laidK, laidT]
theorem laidK_le (c k : Nat) : laidK c k ≤ k + 4 := by unfold laidK; split; omega; split <;> omega
theorem laidT_le (c x y k : Nat) (T : List Nat) : (laidT c x y k T).length ≤ T.length + 12 := by
  unfold laidT
  split
  · omega
  · split
    · simp
    · split <;> simp
theorem cellsC_B {T : List Nat} (h : ∀ c ∈ T, c < 256) : cellsC T = cellsB (T.map UInt8.ofNat) := by
  unfold cellsC cellsB
  rw [List.map_map]
  apply List.map_congr_left
  intro c hc
  show Value.int .u8 (c : Int) = .int .u8 ((UInt8.ofNat c).toNat : Int)
  rw [UInt8.toNat_ofNat_of_lt' (h c hc)]
/-- the text of bytes -/
def textOf (T : List Nat) : ByteArray := ⟨(T.map UInt8.ofNat).toArray⟩
theorem nats_textOf {T : List Nat} (h : ∀ c ∈ T, c < 256) : Flow.nats (textOf T) = T := by
  unfold Flow.nats textOf
  show (T.map UInt8.ofNat).map UInt8.toNat = T
  rw [List.map_map]
  have : ∀ c ∈ T, (UInt8.toNat ∘ UInt8.ofNat) c = id c := fun c hc => UInt8.toNat_ofNat_of_lt' (h c hc)
  rw [List.map_congr_left this, List.map_id]

set_option maxHeartbeats 4000000 in
theorem compileProcess_any (s : ByteArray) (w : World) (hs : s.size ≤ 8) (hok : (Flow.scan s 0).2.2 = true) (hend : (Flow.scan s 0).1 = s.size) (hby : ∀ c ∈ netB (comp s 0 0 1 2).1, c < 256) :
    Calls Try.prog 20 #[.string s] w fun e w' => e = .returned (.string (textOf (netB (comp s 0 0 1 2).1))) ∧ Below w.heap.size w w' := by
  obtain ⟨i0, hi, hz0, hz1, hz2⟩ := info_parts Try.infoB
  have BY : Hid (∀ c ∈ netB (comp s 0 0 1 2).1, c < 256) := hby
  have SU0 : Hid (∃ Tl, SufAt s 0 Tl ∧ Tl.length = ([(0, 1)] : List (Nat × Nat)).length) := ⟨[0], ⟨rfl, hok, hend⟩, rfl⟩
  have FN0 : Hid (fin s [(0, 1)] 0 2 [65, 66] = netB (comp s 0 0 1 2).1) := fin_start s
  generalize netB (comp s 0 0 1 2).1 = FT at BY FN0 ⊢
  have C0 : Hid (Cpl (w.alloc (.cells #[.slice none 0 0, .int .i64 0, .slice none 0 0] 82)) (fun i => i < w.heap.size) w.heap.size [] 0 []) := ⟨none, 0, none, 0, by omega, by simp [obk], by simp [obk], by simp [obk], by simp [obk], by simp [obk], Blk.new _ _ _, World.ownsRow_nil _ _ _ _, World.ownsRow_nil _ _ _ _⟩
  have S0 : Hid (∀ i, i < w.heap.size → i < (w.alloc (.cells #[.slice none 0 0, .int .i64 0, .slice none 0 0] 82)).heap.size) := by intro i hi; simp; omega
  have E0 : Hid (Kept (fun i => i < w.heap.size) w (w.alloc (.cells #[.slice none 0 0, .int .i64 0, .slice none 0 0] 82))) := (Kept.refl _ _).alloc (fun i hi => hi) _
  have cn0 : ∀ W, Cpl W (fun i => i < w.heap.size) w.heap.size [] 0 [] → Calls Try.prog 42 #[.pointer (some ⟨w.heap.size, 0, none⟩)] W fun e w' => e = .returned (.int .u8 65) ∧ Cpl w' (fun i => i < w.heap.size) w.heap.size [] 1 [] ∧ Kept (fun i => i < w.heap.size) W w' := fun W hW => newPlace_any [] 0 [] _ _ W (by omega) hW
  have cn1 : ∀ W, Cpl W (fun i => i < w.heap.size) w.heap.size [] 1 [] → Calls Try.prog 42 #[.pointer (some ⟨w.heap.size, 0, none⟩)] W fun e w' => e = .returned (.int .u8 66) ∧ Cpl w' (fun i => i < w.heap.size) w.heap.size [] 2 [] ∧ Kept (fun i => i < w.heap.size) W w' := fun W hW => newPlace_any [] 1 [] _ _ W (by omega) hW
  have co : ∀ W, (∀ i, i < w.heap.size → i < W.heap.size) → Cpl W (fun i => i < w.heap.size) w.heap.size [65, 66] 2 [] → Calls Try.prog 43 #[.pointer (some ⟨w.heap.size, 0, none⟩), .int .u8 65, .int .u8 66] W fun e w' => e = .returned (.tuple #[]) ∧ Cpl w' (fun i => i < w.heap.size) w.heap.size [65, 66] 2 ([] ++ [(65, 66)]) ∧ Kept (fun i => i < w.heap.size) W w' := fun W hs hW => open_any [65, 66] 2 [] 65 66 _ _ W (by simp) hs hW
  have tok : True := trivial
  clear hok hend hby
  go_enter Try.func20, Try.ntmps20
  go_wp2_with (first
    | (go_at_call 42; have _t := tok; refine (cn0 _ C0.out).mono ?_; rintro e w1 ⟨rfl, hc, hk1⟩; have C1 : Hid (Cpl w1 (fun i => i < w.heap.size) w.heap.size [] 1 []) := hc; have E1 : Hid (Kept (fun i => i < w.heap.size) w w1) := E0.out.trans hk1; clear hc hk1 tok)
    | (go_at_call 42; refine (cn1 _ C1.out).mono ?_; rintro e w2 ⟨rfl, hc, hk1⟩; have E2 : Hid (Kept (fun i => i < w.heap.size) w w2) := E1.out.trans hk1; have S2 : Hid (∀ i, i < w.heap.size → i < w2.heap.size) := (fun i hi => Nat.lt_of_lt_of_le hi E2.out.size); obtain ⟨aT, cT, aG, cG, ca⟩ := hc; have CA : Hid (CplA w2 (fun i => i < w.heap.size) w.heap.size aT cT aG cG [] 2 []) := ca; have RT : Hid (w2.ownsRow 0 5 1 (.slice aT 0 cT) 0 []) := ca.rT; have x0 : w2.cell? ⟨w.heap.size, 0, none⟩ = some (.slice aT 0 cT) := ca.blk.cell 0; have zB := ca.blk.lt; clear ca hk1)
    | (at_builtin; go_must (refine wpList_append_lies _ rfl _ _ 73 rfl 0 5 i0 (.int .u8 0) 1 1 Try.underlying73 hi hz0 hz1 hz2 rfl (by decide) (.slice aT 0 cT) _ _ rfl (RT.out.alloc _) ⟨w2.heap.size, 0, none⟩ 2 2 [.int .u8 65, .int .u8 66] rfl rfl (World.news_of_block (cs := #[.int .u8 65, .int .u8 66]) (Blk.new w2 _ _)) (fun x hx => by simp at hx; rcases hx with rfl | rfl <;> rfl) (by decide) (by unfold maxLen; omega) (by omega) (by simp) _ rfl ?_; intro g1 c1 w3 own1 gr1 at1 lt1; rw [ownBlock_slice] at gr1 at1; obtain ⟨x3, f3, z3, F1, F2⟩ := cpl_text (N := [65, 66]) CA.out ((Below.refl _ _).alloc (Nat.le_refl _) _) S2.out gr1 at1 own1; have C3 : Hid (Cpl (w3.setCell ⟨w.heap.size, 0, none⟩ (.slice (some ⟨g1, 0, none⟩) 2 c1)) (fun i => i < w.heap.size) w.heap.size [65, 66] 2 []) := F1; have E3 : Hid (Kept (fun i => i < w.heap.size) w (w3.setCell ⟨w.heap.size, 0, none⟩ (.slice (some ⟨g1, 0, none⟩) 2 c1))) := E2.out.trans F2; have S3 : Hid (∀ i, i < w.heap.size → i < (w3.setCell ⟨w.heap.size, 0, none⟩ (.slice (some ⟨g1, 0, none⟩) 2 c1)).heap.size) := (fun i hi => Nat.lt_of_lt_of_le hi E3.out.size); clear gr1 own1 at1 lt1 F1 F2))
    | (go_at_call 43; refine (co _ S3.out C3.out).mono ?_; rintro e w4 ⟨rfl, hc, hk1⟩; have C4 : Hid (Cpl w4 (fun i => i < w.heap.size) w.heap.size [65, 66] 2 (bytesG [(0, 1)])) := hc; have E4 : Hid (Kept (fun i => i < w.heap.size) w w4) := E3.out.trans hk1; clear hc hk1))
  clear C0 S0 E0 cn0 cn1 co C1 E1 E2 S2 CA RT x0 zB x3 f3 z3 C3 E3 S3 hi hz0 hz1 hz2
  go_loopw [6] (fun i' wr => ∃ (i k : Nat) (T : List Nat) (Gt : List (Nat × Nat)), i ≤ s.size ∧ i' = .int .i64 i ∧ k ≤ 2 + 4 * i ∧ T.length ≤ 2 + 12 * i ∧ Gt.length ≤ 1 + 2 * i ∧ Hid (fin s Gt i k T = FT) ∧ Hid (∃ Tl, SufAt s i Tl ∧ Tl.length = Gt.length) ∧ Hid (Cpl wr (fun i => i < w.heap.size) w.heap.size T k (bytesG Gt)) ∧ Hid (Kept (fun i => i < w.heap.size) w wr)) (fun i' _ => s.size - (intOf i').toNat)
  case atStart => exact ⟨0, 2, [65, 66], [(0, 1)], by omega, rfl, by omega, by simp, by simp, FN0, SU0, C4, E4⟩
  case round =>
    clear C4 E4 FN0 SU0
    obtain ⟨i, k, T, Gt, hil, rfl, hk, hTl, hGl, FN, SU, CP, HW⟩ := hrel
    obtain ⟨aT, cT, aG, cG, ca⟩ := CP.out
    have x2 : wr.cell? ⟨w.heap.size, 2, none⟩ = some (.slice aG (bytesG Gt).length cG) := ca.blk.cell 2
    have x0 : wr.cell? ⟨w.heap.size, 0, none⟩ = some (.slice aT T.length cT) := ca.blk.cell 0
    have zB := ca.blk.lt
    by_cases hlt : i < s.size
    · obtain ⟨Tl, hT1, hT2⟩ := SU.out
      cases Gt with
      | nil =>
        obtain ⟨T', e, _⟩ := suf_head hlt hT1
        rw [e] at hT2; simp at hT2
      | cons p R =>
        obtain ⟨a, b⟩ := p
        obtain ⟨Gt', g1, g2, g3, g4⟩ := lay_fin (a := a) (b := b) (k := k) (T := T) (R := R) hlt hT1 (by simpa using hT2)
        rw [bytesG_cons] at ca x2
        have hLk := laidK_le (Flow.bt s i) k
        have hLT := laidT_le (Flow.bt s i) (65 + a) (65 + b) k T
        have bl := bytesG_len R
        simp at hGl
        have CPp : Hid (∀ W, Below wr.heap.size wr W → Cpl (W.setCell ⟨w.heap.size, 2, none⟩ (.slice aG (bytesG R).length cG)) (fun i => i < w.heap.size) w.heap.size T k (bytesG R)) := fun W hW => cpl_pop (ca.below hW)
        have rg := ca.rG
        rw [List.length_append, cellsG_snoc] at rg
        rw [List.length_append] at x2
        replace x2 : wr.cell? ⟨w.heap.size, 2, none⟩ = some (.slice aG ((bytesG R).length + 1) cG) := x2
        have hcap := owns_cap rg
        obtain ⟨g, cx, hv, _, hg2⟩ := rg.form (by simp)
        injection hv with e1 _ e3
        subst e1 e3
        have d0 := rg.cellAt ((bytesG R).length * 2) (by simp)
        have d1 := rg.cellAt ((bytesG R).length * 2 + 1) (by simp; omega)
        rw [List.getElem?_append_right (by rw [cellsG_len]; omega), cellsG_len] at d0 d1
        have z0 : (bytesG R).length * 2 - (bytesG R).length * 2 = 0 := by omega
        have z1 : (bytesG R).length * 2 + 1 - (bytesG R).length * 2 = 1 := by omega
        rw [z0] at d0
        rw [z1] at d1
        simp only [List.getElem?_cons_zero, List.getElem?_cons_succ] at d0 d1
        have y2 := ca.blk.froz 2
        have cl : ∀ W, (∀ i, i < w.heap.size → i < W.heap.size) → Cpl W (fun i => i < w.heap.size) w.heap.size T k (bytesG R) → Calls Try.prog 44 #[.pointer (some ⟨w.heap.size, 0, none⟩), .int .u8 (s[i].toNat : Int), .agg #[.int .u8 ((65 + a : Nat) : Int), .int .u8 ((65 + b : Nat) : Int)]] W fun e w' => e = .returned (.tuple #[]) ∧ Cpl w' (fun i => i < w.heap.size) w.heap.size (laidT (Flow.bt s i) (65 + a) (65 + b) k T) (laidK (Flow.bt s i) k) (bytesG Gt') ∧ Kept (fun i => i < w.heap.size) W w' := fun W hs2 hW => by
          rw [Flow.bt_at hlt, ← g1]
          exact lay_any (Flow.bt s i) T k (bytesG R) (65 + a) (65 + b) _ _ W (by omega) (by omega) (by omega) hs2 hW
        have FN2 : Hid (fin s Gt' (i + 1) (laidK (Flow.bt s i) k) (laidT (Flow.bt s i) (65 + a) (65 + b) k T) = FT) := g2.trans FN.out
        have SU2 : Hid (∃ Tl, SufAt s (i + 1) Tl ∧ Tl.length = Gt'.length) := g4
        generalize laidT (Flow.bt s i) (65 + a) (65 + b) k T = T2 at cl FN2 hLT
        generalize laidK (Flow.bt s i) k = k2 at cl FN2 hLk
        obtain ⟨xa, hxa⟩ : ∃ xa, xa = 65 + a := ⟨_, rfl⟩
        obtain ⟨xb, hxb⟩ : ∃ xb, xb = 65 + b := ⟨_, rfl⟩
        have d0' : wr.cell? ⟨g, (bytesG R).length * 2, none⟩ = some (.int .u8 (xa : Int)) := by rw [hxa]; exact d0
        have d1' : wr.cell? ⟨g, (bytesG R).length * 2 + 1, none⟩ = some (.int .u8 (xb : Int)) := by rw [hxb]; exact d1
        rw [← hxa, ← hxb] at cl
        generalize hL : (bytesG R).length = L at x2 CPp d0' d1' bl
        have hcl : cG ≤ 2 ^ 63 - 1 := hcap.2
        have hlc : L + 1 ≤ cG := by have := hcap.1; simp at this; omega
        have hI0 : (0 : Int) ≤ (i : Int) := by omega
        have hI1 : (i : Int) < (s.size : Int) := by omega
        have hJ0 : (0 : Int) ≤ (L : Int) := by omega
        have hJ1 : (L : Int) < (L : Int) + 1 := by omega
        have hL8 : L ≤ 100 := by omega
        have BIN : Hid (i + 1 ≤ s.size ∧ k2 ≤ 2 + 4 * (i + 1) ∧ T2.length ≤ 2 + 12 * (i + 1) ∧ Gt'.length ≤ 1 + 2 * (i + 1)) := ⟨by omega, by omega, by omega, by omega⟩
        clear ca rg d0 d1 z0 z1 hcap g1 g2 g3 g4 hT1 hT2 SU FN CP hL hxa hxb hLk hLT hk hTl hGl bl
        have C5 : Hid (Cpl ((wr.setCell ⟨w.heap.size, 2, none⟩ (.slice (some ⟨g, 0, none⟩) L cG)).alloc (.cells #[.int .u8 (xa : Int), .int .u8 (xb : Int)] 86)) (fun i => i < w.heap.size) w.heap.size T k (bytesG R)) := (CPp.out wr (Below.refl _ _)).below ((Below.refl _ _).alloc (Nat.le_refl _) _)
        have K5 : Hid (Kept (fun i => i < w.heap.size) w ((wr.setCell ⟨w.heap.size, 2, none⟩ (.slice (some ⟨g, 0, none⟩) L cG)).alloc (.cells #[.int .u8 (xa : Int), .int .u8 (xb : Int)] 86))) := (HW.out.setCell (p := ⟨w.heap.size, 2, none⟩) (by show ¬ w.heap.size < w.heap.size; omega) _).alloc (fun j hj => by have h1 := HW.out.size; have h2 : j < w.heap.size := hj; have h3 := ((Below.refl 0 wr).setCell (p := ⟨w.heap.size, 2, none⟩) (Nat.zero_le _) (.slice (some ⟨g, 0, none⟩) L cG)).size; omega) _
        have S5 : Hid (∀ j, j < w.heap.size → j < ((wr.setCell ⟨w.heap.size, 2, none⟩ (.slice (some ⟨g, 0, none⟩) L cG)).alloc (.cells #[.int .u8 (xa : Int), .int .u8 (xb : Int)] 86)).heap.size) := fun j hj => Nat.lt_of_lt_of_le hj K5.out.size
        have C5d : Hid (Cpl ((wr.setCell ⟨w.heap.size, 2, none⟩ (.slice (some ⟨g, 0, none⟩) L cG)).alloc (.cells #[.int .u8 (xa : Int), .int .u8 (xb : Int)] 86)).drew (fun i => i < w.heap.size) w.heap.size T k (bytesG R)) := C5.out.below (Below.refl _ _).drew
        have S5d : Hid (∀ j, j < w.heap.size → j < ((wr.setCell ⟨w.heap.size, 2, none⟩ (.slice (some ⟨g, 0, none⟩) L cG)).alloc (.cells #[.int .u8 (xa : Int), .int .u8 (xb : Int)] 86)).drew.heap.size) := fun j hj => S5.out j hj
        have K5d : Hid (Kept (fun i => i < w.heap.size) w ((wr.setCell ⟨w.heap.size, 2, none⟩ (.slice (some ⟨g, 0, none⟩) L cG)).alloc (.cells #[.int .u8 (xa : Int), .int .u8 (xb : Int)] 86)).drew) := K5.out.drew
        clear CPp HW C5 S5 K5
        go_wp2
        go_region_with (go_at_call 44; go_loud (refine (cl _ S5d.out C5d.out).mono ?_; rintro e w6 ⟨rfl, hc, hk1⟩; have C6 : Hid (Cpl w6 (fun i => i < w.heap.size) w.heap.size T2 k2 (bytesG Gt')) := hc; have K6 : Hid (Kept (fun i => i < w.heap.size) w w6) := K5d.out.trans hk1; clear hc hk1))
        all_goals go_wp2
        all_goals go_roundw
        all_goals (first | (simp [intOf]; omega) | exact ⟨i + 1, k2, T2, Gt', BIN.out.1, by go_num, BIN.out.2.1, BIN.out.2.2.1, BIN.out.2.2.2, FN2, SU2, C6, K6⟩)
    · obtain rfl : i = s.size := by omega
      obtain ⟨Tl, hT1, hT2⟩ := SU.out
      have hTl0 : Tl = [] := suf_unique hT1 rfl
      subst hTl0
      have hG0 : Gt = [] := List.eq_nil_of_length_eq_zero hT2.symm
      subst hG0
      have hTF : T = FT := FN.out
      subst hTF
      have hcv := string_of_owned (w := wr) (base := 0) (a := aT) (cap := cT) (T.map UInt8.ofNat) (by rw [List.length_map, ← cellsC_B BY.out]; exact ca.rT)
      rw [List.length_map] at hcv
      have E : Hid (Below w.heap.size w wr) := HW.out.below (fun i hi => hi)
      have ET : Hid ((⟨(T.map UInt8.ofNat).toArray⟩ : ByteArray) = textOf T) := rfl
      generalize (⟨(T.map UInt8.ofNat).toArray⟩ : ByteArray) = TX at hcv ET
      clear ca hT1 hT2 FN SU CP HW x2
      go_wp2
      go_ret
      exact ⟨by rw [← ET.out]; rfl, E.out⟩

/-- what Compile answers -/
def CompilePost (s : ByteArray) (w : World) (en : Ending) (w' : World) : Prop :=
  (∃ e p : Nat, en = .returned (.tuple #[.string ⟨#[]⟩, .int .i64 e, .int .i64 p]) ∧ e = Flow.readE s ∧ p = Flow.readP s ∧ e ≠ 0 ∧ Below w.heap.size w w') ∨
  (∃ T : ByteArray, en = .returned (.tuple #[.string T, .int .i64 0, .int .i64 0]) ∧ Flow.readE s = 0 ∧ Flow.readP s = 0 ∧ T.size ≤ 160 ∧ Flow.checkErr T = 0 ∧ (∀ u, Flow.Spells (Flow.readTr T) (Flow.first T) u (Flow.lastQ T) ↔ Flow.Has s 0 u) ∧ (∀ l v t, Flow.Bfs (Flow.readTr T) (Flow.first T) l → Flow.JudgeIs (Flow.readTr T) (Flow.last T) l v t → v = 1) ∧ (∀ ks m, Flow.goes (Flow.readTr T) (Flow.first T) ks = some m → (∀ k, ¬ Flow.spillM (Flow.readTr T) m k) ∧ Flow.CanEnd (Flow.readTr T) (Flow.last T) m) ∧ Below w.heap.size w w')
set_option maxHeartbeats 1000000 in
theorem compileF_any (s : ByteArray) (w : World) (hs : s.size ≤ maxLen) : Calls Try.prog 6 #[.string s] w (CompilePost s w) := by
  have c1 := fun w => readProcess_any s w hs
  by_cases h2 : Flow.readE s = 0
  · obtain ⟨hsz, hok, hend, hn8⟩ := readE_ok h2
    have hnd := nodes_eq hok
    obtain ⟨In, P, p1, p2, p3, p4, p5⟩ := comp_piece hok 0 1 2 (by omega) (by omega) (by omega)
    have hby := netB_bytes (rs := (comp s 0 0 1 2).1) (k' := (comp s 0 0 1 2).2) (by omega) p5
    have c2 := fun w => compileProcess_any s w (by omega) hok hend hby
    have HP : Flow.readP s = 0 := by
      unfold Flow.readP
      rw [if_neg (by omega), if_neg (by rw [hok, hend]; rintro (x | x); cases x; omega)]
    obtain ⟨n1, n2, n3, n5, n4⟩ := comp_net (T := textOf (netB (comp s 0 0 1 2).1)) hok hn8 (nats_textOf hby)
    have R : Hid (∀ W, Below w.heap.size w W → CompilePost s w (.returned (.tuple #[.string (textOf (netB (comp s 0 0 1 2).1)), .int .i64 0, .int .i64 0])) W) := fun W hW => .inr ⟨_, rfl, h2, HP, n4, n1, n2, n3, n5, hW⟩
    rw [h2, HP] at c1
    generalize textOf (netB (comp s 0 0 1 2).1) = T at c2 R
    clear h2 hsz hok hend hn8 hnd P p1 p2 p3 p4 p5 hby HP n1 n2 n3 n4 n5
    go_enter Try.func6, Try.ntmps6
    go_wp2_with (first
      | (go_at_call 19; refine (c1 _).mono ?_; rintro e w' ⟨rfl, rfl⟩)
      | (go_at_call 20; refine (c2 _).mono ?_; rintro e w2 ⟨rfl, hb2⟩; have HB2 : Hid (Below w.heap.size w w2) := hb2; clear hb2))
    go_ret3
    exact R.out _ HB2.out
  · have t2 : ((Flow.readE s : Int) != 0) = true := by simp; omega
    go_enter Try.func6, Try.ntmps6
    go_wp2_with (go_at_call 19; refine (c1 _).mono ?_; rintro e w' ⟨rfl, rfl⟩)
    go_ret3
    exact .inl ⟨Flow.readE s, Flow.readP s, rfl, rfl, rfl, h2, Below.refl _ _⟩
end Go.Proofs.Ytdlldljgogbiaab
namespace Go.Proofs.Ytdlldljgogbiaab
open Go.RowKit
set_option linter.unusedVariables false

theorem agree_err {s word : ByteArray} {a : Bool} {f p : Nat} (h0 : Flow.readE s ≠ 0) (h : Flow.AcceptsA s word a f p) : a = false ∧ ((f = Flow.readE s ∧ p = Flow.readP s) ∨ f = 1) := by
  rcases h with ⟨a1, a2, a3, a4⟩ | ⟨a1, a2, a3, a4, a5⟩ | ⟨a1, a2, _⟩ | ⟨a1, a2, _⟩
  · exact ⟨a2, .inr a3⟩
  · exact ⟨a3, .inl ⟨a4, a5⟩⟩
  · exact absurd a2 h0
  · exact absurd a2 h0
theorem agree_ok {s word T : ByteArray} {a b : Bool} {f p g : Nat} (h0 : Flow.readE s = 0) (hT : T.size ≤ 160) (hc : Flow.checkErr T = 0) (hw : ∀ u, Flow.Spells (Flow.readTr T) (Flow.first T) u (Flow.lastQ T) ↔ Flow.Has s 0 u) (h : Flow.AcceptsA s word a f p) (h' : Flow.PlaysA T word b g) : a = b ∧ f = g := by
  have hs := (readE_ok h0).1
  have bad : ∀ {j : Nat}, j < word.size → Flow.isTk (Flow.bt word j) = false → ¬ Flow.IsWord word := fun hj e hW => by rw [hW _ hj] at e; cases e
  rcases h with ⟨a1, a2, a3, a4⟩ | ⟨a1, a2, a3, a4, a5⟩ | ⟨a1, a2, ⟨a3, a4, a5⟩, a6, a7⟩ | ⟨a1, a2, a3, a5, a6, a7⟩ <;> rcases h' with ⟨b1, b2, b3⟩ | ⟨b1, b2, b3, b4⟩ | ⟨b1, b2, b3, b4, b5⟩ | ⟨b1, b2, b3, b4, b5⟩
  · exact ⟨by rw [a2, b2], by rw [a3, b3]⟩
  · exact absurd hc b2
  · exfalso; omega
  · exfalso; omega
  · exact absurd h0 a2
  · exact absurd h0 a2
  · exact absurd h0 a2
  · exact absurd h0 a2
  · exfalso; omega
  · exact absurd hc b2
  · exact ⟨by rw [a6, b4], by rw [a7, b5]⟩
  · exact absurd b3 (bad a3 a4)
  · exfalso; omega
  · exact absurd hc b2
  · exact absurd a3 b3
  · refine ⟨?_, by rw [a6, b5]⟩
    have : a = true ↔ b = true := by rw [a5, b4, hw]
    cases a <;> cases b <;> simp_all
theorem judge_one {T t : ByteArray} {v e : Nat} (hc : Flow.checkErr T = 0) (hj : ∀ l v t, Flow.Bfs (Flow.readTr T) (Flow.first T) l → Flow.JudgeIs (Flow.readTr T) (Flow.last T) l v t → v = 1) (h : Flow.JudgeA T v t e) : v = 1 := by
  rcases h with ⟨h1, _⟩ | ⟨_, _, l, h1, h2⟩
  · exact absurd hc h1
  · exact hj l v t h1 h2
theorem word_eq {b : Bool} {A : Prop} (h : b = true ↔ A) : decide (h := Classical.propDecidable _) A = b := by
  cases b with
  | true => exact @decide_eq_true _ (Classical.propDecidable _) (h.1 rfl)
  | false => exact @decide_eq_false _ (Classical.propDecidable _) (fun a => by cases h.2 a)
end Go.Proofs.Ytdlldljgogbiaab
namespace Go.Proofs.Ytdlldljgogbiaab
open Go.RowKit
set_option linter.unusedVariables false
set_option maxRecDepth 40000

/-- the text of what steps spell -/
def speltT (ts : List Flow.Tr) (ks : List Nat) : ByteArray := ⟨((Flow.spelt ts ks).map UInt8.ofNat).toArray⟩
theorem speltT_size (ts : List Flow.Tr) (ks : List Nat) : (speltT ts ks).size ≤ ks.length := by
  show ((Flow.spelt ts ks).map UInt8.ofNat).toArray.size ≤ _
  simp only [List.size_toArray, List.length_map]
  exact List.length_filterMap_le _ _
theorem speltT_none {ts : List Flow.Tr} {ks : List Nat} {k : Nat} (h : Flow.lab ts k = none) : speltT ts (ks ++ [k]) = speltT ts ks := by
  unfold speltT
  rw [spelt_append]
  have : Flow.spelt ts [k] = [] := by show [k].filterMap (Flow.lab ts) = []; rw [List.filterMap_cons, h]; rfl
  rw [this, List.append_nil]
theorem speltT_some {ts : List Flow.Tr} {ks : List Nat} {k c : Nat} (h : Flow.lab ts k = some c) : speltT ts (ks ++ [k]) = speltT ts ks ++ ⟨#[UInt8.ofNat c]⟩ := by
  unfold speltT
  rw [spelt_append]
  have : Flow.spelt ts [k] = [c] := by show [k].filterMap (Flow.lab ts) = [c]; rw [List.filterMap_cons, h]; rfl
  rw [this, List.map_append]
  apply ByteArray.ext
  rw [ByteArray.data_append]
  simp

set_option maxHeartbeats 4000000 in
theorem speltR_any (s : ByteArray) (ks : List Nat) (w : World) (hs : s.size ≤ maxLen) (hc : Flow.checkErr s = 0) (hl : ks.length ≤ 1000000) (hk : ∀ k ∈ ks, k < (Flow.readTr s).length) : Calls Try.prog 16 #[.string s, .string (Flow.runOf ks)] w fun e w' => e = .returned (.string (speltT (Flow.readTr s) ks)) ∧ Below w.heap.size w w' := by
  have c1 := fun w => readR_ok s w hs hc
  have hts := readTr_small s
  have hlen := readTr_size s
  have hrs := runOf_size ks
  obtain ⟨b0, e0⟩ : ∃ b, b = Flow.bt s 0 - 65 := ⟨_, rfl⟩
  rw [← e0] at c1
  clear e0
  have KS : Hid (∀ k ∈ ks, k < (Flow.readTr s).length) := hk
  clear hk hc
  generalize Flow.readTr s = ts at c1 hts hlen KS ⊢
  have HT : Hid (∀ t ∈ ts, Flow.Small t) := hts
  clear hts
  have RN : Hid (∀ (i : Nat) (h : i < (Flow.runOf ks).size), ∃ k, ks[i]? = some k ∧ (Flow.runOf ks)[i] = Flow.sgn k) := by
    intro i h
    have h' : i < ks.length := by omega
    refine ⟨ks[i], List.getElem?_eq_getElem h', ?_⟩
    show ((Flow.signs ks).toArray)[i]'_ = _
    simp [Flow.signs]
  generalize Flow.runOf ks = run at hrs RN ⊢
  go_enter Try.func16, Try.ntmps16
  go_wp2_with (go_at_call 22; refine (c1 _).mono ?_; rintro e w1 ⟨a, cap, at', rfl, hb1, ho1⟩; have HB1 : Hid _ := hb1; have HO1 : Hid (w1.ownsRow _ 60 3 (.slice a ts.length cap) ts.length (cellsR ts)) := ho1; clear hb1 ho1)
  have HB2 : Hid (Below w.heap.size w (w1.alloc (.cells (netC (b0 : Int) ((Flow.bt s 1 - 65 : Nat) : Int) a ts.length cap) 48))) := HB1.out.alloc HB1.out.size _
  have K0 : Hid (Blk (w1.alloc (.cells (netC (b0 : Int) ((Flow.bt s 1 - 65 : Nat) : Int) a ts.length cap) 48)) w1.heap.size (netC (b0 : Int) ((Flow.bt s 1 - 65 : Nat) : Int) a ts.length cap) 48) := Blk.new _ _ _
  have HO2 : Hid ((w1.alloc (.cells (netC (b0 : Int) ((Flow.bt s 1 - 65 : Nat) : Int) a ts.length cap) 48)).ownsRow w.heap.size 60 3 (.slice a ts.length cap) ts.length (cellsR ts)) := HO1.out.alloc _
  generalize w1.alloc (.cells (netC (b0 : Int) ((Flow.bt s 1 - 65 : Nat) : Int) a ts.length cap) 48) = W at HB2 K0 HO2 ⊢
  obtain ⟨X, hX⟩ : ∃ X, X = w1.heap.size := ⟨_, rfl⟩
  have K1 : Hid (Blk W X (netC (b0 : Int) ((Flow.bt s 1 - 65 : Nat) : Int) a ts.length cap) 48) := by rw [hX]; exact K0.out
  rw [← hX]
  clear hX K0 HB1 HO1 c1
  go_loopw [8, 9] (fun t' i' wr => ∃ (i : Nat), i ≤ run.size ∧ t' = .string (speltT ts (ks.take i)) ∧ i' = .int .i64 i ∧ Hid (Below W.heap.size W wr)) (fun _ i' _ => run.size - (intOf i').toNat)
  case atStart => exact ⟨0, by omega, rfl, rfl, Below.refl _ _⟩
  case round =>
    obtain ⟨i, hil, rfl, rfl, HW⟩ := hrel
    have z0 := K1.out.lt
    have n2 : wr.cell? ⟨X, 2, none⟩ = some (.slice a ts.length cap) := (K1.out.below HW.out z0).cell 2
    have zz : X < wr.heap.size := by have := HW.out.size; omega
    by_cases hlt : i < run.size
    · obtain ⟨kk, hk1, hk2⟩ := RN.out i hlt
      have hkn := KS.out kk (List.mem_of_getElem? hk1)
      have TK : Hid (ks.take (i + 1) = ks.take i ++ [kk]) := by
        rw [List.take_add_one, hk1]; rfl
      have hb256 : run[i].toNat < 256 := UInt8.toNat_lt _
      have cn : ∀ W, Calls Try.prog 28 #[.int .u8 (run[i].toNat : Int)] W fun e w' => e = .returned (.int .i64 kk) ∧ W = w' := fun W => (number_any _ W hb256).mono fun e w' h => ⟨by rw [h.1, hk2, (sgn_num (by omega)).2], h.2.symm⟩
      obtain ⟨t, ht⟩ : ∃ t, ts[kk]? = some t := ⟨_, List.getElem?_eq_getElem hkn⟩
      obtain ⟨s1, s2, s3⟩ := HT.out t (List.mem_of_getElem? ht)
      have OW2 := owns_below HO2.out HW.out (Nat.le_refl _)
      obtain ⟨g, cap', hv, _, hg2⟩ := OW2.form (by omega)
      injection hv with hv1 _ hv3
      subst hv1 hv3
      have t0 := OW2.cellAt (kk * 3) (by omega)
      rw [(cellsR_get ht).1] at t0
      have hI0 : (0 : Int) ≤ (kk : Int) := by omega
      have hI1 : (kk : Int) < (ts.length : Int) := by omega
      have hsp := speltT_size ts (ks.take i)
      have hsp2 : (ks.take i).length ≤ 1000000 := by rw [List.length_take]; omega
      obtain ⟨lb, hlb⟩ : ∃ lb, lb = t.label := ⟨_, rfl⟩
      rw [← hlb] at t0 s1
      have LB : Hid (Flow.lab ts kk = if lb = 45 then none else some lb) := by unfold Flow.lab; rw [ht, hlb]; exact (rfl : _ = _)
      clear OW2 ht hk1 hk2 hlb s2 s3
      by_cases h45 : lb = 45
      · have R : Hid (speltT ts (ks.take (i + 1)) = speltT ts (ks.take i)) := by rw [TK.out]; exact speltT_none (by rw [LB.out, if_pos h45])
        subst h45
        generalize speltT ts (ks.take i) = A at R hsp ⊢
        clear LB
        go_wp2_with (go_at_call 28; refine (cn _).mono ?_; rintro e w' ⟨rfl, rfl⟩)
        go_roundw
        case rel => exact ⟨i + 1, by omega, by rw [R.out], by go_num, HW⟩
        case measure => simp [intOf]; omega
      · have R : Hid (speltT ts (ks.take (i + 1)) = speltT ts (ks.take i) ++ ⟨#[UInt8.ofNat lb]⟩) := by rw [TK.out]; exact speltT_some (by rw [LB.out, if_neg h45])
        have hne : ((lb : Int) != 45) = true := by simp; omega
        have hcv : (convert 73 9 (.slice (some ⟨wr.heap.size, 0, none⟩) 1 1)).run Try.prog (wr.alloc (.cells #[.int .u8 (lb : Int)] 5)) = .ok (.string ⟨#[UInt8.ofNat lb]⟩) (wr.alloc (.cells #[.int .u8 (lb : Int)] 5)) := by
          refine run_convert_bytes_back _ 73 9 5 ⟨wr.heap.size, 0, none⟩ 1 [UInt8.ofNat lb] Try.underlying73 Try.underlying5 Try.underlying9 ?_
          intro j hj
          have hj0 : j = 0 := by simp at hj; exact hj
          subst hj0
          have := (Blk.new wr #[.int .u8 (lb : Int)] 5).cell 0
          show World.cell? _ ⟨wr.heap.size, 0, none⟩ = _
          rw [this]
          have e : (UInt8.ofNat lb).toNat = lb := by rw [UInt8.toNat_ofNat']; omega
          simp only [List.getElem_cons_zero, e]
          simp
        generalize speltT ts (ks.take i) = A at R hsp ⊢
        have hb1 : (⟨#[UInt8.ofNat lb]⟩ : ByteArray).size = 1 := rfl
        generalize (⟨#[UInt8.ofNat lb]⟩ : ByteArray) = B at R hcv hb1
        have hsa := fun W : World => run_string_add (P := Try.prog) (w := W) A B (by omega) (by omega)
        clear LB
        go_wp2_with (go_at_call 28; refine (cn _).mono ?_; rintro e w' ⟨rfl, rfl⟩)
        go_roundw
        case rel => exact ⟨i + 1, by omega, by rw [R.out], by go_num, HW.out.alloc HW.out.size _⟩
        case measure => simp [intOf]; omega
    · obtain rfl : i = run.size := by omega
      have R : Hid (speltT ts (ks.take run.size) = speltT ts ks) := by rw [hrs, List.take_length]; exact (rfl : _ = _)
      go_wp2
      go_ret
      exact ⟨by rw [← R.out]; rfl, HB2.out.trans (HW.out.mono HB2.out.size)⟩
end Go.Proofs.Ytdlldljgogbiaab
namespace Go.Proofs.Ytdlldljgogbiaab
open Go.RowKit
set_option linter.unusedVariables false
set_option maxRecDepth 40000

/-- the text is a run that has ended -/
def Flow.EndsBy (s run : ByteArray) : Prop := ∃ ks, Flow.runOf ks = run ∧ Flow.goes (Flow.readTr s) (Flow.first s) ks = some (Flow.last s)

/-- what Ended answers -/
def EndedPost (s run : ByteArray) (w : World) (e : Ending) (w' : World) : Prop := ∃ b, e = .returned (.bool b) ∧ (b = true ↔ Flow.EndsBy s run) ∧ Below w.heap.size w w'

set_option maxRecDepth 400000 in
set_option maxHeartbeats 4000000 in
theorem endedR_any (s run : ByteArray) (w : World) (hs : s.size ≤ maxLen) (hr : run.size ≤ maxLen) (hc : Flow.checkErr s = 0) : Calls Try.prog 15 #[.string s, .string run] w (EndedPost s run w) := by
  obtain ⟨hok, hsz, hp0, hp1⟩ := checkErr_ok hc
  have q0 := Flow.isPl_iff.1 hp0
  have q1 := Flow.isPl_iff.1 hp1
  obtain ⟨hf, hfe⟩ := first_lt hp0
  have c1 := fun w => readR_ok s w hs hc
  have hpow := pow_small' (Flow.bt s 0 - 65) (by omega)
  have hlt : (Flow.played s run).1 < 65536 := steps_lt (readTr_small s) hf
  have c2 : ∀ a cap base w, w.ownsRow base 60 3 (.slice a (Flow.readTr s).length cap) (Flow.readTr s).length (cellsR (Flow.readTr s)) → Calls Try.prog 36 #[.agg #[.int .i64 ((Flow.bt s 0 - 65 : Nat) : Int), .int .i64 ((Flow.bt s 1 - 65 : Nat) : Int), .slice a (Flow.readTr s).length cap], .int .i64 (IntKind.i64.wrap (2 ^ (Flow.bt s 0 - 65))), .string run] w fun e w' => e = .returned (.tuple #[.int .i64 (Flow.played s run).1, .int .i64 (Flow.played s run).2.1, .int .i64 (Flow.played s run).2.2]) ∧ Below w.heap.size w w' := fun a cap base w ho => by
    rw [wrap_is, hpow]
    exact stepsR_any (Flow.readTr s) ((Flow.bt s 0 - 65 : Nat) : Int) ((Flow.bt s 1 - 65 : Nat) : Int) a cap (Flow.first s) base run w hr hf (readTr_small s) (readTr_size s) ho
  have hw2 : wrap64 (2 ^ (Flow.bt s 1 - 65)) = (Flow.last s : Int) := pow_small' _ (by omega)
  obtain ⟨E, hE⟩ : ∃ E, E = Flow.last s := ⟨_, rfl⟩
  rw [← hE] at hw2
  have hw1 : IntKind.i64.wrap (2 ^ (Flow.bt s 1 - 65)) = (E : Int) := by rw [wrap_is]; exact hw2
  have PG : Hid (((Flow.played s run).2.1 = 0 ∧ (Flow.played s run).1 = E) ↔ Flow.EndsBy s run) := by rw [hE]; exact played_goes
  obtain ⟨b0, e0⟩ : ∃ b, b = Flow.bt s 0 - 65 := ⟨_, rfl⟩
  obtain ⟨b1, e1⟩ : ∃ b, b = Flow.bt s 1 - 65 := ⟨_, rfl⟩
  have hb0 : b0 ≤ 15 := by omega
  have hb1 : b1 ≤ 15 := by omega
  rw [← e0, ← e1] at c1 c2
  rw [← e1] at hw1 hw2
  obtain ⟨ts, ets⟩ : ∃ ts, ts = Flow.readTr s := ⟨_, rfl⟩
  rw [← ets] at c1 c2
  obtain ⟨pm, epm⟩ : ∃ pm, pm = (Flow.played s run).1 := ⟨_, rfl⟩
  obtain ⟨pe, epe⟩ : ∃ pe, pe = (Flow.played s run).2.1 := ⟨_, rfl⟩
  rw [← epm, ← epe] at c2 PG
  clear hok hsz hp0 hp1 q0 q1 hf hfe hpow e0 e1 ets epm epe hE hlt
  go_enter Try.func15, Try.ntmps15
  go_wp2_with (go_at_call 22; refine (c1 _).mono ?_; rintro e w1 ⟨a, cap, at', rfl, hb1, ho1⟩; have HB1 : Hid _ := hb1; have HO1 : Hid (w1.ownsRow _ 60 3 (.slice a ts.length cap) ts.length (cellsR ts)) := ho1; clear hb1 ho1)
  have HB2 : Hid (Below w.heap.size w (w1.alloc (.cells (netC (b0 : Int) (b1 : Int) a ts.length cap) 48))) := HB1.out.alloc HB1.out.size _
  have K0 : Hid (Blk (w1.alloc (.cells (netC (b0 : Int) (b1 : Int) a ts.length cap) 48)) w1.heap.size (netC (b0 : Int) (b1 : Int) a ts.length cap) 48) := Blk.new _ _ _
  have HO2 : Hid ((w1.alloc (.cells (netC (b0 : Int) (b1 : Int) a ts.length cap) 48)).ownsRow _ 60 3 (.slice a ts.length cap) ts.length (cellsR ts)) := HO1.out.alloc _
  generalize w1.alloc (.cells (netC (b0 : Int) (b1 : Int) a ts.length cap) 48) = W at HB2 K0 HO2 ⊢
  obtain ⟨X, hX⟩ : ∃ X, X = w1.heap.size := ⟨_, rfl⟩
  have K0' : Hid (Blk W X (netC (b0 : Int) (b1 : Int) a ts.length cap) 48) := by rw [hX]; exact K0.out
  rw [← hX]
  clear hX K0 HB1 HO1 c1
  have n0 : W.cell? ⟨X, 0, none⟩ = some (.int .i64 b0) := K0'.out.cell 0
  have n1 : W.cell? ⟨X, 1, none⟩ = some (.int .i64 b1) := K0'.out.cell 1
  have n2 : W.cell? ⟨X, 2, none⟩ = some (.slice a ts.length cap) := K0'.out.cell 2
  have z0 := K0'.out.lt
  go_region_held3 (fun w' => w'.cell? ⟨X, 0, none⟩ = some (.int .i64 b0) ∧ w'.cell? ⟨X, 1, none⟩ = some (.int .i64 b1) ∧ w'.cell? ⟨X, 2, none⟩ = some (.slice a ts.length cap)) (go_keep) (first | (go_at_call 36; refine (c2 a cap _ _ (HO2.out.drew)).mono ?_; rintro e w2 ⟨rfl, hb2⟩; have HB3 : Hid _ := hb2; have v0 : w2.cell? ⟨X, 0, none⟩ = some (.int .i64 b0) := (hb2.cell (p := ⟨X, 0, none⟩) z0).trans n0; have v1 : w2.cell? ⟨X, 1, none⟩ = some (.int .i64 b1) := (hb2.cell (p := ⟨X, 1, none⟩) z0).trans n1; have v2 : w2.cell? ⟨X, 2, none⟩ = some (.slice a ts.length cap) := (hb2.cell (p := ⟨X, 2, none⟩) z0).trans n2; clear hb2))
  have HB4 : Hid (Below w.heap.size w w2) := (HB2.out.drew).trans (HB3.out.mono HB2.out.size)
  clear n0 n1 n2 HB2 HB3 HO2 K0' z0 c2
  by_cases hp : pe = 0
  · subst hp
    go_wp2
    go_ret
    refine ⟨_, rfl, ?_, HB4.out⟩
    rw [← PG.out]
    simp; omega
  · have d : ((pe : Int) == 0) = false := by simp; omega
    have NE : Hid (¬ Flow.EndsBy s run) := fun h => hp (PG.out.2 h).1
    clear PG
    go_wp2
    go_ret
    exact ⟨false, rfl, ⟨fun h => (by cases h), fun h => absurd h NE.out⟩, HB4.out⟩
end Go.Proofs.Ytdlldljgogbiaab
namespace Go.Proofs.Ytdlldljgogbiaab
open Go.RowKit

theorem sgn_lt {j k : Nat} (hj : j < 16) (hk : k < 16) (h : j < k) : Flow.sgn j < Flow.sgn k := by
  rw [UInt8.lt_iff_toNat_lt, (sgn_num hj).1, (sgn_num hk).1]
  split <;> split <;> omega
/-- not above, as Go compares texts -/
def Flow.leB (a b : ByteArray) : Prop := (Op.bytesLess a.toList b.toList || a.toList == b.toList) = true
theorem lex_bytes {a b : List Nat} (ha : ∀ k ∈ a, k < 16) (hb : ∀ k ∈ b, k < 16) (h : Flow.lexLe a b) (hl : a.length = b.length) : (Op.bytesLess (Flow.signs a) (Flow.signs b) || Flow.signs a == Flow.signs b) = true := by
  induction a generalizing b with
  | nil =>
    cases b with
    | nil => rfl
    | cons y b => simp at hl
  | cons x a ih =>
    cases b with
    | nil => simp at hl
    | cons y b =>
      have e1 : Flow.signs (x :: a) = Flow.sgn x :: Flow.signs a := rfl
      have e2 : Flow.signs (y :: b) = Flow.sgn y :: Flow.signs b := rfl
      rw [e1, e2]
      rcases h with h | ⟨rfl, h⟩
      · have := sgn_lt (ha x (by simp)) (hb y (by simp)) h
        simp [Op.bytesLess, this]
      · have := ih (fun k hk => ha k (by simp [hk])) (fun k hk => hb k (by simp [hk])) h (by simpa using hl)
        simp only [Bool.or_eq_true, beq_iff_eq] at this
        rcases this with this | this
        · simp [Op.bytesLess, this]
        · simp [this]
theorem runOf_toList (ks : List Nat) : (Flow.runOf ks).toList = Flow.signs ks := by unfold Flow.runOf; rw [ByteArray.toList_mk]
/-- shorter, or as long and not above: of the texts -/
theorem first_text {a b : List Nat} (ha : ∀ k ∈ a, k < 16) (hb : ∀ k ∈ b, k < 16) (h : Flow.firstLe a b) : (Flow.runOf a).size < (Flow.runOf b).size ∨ ((Flow.runOf a).size = (Flow.runOf b).size ∧ Flow.leB (Flow.runOf a) (Flow.runOf b)) := by
  rw [runOf_size, runOf_size]
  rcases h with h | ⟨h1, h2⟩
  · exact .inl h
  · refine .inr ⟨h1, ?_⟩
    unfold Flow.leB
    rw [runOf_toList, runOf_toList]
    exact lex_bytes ha hb h2 h1

theorem goes_16 {ts : List Flow.Tr} (hts : ts.length ≤ 16) {m m' : Nat} {ks : List Nat} (h : Flow.goes ts m ks = some m') : ∀ k ∈ ks, k < 16 := fun k hk => by have := goes_lt h k hk; omega
theorem goes_join {ts : List Flow.Tr} {m m1 m2 : Nat} {a b : List Nat} (h : Flow.goes ts m a = some m1) (g : Flow.goes ts m1 b = some m2) : Flow.goes ts m (a ++ b) = some m2 := by
  rw [Flow.goes_append, h]; exact g
theorem played_at {s : ByteArray} {ks : List Nat} {m : Nat} (h : Flow.goes (Flow.readTr s) (Flow.first s) ks = some m) : (Flow.played s (Flow.runOf ks)).2.1 = 0 ∧ (Flow.played s (Flow.runOf ks)).1 = m := played_goes.2 ⟨ks, rfl, h⟩
theorem fire_at {s : ByteArray} {ks : List Nat} {m : Nat} (hc : Flow.checkErr s = 0) (hl : ks.length ≤ 65536) (h : Flow.goes (Flow.readTr s) (Flow.first s) ks = some m) : Flow.fireE s (Flow.runOf ks) = 0 := fire_run.2 ⟨by rw [runOf_size]; exact hl, hc, ks, m, rfl, h⟩

theorem last_sign (js : List Nat) (k : Nat) : (Flow.runOf (js ++ [k])).extract js.length (js.length + 1) = Flow.runOf [k] := by
  have hlt : js.length < (Flow.runOf (js ++ [k])).size := by rw [runOf_size]; simp
  rw [extract_one _ _ hlt]
  have hd : (Flow.runOf (js ++ [k])).data.toList.drop js.length = [Flow.sgn k] := by
    show (Flow.signs (js ++ [k])).drop js.length = _
    rw [signs_append, List.drop_append_of_le_length (by rw [signs_len]; omega), List.drop_of_length_le (by rw [signs_len]; omega)]
    rfl
  rw [drop_at _ hlt] at hd
  injection hd with hd _
  rw [hd]; rfl
/-- a run of a text and something behind it, split -/
theorem run_split {ts : List Flow.Tr} (hts : ts.length ≤ 16) {m m1 m2 : Nat} {ks js : List Nat} {w : ByteArray} (h : Flow.goes ts m ks = some m1) (g : Flow.goes ts m js = some m2) (e : Flow.runOf js = Flow.runOf ks ++ w) : ∃ is, js = ks ++ is ∧ Flow.runOf is = w ∧ Flow.goes ts m1 is = some m2 := by
  have e1 : Flow.signs js = Flow.signs ks ++ w.data.toList := by
    have := congrArg (fun x => x.data.toList) e
    simpa [Flow.runOf] using this
  have hlen : ks.length ≤ js.length := by
    have := congrArg List.length e1
    rw [signs_len, List.length_append, signs_len] at this
    omega
  have e2 : Flow.signs (js.take ks.length) = Flow.signs ks := by
    have h1 : Flow.signs (js.take ks.length) = (Flow.signs js).take ks.length := by unfold Flow.signs; rw [List.map_take]
    rw [h1, e1, List.take_append_of_le_length (by rw [signs_len]; omega), List.take_of_length_le (by rw [signs_len]; omega)]
  have hj := goes_16 hts g
  have e3 : js.take ks.length = ks := signs_inj (fun k hk => hj k (List.mem_of_mem_take hk)) (goes_16 hts h) e2
  have e4 : js = ks ++ js.drop ks.length := by
    have := List.take_append_drop ks.length js
    rw [e3] at this; exact this.symm
  refine ⟨js.drop ks.length, e4, ?_, ?_⟩
  · apply runOf_iff.1
    have := e1
    rw [e4, signs_append] at this
    exact List.append_cancel_left this
  · rw [e4, Flow.goes_append, h] at g
    exact g

theorem last_small {s : ByteArray} (hc : Flow.checkErr s = 0) : Flow.last s < 65536 := by
  obtain ⟨_, _, _, hp1⟩ := checkErr_ok hc
  have := Flow.isPl_iff.1 hp1
  unfold Flow.last
  have h1 : (2 : Nat) ^ (Flow.bt s 1 - 65) ≤ 2 ^ 15 := Nat.pow_le_pow_right (by omega) (by omega)
  have h2 : (2 : Nat) ^ 15 = 32768 := by decide
  omega

/-- where the judge says Sound: no run spills, none has the end and more, each can end -/
theorem sound_all {s : ByteArray} {v : Nat} {t : ByteArray} (h : Flow.JudgeA s v t 0) (hv : v = 1) {ks : List Nat} {m : Nat} (hg : Flow.goes (Flow.readTr s) (Flow.first s) ks = some m) : (∀ k, ¬ Flow.spillM (Flow.readTr s) m k) ∧ ¬ Flow.Improper (Flow.last s) m ∧ Flow.CanEnd (Flow.readTr s) (Flow.last s) m := by
  subst hv
  rcases h with ⟨a, h1, _⟩ | ⟨a, _, l, hb, hj⟩
  · omega
  · obtain ⟨j, x, hx, rfl, _⟩ := hb.complete (readTr_size s) ks m hg
    have hjl := (List.getElem?_eq_some_iff.1 hx).1
    rcases hj with ⟨_, h⟩ | ⟨n1, hj⟩
    · omega
    · rcases hj with ⟨_, _, _, _, _, h, _⟩ | ⟨n2, hj⟩
      · omega
      · rcases hj with ⟨_, _, _, _, _, h, _⟩ | ⟨n3, hj⟩
        · omega
        · exact ⟨fun k => n1 j k x hx (.inl hjl), n2 j x hjl hx, n3 j x hjl hx⟩
/-- the verdicts -/
theorem judge_range {s : ByteArray} {v e : Nat} {t : ByteArray} (h : Flow.JudgeA s v t e) : e ≠ 0 ∨ (e = 0 ∧ v = 1) ∨ (e = 0 ∧ 2 ≤ v ∧ v ≤ 5) := by
  rcases h with ⟨a, _, _, h⟩ | ⟨_, h0, l, _, hj⟩
  · exact .inl (by omega)
  · right
    rcases hj with ⟨_, h⟩ | ⟨_, hj⟩
    · omega
    · rcases hj with ⟨_, _, _, _, _, h, _⟩ | ⟨_, hj⟩
      · omega
      · rcases hj with ⟨_, _, _, _, _, h, _⟩ | ⟨_, hj⟩
        · omega
        · rcases hj with ⟨_, _, _, _, h, _⟩ | ⟨_, h, _⟩ <;> omega
theorem judge_err {s : ByteArray} {v e : Nat} {t : ByteArray} (h : Flow.JudgeA s v t e) : e = Flow.checkErr s := by
  rcases h with ⟨_, _, _, h⟩ | ⟨a, h, _⟩
  · exact h
  · rw [h, a]

/-- what Finish tells, of every run and every wish to go on -/
theorem finish_says {s run t : ByteArray} {e : Nat} (hE : Flow.fireE s run = 0) (h : Flow.FinishA s run t e) :
    (e = 0 ∧ Flow.EndsBy s (run ++ t) ∧ t.size ≤ 65536 ∧ ∀ w, Flow.EndsBy s (run ++ w) → t.size < w.size ∨ (t.size = w.size ∧ Flow.leB t w)) ∨
    (e = 7 ∧ t = ⟨#[]⟩ ∧ ∀ w, ¬ Flow.EndsBy s (run ++ w)) := by
  obtain ⟨hsz, hc, ks, m, rfl, hg⟩ := fire_run.1 hE
  have hp := (played_at hg).2
  have h16 := readTr_size s
  rcases h with ⟨a, _⟩ | ⟨_, l, hb, h⟩
  · exact absurd hE a
  · rw [hp] at hb
    have split : ∀ w, Flow.EndsBy s (Flow.runOf ks ++ w) → ∃ is, Flow.runOf is = w ∧ Flow.goes (Flow.readTr s) m is = some (Flow.last s) := by
      rintro w ⟨js, h1, h2⟩
      obtain ⟨is, _, h3, h4⟩ := run_split h16 hg h2 h1
      exact ⟨is, h3, h4⟩
    rcases h with ⟨i, n, hi, hn, ht, he⟩ | ⟨hno, ht, he⟩
    · left
      have hil := (List.getElem?_eq_some_iff.1 hi).1
      have hkg := Flow.key_goes hb i n hi
      rw [hn] at hkg
      have hkl := Flow.key_len hb i hil
      have h65 := hb.size
      refine ⟨he, ⟨ks ++ Flow.key l i, by rw [ht, runOf_append], goes_join hg hkg⟩, by rw [ht, runOf_size]; omega, ?_⟩
      intro w hw
      obtain ⟨is, rfl, h4⟩ := split w hw
      obtain ⟨j, x, hj, hx, hle⟩ := hb.complete h16 is _ h4
      have := hb.once i j n x hi hj (by rw [hn, hx])
      subst this
      rw [ht]
      exact first_text (Flow.key_lt hb i hil) (goes_16 h16 h4) hle
    · right
      refine ⟨he, ht, ?_⟩
      intro w hw
      obtain ⟨is, rfl, h4⟩ := split w hw
      obtain ⟨j, x, hj, hx, _⟩ := hb.complete h16 is _ h4
      exact hno j x hj hx
/-- what Finish tells behind a run that can end -/
theorem finish_can {s run t : ByteArray} {e m : Nat} {ks : List Nat} (hr : Flow.runOf ks = run) (hl : ks.length ≤ 65536) (hc : Flow.checkErr s = 0) (hg : Flow.goes (Flow.readTr s) (Flow.first s) ks = some m) (hcan : Flow.CanEnd (Flow.readTr s) (Flow.last s) m) (h : Flow.FinishA s run t e) : e = 0 ∧ Flow.EndsBy s (run ++ t) ∧ t.size ≤ 65536 := by
  subst hr
  rcases finish_says (fire_at hc hl hg) h with ⟨a, b, c, _⟩ | ⟨_, _, hno⟩
  · exact ⟨a, b, c⟩
  · obtain ⟨js, hjs⟩ := hcan
    exact absurd ⟨ks ++ js, (runOf_append ks js).symm, goes_join hg hjs⟩ (hno (Flow.runOf js))

/-- what Enable tells, of every run -/
theorem enable_says {s step t : ByteArray} {e : Nat} (hc : Flow.checkErr s = 0) (h1 : step.size = 1) (hk : Flow.num (Flow.bt step 0) < (Flow.readTr s).length) (h : Flow.EnableA s step t e) :
    (e = 0 ∧ (∃ js m, t = Flow.runOf (js ++ [Flow.num (Flow.bt step 0)]) ∧ js.length + 1 ≤ 65536 ∧ Flow.goes (Flow.readTr s) (Flow.first s) (js ++ [Flow.num (Flow.bt step 0)]) = some m ∧
      ∀ is m', Flow.goes (Flow.readTr s) (Flow.first s) (is ++ [Flow.num (Flow.bt step 0)]) = some m' → t.size < is.length + 1 ∨ (t.size = is.length + 1 ∧ Flow.leB t (Flow.runOf (is ++ [Flow.num (Flow.bt step 0)]))))) ∨
    (e = 7 ∧ t = ⟨#[]⟩ ∧ ∀ is m', Flow.goes (Flow.readTr s) (Flow.first s) (is ++ [Flow.num (Flow.bt step 0)]) ≠ some m') := by
  have h16 := readTr_size s
  have long : ¬ 65536 < step.size := by omega
  rcases h with ⟨a, _⟩ | ⟨_, a, _⟩ | ⟨_, _, a, _⟩ | ⟨_, _, _, l, ok, hb, hby, he⟩
  · exact absurd a long
  · exact absurd hc a
  · exact absurd ⟨h1, hk⟩ a
  · obtain ⟨k, ek⟩ : ∃ k, k = Flow.num (Flow.bt step 0) := ⟨_, rfl⟩
    rw [← ek] at hk hby ⊢
    have parts : ∀ is m', Flow.goes (Flow.readTr s) (Flow.first s) (is ++ [k]) = some m' → ∃ (j : Nat) (x : Flow.Node), l[j]? = some x ∧ Flow.nextM (Flow.readTr s) x.mark k = some m' ∧ Flow.firstLe (Flow.key l j) is ∧ (∀ q ∈ is, q < 16) := by
      intro is m' hg
      rw [Flow.goes_snoc] at hg
      cases hi : Flow.goes (Flow.readTr s) (Flow.first s) is with
      | none => rw [hi] at hg; cases hg
      | some m1 =>
        rw [hi] at hg
        obtain ⟨j, x, hj, hx, hle⟩ := hb.complete h16 is m1 hi
        exact ⟨j, x, hj, by rw [hx]; exact hg, hle, goes_16 h16 hi⟩
    rcases hby with ⟨i, n, m', hi, hn, hno, ht, hok⟩ | ⟨hno, ht, hok⟩
    · left
      have hil := (List.getElem?_eq_some_iff.1 hi).1
      have hkl := Flow.key_len hb i hil
      have h65 := hb.size
      refine ⟨by rw [he, hok]; rfl, Flow.key l i, m', ht, by omega, by rw [Flow.goes_snoc, Flow.key_goes hb i n hi]; exact hn, ?_⟩
      intro is m2 hg
      obtain ⟨j, x, hj, hx, hle, hq⟩ := parts is m2 hg
      have hij : i ≤ j := by
        rcases Nat.lt_or_ge j i with g | g
        · have := hno j x g hj; rw [hx] at this; cases this
        · exact g
      have hle2 := Flow.firstLe_trans (Flow.key_le hb i j hij (List.getElem?_eq_some_iff.1 hj).1) hle
      have hq2 : ∀ q ∈ is ++ [k], q < 16 := by
        intro q hq'
        rcases List.mem_append.1 hq' with h | h
        · exact hq q h
        · rw [List.mem_singleton.1 h]; omega
      have hq1 : ∀ q ∈ Flow.key l i ++ [k], q < 16 := by
        intro q hq'
        rcases List.mem_append.1 hq' with h | h
        · exact Flow.key_lt hb i hil q h
        · rw [List.mem_singleton.1 h]; omega
      have := first_text hq1 hq2 (Flow.firstLe_snoc hle2 (fun _ => Nat.le_refl k))
      rw [ht]
      rw [runOf_size (is ++ [k]), List.length_append] at this
      exact this
    · right
      refine ⟨by rw [he, hok]; rfl, ht, ?_⟩
      intro is m2 hg
      obtain ⟨j, x, hj, hx, _⟩ := parts is m2 hg
      have := hno j x (List.getElem?_eq_some_iff.1 hj).1 hj
      rw [hx] at this; cases this
/-- Enable never tells OK or ErrNever where it may not -/
theorem enable_bad {s step t : ByteArray} {e : Nat} (hbad : ¬ (Flow.checkErr s = 0 ∧ step.size = 1 ∧ Flow.num (Flow.bt step 0) < (Flow.readTr s).length)) (h : Flow.EnableA s step t e) : e ≠ 0 ∧ e ≠ 7 ∧ t = ⟨#[]⟩ := by
  have hce : Flow.checkErr s ≤ 3 := by unfold Flow.checkErr; split <;> (try split) <;> (try split) <;> omega
  rcases h with ⟨_, h1, h2⟩ | ⟨_, a, h1, h2⟩ | ⟨_, _, _, h1, h2⟩ | ⟨a, b, c, _⟩
  · exact ⟨by omega, by omega, h1⟩
  · exact ⟨by omega, by omega, h1⟩
  · exact ⟨by omega, by omega, h1⟩
  · exact absurd ⟨a, b, c⟩ hbad

/-- steps that go are played -/
theorem steps_run {ts : List Flow.Tr} (hts : ts.length ≤ 16) (run : ByteArray) {ks : List Nat} {rest : List UInt8} {m m' i : Nat} (h : Flow.goes ts m ks = some m') (hd : run.data.toList.drop i = Flow.signs ks ++ rest) : Flow.steps ts m run i = Flow.steps ts m' run (i + ks.length) ∧ run.data.toList.drop (i + ks.length) = rest := by
  induction ks generalizing m i with
  | nil =>
    have : m = m' := by simpa [Flow.goes] using h
    subst this
    exact ⟨rfl, by simpa [Flow.signs] using hd⟩
  | cons k ks ih =>
    have hlt : i < run.size := by
      rcases Nat.lt_or_ge i run.size with g | g
      · exact g
      · have : run.data.toList.drop i = [] := by apply List.drop_eq_nil_of_le; simpa using g
        rw [this] at hd; simp [Flow.signs] at hd
    rw [drop_at run hlt] at hd
    have e0 : Flow.signs (k :: ks) = Flow.sgn k :: Flow.signs ks := rfl
    rw [e0, List.cons_append] at hd
    injection hd with hd1 hd2
    have h' : (match Flow.nextM ts m k with | none => none | some m1 => Flow.goes ts m1 ks) = some m' := h
    cases hx : Flow.nextM ts m k with
    | none => rw [hx] at h'; cases h'
    | some m1 =>
      rw [hx] at h'
      have hk : k < ts.length := by
        rcases Nat.lt_or_ge k ts.length with g | g
        · exact g
        · unfold Flow.nextM at hx; rw [List.getElem?_eq_none g] at hx; cases hx
      have ht := List.getElem?_eq_getElem hk
      have hn : Flow.num (Flow.bt run i) = k := by rw [← Flow.bt_at hlt, hd1]; exact (sgn_num (k := k) (by omega)).2
      rw [nextM_at ht] at hx
      by_cases f : Flow.fireErr ts[k] m = 0
      · rw [if_pos f] at hx
        injection hx with hx
        obtain ⟨i1, i2⟩ := ih h' hd2
        refine ⟨?_, by rw [List.length_cons, show i + (ks.length + 1) = i + 1 + ks.length by omega]; exact i2⟩
        rw [Flow.steps_go hlt (by rw [hn]; exact ht) f, hx, i1, List.length_cons]
        congr 1; omega
      · rw [if_neg f] at hx; cases hx
theorem fire_spills {s : ByteArray} {ks : List Nat} {k m : Nat} (hc : Flow.checkErr s = 0) (hl : ks.length + 1 ≤ 65536) (hg : Flow.goes (Flow.readTr s) (Flow.first s) ks = some m) (hs : Flow.spillM (Flow.readTr s) m k) : Flow.fireE s (Flow.runOf (ks ++ [k])) = 6 ∧ Flow.fireP s (Flow.runOf (ks ++ [k])) = ks.length := by
  have h16 := readTr_size s
  obtain ⟨t, ht, h1, h2⟩ := hs
  have hk := (List.getElem?_eq_some_iff.1 ht).1
  have hd : (Flow.runOf (ks ++ [k])).data.toList.drop 0 = Flow.signs ks ++ [Flow.sgn k] := by
    show (Flow.signs (ks ++ [k])).drop 0 = _
    rw [signs_append]; rfl
  obtain ⟨e1, e2⟩ := steps_run h16 (Flow.runOf (ks ++ [k])) hg hd
  rw [Nat.zero_add] at e1 e2
  have hlt : ks.length < (Flow.runOf (ks ++ [k])).size := by rw [runOf_size]; simp
  rw [drop_at _ hlt] at e2
  injection e2 with e2 _
  have hn : Flow.num (Flow.bt (Flow.runOf (ks ++ [k])) ks.length) = k := by rw [← Flow.bt_at hlt, e2]; exact (sgn_num (k := k) (by omega)).2
  have f : Flow.fireErr t m = 6 := by unfold Flow.fireErr; rw [if_neg (by rw [h1]; simp), if_pos h2]
  have hp : Flow.played s (Flow.runOf (ks ++ [k])) = (0, 6, ks.length) := by
    unfold Flow.played
    rw [e1, Flow.steps_bad hlt (by rw [hn]; exact ht) (by rw [f]; omega), f]
  have hsz : ¬ 65536 < (Flow.runOf (ks ++ [k])).size := by rw [runOf_size]; simp; omega
  constructor
  · unfold Flow.fireE; rw [if_neg hsz, if_neg (fun x => x hc), hp]
  · unfold Flow.fireP; rw [if_neg hsz, if_neg (fun x => x hc), hp, if_pos (by simp)]
/-- what the judge tells shows the verdict -/
theorem shown_all {s : ByteArray} {v : Nat} {t : ByteArray} (h : Flow.JudgeA s v t 0) :
    (v = 1 ∧ t = ⟨#[]⟩) ∨
    (v = 2 ∧ 0 < t.size ∧ t.size ≤ 65536 ∧ Flow.fireE s t = 6 ∧ Flow.fireP s t + 1 = t.size) ∨
    (v = 3 ∧ ∃ ks m, Flow.runOf ks = t ∧ ks.length ≤ 65536 ∧ Flow.goes (Flow.readTr s) (Flow.first s) ks = some m ∧ Flow.Improper (Flow.last s) m) ∨
    (v = 4 ∧ t.size ≤ 65536 ∧ Flow.fireE s t = 0 ∧ ∀ t' e, Flow.FinishA s t t' e → e = 7) ∨
    (v = 5 ∧ t.size = 1 ∧ ∀ t' e, Flow.EnableA s t t' e → e = 7) := by
  rcases h with ⟨a, _, _, h⟩ | ⟨hc, _, l, hb, hj⟩
  · omega
  · have h65 := hb.size
    have h16 := readTr_size s
    rcases hj with ⟨hs, hv⟩ | ⟨_, hj⟩
    · right; left
      rcases hs with ⟨i, k, n, h1, h2, h3, h4, h5, _⟩ | ⟨_, _, h⟩
      · have hil := (List.getElem?_eq_some_iff.1 h1).1
        have hkl := Flow.key_len hb i hil
        obtain ⟨g1, g2⟩ := fire_spills hc (by omega) (Flow.key_goes hb i n h1) h3
        have hsz := runOf_size (Flow.key l i ++ [k])
        simp at hsz
        rw [h5]
        exact ⟨hv, by omega, by omega, g1, by rw [g2, hsz]⟩
      · cases h
    · rcases hj with ⟨i, n, h1, h2, _, hv, ht⟩ | ⟨_, hj⟩
      · right; right; left
        have hil := (List.getElem?_eq_some_iff.1 h1).1
        have hkl := Flow.key_len hb i hil
        exact ⟨hv, Flow.key l i, n.mark, ht.symm, by omega, Flow.key_goes hb i n h1, h2⟩
      · rcases hj with ⟨i, n, h1, h2, _, hv, ht⟩ | ⟨_, hj⟩
        · right; right; right; left
          have hil := (List.getElem?_eq_some_iff.1 h1).1
          have hkl := Flow.key_len hb i hil
          have hg := Flow.key_goes hb i n h1
          have hE : Flow.fireE s t = 0 := by rw [ht]; exact fire_at hc (by omega) hg
          refine ⟨hv, by rw [ht, runOf_size]; omega, hE, ?_⟩
          intro t' e hf
          rcases finish_says hE hf with ⟨_, ⟨js, j1, j2⟩, _⟩ | ⟨he, _⟩
          · rw [ht] at j1
            obtain ⟨is, _, _, h4⟩ := run_split h16 hg j2 j1
            exact absurd ⟨is, h4⟩ h2
          · exact he
        · rcases hj with ⟨k, h1, h2, _, hv, ht⟩ | ⟨_, hv, ht⟩
          · right; right; right; right
            have hsz : t.size = 1 := by rw [ht, runOf_size]; rfl
            refine ⟨hv, hsz, ?_⟩
            intro t' e hf
            have hn : Flow.num (Flow.bt t 0) = k := by
              rw [ht, ← Flow.bt_at (s := Flow.runOf [k]) (k := 0) (by rw [runOf_size]; simp)]
              exact (sgn_num (k := k) (by omega)).2
            rcases enable_says hc hsz (by rw [hn]; exact h1) hf with ⟨_, js, m, _, _, hg, _⟩ | ⟨he, _⟩
            · rw [hn, Flow.goes_snoc] at hg
              cases hi : Flow.goes (Flow.readTr s) (Flow.first s) js with
              | none => rw [hi] at hg; cases hg
              | some m1 =>
                rw [hi] at hg
                obtain ⟨j, x, hj, hx, _⟩ := hb.complete h16 js m1 hi
                have := h2 j x (List.getElem?_eq_some_iff.1 hj).1 hj
                rw [hx] at this
                dsimp only at hg
                rw [this] at hg; cases hg
            · exact he
          · exact .inl ⟨hv, ht⟩
/-- where the judge says Sound, no transition is dead -/
theorem sound_alive {s : ByteArray} {v : Nat} {t : ByteArray} (h : Flow.JudgeA s v t 0) (hv : v = 1) {k : Nat} (hk : k < (Flow.readTr s).length) : ∃ is m, Flow.goes (Flow.readTr s) (Flow.first s) (is ++ [k]) = some m := by
  subst hv
  rcases h with ⟨a, h1, _⟩ | ⟨a, _, l, hb, hj⟩
  · omega
  · rcases hj with ⟨_, h⟩ | ⟨_, hj⟩
    · omega
    · rcases hj with ⟨_, _, _, _, _, h, _⟩ | ⟨_, hj⟩
      · omega
      · rcases hj with ⟨_, _, _, _, _, h, _⟩ | ⟨_, hj⟩
        · omega
        · rcases hj with ⟨_, _, _, _, h, _⟩ | ⟨nd, _⟩
          · omega
          · have hn := nd k hk
            have : ∃ (p : Nat) (n : Flow.Node), l[p]? = some n ∧ Flow.nextM (Flow.readTr s) n.mark k ≠ none := by
              apply Classical.byContradiction
              intro hc
              apply hn
              intro p n _ hp
              apply Classical.byContradiction
              intro hx
              exact hc ⟨p, n, hp, hx⟩
            obtain ⟨p, n, hp, hx⟩ := this
            cases e : Flow.nextM (Flow.readTr s) n.mark k with
            | none => exact absurd e hx
            | some m' => exact ⟨Flow.key l p, m', by rw [Flow.goes_snoc, Flow.key_goes hb p n hp]; exact e⟩
end Go.Proofs.Ytdlldljgogbiaab
namespace Go.Proofs.Ytdlldljgogbiaab
open Go.RowKit
set_option linter.unusedVariables false

theorem mix_mem : ∀ (w u v : List Nat), Flow.Mix w u v → ∀ c ∈ w, c ∈ u ∨ c ∈ v := by
  intro w
  induction w with
  | nil => intro u v _ c hc; cases hc
  | cons x w ih =>
    intro u v h c hc
    rcases h with ⟨u', rfl, h⟩ | ⟨v', rfl, h⟩
    · rcases List.mem_cons.1 hc with rfl | hc
      · exact .inl List.mem_cons_self
      · rcases ih _ _ h c hc with g | g
        · exact .inl (List.mem_cons_of_mem _ g)
        · exact .inr g
    · rcases List.mem_cons.1 hc with rfl | hc
      · exact .inr List.mem_cons_self
      · rcases ih _ _ h c hc with g | g
        · exact .inl g
        · exact .inr (List.mem_cons_of_mem _ g)
theorem has_letters (s : ByteArray) (n : Nat) : ∀ i, (Flow.scan s i).2.2 = true → s.size - i < n → ∀ u, Flow.Has s i u → ∀ c ∈ u, Flow.isTk c = true := by
  induction n with
  | zero => intro i _ h; omega
  | succ n ih =>
    intro i hok hn u hu c hc
    obtain ⟨hi, hch⟩ := Flow.scan_char hok
    rcases hch with h | h | h
    · rw [Flow.has_task hi h] at hu
      rw [hu] at hc
      rw [List.mem_singleton.1 hc]; exact h
    · obtain ⟨h1, _⟩ := Flow.scan_one hok h
      obtain ⟨ws, rfl, hws⟩ := (Flow.has_star hi h u).1 hu
      obtain ⟨x, hx, hcx⟩ := List.mem_flatten.1 hc
      exact ih (i + 1) h1 (by omega) x (hws x hx) c hcx
    · obtain ⟨h1, h2, _⟩ := Flow.scan_two hok h
      have hge := Flow.scan_ge s (i + 1)
      rcases h with h | h | h
      · obtain ⟨x, y, rfl, hx, hy⟩ := (Flow.has_seq hi h u).1 hu
        rcases List.mem_append.1 hc with g | g
        · exact ih _ h1 (by omega) x hx c g
        · exact ih _ h2 (by omega) y hy c g
      · rcases (Flow.has_alt hi h u).1 hu with g | g
        · exact ih _ h1 (by omega) u g c hc
        · exact ih _ h2 (by omega) u g c hc
      · obtain ⟨x, y, hm, hx, hy⟩ := (Flow.has_par hi h u).1 hu
        rcases mix_mem _ _ _ hm c hc with g | g
        · exact ih _ h1 (by omega) x hx c g
        · exact ih _ h2 (by omega) y hy c g
theorem isWord_of {w : ByteArray} (h : ∀ c ∈ Flow.nats w, Flow.isTk c = true) : Flow.IsWord w := by
  intro i hi
  apply h
  rw [← Flow.bt_at hi]
  unfold Flow.nats
  exact List.mem_map.2 ⟨w[i], by show w.data[i]'_ ∈ w.data.toList; simp, rfl⟩
theorem spelt_small {ts : List Flow.Tr} (h : ∀ t ∈ ts, Flow.Small t) (ks : List Nat) : ∀ c ∈ Flow.spelt ts ks, c < 256 := by
  intro c hc
  obtain ⟨k, _, hk⟩ := List.mem_filterMap.1 hc
  unfold Flow.lab at hk
  cases hx : ts[k]? with
  | none => rw [hx] at hk; cases hk
  | some t =>
    rw [hx] at hk
    dsimp only at hk
    split at hk
    · cases hk
    · injection hk with hk
      rw [← hk]
      exact (h t (List.mem_of_getElem? hx)).1
/-- what is come to by a run of the compiled net that has ended is a word of the process -/
theorem means_word {s T : ByteArray} {ks : List Nat} (h0 : Flow.readE s = 0) (hw : ∀ u, Flow.Spells (Flow.readTr T) (Flow.first T) u (Flow.lastQ T) ↔ Flow.Has s 0 u) (hg : Flow.goes (Flow.readTr T) (Flow.first T) ks = some (Flow.last T)) :
    Flow.Has s 0 (Flow.nats (speltT (Flow.readTr T) ks)) ∧ Flow.IsWord (speltT (Flow.readTr T) ks) := by
  have e : Flow.nats (speltT (Flow.readTr T) ks) = Flow.spelt (Flow.readTr T) ks := nats_textOf (spelt_small (readTr_small T) ks)
  have h : Flow.Has s 0 (Flow.nats (speltT (Flow.readTr T) ks)) := by rw [e]; exact (hw _).1 ⟨ks, hg, rfl⟩
  obtain ⟨_, hok, _⟩ := readE_ok h0
  exact ⟨h, isWord_of (fun c hc => has_letters s (s.size + 1) 0 hok (by omega) _ h c hc)⟩
theorem means_accepts {s word : ByteArray} {a : Bool} {f p : Nat} (h0 : Flow.readE s = 0) (hz : word.size ≤ 8) (hh : Flow.Has s 0 (Flow.nats word)) (hi : Flow.IsWord word) (h : Flow.AcceptsA s word a f p) : a = true ∧ f = 0 := by
  have hs := (readE_ok h0).1
  rcases h with ⟨a1, a2, a3, a4⟩ | ⟨a1, a2, a3, a4, a5⟩ | ⟨a1, a2, ⟨a3, a4, a5⟩, a6, a7⟩ | ⟨a1, a2, a3, a5, a6, a7⟩
  · exfalso; omega
  · exact absurd h0 a2
  · exact absurd hi (not_word a3 a4)
  · exact ⟨a5.2 hh, a6⟩
theorem means_plays {s T word : ByteArray} {b : Bool} {g : Nat} (hT : T.size ≤ 160) (hc : Flow.checkErr T = 0) (hw : ∀ u, Flow.Spells (Flow.readTr T) (Flow.first T) u (Flow.lastQ T) ↔ Flow.Has s 0 u) (hz : word.size ≤ 8) (hh : Flow.Has s 0 (Flow.nats word)) (hi : Flow.IsWord word) (h : Flow.PlaysA T word b g) : b = true ∧ g = 0 := by
  rcases h with ⟨b1, b2, b3⟩ | ⟨b1, b2, b3, b4⟩ | ⟨b1, b2, b3, b4, b5⟩ | ⟨b1, b2, b3, b4, b5⟩
  · exfalso; omega
  · exact absurd hc b2
  · exact absurd hi b3
  · exact ⟨b4.2 ((hw _).2 hh), b5⟩
end Go.Proofs.Ytdlldljgogbiaab
namespace Go.Proofs.Ytdlldljgogbiaab
open Go.RowKit
set_option linter.unusedVariables false
set_option maxRecDepth 40000

theorem yes_pos {p : Prop} (h : p) : decide (h := Classical.propDecidable p) p = true := by
  cases e : decide (h := Classical.propDecidable p) p with
  | true => rfl
  | false => exact absurd h (of_decide_eq_false (inst := Classical.propDecidable p) e)
theorem yes_neg {p : Prop} (h : ¬ p) : decide (h := Classical.propDecidable p) p = false := by
  cases e : decide (h := Classical.propDecidable p) p with
  | false => rfl
  | true => exact absurd (of_decide_eq_true (inst := Classical.propDecidable p) e) h
/-- what In answers -/
def InPost (A : List Nat → Prop) (word : ByteArray) (w : World) (e : Ending) (w' : World) : Prop := e = .returned (.bool ((decide (h := Classical.propDecidable _) (A (Flow.nats word))))) ∧ ∃ m, w' = w.drewN m

theorem nats_size (s : ByteArray) : (Flow.nats s).length = s.size := by unfold Flow.nats; simp
theorem nats_cut (s : ByteArray) (k : Nat) : Flow.nats (s.extract 0 k) = (Flow.nats s).take k := by
  unfold Flow.nats
  rw [ByteArray.data_extract, Array.toList_extract, List.extract_eq_take_drop, List.drop_zero, Nat.sub_zero, List.map_take]
theorem nats_rest (s : ByteArray) (k : Nat) : Flow.nats (s.extract k s.size) = (Flow.nats s).drop k := by
  unfold Flow.nats
  rw [ByteArray.data_extract, Array.toList_extract, List.extract_eq_take_drop, List.map_take, List.map_drop]
  apply List.take_of_length_le
  simp
theorem nats_add (a b : ByteArray) : Flow.nats (a ++ b) = Flow.nats a ++ Flow.nats b := by
  unfold Flow.nats
  simp
theorem nats_empty : Flow.nats ⟨#[]⟩ = [] := rfl
theorem nats_zero {s : ByteArray} (h : s.size = 0) : Flow.nats s = [] := List.length_eq_zero_iff.1 (by rw [nats_size]; exact h)
theorem nats_inj {a b : ByteArray} : a.toList = b.toList ↔ Flow.nats a = Flow.nats b := by
  rw [ByteArray.toList_eq, ByteArray.toList_eq]
  unfold Flow.nats
  constructor
  · intro h; rw [h]
  · intro h
    exact (List.map_inj_right (fun x y h => UInt8.toNat_inj.1 h)).1 h
theorem nats_head {s : ByteArray} (h : 0 < s.size) : Flow.nats s = s[0].toNat :: (Flow.nats s).drop 1 := by
  have := nats_take (s := s) (i := 0) h
  rw [List.take_zero, List.nil_append] at this
  rw [← List.singleton_append, ← this, Nat.zero_add, List.take_append_drop]

theorem drew_more {w W : World} (h : ∃ m, W = w.drewN m) (n : Nat) : ∃ m, W.drewN n = w.drewN m := by
  obtain ⟨m, rfl⟩ := h
  exact ⟨m + n, World.drewN_drewN _ _ _⟩

set_option maxHeartbeats 2000000 in
theorem mixedR_any (s : ByteArray) (i j : Nat) (A B : List Nat → Prop) (hA : ∀ word w, word.size < maxLen → Calls Try.prog 12 #[.string s, .int .i64 i, .string word] w (InPost A word w)) (hB : ∀ word w, word.size < maxLen → Calls Try.prog 12 #[.string s, .int .i64 j, .string word] w (InPost B word w)) (n : Nat) :
    ∀ (word u v : ByteArray) (w : World), word.size = n → word.size + u.size + v.size < maxLen → Calls Try.prog 27 #[.string s, .int .i64 i, .int .i64 j, .string word, .string u, .string v] w fun e w' => e = .returned (.bool ((decide (h := Classical.propDecidable _) (Flow.Deals A B (Flow.nats word) (Flow.nats u) (Flow.nats v))))) ∧ ∃ m, w' = w.drewN m := by
  induction n with
  | zero =>
    intro word u v w hn hz
    have c1 : ∀ w, Calls Try.prog 12 #[.string s, .int .i64 i, .string u] w fun e w' => e = .returned (.bool ((decide (h := Classical.propDecidable _) (A (Flow.nats u))))) ∧ ∃ m, w' = w.drewN m := fun w => hA u w (by omega)
    have c2 : ∀ w, Calls Try.prog 12 #[.string s, .int .i64 j, .string v] w fun e w' => e = .returned (.bool ((decide (h := Classical.propDecidable _) (B (Flow.nats v))))) ∧ ∃ m, w' = w.drewN m := fun w => hB v w (by omega)
    have te : (word.toList == []) = true := by
      rw [beq_iff_eq, ByteArray.toList_eq]
      apply List.length_eq_zero_iff.1
      simpa using hn
    have D : Flow.Deals A B (Flow.nats word) (Flow.nats u) (Flow.nats v) ↔ A (Flow.nats u) ∧ B (Flow.nats v) := by
      rw [nats_zero hn]; exact Flow.deals_nil
    obtain ⟨r, hr⟩ : ∃ r, r = (decide (h := Classical.propDecidable _) (Flow.Deals A B (Flow.nats word) (Flow.nats u) (Flow.nats v))) := ⟨_, rfl⟩
    rw [← hr]
    clear hA hB
    by_cases ha : A (Flow.nats u)
    · rw [yes_pos ha] at c1
      have R : Hid (r = (decide (h := Classical.propDecidable _) (B (Flow.nats v)))) := by
        show _ = _
        rw [hr]
        by_cases hb : B (Flow.nats v)
        · rw [yes_pos hb, yes_pos (D.2 ⟨ha, hb⟩)]
        · rw [yes_neg hb, yes_neg (fun h => hb (D.1 h).2)]
      clear D ha hr
      go_enter Try.func27, Try.ntmps27
      go_wp2_with (first | (go_at_call 12; have _t := te; refine (c1 _).mono ?_; rintro e w1 ⟨rfl, m1, rfl⟩; clear c1 _t) | (go_at_call 12; refine (c2 _).mono ?_; rintro e w2 ⟨rfl, m2, rfl⟩))
      go_ret
      exact ⟨by rw [R.out]; rfl, m1 + m2, rfl⟩
    · rw [yes_neg ha] at c1
      have R : Hid (r = false) := by show _ = _; rw [hr]; exact yes_neg (fun h => ha (D.1 h).1)
      clear D ha hr c2
      go_enter Try.func27, Try.ntmps27
      go_wp2_with (go_at_call 12; refine (c1 _).mono ?_; rintro e w1 ⟨rfl, m1, rfl⟩)
      go_ret
      exact ⟨by rw [R.out]; rfl, m1, rfl⟩
  | succ n ih =>
    intro word u v w hn hz
    have te : (word.toList == []) = false := by
      apply Bool.eq_false_iff.2
      intro h
      rw [beq_iff_eq, ByteArray.toList_eq] at h
      have := congrArg List.length h
      simp at this
      rw [this] at hn
      cases hn
    have h1 : 0 < word.size := by omega
    have hI1 : (1 : Int) ≤ (word.size : Int) := by omega
    have hs1 : (word.extract 1 word.size).size = n := by rw [ByteArray.size_extract]; omega
    have hs0 : (word.extract 0 1).size = 1 := by rw [ByteArray.size_extract]; omega
    have hz' := hz
    unfold maxLen at hz'
    have c1 := fun W => ih (word.extract 1 word.size) (u ++ word.extract 0 1) v W hs1 (by rw [ByteArray.size_append, hs0, hs1]; omega)
    have c2 := fun W => ih (word.extract 1 word.size) u (v ++ word.extract 0 1) W hs1 (by rw [ByteArray.size_append, hs0, hs1]; omega)
    have hsa := fun W : World => run_string_add_sum (P := Try.prog) (w := W) u (word.extract 0 1) (by rw [hs0]; omega)
    have hsb := fun W : World => run_string_add_sum (P := Try.prog) (w := W) v (word.extract 0 1) (by rw [hs0]; omega)
    have e1 : Flow.nats word = word[0].toNat :: Flow.nats (word.extract 1 word.size) := by rw [nats_rest]; exact nats_head h1
    have e0 : Flow.nats (word.extract 0 1) = [word[0].toNat] := by
      rw [nats_cut]
      have := nats_take (s := word) (i := 0) h1
      rw [List.take_zero, List.nil_append] at this
      exact this
    have D : Flow.Deals A B (Flow.nats word) (Flow.nats u) (Flow.nats v) ↔ Flow.Deals A B (Flow.nats (word.extract 1 word.size)) (Flow.nats (u ++ word.extract 0 1)) (Flow.nats v) ∨ Flow.Deals A B (Flow.nats (word.extract 1 word.size)) (Flow.nats u) (Flow.nats (v ++ word.extract 0 1)) := by
      rw [nats_add, nats_add, e0]
      conv => lhs; rw [e1]
      exact Flow.deals_cons
    obtain ⟨r, hr⟩ : ∃ r, r = (decide (h := Classical.propDecidable _) (Flow.Deals A B (Flow.nats word) (Flow.nats u) (Flow.nats v))) := ⟨_, rfl⟩
    rw [← hr]
    obtain ⟨x1, hx1⟩ : ∃ x, x = word.extract 1 word.size := ⟨_, rfl⟩
    obtain ⟨x0, hx0⟩ : ∃ x, x = word.extract 0 1 := ⟨_, rfl⟩
    by_cases d1 : Flow.Deals A B (Flow.nats (word.extract 1 word.size)) (Flow.nats (u ++ word.extract 0 1)) (Flow.nats v)
    · have R : Hid (r = true) := by show _ = _; rw [hr]; exact yes_pos (D.2 (.inl d1))
      rw [yes_pos d1] at c1
      clear hA hB ih e1 e0 hs1 hs0 hz hz' hn D d1 hr c2 hsb hx1 hx0
      go_enter Try.func27, Try.ntmps27
      go_wp2_with (fail)
      go_quiet ((go_at_call 27; exact Calls.quiet_of (c1 _)))
      go_wp2_with (fail)
      obtain ⟨W1, hW⟩ : ∃ W1, W1 = w.drewN nq := ⟨_, rfl⟩
      rw [← hW]
      have HW1 : Hid (∃ m, W1 = w.drewN m) := ⟨_, hW⟩
      clear hW
      go_quiet (fail)
      go_wp2_with (fail)
      go_ret
      exact ⟨by rw [R.out]; rfl, drew_more HW1.out _⟩
    · have R : Hid (r = (decide (h := Classical.propDecidable _) (Flow.Deals A B (Flow.nats (word.extract 1 word.size)) (Flow.nats u) (Flow.nats (v ++ word.extract 0 1))))) := by
        show _ = _
        rw [hr]
        by_cases d2 : Flow.Deals A B (Flow.nats (word.extract 1 word.size)) (Flow.nats u) (Flow.nats (v ++ word.extract 0 1))
        · rw [yes_pos d2]; exact yes_pos (D.2 (.inr d2))
        · rw [yes_neg d2]; exact yes_neg (fun h => (D.1 h).elim d1 d2)
      rw [yes_neg d1] at c1
      clear hA hB ih e1 e0 hs1 hs0 hz hz' hn D d1 hr hx1 hx0
      go_enter Try.func27, Try.ntmps27
      go_wp2_with (fail)
      go_quiet ((go_at_call 27; exact Calls.quiet_of (c1 _)))
      go_wp2_with (fail)
      obtain ⟨W1, hW⟩ : ∃ W1, W1 = w.drewN nq := ⟨_, rfl⟩
      rw [← hW]
      have HW1 : Hid (∃ m, W1 = w.drewN m) := ⟨_, hW⟩
      clear hW
      go_quiet ((go_at_call 27; exact Calls.quiet_of (c2 _)))
      go_wp2_with (fail)
      go_ret
      exact ⟨by rw [R.out]; rfl, drew_more HW1.out _⟩

set_option maxHeartbeats 4000000 in
theorem inR_any (s : ByteArray) (hs : s.size ≤ 65536) (n : Nat) : ∀ (i : Nat), (Flow.scan s i).2.2 = true → s.size - i < n → ∀ (word : ByteArray) (w : World), word.size < maxLen → Calls Try.prog 12 #[.string s, .int .i64 i, .string word] w (InPost (Flow.Has s i) word w) := by
  induction n with
  | zero => intro i _ h; omega
  | succ n ih =>
    intro i hok hn word w hz
    obtain ⟨h, hcs⟩ := Flow.scan_char hok
    have hge := Flow.scan_ge s (i + 1)
    rcases hcs with ht | hc | hc | hc | hc
    · have hb := Flow.bt_at h
      have ct : ∀ w, Calls Try.prog 26 #[.int .u8 (s[i].toNat : Int)] w fun e w' => e = .returned (.bool true) ∧ w = w' := fun w => by
        have := isTask_any s[i].toNat w
        rw [hb, ht] at this
        rw [hb]
        exact this.mono fun e w' h => ⟨h.1, h.2.symm⟩
      have hI0 : (0 : Int) ≤ (i : Int) := by omega
      have hI1 : (i : Int) < (s.size : Int) := by omega
      have hI2 : (i : Int) + 1 ≤ (s.size : Int) := by omega
      have en : Flow.nats (s.extract i (i + 1)) = [Flow.bt s i] := by
        unfold Flow.nats
        rw [ByteArray.data_extract, Array.toList_extract, List.extract_eq_take_drop, List.drop_eq_getElem_cons (by simpa using h), show i + 1 - i = 1 by omega]
        show [s[i].toNat] = _
        rw [hb]
      have R : Hid ((word.toList == (s.extract i (i + 1)).toList) = (decide (h := Classical.propDecidable _) (Flow.Has s i (Flow.nats word)))) := by
        show _ = _
        by_cases hh : Flow.nats word = [Flow.bt s i]
        · rw [yes_pos ((Flow.has_task h ht _).2 hh), beq_iff_eq, nats_inj, en]; exact hh
        · rw [yes_neg (fun g => hh ((Flow.has_task h ht _).1 g))]
          apply Bool.eq_false_iff.2
          intro g
          rw [beq_iff_eq, nats_inj, en] at g
          exact hh g
      clear ht hb en
      unfold InPost
      go_enter Try.func12, Try.ntmps12
      go_wp2_with (go_at_call 26; refine (ct _).mono ?_; rintro e w' ⟨rfl, rfl⟩)
      go_ret
      exact ⟨by rw [← R.out]; rfl, 0, rfl⟩
    · obtain ⟨ha, _, _⟩ := Flow.scan_one hok hc
      have iha := ih (i + 1) ha (by omega)
      have HE := Flow.has_star h hc
      have hbt := Flow.bt_at h
      have ct : ∀ w, Calls Try.prog 26 #[.int .u8 (s[i].toNat : Int)] w fun e w' => e = .returned (.bool false) ∧ w = w' := fun w => by
        have := isTask_any s[i].toNat w
        have hno : Flow.isTk (Flow.bt s i) = false := by
          apply Bool.eq_false_iff.2; exact Flow.isTk_no (by omega)
        rw [hbt, hno] at this
        rw [hbt]
        exact this.mono fun e w' h => ⟨h.1, h.2.symm⟩
      have t1 : ((s[i].toNat : Int) == 42) = true := by rw [hbt, hc]; rfl
      have hI0 : (0 : Int) ≤ (i : Int) := by omega
      have hI1 : (i : Int) < (s.size : Int) := by omega
      clear hbt
      clear hn ih
      induction hn : word.size using Nat.strongRecOn generalizing word w with
      | ind n2 ihw =>
        subst hn
        have hz' := hz
        unfold maxLen at hz'
        by_cases h0 : word.size = 0
        · have te : (word.toList == []) = true := by
            rw [beq_iff_eq, ByteArray.toList_eq]
            apply List.length_eq_zero_iff.1
            simpa using h0
          have R : Hid ((decide (h := Classical.propDecidable _) ((Flow.Has s i) (Flow.nats word))) = true) := yes_pos ((HE _).2 (by rw [nats_zero h0]; exact ⟨[], rfl, fun u hu => (by cases hu)⟩))
          unfold InPost
          clear ihw iha ha hc
          go_enter Try.func12, Try.ntmps12
          go_wp2_with (go_at_call 26; refine (ct _).mono ?_; rintro e w' ⟨rfl, rfl⟩)
          go_ret
          exact ⟨by rw [R.out]; rfl, 0, rfl⟩
        · have te : (word.toList == []) = false := by
            apply Bool.eq_false_iff.2
            intro h
            rw [beq_iff_eq, ByteArray.toList_eq] at h
            have := congrArg List.length h
            simp at this
            exact h0 (by rw [this]; rfl)
          have c1 : ∀ k w, Calls Try.prog 12 #[.string s, .int .i64 ((i : Int) + 1), .string (word.extract 0 k)] w fun e w' => e = .returned (.bool ((decide (h := Classical.propDecidable _) ((Flow.Has s (i + 1)) ((Flow.nats word).take k))))) ∧ ∃ m, w' = w.drewN m := fun k w => by
            have := iha (word.extract 0 k) w (by rw [ByteArray.size_extract]; omega)
            unfold InPost at this
            rw [nats_cut] at this
            exact this
          have c2 : ∀ k, 1 ≤ k → ∀ w, Calls Try.prog 12 #[.string s, .int .i64 (i : Int), .string (word.extract k word.size)] w fun e w' => e = .returned (.bool ((decide (h := Classical.propDecidable _) (Flow.Star (Flow.Has s (i + 1)) ((Flow.nats word).drop k))))) ∧ ∃ m, w' = w.drewN m := fun k hk1 w => by
            have := ihw (word.extract k word.size).size (by rw [ByteArray.size_extract]; omega) (word.extract k word.size) w (by rw [ByteArray.size_extract]; omega) rfl
            unfold InPost at this
            rw [nats_rest, propext (HE ((Flow.nats word).drop k))] at this
            exact this
          have L : Hid ((Flow.Has s i) (Flow.nats word) ↔ Flow.nats word = [] ∨ ∃ k, 1 ≤ k ∧ k ≤ word.size ∧ (Flow.Has s (i + 1)) ((Flow.nats word).take k) ∧ Flow.Star (Flow.Has s (i + 1)) ((Flow.nats word).drop k)) := by
            show _ ↔ _
            rw [← nats_size word]
            exact (HE _).trans Flow.star_iff
          have NE : Hid (Flow.nats word ≠ []) := fun e => h0 (by rw [← nats_size, e]; rfl)
          unfold InPost
          clear ihw iha ha hc
          go_enter Try.func12, Try.ntmps12
          go_wp2_with (go_at_call 26; refine (ct _).mono ?_; rintro e w' ⟨rfl, rfl⟩)
          go_loopw [8] (fun k' wr => ∃ (k : Nat), 1 ≤ k ∧ k ≤ word.size + 1 ∧ k' = .int .i64 k ∧ Hid (∃ m, wr = w.drewN m) ∧ Hid (∀ q, 1 ≤ q → q < k → ¬ ((Flow.Has s (i + 1)) ((Flow.nats word).take q) ∧ Flow.Star (Flow.Has s (i + 1)) ((Flow.nats word).drop q)))) (fun k' _ => word.size + 1 - (intOf k').toNat)
          case atStart => exact ⟨1, by omega, by omega, rfl, ⟨0, rfl⟩, fun q h1 hq => by omega⟩
          case round =>
            obtain ⟨k, hk1, hk, rfl, HW, HN⟩ := hrel
            by_cases hlt : k ≤ word.size
            · have c1k := c1 k
              have c2k := c2 k hk1
              have hJ0 : (0 : Int) ≤ (k : Int) := by omega
              have hJ1 : (k : Int) ≤ (word.size : Int) := by omega
              clear c1 c2
              by_cases d1 : (Flow.Has s (i + 1)) ((Flow.nats word).take k)
              · rw [yes_pos d1] at c1k
                by_cases d2 : Flow.Star (Flow.Has s (i + 1)) ((Flow.nats word).drop k)
                · rw [yes_pos d2] at c2k
                  have R : Hid ((decide (h := Classical.propDecidable _) ((Flow.Has s i) (Flow.nats word))) = true) := yes_pos (L.out.2 (.inr ⟨k, hk1, hlt, d1, d2⟩))
                  have tok : True := trivial
                  clear d1 d2
                  go_wp2_with (first | (go_at_call 12; have _t := tok; refine (c1k _).mono ?_; rintro e w1 ⟨rfl, m1, rfl⟩; clear tok _t) | (go_at_call 12; refine (c2k _).mono ?_; rintro e w2 ⟨rfl, m2, rfl⟩))
                  go_ret
                  exact ⟨by rw [R.out]; rfl, drew_more HW.out _⟩
                · rw [yes_neg d2] at c2k
                  have HN' : Hid (∀ q, 1 ≤ q → q < k + 1 → ¬ ((Flow.Has s (i + 1)) ((Flow.nats word).take q) ∧ Flow.Star (Flow.Has s (i + 1)) ((Flow.nats word).drop q))) := fun q hq1 hq hh => (by rcases Nat.lt_or_eq_of_le (Nat.lt_succ_iff.1 hq) with g | g; exact HN.out q hq1 g hh; subst g; exact d2 hh.2)
                  have tok : True := trivial
                  clear d1 d2
                  go_wp2_with (first | (go_at_call 12; have _t := tok; refine (c1k _).mono ?_; rintro e w1 ⟨rfl, m1, rfl⟩; clear tok _t) | (go_at_call 12; refine (c2k _).mono ?_; rintro e w2 ⟨rfl, m2, rfl⟩))
                  go_roundw
                  case rel => exact ⟨k + 1, by omega, by omega, by go_num, drew_more HW.out _, HN'⟩
                  case measure => simp [intOf]; omega
              · rw [yes_neg d1] at c1k
                have HN' : Hid (∀ q, 1 ≤ q → q < k + 1 → ¬ ((Flow.Has s (i + 1)) ((Flow.nats word).take q) ∧ Flow.Star (Flow.Has s (i + 1)) ((Flow.nats word).drop q))) := fun q hq1 hq hh => (by rcases Nat.lt_or_eq_of_le (Nat.lt_succ_iff.1 hq) with g | g; exact HN.out q hq1 g hh; subst g; exact d1 hh.1)
                clear d1 c2k
                go_wp2_with (go_at_call 12; refine (c1k _).mono ?_; rintro e w1 ⟨rfl, m1, rfl⟩)
                go_roundw
                case rel => exact ⟨k + 1, by omega, by omega, by go_num, drew_more HW.out _, HN'⟩
                case measure => simp [intOf]; omega
            · have R : Hid ((decide (h := Classical.propDecidable _) ((Flow.Has s i) (Flow.nats word))) = false) := yes_neg (fun hh => by
                rcases L.out.1 hh with e | ⟨q, hq1, hq, h1, h2⟩
                · exact NE.out e
                · exact HN.out q hq1 (by omega) ⟨h1, h2⟩)
              go_wp2_with (fail)
              go_ret
              exact ⟨by rw [R.out]; rfl, HW.out⟩
    · obtain ⟨ha, hb, _, _⟩ := Flow.scan_two hok (.inl hc)
      have iha := ih (i + 1) ha (by omega)
      have ihb := ih (Flow.scan s (i + 1)).1 hb (by omega)
      have HE := Flow.has_seq h hc
      have hle := Flow.scan_le s (i + 1) (by omega)
      obtain ⟨j1, d1, hsc⟩ : ∃ j1 d1, Flow.scan s (i + 1) = (j1, d1, true) := ⟨_, _, by rw [← ha]⟩
      rw [hsc] at ihb HE hle hge
      dsimp only at ihb HE hle hge
      have hbt := Flow.bt_at h
      have ct : ∀ w, Calls Try.prog 26 #[.int .u8 (s[i].toNat : Int)] w fun e w' => e = .returned (.bool false) ∧ w = w' := fun w => by
        have := isTask_any s[i].toNat w
        have hno : Flow.isTk (Flow.bt s i) = false := by
          apply Bool.eq_false_iff.2; exact Flow.isTk_no (by omega)
        rw [hbt, hno] at this
        rw [hbt]
        exact this.mono fun e w' h => ⟨h.1, h.2.symm⟩
      have cs : ∀ w, Calls Try.prog 21 #[.string s, .int .i64 ((i : Int) + 1)] w fun e w' => e = .returned (.tuple #[.int .i64 (j1 : Int), .int .i64 (d1 : Int), .bool true]) ∧ w = w' := fun w => by
        have := scanR_any s hs (s.size + 1) (i + 1) w (by omega) (by omega)
        rw [hsc] at this
        exact this
      have c1 : ∀ k w, Calls Try.prog 12 #[.string s, .int .i64 ((i : Int) + 1), .string (word.extract 0 k)] w fun e w' => e = .returned (.bool ((decide (h := Classical.propDecidable _) ((Flow.Has s (i + 1)) ((Flow.nats word).take k))))) ∧ ∃ m, w' = w.drewN m := fun k w => by
        have := iha (word.extract 0 k) w (by rw [ByteArray.size_extract]; omega)
        unfold InPost at this
        rw [nats_cut] at this
        exact this
      have c2 : ∀ k w, Calls Try.prog 12 #[.string s, .int .i64 (j1 : Int), .string (word.extract k word.size)] w fun e w' => e = .returned (.bool ((decide (h := Classical.propDecidable _) ((Flow.Has s j1) ((Flow.nats word).drop k))))) ∧ ∃ m, w' = w.drewN m := fun k w => by
        have := ihb (word.extract k word.size) w (by rw [ByteArray.size_extract]; omega)
        unfold InPost at this
        rw [nats_rest] at this
        exact this
      have t1 : ((s[i].toNat : Int) == 42) = false := by rw [hbt, hc]; rfl
      have t2 : ((s[i].toNat : Int) == 43) = false := by rw [hbt, hc]; rfl
      have t3 : ((s[i].toNat : Int) == 38) = false := by rw [hbt, hc]; rfl
      have hI0 : (0 : Int) ≤ (i : Int) := by omega
      have hI1 : (i : Int) < (s.size : Int) := by omega
      have L : Hid ((Flow.Has s i) (Flow.nats word) ↔ ∃ k, k ≤ word.size ∧ (Flow.Has s (i + 1)) ((Flow.nats word).take k) ∧ (Flow.Has s j1) ((Flow.nats word).drop k)) := by
        show _ ↔ _
        rw [← nats_size word]
        exact (HE _).trans Flow.seq_iff
      unfold InPost
      unfold maxLen at hz
      clear iha ihb hbt hsc hc ha hb
      go_enter Try.func12, Try.ntmps12
      go_wp2_with (first | (go_at_call 26; refine (ct _).mono ?_; rintro e w' ⟨rfl, rfl⟩) | (go_at_call 21; refine (cs _).mono ?_; rintro e w' ⟨rfl, rfl⟩))
      go_loopw [14] (fun k' wr => ∃ (k : Nat), k ≤ word.size + 1 ∧ k' = .int .i64 k ∧ Hid (∃ m, wr = w.drewN m) ∧ Hid (∀ q, q < k → ¬ ((Flow.Has s (i + 1)) ((Flow.nats word).take q) ∧ (Flow.Has s j1) ((Flow.nats word).drop q)))) (fun k' _ => word.size + 1 - (intOf k').toNat)
      case atStart => exact ⟨0, by omega, rfl, ⟨0, rfl⟩, fun q hq => by omega⟩
      case round =>
        obtain ⟨k, hk, rfl, HW, HN⟩ := hrel
        by_cases hlt : k ≤ word.size
        · have c1k := c1 k
          have c2k := c2 k
          have hJ0 : (0 : Int) ≤ (k : Int) := by omega
          have hJ1 : (k : Int) ≤ (word.size : Int) := by omega
          clear c1 c2
          by_cases d1 : (Flow.Has s (i + 1)) ((Flow.nats word).take k)
          · rw [yes_pos d1] at c1k
            by_cases d2 : (Flow.Has s j1) ((Flow.nats word).drop k)
            · rw [yes_pos d2] at c2k
              have R : Hid ((decide (h := Classical.propDecidable _) ((Flow.Has s i) (Flow.nats word))) = true) := yes_pos (L.out.2 ⟨k, hlt, d1, d2⟩)
              have tok : True := trivial
              clear d1 d2
              go_wp2_with (first | (go_at_call 12; have _t := tok; refine (c1k _).mono ?_; rintro e w1 ⟨rfl, m1, rfl⟩; clear tok _t) | (go_at_call 12; refine (c2k _).mono ?_; rintro e w2 ⟨rfl, m2, rfl⟩))
              go_ret
              exact ⟨by rw [R.out]; rfl, drew_more HW.out _⟩
            · rw [yes_neg d2] at c2k
              have HN' : Hid (∀ q, q < k + 1 → ¬ ((Flow.Has s (i + 1)) ((Flow.nats word).take q) ∧ (Flow.Has s j1) ((Flow.nats word).drop q))) := fun q hq hh => (by rcases Nat.lt_or_eq_of_le (Nat.lt_succ_iff.1 hq) with g | g; exact HN.out q g hh; subst g; exact d2 hh.2)
              have tok : True := trivial
              clear d1 d2
              go_wp2_with (first | (go_at_call 12; have _t := tok; refine (c1k _).mono ?_; rintro e w1 ⟨rfl, m1, rfl⟩; clear tok _t) | (go_at_call 12; refine (c2k _).mono ?_; rintro e w2 ⟨rfl, m2, rfl⟩))
              go_roundw
              case rel => exact ⟨k + 1, by omega, by go_num, drew_more HW.out _, HN'⟩
              case measure => simp [intOf]; omega
          · rw [yes_neg d1] at c1k
            have HN' : Hid (∀ q, q < k + 1 → ¬ ((Flow.Has s (i + 1)) ((Flow.nats word).take q) ∧ (Flow.Has s j1) ((Flow.nats word).drop q))) := fun q hq hh => (by rcases Nat.lt_or_eq_of_le (Nat.lt_succ_iff.1 hq) with g | g; exact HN.out q g hh; subst g; exact d1 hh.1)
            clear d1 c2k
            go_wp2_with (go_at_call 12; refine (c1k _).mono ?_; rintro e w1 ⟨rfl, m1, rfl⟩)
            go_roundw
            case rel => exact ⟨k + 1, by omega, by go_num, drew_more HW.out _, HN'⟩
            case measure => simp [intOf]; omega
        · have R : Hid ((decide (h := Classical.propDecidable _) ((Flow.Has s i) (Flow.nats word))) = false) := yes_neg (fun hh => by
            obtain ⟨q, hq, h1, h2⟩ := L.out.1 hh
            exact HN.out q (by omega) ⟨h1, h2⟩)
          go_wp2_with (fail)
          go_ret
          exact ⟨by rw [R.out]; rfl, HW.out⟩
    · obtain ⟨ha, hb, _, _⟩ := Flow.scan_two hok (.inr (.inl hc))
      have iha := ih (i + 1) ha (by omega)
      have ihb := ih (Flow.scan s (i + 1)).1 hb (by omega)
      have HE := Flow.has_alt h hc
      have hle := Flow.scan_le s (i + 1) (by omega)
      obtain ⟨j1, d1, hsc⟩ : ∃ j1 d1, Flow.scan s (i + 1) = (j1, d1, true) := ⟨_, _, by rw [← ha]⟩
      rw [hsc] at ihb HE hle hge
      dsimp only at ihb HE hle hge
      have hbt := Flow.bt_at h
      have ct : ∀ w, Calls Try.prog 26 #[.int .u8 (s[i].toNat : Int)] w fun e w' => e = .returned (.bool false) ∧ w = w' := fun w => by
        have := isTask_any s[i].toNat w
        have hno : Flow.isTk (Flow.bt s i) = false := by
          apply Bool.eq_false_iff.2; exact Flow.isTk_no (by omega)
        rw [hbt, hno] at this
        rw [hbt]
        exact this.mono fun e w' h => ⟨h.1, h.2.symm⟩
      have cs : ∀ w, Calls Try.prog 21 #[.string s, .int .i64 ((i : Int) + 1)] w fun e w' => e = .returned (.tuple #[.int .i64 (j1 : Int), .int .i64 (d1 : Int), .bool true]) ∧ w = w' := fun w => by
        have := scanR_any s hs (s.size + 1) (i + 1) w (by omega) (by omega)
        rw [hsc] at this
        exact this
      have c1 : ∀ w, Calls Try.prog 12 #[.string s, .int .i64 ((i : Int) + 1), .string word] w fun e w' => e = .returned (.bool ((decide (h := Classical.propDecidable _) ((Flow.Has s (i + 1)) (Flow.nats word))))) ∧ ∃ m, w' = w.drewN m := fun w => iha word w hz
      have c2 : ∀ w, Calls Try.prog 12 #[.string s, .int .i64 (j1 : Int), .string word] w fun e w' => e = .returned (.bool ((decide (h := Classical.propDecidable _) ((Flow.Has s j1) (Flow.nats word))))) ∧ ∃ m, w' = w.drewN m := fun w => ihb word w hz
      have t1 : ((s[i].toNat : Int) == 42) = false := by rw [hbt, hc]; rfl
      have t2 : ((s[i].toNat : Int) == 43) = true := by rw [hbt, hc]; rfl
      have hI0 : (0 : Int) ≤ (i : Int) := by omega
      have hI1 : (i : Int) < (s.size : Int) := by omega
      unfold InPost
      obtain ⟨r, hr⟩ : ∃ r, r = (decide (h := Classical.propDecidable _) ((Flow.Has s i) (Flow.nats word))) := ⟨_, rfl⟩
      rw [← hr]
      by_cases d1 : (Flow.Has s (i + 1)) (Flow.nats word)
      · have R : Hid (r = true) := by show _ = _; rw [hr]; exact yes_pos ((HE _).2 (.inl d1))
        rw [yes_pos d1] at c1
        clear iha ihb hbt hsc d1 hr c2 hc ha hb
        go_enter Try.func12, Try.ntmps12
        go_wp2_with (first | (go_at_call 26; refine (ct _).mono ?_; rintro e w' ⟨rfl, rfl⟩) | (go_at_call 21; refine (cs _).mono ?_; rintro e w' ⟨rfl, rfl⟩) | (go_at_call 12; refine (c1 _).mono ?_; rintro e w1 ⟨rfl, m1, rfl⟩))
        go_ret
        exact ⟨by rw [R.out]; rfl, m1, rfl⟩
      · have R : Hid (r = (decide (h := Classical.propDecidable _) ((Flow.Has s j1) (Flow.nats word)))) := by
          show _ = _
          rw [hr]
          by_cases d2 : (Flow.Has s j1) (Flow.nats word)
          · rw [yes_pos d2]; exact yes_pos ((HE _).2 (.inr d2))
          · rw [yes_neg d2]; exact yes_neg (fun h => ((HE _).1 h).elim d1 d2)
        rw [yes_neg d1] at c1
        have tok : True := trivial
        clear iha ihb hbt hsc d1 hr hc ha hb
        go_enter Try.func12, Try.ntmps12
        go_wp2_with (first | (go_at_call 26; refine (ct _).mono ?_; rintro e w' ⟨rfl, rfl⟩) | (go_at_call 21; refine (cs _).mono ?_; rintro e w' ⟨rfl, rfl⟩) | (go_at_call 12; have _t := tok; refine (c1 _).mono ?_; rintro e w1 ⟨rfl, m1, rfl⟩; clear tok _t) | (go_at_call 12; refine (c2 _).mono ?_; rintro e w2 ⟨rfl, m2, rfl⟩))
        go_ret
        exact ⟨by rw [R.out]; rfl, m1 + m2, rfl⟩
    · obtain ⟨ha, hb, _, _⟩ := Flow.scan_two hok (.inr (.inr hc))
      have iha := ih (i + 1) ha (by omega)
      have ihb := ih (Flow.scan s (i + 1)).1 hb (by omega)
      have HE := Flow.has_par h hc
      have hle := Flow.scan_le s (i + 1) (by omega)
      obtain ⟨j1, d1, hsc⟩ : ∃ j1 d1, Flow.scan s (i + 1) = (j1, d1, true) := ⟨_, _, by rw [← ha]⟩
      rw [hsc] at ihb HE hle hge
      dsimp only at ihb HE hle hge
      have hbt := Flow.bt_at h
      have ct : ∀ w, Calls Try.prog 26 #[.int .u8 (s[i].toNat : Int)] w fun e w' => e = .returned (.bool false) ∧ w = w' := fun w => by
        have := isTask_any s[i].toNat w
        have hno : Flow.isTk (Flow.bt s i) = false := by
          apply Bool.eq_false_iff.2; exact Flow.isTk_no (by omega)
        rw [hbt, hno] at this
        rw [hbt]
        exact this.mono fun e w' h => ⟨h.1, h.2.symm⟩
      have cs : ∀ w, Calls Try.prog 21 #[.string s, .int .i64 ((i : Int) + 1)] w fun e w' => e = .returned (.tuple #[.int .i64 (j1 : Int), .int .i64 (d1 : Int), .bool true]) ∧ w = w' := fun w => by
        have := scanR_any s hs (s.size + 1) (i + 1) w (by omega) (by omega)
        rw [hsc] at this
        exact this
      have c1 : ∀ w, Calls Try.prog 27 #[.string s, .int .i64 ((i : Int) + 1), .int .i64 (j1 : Int), .string word, .string ⟨#[]⟩, .string ⟨#[]⟩] w fun e w' => e = .returned (.bool ((decide (h := Classical.propDecidable _) ((Flow.Has s i) (Flow.nats word))))) ∧ ∃ m, w' = w.drewN m := fun w => by
        have := mixedR_any s (i + 1) j1 (Flow.Has s (i + 1)) (Flow.Has s j1) iha ihb word.size word ⟨#[]⟩ ⟨#[]⟩ w rfl (by show word.size + 0 + 0 < maxLen; omega)
        have e : (Flow.Has s i) (Flow.nats word) = Flow.Deals (Flow.Has s (i + 1)) (Flow.Has s j1) (Flow.nats word) [] [] := propext (HE _)
        rw [e]
        exact this
      have t1 : ((s[i].toNat : Int) == 42) = false := by rw [hbt, hc]; rfl
      have t2 : ((s[i].toNat : Int) == 43) = false := by rw [hbt, hc]; rfl
      have t3 : ((s[i].toNat : Int) == 38) = true := by rw [hbt, hc]; rfl
      have hI0 : (0 : Int) ≤ (i : Int) := by omega
      have hI1 : (i : Int) < (s.size : Int) := by omega
      unfold InPost
      clear iha ihb hbt hsc hc ha hb
      go_enter Try.func12, Try.ntmps12
      go_wp2_with (first | (go_at_call 26; refine (ct _).mono ?_; rintro e w' ⟨rfl, rfl⟩) | (go_at_call 21; refine (cs _).mono ?_; rintro e w' ⟨rfl, rfl⟩) | (go_at_call 27; refine (c1 _).mono ?_; rintro e w1 ⟨rfl, m1, rfl⟩))
      go_ret
      exact ⟨rfl, m1, rfl⟩
end Go.Proofs.Ytdlldljgogbiaab
namespace Go.Proofs.Ytdlldljgogbiaab
open Go.RowKit
set_option linter.unusedVariables false
set_option maxRecDepth 40000

theorem finish_ok {s run : ByteArray} {w W : World} {ts : List Flow.Tr} {M i : Nat} {l : List Flow.Node} {n : Flow.Node} (hE : Flow.fireE s run = 0) (h1 : ts = Flow.readTr s) (h2 : M = (Flow.played s run).1) (hl : Flow.last s = Flow.pbit (Flow.bt s 1)) (hb : Flow.Bfs ts M l) (hi : l[i]? = some n) (hn : n.mark = Flow.pbit (Flow.bt s 1)) (hw : Below w.heap.size w W) :
    FinishPost s run w (.returned (.tuple #[.string (Flow.runOf (Flow.key l i)), .int .i64 0])) W := by
  subst h1 h2
  exact ⟨_, 0, rfl, .inr ⟨hE, l, hb, .inl ⟨i, n, hi, by rw [hl]; exact hn, rfl, rfl⟩⟩, hw⟩
theorem finish_no {s run : ByteArray} {w W : World} {ts : List Flow.Tr} {M : Nat} {l : List Flow.Node} (hE : Flow.fireE s run = 0) (h1 : ts = Flow.readTr s) (h2 : M = (Flow.played s run).1) (hl : Flow.last s = Flow.pbit (Flow.bt s 1)) (hb : Flow.Bfs ts M l) (hn : ∀ (i : Nat) (n : Flow.Node), l[i]? = some n → n.mark ≠ Flow.pbit (Flow.bt s 1)) (hw : Below w.heap.size w W) :
    FinishPost s run w (.returned (.tuple #[.string ⟨#[]⟩, .int .i64 7])) W := by
  subst h1 h2
  exact ⟨_, 7, rfl, .inr ⟨hE, l, hb, .inr ⟨fun i n h => by rw [hl]; exact hn i n h, rfl, rfl⟩⟩, hw⟩

set_option maxHeartbeats 2000000 in
theorem finishF_any (s run : ByteArray) (w : World) (hs : s.size ≤ maxLen) (hr : run.size ≤ maxLen) : Calls Try.prog 14 #[.string s, .string run] w (FinishPost s run w) := by
  have c1 := fun w => playNet_any s run w hs hr
  by_cases hE : Flow.fireE s run = 0
  · obtain ⟨h1, h2, h4⟩ := fireE_ok hE
    obtain ⟨hok, hsz, hp0, hp1⟩ := checkErr_ok h2
    obtain ⟨hf, hfe⟩ := first_lt hp0
    have hle : Flow.last s = Flow.pbit (Flow.bt s 1) := by unfold Flow.last Flow.pbit; rw [if_pos hp1]
    have hlt : (Flow.played s run).1 < 65536 := steps_lt (readTr_small s) hf
    have c2 : ∀ w, Calls Try.prog 32 #[.string s, .string run] w fun e w' => ∃ a cap, e = .returned (.tuple #[.agg (netF (Flow.bt s 0) (Flow.bt s 1) a (Flow.readTr s).length cap), .int .i64 (Flow.played s run).1, .int .i64 0, .int .i64 (Flow.played s run).2.2]) ∧ Below w.heap.size w w' ∧ w'.ownsRow w.heap.size 135 3 (.slice a (Flow.readTr s).length cap) (Flow.readTr s).length (cellsF (Flow.readTr s)) := fun w => (c1 w).mono fun e w' h => by
      obtain ⟨hb, ⟨g, _⟩ | ⟨_, g, _⟩ | ⟨_, _, a, cap, he, ho⟩⟩ := h
      · exact absurd g h1
      · exact absurd h2 g
      · rw [h4] at he; exact ⟨a, cap, he, hb, ho⟩
    have c3 := fun a cap b' W ho => explore_any (Flow.readTr s) a cap (Flow.played s run).1 b' W hlt (readTr_small s) (readTr_size s) ho
    have HE : Hid (Flow.fireE s run = 0) := hE
    have HL : Hid (Flow.last s = Flow.pbit (Flow.bt s 1)) := hle
    clear c1 hE h1 h2 h4 hok hsz hp0 hp1 hf hfe hle hlt
    obtain ⟨ts, hts⟩ : ∃ ts, ts = Flow.readTr s := ⟨_, rfl⟩
    obtain ⟨M, hM⟩ : ∃ M, M = (Flow.played s run).1 := ⟨_, rfl⟩
    have TS : Hid (ts = Flow.readTr s ∧ M = (Flow.played s run).1) := ⟨hts, hM⟩
    rw [← hts, ← hM] at c2 c3
    have hlen : ts.length ≤ 16 := by rw [hts]; exact readTr_size s
    clear hts hM
    go_enter Try.func14, Try.ntmps14
    go_wp2_with (first
      | (go_at_call 32; refine (c2 _).mono ?_; rintro e w1 ⟨a, cap, rfl, hb1, ho1⟩; have HB1 : Hid _ := hb1; have HO1 : Hid (w1.ownsRow w.heap.size 135 3 (.slice a ts.length cap) ts.length (cellsF ts)) := ho1; clear hb1 ho1)
      | (go_at_call 33; refine (c3 a cap _ _ (HO1.out.alloc _)).mono ?_; rintro e w2 ⟨aV, cV, A, l, arr, rfl, hbfs, hrows, hb2⟩; have I2 : Hid (SeaIn (w2.alloc (.cells (seaC aV l.length cV A) 70)) 0 w2.heap.size l) := sea_new hrows; have BF : Hid (Flow.Bfs ts M l) := hbfs; have k3 : Blk w2 w1.heap.size (netF (Flow.bt s 0) (Flow.bt s 1) a ts.length cap) 64 := (Blk.new w1 _ _).below hb2 (by simp); have r0 : w2.cell? ⟨w1.heap.size, 0, none⟩ = some (.int .u8 (Flow.bt s 0)) := k3.cell 0; have r1 : w2.cell? ⟨w1.heap.size, 1, none⟩ = some (.int .u8 (Flow.bt s 1)) := k3.cell 1; have r2 : w2.cell? ⟨w1.heap.size, 2, none⟩ = some (.slice a ts.length cap) := k3.cell 2; have z3 := k3.lt; have E2 : Hid (Below w.heap.size w (w2.alloc (.cells (seaC aV l.length cV A) 70))) := (have q1 := HB1.out.size; have q2 := hb2.size; ((HB1.out.alloc q1 _).trans (hb2.mono (by simp; omega))).alloc (by simp at q2; omega) _); clear hbfs hrows hb2 k3)
      | (go_at_call 34; refine (endVisit_any ts M l (Flow.bt s 0) (Flow.bt s 1) a ts.length cap 0 w2.heap.size (l.length * 16) _ (Flow.bt_lt _ _) BF.out I2.out).mono ?_; rintro e w3 ⟨r, rfl, hr, hb3⟩; have I3 : Hid (SeaIn w3 0 w2.heap.size l) := I2.out.below hb3; have E3 : Hid (Below w.heap.size w w3) := E2.out.trans (hb3.mono E2.out.size); clear hb3; rcases hr with ⟨i, n, j1, j2, rfl⟩ | ⟨j3, rfl⟩)
      | (go_at_call 35; refine (runTo_any ts M l 0 w2.heap.size i (l.length * 16) _ BF.out (List.getElem?_eq_some_iff.1 j1).1 I3.out).mono ?_; rintro e w5 ⟨a5, cap5, rfl, ho, hb⟩; have hcv := string_of_owned (Flow.signs (Flow.key l i)) ho; have E5 : Hid (Below w.heap.size w w5) := E3.out.trans (hb.mono E3.out.size); clear hb ho))
    all_goals go_ret2
    all_goals (first
      | (have _t := j1; exact finish_ok HE.out TS.out.1 TS.out.2 HL.out BF.out j1 j2 E5.out)
      | exact finish_no HE.out TS.out.1 TS.out.2 HL.out BF.out j3 E3.out)
  · have t2 : ((Flow.fireE s run : Int) != 0) = true := by simp; omega
    have c2 : ∀ w, Calls Try.prog 32 #[.string s, .string run] w fun e w' => ∃ x y a n cap m p, e = .returned (.tuple #[.agg (netF x y a n cap), .int .i64 (m : Nat), .int .i64 (Flow.fireE s run), .int .i64 (p : Nat)]) ∧ Below w.heap.size w w' := fun w => (c1 w).mono fun e w' h => by
      obtain ⟨hb, ⟨g, he⟩ | ⟨g1, g2, he⟩ | ⟨g1, g2, a, cap, he, _⟩⟩ := h
      · refine ⟨0, 0, none, 0, 0, 0, 0, ?_, hb⟩
        rw [he]; unfold Flow.fireE; rw [if_pos g]; rfl
      · refine ⟨0, 0, none, 0, 0, 0, Flow.checkAt s, ?_, hb⟩
        rw [he]; unfold Flow.fireE; rw [if_neg g1, if_pos g2]; rfl
      · refine ⟨Flow.bt s 0, Flow.bt s 1, a, (Flow.readTr s).length, cap, (Flow.played s run).1, (Flow.played s run).2.2, ?_, hb⟩
        rw [he]; unfold Flow.fireE; rw [if_neg g1, if_neg (fun x => x g2)]
    clear c1
    go_enter Try.func14, Try.ntmps14
    go_wp2_with (go_at_call 32; refine (c2 _).mono ?_; rintro e w1 ⟨x, y, a, n, cap, m, p, rfl, hb1⟩; have HB1 : Hid _ := hb1; clear hb1)
    go_ret2
    exact ⟨⟨#[]⟩, Flow.fireE s run, rfl, .inl ⟨hE, rfl, rfl⟩, HB1.out.alloc HB1.out.size _⟩
end Go.Proofs.Ytdlldljgogbiaab
