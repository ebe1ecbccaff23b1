/-
  The program's Compile.
-/
import Derived.Test.YtdlldljgogbiaabGreatCplM
import Derived.Test.YtdlldljgogbiaabGreatNetM
import Derived.Test.YtdlldljgogbiaabGreatAccM
namespace Go.Proofs.YtdlldljgogbiaabGreat
open Go.RowKit
set_option linter.unusedVariables false
set_option maxRecDepth 40000

theorem cpl_pop {w : World} {S : Nat → Prop} {B : Nat} {aT aG : Option Addr} {cT cG : Nat} {T : List Nat} {k : Nat} {G : List (Nat × Nat)} {p : Nat × Nat} (h : CplA w S B aT cT aG cG T k (G ++ [p])) : Cpl (w.setCell ⟨B, 2, none⟩ (.slice aG G.length cG)) S B T k G := by
  have rG := h.rG
  rw [List.length_append, cellsG_snoc] at rG
  refine ⟨aT, cT, aG, cG, h.low, h.lowT, h.lowG, h.nT, h.nG, h.apart, ?_, owns_far h.rT (by rw [ownBlock_slice]; exact h.nT) _, owns_far (owns_pop rG (cellsG_len G)) (by rw [ownBlock_slice]; exact h.nG) _⟩
  have := h.blk.set 2 (.slice aG G.length cG)
  simpa using this
/-- gaps as the program holds them -/
def bytesG (Gt : List (Nat × Nat)) : List (Nat × Nat) := (Gt.map fun p => (65 + p.1, 65 + p.2)).reverse
theorem bytesG_cons (a b : Nat) (R : List (Nat × Nat)) : bytesG ((a, b) :: R) = bytesG R ++ [(65 + a, 65 + b)] := by simp [bytesG]
theorem bytesG_len (R : List (Nat × Nat)) : (bytesG R).length = R.length := by simp [bytesG]
theorem lay_fin {s : ByteArray} {i a b k : Nat} {R : List (Nat × Nat)} {T Tl : List Nat} (hi : i < s.size) (hT : SufAt s i Tl) (hl : Tl.length = R.length + 1) :
    ∃ Gt, laidG (Flow.bt s i) (65 + a) (65 + b) k (bytesG R) = bytesG Gt ∧ fin s Gt (i + 1) (laidK (Flow.bt s i) k) (laidT (Flow.bt s i) (65 + a) (65 + b) k T) = fin s ((a, b) :: R) i k T ∧ Gt.length ≤ R.length + 2 ∧ ∃ Tl', SufAt s (i + 1) Tl' ∧ Tl'.length = Gt.length := by
  obtain ⟨T', rfl, hok, hc⟩ := sufRead hi hT
  have hl' : T'.length = R.length := by simpa using hl
  rcases hc with ⟨hc, h1⟩ | ⟨hc, h1⟩ | ⟨hc, h1⟩
  · have ht := Flow.isTk_iff.1 hc
    refine ⟨R, by unfold laidG; rw [if_neg (by omega), if_neg (by omega), if_neg (by omega), if_neg (by omega)], ?_, by omega, T', h1, hl'⟩
    rw [fin_task hok hc]
    have e1 : laidK (Flow.bt s i) k = k := by unfold laidK; rw [if_neg (by omega), if_neg (by omega)]
    have e2 : laidT (Flow.bt s i) (65 + a) (65 + b) k T = T ++ [59, Flow.bt s i, 65 + a, 62, 65 + b] := by unfold laidT; rw [if_neg (by omega), if_neg (by omega), if_neg (by omega)]
    rw [e1, e2]
  · refine ⟨(k, k) :: R, by rw [bytesG_cons, hc]; simp [laidG], ?_, by simp, _, h1, by simp [hl']⟩
    rw [fin_star hok hc, hc]
    simp [laidK, laidT]
  · rcases hc with hc | hc | hc
    · refine ⟨(a, k) :: (k, b) :: R, by rw [bytesG_cons, bytesG_cons, hc]; simp [laidG], ?_, by simp, _, h1, by simp [hl']⟩
      rw [fin_seq hok hc, hc]
      simp [laidK, laidT]
    · refine ⟨(a, b) :: (a, b) :: R, by rw [bytesG_cons, bytesG_cons, hc]; simp [laidG], ?_, by simp, _, h1, by simp [hl']⟩
      rw [fin_alt hok hc, hc]
      simp [laidK, laidT]
    · refine ⟨(k, k + 2) :: (k + 1, k + 3) :: R, by rw [bytesG_cons, bytesG_cons, hc]; simp [laidG], ?_, by simp, _, h1, by simp [hl']⟩
      rw [fin_par hok hc, hc]
      simp [laidK, laidT]
theorem laidK_le (c k : Nat) : laidK c k ≤ k + 4 := by unfold laidK; split; omega; split <;> omega
theorem laidT_le (c x y k : Nat) (T : List Nat) : (laidT c x y k T).length ≤ T.length + 12 := by
  unfold laidT
  split
  · omega
  · split
    · simp
    · split <;> simp
theorem cellsC_B {T : List Nat} (h : ∀ c ∈ T, c < 256) : cellsC T = cellsB (T.map UInt8.ofNat) := by
  unfold cellsC cellsB
  rw [List.map_map]
  apply List.map_congr_left
  intro c hc
  show Value.int .u8 (c : Int) = .int .u8 ((UInt8.ofNat c).toNat : Int)
  rw [UInt8.toNat_ofNat_of_lt' (h c hc)]
/-- the text of bytes -/
def textOf (T : List Nat) : ByteArray := ⟨(T.map UInt8.ofNat).toArray⟩
theorem nats_textOf {T : List Nat} (h : ∀ c ∈ T, c < 256) : Flow.nats (textOf T) = T := by
  unfold Flow.nats textOf
  show (T.map UInt8.ofNat).map UInt8.toNat = T
  rw [List.map_map]
  have : ∀ c ∈ T, (UInt8.toNat ∘ UInt8.ofNat) c = id c := fun c hc => UInt8.toNat_ofNat_of_lt' (h c hc)
  rw [List.map_congr_left this, List.map_id]

set_option maxHeartbeats 4000000 in
theorem compileProcess_any (s : ByteArray) (w : World) (hs : s.size ≤ 8) (hok : (Flow.scan s 0).2.2 = true) (hend : (Flow.scan s 0).1 = s.size) (hby : ∀ c ∈ netB (comp s 0 0 1 2).1, c < 256) :
    Calls Tryz.prog 57 #[.string s] w fun e w' => e = .returned (.string (textOf (netB (comp s 0 0 1 2).1))) ∧ Below w.heap.size w w' := by
  obtain ⟨i0, hi, hz0, hz1, hz2⟩ := info_parts Tryz.infoB
  have BY : Hid (∀ c ∈ netB (comp s 0 0 1 2).1, c < 256) := hby
  have SU0 : Hid (∃ Tl, SufAt s 0 Tl ∧ Tl.length = ([(0, 1)] : List (Nat × Nat)).length) := ⟨[0], ⟨rfl, hok, hend⟩, rfl⟩
  have FN0 : Hid (fin s [(0, 1)] 0 2 [65, 66] = netB (comp s 0 0 1 2).1) := fin_start s
  generalize netB (comp s 0 0 1 2).1 = FT at BY FN0 ⊢
  have C0 : Hid (Cpl (w.alloc (.cells #[.slice none 0 0, .int .i64 0, .slice none 0 0] 140)) (fun i => i < w.heap.size) w.heap.size [] 0 []) := ⟨none, 0, none, 0, by omega, by simp [obk], by simp [obk], by simp [obk], by simp [obk], by simp [obk], Blk.new _ _ _, World.ownsRow_nil _ _ _ _, World.ownsRow_nil _ _ _ _⟩
  have S0 : Hid (∀ i, i < w.heap.size → i < (w.alloc (.cells #[.slice none 0 0, .int .i64 0, .slice none 0 0] 140)).heap.size) := by intro i hi; simp; omega
  have E0 : Hid (Kept (fun i => i < w.heap.size) w (w.alloc (.cells #[.slice none 0 0, .int .i64 0, .slice none 0 0] 140))) := (Kept.refl _ _).alloc (fun i hi => hi) _
  have cn0 : ∀ W, Cpl W (fun i => i < w.heap.size) w.heap.size [] 0 [] → Calls Tryz.prog 94 #[.pointer (some ⟨w.heap.size, 0, none⟩)] W fun e w' => e = .returned (.int .u8 65) ∧ Cpl w' (fun i => i < w.heap.size) w.heap.size [] 1 [] ∧ Kept (fun i => i < w.heap.size) W w' := fun W hW => newPlace_any [] 0 [] _ _ W (by omega) hW
  have cn1 : ∀ W, Cpl W (fun i => i < w.heap.size) w.heap.size [] 1 [] → Calls Tryz.prog 94 #[.pointer (some ⟨w.heap.size, 0, none⟩)] W fun e w' => e = .returned (.int .u8 66) ∧ Cpl w' (fun i => i < w.heap.size) w.heap.size [] 2 [] ∧ Kept (fun i => i < w.heap.size) W w' := fun W hW => newPlace_any [] 1 [] _ _ W (by omega) hW
  have co : ∀ W, (∀ i, i < w.heap.size → i < W.heap.size) → Cpl W (fun i => i < w.heap.size) w.heap.size [65, 66] 2 [] → Calls Tryz.prog 95 #[.pointer (some ⟨w.heap.size, 0, none⟩), .int .u8 65, .int .u8 66] W fun e w' => e = .returned (.tuple #[]) ∧ Cpl w' (fun i => i < w.heap.size) w.heap.size [65, 66] 2 ([] ++ [(65, 66)]) ∧ Kept (fun i => i < w.heap.size) W w' := fun W hs hW => open_any [65, 66] 2 [] 65 66 _ _ W (by simp) hs hW
  have tok : True := trivial
  clear hok hend hby
  go_enter Tryz.func57, Tryz.ntmps57
  go_wp2_with (first
    | (go_at_call 94; have _t := tok; refine (cn0 _ C0.out).mono ?_; rintro e w1 ⟨rfl, hc, hk1⟩; have C1 : Hid (Cpl w1 (fun i => i < w.heap.size) w.heap.size [] 1 []) := hc; have E1 : Hid (Kept (fun i => i < w.heap.size) w w1) := E0.out.trans hk1; clear hc hk1 tok)
    | (go_at_call 94; refine (cn1 _ C1.out).mono ?_; rintro e w2 ⟨rfl, hc, hk1⟩; have E2 : Hid (Kept (fun i => i < w.heap.size) w w2) := E1.out.trans hk1; have S2 : Hid (∀ i, i < w.heap.size → i < w2.heap.size) := (fun i hi => Nat.lt_of_lt_of_le hi E2.out.size); obtain ⟨aT, cT, aG, cG, ca⟩ := hc; have CA : Hid (CplA w2 (fun i => i < w.heap.size) w.heap.size aT cT aG cG [] 2 []) := ca; have RT : Hid (w2.ownsRow 0 5 1 (.slice aT 0 cT) 0 []) := ca.rT; have x0 : w2.cell? ⟨w.heap.size, 0, none⟩ = some (.slice aT 0 cT) := ca.blk.cell 0; have zB := ca.blk.lt; clear ca hk1)
    | (at_builtin; go_must (refine wpList_append_lies _ rfl _ _ 82 rfl 0 5 i0 (.int .u8 0) 1 1 Tryz.underlying82 hi hz0 hz1 hz2 rfl (by decide) (.slice aT 0 cT) _ _ rfl (RT.out.alloc _) ⟨w2.heap.size, 0, none⟩ 2 2 [.int .u8 65, .int .u8 66] rfl rfl (World.news_of_block (cs := #[.int .u8 65, .int .u8 66]) (Blk.new w2 _ _)) (fun x hx => by simp at hx; rcases hx with rfl | rfl <;> rfl) (by decide) (by unfold maxLen; omega) (by omega) (by simp) _ rfl ?_; intro g1 c1 w3 own1 gr1 at1 lt1; rw [ownBlock_slice] at gr1 at1; obtain ⟨x3, f3, z3, F1, F2⟩ := cpl_text (N := [65, 66]) CA.out ((Below.refl _ _).alloc (Nat.le_refl _) _) S2.out gr1 at1 own1; have C3 : Hid (Cpl (w3.setCell ⟨w.heap.size, 0, none⟩ (.slice (some ⟨g1, 0, none⟩) 2 c1)) (fun i => i < w.heap.size) w.heap.size [65, 66] 2 []) := F1; have E3 : Hid (Kept (fun i => i < w.heap.size) w (w3.setCell ⟨w.heap.size, 0, none⟩ (.slice (some ⟨g1, 0, none⟩) 2 c1))) := E2.out.trans F2; have S3 : Hid (∀ i, i < w.heap.size → i < (w3.setCell ⟨w.heap.size, 0, none⟩ (.slice (some ⟨g1, 0, none⟩) 2 c1)).heap.size) := (fun i hi => Nat.lt_of_lt_of_le hi E3.out.size); clear gr1 own1 at1 lt1 F1 F2))
    | (go_at_call 95; refine (co _ S3.out C3.out).mono ?_; rintro e w4 ⟨rfl, hc, hk1⟩; have C4 : Hid (Cpl w4 (fun i => i < w.heap.size) w.heap.size [65, 66] 2 (bytesG [(0, 1)])) := hc; have E4 : Hid (Kept (fun i => i < w.heap.size) w w4) := E3.out.trans hk1; clear hc hk1))
  clear C0 S0 E0 cn0 cn1 co C1 E1 E2 S2 CA RT x0 zB x3 f3 z3 C3 E3 S3 hi hz0 hz1 hz2
  go_loopw [6] (fun i' wr => ∃ (i k : Nat) (T : List Nat) (Gt : List (Nat × Nat)), i ≤ s.size ∧ i' = .int .i64 i ∧ k ≤ 2 + 4 * i ∧ T.length ≤ 2 + 12 * i ∧ Gt.length ≤ 1 + 2 * i ∧ Hid (fin s Gt i k T = FT) ∧ Hid (∃ Tl, SufAt s i Tl ∧ Tl.length = Gt.length) ∧ Hid (Cpl wr (fun i => i < w.heap.size) w.heap.size T k (bytesG Gt)) ∧ Hid (Kept (fun i => i < w.heap.size) w wr)) (fun i' _ => s.size - (intOf i').toNat)
  case atStart => exact ⟨0, 2, [65, 66], [(0, 1)], by omega, rfl, by omega, by simp, by simp, FN0, SU0, C4, E4⟩
  case round =>
    clear C4 E4 FN0 SU0
    obtain ⟨i, k, T, Gt, hil, rfl, hk, hTl, hGl, FN, SU, CP, HW⟩ := hrel
    obtain ⟨aT, cT, aG, cG, ca⟩ := CP.out
    have x2 : wr.cell? ⟨w.heap.size, 2, none⟩ = some (.slice aG (bytesG Gt).length cG) := ca.blk.cell 2
    have x0 : wr.cell? ⟨w.heap.size, 0, none⟩ = some (.slice aT T.length cT) := ca.blk.cell 0
    have zB := ca.blk.lt
    by_cases hlt : i < s.size
    · obtain ⟨Tl, hT1, hT2⟩ := SU.out
      cases Gt with
      | nil =>
        obtain ⟨T', e, _⟩ := suf_head hlt hT1
        rw [e] at hT2; simp at hT2
      | cons p R =>
        obtain ⟨a, b⟩ := p
        obtain ⟨Gt', g1, g2, g3, g4⟩ := lay_fin (a := a) (b := b) (k := k) (T := T) (R := R) hlt hT1 (by simpa using hT2)
        rw [bytesG_cons] at ca x2
        have hLk := laidK_le (Flow.bt s i) k
        have hLT := laidT_le (Flow.bt s i) (65 + a) (65 + b) k T
        have bl := bytesG_len R
        simp at hGl
        have CPp : Hid (∀ W, Below wr.heap.size wr W → Cpl (W.setCell ⟨w.heap.size, 2, none⟩ (.slice aG (bytesG R).length cG)) (fun i => i < w.heap.size) w.heap.size T k (bytesG R)) := fun W hW => cpl_pop (ca.below hW)
        have rg := ca.rG
        rw [List.length_append, cellsG_snoc] at rg
        rw [List.length_append] at x2
        replace x2 : wr.cell? ⟨w.heap.size, 2, none⟩ = some (.slice aG ((bytesG R).length + 1) cG) := x2
        have hcap := owns_cap rg
        obtain ⟨g, cx, hv, _, hg2⟩ := rg.form (by simp)
        injection hv with e1 _ e3
        subst e1 e3
        have d0 := rg.cellAt ((bytesG R).length * 2) (by simp)
        have d1 := rg.cellAt ((bytesG R).length * 2 + 1) (by simp; omega)
        rw [List.getElem?_append_right (by rw [cellsG_len]; omega), cellsG_len] at d0 d1
        have z0 : (bytesG R).length * 2 - (bytesG R).length * 2 = 0 := by omega
        have z1 : (bytesG R).length * 2 + 1 - (bytesG R).length * 2 = 1 := by omega
        rw [z0] at d0
        rw [z1] at d1
        simp only [List.getElem?_cons_zero, List.getElem?_cons_succ] at d0 d1
        have y2 := ca.blk.froz 2
        have cl : ∀ W, (∀ i, i < w.heap.size → i < W.heap.size) → Cpl W (fun i => i < w.heap.size) w.heap.size T k (bytesG R) → Calls Tryz.prog 96 #[.pointer (some ⟨w.heap.size, 0, none⟩), .int .u8 (s[i].toNat : Int), .agg #[.int .u8 ((65 + a : Nat) : Int), .int .u8 ((65 + b : Nat) : Int)]] W fun e w' => e = .returned (.tuple #[]) ∧ Cpl w' (fun i => i < w.heap.size) w.heap.size (laidT (Flow.bt s i) (65 + a) (65 + b) k T) (laidK (Flow.bt s i) k) (bytesG Gt') ∧ Kept (fun i => i < w.heap.size) W w' := fun W hs2 hW => by
          rw [Flow.bt_at hlt, ← g1]
          exact lay_any (Flow.bt s i) T k (bytesG R) (65 + a) (65 + b) _ _ W (by omega) (by omega) (by omega) hs2 hW
        have FN2 : Hid (fin s Gt' (i + 1) (laidK (Flow.bt s i) k) (laidT (Flow.bt s i) (65 + a) (65 + b) k T) = FT) := g2.trans FN.out
        have SU2 : Hid (∃ Tl, SufAt s (i + 1) Tl ∧ Tl.length = Gt'.length) := g4
        generalize laidT (Flow.bt s i) (65 + a) (65 + b) k T = T2 at cl FN2 hLT
        generalize laidK (Flow.bt s i) k = k2 at cl FN2 hLk
        obtain ⟨xa, hxa⟩ : ∃ xa, xa = 65 + a := ⟨_, rfl⟩
        obtain ⟨xb, hxb⟩ : ∃ xb, xb = 65 + b := ⟨_, rfl⟩
        have d0' : wr.cell? ⟨g, (bytesG R).length * 2, none⟩ = some (.int .u8 (xa : Int)) := by rw [hxa]; exact d0
        have d1' : wr.cell? ⟨g, (bytesG R).length * 2 + 1, none⟩ = some (.int .u8 (xb : Int)) := by rw [hxb]; exact d1
        rw [← hxa, ← hxb] at cl
        generalize hL : (bytesG R).length = L at x2 CPp d0' d1' bl
        have hcl : cG ≤ 2 ^ 63 - 1 := hcap.2
        have hlc : L + 1 ≤ cG := by have := hcap.1; simp at this; omega
        have hI0 : (0 : Int) ≤ (i : Int) := by omega
        have hI1 : (i : Int) < (s.size : Int) := by omega
        have hJ0 : (0 : Int) ≤ (L : Int) := by omega
        have hJ1 : (L : Int) < (L : Int) + 1 := by omega
        have hL8 : L ≤ 100 := by omega
        have BIN : Hid (i + 1 ≤ s.size ∧ k2 ≤ 2 + 4 * (i + 1) ∧ T2.length ≤ 2 + 12 * (i + 1) ∧ Gt'.length ≤ 1 + 2 * (i + 1)) := ⟨by omega, by omega, by omega, by omega⟩
        clear ca rg d0 d1 z0 z1 hcap g1 g2 g3 g4 hT1 hT2 SU FN CP hL hxa hxb hLk hLT hk hTl hGl bl
        have C5 : Hid (Cpl ((wr.setCell ⟨w.heap.size, 2, none⟩ (.slice (some ⟨g, 0, none⟩) L cG)).alloc (.cells #[.int .u8 (xa : Int), .int .u8 (xb : Int)] 144)) (fun i => i < w.heap.size) w.heap.size T k (bytesG R)) := (CPp.out wr (Below.refl _ _)).below ((Below.refl _ _).alloc (Nat.le_refl _) _)
        have K5 : Hid (Kept (fun i => i < w.heap.size) w ((wr.setCell ⟨w.heap.size, 2, none⟩ (.slice (some ⟨g, 0, none⟩) L cG)).alloc (.cells #[.int .u8 (xa : Int), .int .u8 (xb : Int)] 144))) := (HW.out.setCell (p := ⟨w.heap.size, 2, none⟩) (by show ¬ w.heap.size < w.heap.size; omega) _).alloc (fun j hj => by have h1 := HW.out.size; have h2 : j < w.heap.size := hj; have h3 := ((Below.refl 0 wr).setCell (p := ⟨w.heap.size, 2, none⟩) (Nat.zero_le _) (.slice (some ⟨g, 0, none⟩) L cG)).size; omega) _
        have S5 : Hid (∀ j, j < w.heap.size → j < ((wr.setCell ⟨w.heap.size, 2, none⟩ (.slice (some ⟨g, 0, none⟩) L cG)).alloc (.cells #[.int .u8 (xa : Int), .int .u8 (xb : Int)] 144)).heap.size) := fun j hj => Nat.lt_of_lt_of_le hj K5.out.size
        have C5d : Hid (Cpl ((wr.setCell ⟨w.heap.size, 2, none⟩ (.slice (some ⟨g, 0, none⟩) L cG)).alloc (.cells #[.int .u8 (xa : Int), .int .u8 (xb : Int)] 144)).drew (fun i => i < w.heap.size) w.heap.size T k (bytesG R)) := C5.out.below (Below.refl _ _).drew
        have S5d : Hid (∀ j, j < w.heap.size → j < ((wr.setCell ⟨w.heap.size, 2, none⟩ (.slice (some ⟨g, 0, none⟩) L cG)).alloc (.cells #[.int .u8 (xa : Int), .int .u8 (xb : Int)] 144)).drew.heap.size) := fun j hj => S5.out j hj
        have K5d : Hid (Kept (fun i => i < w.heap.size) w ((wr.setCell ⟨w.heap.size, 2, none⟩ (.slice (some ⟨g, 0, none⟩) L cG)).alloc (.cells #[.int .u8 (xa : Int), .int .u8 (xb : Int)] 144)).drew) := K5.out.drew
        clear CPp HW C5 S5 K5
        go_wp2
        go_region_with (go_at_call 96; go_loud (refine (cl _ S5d.out C5d.out).mono ?_; rintro e w6 ⟨rfl, hc, hk1⟩; have C6 : Hid (Cpl w6 (fun i => i < w.heap.size) w.heap.size T2 k2 (bytesG Gt')) := hc; have K6 : Hid (Kept (fun i => i < w.heap.size) w w6) := K5d.out.trans hk1; clear hc hk1))
        all_goals go_wp2
        all_goals go_roundw
        all_goals (first | (simp [intOf]; omega) | exact ⟨i + 1, k2, T2, Gt', BIN.out.1, by go_num, BIN.out.2.1, BIN.out.2.2.1, BIN.out.2.2.2, FN2, SU2, C6, K6⟩)
    · obtain rfl : i = s.size := by omega
      obtain ⟨Tl, hT1, hT2⟩ := SU.out
      have hTl0 : Tl = [] := suf_unique hT1 rfl
      subst hTl0
      have hG0 : Gt = [] := List.eq_nil_of_length_eq_zero hT2.symm
      subst hG0
      have hTF : T = FT := FN.out
      subst hTF
      have hcv := string_of_owned (w := wr) (base := 0) (a := aT) (cap := cT) (T.map UInt8.ofNat) (by rw [List.length_map, ← cellsC_B BY.out]; exact ca.rT)
      rw [List.length_map] at hcv
      have E : Hid (Below w.heap.size w wr) := HW.out.below (fun i hi => hi)
      have ET : Hid ((⟨(T.map UInt8.ofNat).toArray⟩ : ByteArray) = textOf T) := rfl
      generalize (⟨(T.map UInt8.ofNat).toArray⟩ : ByteArray) = TX at hcv ET
      clear ca hT1 hT2 FN SU CP HW x2
      go_wp2
      go_ret
      exact ⟨by rw [← ET.out]; rfl, E.out⟩

/-- what Compile answers -/
def CompilePost (s : ByteArray) (w : World) (en : Ending) (w' : World) : Prop :=
  (∃ e p : Nat, en = .returned (.tuple #[.string ⟨#[]⟩, .int .i64 e, .int .i64 p]) ∧ e = Flow.readE s ∧ p = Flow.readP s ∧ e ≠ 0 ∧ Below w.heap.size w w') ∨
  (∃ T : ByteArray, en = .returned (.tuple #[.string T, .int .i64 0, .int .i64 0]) ∧ Flow.readE s = 0 ∧ Flow.readP s = 0 ∧ T.size ≤ 160 ∧ Flow.checkErr T = 0 ∧ (∀ u, Flow.Spells (Flow.readTr T) (Flow.first T) u (Flow.lastQ T) ↔ Flow.Has s 0 u) ∧ (∀ l v t, Flow.Bfs (Flow.readTr T) (Flow.first T) l → Flow.JudgeIs (Flow.readTr T) (Flow.last T) l v t → v = 1) ∧ (∀ ks m, Flow.goes (Flow.readTr T) (Flow.first T) ks = some m → (∀ k, ¬ Flow.spillM (Flow.readTr T) m k) ∧ Flow.CanEnd (Flow.readTr T) (Flow.last T) m) ∧ Below w.heap.size w w')
set_option maxHeartbeats 1000000 in
theorem compileF_any (s : ByteArray) (w : World) (hs : s.size ≤ maxLen) : Calls Tryz.prog 28 #[.string s] w (CompilePost s w) := by
  have c1 := fun w => readProcess_any s w hs
  by_cases h2 : Flow.readE s = 0
  · obtain ⟨hsz, hok, hend, hn8⟩ := readE_ok h2
    have hnd := nodes_eq hok
    obtain ⟨In, P, p1, p2, p3, p4, p5⟩ := comp_piece hok 0 1 2 (by omega) (by omega) (by omega)
    have hby := netB_bytes (rs := (comp s 0 0 1 2).1) (k' := (comp s 0 0 1 2).2) (by omega) p5
    have c2 := fun w => compileProcess_any s w (by omega) hok hend hby
    have HP : Flow.readP s = 0 := by
      unfold Flow.readP
      rw [if_neg (by omega), if_neg (by rw [hok, hend]; rintro (x | x); cases x; omega)]
    obtain ⟨n1, n2, n3, n5, n4⟩ := comp_net (T := textOf (netB (comp s 0 0 1 2).1)) hok hn8 (nats_textOf hby)
    have R : Hid (∀ W, Below w.heap.size w W → CompilePost s w (.returned (.tuple #[.string (textOf (netB (comp s 0 0 1 2).1)), .int .i64 0, .int .i64 0])) W) := fun W hW => .inr ⟨_, rfl, h2, HP, n4, n1, n2, n3, n5, hW⟩
    rw [h2, HP] at c1
    generalize textOf (netB (comp s 0 0 1 2).1) = T at c2 R
    clear h2 hsz hok hend hn8 hnd P p1 p2 p3 p4 p5 hby HP n1 n2 n3 n4 n5
    go_enter Tryz.func28, Tryz.ntmps28
    go_wp2_with (first
      | (go_at_call 55; refine (c1 _).mono ?_; rintro e w' ⟨rfl, rfl⟩)
      | (go_at_call 57; refine (c2 _).mono ?_; rintro e w2 ⟨rfl, hb2⟩; have HB2 : Hid (Below w.heap.size w w2) := hb2; clear hb2))
    go_ret3
    exact R.out _ HB2.out
  · have t2 : ((Flow.readE s : Int) != 0) = true := by simp; omega
    go_enter Tryz.func28, Tryz.ntmps28
    go_wp2_with (go_at_call 55; refine (c1 _).mono ?_; rintro e w' ⟨rfl, rfl⟩)
    go_ret3
    exact .inl ⟨Flow.readE s, Flow.readP s, rfl, rfl, rfl, h2, Below.refl _ _⟩
end Go.Proofs.YtdlldljgogbiaabGreat
