/-
  The program's words of a process.
-/
import Derived.Test.YtdlldljgogbiaabStkF
import Derived.Test.YtdlldljgogbiaabPartP
import Derived.Test.YtdlldljgogbiaabReadP
namespace Go.Proofs.Ytdlldljgogbiaab
open Go.RowKit
set_option linter.unusedVariables false
set_option maxRecDepth 40000

theorem has_set {s : ByteArray} {wd : List Nat} {i : Nat} {h : Nat → Bool} {Lg : List Nat → Prop} (hl : ∀ x, Flow.Has s i x ↔ Lg x) (hs : SetIs wd h Lg) : SetIs wd h (Flow.Has s i) := fun p hp => by rw [hs p hp, hl]

/-- what read answers -/
def ReadPost2 (s : ByteArray) (wd : List Nat) (i base B : Nat) (w : World) (e : Ending) (w' : World) : Prop :=
  ∃ f R T, e = .returned (.agg (cellsP f)) ∧ SetIs wd f (Flow.Has s i) ∧ StackIs s wd R T ∧ SufAt s i (i :: T) ∧ R.length ≤ 23 ∧ Stk w' base B R.reverse ∧ Below base w w'

theorem StkA.offRow {w : World} {base B b : Nat} {aS : Option Addr} {cS : Nat} {L : List (Nat → Bool)} (h : StkA w base B aS cS L) (h1 : b ≠ B) (h2 : obk aS ≠ some b) (c : Array Value) : StkA (w.setRow b c) base B aS cS L := by
  obtain ⟨g1, g2, g3, g4⟩ := h
  exact ⟨g1, g2, g3.offRow _ (fun x => h1 x.symm), owns_offRow g4 h2 _⟩
/-- a variable that was just made is filled -/
structure Var (w w1 : World) (base B : Nat) (aS : Option Addr) (cS : Nat) (L : List (Nat → Bool)) (N : Nat) : Prop where
  stk : StkA w1 base B aS cS L
  bel : Below base w w1
  res : Blk w1 N (cellsP fun _ => false) 115
  offB : B < N
  offS : ∀ g, obk aS = some g → g < N
  low : base ≤ N
theorem Var.ret {w w1 : World} {base B : Nat} {aS : Option Addr} {cS : Nat} {L : List (Nat → Bool)} {N : Nat} (v : Var w w1 base B aS cS L N) (h : Nat → Bool) : Blk (w1.setRow N (cellsP h)) N (cellsP h) 115 ∧ StkA (w1.setRow N (cellsP h)) base B aS cS L ∧ Below base w (w1.setRow N (cellsP h)) :=
  ⟨v.res.setRow _, v.stk.offRow (by have := v.offB; omega) (fun e => by have := v.offS N e; omega) _, below_setRow v.bel v.low _⟩
theorem Var.below {w w1 w2 : World} {base B : Nat} {aS : Option Addr} {cS : Nat} {L : List (Nat → Bool)} {N : Nat} (v : Var w w1 base B aS cS L N) (hb : Below w1.heap.size w1 w2) : Var w w2 base B aS cS L N :=
  ⟨v.stk.below hb, v.bel.trans (hb.mono (by have := v.res.lt; have := v.low; omega)), v.res.below hb v.res.lt, v.offB, v.offS, v.low⟩
/-- pop, and the variable that it is laid into -/
theorem Var.pop {w w1 w2 : World} {base B : Nat} {aS : Option Addr} {cS : Nat} {L L' : List (Nat → Bool)} {N : Nat} (v : Var w w1 base B aS cS L' N) (hs : StkA w2 base B aS cS L) (hk : Kept (fun k => k ≠ B ∧ k < w1.heap.size) w1 w2) (h : Nat → Bool) :
    Var w ((w2.alloc (.cells (cellsP fun _ => false) 115)).setRow w2.heap.size (cellsP h)) base B aS cS L N ∧ Blk ((w2.alloc (.cells (cellsP fun _ => false) 115)).setRow w2.heap.size (cellsP h)) w2.heap.size (cellsP h) 115 := by
  have hN := v.res.lt
  have hz := hk.size
  have hlow := v.low
  have hoB := v.offB
  refine ⟨⟨(hs.below ((Below.refl _ _).alloc (Nat.le_refl _) _)).offRow (by omega) (fun e => by have := v.offS _ e; omega) _, below_setRow ((v.bel.trans (hk.below (fun k hk => ⟨by have := hs.1; omega, by omega⟩))).alloc (by omega) _) (by omega) _, ((v.res.kept hk ⟨by omega, hN⟩).alloc _).offRow _ (by omega), v.offB, v.offS, v.low⟩, (Blk.new _ _ _).setRow _⟩

theorem pop_keeps {w1 w2 : World} {B Z : Nat} {cs c : Array Value} {ty : TypeId} (hk : Kept (fun k => k ≠ B ∧ k < w1.heap.size) w1 w2) (hz : Blk w1 Z cs ty) (hne : Z ≠ B) : Blk ((w2.alloc (.cells (cellsP fun _ => false) 115)).setRow w2.heap.size c) Z cs ty :=
  ((hz.kept hk ⟨hne, hz.lt⟩).alloc _).offRow _ (by have := hz.lt; have := hk.size; omega)

set_option maxHeartbeats 4000000 in
theorem read_any (s word : ByteArray) (i base B : Nat) (R : List (Nat → Bool)) (T T1 : List Nat) (w : World) (hi : i < s.size) (hw : word.size ≤ 8) (hT : SufAt s i T) (hT1 : SufAt s (i + 1) T1) (hR : StackIs s (Flow.nats word) R T1) (hRl : R.length ≤ 23) (hbase : base ≤ w.heap.size) (hst : Stk w base B R.reverse) :
    Calls Try.prog 63 #[.pointer (some ⟨B, 0, none⟩), .int .u8 (Flow.bt s i : Int), .string word, .int .i64 ((2 ^ word.size - 1 : Nat) : Int)] w (ReadPost2 s (Flow.nats word) i base B w) := by
  obtain ⟨hz, hsz⟩ := zero_of_info Try.infoPS
  clear hsz
  obtain ⟨aS, cS, hst⟩ := hst
  obtain ⟨T', rfl, hok, hcase⟩ := sufRead hi hT
  have HT : Hid (SufAt s i (i :: T')) := hT
  have hnl := nats_len word
  have V0 : Hid (Var w (w.alloc (.cells (cellsP fun x => false) 115)) base B aS cS R.reverse w.heap.size) := ⟨hst.below ((Below.refl _ _).alloc (Nat.le_refl _) _), (Below.refl _ _).alloc hbase _, Blk.new _ _ _, hst.2.2.1.lt, fun g hg => (owns_lt hst.2.2.2 hg).2, hbase⟩
  have ci : ∀ W, Calls Try.prog 61 #[.int .u8 (Flow.bt s i : Int)] W fun e w' => e = .returned (.bool (Flow.isTk (Flow.bt s i))) ∧ W = w' := fun W => (isLetter_any (Flow.bt s i) W).mono fun e w' h => ⟨h.1, h.2.symm⟩
  clear hst
  rcases hcase with ⟨hc, h1⟩ | ⟨hc, h1⟩ | ⟨hc, h1⟩
  · have := suf_unique h1 hT1
    subst this
    rw [hc] at ci
    have ct := fun W => taskParts_any word (Flow.bt s i) W hw
    have HS : Hid (∀ h : Nat → Bool, (∀ p, h p = anyTo (taskTest word (Flow.bt s i) p) word.size) → SetIs (Flow.nats word) h (Flow.Has s i)) := fun h hh => has_set (fun x => Flow.has_task hi hc x) (set_task hh)
    have HR : Hid (StackIs s (Flow.nats word) R T') := hR
    generalize Flow.bt s i = c at ci ct HS
    clear hR hT hT1 h1 hc hok hnl
    go_enter Try.func63, Try.ntmps63
    go_wp2_with (first
      | (go_at_call 61; refine (ci _).mono ?_; rintro e w' ⟨rfl, rfl⟩)
      | (go_at_call 84; refine (ct _).mono ?_; rintro e w1 ⟨h, rfl, hh, hb⟩; have F1 : Hid (SetIs (Flow.nats word) h (Flow.Has s i)) := HS.out h hh; have V1 : Hid (Var w w1 base B aS cS R.reverse w.heap.size) := V0.out.below hb; clear hh hb)
      | (refine wpList_store_row rfl 115 (.tmp 8) _ rfl w.heap.size (cellsP h) rfl rfl 115 _ V1.out.res (sizePS h) (by rw [cellsP_size, cellsP_size]) (cellsP_one h) ?_))
    obtain ⟨v1, v2, v3⟩ := V1.out.ret h
    exact bodyPost_ret (v := .agg (cellsP h)) (results_cell_row rfl _ _ w.heap.size 115 (cellsP h) (0, 0) _ rfl v1 Try.underlying115 rfl (sizePS h)) rfl ⟨h, R, T', rfl, F1.out, HR.out, HT.out, hRl, ⟨aS, cS, v2⟩, v3⟩
  · have := suf_unique h1 hT1
    subst this
    obtain ⟨f, R', rfl, hf, hR'⟩ := stack_cons hR
    rw [List.reverse_cons] at V0
    have hRl' : R'.length ≤ 22 := by simp at hRl; omega
    have cp := fun W hs => pop_any f R'.reverse base B aS cS W (by simp; omega) hs
    have cr := fun W => repeatedParts_any f word.size (fun p => Flow.Star (Flow.Has s (i + 1)) (Flow.part (Flow.nats word) p)) W hw (by have := set_rep hf; rw [hnl] at this; exact this)
    have hno : Flow.isTk (Flow.bt s i) = false := by have := Flow.isTk_no (.inl hc); simpa using this
    rw [hno] at ci
    have HS : Hid (∀ h : Nat → Bool, (∀ p, p < 2 ^ word.size → (h p = true ↔ Flow.Star (Flow.Has s (i + 1)) (Flow.part (Flow.nats word) p))) → SetIs (Flow.nats word) h (Flow.Has s i)) := fun h hh => has_set (fun x => Flow.has_star hi hc x) (fun p hp => hh p (by rw [hnl] at hp; exact hp))
    have HR : Hid (StackIs s (Flow.nats word) R' T') := hR'
    rw [hc] at ci ⊢
    generalize 2 ^ word.size - 1 = W8 at cr ⊢
    clear hR hT hT1 h1 hc hok hnl hf hR' hno
    go_enter Try.func63, Try.ntmps63
    go_wp2_with (first
      | (go_at_call 61; refine (ci _).mono ?_; rintro e w' ⟨rfl, rfl⟩)
      | (go_at_call 65; refine (cp _ V0.out.stk).mono ?_; rintro e w1 ⟨rfl, hs, hk⟩; obtain ⟨hv, hx⟩ := V0.out.pop hs hk f; have V1 : Hid (Var w ((w1.alloc (.cells (cellsP fun _ => false) 115)).setRow w1.heap.size (cellsP f)) base B aS cS R'.reverse w.heap.size) := hv; have X1 : Hid (Blk ((w1.alloc (.cells (cellsP fun _ => false) 115)).setRow w1.heap.size (cellsP f)) w1.heap.size (cellsP f) 115) := hx; have Y1 : Hid (Blk (w1.alloc (.cells (cellsP fun _ => false) 115)) w1.heap.size (cellsP fun _ => false) 115) := Blk.new _ _ _; clear hs hk hv hx)
      | (refine wpList_store_row rfl 115 (.tmp 9) _ rfl w1.heap.size (cellsP f) rfl rfl 115 _ Y1.out (sizePS f) (by rw [cellsP_size, cellsP_size]) (cellsP_one f) ?_; clear Y1; generalize (w1.alloc (.cells (cellsP fun _ => false) 115)).setRow w1.heap.size (cellsP f) = U at V1 X1 ⊢; generalize w1.heap.size = X at X1 ⊢)
      | (refine wpList_load_row rfl 115 (.tmp 9) rfl X rfl 115 (cellsP f) (0, 0) _ X1.out Try.underlying115 rfl (sizePS f) ?_)
      | (go_at_call 85; refine (cr _).mono ?_; rintro e w3 ⟨h, rfl, hh, hb⟩; have F1 : Hid (SetIs (Flow.nats word) h (Flow.Has s i)) := HS.out h hh; have V2 : Hid (Var w w3 base B aS cS R'.reverse w.heap.size) := V1.out.below hb; clear hh hb)
      | (refine wpList_store_row rfl 115 (.tmp 8) _ rfl w.heap.size (cellsP h) rfl rfl 115 _ V2.out.res (sizePS h) (by rw [cellsP_size, cellsP_size]) (cellsP_one h) ?_))
    obtain ⟨v1, v2, v3⟩ := V2.out.ret h
    exact bodyPost_ret (v := .agg (cellsP h)) (results_cell_row rfl _ _ w.heap.size 115 (cellsP h) (0, 0) _ rfl v1 Try.underlying115 rfl (sizePS h)) rfl ⟨h, R', T', rfl, F1.out, HR.out, HT.out, by omega, ⟨aS, cS, v2⟩, v3⟩
  · have := suf_unique h1 hT1
    subst this
    obtain ⟨f, R1, rfl, hf, hR1⟩ := stack_cons hR
    obtain ⟨g, R', rfl, hg, hR'⟩ := stack_cons hR1
    rw [List.reverse_cons, List.reverse_cons] at V0
    have hRl' : R'.length ≤ 21 := by simp at hRl; omega
    have cp := fun W hs => pop_any f (R'.reverse ++ [g]) base B aS cS W (by simp; omega) hs
    have cq := fun W hs => pop_any g R'.reverse base B aS cS W (by simp; omega) hs
    have hno : Flow.isTk (Flow.bt s i) = false := by have := Flow.isTk_no (.inr hc); simpa using this
    rw [hno] at ci
    have HR : Hid (StackIs s (Flow.nats word) R' T') := hR'
    have h256 := pow_le8 hw
    have h1p := Nat.one_le_two_pow (n := word.size)
    rcases hc with hc | hc | hc
    · have cr := fun W => rowParts_any f g word.size W hw
      have HS : Hid (∀ h : Nat → Bool, (∀ p, p < 2 ^ word.size → h p = anyTo (rowTest f g p) (word.size + 1)) → SetIs (Flow.nats word) h (Flow.Has s i)) := fun h hh => has_set (fun x => Flow.has_seq hi hc x) (set_seq hf hg (by rw [hnl]; exact hh))
      rw [hc] at ci ⊢
      generalize 2 ^ word.size - 1 = W8 at cr ⊢
      clear hR hT hT1 h1 hc hok hnl hf hg hR1 hR' hno h256 h1p

      go_enter Try.func63, Try.ntmps63
      go_wp2_with (first
        | (go_at_call 61; refine (ci _).mono ?_; rintro e w' ⟨rfl, rfl⟩)
        | (go_at_call 65; refine (cp _ V0.out.stk).mono ?_; rintro e w1 ⟨rfl, hs, hk⟩; obtain ⟨hv, hx⟩ := V0.out.pop hs hk f; have V1 : Hid (Var w ((w1.alloc (.cells (cellsP fun _ => false) 115)).setRow w1.heap.size (cellsP f)) base B aS cS (R'.reverse ++ [g]) w.heap.size) := hv; have X1 : Hid (Blk ((w1.alloc (.cells (cellsP fun _ => false) 115)).setRow w1.heap.size (cellsP f)) w1.heap.size (cellsP f) 115) := hx; have Y1 : Hid (Blk (w1.alloc (.cells (cellsP fun _ => false) 115)) w1.heap.size (cellsP fun _ => false) 115) := Blk.new _ _ _; have NE : Hid (w1.heap.size ≠ B) := (by have h1 := hk.size; have h2 := V0.out.offB; have h3 := V0.out.res.lt; show _ ≠ _; omega); clear hs hk hv hx V0)
        | (refine wpList_store_row rfl 115 (.tmp 9) _ rfl w1.heap.size (cellsP f) rfl rfl 115 _ Y1.out (sizePS f) (by rw [cellsP_size, cellsP_size]) (cellsP_one f) ?_; clear Y1; generalize (w1.alloc (.cells (cellsP fun _ => false) 115)).setRow w1.heap.size (cellsP f) = U at V1 X1 ⊢; generalize w1.heap.size = X at X1 NE ⊢)
        | (go_at_call 65; refine (cq _ V1.out.stk).mono ?_; rintro e w2 ⟨rfl, hs, hk⟩; obtain ⟨hv, hx⟩ := V1.out.pop hs hk g; have V2 : Hid (Var w ((w2.alloc (.cells (cellsP fun _ => false) 115)).setRow w2.heap.size (cellsP g)) base B aS cS R'.reverse w.heap.size) := hv; have X2 : Hid (Blk ((w2.alloc (.cells (cellsP fun _ => false) 115)).setRow w2.heap.size (cellsP g)) X (cellsP f) 115) := pop_keeps hk X1.out NE.out; have Z2 : Hid (Blk ((w2.alloc (.cells (cellsP fun _ => false) 115)).setRow w2.heap.size (cellsP g)) w2.heap.size (cellsP g) 115) := hx; have Y2 : Hid (Blk (w2.alloc (.cells (cellsP fun _ => false) 115)) w2.heap.size (cellsP fun _ => false) 115) := Blk.new _ _ _; clear hs hk hv hx V1)
        | (refine wpList_store_row rfl 115 (.tmp 10) _ rfl w2.heap.size (cellsP g) rfl rfl 115 _ Y2.out (sizePS g) (by rw [cellsP_size, cellsP_size]) (cellsP_one g) ?_; clear Y2; generalize (w2.alloc (.cells (cellsP fun _ => false) 115)).setRow w2.heap.size (cellsP g) = U2 at V2 X2 Z2 ⊢; generalize w2.heap.size = Y at Z2 ⊢)
        | (refine wpList_load_row rfl 115 (.tmp 9) rfl X rfl 115 (cellsP f) (0, 0) _ X2.out Try.underlying115 rfl (sizePS f) ?_)
        | (refine wpList_load_row rfl 115 (.tmp 10) rfl Y rfl 115 (cellsP g) (0, 0) _ Z2.out Try.underlying115 rfl (sizePS g) ?_)
        | (go_at_call 86; refine (cr _).mono ?_; rintro e w3 ⟨h, rfl, hh, hb⟩; have F1 : Hid (SetIs (Flow.nats word) h (Flow.Has s i)) := HS.out h hh; have V3 : Hid (Var w w3 base B aS cS R'.reverse w.heap.size) := V2.out.below hb; clear hh hb)
        | (refine wpList_store_row rfl 115 (.tmp 8) _ rfl w.heap.size (cellsP h) rfl rfl 115 _ V3.out.res (sizePS h) (by rw [cellsP_size, cellsP_size]) (cellsP_one h) ?_))
      obtain ⟨v1, v2, v3⟩ := V3.out.ret h
      exact bodyPost_ret (v := .agg (cellsP h)) (results_cell_row rfl _ _ w.heap.size 115 (cellsP h) (0, 0) _ rfl v1 Try.underlying115 rfl (sizePS h)) rfl ⟨h, R', T', rfl, F1.out, HR.out, HT.out, by omega, ⟨aS, cS, v2⟩, v3⟩
    · have cr := fun W => choiceParts_any f g (2 ^ word.size - 1) W (by omega)
      have HS : Hid (∀ h : Nat → Bool, (∀ p, p ≤ 2 ^ word.size - 1 → h p = (f p || g p)) → SetIs (Flow.nats word) h (Flow.Has s i)) := fun h hh => has_set (fun x => Flow.has_alt hi hc x) (set_alt hf hg (fun p hp => hh p (by rw [hnl] at hp; omega)))
      rw [hc] at ci ⊢
      generalize 2 ^ word.size - 1 = W8 at cr HS ⊢
      clear hR hT hT1 h1 hc hok hnl hf hg hR1 hR' hno h256 h1p

      go_enter Try.func63, Try.ntmps63
      go_wp2_with (first
        | (go_at_call 61; refine (ci _).mono ?_; rintro e w' ⟨rfl, rfl⟩)
        | (go_at_call 65; refine (cp _ V0.out.stk).mono ?_; rintro e w1 ⟨rfl, hs, hk⟩; obtain ⟨hv, hx⟩ := V0.out.pop hs hk f; have V1 : Hid (Var w ((w1.alloc (.cells (cellsP fun _ => false) 115)).setRow w1.heap.size (cellsP f)) base B aS cS (R'.reverse ++ [g]) w.heap.size) := hv; have X1 : Hid (Blk ((w1.alloc (.cells (cellsP fun _ => false) 115)).setRow w1.heap.size (cellsP f)) w1.heap.size (cellsP f) 115) := hx; have Y1 : Hid (Blk (w1.alloc (.cells (cellsP fun _ => false) 115)) w1.heap.size (cellsP fun _ => false) 115) := Blk.new _ _ _; have NE : Hid (w1.heap.size ≠ B) := (by have h1 := hk.size; have h2 := V0.out.offB; have h3 := V0.out.res.lt; show _ ≠ _; omega); clear hs hk hv hx V0)
        | (refine wpList_store_row rfl 115 (.tmp 9) _ rfl w1.heap.size (cellsP f) rfl rfl 115 _ Y1.out (sizePS f) (by rw [cellsP_size, cellsP_size]) (cellsP_one f) ?_; clear Y1; generalize (w1.alloc (.cells (cellsP fun _ => false) 115)).setRow w1.heap.size (cellsP f) = U at V1 X1 ⊢; generalize w1.heap.size = X at X1 NE ⊢)
        | (go_at_call 65; refine (cq _ V1.out.stk).mono ?_; rintro e w2 ⟨rfl, hs, hk⟩; obtain ⟨hv, hx⟩ := V1.out.pop hs hk g; have V2 : Hid (Var w ((w2.alloc (.cells (cellsP fun _ => false) 115)).setRow w2.heap.size (cellsP g)) base B aS cS R'.reverse w.heap.size) := hv; have X2 : Hid (Blk ((w2.alloc (.cells (cellsP fun _ => false) 115)).setRow w2.heap.size (cellsP g)) X (cellsP f) 115) := pop_keeps hk X1.out NE.out; have Z2 : Hid (Blk ((w2.alloc (.cells (cellsP fun _ => false) 115)).setRow w2.heap.size (cellsP g)) w2.heap.size (cellsP g) 115) := hx; have Y2 : Hid (Blk (w2.alloc (.cells (cellsP fun _ => false) 115)) w2.heap.size (cellsP fun _ => false) 115) := Blk.new _ _ _; clear hs hk hv hx V1)
        | (refine wpList_store_row rfl 115 (.tmp 10) _ rfl w2.heap.size (cellsP g) rfl rfl 115 _ Y2.out (sizePS g) (by rw [cellsP_size, cellsP_size]) (cellsP_one g) ?_; clear Y2; generalize (w2.alloc (.cells (cellsP fun _ => false) 115)).setRow w2.heap.size (cellsP g) = U2 at V2 X2 Z2 ⊢; generalize w2.heap.size = Y at Z2 ⊢)
        | (refine wpList_load_row rfl 115 (.tmp 9) rfl X rfl 115 (cellsP f) (0, 0) _ X2.out Try.underlying115 rfl (sizePS f) ?_)
        | (refine wpList_load_row rfl 115 (.tmp 10) rfl Y rfl 115 (cellsP g) (0, 0) _ Z2.out Try.underlying115 rfl (sizePS g) ?_)
        | (go_at_call 87; refine (cr _).mono ?_; rintro e w3 ⟨h, rfl, hh, hb⟩; have F1 : Hid (SetIs (Flow.nats word) h (Flow.Has s i)) := HS.out h hh; have V3 : Hid (Var w w3 base B aS cS R'.reverse w.heap.size) := V2.out.below hb; clear hh hb)
        | (refine wpList_store_row rfl 115 (.tmp 8) _ rfl w.heap.size (cellsP h) rfl rfl 115 _ V3.out.res (sizePS h) (by rw [cellsP_size, cellsP_size]) (cellsP_one h) ?_))
      obtain ⟨v1, v2, v3⟩ := V3.out.ret h
      exact bodyPost_ret (v := .agg (cellsP h)) (results_cell_row rfl _ _ w.heap.size 115 (cellsP h) (0, 0) _ rfl v1 Try.underlying115 rfl (sizePS h)) rfl ⟨h, R', T', rfl, F1.out, HR.out, HT.out, by omega, ⟨aS, cS, v2⟩, v3⟩
    · have cr := fun W => sideParts_any f g (2 ^ word.size - 1) W (by omega)
      have HS : Hid (∀ h : Nat → Bool, (∀ p, p ≤ 2 ^ word.size - 1 → h p = anyTo (sideTest f g p) (p + 1)) → SetIs (Flow.nats word) h (Flow.Has s i)) := fun h hh => has_set (fun x => Flow.has_par hi hc x) (set_par hf hg (fun p hp => hh p (by rw [hnl] at hp; omega)))
      rw [hc] at ci ⊢
      generalize 2 ^ word.size - 1 = W8 at cr HS ⊢
      clear hR hT hT1 h1 hc hok hnl hf hg hR1 hR' hno h256 h1p

      go_enter Try.func63, Try.ntmps63
      go_wp2_with (first
        | (go_at_call 61; refine (ci _).mono ?_; rintro e w' ⟨rfl, rfl⟩)
        | (go_at_call 65; refine (cp _ V0.out.stk).mono ?_; rintro e w1 ⟨rfl, hs, hk⟩; obtain ⟨hv, hx⟩ := V0.out.pop hs hk f; have V1 : Hid (Var w ((w1.alloc (.cells (cellsP fun _ => false) 115)).setRow w1.heap.size (cellsP f)) base B aS cS (R'.reverse ++ [g]) w.heap.size) := hv; have X1 : Hid (Blk ((w1.alloc (.cells (cellsP fun _ => false) 115)).setRow w1.heap.size (cellsP f)) w1.heap.size (cellsP f) 115) := hx; have Y1 : Hid (Blk (w1.alloc (.cells (cellsP fun _ => false) 115)) w1.heap.size (cellsP fun _ => false) 115) := Blk.new _ _ _; have NE : Hid (w1.heap.size ≠ B) := (by have h1 := hk.size; have h2 := V0.out.offB; have h3 := V0.out.res.lt; show _ ≠ _; omega); clear hs hk hv hx V0)
        | (refine wpList_store_row rfl 115 (.tmp 9) _ rfl w1.heap.size (cellsP f) rfl rfl 115 _ Y1.out (sizePS f) (by rw [cellsP_size, cellsP_size]) (cellsP_one f) ?_; clear Y1; generalize (w1.alloc (.cells (cellsP fun _ => false) 115)).setRow w1.heap.size (cellsP f) = U at V1 X1 ⊢; generalize w1.heap.size = X at X1 NE ⊢)
        | (go_at_call 65; refine (cq _ V1.out.stk).mono ?_; rintro e w2 ⟨rfl, hs, hk⟩; obtain ⟨hv, hx⟩ := V1.out.pop hs hk g; have V2 : Hid (Var w ((w2.alloc (.cells (cellsP fun _ => false) 115)).setRow w2.heap.size (cellsP g)) base B aS cS R'.reverse w.heap.size) := hv; have X2 : Hid (Blk ((w2.alloc (.cells (cellsP fun _ => false) 115)).setRow w2.heap.size (cellsP g)) X (cellsP f) 115) := pop_keeps hk X1.out NE.out; have Z2 : Hid (Blk ((w2.alloc (.cells (cellsP fun _ => false) 115)).setRow w2.heap.size (cellsP g)) w2.heap.size (cellsP g) 115) := hx; have Y2 : Hid (Blk (w2.alloc (.cells (cellsP fun _ => false) 115)) w2.heap.size (cellsP fun _ => false) 115) := Blk.new _ _ _; clear hs hk hv hx V1)
        | (refine wpList_store_row rfl 115 (.tmp 10) _ rfl w2.heap.size (cellsP g) rfl rfl 115 _ Y2.out (sizePS g) (by rw [cellsP_size, cellsP_size]) (cellsP_one g) ?_; clear Y2; generalize (w2.alloc (.cells (cellsP fun _ => false) 115)).setRow w2.heap.size (cellsP g) = U2 at V2 X2 Z2 ⊢; generalize w2.heap.size = Y at Z2 ⊢)
        | (refine wpList_load_row rfl 115 (.tmp 9) rfl X rfl 115 (cellsP f) (0, 0) _ X2.out Try.underlying115 rfl (sizePS f) ?_)
        | (refine wpList_load_row rfl 115 (.tmp 10) rfl Y rfl 115 (cellsP g) (0, 0) _ Z2.out Try.underlying115 rfl (sizePS g) ?_)
        | (go_at_call 88; refine (cr _).mono ?_; rintro e w3 ⟨h, rfl, hh, hb⟩; have F1 : Hid (SetIs (Flow.nats word) h (Flow.Has s i)) := HS.out h hh; have V3 : Hid (Var w w3 base B aS cS R'.reverse w.heap.size) := V2.out.below hb; clear hh hb)
        | (refine wpList_store_row rfl 115 (.tmp 8) _ rfl w.heap.size (cellsP h) rfl rfl 115 _ V3.out.res (sizePS h) (by rw [cellsP_size, cellsP_size]) (cellsP_one h) ?_))
      obtain ⟨v1, v2, v3⟩ := V3.out.ret h
      exact bodyPost_ret (v := .agg (cellsP h)) (results_cell_row rfl _ _ w.heap.size 115 (cellsP h) (0, 0) _ rfl v1 Try.underlying115 rfl (sizePS h)) rfl ⟨h, R', T', rfl, F1.out, HR.out, HT.out, by omega, ⟨aS, cS, v2⟩, v3⟩
end Go.Proofs.Ytdlldljgogbiaab
