/-
  The program's stack of sets: push and pop.
-/
import Derived.Test.YtdlldljgogbiaabPartG
import Derived.Deep.RegionHeld3
import Derived.Great.BuildSlice
namespace Go.Proofs.Ytdlldljgogbiaab
open Go.RowKit
set_option linter.unusedVariables false
set_option maxRecDepth 40000

def cellsPL (f : Nat → Bool) : List Value := (List.range 256).map fun i => Value.bool (f i)
theorem cellsPL_eq (f : Nat → Bool) : cellsP f = (cellsPL f).toArray := rfl
theorem cellsPL_len (f : Nat → Bool) : (cellsPL f).length = 256 := by simp [cellsPL]
theorem cellsPL_one (f : Nat → Bool) : ∀ v ∈ cellsPL f, v.oneCell' = true := by
  intro v hv
  unfold cellsPL at hv
  obtain ⟨i, _, rfl⟩ := List.mem_map.1 hv
  rfl
theorem sizePL (f : Nat → Bool) : (Try.prog.info? 115).map (·.size) = some (cellsPL f).length := by rw [cellsPL_len]; exact (zero_of_info Try.infoPS).2
theorem Try.infoPS3 : (Try.prog.info? 115).map (fun i => (i.zero, i.size, i.bytes)) = some (some (.agg (cellsP fun _ => false)), 256, 256) := by kernel_rfl

/-- an operation is taken first: its slot written out -/
theorem take_at {P : Program} {md : Region.Mode} {ops : Array Oper} {Q : Exit → Act → World → Prop} {i : Nat} {oi : Oper} {v : Value} {fuel : Nat} {listed : Array Bool} {a : Act} {w : World} (d : Option Tmp) (hi : ops[i]? = some oi) (hd : oi.dst = d)
    (hs : Region.noSelect ops = true) (hf : Region.free md ops listed i = true) (hr : (Region.ready md ops listed).contains i = true)
    (hQ : ∀ c a w, Q (.panic c) (a.put d v) w → Q (.panic c) a w) (hy : Yields P ops oi v a)
    (h : wpAny P md ops Q fuel (listed.setIfInBounds i true) (a.put d v) w) : wpAny P md ops Q (fuel + 1) listed a w := by
  subst hd
  exact wpAny_take hi hs hf hr hQ hy h
/-- the only one that may come up is carried out -/
theorem step_at {P : Program} {md : Region.Mode} {ops : Array Oper} {Q : Exit → Act → World → Prop} {i : Nat} {oi : Oper} {fuel : Nat} {listed : Array Bool} {a : Act} {w : World} (hi : ops[i]? = some oi) (hg : oi.guard = none) (hr : Region.ready md ops listed = [i])
    (h : ∀ K' : Act → World → Prop, Shut (∀ a w, wpAny P md ops Q fuel (listed.setIfInBounds i true) a w → K' a w) → Oper.wp P oi a w K' Q) : wpAny P md ops Q (fuel + 1) listed a w := by
  refine wpAny_ready hr (by simp) (AllReady.cons hi (fun K hK => ?_) AllReady.nil)
  have hw : Region.wanted oi (yielded ops a.tmps) = true := by simp [Region.wanted, hg]
  rw [if_pos hw]
  exact h K hK
/-- two may come up -/
theorem step_two {P : Program} {md : Region.Mode} {ops : Array Oper} {Q : Exit → Act → World → Prop} {i j : Nat} {oi oj : Oper} {fuel : Nat} {listed : Array Bool} {a : Act} {w : World} (hi : ops[i]? = some oi) (hg : oi.guard = none) (hj : ops[j]? = some oj) (hgj : oj.guard = none) (hr : Region.ready md ops listed = [i, j])
    (h : ∀ K' : Act → World → Prop, Shut (∀ a w, wpAny P md ops Q fuel (listed.setIfInBounds i true) a w → K' a w) → Oper.wp P oi a w K' Q)
    (h' : ∀ K' : Act → World → Prop, Shut (∀ a w, wpAny P md ops Q fuel (listed.setIfInBounds j true) a w → K' a w) → Oper.wp P oj a w K' Q) : wpAny P md ops Q (fuel + 1) listed a w := by
  refine wpAny_ready hr (by simp) (AllReady.cons hi (fun K hK => ?_) (AllReady.cons hj (fun K hK => ?_) AllReady.nil))
  · have hw : Region.wanted oi (yielded ops a.tmps) = true := by simp [Region.wanted, hg]
    rw [if_pos hw]
    exact h K hK
  · have hw : Region.wanted oj (yielded ops a.tmps) = true := by simp [Region.wanted, hgj]
    rw [if_pos hw]
    exact h' K hK

theorem reg_drew {P : Program} {ops : Array Oper} {Q : Exit → Act → World → Prop} {id : Nat} {a : Act} {w : World} (hm : P.follows .mixedOrders = true) (h : wpAny P .any ops Q ops.size (Array.replicate ops.size false) a w.drew) : (Code.region id ops true).wp P Q a w := wp_region_any hm h
theorem fill_one (cs : List Value) (hl : cs.length = 256) (z : Array Value) : Instr.fill (fun i => some (i * 256, 256)) ((Array.range (1 * 256)).map (z[· % z.size]!)) [(0, .agg cs.toArray)] = some cs.toArray := by
  have := Great.fill_whole (s := 256) (by decide) [Value.agg cs.toArray] ((Array.range (1 * 256)).map (z[· % z.size]!)) (fun v hv => by rw [List.mem_singleton.1 hv]; simpa [Value.cells] using hl) (by simp)
  simpa [Value.cells] using this

/-- the cells of a list of sets -/
def cellsS (L : List (Nat → Bool)) : List Value := L.flatMap cellsPL
theorem cellsS_snoc (L : List (Nat → Bool)) (f : Nat → Bool) : cellsS (L ++ [f]) = cellsS L ++ cellsPL f := by simp [cellsS]
theorem cellsS_len (L : List (Nat → Bool)) : (cellsS L).length = L.length * 256 := by
  induction L with
  | nil => rfl
  | cons f L ih =>
    show (cellsPL f ++ cellsS L).length = _
    rw [List.length_append, cellsPL_len, ih, List.length_cons]; omega
/-- block B holds a stack -/
def StkA (w : World) (base B : Nat) (aS : Option Addr) (cS : Nat) (L : List (Nat → Bool)) : Prop :=
  base ≤ B ∧ obk aS ≠ some B ∧ Blk w B #[.slice aS L.length cS] 113 ∧ w.ownsRow base 115 256 (.slice aS L.length cS) L.length (cellsS L)
def Stk (w : World) (base B : Nat) (L : List (Nat → Bool)) : Prop := ∃ aS cS, StkA w base B aS cS L
theorem StkA.below {w w1 : World} {base B : Nat} {aS : Option Addr} {cS : Nat} {L : List (Nat → Bool)} (h : StkA w base B aS cS L) (hb : Below w.heap.size w w1) : StkA w1 base B aS cS L := by
  obtain ⟨h1, h2, h3, h4⟩ := h
  exact ⟨h1, h2, h3.below hb h3.lt, owns_below h4 hb (Nat.le_refl _)⟩
theorem Stk.below {w w1 : World} {base B : Nat} {L : List (Nat → Bool)} (h : Stk w base B L) (hb : Below w.heap.size w w1) : Stk w1 base B L := by
  obtain ⟨aS, cS, h1, h2, h3, h4⟩ := h
  exact ⟨aS, cS, h1, h2, h3.below hb h3.lt, owns_below h4 hb (Nat.le_refl _)⟩

set_option maxHeartbeats 2000000 in
theorem push_any (f : Nat → Bool) (L : List (Nat → Bool)) (base B : Nat) (w : World) (hL : L.length ≤ 24) (hbase : base ≤ w.heap.size) (h : Stk w base B L) :
    Calls Try.prog 64 #[.pointer (some ⟨B, 0, none⟩), .agg (cellsP f)] w fun e w' => e = .returned (.tuple #[]) ∧ Stk w' base B (L ++ [f]) ∧ Below base w w' := by
  obtain ⟨i0, hi, hz0, hz1, hz2⟩ := info_parts Try.infoPS3
  obtain ⟨aS, cS, hB, hap, hblk, hrow⟩ := h
  have hsz := sizePL f
  have hun : Try.prog.underlying 115 = _ := Try.underlying115
  have hune : Try.prog.underlying 111 = _ := Try.underlying111
  have HC : Hid ((cellsPL f).length = 256) := cellsPL_len f
  have HO : Hid (∀ v ∈ cellsPL f, v.oneCell' = true) := cellsPL_one f
  have HS : Hid (cellsS (L ++ [f]) = cellsS L ++ cellsPL f) := cellsS_snoc L f
  rw [cellsPL_eq]
  generalize cellsPL f = cs at hsz HC HO HS ⊢
  have rg : (w.alloc (.cells cs.toArray 115)).rangeAt w.heap.size 0 cs := by
    intro j v hv
    have := (Blk.new w cs.toArray 115).cell j
    rw [Nat.zero_add, this]
    simpa using hv
  have KB : Hid (Blk (w.alloc (.cells cs.toArray 115)) B #[.slice aS L.length cS] 113) := hblk.alloc _
  have RO : Hid ((w.alloc (.cells cs.toArray 115)).ownsRow base 115 256 (.slice aS L.length cS) L.length (cellsS L)) := hrow.alloc _
  have NA : Hid (obk aS ≠ some w.heap.size) := fun e => by have := (owns_lt hrow e).2; omega
  have EW : Hid (Below base w (w.alloc (.cells cs.toArray 115))) := (Below.refl _ _).alloc hbase _
  have zV : w.heap.size < (w.alloc (.cells cs.toArray 115)).heap.size := by simp
  have zb : base ≤ (w.alloc (.cells cs.toArray 115)).heap.size := by omega
  go_enter Try.func64, Try.ntmps64
  go_wp2
  generalize w.alloc (.cells cs.toArray 115) = V at rg KB RO EW zV zb ⊢
  generalize w.heap.size = N at rg NA zV ⊢
  clear hblk hrow
  have y0 : V.cell? ⟨B, 0, none⟩ = some (.slice aS L.length cS) := KB.out.cell 0
  have zBV := KB.out.lt
  have KB2 : Hid (Blk (V.drew.alloc (.cells cs.toArray 115)) B #[.slice aS L.length cS] 113) := KB.out.drew.alloc _
  have RO2 : Hid ((V.drew.alloc (.cells cs.toArray 115)).ownsRow base 115 256 (.slice aS L.length cS) L.length (cellsS L)) := RO.out.drew.alloc _
  have EW2 : Hid (Below base w (V.drew.alloc (.cells cs.toArray 115))) := EW.out.drew.alloc zb _
  have AD : Hid (∀ j u, cs[j]? = some u → (V.drew.alloc (.cells cs.toArray 115)).cell? ((⟨V.heap.size, 0, none⟩ : Addr).add j) = some u) := by
    show ∀ j u, _
    have := World.news_of_block (cs := cs.toArray) (Blk.new V.drew cs.toArray 115)
    simpa using this
  have zb2 : base ≤ (V.drew.alloc (.cells cs.toArray 115)).heap.size := by simp; omega
  have zH : V.heap.size < (V.drew.alloc (.cells cs.toArray 115)).heap.size := by simp
  have y2 : (V.drew.alloc (.cells cs.toArray 115)).cell? ⟨B, 0, none⟩ = some (.slice aS L.length cS) := KB2.out.cell 0
  have BS : ∀ (act : Act) (o : Oper) (K : Act → World → Prop) (Q : Exit → Act → World → Prop), o.op = .buildSlice 111 1 #[(0, .tmp 9)] → act.eval (.tmp 9) = .agg cs.toArray → K (act.put o.dst (.slice (some ⟨V.heap.size, 0, none⟩) 1 1)) (V.drew.alloc (.cells cs.toArray 115)) → o.wp Try.prog act V.drew K Q := by
    intro act o K Q ho he hk
    refine wp_buildSlice 111 115 1 _ ho cs.toArray i0 _ hune hi hz0 (by rw [hz1]; decide) (by rw [hz1]; decide) ?_ hk
    rw [hz1]
    have : (#[((0 : Nat), Operand.tmp 9)].map fun (x : Nat × Operand) => (x.1, act.eval x.2)).toList = [(0, .agg cs.toArray)] := by simp [he]
    exact (congrArg _ this).trans (fill_one cs HC.out (Value.agg (cellsP fun _ => false)).cells)
  refine reg_drew (by kernel_rfl) ?_
  refine take_at (i := 0) (some 4) (v := .pointer (some ⟨B, 0, none⟩)) rfl rfl (by kernel_rfl) (by kernel_rfl) (by kernel_rfl) (fun _ _ _ h => h) (Or.inl ⟨by rfl, fun w1 => by go_simp⟩) ?_
  simp only [Act.put, List.setIfInBounds_toArray, List.set_cons_zero, List.set_cons_succ]
  refine take_at (i := 1) (some 5) (v := .pointer (some ⟨B, 0, none⟩)) rfl rfl (by kernel_rfl) (by kernel_rfl) (by kernel_rfl) (fun _ _ _ h => h) (Or.inl ⟨by rfl, fun w1 => by go_simp⟩) ?_
  simp only [Act.put, List.setIfInBounds_toArray, List.set_cons_zero, List.set_cons_succ]
  refine take_at (i := 2) (some 6) (v := .pointer (some ⟨B, 0, none⟩)) rfl rfl (by kernel_rfl) (by kernel_rfl) (by kernel_rfl) (fun _ _ _ h => h) (Or.inl ⟨by rfl, fun w1 => by go_simp⟩) ?_
  simp only [Act.put, List.setIfInBounds_toArray, List.set_cons_zero, List.set_cons_succ]
  refine take_at (i := 3) (some 7) (v := .pointer (some ⟨B, 0, none⟩)) rfl rfl (by kernel_rfl) (by kernel_rfl) (by kernel_rfl) (fun _ _ _ h => h) (Or.inl ⟨by rfl, fun w1 => by go_simp⟩) ?_
  simp only [Act.put, List.setIfInBounds_toArray, List.set_cons_zero, List.set_cons_succ]
  have LD : ∀ (act : Act) (o : Oper) (K : Act → World → Prop) (Q : Exit → Act → World → Prop), o.op = .load 115 (.tmp 3) → act.eval (.tmp 3) = .pointer (some ⟨N, 0, none⟩) → K (act.put o.dst (.agg cs.toArray)) V.drew → o.wp Try.prog act V.drew K Q := fun act o K Q ho he hk => wp_load_mid 115 (.tmp 3) ho N 0 he cs _ rg hun rfl hsz hk
  have AP : ∀ (act : Act) (o : Oper) (K : Act → World → Prop) (Q : Exit → Act → World → Prop), o.op = .call { callee := .builtin .append, args := #[.tmp 8, .tmp 10], argTypes := #[111, 111] } → act.eval (.tmp 8) = .slice aS L.length cS → act.eval (.tmp 10) = .slice (some ⟨V.heap.size, 0, none⟩) 1 1 →
      (∀ g cap' w1, w1.ownsRow base 115 256 (.slice (some ⟨g, 0, none⟩) (L.length + 1) cap') (L.length + 1) (cellsS L ++ cs) → (V.drew.alloc (.cells cs.toArray 115)).grownBy w1 (obk aS) → (obk aS = some g ∨ g = (V.drew.alloc (.cells cs.toArray 115)).heap.size) → K (act.put o.dst (.slice (some ⟨g, 0, none⟩) (L.length + 1) cap')) w1) → o.wp Try.prog act (V.drew.alloc (.cells cs.toArray 115)) K Q := by
    intro act o K Q ho h8 h10 hk
    refine wp_append_lies _ _ _ 111 ho base 115 i0 (.agg (cellsP fun _ => false)) 256 256 hune hi hz0 hz1 hz2 (by show (cellsP fun _ => false).size = 256; exact cellsP_size _) (by decide) (.slice aS L.length cS) L.length (cellsS L) h8 RO2.out ⟨V.heap.size, 0, none⟩ 1 1 cs h10 (by rw [HC.out]) AD.out HO.out (by decide) (by unfold maxLen; omega) (by omega) zb2 _ rfl ?_
    intro g cap' w1 own1 gr1 at1 _
    rw [ownBlock_slice] at gr1 at1
    exact hk g cap' w1 own1 gr1 at1
  have FIN : ∀ g cap' w1, w1.ownsRow base 115 256 (.slice (some ⟨g, 0, none⟩) (L.length + 1) cap') (L.length + 1) (cellsS L ++ cs) → (V.drew.alloc (.cells cs.toArray 115)).grownBy w1 (obk aS) → (obk aS = some g ∨ g = (V.drew.alloc (.cells cs.toArray 115)).heap.size) →
      w1.cell? ⟨B, 0, none⟩ = some (.slice aS L.length cS) ∧ w1.frozen? ⟨B, 0, none⟩ = false ∧ Stk (w1.setCell ⟨B, 0, none⟩ (.slice (some ⟨g, 0, none⟩) (L.length + 1) cap')) base B (L ++ [f]) ∧ Below base w (w1.setCell ⟨B, 0, none⟩ (.slice (some ⟨g, 0, none⟩) (L.length + 1) cap')) := by
    intro g cap' w1 own1 gr1 at1
    have KB3 : Blk w1 B #[.slice aS L.length cS] 113 := KB2.out.grown gr1 (fun x => hap x.symm)
    have gB : g ≠ B := by
      rcases at1 with x | x
      · exact fun e => hap (by rw [x, e])
      · omega
    have EW3 : Below base w w1 := EW2.out.grown gr1 zb2 (fun k hk => (owns_lt RO2.out hk).1)
    refine ⟨KB3.cell 0, KB3.froz 0, ⟨some ⟨g, 0, none⟩, cap', hB, by show some g ≠ some B; simpa using gB, ?_, ?_⟩, EW3.setCell (p := ⟨B, 0, none⟩) hB _⟩
    · have := KB3.set 0 (.slice (some ⟨g, 0, none⟩) (L.length + 1) cap')
      rw [List.length_append]
      simpa using this
    · rw [HS.out, List.length_append]
      exact owns_far own1 (by show some g ≠ some B; simpa using gB) _
  clear hsz hun HC hi hz0 hz1 hz2 hune HO HS KB RO EW zb NA KB2 RO2 EW2 AD zb2 rg
  refine step_two (i := 4) (j := 5) rfl rfl rfl rfl (by kernel_rfl) (fun K hK => ?_) (fun K hK => ?_)
  · go_simp
    refine hK.out _ _ ?_
    clear hK K
    refine step_at (i := 5) rfl rfl (by kernel_rfl) (fun K hK => ?_)
    refine LD _ _ _ _ rfl rfl (hK.out _ _ ?_)
    clear hK K
    show wpAny _ _ _ _ _ _ (Act.put _ (some 9) _) _
    simp only [Act.put, List.setIfInBounds_toArray, List.set_cons_zero, List.set_cons_succ]
    refine step_at (i := 6) rfl rfl (by kernel_rfl) (fun K hK => ?_)
    refine BS _ _ _ _ rfl rfl (hK.out _ _ ?_)
    clear hK K
    show wpAny _ _ _ _ _ _ (Act.put _ (some 10) _) _
    simp only [Act.put, List.setIfInBounds_toArray, List.set_cons_zero, List.set_cons_succ]
    refine step_at (i := 7) rfl rfl (by kernel_rfl) (fun K hK => ?_)
    refine AP _ _ _ _ rfl rfl rfl (fun g cap' w1 own1 gr1 at1 => hK.out _ _ ?_)
    clear hK K
    obtain ⟨x0, q0, F1, F2⟩ := FIN g cap' w1 own1 gr1 at1
    clear FIN AP LD BS own1 gr1 at1
    show wpAny _ _ _ _ _ _ (Act.put _ (some 11) _) _
    simp only [Act.put, List.setIfInBounds_toArray, List.set_cons_zero, List.set_cons_succ]
    refine take_at (i := 8) (some 12) (v := .pointer (some ⟨B, 0, none⟩)) rfl rfl (by kernel_rfl) (by kernel_rfl) (by kernel_rfl) (fun _ _ _ h => h) (Or.inl ⟨by rfl, fun w1 => by go_simp⟩) ?_
    simp only [Act.put, List.setIfInBounds_toArray, List.set_cons_zero, List.set_cons_succ]
    refine take_at (i := 9) (some 13) (v := .pointer (some ⟨B, 0, none⟩)) rfl rfl (by kernel_rfl) (by kernel_rfl) (by kernel_rfl) (fun _ _ _ h => h) (Or.inl ⟨by rfl, fun w1 => by go_simp⟩) ?_
    simp only [Act.put, List.setIfInBounds_toArray, List.set_cons_zero, List.set_cons_succ]
    refine step_at (i := 10) rfl rfl (by kernel_rfl) (fun K hK => ?_)
    go_simp
    refine hK.out _ _ ?_
    clear hK K
    refine wpAny_done (by kernel_rfl) ?_ _
    go_end0
    exact ⟨rfl, F1, F2⟩
  · refine LD _ _ _ _ rfl rfl (hK.out _ _ ?_)
    clear hK K
    show wpAny _ _ _ _ _ _ (Act.put _ (some 9) _) _
    simp only [Act.put, List.setIfInBounds_toArray, List.set_cons_zero, List.set_cons_succ]
    refine step_two (i := 4) (j := 6) rfl rfl rfl rfl (by kernel_rfl) (fun K hK => ?_) (fun K hK => ?_)
    · go_simp
      refine hK.out _ _ ?_
      clear hK K
      refine step_at (i := 6) rfl rfl (by kernel_rfl) (fun K hK => ?_)
      refine BS _ _ _ _ rfl rfl (hK.out _ _ ?_)
      clear hK K
      show wpAny _ _ _ _ _ _ (Act.put _ (some 10) _) _
      simp only [Act.put, List.setIfInBounds_toArray, List.set_cons_zero, List.set_cons_succ]
      refine step_at (i := 7) rfl rfl (by kernel_rfl) (fun K hK => ?_)
      refine AP _ _ _ _ rfl rfl rfl (fun g cap' w1 own1 gr1 at1 => hK.out _ _ ?_)
      clear hK K
      obtain ⟨x0, q0, F1, F2⟩ := FIN g cap' w1 own1 gr1 at1
      clear FIN AP LD BS own1 gr1 at1
      show wpAny _ _ _ _ _ _ (Act.put _ (some 11) _) _
      simp only [Act.put, List.setIfInBounds_toArray, List.set_cons_zero, List.set_cons_succ]
      refine take_at (i := 8) (some 12) (v := .pointer (some ⟨B, 0, none⟩)) rfl rfl (by kernel_rfl) (by kernel_rfl) (by kernel_rfl) (fun _ _ _ h => h) (Or.inl ⟨by rfl, fun w1 => by go_simp⟩) ?_
      simp only [Act.put, List.setIfInBounds_toArray, List.set_cons_zero, List.set_cons_succ]
      refine take_at (i := 9) (some 13) (v := .pointer (some ⟨B, 0, none⟩)) rfl rfl (by kernel_rfl) (by kernel_rfl) (by kernel_rfl) (fun _ _ _ h => h) (Or.inl ⟨by rfl, fun w1 => by go_simp⟩) ?_
      simp only [Act.put, List.setIfInBounds_toArray, List.set_cons_zero, List.set_cons_succ]
      refine step_at (i := 10) rfl rfl (by kernel_rfl) (fun K hK => ?_)
      go_simp
      refine hK.out _ _ ?_
      clear hK K
      refine wpAny_done (by kernel_rfl) ?_ _
      go_end0
      exact ⟨rfl, F1, F2⟩
    · refine BS _ _ _ _ rfl rfl (hK.out _ _ ?_)
      clear hK K
      show wpAny _ _ _ _ _ _ (Act.put _ (some 10) _) _
      simp only [Act.put, List.setIfInBounds_toArray, List.set_cons_zero, List.set_cons_succ]
      refine step_at (i := 4) rfl rfl (by kernel_rfl) (fun K hK => ?_)
      have y2' : ((V.alloc (.cells cs.toArray 115)).drew).cell? ⟨B, 0, none⟩ = some (.slice aS L.length cS) := y2
      go_simp
      refine hK.out _ _ ?_
      clear hK K y2'
      refine step_at (i := 7) rfl rfl (by kernel_rfl) (fun K hK => ?_)
      refine AP _ _ _ _ rfl rfl rfl (fun g cap' w1 own1 gr1 at1 => hK.out _ _ ?_)
      clear hK K
      obtain ⟨x0, q0, F1, F2⟩ := FIN g cap' w1 own1 gr1 at1
      clear FIN AP LD BS own1 gr1 at1
      show wpAny _ _ _ _ _ _ (Act.put _ (some 11) _) _
      simp only [Act.put, List.setIfInBounds_toArray, List.set_cons_zero, List.set_cons_succ]
      refine take_at (i := 8) (some 12) (v := .pointer (some ⟨B, 0, none⟩)) rfl rfl (by kernel_rfl) (by kernel_rfl) (by kernel_rfl) (fun _ _ _ h => h) (Or.inl ⟨by rfl, fun w1 => by go_simp⟩) ?_
      simp only [Act.put, List.setIfInBounds_toArray, List.set_cons_zero, List.set_cons_succ]
      refine take_at (i := 9) (some 13) (v := .pointer (some ⟨B, 0, none⟩)) rfl rfl (by kernel_rfl) (by kernel_rfl) (by kernel_rfl) (fun _ _ _ h => h) (Or.inl ⟨by rfl, fun w1 => by go_simp⟩) ?_
      simp only [Act.put, List.setIfInBounds_toArray, List.set_cons_zero, List.set_cons_succ]
      refine step_at (i := 10) rfl rfl (by kernel_rfl) (fun K hK => ?_)
      go_simp
      refine hK.out _ _ ?_
      clear hK K
      refine wpAny_done (by kernel_rfl) ?_ _
      go_end0
      exact ⟨rfl, F1, F2⟩

theorem kept_setRow {S : Nat → Prop} {a w : World} {b : Nat} (h : Kept S a w) (hb : ¬ S b) (c : Array Value) : Kept S a (w.setRow b c) :=
  h.trans ⟨rfl, rfl, rfl, by rw [setRow_size]; exact Nat.le_refl _, fun k hk => setRow_other w b k c (fun e => hb (e ▸ hk))⟩
theorem owns_offRow {w : World} {base : Nat} {e : TypeId} {size n c : Nat} {a : Option Addr} {xs : List Value} (h : w.ownsRow base e size (.slice a n c) n xs) {b : Nat} (hne : obk a ≠ some b) (cs : Array Value) : (w.setRow b cs).ownsRow base e size (.slice a n c) n xs := by
  obtain ⟨h1, h2⟩ := h
  refine ⟨h1, ?_⟩
  rcases h2 with h2 | ⟨g, cap, cur, hv, hg, hh, r⟩
  · exact .inl h2
  · injection hv with e1 _ e3
    subst e1 e3
    refine .inr ⟨g, c, cur, rfl, hg, ?_, r⟩
    rw [setRow_other w b g cs (fun x => hne (by show some g = some b; rw [x]))]
    exact hh

set_option maxHeartbeats 2000000 in
theorem pop_any (f : Nat → Bool) (L : List (Nat → Bool)) (base B : Nat) (aS : Option Addr) (cS : Nat) (w : World) (hL : L.length ≤ 24) (h : StkA w base B aS cS (L ++ [f])) :
    Calls Try.prog 65 #[.pointer (some ⟨B, 0, none⟩)] w fun e w' => e = .returned (.agg (cellsP f)) ∧ StkA w' base B aS cS L ∧ Kept (fun k => k ≠ B ∧ k < w.heap.size) w w' := by
  obtain ⟨hz, hsz⟩ := zero_of_info Try.infoPS
  clear hsz
  obtain ⟨hB, hap, hblk, hrow⟩ := h
  rw [List.length_append] at hblk hrow
  have hcap := owns_cap hrow
  obtain ⟨g, cx, hv, _, hg2⟩ := hrow.form (by simp)
  injection hv with e1 _ e3
  subst e1 e3
  have hgB : g ≠ B := fun e => hap (by show some g = some B; rw [e])
  have hgl : g < w.heap.size := hg2
  have hBl := hblk.lt
  have RO : Hid (w.ownsRow base 115 256 (.slice (some ⟨g, 0, none⟩) (L.length + 1) cS) (L.length + 1) (cellsS L ++ cellsPL f)) := by
    show World.ownsRow _ _ _ _ _ _ _
    rw [← cellsS_snoc]; exact hrow
  have RG : Hid ((w.alloc (.cells (cellsP fun x => false) 115)).rangeAt g (L.length * 256) (cellsPL f)) := by
    intro j v hj
    have hj2 : j < 256 := by have := (List.getElem?_eq_some_iff.1 hj).1; rw [cellsPL_len] at this; exact this
    have := (RO.out.alloc (.cells (cellsP fun x => false) 115)).cellAt (L.length * 256 + j) (by omega)
    rw [this, List.getElem?_append_right (by rw [cellsS_len]; omega), cellsS_len]
    have e : L.length * 256 + j - L.length * 256 = j := by omega
    rw [e]; exact hj
  have X2 : Hid (Blk ((w.alloc (.cells (cellsP fun x => false) 115)).alloc (.cells (cellsP fun x => false) 115)) (w.heap.size + 1) (cellsP fun x => false) 115) := Blk.new_at (by simp) _ _
  have R2 : Hid (Blk ((w.alloc (.cells (cellsP fun x => false) 115)).alloc (.cells (cellsP fun x => false) 115)) w.heap.size (cellsP fun x => false) 115) := (Blk.new _ _ _).alloc _
  have K2 : Hid (Blk ((w.alloc (.cells (cellsP fun x => false) 115)).alloc (.cells (cellsP fun x => false) 115)) B #[.slice (some ⟨g, 0, none⟩) (L.length + 1) cS] 113) := (hblk.alloc _).alloc _
  have O2 : Hid (((w.alloc (.cells (cellsP fun x => false) 115)).alloc (.cells (cellsP fun x => false) 115)).ownsRow base 115 256 (.slice (some ⟨g, 0, none⟩) (L.length + 1) cS) (L.length + 1) (cellsS L ++ cellsPL f)) := (RO.out.alloc _).alloc _
  have E2 : Hid (Kept (fun k => k ≠ B ∧ k < w.heap.size) w ((w.alloc (.cells (cellsP fun x => false) 115)).alloc (.cells (cellsP fun x => false) 115))) := ((Kept.refl _ _).alloc (fun k hk => hk.2) _).alloc (fun k hk => by have := hk.2; simp; omega) _
  have X3 : Hid (Blk (((w.alloc (.cells (cellsP fun x => false) 115)).alloc (.cells (cellsP fun x => false) 115)).setRow (w.heap.size + 1) (cellsPL f).toArray) (w.heap.size + 1) (cellsPL f).toArray 115) := X2.out.setRow _
  have R3 : Hid (Blk (((w.alloc (.cells (cellsP fun x => false) 115)).alloc (.cells (cellsP fun x => false) 115)).setRow (w.heap.size + 1) (cellsPL f).toArray) w.heap.size (cellsP fun x => false) 115) := R2.out.offRow _ (by omega)
  have K3 : Hid (Blk (((w.alloc (.cells (cellsP fun x => false) 115)).alloc (.cells (cellsP fun x => false) 115)).setRow (w.heap.size + 1) (cellsPL f).toArray) B #[.slice (some ⟨g, 0, none⟩) (L.length + 1) cS] 113) := K2.out.offRow _ (by omega)
  have O3 : Hid ((((w.alloc (.cells (cellsP fun x => false) 115)).alloc (.cells (cellsP fun x => false) 115)).setRow (w.heap.size + 1) (cellsPL f).toArray).ownsRow base 115 256 (.slice (some ⟨g, 0, none⟩) (L.length + 1) cS) (L.length + 1) (cellsS L ++ cellsPL f)) := owns_offRow O2.out (by show some g ≠ some _; simp; omega) _
  have E3 : Hid (Kept (fun k => k ≠ B ∧ k < w.heap.size) w (((w.alloc (.cells (cellsP fun x => false) 115)).alloc (.cells (cellsP fun x => false) 115)).setRow (w.heap.size + 1) (cellsPL f).toArray)) := kept_setRow E2.out (fun hk => by omega) _
  have x0 : w.cell? ⟨B, 0, none⟩ = some (.slice (some ⟨g, 0, none⟩) (L.length + 1) cS) := hblk.cell 0
  have hlc : (L.length + 1 : Nat) ≤ cS := by simpa using hcap.1
  have hcl : cS ≤ maxLen := hcap.2
  unfold maxLen at hcl
  have hI0 : (0 : Int) ≤ (L.length : Int) := by omega
  have hI1 : (L.length : Int) < ((L.length : Int) + 1) := by omega
  clear hblk hrow
  clear hcap
  go_enter Try.func65, Try.ntmps65
  go_wp2_with (first
    | (refine wpList_load_mid rfl 115 (.tmp 19) rfl g (L.length * 256) rfl (cellsPL f) _ RG.out Try.underlying115 rfl (sizePL f) ?_)
    | (refine wpList_store_row rfl 115 (.tmp 4) (.tmp 20) rfl (w.heap.size + 1) (cellsPL f).toArray rfl rfl 115 _ X2.out (sizePS f) (by rw [cellsP_size]; simp [cellsPL]) (cellsP_one f) ?_; clear RG X2 R2 K2 O2 E2 RO x0; generalize ((w.alloc (.cells (cellsP fun x => false) 115)).alloc (.cells (cellsP fun x => false) 115)).setRow (w.heap.size + 1) (cellsPL f).toArray = V at X3 R3 K3 O3 E3 ⊢; have y0 : V.cell? ⟨B, 0, none⟩ = some (.slice (some ⟨g, 0, none⟩) (L.length + 1) cS) := K3.out.cell 0; have q0 := K3.out.froz 0; have zV := K3.out.lt; have X4 : Hid (Blk (V.setCell ⟨B, 0, none⟩ (.slice (some ⟨g, 0, none⟩) L.length cS)) (w.heap.size + 1) (cellsPL f).toArray 115) := X3.out.far _ _ (by show w.heap.size + 1 ≠ B; omega); have R4 : Hid (Blk (V.setCell ⟨B, 0, none⟩ (.slice (some ⟨g, 0, none⟩) L.length cS)) w.heap.size (cellsP fun x => false) 115) := R3.out.far _ _ (by show w.heap.size ≠ B; omega))
    | (refine wpList_load_row rfl 115 (.tmp 4) rfl (w.heap.size + 1) rfl 115 (cellsPL f).toArray (0, 0) _ X4.out Try.underlying115 rfl (sizePS f) ?_)
    | (refine wpList_store_row rfl 115 (.tmp 2) (.tmp 30) rfl w.heap.size (cellsPL f).toArray rfl rfl 115 _ R4.out (sizePS f) (by rw [cellsP_size]; simp [cellsPL]) (cellsP_one f) ?_))
  refine bodyPost_ret (v := .agg (cellsPL f).toArray) (results_cell_row rfl _ _ w.heap.size 115 (cellsPL f).toArray (0, 0) _ rfl (R4.out.setRow _) Try.underlying115 rfl (sizePS f)) rfl ⟨rfl, ⟨hB, hap, ?_, ?_⟩, ?_⟩
  · have := (K3.out.set 0 (.slice (some ⟨g, 0, none⟩) L.length cS)).offRow (b' := w.heap.size) (cellsPL f).toArray (by omega)
    simpa using this
  · exact owns_offRow (owns_far (owns_pop O3.out (cellsS_len L)) (by show some g ≠ some B; simpa using hgB) _) (by show some g ≠ some _; simp; omega) _
  · exact kept_setRow (E3.out.setCell (p := ⟨B, 0, none⟩) (fun hk => hk.1 rfl) _) (fun hk => by omega) _
end Go.Proofs.Ytdlldljgogbiaab
