/-
  The law of scripts: its row; the frame is after the kit's own shell.
-/
import Derived.Test.YtdlldljgogbiaabGreatRows
import Derived.WalkKit
import Derived.ProofKit
import Derived.OpenShut
import Derived.ShutString
import Derived.ChangeOld
import Derived.Below
import Derived.Carry
import Derived.SizedLaws
import Derived.Deep.Slices
import Derived.Test.YtdlldljgogbiaabGreatAllP
import Derived.Test.YtdlldljgogbiaabGreatWalks
namespace Go.Proofs.YtdlldljgogbiaabGreat.all
open Go.ChangeShapes Go.WideShapes Go.ChangeAt Go.RowKit
open Go.Deep (open_slice add_add)
set_option linter.unusedVariables false

theorem own : ownKnob Tryz.prog.godebug = none := by kernel_rfl
theorem laid : laidOutB Tryz.prog = true := by kernel_rfl

theorem ok : StepsOk :=
  ⟨fun S w h => w_checks S h w, fun S T w h g => w_fires S T h (Nat.le_of_lt g) w, fun S w h => w_judges S h w, fun S T w h g => w_finishes S T h (Nat.le_of_lt g) w, fun S T w h g => w_enables S T h (Nat.le_of_lt g) w,
    fun S T w h g => w_playing S T h (Nat.le_of_lt g) w, fun S T w h g => w_accepting S T h (Nat.le_of_lt g) w, fun S T w h g => w_compiles S T h (Nat.le_of_lt g) g w⟩

theorem weightsAll_mem {H : Type} {P : Program} {e : TypeId} {d : DataW H} {n : Nat} : ∀ {l : List (DataW H)}, d ∈ l → n ∈ d.weights P e → n ∈ DataW.weightsAll P e l
  | [], h, _ => by cases h
  | x :: l, h, hn => by
    rw [DataW.weightsAll, List.mem_append]
    rcases List.mem_cons.1 h with rfl | h
    · exact .inl hn
    · exact .inr (weightsAll_mem h hn)

theorem weights_struct {H : Type} {P : Program} {t : TypeId} {fs : Array Field} {parts : List (DataW H)} {n : Nat} (hu : P.underlying t = some (.struct fs)) (h : n ∈ DataW.weightsEach P (fs.toList.map (·.type)) parts) :
    n ∈ (DataW.agg parts).weights P t := by
  rw [DataW.weights, hu]
  exact h
theorem weights_text {H : Type} {P : Program} {t : TypeId} {d : DataW H} {T : ByteArray} (h : d = .lit (.string T.data.toList)) : T.size ∈ d.weights P t := by
  subst h
  rw [DataW.weights]
  exact List.mem_singleton.2 (Array.length_toList (xs := T.data)).symm
theorem cellsOp : Tryz.prog.cellsOf 25 = 5 := by kernel_rfl
theorem cellsInt : Tryz.prog.cellsOf 3 = 1 := by kernel_rfl
theorem cellsStr : Tryz.prog.cellsOf 9 = 1 := by kernel_rfl
set_option maxRecDepth 100000 in
/-- a step, opened -/
theorem open_op {H : Type} {enc : TypeId × Value → H} {W : World} {sp : Nat → Bool} {n : Nat} {a : Addr} {cs : List Value} {d : DataW H} {pl : List MemPlace}
    (h1 : W.cells? 0 a 5 = some cs) (h2 : DataW.trod enc Tryz.prog W 0 sp true n 25 cs = some (d, pl)) :
    ∃ (k x y : Int) (S T : ByteArray), W.cell? a = some (.int .i64 k) ∧ W.cell? (a.add 1) = some (.int .i64 x) ∧ W.cell? (a.add 2) = some (.int .i64 y) ∧ W.cell? (a.add 3) = some (.string S) ∧ W.cell? (a.add 4) = some (.string T) ∧ S.size ≤ maxLen ∧ T.size ≤ maxLen ∧ T.size ∈ d.weights Tryz.prog 25 := by
  obtain ⟨_, hlen, hcell⟩ := World.cells?_some h1
  obtain ⟨xs, m, hm, hx, _, hxl, hf⟩ := DataW.trod_struct Tryz.underlying25 h2
  have hxl' : xs.length = 5 := hxl
  clear hxl
  match xs, hxl', cs, hlen with
  | [y0, y1, y2, y3, y4], _, [v0, v1, v2, v3, v4], _ =>
    have g0 := hf 0 _ rfl
    have g1 := hf 1 _ rfl
    have g2 := hf 2 _ rfl
    have g3 := hf 3 _ rfl
    have g4 := hf 4 _ rfl
    simp [cellsInt, cellsStr] at g0 g1 g2 g3 g4
    obtain ⟨k, k1, k2, _⟩ := DataW.trod_int Tryz.underlying3 g0
    obtain ⟨x, x1, x2, _⟩ := DataW.trod_int Tryz.underlying3 g1
    obtain ⟨y, z1, z2, _⟩ := DataW.trod_int Tryz.underlying3 g2
    obtain ⟨S, s1, s2, s3⟩ := DataW.trod_string Tryz.underlying9 g3
    obtain ⟨T, t1, t2, t3⟩ := DataW.trod_string Tryz.underlying9 g4
    have e0 := hcell 0 (by omega)
    have e1 := hcell 1 (by omega)
    have e2 := hcell 2 (by omega)
    have e3 := hcell 3 (by omega)
    have e4 := hcell 4 (by omega)
    simp only [List.cons.injEq, and_true] at k1 x1 z1 s1 t1
    subst k1 x1 z1 s1 t1
    refine ⟨k, x, y, S, T, by simpa [Addr.add] using e0, by simpa using e1, by simpa using e2, by simpa using e3, by simpa using e4, s3, t3, ?_⟩
    simp only [Prod.mk.injEq] at hx
    rw [hx.1]
    refine weights_struct Tryz.underlying25 (DataW.weights_mem_each (j := 4) (t := 9) (d := y4.1) rfl rfl _ ?_)
    exact weights_text (congrArg Prod.fst t2)

set_option maxRecDepth 100000 in
theorem lifted (os : Os) (started : os.Started) (H : Type) (enc : TypeId × Value → H) :
    ReturnsInHanded {} Tryz.checked os 3 .any (Rows.allSpec.pre6 enc Tryz.prog Tryz.f3 Rows.allRow.domain false) (Rows.allSpec.post enc Tryz.prog Tryz.f3 false true false false) := by
  refine returnsInHanded_of_change_sized (C := Tryz.checked) own started (by kernel_rfl) Tryz.func3
    (ChangeSpec.witness6 (enc := enc) (C := Tryz.checked) false ⟨#[], #[.slice none 0 0], []⟩ 8 (by kernel_rfl) (by kernel_rfl) (by kernel_rfl) (by kernel_rfl)) ?_
  intro W base args ds gs before hval0 hW hcnd hsz _
  have hval : ∀ (j : Nat) t v, Tryz.f3.params[j]? = some t → args[j]? = some v → Value.okWide Tryz.prog W .any base t v := hval0
  have hW' := hW
  obtain ⟨p, q, hA0, hV, rfl, hfz, hnd⟩ := hW
  have hA : DataW.TrodAll enc Tryz.prog W 0 (fun _ => true) true Tryz.f3.params.toList args.toList ds p := hA0
  rw [Tryz.params3] at hA hval
  obtain ⟨v0, vs0, d0, ds0, p0, q0, hargs, rfl, rfl, h0, r0⟩ := trodAll_cons hA
  obtain ⟨rfl, rfl, rfl⟩ := trodAll_nil r0
  obtain rfl : args = #[v0] := by cases args; simp_all
  obtain ⟨rfl, rfl⟩ := trodVars_none hV
  obtain ⟨sa, len, cap, rfl⟩ := okWide_slice Tryz.underlying22 (hval 0 22 v0 rfl rfl)
  have hst := h0
  obtain ⟨fuel, hf⟩ := h0
  have hplt := DataW.trod_lt _ _ _ _ hf
  simp only [List.append_nil] at hW'
  have main : Calls Tryz.prog 3 #[.slice sa len cap] W fun e w' => e = .returned (.bool true) ∧ Below W.heap.size W w' := by
    rcases open_slice Tryz.underlying22 hf with ⟨hc, hx⟩ | ⟨a, len', cap', m, n, D, Pl, hcs, _, hl, hm, hmm, hx, hall⟩
    · simp only [Value.cells, List.cons.injEq, and_true, Value.slice.injEq] at hc
      obtain ⟨rfl, rfl, rfl⟩ := hc
      exact all_nil none 0 W
    · simp only [Value.cells, List.cons.injEq, and_true, Value.slice.injEq] at hcs
      obtain ⟨rfl, rfl, rfl⟩ := hcs
      simp only [if_true] at hmm
      subst hmm
      simp only [Prod.mk.injEq] at hx
      rw [cellsOp] at hall
      rcases Nat.eq_zero_or_pos len with rfl | hpos
      · exact all_nil (some a) m W
      · have hsl := sized_slice hsz (j := 0) rfl (by rw [hx.1]; rfl) Tryz.underlying22
        have hbo : Tryz.prog.bytesOf 25 = 56 := by kernel_rfl
        have hlen : len < 2 ^ 60 := by
          have h1 : (len + (m - len)) * Tryz.prog.bytesOf 25 ≤ reachBytes := by
            have h := hsl
            simp at h
            exact h
          rw [hbo] at h1
          have h2 := reachBytes_lt
          omega
        have hop : ∀ j, j < len → ∃ (k x y : Int) (S T : ByteArray), W.cell? (a.add (j * 5)) = some (.int .i64 k) ∧ W.cell? ((a.add (j * 5)).add 1) = some (.int .i64 x) ∧ W.cell? ((a.add (j * 5)).add 2) = some (.int .i64 y) ∧ W.cell? ((a.add (j * 5)).add 3) = some (.string S) ∧ W.cell? ((a.add (j * 5)).add 4) = some (.string T) ∧ S.size ≤ maxLen ∧ T.size < maxLen := by
          intro j hj
          obtain ⟨cs', h1, h2⟩ := hall j (by omega)
          obtain ⟨k, x, y, S, T, c0, c1, c2, c3, c4, hS, hT, hw⟩ := open_op h1 h2
          refine ⟨k, x, y, S, T, c0, c1, c2, c3, c4, hS, ?_⟩
          have hin : T.size ∈ DataW.weightsEach Tryz.prog (Tryz.f3.params.toList ++ Rows.allSpec.plain.varTypes Tryz.prog) ([d0] ++ []) := by
            refine DataW.weights_mem_each (j := 0) (t := 22) (d := d0) rfl rfl _ ?_
            rw [hx.1]
            simp only [DataW.weights, Tryz.underlying22]
            exact List.mem_cons_of_mem _ (List.mem_append_left _ (weightsAll_mem (List.mem_map.2 ⟨j, List.mem_range.2 hj, rfl⟩) hw))
          have := List.all_eq_true.1 hsz _ hin
          have h3 : T.size ≤ reachBytes := by simpa using this
          exact Nat.lt_of_le_of_lt h3 (by decide)
        obtain ⟨b, off, spot⟩ := a
        obtain ⟨_, _, _, _, _, z0, _⟩ := hop 0 hpos
        have hspot : spot = none := by simpa [Addr.add] using World.cell?_spot z0
        subst hspot
        have hb : b < W.heap.size := by simpa [Addr.add] using World.block_lt_of_cell? W _ z0
        refine all_any ok b off len m W hlen (fun _ => hb) ?_
        intro j hj
        obtain ⟨k, x, y, S, T, c0, c1, c2, c3, c4, hS, hT⟩ := hop j hj
        rw [add_plain] at c0 c1 c2 c3 c4
        rw [add_plain] at c1 c2 c3 c4
        exact ⟨k, x, y, S, T, c0, c1, c2, c3, c4, hS, hT⟩
  refine main.mono fun e W' ⟨he, bel⟩ => ?_
  subst he
  exact ⟨_, rfl, _, _, _, [], _, [], hW', (trodAll_cons_mk (shut_bool Tryz.underlying4 _) trodAll_mk0), (trodAll_cons_mk (Below.trod laid (by kernel_rfl) (of_decide_eq_true (by kernel_rfl)) hst bel hplt) trodAll_mk0), rfl, bel.frame _, fun h => by cases h⟩

theorem over : Rows.allRow.holds Tryz.pinned (OpenSpec.ofChange Rows.allSpec) :=
  OpenClaim.holds_of_wide 3 Tryz.f3 rfl rfl rfl rfl rfl rfl rfl ⟨rfl, rfl, rfl, rfl, rfl⟩ rfl rfl rfl rfl rfl (by kernel_rfl) Tryz.func3 (by kernel_rfl)
    (of_decide_eq_true (by kernel_rfl)) (by unfold Func.isWrapper; first | (rw [if_pos (by decide +kernel)]; kernel_rfl) | (rw [if_neg (by decide +kernel)]; exact ⟨rfl, rfl⟩))
    (fun os started H enc _ => lifted os started H enc)

/-- THE STATEMENT -/
theorem proved : Rows.AllSaid :=
  over
#print axioms proved
end Go.Proofs.YtdlldljgogbiaabGreat.all
namespace Go.Proofs.YtdlldljgogbiaabGreat
theorem all_holds : Rows.AllSaid := all.proved
end Go.Proofs.YtdlldljgogbiaabGreat
