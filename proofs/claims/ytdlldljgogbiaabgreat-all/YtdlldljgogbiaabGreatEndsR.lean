/-
  The reference's look which markings can come to the end.
-/
import Derived.Test.YtdlldljgogbiaabGreatCanR
import Derived.Deep.LoopGhost
namespace Go.Proofs.YtdlldljgogbiaabGreat
open Go.RowKit
set_option linter.unusedVariables false
set_option maxRecDepth 40000

/-- some steps from m come to the marking e -/
def Flow.CanEnd (ts : List Flow.Tr) (e m : Nat) : Prop := ∃ ks, Flow.goes ts m ks = some e
def Flow.SoundC (ts : List Flow.Tr) (e : Nat) (l : List Flow.Node) (cs : List Bool) : Prop := ∀ (j : Nat) (n : Flow.Node), l[j]? = some n → cs[j]? = some true → Flow.CanEnd ts e n.mark
def Flow.ClosedC (ts : List Flow.Tr) (e : Nat) (l : List Flow.Node) (cs : List Bool) (i : Nat) : Prop := ∀ (j : Nat) (n : Flow.Node), i ≤ j → l[j]? = some n → Flow.CanNow ts e l cs n.mark → cs[j]? = some true

theorem canNow_end {ts : List Flow.Tr} {m0 e : Nat} {l : List Flow.Node} {cs : List Bool} (hu : Flow.Bfs ts m0 l) (hlen : ts.length ≤ 16) (hs : Flow.SoundC ts e l cs) {i : Nat} {n : Flow.Node} (hn : l[i]? = some n) (h : Flow.CanNow ts e l cs n.mark) : Flow.CanEnd ts e n.mark := by
  rcases h with h | ⟨k, m', h1, h2⟩
  · exact ⟨[], by rw [h]; rfl⟩
  · have hk : k < ts.length := by
      rcases Nat.lt_or_ge k ts.length with g | g
      · exact g
      · unfold Flow.nextM at h1; rw [List.getElem?_eq_none g] at h1; cases h1
    obtain ⟨q0, q1⟩ := bfs_in hu hlen hn hk h1
    obtain ⟨n', hn', hm⟩ := atI_some q0
    obtain ⟨ks, hks⟩ := hs _ n' hn' h2
    refine ⟨k :: ks, ?_⟩
    show (match Flow.nextM ts n.mark k with | none => none | some m' => Flow.goes ts m' ks) = _
    rw [h1]
    rw [hm] at hks
    exact hks
theorem closed_all {ts : List Flow.Tr} {m0 e : Nat} {l : List Flow.Node} {cs : List Bool} (hu : Flow.Bfs ts m0 l) (hlen : ts.length ≤ 16) (hc : Flow.ClosedC ts e l cs 0) (ks : List Nat) {i : Nat} {n : Flow.Node} (hn : l[i]? = some n) (h : Flow.goes ts n.mark ks = some e) : cs[i]? = some true := by
  induction ks generalizing i n with
  | nil =>
    have : n.mark = e := by simpa [Flow.goes] using h
    exact hc i n (Nat.zero_le _) hn (.inl this)
  | cons k ks ih =>
    have h' : (match Flow.nextM ts n.mark k with | none => none | some m' => Flow.goes ts m' ks) = some e := h
    cases hx : Flow.nextM ts n.mark k with
    | none => rw [hx] at h'; cases h'
    | some m' =>
      rw [hx] at h'
      dsimp only at h'
      have hk : k < ts.length := by
        rcases Nat.lt_or_ge k ts.length with g | g
        · exact g
        · unfold Flow.nextM at hx; rw [List.getElem?_eq_none g] at hx; cases hx
      obtain ⟨q0, q1⟩ := bfs_in hu hlen hn hk hx
      obtain ⟨n', hn', hm⟩ := atI_some q0
      have := ih hn' (by rw [hm]; exact h')
      exact hc i n (Nat.zero_le _) hn (.inr ⟨k, m', hx, this⟩)

theorem Tryz.infoT : (Tryz.prog.info? 4).map (fun i => (i.zero, i.size, i.bytes)) = some (some (.bool false), 1, 1) := by kernel_rfl
theorem make_bool (W : World) (n : Nat) (hn : n ≤ 65536) : (Instr.makeSlice 77 (.int .i64 (n : Int)) (.int .i64 (n : Int))).run Tryz.prog W = .ok (.slice (some ⟨W.heap.size, 0, none⟩) n n) (W.alloc (.cells (cellsT (List.replicate n false)) 4)) := by
  obtain ⟨i0, hi, hz0, hz1, hz2⟩ := info_parts Tryz.infoT
  have := run_make (P := Tryz.prog) W 77 4 i0 (.bool false) Tryz.underlying77 hi hz0 .i64 .i64 n n (by omega) (by omega) (by rw [hz2]; omega) (by omega)
  rw [hz1] at this
  have e : madeCells (Value.bool false).cells ((n : Int).toNat * 1) = cellsT (List.replicate n false) := by
    apply Array.ext
    · simp [madeCells, cellsT]
    · intro j h1 h2
      simp [madeCells, cellsT, Value.cells, Nat.mod_one]
  rw [e] at this
  simpa using this

theorem cellsT_set (cs : List Bool) (i : Nat) : (cellsT cs).setIfInBounds i (.bool true) = cellsT (cs.set i true) := by simp [cellsT]
theorem count_set {cs : List Bool} {i : Nat} (h : cs[i]? = some false) : (cs.set i true).count false < cs.count false := by
  induction cs generalizing i with
  | nil => simp at h
  | cons c cs ih =>
    cases i with
    | zero => simp at h; subst h; simp
    | succ i =>
      have := ih (i := i) (by simpa using h)
      simp only [List.set_cons_succ, List.count_cons]
      omega

/-- what ends answers -/
def EndsPost (ts : List Flow.Tr) (e : Nat) (l : List Flow.Node) (w : World) (en : Ending) (w' : World) : Prop :=
  ∃ C cs, en = .returned (.slice (some ⟨C, 0, none⟩) l.length l.length) ∧ Blk w' C (cellsT cs) 4 ∧ cs.length = l.length ∧ (∀ (j : Nat) (n : Flow.Node), l[j]? = some n → (cs[j]? = some true ↔ Flow.CanEnd ts e n.mark)) ∧ Below w.heap.size w w'
/-- one round of ends: what the inner loop keeps -/
def EndsIn (ts : List Flow.Tr) (e : Nat) (l : List Flow.Node) (cs cs' : List Bool) (ag : Bool) (i : Nat) : Prop :=
  Flow.SoundC ts e l cs' ∧ (ag = false → cs' = cs ∧ Flow.ClosedC ts e l cs' i) ∧ (ag = true → cs'.count false < cs.count false)
theorem EndsIn.skip {ts : List Flow.Tr} {e : Nat} {l : List Flow.Node} {cs cs' : List Bool} {ag : Bool} {j : Nat} (h : EndsIn ts e l cs cs' ag (j + 1)) (hj : ∀ n, l[j]? = some n → Flow.CanNow ts e l cs' n.mark → cs'[j]? = some true) : EndsIn ts e l cs cs' ag j := by
  refine ⟨h.1, fun ha => ⟨(h.2.1 ha).1, ?_⟩, h.2.2⟩
  intro q n hq hn hc
  by_cases e1 : q = j
  · subst e1; exact hj n hn hc
  · exact (h.2.1 ha).2 q n (by omega) hn hc
theorem EndsIn.put {ts : List Flow.Tr} {e m0 : Nat} {l : List Flow.Node} {cs cs' : List Bool} {ag : Bool} {j : Nat} {n : Flow.Node} (hu : Flow.Bfs ts m0 l) (hlen : ts.length ≤ 16) (h : EndsIn ts e l cs cs' ag (j + 1)) (hc : cs'[j]? = some false) (hn : l[j]? = some n) (hcan : Flow.CanNow ts e l cs' n.mark) : EndsIn ts e l cs (cs'.set j true) true j := by
  have hlt := count_set hc
  refine ⟨?_, (fun x => by cases x), fun _ => ?_⟩
  · intro q n' hq hx
    by_cases e1 : j = q
    · subst e1; rw [hn] at hq; injection hq with hq; rw [← hq]; exact canNow_end hu hlen h.1 hn hcan
    · rw [List.getElem?_set_ne e1] at hx; exact h.1 q n' hq hx
  · cases ag with
    | false => rw [(h.2.1 rfl).1] at hlt ⊢; exact hlt
    | true => have := h.2.2 rfl; omega

set_option maxRecDepth 400000 in
set_option maxHeartbeats 4000000 in
theorem endsR_any (ts : List Flow.Tr) (x : Int) (b : Nat) (a : Option Addr) (cap m base0 : Nat) (l : List Flow.Node) (base B : Nat) (w : World) (hb15 : b ≤ 15) (hts : ∀ t ∈ ts, Flow.Small t) (hlen : ts.length ≤ 16) (hu : Flow.Bfs ts m l) (h : WalkIn w base B l)
    (hown : w.ownsRow base0 108 3 (.slice a ts.length cap) ts.length (cellsR ts)) :
    Calls Tryz.prog 77 #[.pointer (some ⟨B, 0, none⟩), .agg (netC x (b : Int) a ts.length cap)] w (EndsPost ts (2 ^ b) l w) := by
  have h65 := Flow.Upto.size hu
  have U : Hid (Flow.Bfs ts m l) := hu
  have IN : Hid (WalkIn w base B l) := h
  have OW : Hid (w.ownsRow base0 108 3 (.slice a ts.length cap) ts.length (cellsR ts)) := hown
  have HT : Hid (∀ t ∈ ts, Flow.Small t) := hts
  obtain ⟨aM, aF, aB, cM, cF, cB, A, x0, x1, x2, x3, zB, zA, _, hat, hno⟩ := h.look
  have hmk := fun W => make_bool W l.length h65
  clear hu h hown hts hno x1 x2 x3 hat
  go_enter Tryz.func77, Tryz.ntmps77
  go_wp2
  go_loopg [6] (l.length + 2) (fun gk ag' wr => ∃ (cs : List Bool) (ag : Bool), cs.length = l.length ∧ cs.count false + (if ag then 1 else 0) < gk ∧ ag' = .bool ag ∧ Blk wr w.heap.size (netC x (b : Int) a ts.length cap) 64 ∧ Blk wr (w.heap.size + 1) (cellsT cs) 4 ∧ Below w.heap.size w wr ∧ Hid (Flow.SoundC ts (2 ^ b) l cs) ∧ Hid (ag = false → Flow.ClosedC ts (2 ^ b) l cs 0))
  case atStart =>
    refine ⟨List.replicate l.length false, true, by simp, by simp, rfl, (Blk.new _ _ _).alloc _, Blk.new_at (by simp) _ _, ((Below.refl _ _).alloc (Nat.le_refl _) _).alloc (by simp) _, ?_, fun h => by cases h⟩
    intro j n hj hc
    rw [List.getElem?_replicate] at hc
    split at hc <;> simp at hc
  case round =>
    obtain ⟨cs, ag, hcs, hgk, rfl, hb0, hbC, hbw, HS, HC⟩ := hrel
    have z0 := hb0.lt
    have zC := hbC.lt
    have hwb := hbw.size
    have x0' : wr.cell? ⟨B, 0, none⟩ = some (.slice aM l.length cM) := (hbw.cell (p := ⟨B, 0, none⟩) zB).trans x0
    have B0 : Hid (Blk wr w.heap.size (netC x (b : Int) a ts.length cap) 64) := hb0
    have BC : Hid (Blk wr (w.heap.size + 1) (cellsT cs) 4) := hbC
    have HW : Hid (Below w.heap.size w wr) := hbw
    clear hb0 hbC hbw hmk
    cases ag with
    | false =>
      have HC2 : Hid (Flow.ClosedC ts (2 ^ b) l cs 0) := HC.out rfl
      clear HC
      go_wp2
      go_ret
      refine ⟨w.heap.size + 1, cs, rfl, BC.out, hcs, ?_, HW.out⟩
      intro j n hj
      constructor
      · exact HS.out j n hj
      · rintro ⟨ks, hks⟩; exact closed_all U.out hlen HC2.out ks hj hks
    | true =>
      clear HC
      have hgk1 : cs.count false + 1 < gk := by simpa using hgk
      have hgk' : Hid (cs.count false + 1 < gk) := hgk1
      clear hgk1
      clear hgk
      go_wp2
      obtain ⟨wo, rfl⟩ : ∃ wo : World, wo = wr := ⟨_, rfl⟩
      obtain ⟨go, hgo⟩ : ∃ go : Nat, go = gk := ⟨_, rfl⟩
      have HGO : Hid (go = gk) := hgo
      clear hgo
      go_loopg [6, 7] (l.length + 1) (fun gi ag' i' wr => ∃ (cs' : List Bool) (ag : Bool) (i : Nat), i < gi ∧ i ≤ l.length ∧ cs'.length = l.length ∧ ag' = .bool ag ∧ i' = .int .i64 ((i : Int) - 1) ∧ Blk wr w.heap.size (netC x (b : Int) a ts.length cap) 64 ∧ Blk wr (w.heap.size + 1) (cellsT cs') 4 ∧ Below w.heap.size w wr ∧ Hid (EndsIn ts (2 ^ b) l cs cs' ag i))
      case atStart => exact ⟨cs, false, l.length, by omega, by omega, hcs, rfl, rfl, B0.out, BC.out, HW.out, HS.out, fun _ => ⟨rfl, fun j n hj hn => by have := (List.getElem?_eq_some_iff.1 hn).1; omega⟩, fun h => by cases h⟩
      case round =>
        obtain ⟨cs', ag, i, hig, hil, hcs', rfl, rfl, hb0, hbC, hbw, HE⟩ := hrel
        clear B0 BC HW HS z0 zC hwb x0'
        have z0 := hb0.lt
        have zC := hbC.lt
        have hwb := hbw.size
        have B0 : Hid (Blk wr w.heap.size (netC x (b : Int) a ts.length cap) 64) := hb0
        have BC : Hid (Blk wr (w.heap.size + 1) (cellsT cs') 4) := hbC
        have HW : Hid (Below w.heap.size w wr) := hbw
        by_cases h0 : i = 0
        · subst h0
          clear hb0 hbC hbw
          go_wp2
          go_roundg (cs'.count false + (if ag then 1 else 0) + 1)
          case measure =>
            have h1 := hgk'.out
            cases ag with
            | false => have := (HE.out.2.1 rfl).1; rw [this]; simp; omega
            | true => have := HE.out.2.2 rfl; simp; omega
          case rel => exact ⟨cs', ag, hcs', by omega, rfl, B0.out, BC.out, HW.out, HE.out.1, fun h => (HE.out.2.1 h).2⟩
        · obtain ⟨j, rfl⟩ : ∃ j, i = j + 1 := ⟨i - 1, by omega⟩
          have n0 : wr.cell? ⟨w.heap.size, 0, none⟩ = some (.int .i64 x) := hb0.cell 0
          have n1 : wr.cell? ⟨w.heap.size, 1, none⟩ = some (.int .i64 b) := hb0.cell 1
          have n2 : wr.cell? ⟨w.heap.size, 2, none⟩ = some (.slice a ts.length cap) := hb0.cell 2
          obtain ⟨cb, hcb⟩ : ∃ cb, cs'[j]? = some cb := ⟨_, List.getElem?_eq_getElem (by omega)⟩
          have m7 : wr.cell? ⟨w.heap.size + 1, j, none⟩ = some (.bool cb) := by rw [hbC.cell]; exact cellsT_get hcb
          have ej : (((j + 1 : Nat) : Int) - 1) = (j : Int) := by omega
          rw [ej]
          clear ej
          have hL0 : (0 : Int) ≤ (j : Int) := by omega
          have hL1 : (j : Int) < (l.length : Int) := by omega
          have hjl : j < l.length := by omega
          cases cb with
          | true =>
            have HE' : Hid (EndsIn ts (2 ^ b) l cs cs' ag j) := HE.out.skip (fun n hn hc => hcb)
            clear hb0 hbC hbw n0 n1 n2 HE hcb
            go_wp2
            go_roundg (j + 1)
            case measure => omega
            case rel => exact ⟨cs', ag, j, by omega, by omega, hcs', rfl, by go_num, B0.out, BC.out, HW.out, HE'⟩
          | false =>
            have IN2 : Hid (WalkIn wr base B l) := IN.out.below hbw
            have OW2 : Hid (wr.ownsRow base0 108 3 (.slice a ts.length cap) ts.length (cellsR ts)) := owns_below OW.out hbw (Nat.le_refl _)
            have c1 := canR_any ts x b a cap m base0 l cs' base B (w.heap.size + 1) l.length j wr hb15 HT.out hlen U.out hjl hcs' IN2.out hbC OW2.out
            have hn := List.getElem?_eq_getElem hjl
            have CB : Hid (cs'[j]? = some false) := hcb
            have N : Hid (l[j]? = some l[j]) := hn
            clear hb0 hbC hbw hcb hn
            go_wp2_with (go_at_call 103; refine c1.mono ?_; rintro e w2 ⟨ok, rfl, hok, hb2⟩; have HOK : Hid _ := hok; have HB2 : Hid _ := hb2; have v7 : w2.cell? ⟨w.heap.size + 1, j, none⟩ = some (.bool false) := (hb2.cell (p := ⟨w.heap.size + 1, j, none⟩) zC).trans m7; have y7 : w2.frozen? ⟨w.heap.size + 1, j, none⟩ = false := (hb2.frozen (p := ⟨w.heap.size + 1, j, none⟩) zC).trans (BC.out.froz j); clear hok hb2)
            · have hokt : ok = true := by assumption
              have HE' : Hid (EndsIn ts (2 ^ b) l cs (cs'.set j true) true j) := by
                obtain ⟨n, hn, hcan⟩ := HOK.out.1 hokt
                exact HE.out.put U.out hlen CB.out hn hcan
              go_roundg (j + 1)
              case measure => omega
              case rel =>
                refine ⟨cs'.set j true, true, j, by omega, by omega, by simp [hcs'], rfl, by go_num, (B0.out.below HB2.out z0).far _ _ (by simp), ?_, (HW.out.trans (HB2.out.mono hwb)).setCell (by simp) _, HE'⟩
                rw [← cellsT_set]
                exact (BC.out.below HB2.out zC).set j _
            · have hokf : ok = false := by assumption
              have HE' : Hid (EndsIn ts (2 ^ b) l cs cs' ag j) := HE.out.skip (fun n hn hc => by have := HOK.out.2 ⟨n, hn, hc⟩; rw [hokf] at this; cases this)
              go_roundg (j + 1)
              case measure => omega
              case rel => exact ⟨cs', ag, j, by omega, by omega, hcs', rfl, by go_num, B0.out.below HB2.out z0, BC.out.below HB2.out zC, HW.out.trans (HB2.out.mono hwb), HE'⟩
end Go.Proofs.YtdlldljgogbiaabGreat
