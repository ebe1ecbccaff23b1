/-
  Laid as one: StepF, TurnF, StuckF, SpillF, JudgeF, TopF.
-/
import Derived.Test.YtdlldljgogbiaabRunF
import Derived.Test.YtdlldljgogbiaabPlayF
import Derived.Test.YtdlldljgogbiaabTurn
import Derived.Test.YtdlldljgogbiaabLayR
import Derived.Test.YtdlldljgogbiaabJudgedR
import Derived.Test.YtdlldljgogbiaabJudgeR
import Derived.Test.YtdlldljgogbiaabFire
namespace Go.Proofs.Ytdlldljgogbiaab
open Go.RowKit
set_option linter.unusedVariables false
set_option maxRecDepth 40000

theorem string_snoc {w : World} {base g c : Nat} (ks : List Nat) (k : Nat) (h : w.ownsRow base 5 1 (.slice (some ⟨g, 0, none⟩) ((Flow.signs ks).length + 1) c) ((Flow.signs ks).length + 1) (cellsB (Flow.signs ks) ++ [.int .u8 ((Flow.sgn k).toNat : Int)])) :
    (convert 73 9 (.slice (some ⟨g, 0, none⟩) ((Flow.signs ks).length + 1) c)).run Try.prog w = .ok (.string (Flow.runOf (ks ++ [k]))) w := by
  have e : Flow.signs (ks ++ [k]) = Flow.signs ks ++ [Flow.sgn k] := signs_append ks [k]
  have el : (Flow.signs (ks ++ [k])).length = (Flow.signs ks).length + 1 := by rw [e]; simp
  have := string_of_owned (w := w) (base := base) (a := some ⟨g, 0, none⟩) (cap := c) (Flow.signs (ks ++ [k])) (by rw [el, e, cellsB_snoc]; exact h)
  rw [el] at this
  exact this

/-- the place of a marking among the visits, or -1 -/
def Flow.EndIs (l : List Flow.Node) (e : Nat) (r : Int) : Prop :=
  (∃ (i : Nat) (n : Flow.Node), l[i]? = some n ∧ n.mark = e ∧ r = (i : Int)) ∨ ((∀ (i : Nat) (n : Flow.Node), l[i]? = some n → n.mark ≠ e) ∧ r = -1)

set_option maxHeartbeats 1000000 in
theorem endVisit_any (ts : List Flow.Tr) (m : Nat) (l : List Flow.Node) (x y : Nat) (a : Option Addr) (n0 cap base B P : Nat) (w : World) (hy : y < 256) (hu : Flow.Upto ts m l P) (h : SeaIn w base B l) :
    Calls Try.prog 34 #[.pointer (some ⟨B, 0, none⟩), .agg (netF x y a n0 cap)] w fun e w' => ∃ r, e = .returned (.int .i64 r) ∧ Flow.EndIs l (Flow.pbit y) r ∧ Below w.heap.size w w' := by
  have h65 := hu.size
  have U : Hid (Flow.Upto ts m l P) := hu
  have IN : Hid (SeaIn w base B l) := h
  have cp : ∀ W, Calls Try.prog 59 #[.int .u8 y] W fun e w' => e = .returned (.int .i64 (Flow.pbit y)) ∧ w' = W := fun W => placeBit_any y W hy
  clear hu h
  go_enter Try.func34, Try.ntmps34
  go_wp2
  go_loopw [5] (fun i' wr => ∃ (i : Nat), i ≤ l.length ∧ i' = .int .i64 i ∧ Blk wr w.heap.size (netF x y a n0 cap) 64 ∧ Below w.heap.size w wr ∧ Hid (∀ (p : Nat) (n : Flow.Node), p < i → l[p]? = some n → n.mark ≠ Flow.pbit y)) (fun i' _ => l.length - (intOf i').toNat)
  case atStart => exact ⟨0, by omega, rfl, Blk.new _ _ _, (Below.refl _ _).alloc (Nat.le_refl _) _, fun p n hp => by omega⟩
  case round =>
    obtain ⟨i, hil, rfl, hb0, hbw, HN⟩ := hrel
    obtain ⟨aV, cV, A, x0, x1, zB, zA, _, _, hno⟩ := (IN.out.below hbw).look
    have B0 : Hid (Blk wr w.heap.size (netF x y a n0 cap) 64) := hb0
    have HW : Hid _ := hbw
    have y1 : wr.cell? ⟨w.heap.size, 1, none⟩ = some (.int .u8 y) := hb0.cell 1
    have z0 := hb0.lt
    clear hb0 hbw x1 zA
    by_cases hlt : i < l.length
    · have hn := List.getElem?_eq_getElem hlt
      obtain ⟨gV, rfl, l1, e0, _, _⟩ := hno i _ hn
      obtain ⟨n, en⟩ : ∃ n, n = l[i] := ⟨_, rfl⟩
      rw [← en] at hn e0
      have N : Hid (l[i]? = some n) := hn
      have hI0 : (0 : Int) ≤ (i : Int) := by omega
      have hI1 : (i : Int) < (l.length : Int) := by omega
      clear hno hn en
      by_cases hE : n.mark = Flow.pbit y
      · have te : ((n.mark : Int) == (Flow.pbit y : Int)) = true := by rw [hE]; simp
        have E : Hid (n.mark = Flow.pbit y) := hE
        clear hE
        go_wp2
        go_quiet ((go_at_call 59; exact Calls.quiet_of_same (cp _)))
        go_wp2
        all_goals go_ret
        all_goals exact ⟨(i : Int), rfl, .inl ⟨i, n, N.out, E.out, rfl⟩, below_drewN HW.out _⟩
      · have te : ((n.mark : Int) == (Flow.pbit y : Int)) = false := by simp; omega
        have HN' : Hid (∀ (p : Nat) (n : Flow.Node), p < i + 1 → l[p]? = some n → n.mark ≠ Flow.pbit y) := by
          intro p n' hp hn'
          by_cases e : p = i
          · subst e; rw [N.out] at hn'; injection hn' with hn'; rw [← hn']; exact hE
          · exact HN.out p n' (by omega) hn'
        clear hE
        go_wp2
        go_quiet ((go_at_call 59; exact Calls.quiet_of_same (cp _)))
        go_wp2
        all_goals go_roundw
        all_goals (first | (simp [intOf]; omega) | exact ⟨i + 1, by omega, by go_num, B0.out.drewN _, below_drewN HW.out _, HN'⟩)
    · obtain rfl : i = l.length := by omega
      clear hno
      go_wp2
      go_ret
      exact ⟨-1, rfl, .inr ⟨fun i n hi => HN.out i n (List.getElem?_eq_some_iff.1 hi).1 hi, rfl⟩, HW.out⟩

/-- the first visit at which transition k fires, or -1 -/
def Flow.FirstIs (ts : List Flow.Tr) (l : List Flow.Node) (k : Nat) (r : Int) : Prop :=
  (∃ (i : Nat) (n : Flow.Node) (m' : Nat), l[i]? = some n ∧ Flow.nextM ts n.mark k = some m' ∧ Flow.NoBy ts l k i ∧ r = (i : Int)) ∨ (Flow.NoBy ts l k l.length ∧ r = -1)

end Go.Proofs.Ytdlldljgogbiaab
namespace Go.Proofs.Ytdlldljgogbiaab
open Go.RowKit
set_option linter.unusedVariables false
set_option maxRecDepth 20000

theorem turn_snoc {ts : List Flow.Tr} {k : Nat} {t : Flow.Tr} (h : ts[k]? = some t) : Flow.turn (ts.take (k + 1)) = Flow.turn (ts.take k) ++ [Flow.turnT t] := by
  rw [List.take_add_one, h]; simp [Flow.turn]

end Go.Proofs.Ytdlldljgogbiaab
namespace Go.Proofs.Ytdlldljgogbiaab
open Go.RowKit
set_option linter.unusedVariables false
set_option maxRecDepth 40000

/-- what firstDead answers -/
def Flow.DeadAt (ts : List Flow.Tr) (l : List Flow.Node) (r : Int) : Prop :=
  (∃ k, k < ts.length ∧ Flow.NoBy ts l k l.length ∧ Flow.NoDead ts l k ∧ r = (k : Int)) ∨ (Flow.NoDead ts l ts.length ∧ r = -1)

/-- what firstStuck answers -/
def Flow.StuckAt (ts : List Flow.Tr) (e : Nat) (l : List Flow.Node) (r : Int) : Prop :=
  (∃ (i : Nat) (n : Flow.Node), l[i]? = some n ∧ ¬ Flow.CanEnd ts e n.mark ∧ Flow.NoStuck ts e l i ∧ r = (i : Int)) ∨ (Flow.NoStuck ts e l l.length ∧ r = -1)
theorem atI_has {l : List Flow.Node} {m : Nat} : 0 ≤ atI l m ↔ ∃ (j : Nat) (x : Flow.Node), l[j]? = some x ∧ x.mark = m := by
  constructor
  · intro h
    obtain ⟨n, h1, h2⟩ := atI_some h
    exact ⟨_, n, h1, h2⟩
  · rintro ⟨j, x, h1, h2⟩
    rcases Int.lt_or_le (atI l m) 0 with g | g
    · exact absurd h2 (atI_none.1 g j x h1)
    · exact g

theorem can_iff {ts : List Flow.Tr} {E m : Nat} {lb : List Flow.Node} (hts : ∀ t ∈ ts, Flow.Small t) (hlen : ts.length ≤ 16) (hE : E < 65536) (hb : Flow.Bfs (Flow.turn ts) E lb) (hm : m < 65536) : decide (0 ≤ atI lb m) = true ↔ Flow.CanEnd ts E m := by
  rw [decide_eq_true_iff, atI_has]
  exact turn_has hts hlen hE hb hm
/-- a search that was told is laid into a block that was there -/
theorem sea_low {w2 : World} {X b A : Nat} {lb : List Flow.Node} {aV : Option Addr} {cV : Nat} {arr : Array Value} {c0 c1 : Value} (K : Blk w2 X #[c0, c1] 70) (R : SeaRows w2 b A lb aV cV arr) (hX : X < b) :
    SeaIn ((w2.setCell ⟨X, 0, none⟩ (.slice aV lb.length cV)).setCell ⟨X, 1, none⟩ (.slice (some ⟨A, 0, none⟩) 65536 65536)) 0 X lb := by
  refine ⟨aV, cV, A, arr, Nat.zero_le _, by have := R.baseA; omega, ?_, ?_, ((R.farR hX 0 _).farR hX 1 _).lower (Nat.zero_le _)⟩
  · intro e; have := (owns_lt R.rV e).1; omega
  · have := (K.set 0 (.slice aV lb.length cV)).set 1 (.slice (some ⟨A, 0, none⟩) 65536 65536)
    simpa using this
/-- .. or into a new one -/
theorem sea_new {w2 : World} {b A : Nat} {lb : List Flow.Node} {aV : Option Addr} {cV : Nat} {arr : Array Value} (R : SeaRows w2 b A lb aV cV arr) :
    SeaIn (w2.alloc (.cells (seaC aV lb.length cV A) 70)) 0 w2.heap.size lb := by
  refine ⟨aV, cV, A, arr, Nat.zero_le _, by have := R.rA.lt; omega, ?_, Blk.new _ _ _, (R.below ((Below.refl _ _).alloc (Nat.le_refl _) _)).lower (Nat.zero_le _)⟩
  intro e; have := (owns_lt R.rV e).2; omega

end Go.Proofs.Ytdlldljgogbiaab
namespace Go.Proofs.Ytdlldljgogbiaab
open Go.RowKit
set_option linter.unusedVariables false
set_option maxRecDepth 40000

/-- what firstSpill answers -/
def Flow.SpillAt (ts : List Flow.Tr) (l : List Flow.Node) (r s : Int) : Prop :=
  (∃ (i k : Nat) (n : Flow.Node), l[i]? = some n ∧ k < ts.length ∧ Flow.spillM ts n.mark k ∧ Flow.NoSpill ts l i k ∧ r = (i : Int) ∧ s = (k : Int)) ∨ (Flow.NoSpill ts l l.length 0 ∧ r = -1 ∧ s = -1)
theorem fireErr_spill {t : Flow.Tr} {m : Nat} : Flow.fireErr t m = 6 ↔ Flow.enabled t m = true ∧ Flow.spills t m = true := by
  unfold Flow.fireErr
  cases Flow.enabled t m <;> cases Flow.spills t m <;> simp

/-- what firstImproper answers -/
def Flow.ImpAt (e : Nat) (l : List Flow.Node) (r : Int) : Prop :=
  (∃ (i : Nat) (n : Flow.Node), l[i]? = some n ∧ Flow.Improper e n.mark ∧ Flow.NoImp e l i ∧ r = (i : Int)) ∨ (Flow.NoImp e l l.length ∧ r = -1)

end Go.Proofs.Ytdlldljgogbiaab
namespace Go.Proofs.Ytdlldljgogbiaab
open Go.RowKit
set_option linter.unusedVariables false
set_option maxRecDepth 40000

/-- what stands all through the program's judge -/
structure StandsF (w : World) (base0 X x y : Nat) (a : Option Addr) (cap : Nat) (ts : List Flow.Tr) (l : List Flow.Node) (wr : World) : Prop where
  net : Blk wr w.heap.size (netF x y a ts.length cap) 64
  own : wr.ownsRow base0 135 3 (.slice a ts.length cap) ts.length (cellsF ts)
  sea : SeaIn wr 0 X l
  bel : Below w.heap.size w wr
theorem StandsF.below {w : World} {base0 X x y : Nat} {a : Option Addr} {cap : Nat} {ts : List Flow.Tr} {l : List Flow.Node} {wr w2 : World} (h : StandsF w base0 X x y a cap ts l wr) (hb : Below wr.heap.size wr w2) : StandsF w base0 X x y a cap ts l w2 :=
  ⟨h.net.below hb h.net.lt, owns_below h.own hb (Nat.le_refl _), h.sea.below hb, h.bel.trans (hb.mono h.bel.size)⟩
theorem StandsF.look {w : World} {base0 X x y : Nat} {a : Option Addr} {cap : Nat} {ts : List Flow.Tr} {l : List Flow.Node} {wr : World} (h : StandsF w base0 X x y a cap ts l wr) :
    wr.cell? ⟨w.heap.size, 0, none⟩ = some (.int .u8 x) ∧ wr.cell? ⟨w.heap.size, 1, none⟩ = some (.int .u8 y) ∧ wr.cell? ⟨w.heap.size, 2, none⟩ = some (.slice a ts.length cap) ∧ w.heap.size < wr.heap.size ∧ X < wr.heap.size :=
  ⟨h.net.cell 0, h.net.cell 1, h.net.cell 2, h.net.lt, by obtain ⟨_, _, _, _, _, z, _⟩ := h.sea.look; exact z⟩
/-- the string of one byte in a new row -/
theorem string_one (W : World) (b : UInt8) : (convert 73 9 (.slice (some ⟨W.heap.size, 0, none⟩) 1 1)).run Try.prog (W.alloc (.cells #[.int .u8 (b.toNat : Int)] 5)).drew = .ok (.string ⟨#[b]⟩) (W.alloc (.cells #[.int .u8 (b.toNat : Int)] 5)).drew := by
  refine run_convert_bytes_back (W.alloc (.cells #[.int .u8 (b.toNat : Int)] 5)).drew 73 9 5 ⟨W.heap.size, 0, none⟩ 1 [b] Try.underlying73 Try.underlying5 Try.underlying9 ?_
  intro j hj
  have := cell_one_new W (.int .u8 (b.toNat : Int)) 5 j (.int .u8 (b.toNat : Int))
  match j, hj with
  | 0, _ => exact this rfl

end Go.Proofs.Ytdlldljgogbiaab
namespace Go.Proofs.Ytdlldljgogbiaab
open Go.RowKit
set_option linter.unusedVariables false
set_option maxRecDepth 40000

theorem last_pbit {s : ByteArray} (h : Flow.isPl (Flow.bt s 1) = true) : Flow.last s = Flow.pbit (Flow.bt s 1) := by
  unfold Flow.last Flow.pbit; rw [if_pos h]

end Go.Proofs.Ytdlldljgogbiaab
