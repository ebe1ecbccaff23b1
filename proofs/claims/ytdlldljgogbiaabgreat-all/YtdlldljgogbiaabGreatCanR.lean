/-
  The reference's look whether a marking can come to the end: one round of it.
-/
import Derived.Test.YtdlldljgogbiaabGreatRunR
import Derived.Deep.RegionHeld3
import Derived.Deep.QuietTactic
import Derived.BigQuiet
namespace Go.Proofs.YtdlldljgogbiaabGreat
open Go.RowKit
set_option linter.unusedVariables false
set_option maxRecDepth 40000

/-- a row of bools -/
def cellsT (cs : List Bool) : Array Value := (cs.map Value.bool).toArray
theorem cellsT_get {cs : List Bool} {i : Nat} {b : Bool} (h : cs[i]? = some b) : (cellsT cs)[i]? = some (.bool b) := by simp [cellsT, h]
/-- by what is known so far, the marking m can come to the end -/
def Flow.CanNow (ts : List Flow.Tr) (e : Nat) (l : List Flow.Node) (cs : List Bool) (m : Nat) : Prop :=
  m = e ∨ ∃ k m', Flow.nextM ts m k = some m' ∧ cs[(atI l m').toNat]? = some true
/-- no transition below k leads from m to a marking that is known to come to the end -/
def Flow.NoCan (ts : List Flow.Tr) (l : List Flow.Node) (cs : List Bool) (m k : Nat) : Prop := ∀ j m', j < k → Flow.nextM ts m j = some m' → cs[(atI l m').toNat]? ≠ some true

theorem mark_ne {m b : Nat} (hb : b ≤ 15) (h : m ≠ 2 ^ b) : ((m : Int) == wrap64 (2 ^ b)) = false := by
  rw [pow_small' b hb]
  generalize 2 ^ b = z at h ⊢
  simp; omega
theorem bfs_in {ts : List Flow.Tr} {m0 : Nat} {l : List Flow.Node} (h : Flow.Bfs ts m0 l) (hlen : ts.length ≤ 16) {i k m' : Nat} {n : Flow.Node} (hn : l[i]? = some n) (hk : k < ts.length) (hx : Flow.nextM ts n.mark k = some m') : 0 ≤ atI l m' ∧ atI l m' < l.length := by
  have hil := (List.getElem?_eq_some_iff.1 hn).1
  obtain ⟨q, nq, hq, hm, _⟩ := h.all i k n m' hn (by omega) (by omega) hx
  refine ⟨?_, (atI_bd l m').2⟩
  rcases Int.lt_or_le (atI l m') 0 with g | g
  · exact absurd hm (atI_none.1 g q nq hq)
  · exact g

set_option maxRecDepth 400000 in
set_option maxHeartbeats 4000000 in
theorem canR_any (ts : List Flow.Tr) (x : Int) (b : Nat) (a : Option Addr) (cap m base0 : Nat) (l : List Flow.Node) (cs : List Bool) (base B C cC i : Nat) (w : World) (hb15 : b ≤ 15) (hts : ∀ t ∈ ts, Flow.Small t) (hlen : ts.length ≤ 16) (hu : Flow.Bfs ts m l) (hi : i < l.length) (hcs : cs.length = l.length) (h : WalkIn w base B l)
    (hC : Blk w C (cellsT cs) 4) (hown : w.ownsRow base0 108 3 (.slice a ts.length cap) ts.length (cellsR ts)) :
    Calls Tryz.prog 103 #[.pointer (some ⟨B, 0, none⟩), .agg (netC x (b : Int) a ts.length cap), .slice (some ⟨C, 0, none⟩) l.length cC, .int .i64 i] w fun e w' => ∃ ok, e = .returned (.bool ok) ∧ (ok = true ↔ ∃ n, l[i]? = some n ∧ Flow.CanNow ts (2 ^ b) l cs n.mark) ∧ Below w.heap.size w w' := by
  have h65 := Flow.Upto.size hu
  have U : Hid (Flow.Bfs ts m l) := hu
  have IN : Hid (WalkIn w base B l) := h
  have OW : Hid (w.ownsRow base0 108 3 (.slice a ts.length cap) ts.length (cellsR ts)) := hown
  have HT : Hid (∀ t ∈ ts, Flow.Small t) := hts
  have KC : Hid (Blk w C (cellsT cs) 4) := hC
  obtain ⟨aM, aF, aB, cM, cF, cB, A, x0, x1, x2, x3, zB, zA, _, hat, hno⟩ := h.look
  have hn := List.getElem?_eq_getElem hi
  obtain ⟨gM, gF, gB, rfl, rfl, rfl, l1, l2, l3, d1, d2, d3⟩ := hno i _ hn
  obtain ⟨n, en⟩ : ∃ n, n = l[i] := ⟨_, rfl⟩
  rw [← en] at hn d1
  have N : Hid (l[i]? = some n) := hn
  have hnm := Flow.Upto.small hu i n hn
  have hI0 : (0 : Int) ≤ (i : Int) := by omega
  have hI1 : (i : Int) < (l.length : Int) := by omega
  have AT : Hid (∀ m, m < 65536 → w.cell? ⟨A, m, none⟩ = some (.int .i64 (atI l m))) := hat
  have hpow := pow_small' b hb15
  have zC := hC.lt
  have fin : ∀ ok, (ok = true ↔ Flow.CanNow ts (2 ^ b) l cs n.mark) → (ok = true ↔ ∃ n, l[i]? = some n ∧ Flow.CanNow ts (2 ^ b) l cs n.mark) := by
    intro ok h
    rw [h]
    constructor
    · intro g; exact ⟨n, N.out, g⟩
    · rintro ⟨n', hn', g⟩; rw [N.out] at hn'; injection hn' with hn'; rw [hn']; exact g
  have FIN := show Hid _ from fin
  clear hu h hown hts hC hn en d2 d3 l2 l3 hno x1 x2 hat fin
  by_cases he : n.mark = 2 ^ b
  · have t1 : ((n.mark : Int) == IntKind.i64.wrap (2 ^ b)) = true := by rw [show IntKind.i64.wrap (2 ^ b) = wrap64 (2 ^ b) from IntWalk.i64_left _, hpow, he]; simp
    have t2 : ((n.mark : Int) == wrap64 (2 ^ b)) = true := by rw [hpow, he]; simp
    have E : Hid (Flow.CanNow ts (2 ^ b) l cs n.mark) := .inl he
    clear hpow he
    go_enter Tryz.func103, Tryz.ntmps103
    go_wp2
    go_quiet (fail)
    go_wp2
    go_ret
    exact ⟨true, rfl, FIN.out true ⟨fun _ => E.out, fun _ => rfl⟩, below_drewN ((Below.refl _ _).alloc (Nat.le_refl _) _) _⟩
  · have t2 : ((n.mark : Int) == wrap64 (2 ^ b)) = false := mark_ne hb15 he
    have t1 : ((n.mark : Int) == IntKind.i64.wrap (2 ^ b)) = false := by rw [show IntKind.i64.wrap (2 ^ b) = wrap64 (2 ^ b) from IntWalk.i64_left _]; exact t2
    have E : Hid (n.mark ≠ 2 ^ b) := he
    clear hpow he
    go_enter Tryz.func103, Tryz.ntmps103
    go_wp2
    go_quiet (fail)
    go_wp2
    go_loopw [9] (fun k' wr => ∃ (k : Nat), k ≤ ts.length ∧ k' = .int .i64 k ∧ Blk wr w.heap.size (netC x (b : Int) a ts.length cap) 64 ∧ Below w.heap.size w wr ∧ Hid (Flow.NoCan ts l cs n.mark k)) (fun k' _ => ts.length - (intOf k').toNat)
    case atStart => exact ⟨0, by omega, rfl, (Blk.new _ _ _).drewN _, below_drewN ((Below.refl _ _).alloc (Nat.le_refl _) _) _, fun j m' hj => by omega⟩
    case round =>
      obtain ⟨k, hkl, rfl, hb0, hbw, HN⟩ := hrel
      clear t1 t2
      have n0 : wr.cell? ⟨w.heap.size, 0, none⟩ = some (.int .i64 x) := hb0.cell 0
      have n1 : wr.cell? ⟨w.heap.size, 1, none⟩ = some (.int .i64 b) := hb0.cell 1
      have n2 : wr.cell? ⟨w.heap.size, 2, none⟩ = some (.slice a ts.length cap) := hb0.cell 2
      have z0 := hb0.lt
      have hwb := hbw.size
      have B0 : Hid (Blk wr w.heap.size (netC x (b : Int) a ts.length cap) 64) := hb0
      have HW : Hid (Below w.heap.size w wr) := hbw
      by_cases hk : k < ts.length
      · have OW2 : Hid (wr.ownsRow base0 108 3 (.slice a ts.length cap) ts.length (cellsR ts)) := owns_below OW.out hbw (Nat.le_refl _)
        have m3 : wr.cell? ⟨B, 0, none⟩ = some (.slice (some ⟨gM, 0, none⟩) l.length cM) := (hbw.cell (p := ⟨B, 0, none⟩) zB).trans x0
        have m4 : wr.cell? ⟨gM, i, none⟩ = some (.int .i64 n.mark) := (hbw.cell (p := ⟨gM, i, none⟩) l1).trans d1
        have m5 : wr.cell? ⟨B, 3, none⟩ = some (.slice (some ⟨A, 0, none⟩) 65536 65536) := (hbw.cell (p := ⟨B, 3, none⟩) zB).trans x3
        have yB : B < wr.heap.size := by omega
        have yM : gM < wr.heap.size := by omega
        have yA : A < wr.heap.size := by omega
        have yC : C < wr.heap.size := by omega
        have hJ0 : (0 : Int) ≤ (k : Int) := by omega
        have hJ1 : (k : Int) < (ts.length : Int) := by omega
        have c2 : ∀ W, W.ownsRow base0 108 3 (.slice a ts.length cap) ts.length (cellsR ts) → Calls Tryz.prog 82 #[.agg (netC x (b : Int) a ts.length cap), .int .i64 n.mark, .int .i64 k] W fun e w' => e = .returned (.int .i64 (Flow.nextI ts n.mark k)) ∧ Below W.heap.size W w' := fun W ho => nextR_any ts x b a cap n.mark k base0 W hnm HT.out hlen hk ho
        have AT2 : Hid (∀ m, m < 65536 → wr.cell? ⟨A, m, none⟩ = some (.int .i64 (atI l m))) := fun m hm => (hbw.cell (p := ⟨A, m, none⟩) zA).trans (AT.out m hm)
        have KC2 : Hid (Blk wr C (cellsT cs) 4) := KC.out.below hbw zC
        clear hb0 hbw x0 x3 d1 zB l1 zA
        cases hnx : Flow.nextM ts n.mark k with
        | none =>
          have e1 : Flow.nextI ts n.mark k = -1 := by unfold Flow.nextI; rw [hnx]
          rw [e1] at c2
          have HN' : Hid (Flow.NoCan ts l cs n.mark (k + 1)) := by
            intro j m' hj hm'
            by_cases e : j = k
            · subst e; rw [hnx] at hm'; cases hm'
            · exact HN.out j m' (by omega) hm'
          clear e1 hnx
          go_wp2
          go_region_held3 (fun w' => w'.cell? ⟨w.heap.size, 0, none⟩ = some (.int .i64 x) ∧ w'.cell? ⟨w.heap.size, 1, none⟩ = some (.int .i64 b) ∧ w'.cell? ⟨w.heap.size, 2, none⟩ = some (.slice a ts.length cap) ∧ w'.cell? ⟨B, 0, none⟩ = some (.slice (some ⟨gM, 0, none⟩) l.length cM) ∧ w'.cell? ⟨gM, i, none⟩ = some (.int .i64 n.mark)) (go_keep) (first | (go_at_call 82; refine (c2 _ (OW2.out.drew)).mono ?_; rintro e w3 ⟨rfl, hb3⟩; have HB3 : Hid _ := hb3; have v0 : w3.cell? ⟨w.heap.size, 0, none⟩ = some (.int .i64 x) := (hb3.cell (p := ⟨w.heap.size, 0, none⟩) z0).trans n0; have v1 : w3.cell? ⟨w.heap.size, 1, none⟩ = some (.int .i64 b) := (hb3.cell (p := ⟨w.heap.size, 1, none⟩) z0).trans n1; have v2 : w3.cell? ⟨w.heap.size, 2, none⟩ = some (.slice a ts.length cap) := (hb3.cell (p := ⟨w.heap.size, 2, none⟩) z0).trans n2; have v3 : w3.cell? ⟨B, 0, none⟩ = some (.slice (some ⟨gM, 0, none⟩) l.length cM) := (hb3.cell (p := ⟨B, 0, none⟩) yB).trans m3; have v4 : w3.cell? ⟨gM, i, none⟩ = some (.int .i64 n.mark) := (hb3.cell (p := ⟨gM, i, none⟩) yM).trans m4; clear hb3))
          clear n0 n1 n2 m3 m4 m5 v0 v1 v2 v3 v4 c2
          go_wp2
          go_roundw
          case rel => exact ⟨k + 1, by omega, by go_num, B0.out.drew.below HB3.out z0, (HW.out.drew).trans (HB3.out.mono hwb), HN'⟩
          case measure => simp [intOf]; omega
        | some m' =>
          have e1 : Flow.nextI ts n.mark k = (m' : Int) := by unfold Flow.nextI; rw [hnx]
          rw [e1] at c2
          have hm' := nextM_lt HT.out hnm hnx
          obtain ⟨q0, q1⟩ := bfs_in U.out hlen N.out hk hnx
          obtain ⟨q, hq⟩ : ∃ q : Nat, (q : Int) = atI l m' := ⟨(atI l m').toNat, by omega⟩
          have hql : q < l.length := by omega
          have m6 : wr.cell? ⟨A, m', none⟩ = some (.int .i64 q) := by rw [hq]; exact AT2.out m' hm'
          obtain ⟨cb, hcb⟩ : ∃ cb, cs[q]? = some cb := ⟨_, List.getElem?_eq_getElem (by omega)⟩
          have m7 : wr.cell? ⟨C, q, none⟩ = some (.bool cb) := by rw [KC2.out.cell]; exact cellsT_get hcb
          have hK0 : (0 : Int) ≤ (m' : Int) := by omega
          have hK1 : (m' : Int) < 65536 := by omega
          have hL0 : (0 : Int) ≤ (q : Int) := by omega
          have hL1 : (q : Int) < (l.length : Int) := by omega
          have hqn : (atI l m').toNat = q := by omega
          cases cb with
          | true =>
            have R : Hid (Flow.CanNow ts (2 ^ b) l cs n.mark) := .inr ⟨k, m', hnx, by rw [hqn]; exact hcb⟩
            clear e1 hnx hq q0 q1 hqn hcb
            go_wp2
            go_region_held3 (fun w' => w'.cell? ⟨w.heap.size, 0, none⟩ = some (.int .i64 x) ∧ w'.cell? ⟨w.heap.size, 1, none⟩ = some (.int .i64 b) ∧ w'.cell? ⟨w.heap.size, 2, none⟩ = some (.slice a ts.length cap) ∧ w'.cell? ⟨B, 0, none⟩ = some (.slice (some ⟨gM, 0, none⟩) l.length cM) ∧ w'.cell? ⟨gM, i, none⟩ = some (.int .i64 n.mark)) (go_keep) (first | (go_at_call 82; refine (c2 _ (OW2.out.drew)).mono ?_; rintro e w3 ⟨rfl, hb3⟩; have HB3 : Hid _ := hb3; have v0 : w3.cell? ⟨w.heap.size, 0, none⟩ = some (.int .i64 x) := (hb3.cell (p := ⟨w.heap.size, 0, none⟩) z0).trans n0; have v1 : w3.cell? ⟨w.heap.size, 1, none⟩ = some (.int .i64 b) := (hb3.cell (p := ⟨w.heap.size, 1, none⟩) z0).trans n1; have v2 : w3.cell? ⟨w.heap.size, 2, none⟩ = some (.slice a ts.length cap) := (hb3.cell (p := ⟨w.heap.size, 2, none⟩) z0).trans n2; have v3 : w3.cell? ⟨B, 0, none⟩ = some (.slice (some ⟨gM, 0, none⟩) l.length cM) := (hb3.cell (p := ⟨B, 0, none⟩) yB).trans m3; have v4 : w3.cell? ⟨gM, i, none⟩ = some (.int .i64 n.mark) := (hb3.cell (p := ⟨gM, i, none⟩) yM).trans m4; have v5 : w3.cell? ⟨B, 3, none⟩ = some (.slice (some ⟨A, 0, none⟩) 65536 65536) := (hb3.cell (p := ⟨B, 3, none⟩) yB).trans m5; have v6 : w3.cell? ⟨A, m', none⟩ = some (.int .i64 q) := (hb3.cell (p := ⟨A, m', none⟩) yA).trans m6; have v7 : w3.cell? ⟨C, q, none⟩ = some (.bool true) := (hb3.cell (p := ⟨C, q, none⟩) yC).trans m7; clear hb3))
            clear n0 n1 n2 m3 m4 m5 m6 m7 v0 v1 v2 v3 v4 c2
            go_wp2
            go_ret
            exact ⟨true, rfl, FIN.out true ⟨fun _ => R.out, fun _ => rfl⟩, (HW.out.drew).trans (HB3.out.mono hwb)⟩
          | false =>
            have HN' : Hid (Flow.NoCan ts l cs n.mark (k + 1)) := by
              intro j m'' hj hm''
              by_cases e : j = k
              · subst e
                rw [hnx] at hm''
                injection hm'' with hm''
                subst hm''
                rw [hqn, hcb]; simp
              · exact HN.out j m'' (by omega) hm''
            clear e1 hnx hq q0 q1 hqn hcb
            go_wp2
            go_region_held3 (fun w' => w'.cell? ⟨w.heap.size, 0, none⟩ = some (.int .i64 x) ∧ w'.cell? ⟨w.heap.size, 1, none⟩ = some (.int .i64 b) ∧ w'.cell? ⟨w.heap.size, 2, none⟩ = some (.slice a ts.length cap) ∧ w'.cell? ⟨B, 0, none⟩ = some (.slice (some ⟨gM, 0, none⟩) l.length cM) ∧ w'.cell? ⟨gM, i, none⟩ = some (.int .i64 n.mark)) (go_keep) (first | (go_at_call 82; refine (c2 _ (OW2.out.drew)).mono ?_; rintro e w3 ⟨rfl, hb3⟩; have HB3 : Hid _ := hb3; have v0 : w3.cell? ⟨w.heap.size, 0, none⟩ = some (.int .i64 x) := (hb3.cell (p := ⟨w.heap.size, 0, none⟩) z0).trans n0; have v1 : w3.cell? ⟨w.heap.size, 1, none⟩ = some (.int .i64 b) := (hb3.cell (p := ⟨w.heap.size, 1, none⟩) z0).trans n1; have v2 : w3.cell? ⟨w.heap.size, 2, none⟩ = some (.slice a ts.length cap) := (hb3.cell (p := ⟨w.heap.size, 2, none⟩) z0).trans n2; have v3 : w3.cell? ⟨B, 0, none⟩ = some (.slice (some ⟨gM, 0, none⟩) l.length cM) := (hb3.cell (p := ⟨B, 0, none⟩) yB).trans m3; have v4 : w3.cell? ⟨gM, i, none⟩ = some (.int .i64 n.mark) := (hb3.cell (p := ⟨gM, i, none⟩) yM).trans m4; have v5 : w3.cell? ⟨B, 3, none⟩ = some (.slice (some ⟨A, 0, none⟩) 65536 65536) := (hb3.cell (p := ⟨B, 3, none⟩) yB).trans m5; have v6 : w3.cell? ⟨A, m', none⟩ = some (.int .i64 q) := (hb3.cell (p := ⟨A, m', none⟩) yA).trans m6; have v7 : w3.cell? ⟨C, q, none⟩ = some (.bool false) := (hb3.cell (p := ⟨C, q, none⟩) yC).trans m7; clear hb3))
            clear n0 n1 n2 m3 m4 m5 m6 m7 v0 v1 v2 v3 v4 c2
            go_wp2
            go_roundw
            case rel => exact ⟨k + 1, by omega, by go_num, B0.out.drew.below HB3.out z0, (HW.out.drew).trans (HB3.out.mono hwb), HN'⟩
            case measure => simp [intOf]; omega
      · obtain rfl : k = ts.length := by omega
        clear hb0 hbw
        have R : Hid (¬ Flow.CanNow ts (2 ^ b) l cs n.mark) := by
          intro g
          rcases g with g | ⟨j, m', g1, g2⟩
          · exact E.out g
          · by_cases hj : j < ts.length
            · exact HN.out j m' hj g1 g2
            · unfold Flow.nextM at g1; rw [List.getElem?_eq_none (by omega)] at g1; cases g1
        go_wp2
        go_ret
        exact ⟨false, rfl, FIN.out false ⟨fun x => (by cases x), fun x => absurd x R.out⟩, HW.out⟩
end Go.Proofs.YtdlldljgogbiaabGreat
