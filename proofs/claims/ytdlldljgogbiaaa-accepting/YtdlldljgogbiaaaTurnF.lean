/-
  The program's exchange of what transitions take and put.
-/
import Derived.Test.YtdlldljgogbiaaaPlayF
import Derived.Test.YtdlldljgogbiaaaTurn
import Derived.Test.YtdlldljgogbiaaaLayR
namespace Go.Proofs.Ytdlldljgogbiaaa
open Go.RowKit
set_option linter.unusedVariables false
set_option maxRecDepth 20000

theorem turn_snoc {ts : List Flow.Tr} {k : Nat} {t : Flow.Tr} (h : ts[k]? = some t) : Flow.turn (ts.take (k + 1)) = Flow.turn (ts.take k) ++ [Flow.turnT t] := by
  rw [List.take_add_one, h]; simp [Flow.turn]

set_option maxHeartbeats 1000000 in
theorem turned_any (ts : List Flow.Tr) (a : Option Addr) (cap base : Nat) (w : World) (hlen : ts.length ≤ 16) (hown : w.ownsRow base 91 3 (.slice a ts.length cap) ts.length (cellsF ts)) :
    Calls Try.prog 102 #[.slice a ts.length cap] w fun e w' => ∃ a' cap', e = .returned (.slice a' (Flow.turn ts).length cap') ∧ w'.ownsRow w.heap.size 91 3 (.slice a' (Flow.turn ts).length cap') (Flow.turn ts).length (cellsF (Flow.turn ts)) ∧ Below w.heap.size w w' := by
  obtain ⟨i0, hi, hz0, hz1, hz2⟩ := info_parts Try.infoF
  have OW : Hid (w.ownsRow base 91 3 (.slice a ts.length cap) ts.length (cellsF ts)) := hown
  clear hown
  go_enter Try.func102, Try.ntmps102
  go_wp2
  go_loopw [3, 4] (fun s' k' wr => ∃ (k : Nat) (a' : Option Addr) (cap' : Nat), k ≤ ts.length ∧ k' = .int .i64 k ∧ s' = .slice a' k cap' ∧ wr.ownsRow w.heap.size 91 3 (.slice a' k cap') k (cellsF (Flow.turn (ts.take k))) ∧ Below w.heap.size w wr) (fun _ k' _ => ts.length - (intOf k').toNat)
  case atStart => exact ⟨0, none, 0, by omega, rfl, rfl, World.ownsRow_nil _ _ _ _, Below.refl _ _⟩
  case round =>
    obtain ⟨k, a', cap', hk, rfl, rfl, hown', hbw⟩ := hrel
    have HO : Hid (wr.ownsRow w.heap.size 91 3 (.slice a' k cap') k (cellsF (Flow.turn (ts.take k)))) := hown'
    have HW : Hid _ := hbw
    have hwb := hbw.size
    by_cases hlt : k < ts.length
    · obtain ⟨t, ht⟩ : ∃ t, ts[k]? = some t := ⟨_, List.getElem?_eq_getElem hlt⟩
      have ow2 := owns_below OW.out hbw (Nat.le_refl _)
      obtain ⟨g, capx, hv, _, hg2⟩ := ow2.form (by omega)
      injection hv with hv1 _ hv3
      subst hv1 hv3
      have t0 := ow2.cellAt (k * 3) (by omega)
      have t1 := ow2.cellAt (k * 3 + 1) (by omega)
      have t2 := ow2.cellAt (k * 3 + 2) (by omega)
      obtain ⟨f0, f1, f2⟩ := cellsF_get ht
      rw [f0] at t0
      rw [f1] at t1
      rw [f2] at t2
      have S : Hid (Flow.turn (ts.take (k + 1)) = Flow.turn (ts.take k) ++ [Flow.turnT t]) := turn_snoc ht
      have hI0 : (0 : Int) ≤ (k : Int) := by omega
      have hI1 : (k : Int) < (ts.length : Int) := by omega
      clear hown' hbw ow2 f0 f1 f2 ht
      go_wp2_with (at_builtin; go_must (refine wpList_append_lies _ rfl _ _ 58 rfl w.heap.size 91 i0 (.agg #[.int .u8 0, .int .i64 0, .int .i64 0]) 3 24 Try.underlying58 hi hz0 hz1 hz2 rfl (by decide) (.slice a' k cap') _ _ rfl ((HO.out.alloc _).alloc _) ⟨wr.heap.size + 1, 0, none⟩ 1 1 [.int .u8 0, .int .i64 t.out, .int .i64 t.inn] rfl rfl (cell_three_at _ _ (by simp) _ _ _ _) (fun x hx => by simp at hx; rcases hx with rfl | rfl | rfl <;> rfl) (by decide) (by unfold maxLen; omega) (by omega) (by simp; omega) _ rfl ?_; intro g1 c1 w1 own1 gr1 at1 lt1; have O3 : Hid (w1.ownsRow w.heap.size 91 3 (.slice (some ⟨g1, 0, none⟩) (k + 1) c1) (k + 1) (cellsF (Flow.turn (ts.take k)) ++ [.int .u8 0, .int .i64 t.out, .int .i64 t.inn])) := own1; have B3 : Hid (Below w.heap.size w w1) := ((HW.out.alloc hwb _).alloc (by simp; omega) _).grown gr1 (by simp; omega) (fun i hi => (HO.out.lt _ hi).1); clear gr1 own1 at1 lt1))
      go_roundw
      case rel =>
        refine ⟨k + 1, some ⟨g1, 0, none⟩, c1, by omega, by go_num, rfl, ?_, B3.out⟩
        rw [S.out, cellsF_snoc]
        exact O3.out
      case measure => simp [intOf]; omega
    · obtain rfl : k = ts.length := by omega
      have E : Hid (Flow.turn (ts.take ts.length) = Flow.turn ts) := by show _ = _; rw [List.take_length]
      clear hown' hbw
      go_wp2
      go_ret
      have o := HO.out
      rw [E.out] at o
      refine ⟨a', cap', by rw [turn_len]; rfl, ?_, HW.out⟩
      rw [turn_len]; exact o
end Go.Proofs.Ytdlldljgogbiaaa
