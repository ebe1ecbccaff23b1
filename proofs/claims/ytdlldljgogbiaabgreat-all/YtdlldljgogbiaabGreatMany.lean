/-
  The program's reader of all transitions.
-/
import Derived.Test.YtdlldljgogbiaabGreatTrans
import Derived.OwnWalk
import Derived.Deep.AppendLies
import Derived.Test.YtdlldljgogbiaabGreatBaseM
namespace Go.Proofs.YtdlldljgogbiaabGreat
open Go.RowKit
set_option linter.unusedVariables false
set_option maxRecDepth 20000

theorem Tryz.infoF : (Tryz.prog.info? 93).map (fun i => (i.zero, i.size, i.bytes)) = some (some (.agg #[.int .u8 0, .int .i64 0, .int .i64 0]), 3, 24) := by kernel_rfl

/-- the cells of a list of transitions, as the program holds them -/
def cellsF (l : List Flow.Tr) : List Value := l.flatMap fun t => (trF t).toList
theorem cellsF_snoc (l : List Flow.Tr) (t : Flow.Tr) : cellsF (l ++ [t]) = cellsF l ++ [.int .u8 t.label, .int .i64 t.inn, .int .i64 t.out] := by simp [cellsF]
theorem cellsF_len (l : List Flow.Tr) : (cellsF l).length = l.length * 3 := by
  induction l with
  | nil => rfl
  | cons t r ih => simp [cellsF] at ih ⊢; omega

theorem cell_three_at (W : World) (n : Nat) (hn : W.heap.size = n) (x y z : Value) (t : TypeId) : ∀ j u, [x, y, z][j]? = some u → (W.alloc (.cells #[x, y, z] t)).cell? ((⟨n, 0, none⟩ : Addr).add j) = some u := by
  subst hn; exact World.news_of_block (cs := #[x, y, z]) (Blk.new W #[x, y, z] t)
theorem cell_two_at (W : World) (n : Nat) (hn : W.heap.size = n) (x y : Value) (t : TypeId) : ∀ j u, [x, y][j]? = some u → (W.alloc (.cells #[x, y] t)).cell? ((⟨n, 0, none⟩ : Addr).add j) = some u := by
  subst hn; exact cell_two_new W x y t

/-- the end of the reader: the slice that is told owns the cells -/
theorem many_end {s : ByteArray} {w W : World} {T size : Nat} {cells : List Flow.Tr → List Value} {acc : List Flow.Tr} {j : Nat} {ok : Bool} {a : Option Addr} {cap : Nat} (e : Flow.transes s 2 [] = (acc, j, ok))
    (hown : W.ownsRow w.heap.size T size (.slice a acc.length cap) acc.length (cells acc)) (hb : Below w.heap.size w W) :
    ∃ a' cap', Ending.returned (.tuple #[.slice a acc.length cap, .int .i64 j, .bool ok]) = .returned (.tuple #[.slice a' (Flow.transes s 2 []).1.length cap', .int .i64 (Flow.transes s 2 []).2.1, .bool (Flow.transes s 2 []).2.2]) ∧
      W.ownsRow w.heap.size T size (.slice a' (Flow.transes s 2 []).1.length cap') (Flow.transes s 2 []).1.length (cells (Flow.transes s 2 []).1) ∧ Below w.heap.size w W := by
  rw [e]; exact ⟨a, cap, rfl, hown, hb⟩

set_option maxHeartbeats 1000000 in
theorem manyF_any (s : ByteArray) (w : World) (hs : s.size ≤ maxLen) (h2 : 2 ≤ s.size) :
    Calls Tryz.prog 63 #[.string s, .int .i64 2] w fun e w' => ∃ a cap, e = .returned (.tuple #[.slice a (Flow.transes s 2 []).1.length cap, .int .i64 (Flow.transes s 2 []).2.1, .bool (Flow.transes s 2 []).2.2]) ∧
      w'.ownsRow w.heap.size 93 3 (.slice a (Flow.transes s 2 []).1.length cap) (Flow.transes s 2 []).1.length (cellsF (Flow.transes s 2 []).1) ∧ Below w.heap.size w w' := by
  unfold maxLen at hs
  obtain ⟨i0, hi, hz0, hz1, hz2⟩ := info_parts Tryz.infoF
  go_enter Tryz.func63, Tryz.ntmps63
  go_wp2
  go_loopw [1, 7] (fun i' v' wr => ∃ (k : Nat) (acc : List Flow.Tr) (a : Option Addr) (cap : Nat), k ≤ s.size ∧ acc.length ≤ 16 ∧ i' = .int .i64 k ∧ v' = .slice a acc.length cap ∧ wr.ownsRow w.heap.size 93 3 (.slice a acc.length cap) acc.length (cellsF acc) ∧ Below w.heap.size w wr ∧ Hid (Flow.transes s k acc = Flow.transes s 2 [])) (fun i' _ _ => s.size - (intOf i').toNat)
  case atStart => exact ⟨2, [], none, 0, h2, by simp, rfl, rfl, World.ownsRow_nil _ _ _ _, Below.refl _ _, rfl⟩
  case round =>
    obtain ⟨k, acc, a, cap, hk, hacc, rfl, rfl, hown, hbw, HP⟩ := hrel
    by_cases hlt : k < s.size
    · have HB : Hid (s[k].toNat = Flow.bt s k) := Flow.bt_at hlt
      by_cases h59 : s[k].toNat = 59
      · have t59 : ((s[k].toNat : Int) != 59) = false := by simp; omega
        by_cases h16 : acc.length < 16
        · have hc := transF_any s (k + 1)
          have hj1 := Flow.trans_ge s (k + 1)
          have hj2 := Flow.trans_le s (k + 1) (by omega)
          have G := fun h => Flow.transes_go (acc := acc) hlt (by rw [← HB.out]; exact h59) h16 h
          have B := fun h => Flow.transes_bad (acc := acc) hlt (by rw [← HB.out]; exact h59) h16 h
          obtain ⟨t, j, ok, e⟩ : ∃ t j ok, Flow.trans s (k + 1) = (t, j, ok) := ⟨_, _, _, rfl⟩
          rw [e] at hc hj1 hj2 G B
          dsimp only at hc hj1 hj2 G B
          clear h59
          have c1 : ∀ w, Calls Tryz.prog 100 #[.string s, .int .i64 ((k : Int) + 1)] w fun e w' => e = .returned (.tuple #[.agg (trF t), .int .i64 j, .bool ok]) ∧ w' = w.alloc (.cells (trF t) 93) := fun w => hc w (by unfold maxLen; omega) (by omega)
          clear hc e
          have HO : Hid (wr.ownsRow w.heap.size 93 3 (.slice a acc.length cap) acc.length (cellsF acc)) := hown
          have HW : Hid _ := hbw
          have hwb := hbw.size
          cases ok with
          | false =>
            have R : Hid _ := B rfl
            clear G B hown hbw
            go_wp2_with (go_at_call 100; refine (c1 _).mono ?_; rintro e w' ⟨rfl, rfl⟩)
            go_ret3
            exact many_end (by rw [← HP.out, R.out]) ((HO.out.alloc _).alloc _) ((HW.out.alloc hwb _).alloc (by simp; omega) _)
          | true =>
            have R : Hid _ := G rfl
            clear G B hown hbw
            go_wp2_with (first | (go_at_call 100; refine (c1 _).mono ?_; rintro e w' ⟨rfl, rfl⟩) | (at_builtin; refine wpList_append_lies _ rfl _ _ 57 rfl w.heap.size 93 i0 (.agg #[.int .u8 0, .int .i64 0, .int .i64 0]) 3 24 Tryz.underlying57 hi hz0 hz1 hz2 rfl (by decide) (.slice a acc.length cap) _ _ rfl (((HO.out.alloc _).alloc _).alloc _) ⟨wr.heap.size + 1 + 1, 0, none⟩ 1 1 [.int .u8 t.label, .int .i64 t.inn, .int .i64 t.out] rfl rfl (cell_three_at _ _ (by simp) _ _ _ _) (fun x hx => by simp at hx; rcases hx with rfl | rfl | rfl <;> rfl) (by decide) (by unfold maxLen; omega) (by omega) (by simp; omega) _ rfl ?_; intro g cap' w1 hown1 hgrow hat hlt1; have HG : Hid _ := hgrow; have HO1 : Hid (w1.ownsRow w.heap.size 93 3 (.slice (some ⟨g, 0, none⟩) (acc.length + 1) cap') (acc.length + 1) (cellsF acc ++ [.int .u8 t.label, .int .i64 t.inn, .int .i64 t.out])) := hown1; clear hgrow hown1 hat))
            go_roundw
            case rel =>
              refine ⟨j, acc ++ [t], some ⟨g, 0, none⟩, cap', hj2, by simp; omega, rfl, by simp, ?_, ?_, ?_⟩
              · rw [cellsF_snoc, List.length_append]; exact HO1.out
              · exact Below.grown (((HW.out.alloc hwb _).alloc (by simp; omega) _).alloc (by simp; omega) _) HG.out (by simp; omega) (fun i hi => (HO.out.lt _ hi).1)
              · show _ = _; rw [← HP.out, R.out]
            case measure => simp [intOf]; omega
        · have R := Flow.transes_no (acc := acc) hlt (by intro h; exact h16 h.2)
          have R' : Hid _ := R
          clear R
          go_wp2
          go_ret3
          exact many_end (by rw [← HP.out, R'.out]) hown hbw
      · have R := Flow.transes_no (acc := acc) hlt (by rw [← HB.out]; intro h; exact h59 h.1)
        have R' : Hid _ := R
        clear R
        have t59 : ((s[k].toNat : Int) != 59) = true := by simp; omega
        go_wp2
        go_ret3
        exact many_end (by rw [← HP.out, R'.out]) hown hbw
    · go_wp2
      go_ret3
      exact many_end (by rw [← HP.out, Flow.transes_end hlt]) hown hbw
end Go.Proofs.YtdlldljgogbiaabGreat
