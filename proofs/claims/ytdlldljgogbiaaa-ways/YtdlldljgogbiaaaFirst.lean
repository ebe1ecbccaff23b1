/-
  The law's own helper: the first bytes of a wish.
-/
import Derived.Test.YtdlldljgogbiaaaWish
namespace Go.Proofs.Ytdlldljgogbiaaa
open Go.RowKit
set_option linter.unusedVariables false

/-- the first 65536 bytes -/
def Flow.cut (s : ByteArray) : ByteArray := if 65536 < s.size then s.extract 0 65536 else s
theorem cut_size (s : ByteArray) : (Flow.cut s).size ≤ 65536 := by
  unfold Flow.cut
  split
  · rw [ByteArray.size_extract]; omega
  · omega
/-- a text of one byte that is a sign -/
theorem one_sign {a : ByteArray} (h1 : a.size = 1) (hk : Flow.num (Flow.bt a 0) < 16) : a = Flow.runOf [Flow.num (Flow.bt a 0)] := by
  have hlt : 0 < a.size := by omega
  have hb := Flow.bt_at (s := a) (k := 0) hlt
  have e : a[0] = Flow.sgn (Flow.num (Flow.bt a 0)) := num_sgn (by rw [hb]) hk
  apply (runOf_iff.1 ?_).symm
  have hd := drop_at a hlt
  rw [List.drop_zero] at hd
  rw [hd, List.drop_eq_nil_of_le (by simp; omega), e]
  rfl
theorem take_sign {ks : List Nat} {i k : Nat} (h : ks[i]? = some k) : (Flow.runOf ks).extract 0 (i + 1) = Flow.runOf (ks.take i ++ [k]) := by
  have hlt := (List.getElem?_eq_some_iff.1 h).1
  apply ByteArray.ext
  apply Array.ext'
  rw [ByteArray.data_extract, Array.toList_extract]
  show List.extract (Flow.signs ks) 0 (i + 1) = Flow.signs (ks.take i ++ [k])
  rw [List.extract_eq_take_drop, List.drop_zero, show i + 1 - 0 = i + 1 by omega]
  have e : ks.take i ++ [k] = ks.take (i + 1) := by rw [List.take_add_one, h]; rfl
  rw [e]
  unfold Flow.signs
  rw [List.map_take]
theorem sign_at {ks : List Nat} {i : Nat} (hi : i < ks.length) (h : i < (Flow.runOf ks).size) : (Flow.runOf ks)[i] = Flow.sgn ks[i] := by
  have hd := drop_at (Flow.runOf ks) h
  have e : (Flow.runOf ks).data.toList = Flow.signs ks := rfl
  rw [e] at hd
  unfold Flow.signs at hd
  rw [← List.map_drop, List.drop_eq_getElem_cons hi, List.map_cons] at hd
  injection hd with hd _
  exact hd.symm
theorem goes_take {ts : List Flow.Tr} {m m' : Nat} {ks : List Nat} (h : Flow.goes ts m ks = some m') (i : Nat) : ∃ m1, Flow.goes ts m (ks.take i) = some m1 := by
  rw [← List.take_append_drop i ks] at h
  obtain ⟨m1, h1, _⟩ := goes_prefix h
  exact ⟨m1, h1⟩
theorem ways_cases {t W : ByteArray} {b : Bool} {P : Prop} (hb : b = true ↔ P) (h : P → t.size < W.size ∨ (t.size = W.size ∧ Flow.leB t W)) :
    b = false ∨ (b = true ∧ decide ((t.size : Int) < (W.size : Int)) = true) ∨ (b = true ∧ decide ((t.size : Int) < (W.size : Int)) = false ∧ ((t.size : Int) == (W.size : Int)) = true ∧ (Op.bytesLess t.toList W.toList || t.toList == W.toList) = true) := by
  cases b with
  | false => exact .inl rfl
  | true =>
    rcases h (hb.1 rfl) with q | ⟨q1, q2⟩
    · exact .inr (.inl ⟨rfl, decide_eq_true (by omega)⟩)
    · exact .inr (.inr ⟨rfl, decide_eq_false (by omega), by rw [q1]; simp, q2⟩)
theorem first_any (s : ByteArray) (w : World) (hs : s.size ≤ maxLen) : Calls Try.prog 32 #[.string s] w fun e w' => e = .returned (.string (Flow.cut s)) ∧ w' = w := by
  unfold maxLen at hs
  by_cases h : 65536 < s.size
  · have R : Hid (Flow.cut s = s.extract 0 65536) := by show _ = _; unfold Flow.cut; rw [if_pos h]
    have hI : (65536 : Int) < (s.size : Int) := by omega
    have hI2 : (65536 : Int) ≤ (s.size : Int) := by omega
    clear h
    go_enter Try.func32, Try.ntmps32
    go_wp2
    all_goals go_ret
    all_goals exact ⟨by rw [R.out]; rfl, rfl⟩
  · have R : Hid (Flow.cut s = s) := by show _ = _; unfold Flow.cut; rw [if_neg h]
    have hI : ¬ (65536 : Int) < (s.size : Int) := by omega
    clear h
    go_enter Try.func32, Try.ntmps32
    go_wp2
    all_goals go_ret
    all_goals exact ⟨by rw [R.out]; rfl, rfl⟩
end Go.Proofs.Ytdlldljgogbiaaa
