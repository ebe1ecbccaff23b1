/-
  The two writers of a marking.
-/
import Derived.Test.YtdlldljgogbiaabGreatSmall
import Derived.Test.YtdlldljgogbiaabGreatBaseM
import Derived.OwnWalk
import Derived.Deep.AppendLies
import Derived.Laws.IdiomStrings
import Derived.Laws.Concat
import Derived.Test.YtdlldljgogbiaabGreatPlaces
namespace Go.Proofs.YtdlldljgogbiaabGreat
open Go.RowKit
set_option linter.unusedVariables false
set_option maxRecDepth 20000

/-- the letters of the places below p that the marking has -/
def Flow.letters (m : Nat) : Nat → List UInt8
  | 0 => []
  | p + 1 => if m &&& 2 ^ p = 0 then Flow.letters m p else Flow.letters m p ++ [UInt8.ofNat (65 + p)]
def Flow.text (m : Nat) : ByteArray := ⟨(Flow.letters m 16).toArray⟩
theorem Flow.letters_len (m p : Nat) : (Flow.letters m p).length ≤ p := by
  induction p with
  | zero => simp [Flow.letters]
  | succ p ih =>
    unfold Flow.letters
    split
    · omega
    · simp; omega
theorem Flow.letters_not {m p : Nat} (h : m &&& 2 ^ p = 0) : Flow.letters m (p + 1) = Flow.letters m p := by
  show (if m &&& 2 ^ p = 0 then _ else _) = _; rw [if_pos h]
theorem Flow.letters_has {m p : Nat} (h : ¬ m &&& 2 ^ p = 0) : Flow.letters m (p + 1) = Flow.letters m p ++ [UInt8.ofNat (65 + p)] := by
  show (if m &&& 2 ^ p = 0 then _ else _) = _; rw [if_neg h]
theorem letter_num (p : Nat) (h : p < 16) : (UInt8.ofNat (65 + p)).toNat = 65 + p := by
  rw [UInt8.toNat_ofNat']; omega

set_option maxHeartbeats 400000 in
theorem textR_any (m : Nat) (w : World) (hm : m < 65536) :
    Calls Tryz.prog 38 #[.int .i64 m] w fun e w' => e = .returned (.string (Flow.text m)) ∧ Below w.heap.size w w' := by
  go_enter Tryz.func38, Tryz.ntmps38
  go_wp2
  go_loopw [3, 4] (fun s' p' wr => ∃ p : Nat, p ≤ 16 ∧ s' = .string ⟨(Flow.letters m p).toArray⟩ ∧ p' = .int .i64 p ∧ Below w.heap.size w wr) (fun _ p' _ => 16 - (intOf p').toNat)
  case atStart => exact ⟨0, by omega, rfl, rfl, Below.refl _ _⟩
  case round =>
    obtain ⟨p, hp, rfl, rfl, hbw⟩ := hrel
    have HW : Hid _ := hbw
    have hwb := hbw.size
    clear hbw
    by_cases hlt : p < 16
    · have hp2 := pow_small' p (by omega)
      have hx : (2 : Nat) ^ p ≤ 2 ^ 15 := Nat.pow_le_pow_right (by omega) (by omega)
      have hy : (2 : Nat) ^ 15 = 32768 := by decide
      have ha := Flow.and_nat m (2 ^ p) hm (by omega)
      have hl := Flow.letters_len m p
      by_cases g : m &&& 2 ^ p = 0
      · have tg : (bits .and .i64 (m : Int) (wrap64 (2 ^ p)) != 0) = false := by rw [hp2, ha, g]; rfl
        have R : Hid _ := Flow.letters_not g
        clear hp2 hx hy ha g
        go_wp2
        go_roundw
        case rel => exact ⟨p + 1, by omega, by rw [R.out], by go_num, HW.out⟩
        case measure => simp [intOf]; omega
      · have tg : (bits .and .i64 (m : Int) (wrap64 (2 ^ p)) != 0) = true := by rw [hp2, ha]; simp; omega
        have R : Hid _ := Flow.letters_has g
        have hcv : (convert 82 9 (.slice (some ⟨wr.heap.size, 0, none⟩) 1 1)).run Tryz.prog (wr.alloc (.cells #[.int .u8 (65 + (p : Int))] 5)) = .ok (.string ⟨#[UInt8.ofNat (65 + p)]⟩) (wr.alloc (.cells #[.int .u8 (65 + (p : Int))] 5)) := by
          refine run_convert_bytes_back _ 82 9 5 ⟨wr.heap.size, 0, none⟩ 1 [UInt8.ofNat (65 + p)] Tryz.underlying82 Tryz.underlying5 Tryz.underlying9 ?_
          intro j hj
          have hj0 : j = 0 := by simp at hj; exact hj
          subst hj0
          have := (Blk.new wr #[.int .u8 (65 + (p : Int))] 5).cell 0
          show World.cell? _ ⟨wr.heap.size, 0, none⟩ = _
          rw [this]
          have e := letter_num p hlt
          simp only [List.getElem_cons_zero, e]
          simp
        clear hp2 hx hy ha g
        go_wp2
        go_roundw
        case rel =>
          refine ⟨p + 1, by omega, ?_, by go_num, HW.out.alloc hwb _⟩
          rw [R.out]
          have e : UInt8.ofNat (65 + p) = 65 + UInt8.ofNat p := by rw [UInt8.ofNat_add]; rfl
          rw [e]
          exact congrArg Value.string (ByteArray.mk_append_mk _ [65 + UInt8.ofNat p])
        case measure => simp [intOf]; omega
    · go_wp2
      go_ret
      obtain rfl : p = 16 := by omega
      exact ⟨rfl, HW.out⟩

theorem Tryz.infoB : (Tryz.prog.info? 5).map (fun i => (i.zero, i.size, i.bytes)) = some (some (.int .u8 0), 1, 1) := by kernel_rfl
/-- bytes as cells -/
def cellsB (l : List UInt8) : List Value := l.map fun b => .int .u8 (b.toNat : Int)
theorem cellsB_snoc (l : List UInt8) (b : UInt8) : cellsB (l ++ [b]) = cellsB l ++ [.int .u8 (b.toNat : Int)] := by simp [cellsB]

/-- the string of an owned row of bytes -/
theorem string_of_owned {w : World} {base : Nat} {a : Option Addr} {cap : Nat} (l : List UInt8) (h : w.ownsRow base 5 1 (.slice a l.length cap) l.length (cellsB l)) :
    (convert 82 9 (.slice a l.length cap)).run Tryz.prog w = .ok (.string ⟨l.toArray⟩) w := by
  rcases h.2 with ⟨hv, h0⟩ | ⟨g, cap', cur, hv, hb, hg, _⟩
  · have hl : l = [] := List.length_eq_zero_iff.1 h0
    subst hl
    rw [hv, run_convert_bytes_string w 82 9 5 _ _ _ Tryz.underlying82 Tryz.underlying5 Tryz.underlying9]
    simp [Conv.bytesToString]
    rfl
  · have ha : a = some ⟨g, 0, none⟩ := by injection hv
    subst ha
    refine run_convert_bytes_back w 82 9 5 ⟨g, 0, none⟩ cap l Tryz.underlying82 Tryz.underlying5 Tryz.underlying9 ?_
    intro j hj
    exact h.cells rfl j _ (by simp [cellsB, hj])

theorem pbit_at (p : Nat) (h : p < 16) : Flow.pbit (65 + p) = 2 ^ p := by
  unfold Flow.pbit
  rw [if_pos (Flow.isPl_iff.2 (by omega))]
  congr 1; omega

set_option maxHeartbeats 400000 in
theorem placesOf_any (m : Nat) (w : World) (hm : m < 65536) :
    Calls Tryz.prog 36 #[.int .i64 m] w fun e w' => e = .returned (.string (Flow.text m)) ∧ Below w.heap.size w w' := by
  obtain ⟨i0, hi, hz0, hz1, hz2⟩ := info_parts Tryz.infoB
  go_enter Tryz.func36, Tryz.ntmps36
  go_wp2
  go_loopw [3, 4] (fun s' p' wr => ∃ (p : Nat) (a : Option Addr) (cap : Nat), p ≤ 16 ∧ s' = .slice a (Flow.letters m p).length cap ∧ p' = .int .u8 (65 + (p : Int)) ∧ wr.ownsRow w.heap.size 5 1 (.slice a (Flow.letters m p).length cap) (Flow.letters m p).length (cellsB (Flow.letters m p)) ∧ Below w.heap.size w wr) (fun _ p' _ => 81 - (intOf p').toNat)
  case atStart => exact ⟨0, none, 0, by omega, rfl, rfl, World.ownsRow_nil _ _ _ _, Below.refl _ _⟩
  case round =>
    obtain ⟨p, a, cap, hp, rfl, rfl, hown, hbw⟩ := hrel
    have HW : Hid _ := hbw
    have HO : Hid (wr.ownsRow w.heap.size 5 1 (.slice a (Flow.letters m p).length cap) (Flow.letters m p).length (cellsB (Flow.letters m p))) := hown
    have hwb := hbw.size
    clear hbw hown
    by_cases hlt : p < 16
    · have c1 : ∀ w, Calls Tryz.prog 47 #[.int .u8 (65 + (p : Int))] w fun e w' => e = .returned (.int .i64 ((2 ^ p : Nat) : Int)) ∧ w = w' := fun w => by
        have := placeBit_any (65 + p) w (by omega)
        rw [pbit_at p hlt] at this
        have e : ((65 + p : Nat) : Int) = 65 + (p : Int) := by omega
        rw [e] at this
        exact this.mono fun e w' h => ⟨h.1, h.2.symm⟩
      have hx : (2 : Nat) ^ p ≤ 2 ^ 15 := Nat.pow_le_pow_right (by omega) (by omega)
      have hy : (2 : Nat) ^ 15 = 32768 := by decide
      have ha := Flow.and_nat m (2 ^ p) hm (by omega)
      have hl := Flow.letters_len m p
      have hc : ((2 ^ p : Nat) : Int) = (2 : Int) ^ p := by simp
      rw [hc] at ha
      by_cases g : m &&& 2 ^ p = 0
      · have tg : (bits .and .i64 (m : Int) ((2 : Int) ^ p) != 0) = false := by rw [ha, g]; rfl
        have R : Hid _ := Flow.letters_not g
        clear hx hy ha g hc
        go_wp2_with (go_at_call 47; refine (c1 _).mono ?_; rintro e w' ⟨rfl, rfl⟩)
        go_roundw
        case rel => exact ⟨p + 1, a, cap, by omega, by rw [R.out], by go_num, by rw [R.out]; exact HO.out, HW.out⟩
        case measure => simp [intOf]; omega
      · have tg : (bits .and .i64 (m : Int) ((2 : Int) ^ p) != 0) = true := by rw [ha]; simp; omega
        have R : Hid _ := Flow.letters_has g
        have N : Hid _ := letter_num p hlt
        clear hx hy ha g hc
        go_wp2_with (first | (go_at_call 47; refine (c1 _).mono ?_; rintro e w' ⟨rfl, rfl⟩) | (at_builtin; refine wpList_append_lies _ rfl _ _ 82 rfl w.heap.size 5 i0 (.int .u8 0) 1 1 Tryz.underlying82 hi hz0 hz1 hz2 rfl (by decide) (.slice a (Flow.letters m p).length cap) _ _ rfl (HO.out.alloc _) ⟨wr.heap.size, 0, none⟩ 1 1 [.int .u8 (65 + (p : Int))] rfl rfl (cell_one_new _ _ _) (fun x hx => by simp at hx; rcases hx with rfl; rfl) (by decide) (by unfold maxLen; omega) (by omega) (by simp; omega) _ rfl ?_; intro g cap' w1 hown1 hgrow hat hlt1; have HG : Hid _ := hgrow; have HO1 : Hid (w1.ownsRow w.heap.size 5 1 (.slice (some ⟨g, 0, none⟩) ((Flow.letters m p).length + 1) cap') ((Flow.letters m p).length + 1) (cellsB (Flow.letters m p) ++ [.int .u8 (65 + (p : Int))])) := hown1; clear hgrow hown1 hat))
        go_roundw
        case rel =>
          refine ⟨p + 1, some ⟨g, 0, none⟩, cap', by omega, by rw [R.out]; simp, by go_num, ?_, ?_⟩
          · rw [R.out, cellsB_snoc, List.length_append, N.out]
            have := HO1.out
            simpa using this
          · exact Below.grown (HW.out.alloc hwb _) HG.out (by simp; omega) (fun i hi => (HO.out.lt _ hi).1)
        case measure => simp [intOf]; omega
    · obtain rfl : p = 16 := by omega
      have hcv := string_of_owned (Flow.letters m 16) HO.out
      go_wp2
      go_ret
      exact ⟨rfl, HW.out⟩
end Go.Proofs.YtdlldljgogbiaabGreat
