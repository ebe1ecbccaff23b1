/-
  The two readers of a set of places.
-/
import Derived.Test.YtdlldljgogbiaabGreatSmall
namespace Go.Proofs.YtdlldljgogbiaabGreat
open Go.RowKit
set_option linter.unusedVariables false
set_option maxRecDepth 20000

theorem pow_facts (x : Nat) (h : x ≤ 15) : wrap64 (2 ^ x) = (2 : Int) ^ x ∧ (0 : Int) < 2 ^ x ∧ (2 : Int) ^ x ≤ 32768 ∧ ((2 ^ x : Nat) : Int) = (2 : Int) ^ x := by
  have h1 : (2 : Nat) ^ x ≤ 2 ^ 15 := Nat.pow_le_pow_right (by omega) h
  have h2 : (2 : Nat) ^ 15 = 32768 := by decide
  have h3 : 0 < (2 : Nat) ^ x := Nat.pow_pos (by omega)
  have e : ((2 ^ x : Nat) : Int) = (2 : Int) ^ x := by simp
  refine ⟨by rw [pow_small' x h, e], ?_, ?_, e⟩
  · rw [← e]; omega
  · rw [← e]; omega

theorem ret_two {k l : IntKind} {a b c d : Int} (h : a = b) (g : c = d) : Ending.returned (.tuple #[.int k a, .int l c]) = .returned (.tuple #[.int k b, .int l d]) := by rw [h, g]

set_option maxHeartbeats 400000 in
theorem placesR_any (s : ByteArray) (i : Nat) (w : World) (hs : s.size ≤ maxLen) (hi : i ≤ s.size) :
    Calls Tryz.prog 101 #[.string s, .int .i64 i] w fun e w' => e = .returned (.tuple #[.int .i64 (Flow.places s i 0).1, .int .i64 (Flow.places s i 0).2]) ∧ w' = w := by
  unfold maxLen at hs
  go_enter Tryz.func101, Tryz.ntmps101
  go_wp2
  go_loop [1, 6] (fun i' set' => ∃ k m : Nat, k ≤ s.size ∧ m < 65536 ∧ i' = .int .i64 k ∧ set' = .int .i64 m ∧ Hid (Flow.places s k m = Flow.places s i 0)) (fun i' _ => s.size - (intOf i').toNat)
  case atStart => exact ⟨i, 0, hi, by omega, rfl, rfl, rfl⟩
  case round =>
    obtain ⟨k, m, hk, hm, rfl, rfl, HP⟩ := hrel
    by_cases hlt : k < s.size
    · have hbt := Flow.bt_at hlt
      have HB : Hid (s[k].toNat = Flow.bt s k) := hbt
      clear hbt
      by_cases h2 : Flow.isPl (s[k].toNat) = true
      · have hp := Flow.isPl_iff.1 h2
        obtain ⟨hw, hw0, hw1, hw2⟩ := pow_facts (s[k].toNat - 65) (by omega)
        have HW : Hid (((2 ^ (s[k].toNat - 65) : Nat) : Int) = (2 : Int) ^ (s[k].toNat - 65)) := hw2
        clear hw2
        by_cases h3 : (m : Int) < 2 ^ (s[k].toNat - 65)
        · go_wp2_with (go_at_call 65; refine (isPlaceR_any _ _).mono ?_; rintro e w' ⟨rfl, rfl⟩)
          go_round
          case rel =>
            have hn : m < 2 ^ (Flow.bt s k - 65) := by rw [← HB.out]; have := HW.out; omega
            refine ⟨k + 1, m + 2 ^ (Flow.bt s k - 65), by omega, ?_, by go_num, ?_, ?_⟩
            · rw [← HB.out]; have := HW.out; omega
            · rw [← HB.out]; have := HW.out; congr 1
            · show _ = _
              rw [← HP.out, Flow.places_go ⟨hlt, by rw [← HB.out]; exact h2, hn⟩]
          case measure => simp [intOf]; omega
        · go_wp2_with (go_at_call 65; refine (isPlaceR_any _ _).mono ?_; rintro e w' ⟨rfl, rfl⟩)
          go_ret2
          have hn : ¬ m < 2 ^ (Flow.bt s k - 65) := by rw [← HB.out]; have := HW.out; omega
          have := HP.out
          rw [Flow.places_end (by intro h; exact hn h.2.2)] at this
          exact ⟨by rw [← this]; rfl, rfl⟩
      · have h2' : Flow.isPl (s[k].toNat) = false := by simpa using h2
        clear h2
        go_wp2_with (go_at_call 65; refine (isPlaceR_any _ _).mono ?_; rintro e w' ⟨rfl, rfl⟩)
        go_ret2
        have := HP.out
        rw [Flow.places_end (by intro h; rw [← HB.out, h2'] at h; exact absurd h.2.1 (by simp))] at this
        exact ⟨by rw [← this]; rfl, rfl⟩
    · go_wp2
      go_ret2
      have := HP.out
      rw [Flow.places_end (by intro h; exact hlt h.1)] at this
      exact ⟨by rw [← this]; rfl, rfl⟩

/-- what readPlaces keeps: the last place and the set -/
def Flow.Last (l m : Nat) : Prop := (l = 0 ∧ m = 0) ∨ (65 ≤ l ∧ l ≤ 80 ∧ 2 ^ (l - 65) ≤ m ∧ m < 2 * 2 ^ (l - 65))
theorem Flow.Last.lt {l m c : Nat} (h : Flow.Last l m) (hc : 65 ≤ c ∧ c ≤ 80) : l < c ↔ m < 2 ^ (c - 65) := by
  have hpos : 0 < 2 ^ (c - 65) := Nat.pow_pos (by omega)
  rcases h with ⟨rfl, rfl⟩ | ⟨h1, h2, h3, h4⟩
  · constructor
    · intro; exact hpos
    · intro; omega
  · constructor
    · intro hlt
      have e : 2 ^ (l - 65 + 1) ≤ 2 ^ (c - 65) := Nat.pow_le_pow_right (by omega) (by omega)
      rw [Nat.pow_succ] at e
      omega
    · intro hm
      rcases Nat.lt_or_ge l c with hlt | hge
      · exact hlt
      · have e : 2 ^ (c - 65) ≤ 2 ^ (l - 65) := Nat.pow_le_pow_right (by omega) (by omega)
        omega
theorem Flow.Last.next {m c : Nat} (hc : 65 ≤ c ∧ c ≤ 80) (hm : m < 2 ^ (c - 65)) : Flow.Last c (m + 2 ^ (c - 65)) := Or.inr ⟨hc.1, hc.2, by omega, by omega⟩
theorem Flow.or_pbit {m c : Nat} (hc : Flow.isPl c = true) (hm : m < 2 ^ (c - 65)) : m ||| Flow.pbit c = m + 2 ^ (c - 65) := by
  have hb := Flow.pbit_lt c
  have e : Flow.pbit c = 2 ^ (c - 65) := by unfold Flow.pbit; rw [if_pos hc]
  rw [e] at hb ⊢
  exact Flow.or_add (by omega) hb (Flow.low_and _ _ hm)

set_option maxHeartbeats 400000 in
theorem placesF_any (s : ByteArray) (i : Nat) (w : World) (hs : s.size ≤ maxLen) (hi : i ≤ s.size) :
    Calls Tryz.prog 116 #[.string s, .int .i64 i] w fun e w' => e = .returned (.tuple #[.int .i64 (Flow.places s i 0).1, .int .i64 (Flow.places s i 0).2]) ∧ w' = w := by
  unfold maxLen at hs
  go_enter Tryz.func116, Tryz.ntmps116
  go_wp2
  go_loop [1, 6, 7] (fun i' set' l' => ∃ k m l : Nat, k ≤ s.size ∧ m < 65536 ∧ l < 256 ∧ i' = .int .i64 k ∧ set' = .int .i64 m ∧ l' = .int .u8 l ∧ Hid (Flow.Last l m) ∧ Hid (Flow.places s k m = Flow.places s i 0)) (fun i' _ _ => s.size - (intOf i').toNat)
  case atStart => exact ⟨i, 0, 0, hi, by omega, by omega, rfl, rfl, rfl, Or.inl ⟨rfl, rfl⟩, rfl⟩
  case round =>
    obtain ⟨k, m, l, hk, hm, hl, rfl, rfl, rfl, HL, HP⟩ := hrel
    by_cases hlt : k < s.size
    · have hbt := Flow.bt_at hlt
      have HB : Hid (s[k].toNat = Flow.bt s k) := hbt
      clear hbt
      have hb256 : s[k].toNat < 256 := UInt8.toNat_lt _
      by_cases h2 : Flow.isPl (s[k].toNat) = true
      · have hp := Flow.isPl_iff.1 h2
        by_cases h3 : (l : Int) < s[k].toNat
        · have hn : m < 2 ^ (s[k].toNat - 65) := (HL.out.lt hp).1 (by omega)
          have HN : Hid (m < 2 ^ (s[k].toNat - 65)) := hn
          have ho := Flow.or_nat m (Flow.pbit s[k].toNat) hm (Flow.pbit_lt _)
          rw [Flow.or_pbit h2 hn] at ho
          have HO : Hid (bits .or .i64 (m : Int) (Flow.pbit s[k].toNat : Int) = ((m + 2 ^ (s[k].toNat - 65) : Nat) : Int)) := ho
          clear hn ho
          go_wp2_with (first | (go_at_call 62; refine (isPlaceF_any _ _).mono ?_; rintro e w' ⟨rfl, rfl⟩) | (go_at_call 47; refine (placeBit_any _ _ ?_).mono ?_; omega; rintro e w' ⟨rfl, rfl⟩))
          go_round
          case rel =>
            have hb := Flow.pbit_lt (s[k].toNat)
            have e : Flow.pbit s[k].toNat = 2 ^ (s[k].toNat - 65) := by unfold Flow.pbit; rw [if_pos h2]
            have hx : (2 : Nat) ^ (s[k].toNat - 65) ≤ 2 ^ 15 := Nat.pow_le_pow_right (by omega) (by omega)
            have hy : (2 : Nat) ^ 15 = 32768 := by decide
            have hn := HN.out
            refine ⟨k + 1, m + 2 ^ (s[k].toNat - 65), s[k].toNat, by omega, by omega, by omega, by go_num, ?_, by go_num, Flow.Last.next hp hn, ?_⟩
            · rw [HO.out]
            · show _ = _
              rw [← HP.out, Flow.places_go ⟨hlt, by rw [← HB.out]; exact h2, by rw [← HB.out]; exact hn⟩, HB.out]
          case measure => simp [intOf]; omega
        · go_wp2_with (go_at_call 62; refine (isPlaceF_any _ _).mono ?_; rintro e w' ⟨rfl, rfl⟩)
          go_ret2
          have hn : ¬ m < 2 ^ (Flow.bt s k - 65) := by rw [← HB.out]; intro h; have := (HL.out.lt hp).2 h; omega
          have := HP.out
          rw [Flow.places_end (by intro h; exact hn h.2.2)] at this
          exact ⟨by rw [← this]; rfl, rfl⟩
      · have h2' : Flow.isPl (s[k].toNat) = false := by simpa using h2
        clear h2
        go_wp2_with (go_at_call 62; refine (isPlaceF_any _ _).mono ?_; rintro e w' ⟨rfl, rfl⟩)
        go_ret2
        have := HP.out
        rw [Flow.places_end (by intro h; rw [← HB.out, h2'] at h; exact absurd h.2.1 (by simp))] at this
        exact ⟨by rw [← this]; rfl, rfl⟩
    · go_wp2
      go_ret2
      have := HP.out
      rw [Flow.places_end (by intro h; exact hlt h.1)] at this
      exact ⟨by rw [← this]; rfl, rfl⟩
end Go.Proofs.YtdlldljgogbiaabGreat
