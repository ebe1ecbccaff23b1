/-
  Laid as one: LetF, LetR, ScanR, ReadP.
-/
import Derived.Test.YtdlldljgogbiaabGreatSmall
import Derived.Test.YtdlldljgogbiaabGreatBaseM
import Derived.Deep.QuietTactic
import Derived.BigQuiet
namespace Go.Proofs.YtdlldljgogbiaabGreat
open Go.RowKit
set_option linter.unusedVariables false
set_option maxRecDepth 40000

/-- the first byte that is no letter, or the length -/
def Flow.NoLetter (word : ByteArray) (r : Nat) : Prop := (r = word.size ∧ Flow.IsWord word) ∨ (r < word.size ∧ Flow.isTk (Flow.bt word r) = false ∧ ∀ j, j < r → Flow.isTk (Flow.bt word j) = true)
set_option maxHeartbeats 1000000 in
theorem firstNoLetter_any (word : ByteArray) (w : World) (hw : word.size ≤ maxLen) : Calls Tryz.prog 52 #[.string word] w fun e w' => ∃ r : Nat, e = .returned (.int .i64 r) ∧ r ≤ word.size ∧ Flow.NoLetter word r ∧ w = w' := by
  unfold maxLen at hw
  go_enter Tryz.func52, Tryz.ntmps52
  go_wp2
  go_loop [3] (fun i' => ∃ (i : Nat), i ≤ word.size ∧ i' = .int .i64 i ∧ Hid (∀ j, j < i → Flow.isTk (Flow.bt word j) = true)) (fun i' => word.size - (intOf i').toNat)
  case atStart => exact ⟨0, by omega, rfl, fun j hj => by omega⟩
  case round =>
    obtain ⟨i, hil, rfl, HN⟩ := hrel
    by_cases hlt : i < word.size
    · have hb := Flow.bt_at hlt
      have c1 : ∀ w, Calls Tryz.prog 85 #[.int .u8 (word[i].toNat : Int)] w fun e w' => e = .returned (.bool (Flow.isTk (Flow.bt word i))) ∧ w = w' := fun w => by
        have := isLetter_any word[i].toNat w
        rw [hb] at this
        rw [hb]
        exact this.mono fun e w' h => ⟨h.1, h.2.symm⟩
      have hI0 : (0 : Int) ≤ (i : Int) := by omega
      have hI1 : (i : Int) < (word.size : Int) := by omega
      clear hb
      cases ht : Flow.isTk (Flow.bt word i) with
      | true =>
        rw [ht] at c1
        have HN' : Hid (∀ j, j < i + 1 → Flow.isTk (Flow.bt word j) = true) := by
          intro j hj
          by_cases e : j = i
          · rw [e]; exact ht
          · exact HN.out j (by omega)
        clear ht
        go_wp2_with (go_at_call 85; refine (c1 _).mono ?_; rintro e w' ⟨rfl, rfl⟩)
        go_round
        case rel => exact ⟨i + 1, by omega, by go_num, HN'⟩
        case measure => simp [intOf]; omega
      | false =>
        rw [ht] at c1
        have F : Hid (Flow.isTk (Flow.bt word i) = false) := ht
        clear ht
        go_wp2_with (go_at_call 85; refine (c1 _).mono ?_; rintro e w' ⟨rfl, rfl⟩)
        go_ret
        exact ⟨i, rfl, hil, .inr ⟨hlt, F.out, HN.out⟩, rfl⟩
    · obtain rfl : i = word.size := by omega
      go_wp2
      go_ret
      exact ⟨word.size, rfl, Nat.le_refl _, .inl ⟨rfl, HN.out⟩, rfl⟩

end Go.Proofs.YtdlldljgogbiaabGreat
namespace Go.Proofs.YtdlldljgogbiaabGreat
open Go.RowKit
set_option linter.unusedVariables false
set_option maxRecDepth 40000

/-- the first byte that is no letter, or -1 -/
def Flow.LettersIs (word : ByteArray) (r : Int) : Prop := (r = -1 ∧ Flow.IsWord word) ∨ ∃ i : Nat, i < word.size ∧ r = (i : Int) ∧ Flow.isTk (Flow.bt word i) = false ∧ ∀ j, j < i → Flow.isTk (Flow.bt word j) = true
theorem lettersR_any (word : ByteArray) (w : World) (hw : word.size ≤ maxLen) : Calls Tryz.prog 54 #[.string word] w fun e w' => ∃ r, e = .returned (.int .i64 r) ∧ Flow.LettersIs word r ∧ w = w' := by
  unfold maxLen at hw
  go_enter Tryz.func54, Tryz.ntmps54
  go_wp2
  go_loop [3] (fun i' => ∃ (i : Nat), i ≤ word.size ∧ i' = .int .i64 i ∧ Hid (∀ j, j < i → Flow.isTk (Flow.bt word j) = true)) (fun i' => word.size - (intOf i').toNat)
  case atStart => exact ⟨0, by omega, rfl, fun j hj => by omega⟩
  case round =>
    obtain ⟨i, hil, rfl, HN⟩ := hrel
    by_cases hlt : i < word.size
    · have hb := Flow.bt_at hlt
      have c1 : ∀ w, Calls Tryz.prog 60 #[.int .u8 (word[i].toNat : Int)] w fun e w' => e = .returned (.bool (Flow.isTk (Flow.bt word i))) ∧ w = w' := fun w => by
        have := isTask_any word[i].toNat w
        rw [hb] at this
        rw [hb]
        exact this.mono fun e w' h => ⟨h.1, h.2.symm⟩
      have hI0 : (0 : Int) ≤ (i : Int) := by omega
      have hI1 : (i : Int) < (word.size : Int) := by omega
      clear hb
      cases ht : Flow.isTk (Flow.bt word i) with
      | true =>
        rw [ht] at c1
        have HN' : Hid (∀ j, j < i + 1 → Flow.isTk (Flow.bt word j) = true) := by
          intro j hj
          by_cases e : j = i
          · rw [e]; exact ht
          · exact HN.out j (by omega)
        clear ht
        go_wp2_with (go_at_call 60; refine (c1 _).mono ?_; rintro e w' ⟨rfl, rfl⟩)
        go_round
        case rel => exact ⟨i + 1, by omega, by go_num, HN'⟩
        case measure => simp [intOf]; omega
      | false =>
        rw [ht] at c1
        have F : Hid (Flow.isTk (Flow.bt word i) = false) := ht
        clear ht
        go_wp2_with (go_at_call 60; refine (c1 _).mono ?_; rintro e w' ⟨rfl, rfl⟩)
        go_ret
        exact ⟨(i : Int), rfl, .inr ⟨i, hlt, rfl, F.out, HN.out⟩, rfl⟩
    · obtain rfl : i = word.size := by omega
      go_wp2
      go_ret
      exact ⟨-1, rfl, .inl ⟨rfl, HN.out⟩, rfl⟩

end Go.Proofs.YtdlldljgogbiaabGreat
namespace Go.Proofs.YtdlldljgogbiaabGreat
open Go.RowKit
set_option linter.unusedVariables false
set_option maxRecDepth 40000

theorem ret_scan {a b : Nat × Nat × Bool} (h : a = b) : Ending.returned (.tuple #[.int .i64 (a.1 : Int), .int .i64 (a.2.1 : Int), .bool a.2.2]) = .returned (.tuple #[.int .i64 (b.1 : Int), .int .i64 (b.2.1 : Int), .bool b.2.2]) := by rw [h]

set_option maxHeartbeats 4000000 in
theorem scanR_any (s : ByteArray) (hs : s.size ≤ 65536) (n : Nat) : ∀ (i : Nat) (w : World), s.size - i < n → i ≤ s.size → Calls Tryz.prog 58 #[.string s, .int .i64 i] w fun e w' => e = .returned (.tuple #[.int .i64 (Flow.scan s i).1, .int .i64 (Flow.scan s i).2.1, .bool (Flow.scan s i).2.2]) ∧ w = w' := by
  induction n with
  | zero => intro i w h _; omega
  | succ n ih =>
    intro i w hn hi
    by_cases h0 : s.size ≤ i
    · have R : Hid (Flow.scan s i = (i, 0, false)) := by show _ = _; rw [Flow.scan_eq, if_pos h0]
      go_enter Tryz.func58, Tryz.ntmps58
      go_wp2
      go_ret3
      exact ⟨by rw [R.out]; rfl, rfl⟩
    · have hlt : i < s.size := by omega
      have hb := Flow.bt_at hlt
      have hb256 : s[i].toNat < 256 := UInt8.toNat_lt _
      have hI0 : (0 : Int) ≤ (i : Int) := by omega
      have hI1 : (i : Int) < (s.size : Int) := by omega
      have ct : ∀ w, Calls Tryz.prog 60 #[.int .u8 (s[i].toNat : Int)] w fun e w' => e = .returned (.bool (Flow.isTk (Flow.bt s i))) ∧ w = w' := fun w => by
        have := isTask_any s[i].toNat w
        rw [hb] at this
        rw [hb]
        exact this.mono fun e w' h => ⟨h.1, h.2.symm⟩
      cases h1 : Flow.isTk (Flow.bt s i) with
      | true =>
        rw [h1] at ct
        have R : Hid (Flow.scan s i = (i + 1, 1, true)) := by show _ = _; rw [Flow.scan_eq, if_neg h0, if_pos h1]
        clear h1 hb ih
        go_enter Tryz.func58, Tryz.ntmps58
        go_wp2_with (go_at_call 60; refine (ct _).mono ?_; rintro e w' ⟨rfl, rfl⟩)
        go_loop [1, 8, 9] (fun i' d' k' => i' = .int .i64 ((i : Int) + 1) ∧ d' = .int .i64 1 ∧ k' = .int .i64 0) (fun _ _ _ => 0)
        case atStart => exact ⟨rfl, rfl, rfl⟩
        case round =>
          obtain ⟨rfl, rfl, rfl⟩ := hrel
          go_wp2
          go_ret3
          exact ⟨by rw [R.out]; rfl, rfl⟩
      | false =>
        rw [h1] at ct
        have hge := Flow.scan_ge s (i + 1)
        have hle := Flow.scan_le s (i + 1) (by omega)
        have c1 : ∀ w, Calls Tryz.prog 58 #[.string s, .int .i64 ((i : Int) + 1)] w fun e w' => e = .returned (.tuple #[.int .i64 (Flow.scan s (i + 1)).1, .int .i64 (Flow.scan s (i + 1)).2.1, .bool (Flow.scan s (i + 1)).2.2]) ∧ w = w' := fun w => ih (i + 1) w (by omega) (by omega)
        have hn1 := fun h => Flow.scan_nodes (s := s) (i := i + 1) h
        by_cases h2 : Flow.bt s i = 42
        · have te : ((s[i].toNat : Int) == 42) = true := by rw [hb, h2]; rfl
          have E := Flow.scan_eq s i
          rw [if_neg h0, if_neg (by rw [h1]; simp), if_pos h2] at E
          obtain ⟨⟨j, d, ok⟩, hsc⟩ : ∃ r, r = Flow.scan s (i + 1) := ⟨_, rfl⟩
          rw [← hsc] at c1 E hge hle hn1
          dsimp only at c1 E hge hle hn1
          have E' : Hid _ := E
          clear h1 h2 hb ih hsc E
          cases ok with
          | false =>
            clear hn1
            go_enter Tryz.func58, Tryz.ntmps58
            go_wp2_with (go_at_call 60; refine (ct _).mono ?_; rintro e w' ⟨rfl, rfl⟩)
            go_loop [1, 8, 9] (fun i' d' k' => i' = .int .i64 ((i : Int) + 1) ∧ d' = .int .i64 1 ∧ k' = .int .i64 0) (fun _ _ _ => 0)
            case atStart => exact ⟨rfl, rfl, rfl⟩
            case round =>
              obtain ⟨rfl, rfl, rfl⟩ := hrel
              go_wp2_with (go_at_call 58; refine (c1 _).mono ?_; rintro e w' ⟨rfl, rfl⟩)
              go_ret3
              exact ⟨by rw [E'.out]; rfl, rfl⟩
          | true =>
            have hnd := hn1 rfl
            clear hn1
            go_enter Tryz.func58, Tryz.ntmps58
            go_wp2_with (go_at_call 60; refine (ct _).mono ?_; rintro e w' ⟨rfl, rfl⟩)
            go_loop [1, 8, 9] (fun i' d' k' => (i' = .int .i64 ((i : Int) + 1) ∧ d' = .int .i64 1 ∧ k' = .int .i64 0) ∨ (i' = .int .i64 (j : Int) ∧ d' = .int .i64 (1 + (d : Int)) ∧ k' = .int .i64 1)) (fun _ _ k' => 1 - (intOf k').toNat)
            case atStart => exact .inl ⟨rfl, rfl, rfl⟩
            case round =>
              rcases hrel with ⟨rfl, rfl, rfl⟩ | ⟨rfl, rfl, rfl⟩
              · go_wp2_with (go_at_call 58; refine (c1 _).mono ?_; rintro e w' ⟨rfl, rfl⟩)
                go_round
                case rel => exact .inr ⟨rfl, by go_num, rfl⟩
                case measure => simp [intOf]
              · go_wp2
                go_ret3
                exact ⟨by rw [E'.out]; rfl, rfl⟩
        · have te : ((s[i].toNat : Int) == 42) = false := by rw [hb]; simp; omega
          by_cases h4 : Flow.bt s i = 46 ∨ Flow.bt s i = 43 ∨ Flow.bt s i = 38
          · have E := Flow.scan_eq s i
            rw [if_neg h0, if_neg (by rw [h1]; simp), if_neg h2, if_pos h4] at E
            obtain ⟨⟨j, d, ok⟩, hsc⟩ : ∃ r, r = Flow.scan s (i + 1) := ⟨_, rfl⟩
            rw [← hsc] at c1 E hge hle hn1
            dsimp only at c1 E hge hle hn1
            have c2 : ∀ w, Calls Tryz.prog 58 #[.string s, .int .i64 (j : Int)] w fun e w' => e = .returned (.tuple #[.int .i64 (Flow.scan s j).1, .int .i64 (Flow.scan s j).2.1, .bool (Flow.scan s j).2.2]) ∧ w = w' := fun w => ih j w (by omega) hle
            have hle2 := Flow.scan_le s j hle
            have hge2 := Flow.scan_ge s j
            have hn2 := fun h => Flow.scan_nodes (s := s) (i := j) h
            obtain ⟨⟨j2, d2, ok2⟩, hsc2⟩ : ∃ r, r = Flow.scan s j := ⟨_, rfl⟩
            rw [← hsc2] at c2 E hle2 hge2 hn2
            dsimp only at c2 E hle2 hge2 hn2
            have E' : Hid _ := E
            have TC : Hid (Flow.bt s i = 46 ∨ Flow.bt s i = 43 ∨ Flow.bt s i = 38) := h4
            have BB : Hid (s[i].toNat = Flow.bt s i) := hb
            clear h1 h2 ih hsc hsc2 E h4 hb
            have fin : ∀ e46 e43 e38 : Bool, ((s[i].toNat : Int) == 46) = e46 → ((s[i].toNat : Int) == 43) = e43 → ((s[i].toNat : Int) == 38) = e38 → (e46 = true ∨ (e46 = false ∧ e43 = true) ∨ (e46 = false ∧ e43 = false ∧ e38 = true)) → Calls Tryz.prog 58 #[.string s, .int .i64 i] w fun e w' => e = .returned (.tuple #[.int .i64 (Flow.scan s i).1, .int .i64 (Flow.scan s i).2.1, .bool (Flow.scan s i).2.2]) ∧ w = w' := by
              intro e46 e43 e38 q1 q2 q3 q
              rcases q with rfl | ⟨rfl, rfl⟩ | ⟨rfl, rfl, rfl⟩
              all_goals
                cases ok with
                | false =>
                  clear hn1 hn2
                  go_enter Tryz.func58, Tryz.ntmps58
                  go_wp2_with (go_at_call 60; refine (ct _).mono ?_; rintro e w' ⟨rfl, rfl⟩)
                  (try (go_quiet (fail); go_wp2))
                  go_loop [1, 8, 9] (fun i' d' k' => i' = .int .i64 ((i : Int) + 1) ∧ d' = .int .i64 1 ∧ k' = .int .i64 0) (fun _ _ _ => 0)
                  case atStart => exact ⟨rfl, rfl, rfl⟩
                  case round =>
                    obtain ⟨rfl, rfl, rfl⟩ := hrel
                    go_wp2_with (go_at_call 58; refine (c1 _).mono ?_; rintro e w' ⟨rfl, rfl⟩)
                    go_ret3
                    exact ⟨by rw [E'.out]; rfl, rfl⟩
                | true =>
                  have hnd := hn1 rfl
                  clear hn1
                  cases ok2 with
                  | false =>
                    clear hn2
                    go_enter Tryz.func58, Tryz.ntmps58
                    go_wp2_with (go_at_call 60; refine (ct _).mono ?_; rintro e w' ⟨rfl, rfl⟩)
                    (try (go_quiet (fail); go_wp2))
                    go_loop [1, 8, 9] (fun i' d' k' => (i' = .int .i64 ((i : Int) + 1) ∧ d' = .int .i64 1 ∧ k' = .int .i64 0) ∨ (i' = .int .i64 (j : Int) ∧ d' = .int .i64 (1 + (d : Int)) ∧ k' = .int .i64 1)) (fun _ _ k' => 1 - (intOf k').toNat)
                    case atStart => exact .inl ⟨rfl, rfl, rfl⟩
                    case round =>
                      rcases hrel with ⟨rfl, rfl, rfl⟩ | ⟨rfl, rfl, rfl⟩
                      · go_wp2_with (go_at_call 58; refine (c1 _).mono ?_; rintro e w' ⟨rfl, rfl⟩)
                        go_round
                        case rel => exact .inr ⟨rfl, by go_num, rfl⟩
                        case measure => simp [intOf]
                      · go_wp2_with (go_at_call 58; refine (c2 _).mono ?_; rintro e w' ⟨rfl, rfl⟩)
                        go_ret3
                        exact ⟨by rw [E'.out]; rfl, rfl⟩
                  | true =>
                    have hnd2 := hn2 rfl
                    clear hn2
                    go_enter Tryz.func58, Tryz.ntmps58
                    go_wp2_with (go_at_call 60; refine (ct _).mono ?_; rintro e w' ⟨rfl, rfl⟩)
                    (try (go_quiet (fail); go_wp2))
                    go_loop [1, 8, 9] (fun i' d' k' => (i' = .int .i64 ((i : Int) + 1) ∧ d' = .int .i64 1 ∧ k' = .int .i64 0) ∨ (i' = .int .i64 (j : Int) ∧ d' = .int .i64 (1 + (d : Int)) ∧ k' = .int .i64 1) ∨ (i' = .int .i64 (j2 : Int) ∧ d' = .int .i64 (1 + (d : Int) + (d2 : Int)) ∧ k' = .int .i64 2)) (fun _ _ k' => 2 - (intOf k').toNat)
                    case atStart => exact .inl ⟨rfl, rfl, rfl⟩
                    case round =>
                      rcases hrel with ⟨rfl, rfl, rfl⟩ | ⟨rfl, rfl, rfl⟩ | ⟨rfl, rfl, rfl⟩
                      · go_wp2_with (go_at_call 58; refine (c1 _).mono ?_; rintro e w' ⟨rfl, rfl⟩)
                        go_round
                        case rel => exact .inr (.inl ⟨rfl, by go_num, rfl⟩)
                        case measure => simp [intOf]
                      · go_wp2_with (go_at_call 58; refine (c2 _).mono ?_; rintro e w' ⟨rfl, rfl⟩)
                        go_round
                        case rel => exact .inr (.inr ⟨rfl, by go_num, rfl⟩)
                        case measure => simp [intOf]
                      · go_wp2
                        go_ret3
                        exact ⟨by rw [E'.out]; rfl, rfl⟩
            refine fin _ _ _ rfl rfl rfl ?_
            have hbb := BB.out
            rcases TC.out with h | h | h
            · exact .inl (by simp; omega)
            · exact .inr (.inl ⟨by simp; omega, by simp; omega⟩)
            · exact .inr (.inr ⟨by simp; omega, by simp; omega, by simp; omega⟩)
          · have R : Hid (Flow.scan s i = (i, 0, false)) := by show _ = _; rw [Flow.scan_eq, if_neg h0, if_neg (by rw [h1]; simp), if_neg h2, if_neg h4]
            have q1 : ((s[i].toNat : Int) == 46) = false := by rw [hb]; simp; omega
            have q2 : ((s[i].toNat : Int) == 43) = false := by rw [hb]; simp; omega
            have q3 : ((s[i].toNat : Int) == 38) = false := by rw [hb]; simp; omega
            clear h1 h2 h4 hb ih c1 hn1
            go_enter Tryz.func58, Tryz.ntmps58
            go_wp2_with (go_at_call 60; refine (ct _).mono ?_; rintro e w' ⟨rfl, rfl⟩)
            (try (go_quiet (fail); go_wp2))
            go_ret3
            exact ⟨by rw [R.out]; rfl, rfl⟩
end Go.Proofs.YtdlldljgogbiaabGreat
namespace Go.Proofs.YtdlldljgogbiaabGreat
open Go.RowKit
set_option linter.unusedVariables false
set_option maxRecDepth 40000

/-- a process's own errors, and the place -/
def Flow.readE (s : ByteArray) : Nat := if 24 < s.size then 1 else if (Flow.scan s 0).2.2 = false ∨ (Flow.scan s 0).1 < s.size then 9 else if 8 < (Flow.scan s 0).2.1 then 10 else 0
def Flow.readP (s : ByteArray) : Nat := if 24 < s.size then 0 else if (Flow.scan s 0).2.2 = false ∨ (Flow.scan s 0).1 < s.size then (Flow.scan s 0).1 else 0
theorem readE_ok {s : ByteArray} (h : Flow.readE s = 0) : s.size ≤ 24 ∧ (Flow.scan s 0).2.2 = true ∧ (Flow.scan s 0).1 = s.size ∧ (Flow.scan s 0).2.1 ≤ 8 := by
  unfold Flow.readE at h
  split at h
  · omega
  · split at h
    · omega
    · split at h
      · omega
      · rename_i h1 h2 h3
        have hok : (Flow.scan s 0).2.2 = true := by
          cases e : (Flow.scan s 0).2.2 with
          | true => rfl
          | false => exact absurd (.inl e) h2
        have hle := Flow.scan_le s 0 (Nat.zero_le _)
        have : ¬ (Flow.scan s 0).1 < s.size := fun h => h2 (.inr h)
        exact ⟨by omega, hok, by omega, by omega⟩

set_option maxHeartbeats 1000000 in
theorem readP_any (s : ByteArray) (w : World) (hs : s.size ≤ maxLen) : Calls Tryz.prog 29 #[.string s] w fun e w' => e = .returned (.tuple #[.int .i64 (Flow.readE s), .int .i64 (Flow.readP s)]) ∧ w = w' := by
  unfold maxLen at hs
  by_cases h1 : 24 < s.size
  · have R : Hid (Flow.readE s = 1 ∧ Flow.readP s = 0) := ⟨by unfold Flow.readE; rw [if_pos h1], by unfold Flow.readP; rw [if_pos h1]⟩
    go_enter Tryz.func29, Tryz.ntmps29
    go_wp2_with (fail)
    go_ret2
    exact ⟨by rw [R.out.1, R.out.2]; rfl, rfl⟩
  · have c1 := scanR_any s (by omega) (s.size + 1) 0 w (by omega) (by omega)
    have hle := Flow.scan_le s 0 (Nat.zero_le _)
    have E1 : Hid (Flow.readE s = if (Flow.scan s 0).2.2 = false ∨ (Flow.scan s 0).1 < s.size then 9 else if 8 < (Flow.scan s 0).2.1 then 10 else 0) := by show _ = _; unfold Flow.readE; rw [if_neg h1]
    have E2 : Hid (Flow.readP s = if (Flow.scan s 0).2.2 = false ∨ (Flow.scan s 0).1 < s.size then (Flow.scan s 0).1 else 0) := by show _ = _; unfold Flow.readP; rw [if_neg h1]
    have hnd := fun h => Flow.scan_nodes (s := s) (i := 0) h
    obtain ⟨⟨j, d, ok⟩, hsc⟩ : ∃ r, r = Flow.scan s 0 := ⟨_, rfl⟩
    rw [← hsc] at c1 hle E1 E2 hnd
    dsimp only at c1 hle E1 E2 hnd
    clear hsc
    cases ok with
    | false =>
      clear hnd
      go_enter Tryz.func29, Tryz.ntmps29
      go_wp2_with (go_at_call 58; refine c1.mono ?_; rintro e w' ⟨rfl, rfl⟩)
      go_ret2
      exact ⟨by rw [E1.out, E2.out, if_pos (.inl (by trivial)), if_pos (.inl (by trivial))]; rfl, rfl⟩
    | true =>
      have hd := hnd rfl
      clear hnd
      by_cases h2 : j < s.size
      · go_enter Tryz.func29, Tryz.ntmps29
        go_wp2_with (go_at_call 58; refine c1.mono ?_; rintro e w' ⟨rfl, rfl⟩)
        go_ret2
        exact ⟨by rw [E1.out, E2.out, if_pos (.inr h2), if_pos (.inr h2)]; rfl, rfl⟩
      · have h2' : ¬ (true = false ∨ j < s.size) := fun h => h.elim (fun h => (by cases h)) h2
        by_cases h3 : 8 < d
        · go_enter Tryz.func29, Tryz.ntmps29
          go_wp2_with (go_at_call 58; refine c1.mono ?_; rintro e w' ⟨rfl, rfl⟩)
          go_ret2
          exact ⟨by rw [E1.out, E2.out, if_neg h2', if_neg h2', if_pos h3]; rfl, rfl⟩
        · go_enter Tryz.func29, Tryz.ntmps29
          go_wp2_with (go_at_call 58; refine c1.mono ?_; rintro e w' ⟨rfl, rfl⟩)
          go_ret2
          exact ⟨by rw [E1.out, E2.out, if_neg h2', if_neg h2', if_neg h3]; rfl, rfl⟩

/-- what Accepts answers -/
def Flow.AcceptsA (s word : ByteArray) (b : Bool) (e at' : Nat) : Prop :=
  ((24 < s.size ∨ 8 < word.size) ∧ b = false ∧ e = 1 ∧ at' = 0) ∨
  (¬ (24 < s.size ∨ 8 < word.size) ∧ Flow.readE s ≠ 0 ∧ b = false ∧ e = Flow.readE s ∧ at' = Flow.readP s) ∨
  (¬ (24 < s.size ∨ 8 < word.size) ∧ Flow.readE s = 0 ∧ (at' < word.size ∧ Flow.isTk (Flow.bt word at') = false ∧ ∀ j, j < at' → Flow.isTk (Flow.bt word j) = true) ∧ b = false ∧ e = 8) ∨
  (¬ (24 < s.size ∨ 8 < word.size) ∧ Flow.readE s = 0 ∧ Flow.IsWord word ∧ (b = true ↔ Flow.Has s 0 (Flow.nats word)) ∧ e = 0 ∧ at' = 0)
def AcceptsPost (s word : ByteArray) (w : World) (en : Ending) (w' : World) : Prop := ∃ b e at', en = .returned (.tuple #[.bool b, .int .i64 (e : Nat), .int .i64 (at' : Nat)]) ∧ Flow.AcceptsA s word b e at' ∧ Below w.heap.size w w'
theorem acceptsA_unique {s word : ByteArray} {b b' : Bool} {e e' a a' : Nat} (h : Flow.AcceptsA s word b e a) (h' : Flow.AcceptsA s word b' e' a') : b = b' ∧ e = e' ∧ a = a' := by
  rcases h with ⟨a1, a2, a3, a4⟩ | ⟨a1, a2, a3, a4, a5⟩ | ⟨a1, a2, ⟨a3, a4, a5⟩, a6, a7⟩ | ⟨a1, a2, a3, a5, a6, a7⟩ <;> rcases h' with ⟨b1, b2, b3, b4⟩ | ⟨b1, b2, b3, b4, b5⟩ | ⟨b1, b2, ⟨b3, b4, b5⟩, b6, b7⟩ | ⟨b1, b2, b3, b5, b6, b7⟩
  · exact ⟨by rw [a2, b2], by rw [a3, b3], by rw [a4, b4]⟩
  · exact absurd a1 b1
  · exact absurd a1 b1
  · exact absurd a1 b1
  · exact absurd b1 a1
  · exact ⟨by rw [a3, b3], by rw [a4, b4], by rw [a5, b5]⟩
  · exact absurd b2 a2
  · exact absurd b2 a2
  · exact absurd b1 a1
  · exact absurd a2 b2
  · refine ⟨by rw [a6, b6], by rw [a7, b7], ?_⟩
    rcases Nat.lt_trichotomy a a' with g | g | g
    · have := b5 a g; rw [a4] at this; cases this
    · exact g
    · have := a5 a' g; rw [b4] at this; cases this
  · have := b3 a a3; rw [a4] at this; cases this
  · exact absurd b1 a1
  · exact absurd a2 b2
  · have := a3 a' b3; rw [b4] at this; cases this
  · exact ⟨by rw [Bool.eq_iff_iff, a5, b5], by rw [a6, b6], by rw [a7, b7]⟩

end Go.Proofs.YtdlldljgogbiaabGreat
