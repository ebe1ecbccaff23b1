/-
  The reference's scan of a process.
-/
import Derived.Test.YtdlldljgogbiaabSmall
import Derived.Test.YtdlldljgogbiaabProc
import Derived.Deep.QuietTactic
import Derived.BigQuiet
namespace Go.Proofs.Ytdlldljgogbiaab
open Go.RowKit
set_option linter.unusedVariables false
set_option maxRecDepth 40000

theorem ret_scan {a b : Nat × Nat × Bool} (h : a = b) : Ending.returned (.tuple #[.int .i64 (a.1 : Int), .int .i64 (a.2.1 : Int), .bool a.2.2]) = .returned (.tuple #[.int .i64 (b.1 : Int), .int .i64 (b.2.1 : Int), .bool b.2.2]) := by rw [h]

set_option maxHeartbeats 4000000 in
theorem scanR_any (s : ByteArray) (hs : s.size ≤ 65536) (n : Nat) : ∀ (i : Nat) (w : World), s.size - i < n → i ≤ s.size → Calls Try.prog 21 #[.string s, .int .i64 i] w fun e w' => e = .returned (.tuple #[.int .i64 (Flow.scan s i).1, .int .i64 (Flow.scan s i).2.1, .bool (Flow.scan s i).2.2]) ∧ w = w' := by
  induction n with
  | zero => intro i w h _; omega
  | succ n ih =>
    intro i w hn hi
    by_cases h0 : s.size ≤ i
    · have R : Hid (Flow.scan s i = (i, 0, false)) := by show _ = _; rw [Flow.scan_eq, if_pos h0]
      go_enter Try.func21, Try.ntmps21
      go_wp2
      go_ret3
      exact ⟨by rw [R.out]; rfl, rfl⟩
    · have hlt : i < s.size := by omega
      have hb := Flow.bt_at hlt
      have hb256 : s[i].toNat < 256 := UInt8.toNat_lt _
      have hI0 : (0 : Int) ≤ (i : Int) := by omega
      have hI1 : (i : Int) < (s.size : Int) := by omega
      have ct : ∀ w, Calls Try.prog 26 #[.int .u8 (s[i].toNat : Int)] w fun e w' => e = .returned (.bool (Flow.isTk (Flow.bt s i))) ∧ w = w' := fun w => by
        have := isTask_any s[i].toNat w
        rw [hb] at this
        rw [hb]
        exact this.mono fun e w' h => ⟨h.1, h.2.symm⟩
      cases h1 : Flow.isTk (Flow.bt s i) with
      | true =>
        rw [h1] at ct
        have R : Hid (Flow.scan s i = (i + 1, 1, true)) := by show _ = _; rw [Flow.scan_eq, if_neg h0, if_pos h1]
        clear h1 hb ih
        go_enter Try.func21, Try.ntmps21
        go_wp2_with (go_at_call 26; refine (ct _).mono ?_; rintro e w' ⟨rfl, rfl⟩)
        go_loop [1, 8, 9] (fun i' d' k' => i' = .int .i64 ((i : Int) + 1) ∧ d' = .int .i64 1 ∧ k' = .int .i64 0) (fun _ _ _ => 0)
        case atStart => exact ⟨rfl, rfl, rfl⟩
        case round =>
          obtain ⟨rfl, rfl, rfl⟩ := hrel
          go_wp2
          go_ret3
          exact ⟨by rw [R.out]; rfl, rfl⟩
      | false =>
        rw [h1] at ct
        have hge := Flow.scan_ge s (i + 1)
        have hle := Flow.scan_le s (i + 1) (by omega)
        have c1 : ∀ w, Calls Try.prog 21 #[.string s, .int .i64 ((i : Int) + 1)] w fun e w' => e = .returned (.tuple #[.int .i64 (Flow.scan s (i + 1)).1, .int .i64 (Flow.scan s (i + 1)).2.1, .bool (Flow.scan s (i + 1)).2.2]) ∧ w = w' := fun w => ih (i + 1) w (by omega) (by omega)
        have hn1 := fun h => Flow.scan_nodes (s := s) (i := i + 1) h
        by_cases h2 : Flow.bt s i = 42
        · have te : ((s[i].toNat : Int) == 42) = true := by rw [hb, h2]; rfl
          have E := Flow.scan_eq s i
          rw [if_neg h0, if_neg (by rw [h1]; simp), if_pos h2] at E
          obtain ⟨⟨j, d, ok⟩, hsc⟩ : ∃ r, r = Flow.scan s (i + 1) := ⟨_, rfl⟩
          rw [← hsc] at c1 E hge hle hn1
          dsimp only at c1 E hge hle hn1
          have E' : Hid _ := E
          clear h1 h2 hb ih hsc E
          cases ok with
          | false =>
            clear hn1
            go_enter Try.func21, Try.ntmps21
            go_wp2_with (go_at_call 26; refine (ct _).mono ?_; rintro e w' ⟨rfl, rfl⟩)
            go_loop [1, 8, 9] (fun i' d' k' => i' = .int .i64 ((i : Int) + 1) ∧ d' = .int .i64 1 ∧ k' = .int .i64 0) (fun _ _ _ => 0)
            case atStart => exact ⟨rfl, rfl, rfl⟩
            case round =>
              obtain ⟨rfl, rfl, rfl⟩ := hrel
              go_wp2_with (go_at_call 21; refine (c1 _).mono ?_; rintro e w' ⟨rfl, rfl⟩)
              go_ret3
              exact ⟨by rw [E'.out]; rfl, rfl⟩
          | true =>
            have hnd := hn1 rfl
            clear hn1
            go_enter Try.func21, Try.ntmps21
            go_wp2_with (go_at_call 26; refine (ct _).mono ?_; rintro e w' ⟨rfl, rfl⟩)
            go_loop [1, 8, 9] (fun i' d' k' => (i' = .int .i64 ((i : Int) + 1) ∧ d' = .int .i64 1 ∧ k' = .int .i64 0) ∨ (i' = .int .i64 (j : Int) ∧ d' = .int .i64 (1 + (d : Int)) ∧ k' = .int .i64 1)) (fun _ _ k' => 1 - (intOf k').toNat)
            case atStart => exact .inl ⟨rfl, rfl, rfl⟩
            case round =>
              rcases hrel with ⟨rfl, rfl, rfl⟩ | ⟨rfl, rfl, rfl⟩
              · go_wp2_with (go_at_call 21; refine (c1 _).mono ?_; rintro e w' ⟨rfl, rfl⟩)
                go_round
                case rel => exact .inr ⟨rfl, by go_num, rfl⟩
                case measure => simp [intOf]
              · go_wp2
                go_ret3
                exact ⟨by rw [E'.out]; rfl, rfl⟩
        · have te : ((s[i].toNat : Int) == 42) = false := by rw [hb]; simp; omega
          by_cases h4 : Flow.bt s i = 46 ∨ Flow.bt s i = 43 ∨ Flow.bt s i = 38
          · have E := Flow.scan_eq s i
            rw [if_neg h0, if_neg (by rw [h1]; simp), if_neg h2, if_pos h4] at E
            obtain ⟨⟨j, d, ok⟩, hsc⟩ : ∃ r, r = Flow.scan s (i + 1) := ⟨_, rfl⟩
            rw [← hsc] at c1 E hge hle hn1
            dsimp only at c1 E hge hle hn1
            have c2 : ∀ w, Calls Try.prog 21 #[.string s, .int .i64 (j : Int)] w fun e w' => e = .returned (.tuple #[.int .i64 (Flow.scan s j).1, .int .i64 (Flow.scan s j).2.1, .bool (Flow.scan s j).2.2]) ∧ w = w' := fun w => ih j w (by omega) hle
            have hle2 := Flow.scan_le s j hle
            have hge2 := Flow.scan_ge s j
            have hn2 := fun h => Flow.scan_nodes (s := s) (i := j) h
            obtain ⟨⟨j2, d2, ok2⟩, hsc2⟩ : ∃ r, r = Flow.scan s j := ⟨_, rfl⟩
            rw [← hsc2] at c2 E hle2 hge2 hn2
            dsimp only at c2 E hle2 hge2 hn2
            have E' : Hid _ := E
            have TC : Hid (Flow.bt s i = 46 ∨ Flow.bt s i = 43 ∨ Flow.bt s i = 38) := h4
            have BB : Hid (s[i].toNat = Flow.bt s i) := hb
            clear h1 h2 ih hsc hsc2 E h4 hb
            have fin : ∀ e46 e43 e38 : Bool, ((s[i].toNat : Int) == 46) = e46 → ((s[i].toNat : Int) == 43) = e43 → ((s[i].toNat : Int) == 38) = e38 → (e46 = true ∨ (e46 = false ∧ e43 = true) ∨ (e46 = false ∧ e43 = false ∧ e38 = true)) → Calls Try.prog 21 #[.string s, .int .i64 i] w fun e w' => e = .returned (.tuple #[.int .i64 (Flow.scan s i).1, .int .i64 (Flow.scan s i).2.1, .bool (Flow.scan s i).2.2]) ∧ w = w' := by
              intro e46 e43 e38 q1 q2 q3 q
              rcases q with rfl | ⟨rfl, rfl⟩ | ⟨rfl, rfl, rfl⟩
              all_goals
                cases ok with
                | false =>
                  clear hn1 hn2
                  go_enter Try.func21, Try.ntmps21
                  go_wp2_with (go_at_call 26; refine (ct _).mono ?_; rintro e w' ⟨rfl, rfl⟩)
                  (try (go_quiet (fail); go_wp2))
                  go_loop [1, 8, 9] (fun i' d' k' => i' = .int .i64 ((i : Int) + 1) ∧ d' = .int .i64 1 ∧ k' = .int .i64 0) (fun _ _ _ => 0)
                  case atStart => exact ⟨rfl, rfl, rfl⟩
                  case round =>
                    obtain ⟨rfl, rfl, rfl⟩ := hrel
                    go_wp2_with (go_at_call 21; refine (c1 _).mono ?_; rintro e w' ⟨rfl, rfl⟩)
                    go_ret3
                    exact ⟨by rw [E'.out]; rfl, rfl⟩
                | true =>
                  have hnd := hn1 rfl
                  clear hn1
                  cases ok2 with
                  | false =>
                    clear hn2
                    go_enter Try.func21, Try.ntmps21
                    go_wp2_with (go_at_call 26; refine (ct _).mono ?_; rintro e w' ⟨rfl, rfl⟩)
                    (try (go_quiet (fail); go_wp2))
                    go_loop [1, 8, 9] (fun i' d' k' => (i' = .int .i64 ((i : Int) + 1) ∧ d' = .int .i64 1 ∧ k' = .int .i64 0) ∨ (i' = .int .i64 (j : Int) ∧ d' = .int .i64 (1 + (d : Int)) ∧ k' = .int .i64 1)) (fun _ _ k' => 1 - (intOf k').toNat)
                    case atStart => exact .inl ⟨rfl, rfl, rfl⟩
                    case round =>
                      rcases hrel with ⟨rfl, rfl, rfl⟩ | ⟨rfl, rfl, rfl⟩
                      · go_wp2_with (go_at_call 21; refine (c1 _).mono ?_; rintro e w' ⟨rfl, rfl⟩)
                        go_round
                        case rel => exact .inr ⟨rfl, by go_num, rfl⟩
                        case measure => simp [intOf]
                      · go_wp2_with (go_at_call 21; refine (c2 _).mono ?_; rintro e w' ⟨rfl, rfl⟩)
                        go_ret3
                        exact ⟨by rw [E'.out]; rfl, rfl⟩
                  | true =>
                    have hnd2 := hn2 rfl
                    clear hn2
                    go_enter Try.func21, Try.ntmps21
                    go_wp2_with (go_at_call 26; refine (ct _).mono ?_; rintro e w' ⟨rfl, rfl⟩)
                    (try (go_quiet (fail); go_wp2))
                    go_loop [1, 8, 9] (fun i' d' k' => (i' = .int .i64 ((i : Int) + 1) ∧ d' = .int .i64 1 ∧ k' = .int .i64 0) ∨ (i' = .int .i64 (j : Int) ∧ d' = .int .i64 (1 + (d : Int)) ∧ k' = .int .i64 1) ∨ (i' = .int .i64 (j2 : Int) ∧ d' = .int .i64 (1 + (d : Int) + (d2 : Int)) ∧ k' = .int .i64 2)) (fun _ _ k' => 2 - (intOf k').toNat)
                    case atStart => exact .inl ⟨rfl, rfl, rfl⟩
                    case round =>
                      rcases hrel with ⟨rfl, rfl, rfl⟩ | ⟨rfl, rfl, rfl⟩ | ⟨rfl, rfl, rfl⟩
                      · go_wp2_with (go_at_call 21; refine (c1 _).mono ?_; rintro e w' ⟨rfl, rfl⟩)
                        go_round
                        case rel => exact .inr (.inl ⟨rfl, by go_num, rfl⟩)
                        case measure => simp [intOf]
                      · go_wp2_with (go_at_call 21; refine (c2 _).mono ?_; rintro e w' ⟨rfl, rfl⟩)
                        go_round
                        case rel => exact .inr (.inr ⟨rfl, by go_num, rfl⟩)
                        case measure => simp [intOf]
                      · go_wp2
                        go_ret3
                        exact ⟨by rw [E'.out]; rfl, rfl⟩
            refine fin _ _ _ rfl rfl rfl ?_
            have hbb := BB.out
            rcases TC.out with h | h | h
            · exact .inl (by simp; omega)
            · exact .inr (.inl ⟨by simp; omega, by simp; omega⟩)
            · exact .inr (.inr ⟨by simp; omega, by simp; omega, by simp; omega⟩)
          · have R : Hid (Flow.scan s i = (i, 0, false)) := by show _ = _; rw [Flow.scan_eq, if_neg h0, if_neg (by rw [h1]; simp), if_neg h2, if_neg h4]
            have q1 : ((s[i].toNat : Int) == 46) = false := by rw [hb]; simp; omega
            have q2 : ((s[i].toNat : Int) == 43) = false := by rw [hb]; simp; omega
            have q3 : ((s[i].toNat : Int) == 38) = false := by rw [hb]; simp; omega
            clear h1 h2 h4 hb ih c1 hn1
            go_enter Try.func21, Try.ntmps21
            go_wp2_with (go_at_call 26; refine (ct _).mono ?_; rintro e w' ⟨rfl, rfl⟩)
            (try (go_quiet (fail); go_wp2))
            go_ret3
            exact ⟨by rw [R.out]; rfl, rfl⟩
end Go.Proofs.Ytdlldljgogbiaab
