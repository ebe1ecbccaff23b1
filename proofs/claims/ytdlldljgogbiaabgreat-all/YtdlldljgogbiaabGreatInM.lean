/-
  Laid as one: InR, AccR.
-/
import Derived.Test.YtdlldljgogbiaabGreatScanM
import Derived.Test.YtdlldljgogbiaabGreatBaseM
import Derived.Laws.Concat
namespace Go.Proofs.YtdlldljgogbiaabGreat
open Go.RowKit
set_option linter.unusedVariables false
set_option maxRecDepth 40000

theorem yes_pos {p : Prop} (h : p) : decide (h := Classical.propDecidable p) p = true := by
  cases e : decide (h := Classical.propDecidable p) p with
  | true => rfl
  | false => exact absurd h (of_decide_eq_false (inst := Classical.propDecidable p) e)
theorem yes_neg {p : Prop} (h : ¬ p) : decide (h := Classical.propDecidable p) p = false := by
  cases e : decide (h := Classical.propDecidable p) p with
  | false => rfl
  | true => exact absurd (of_decide_eq_true (inst := Classical.propDecidable p) e) h
/-- what In answers -/
def InPost (A : List Nat → Prop) (word : ByteArray) (w : World) (e : Ending) (w' : World) : Prop := e = .returned (.bool ((decide (h := Classical.propDecidable _) (A (Flow.nats word))))) ∧ ∃ m, w' = w.drewN m

theorem nats_size (s : ByteArray) : (Flow.nats s).length = s.size := by unfold Flow.nats; simp
theorem nats_cut (s : ByteArray) (k : Nat) : Flow.nats (s.extract 0 k) = (Flow.nats s).take k := by
  unfold Flow.nats
  rw [ByteArray.data_extract, Array.toList_extract, List.extract_eq_take_drop, List.drop_zero, Nat.sub_zero, List.map_take]
theorem nats_rest (s : ByteArray) (k : Nat) : Flow.nats (s.extract k s.size) = (Flow.nats s).drop k := by
  unfold Flow.nats
  rw [ByteArray.data_extract, Array.toList_extract, List.extract_eq_take_drop, List.map_take, List.map_drop]
  apply List.take_of_length_le
  simp
theorem nats_add (a b : ByteArray) : Flow.nats (a ++ b) = Flow.nats a ++ Flow.nats b := by
  unfold Flow.nats
  simp
theorem nats_empty : Flow.nats ⟨#[]⟩ = [] := rfl
theorem nats_zero {s : ByteArray} (h : s.size = 0) : Flow.nats s = [] := List.length_eq_zero_iff.1 (by rw [nats_size]; exact h)
theorem nats_inj {a b : ByteArray} : a.toList = b.toList ↔ Flow.nats a = Flow.nats b := by
  rw [ByteArray.toList_eq, ByteArray.toList_eq]
  unfold Flow.nats
  constructor
  · intro h; rw [h]
  · intro h
    exact (List.map_inj_right (fun x y h => UInt8.toNat_inj.1 h)).1 h
theorem nats_head {s : ByteArray} (h : 0 < s.size) : Flow.nats s = s[0].toNat :: (Flow.nats s).drop 1 := by
  have := nats_take (s := s) (i := 0) h
  rw [List.take_zero, List.nil_append] at this
  rw [← List.singleton_append, ← this, Nat.zero_add, List.take_append_drop]

theorem drew_more {w W : World} (h : ∃ m, W = w.drewN m) (n : Nat) : ∃ m, W.drewN n = w.drewN m := by
  obtain ⟨m, rfl⟩ := h
  exact ⟨m + n, World.drewN_drewN _ _ _⟩

set_option maxHeartbeats 2000000 in
theorem mixedR_any (s : ByteArray) (i j : Nat) (A B : List Nat → Prop) (hA : ∀ word w, word.size < maxLen → Calls Tryz.prog 31 #[.string s, .int .i64 i, .string word] w (InPost A word w)) (hB : ∀ word w, word.size < maxLen → Calls Tryz.prog 31 #[.string s, .int .i64 j, .string word] w (InPost B word w)) (n : Nat) :
    ∀ (word u v : ByteArray) (w : World), word.size = n → word.size + u.size + v.size < maxLen → Calls Tryz.prog 61 #[.string s, .int .i64 i, .int .i64 j, .string word, .string u, .string v] w fun e w' => e = .returned (.bool ((decide (h := Classical.propDecidable _) (Flow.Deals A B (Flow.nats word) (Flow.nats u) (Flow.nats v))))) ∧ ∃ m, w' = w.drewN m := by
  induction n with
  | zero =>
    intro word u v w hn hz
    have c1 : ∀ w, Calls Tryz.prog 31 #[.string s, .int .i64 i, .string u] w fun e w' => e = .returned (.bool ((decide (h := Classical.propDecidable _) (A (Flow.nats u))))) ∧ ∃ m, w' = w.drewN m := fun w => hA u w (by omega)
    have c2 : ∀ w, Calls Tryz.prog 31 #[.string s, .int .i64 j, .string v] w fun e w' => e = .returned (.bool ((decide (h := Classical.propDecidable _) (B (Flow.nats v))))) ∧ ∃ m, w' = w.drewN m := fun w => hB v w (by omega)
    have te : (word.toList == []) = true := by
      rw [beq_iff_eq, ByteArray.toList_eq]
      apply List.length_eq_zero_iff.1
      simpa using hn
    have D : Flow.Deals A B (Flow.nats word) (Flow.nats u) (Flow.nats v) ↔ A (Flow.nats u) ∧ B (Flow.nats v) := by
      rw [nats_zero hn]; exact Flow.deals_nil
    obtain ⟨r, hr⟩ : ∃ r, r = (decide (h := Classical.propDecidable _) (Flow.Deals A B (Flow.nats word) (Flow.nats u) (Flow.nats v))) := ⟨_, rfl⟩
    rw [← hr]
    clear hA hB
    by_cases ha : A (Flow.nats u)
    · rw [yes_pos ha] at c1
      have R : Hid (r = (decide (h := Classical.propDecidable _) (B (Flow.nats v)))) := by
        show _ = _
        rw [hr]
        by_cases hb : B (Flow.nats v)
        · rw [yes_pos hb, yes_pos (D.2 ⟨ha, hb⟩)]
        · rw [yes_neg hb, yes_neg (fun h => hb (D.1 h).2)]
      clear D ha hr
      go_enter Tryz.func61, Tryz.ntmps61
      go_wp2_with (first | (go_at_call 31; have _t := te; refine (c1 _).mono ?_; rintro e w1 ⟨rfl, m1, rfl⟩; clear c1 _t) | (go_at_call 31; refine (c2 _).mono ?_; rintro e w2 ⟨rfl, m2, rfl⟩))
      go_ret
      exact ⟨by rw [R.out]; rfl, m1 + m2, rfl⟩
    · rw [yes_neg ha] at c1
      have R : Hid (r = false) := by show _ = _; rw [hr]; exact yes_neg (fun h => ha (D.1 h).1)
      clear D ha hr c2
      go_enter Tryz.func61, Tryz.ntmps61
      go_wp2_with (go_at_call 31; refine (c1 _).mono ?_; rintro e w1 ⟨rfl, m1, rfl⟩)
      go_ret
      exact ⟨by rw [R.out]; rfl, m1, rfl⟩
  | succ n ih =>
    intro word u v w hn hz
    have te : (word.toList == []) = false := by
      apply Bool.eq_false_iff.2
      intro h
      rw [beq_iff_eq, ByteArray.toList_eq] at h
      have := congrArg List.length h
      simp at this
      rw [this] at hn
      cases hn
    have h1 : 0 < word.size := by omega
    have hI1 : (1 : Int) ≤ (word.size : Int) := by omega
    have hs1 : (word.extract 1 word.size).size = n := by rw [ByteArray.size_extract]; omega
    have hs0 : (word.extract 0 1).size = 1 := by rw [ByteArray.size_extract]; omega
    have hz' := hz
    unfold maxLen at hz'
    have c1 := fun W => ih (word.extract 1 word.size) (u ++ word.extract 0 1) v W hs1 (by rw [ByteArray.size_append, hs0, hs1]; omega)
    have c2 := fun W => ih (word.extract 1 word.size) u (v ++ word.extract 0 1) W hs1 (by rw [ByteArray.size_append, hs0, hs1]; omega)
    have hsa := fun W : World => run_string_add_sum (P := Tryz.prog) (w := W) u (word.extract 0 1) (by rw [hs0]; omega)
    have hsb := fun W : World => run_string_add_sum (P := Tryz.prog) (w := W) v (word.extract 0 1) (by rw [hs0]; omega)
    have e1 : Flow.nats word = word[0].toNat :: Flow.nats (word.extract 1 word.size) := by rw [nats_rest]; exact nats_head h1
    have e0 : Flow.nats (word.extract 0 1) = [word[0].toNat] := by
      rw [nats_cut]
      have := nats_take (s := word) (i := 0) h1
      rw [List.take_zero, List.nil_append] at this
      exact this
    have D : Flow.Deals A B (Flow.nats word) (Flow.nats u) (Flow.nats v) ↔ Flow.Deals A B (Flow.nats (word.extract 1 word.size)) (Flow.nats (u ++ word.extract 0 1)) (Flow.nats v) ∨ Flow.Deals A B (Flow.nats (word.extract 1 word.size)) (Flow.nats u) (Flow.nats (v ++ word.extract 0 1)) := by
      rw [nats_add, nats_add, e0]
      conv => lhs; rw [e1]
      exact Flow.deals_cons
    obtain ⟨r, hr⟩ : ∃ r, r = (decide (h := Classical.propDecidable _) (Flow.Deals A B (Flow.nats word) (Flow.nats u) (Flow.nats v))) := ⟨_, rfl⟩
    rw [← hr]
    obtain ⟨x1, hx1⟩ : ∃ x, x = word.extract 1 word.size := ⟨_, rfl⟩
    obtain ⟨x0, hx0⟩ : ∃ x, x = word.extract 0 1 := ⟨_, rfl⟩
    by_cases d1 : Flow.Deals A B (Flow.nats (word.extract 1 word.size)) (Flow.nats (u ++ word.extract 0 1)) (Flow.nats v)
    · have R : Hid (r = true) := by show _ = _; rw [hr]; exact yes_pos (D.2 (.inl d1))
      rw [yes_pos d1] at c1
      clear hA hB ih e1 e0 hs1 hs0 hz hz' hn D d1 hr c2 hsb hx1 hx0
      go_enter Tryz.func61, Tryz.ntmps61
      go_wp2_with (fail)
      go_quiet ((go_at_call 61; exact Calls.quiet_of (c1 _)))
      go_wp2_with (fail)
      obtain ⟨W1, hW⟩ : ∃ W1, W1 = w.drewN nq := ⟨_, rfl⟩
      rw [← hW]
      have HW1 : Hid (∃ m, W1 = w.drewN m) := ⟨_, hW⟩
      clear hW
      go_quiet (fail)
      go_wp2_with (fail)
      go_ret
      exact ⟨by rw [R.out]; rfl, drew_more HW1.out _⟩
    · have R : Hid (r = (decide (h := Classical.propDecidable _) (Flow.Deals A B (Flow.nats (word.extract 1 word.size)) (Flow.nats u) (Flow.nats (v ++ word.extract 0 1))))) := by
        show _ = _
        rw [hr]
        by_cases d2 : Flow.Deals A B (Flow.nats (word.extract 1 word.size)) (Flow.nats u) (Flow.nats (v ++ word.extract 0 1))
        · rw [yes_pos d2]; exact yes_pos (D.2 (.inr d2))
        · rw [yes_neg d2]; exact yes_neg (fun h => (D.1 h).elim d1 d2)
      rw [yes_neg d1] at c1
      clear hA hB ih e1 e0 hs1 hs0 hz hz' hn D d1 hr hx1 hx0
      go_enter Tryz.func61, Tryz.ntmps61
      go_wp2_with (fail)
      go_quiet ((go_at_call 61; exact Calls.quiet_of (c1 _)))
      go_wp2_with (fail)
      obtain ⟨W1, hW⟩ : ∃ W1, W1 = w.drewN nq := ⟨_, rfl⟩
      rw [← hW]
      have HW1 : Hid (∃ m, W1 = w.drewN m) := ⟨_, hW⟩
      clear hW
      go_quiet ((go_at_call 61; exact Calls.quiet_of (c2 _)))
      go_wp2_with (fail)
      go_ret
      exact ⟨by rw [R.out]; rfl, drew_more HW1.out _⟩

set_option maxHeartbeats 4000000 in
theorem inR_any (s : ByteArray) (hs : s.size ≤ 65536) (n : Nat) : ∀ (i : Nat), (Flow.scan s i).2.2 = true → s.size - i < n → ∀ (word : ByteArray) (w : World), word.size < maxLen → Calls Tryz.prog 31 #[.string s, .int .i64 i, .string word] w (InPost (Flow.Has s i) word w) := by
  induction n with
  | zero => intro i _ h; omega
  | succ n ih =>
    intro i hok hn word w hz
    obtain ⟨h, hcs⟩ := Flow.scan_char hok
    have hge := Flow.scan_ge s (i + 1)
    rcases hcs with ht | hc | hc | hc | hc
    · have hb := Flow.bt_at h
      have ct : ∀ w, Calls Tryz.prog 60 #[.int .u8 (s[i].toNat : Int)] w fun e w' => e = .returned (.bool true) ∧ w = w' := fun w => by
        have := isTask_any s[i].toNat w
        rw [hb, ht] at this
        rw [hb]
        exact this.mono fun e w' h => ⟨h.1, h.2.symm⟩
      have hI0 : (0 : Int) ≤ (i : Int) := by omega
      have hI1 : (i : Int) < (s.size : Int) := by omega
      have hI2 : (i : Int) + 1 ≤ (s.size : Int) := by omega
      have en : Flow.nats (s.extract i (i + 1)) = [Flow.bt s i] := by
        unfold Flow.nats
        rw [ByteArray.data_extract, Array.toList_extract, List.extract_eq_take_drop, List.drop_eq_getElem_cons (by simpa using h), show i + 1 - i = 1 by omega]
        show [s[i].toNat] = _
        rw [hb]
      have R : Hid ((word.toList == (s.extract i (i + 1)).toList) = (decide (h := Classical.propDecidable _) (Flow.Has s i (Flow.nats word)))) := by
        show _ = _
        by_cases hh : Flow.nats word = [Flow.bt s i]
        · rw [yes_pos ((Flow.has_task h ht _).2 hh), beq_iff_eq, nats_inj, en]; exact hh
        · rw [yes_neg (fun g => hh ((Flow.has_task h ht _).1 g))]
          apply Bool.eq_false_iff.2
          intro g
          rw [beq_iff_eq, nats_inj, en] at g
          exact hh g
      clear ht hb en
      unfold InPost
      go_enter Tryz.func31, Tryz.ntmps31
      go_wp2_with (go_at_call 60; refine (ct _).mono ?_; rintro e w' ⟨rfl, rfl⟩)
      go_ret
      exact ⟨by rw [← R.out]; rfl, 0, rfl⟩
    · obtain ⟨ha, _, _⟩ := Flow.scan_one hok hc
      have iha := ih (i + 1) ha (by omega)
      have HE := Flow.has_star h hc
      have hbt := Flow.bt_at h
      have ct : ∀ w, Calls Tryz.prog 60 #[.int .u8 (s[i].toNat : Int)] w fun e w' => e = .returned (.bool false) ∧ w = w' := fun w => by
        have := isTask_any s[i].toNat w
        have hno : Flow.isTk (Flow.bt s i) = false := by
          apply Bool.eq_false_iff.2; exact Flow.isTk_no (by omega)
        rw [hbt, hno] at this
        rw [hbt]
        exact this.mono fun e w' h => ⟨h.1, h.2.symm⟩
      have t1 : ((s[i].toNat : Int) == 42) = true := by rw [hbt, hc]; rfl
      have hI0 : (0 : Int) ≤ (i : Int) := by omega
      have hI1 : (i : Int) < (s.size : Int) := by omega
      clear hbt
      clear hn ih
      induction hn : word.size using Nat.strongRecOn generalizing word w with
      | ind n2 ihw =>
        subst hn
        have hz' := hz
        unfold maxLen at hz'
        by_cases h0 : word.size = 0
        · have te : (word.toList == []) = true := by
            rw [beq_iff_eq, ByteArray.toList_eq]
            apply List.length_eq_zero_iff.1
            simpa using h0
          have R : Hid ((decide (h := Classical.propDecidable _) ((Flow.Has s i) (Flow.nats word))) = true) := yes_pos ((HE _).2 (by rw [nats_zero h0]; exact ⟨[], rfl, fun u hu => (by cases hu)⟩))
          unfold InPost
          clear ihw iha ha hc
          go_enter Tryz.func31, Tryz.ntmps31
          go_wp2_with (go_at_call 60; refine (ct _).mono ?_; rintro e w' ⟨rfl, rfl⟩)
          go_ret
          exact ⟨by rw [R.out]; rfl, 0, rfl⟩
        · have te : (word.toList == []) = false := by
            apply Bool.eq_false_iff.2
            intro h
            rw [beq_iff_eq, ByteArray.toList_eq] at h
            have := congrArg List.length h
            simp at this
            exact h0 (by rw [this]; rfl)
          have c1 : ∀ k w, Calls Tryz.prog 31 #[.string s, .int .i64 ((i : Int) + 1), .string (word.extract 0 k)] w fun e w' => e = .returned (.bool ((decide (h := Classical.propDecidable _) ((Flow.Has s (i + 1)) ((Flow.nats word).take k))))) ∧ ∃ m, w' = w.drewN m := fun k w => by
            have := iha (word.extract 0 k) w (by rw [ByteArray.size_extract]; omega)
            unfold InPost at this
            rw [nats_cut] at this
            exact this
          have c2 : ∀ k, 1 ≤ k → ∀ w, Calls Tryz.prog 31 #[.string s, .int .i64 (i : Int), .string (word.extract k word.size)] w fun e w' => e = .returned (.bool ((decide (h := Classical.propDecidable _) (Flow.Star (Flow.Has s (i + 1)) ((Flow.nats word).drop k))))) ∧ ∃ m, w' = w.drewN m := fun k hk1 w => by
            have := ihw (word.extract k word.size).size (by rw [ByteArray.size_extract]; omega) (word.extract k word.size) w (by rw [ByteArray.size_extract]; omega) rfl
            unfold InPost at this
            rw [nats_rest, propext (HE ((Flow.nats word).drop k))] at this
            exact this
          have L : Hid ((Flow.Has s i) (Flow.nats word) ↔ Flow.nats word = [] ∨ ∃ k, 1 ≤ k ∧ k ≤ word.size ∧ (Flow.Has s (i + 1)) ((Flow.nats word).take k) ∧ Flow.Star (Flow.Has s (i + 1)) ((Flow.nats word).drop k)) := by
            show _ ↔ _
            rw [← nats_size word]
            exact (HE _).trans Flow.star_iff
          have NE : Hid (Flow.nats word ≠ []) := fun e => h0 (by rw [← nats_size, e]; rfl)
          unfold InPost
          clear ihw iha ha hc
          go_enter Tryz.func31, Tryz.ntmps31
          go_wp2_with (go_at_call 60; refine (ct _).mono ?_; rintro e w' ⟨rfl, rfl⟩)
          go_loopw [8] (fun k' wr => ∃ (k : Nat), 1 ≤ k ∧ k ≤ word.size + 1 ∧ k' = .int .i64 k ∧ Hid (∃ m, wr = w.drewN m) ∧ Hid (∀ q, 1 ≤ q → q < k → ¬ ((Flow.Has s (i + 1)) ((Flow.nats word).take q) ∧ Flow.Star (Flow.Has s (i + 1)) ((Flow.nats word).drop q)))) (fun k' _ => word.size + 1 - (intOf k').toNat)
          case atStart => exact ⟨1, by omega, by omega, rfl, ⟨0, rfl⟩, fun q h1 hq => by omega⟩
          case round =>
            obtain ⟨k, hk1, hk, rfl, HW, HN⟩ := hrel
            by_cases hlt : k ≤ word.size
            · have c1k := c1 k
              have c2k := c2 k hk1
              have hJ0 : (0 : Int) ≤ (k : Int) := by omega
              have hJ1 : (k : Int) ≤ (word.size : Int) := by omega
              clear c1 c2
              by_cases d1 : (Flow.Has s (i + 1)) ((Flow.nats word).take k)
              · rw [yes_pos d1] at c1k
                by_cases d2 : Flow.Star (Flow.Has s (i + 1)) ((Flow.nats word).drop k)
                · rw [yes_pos d2] at c2k
                  have R : Hid ((decide (h := Classical.propDecidable _) ((Flow.Has s i) (Flow.nats word))) = true) := yes_pos (L.out.2 (.inr ⟨k, hk1, hlt, d1, d2⟩))
                  have tok : True := trivial
                  clear d1 d2
                  go_wp2_with (first | (go_at_call 31; have _t := tok; refine (c1k _).mono ?_; rintro e w1 ⟨rfl, m1, rfl⟩; clear tok _t) | (go_at_call 31; refine (c2k _).mono ?_; rintro e w2 ⟨rfl, m2, rfl⟩))
                  go_ret
                  exact ⟨by rw [R.out]; rfl, drew_more HW.out _⟩
                · rw [yes_neg d2] at c2k
                  have HN' : Hid (∀ q, 1 ≤ q → q < k + 1 → ¬ ((Flow.Has s (i + 1)) ((Flow.nats word).take q) ∧ Flow.Star (Flow.Has s (i + 1)) ((Flow.nats word).drop q))) := fun q hq1 hq hh => (by rcases Nat.lt_or_eq_of_le (Nat.lt_succ_iff.1 hq) with g | g; exact HN.out q hq1 g hh; subst g; exact d2 hh.2)
                  have tok : True := trivial
                  clear d1 d2
                  go_wp2_with (first | (go_at_call 31; have _t := tok; refine (c1k _).mono ?_; rintro e w1 ⟨rfl, m1, rfl⟩; clear tok _t) | (go_at_call 31; refine (c2k _).mono ?_; rintro e w2 ⟨rfl, m2, rfl⟩))
                  go_roundw
                  case rel => exact ⟨k + 1, by omega, by omega, by go_num, drew_more HW.out _, HN'⟩
                  case measure => simp [intOf]; omega
              · rw [yes_neg d1] at c1k
                have HN' : Hid (∀ q, 1 ≤ q → q < k + 1 → ¬ ((Flow.Has s (i + 1)) ((Flow.nats word).take q) ∧ Flow.Star (Flow.Has s (i + 1)) ((Flow.nats word).drop q))) := fun q hq1 hq hh => (by rcases Nat.lt_or_eq_of_le (Nat.lt_succ_iff.1 hq) with g | g; exact HN.out q hq1 g hh; subst g; exact d1 hh.1)
                clear d1 c2k
                go_wp2_with (go_at_call 31; refine (c1k _).mono ?_; rintro e w1 ⟨rfl, m1, rfl⟩)
                go_roundw
                case rel => exact ⟨k + 1, by omega, by omega, by go_num, drew_more HW.out _, HN'⟩
                case measure => simp [intOf]; omega
            · have R : Hid ((decide (h := Classical.propDecidable _) ((Flow.Has s i) (Flow.nats word))) = false) := yes_neg (fun hh => by
                rcases L.out.1 hh with e | ⟨q, hq1, hq, h1, h2⟩
                · exact NE.out e
                · exact HN.out q hq1 (by omega) ⟨h1, h2⟩)
              go_wp2_with (fail)
              go_ret
              exact ⟨by rw [R.out]; rfl, HW.out⟩
    · obtain ⟨ha, hb, _, _⟩ := Flow.scan_two hok (.inl hc)
      have iha := ih (i + 1) ha (by omega)
      have ihb := ih (Flow.scan s (i + 1)).1 hb (by omega)
      have HE := Flow.has_seq h hc
      have hle := Flow.scan_le s (i + 1) (by omega)
      obtain ⟨j1, d1, hsc⟩ : ∃ j1 d1, Flow.scan s (i + 1) = (j1, d1, true) := ⟨_, _, by rw [← ha]⟩
      rw [hsc] at ihb HE hle hge
      dsimp only at ihb HE hle hge
      have hbt := Flow.bt_at h
      have ct : ∀ w, Calls Tryz.prog 60 #[.int .u8 (s[i].toNat : Int)] w fun e w' => e = .returned (.bool false) ∧ w = w' := fun w => by
        have := isTask_any s[i].toNat w
        have hno : Flow.isTk (Flow.bt s i) = false := by
          apply Bool.eq_false_iff.2; exact Flow.isTk_no (by omega)
        rw [hbt, hno] at this
        rw [hbt]
        exact this.mono fun e w' h => ⟨h.1, h.2.symm⟩
      have cs : ∀ w, Calls Tryz.prog 58 #[.string s, .int .i64 ((i : Int) + 1)] w fun e w' => e = .returned (.tuple #[.int .i64 (j1 : Int), .int .i64 (d1 : Int), .bool true]) ∧ w = w' := fun w => by
        have := scanR_any s hs (s.size + 1) (i + 1) w (by omega) (by omega)
        rw [hsc] at this
        exact this
      have c1 : ∀ k w, Calls Tryz.prog 31 #[.string s, .int .i64 ((i : Int) + 1), .string (word.extract 0 k)] w fun e w' => e = .returned (.bool ((decide (h := Classical.propDecidable _) ((Flow.Has s (i + 1)) ((Flow.nats word).take k))))) ∧ ∃ m, w' = w.drewN m := fun k w => by
        have := iha (word.extract 0 k) w (by rw [ByteArray.size_extract]; omega)
        unfold InPost at this
        rw [nats_cut] at this
        exact this
      have c2 : ∀ k w, Calls Tryz.prog 31 #[.string s, .int .i64 (j1 : Int), .string (word.extract k word.size)] w fun e w' => e = .returned (.bool ((decide (h := Classical.propDecidable _) ((Flow.Has s j1) ((Flow.nats word).drop k))))) ∧ ∃ m, w' = w.drewN m := fun k w => by
        have := ihb (word.extract k word.size) w (by rw [ByteArray.size_extract]; omega)
        unfold InPost at this
        rw [nats_rest] at this
        exact this
      have t1 : ((s[i].toNat : Int) == 42) = false := by rw [hbt, hc]; rfl
      have t2 : ((s[i].toNat : Int) == 43) = false := by rw [hbt, hc]; rfl
      have t3 : ((s[i].toNat : Int) == 38) = false := by rw [hbt, hc]; rfl
      have hI0 : (0 : Int) ≤ (i : Int) := by omega
      have hI1 : (i : Int) < (s.size : Int) := by omega
      have L : Hid ((Flow.Has s i) (Flow.nats word) ↔ ∃ k, k ≤ word.size ∧ (Flow.Has s (i + 1)) ((Flow.nats word).take k) ∧ (Flow.Has s j1) ((Flow.nats word).drop k)) := by
        show _ ↔ _
        rw [← nats_size word]
        exact (HE _).trans Flow.seq_iff
      unfold InPost
      unfold maxLen at hz
      clear iha ihb hbt hsc hc ha hb
      go_enter Tryz.func31, Tryz.ntmps31
      go_wp2_with (first | (go_at_call 60; refine (ct _).mono ?_; rintro e w' ⟨rfl, rfl⟩) | (go_at_call 58; refine (cs _).mono ?_; rintro e w' ⟨rfl, rfl⟩))
      go_loopw [14] (fun k' wr => ∃ (k : Nat), k ≤ word.size + 1 ∧ k' = .int .i64 k ∧ Hid (∃ m, wr = w.drewN m) ∧ Hid (∀ q, q < k → ¬ ((Flow.Has s (i + 1)) ((Flow.nats word).take q) ∧ (Flow.Has s j1) ((Flow.nats word).drop q)))) (fun k' _ => word.size + 1 - (intOf k').toNat)
      case atStart => exact ⟨0, by omega, rfl, ⟨0, rfl⟩, fun q hq => by omega⟩
      case round =>
        obtain ⟨k, hk, rfl, HW, HN⟩ := hrel
        by_cases hlt : k ≤ word.size
        · have c1k := c1 k
          have c2k := c2 k
          have hJ0 : (0 : Int) ≤ (k : Int) := by omega
          have hJ1 : (k : Int) ≤ (word.size : Int) := by omega
          clear c1 c2
          by_cases d1 : (Flow.Has s (i + 1)) ((Flow.nats word).take k)
          · rw [yes_pos d1] at c1k
            by_cases d2 : (Flow.Has s j1) ((Flow.nats word).drop k)
            · rw [yes_pos d2] at c2k
              have R : Hid ((decide (h := Classical.propDecidable _) ((Flow.Has s i) (Flow.nats word))) = true) := yes_pos (L.out.2 ⟨k, hlt, d1, d2⟩)
              have tok : True := trivial
              clear d1 d2
              go_wp2_with (first | (go_at_call 31; have _t := tok; refine (c1k _).mono ?_; rintro e w1 ⟨rfl, m1, rfl⟩; clear tok _t) | (go_at_call 31; refine (c2k _).mono ?_; rintro e w2 ⟨rfl, m2, rfl⟩))
              go_ret
              exact ⟨by rw [R.out]; rfl, drew_more HW.out _⟩
            · rw [yes_neg d2] at c2k
              have HN' : Hid (∀ q, q < k + 1 → ¬ ((Flow.Has s (i + 1)) ((Flow.nats word).take q) ∧ (Flow.Has s j1) ((Flow.nats word).drop q))) := fun q hq hh => (by rcases Nat.lt_or_eq_of_le (Nat.lt_succ_iff.1 hq) with g | g; exact HN.out q g hh; subst g; exact d2 hh.2)
              have tok : True := trivial
              clear d1 d2
              go_wp2_with (first | (go_at_call 31; have _t := tok; refine (c1k _).mono ?_; rintro e w1 ⟨rfl, m1, rfl⟩; clear tok _t) | (go_at_call 31; refine (c2k _).mono ?_; rintro e w2 ⟨rfl, m2, rfl⟩))
              go_roundw
              case rel => exact ⟨k + 1, by omega, by go_num, drew_more HW.out _, HN'⟩
              case measure => simp [intOf]; omega
          · rw [yes_neg d1] at c1k
            have HN' : Hid (∀ q, q < k + 1 → ¬ ((Flow.Has s (i + 1)) ((Flow.nats word).take q) ∧ (Flow.Has s j1) ((Flow.nats word).drop q))) := fun q hq hh => (by rcases Nat.lt_or_eq_of_le (Nat.lt_succ_iff.1 hq) with g | g; exact HN.out q g hh; subst g; exact d1 hh.1)
            clear d1 c2k
            go_wp2_with (go_at_call 31; refine (c1k _).mono ?_; rintro e w1 ⟨rfl, m1, rfl⟩)
            go_roundw
            case rel => exact ⟨k + 1, by omega, by go_num, drew_more HW.out _, HN'⟩
            case measure => simp [intOf]; omega
        · have R : Hid ((decide (h := Classical.propDecidable _) ((Flow.Has s i) (Flow.nats word))) = false) := yes_neg (fun hh => by
            obtain ⟨q, hq, h1, h2⟩ := L.out.1 hh
            exact HN.out q (by omega) ⟨h1, h2⟩)
          go_wp2_with (fail)
          go_ret
          exact ⟨by rw [R.out]; rfl, HW.out⟩
    · obtain ⟨ha, hb, _, _⟩ := Flow.scan_two hok (.inr (.inl hc))
      have iha := ih (i + 1) ha (by omega)
      have ihb := ih (Flow.scan s (i + 1)).1 hb (by omega)
      have HE := Flow.has_alt h hc
      have hle := Flow.scan_le s (i + 1) (by omega)
      obtain ⟨j1, d1, hsc⟩ : ∃ j1 d1, Flow.scan s (i + 1) = (j1, d1, true) := ⟨_, _, by rw [← ha]⟩
      rw [hsc] at ihb HE hle hge
      dsimp only at ihb HE hle hge
      have hbt := Flow.bt_at h
      have ct : ∀ w, Calls Tryz.prog 60 #[.int .u8 (s[i].toNat : Int)] w fun e w' => e = .returned (.bool false) ∧ w = w' := fun w => by
        have := isTask_any s[i].toNat w
        have hno : Flow.isTk (Flow.bt s i) = false := by
          apply Bool.eq_false_iff.2; exact Flow.isTk_no (by omega)
        rw [hbt, hno] at this
        rw [hbt]
        exact this.mono fun e w' h => ⟨h.1, h.2.symm⟩
      have cs : ∀ w, Calls Tryz.prog 58 #[.string s, .int .i64 ((i : Int) + 1)] w fun e w' => e = .returned (.tuple #[.int .i64 (j1 : Int), .int .i64 (d1 : Int), .bool true]) ∧ w = w' := fun w => by
        have := scanR_any s hs (s.size + 1) (i + 1) w (by omega) (by omega)
        rw [hsc] at this
        exact this
      have c1 : ∀ w, Calls Tryz.prog 31 #[.string s, .int .i64 ((i : Int) + 1), .string word] w fun e w' => e = .returned (.bool ((decide (h := Classical.propDecidable _) ((Flow.Has s (i + 1)) (Flow.nats word))))) ∧ ∃ m, w' = w.drewN m := fun w => iha word w hz
      have c2 : ∀ w, Calls Tryz.prog 31 #[.string s, .int .i64 (j1 : Int), .string word] w fun e w' => e = .returned (.bool ((decide (h := Classical.propDecidable _) ((Flow.Has s j1) (Flow.nats word))))) ∧ ∃ m, w' = w.drewN m := fun w => ihb word w hz
      have t1 : ((s[i].toNat : Int) == 42) = false := by rw [hbt, hc]; rfl
      have t2 : ((s[i].toNat : Int) == 43) = true := by rw [hbt, hc]; rfl
      have hI0 : (0 : Int) ≤ (i : Int) := by omega
      have hI1 : (i : Int) < (s.size : Int) := by omega
      unfold InPost
      obtain ⟨r, hr⟩ : ∃ r, r = (decide (h := Classical.propDecidable _) ((Flow.Has s i) (Flow.nats word))) := ⟨_, rfl⟩
      rw [← hr]
      by_cases d1 : (Flow.Has s (i + 1)) (Flow.nats word)
      · have R : Hid (r = true) := by show _ = _; rw [hr]; exact yes_pos ((HE _).2 (.inl d1))
        rw [yes_pos d1] at c1
        clear iha ihb hbt hsc d1 hr c2 hc ha hb
        go_enter Tryz.func31, Tryz.ntmps31
        go_wp2_with (first | (go_at_call 60; refine (ct _).mono ?_; rintro e w' ⟨rfl, rfl⟩) | (go_at_call 58; refine (cs _).mono ?_; rintro e w' ⟨rfl, rfl⟩) | (go_at_call 31; refine (c1 _).mono ?_; rintro e w1 ⟨rfl, m1, rfl⟩))
        go_ret
        exact ⟨by rw [R.out]; rfl, m1, rfl⟩
      · have R : Hid (r = (decide (h := Classical.propDecidable _) ((Flow.Has s j1) (Flow.nats word)))) := by
          show _ = _
          rw [hr]
          by_cases d2 : (Flow.Has s j1) (Flow.nats word)
          · rw [yes_pos d2]; exact yes_pos ((HE _).2 (.inr d2))
          · rw [yes_neg d2]; exact yes_neg (fun h => ((HE _).1 h).elim d1 d2)
        rw [yes_neg d1] at c1
        have tok : True := trivial
        clear iha ihb hbt hsc d1 hr hc ha hb
        go_enter Tryz.func31, Tryz.ntmps31
        go_wp2_with (first | (go_at_call 60; refine (ct _).mono ?_; rintro e w' ⟨rfl, rfl⟩) | (go_at_call 58; refine (cs _).mono ?_; rintro e w' ⟨rfl, rfl⟩) | (go_at_call 31; have _t := tok; refine (c1 _).mono ?_; rintro e w1 ⟨rfl, m1, rfl⟩; clear tok _t) | (go_at_call 31; refine (c2 _).mono ?_; rintro e w2 ⟨rfl, m2, rfl⟩))
        go_ret
        exact ⟨by rw [R.out]; rfl, m1 + m2, rfl⟩
    · obtain ⟨ha, hb, _, _⟩ := Flow.scan_two hok (.inr (.inr hc))
      have iha := ih (i + 1) ha (by omega)
      have ihb := ih (Flow.scan s (i + 1)).1 hb (by omega)
      have HE := Flow.has_par h hc
      have hle := Flow.scan_le s (i + 1) (by omega)
      obtain ⟨j1, d1, hsc⟩ : ∃ j1 d1, Flow.scan s (i + 1) = (j1, d1, true) := ⟨_, _, by rw [← ha]⟩
      rw [hsc] at ihb HE hle hge
      dsimp only at ihb HE hle hge
      have hbt := Flow.bt_at h
      have ct : ∀ w, Calls Tryz.prog 60 #[.int .u8 (s[i].toNat : Int)] w fun e w' => e = .returned (.bool false) ∧ w = w' := fun w => by
        have := isTask_any s[i].toNat w
        have hno : Flow.isTk (Flow.bt s i) = false := by
          apply Bool.eq_false_iff.2; exact Flow.isTk_no (by omega)
        rw [hbt, hno] at this
        rw [hbt]
        exact this.mono fun e w' h => ⟨h.1, h.2.symm⟩
      have cs : ∀ w, Calls Tryz.prog 58 #[.string s, .int .i64 ((i : Int) + 1)] w fun e w' => e = .returned (.tuple #[.int .i64 (j1 : Int), .int .i64 (d1 : Int), .bool true]) ∧ w = w' := fun w => by
        have := scanR_any s hs (s.size + 1) (i + 1) w (by omega) (by omega)
        rw [hsc] at this
        exact this
      have c1 : ∀ w, Calls Tryz.prog 61 #[.string s, .int .i64 ((i : Int) + 1), .int .i64 (j1 : Int), .string word, .string ⟨#[]⟩, .string ⟨#[]⟩] w fun e w' => e = .returned (.bool ((decide (h := Classical.propDecidable _) ((Flow.Has s i) (Flow.nats word))))) ∧ ∃ m, w' = w.drewN m := fun w => by
        have := mixedR_any s (i + 1) j1 (Flow.Has s (i + 1)) (Flow.Has s j1) iha ihb word.size word ⟨#[]⟩ ⟨#[]⟩ w rfl (by show word.size + 0 + 0 < maxLen; omega)
        have e : (Flow.Has s i) (Flow.nats word) = Flow.Deals (Flow.Has s (i + 1)) (Flow.Has s j1) (Flow.nats word) [] [] := propext (HE _)
        rw [e]
        exact this
      have t1 : ((s[i].toNat : Int) == 42) = false := by rw [hbt, hc]; rfl
      have t2 : ((s[i].toNat : Int) == 43) = false := by rw [hbt, hc]; rfl
      have t3 : ((s[i].toNat : Int) == 38) = true := by rw [hbt, hc]; rfl
      have hI0 : (0 : Int) ≤ (i : Int) := by omega
      have hI1 : (i : Int) < (s.size : Int) := by omega
      unfold InPost
      clear iha ihb hbt hsc hc ha hb
      go_enter Tryz.func31, Tryz.ntmps31
      go_wp2_with (first | (go_at_call 60; refine (ct _).mono ?_; rintro e w' ⟨rfl, rfl⟩) | (go_at_call 58; refine (cs _).mono ?_; rintro e w' ⟨rfl, rfl⟩) | (go_at_call 61; refine (c1 _).mono ?_; rintro e w1 ⟨rfl, m1, rfl⟩))
      go_ret
      exact ⟨rfl, m1, rfl⟩
end Go.Proofs.YtdlldljgogbiaabGreat
namespace Go.Proofs.YtdlldljgogbiaabGreat
open Go.RowKit
set_option linter.unusedVariables false
set_option maxRecDepth 40000

theorem below_drewN0 (w : World) (m : Nat) : Below w.heap.size w (w.drewN m) := ⟨rfl, rfl, rfl, Nat.le_refl _, fun _ _ => rfl⟩
set_option maxHeartbeats 1000000 in
theorem acceptsR_any (s word : ByteArray) (w : World) (hs : s.size ≤ maxLen) (hw : word.size ≤ maxLen) : Calls Tryz.prog 27 #[.string s, .string word] w (AcceptsPost s word w) := by
  have c1 := readP_any s w hs
  have c2 := lettersR_any word w hw
  have hs' := hs
  have hw' := hw
  unfold maxLen at hs hw
  by_cases h1 : 24 < s.size ∨ 8 < word.size
  · have P : Hid (Flow.AcceptsA s word false 1 0) := .inl ⟨h1, rfl, rfl, rfl⟩
    rcases h1 with h1 | h1
    · go_enter Tryz.func27, Tryz.ntmps27
      go_wp2_with (fail)
      all_goals go_ret3
      all_goals exact ⟨false, 1, 0, rfl, P.out, Below.refl _ _⟩
    · go_enter Tryz.func27, Tryz.ntmps27
      go_wp2_with (fail)
      all_goals go_ret3
      all_goals exact ⟨false, 1, 0, rfl, P.out, Below.refl _ _⟩
  · have H1 : Hid (¬ (24 < s.size ∨ 8 < word.size)) := h1
    have hsz : s.size ≤ 24 := by omega
    have hwz : word.size ≤ 8 := by omega
    clear h1
    by_cases h2 : Flow.readE s = 0
    · obtain ⟨_, hp, _, _⟩ := readE_ok h2
      have c3 : Calls Tryz.prog 31 #[.string s, .int .i64 0, .string word] w fun e w' => e = .returned (.bool (decide (h := Classical.propDecidable _) (Flow.Has s 0 (Flow.nats word)))) ∧ ∃ m, w' = w.drewN m := inR_any s (by omega) (s.size + 1) 0 hp (by omega) word w (by unfold maxLen; omega)
      have H2 : Hid (Flow.readE s = 0) := h2
      rw [h2] at c1
      clear h2 hp
      go_enter Tryz.func27, Tryz.ntmps27
      go_wp2_with (first
        | (go_at_call 29; refine c1.mono ?_; rintro e w' ⟨rfl, rfl⟩)
        | (go_at_call 54; refine c2.mono ?_; rintro e w' ⟨r, rfl, hr, hw⟩; obtain rfl := hw.symm; rcases hr with ⟨rfl, hyes⟩ | ⟨j, hj1, rfl, hj2, hj3⟩)
        | (go_at_call 31; refine c3.mono ?_; rintro e w2 ⟨rfl, m2, rfl⟩))
      all_goals go_ret3
      all_goals (first
        | (have _t := hj1; exact ⟨false, 8, j, rfl, .inr (.inr (.inl ⟨H1.out, H2.out, ⟨hj1, hj2, hj3⟩, rfl, rfl⟩)), Below.refl _ _⟩)
        | exact ⟨_, 0, 0, rfl, .inr (.inr (.inr ⟨H1.out, H2.out, hyes, ⟨fun h => Classical.byContradiction (fun g => (by rw [yes_neg g] at h; cases h)), yes_pos⟩, rfl, rfl⟩)), below_drewN0 _ _⟩)
    · have t2 : ((Flow.readE s : Int) != 0) = true := by simp; omega
      go_enter Tryz.func27, Tryz.ntmps27
      go_wp2_with (go_at_call 29; refine c1.mono ?_; rintro e w' ⟨rfl, rfl⟩)
      all_goals go_ret3
      all_goals exact ⟨false, Flow.readE s, Flow.readP s, rfl, .inr (.inl ⟨H1.out, h2, rfl, rfl, rfl⟩), Below.refl _ _⟩
end Go.Proofs.YtdlldljgogbiaabGreat
