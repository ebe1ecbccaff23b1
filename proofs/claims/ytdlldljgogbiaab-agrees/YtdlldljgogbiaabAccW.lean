/-
  The program's Accepts.
-/
import Derived.Test.YtdlldljgogbiaabAccF
namespace Go.Proofs.Ytdlldljgogbiaab
open Go.RowKit
set_option linter.unusedVariables false
set_option maxRecDepth 40000

theorem stack_len {s : ByteArray} {wd : List Nat} {R : List (Nat → Bool)} {T : List Nat} (h : StackIs s wd R T) : R.length = T.length := by
  induction T generalizing R with
  | nil => rw [stack_nil h]; rfl
  | cons i T ih =>
    obtain ⟨f, R', rfl, _, h2⟩ := stack_cons h
    simp [ih h2]
theorem Try.infoStk : (Try.prog.info? 113).map (fun i => (i.zero, i.size)) = some (some (.agg #[.slice none 0 0]), 1) := by kernel_rfl
/-- a set that was told is laid into a new variable -/
theorem stk_var {w w1 : World} {base B : Nat} {L : List (Nat → Bool)} (h : Stk w1 base B L) (hb : Below base w w1) (hbase : base ≤ w1.heap.size) (f : Nat → Bool) :
    Stk ((w1.alloc (.cells (cellsP fun _ => false) 115)).setRow w1.heap.size (cellsP f)) base B L ∧ Below base w ((w1.alloc (.cells (cellsP fun _ => false) 115)).setRow w1.heap.size (cellsP f)) ∧ Blk ((w1.alloc (.cells (cellsP fun _ => false) 115)).setRow w1.heap.size (cellsP f)) w1.heap.size (cellsP f) 115 := by
  obtain ⟨aS, cS, h⟩ := h
  refine ⟨⟨aS, cS, (h.below ((Below.refl _ _).alloc (Nat.le_refl _) _)).offRow (by have := h.2.2.1.lt; omega) (fun e => by have := (owns_lt h.2.2.2 e).2; omega) _⟩, below_setRow (hb.alloc hbase _) hbase _, (Blk.new _ _ _).setRow _⟩

set_option maxHeartbeats 4000000 in
theorem acceptsWord_any (s word : ByteArray) (w : World) (hs : s.size ≤ 24) (hw : word.size ≤ 8) (hok : (Flow.scan s 0).2.2 = true) (hend : (Flow.scan s 0).1 = s.size) :
    Calls Try.prog 38 #[.string s, .string word] w fun e w' => ∃ b, e = .returned (.bool b) ∧ (b = true ↔ Flow.Has s 0 (Flow.nats word)) ∧ Below w.heap.size w w' := by
  obtain ⟨hz, hsz⟩ := zero_of_info Try.infoPS
  clear hsz
  have ALL : Hid (∀ a, a ≤ s.size → ∃ T, SufAt s a T) := fun a ha => suf_all (T := []) hok hend a (Nat.zero_le _) (by rw [hend]; exact ha)
  have ONE : Hid (SufAt s 0 [0]) := ⟨rfl, hok, hend⟩
  have cw := fun W => wholePart_any word W hw
  have h256 := pow_le8 hw
  have h1p := Nat.one_le_two_pow (n := word.size)
  have EW : Hid (∃ W8, W8 = 2 ^ word.size - 1 ∧ W8 < 256) := ⟨_, rfl, by omega⟩
  have FIN : Hid (∀ f : Nat → Bool, SetIs (Flow.nats word) f (Flow.Has s 0) → (f (2 ^ word.size - 1) = true ↔ Flow.Has s 0 (Flow.nats word))) := fun f hf => by
    have := hf (2 ^ word.size - 1) (by rw [nats_len]; omega)
    rw [← nats_len, part_all] at this
    rw [← nats_len]; exact this
  have crd := fun i base B R T T1 W (hi : i < s.size) h1 h2 h3 h4 h5 h6 => read_any s word i base B R T T1 W hi hw h1 h2 h3 h4 h5 h6
  obtain ⟨W8, hW8, hlt8⟩ := EW.out
  rw [← hW8] at cw crd FIN
  clear hW8 EW h256 h1p hok hend
  go_enter Try.func38, Try.ntmps38
  go_wp2_with (go_at_call 62; refine (cw _).mono ?_; rintro e w' ⟨rfl, rfl⟩)
  have S0 : Hid (Stk (w.alloc (.cells #[.slice none 0 0] 113)) w.heap.size w.heap.size ([] : List (Nat → Bool)).reverse) := ⟨none, 0, Nat.le_refl _, by simp [obk], Blk.new _ _ _, World.ownsRow_nil _ _ _ _⟩
  have E0 : Hid (Below w.heap.size w (w.alloc (.cells #[.slice none 0 0] 113))) := (Below.refl _ _).alloc (Nat.le_refl _) _
  go_loopw [7] (fun a' wr => ∃ (a : Nat) (R : List (Nat → Bool)) (T : List Nat), a ≤ s.size ∧ a' = .int .i64 ((a : Int) - 1) ∧ Hid (SufAt s a T) ∧ Hid (StackIs s (Flow.nats word) R T) ∧ Hid (Stk wr w.heap.size w.heap.size R.reverse) ∧ Hid (Below w.heap.size w wr)) (fun a' _ => ((intOf a') + 1).toNat)
  case atStart => exact ⟨s.size, [], [], Nat.le_refl _, rfl, rfl, trivial, S0, E0⟩
  case round =>
    clear S0 E0
    obtain ⟨a, R, T, ha, rfl, SU, ST, SK, HW⟩ := hrel
    have hzw := HW.out.size
    by_cases h0 : a = 0
    · subst h0
      have e1 : ((0 : Nat) : Int) - 1 = -1 := by omega
      rw [e1]
      have hT := suf_unique SU.out ONE.out
      subst hT
      obtain ⟨f, R', rfl, hf, hR'⟩ := stack_cons ST.out
      have hR2 := stack_nil hR'
      subst hR2
      obtain ⟨aS, cS, hst⟩ := SK.out
      have cp := pop_any f [] w.heap.size w.heap.size aS cS wr (by simp) hst
      have FE : Hid (f W8 = true ↔ Flow.Has s 0 (Flow.nats word)) := FIN.out f hf
      have hI0 : (0 : Int) ≤ (W8 : Int) := by omega
      have hI1 : (W8 : Int) < 256 := by omega
      clear hst hR' hf crd cw
      go_wp2_with (first
        | (go_at_call 65; refine cp.mono ?_; rintro e w1 ⟨rfl, hs1, hk⟩; have S1 : Hid (Below w.heap.size w w1) := (by exact HW.out.trans (hk.below (fun k hk => ⟨by omega, by omega⟩))); have X1 : Hid (Blk ((w1.alloc (.cells (cellsP fun _ => false) 115)).setRow w1.heap.size (cellsP f)) w1.heap.size (cellsP f) 115) := (Blk.new _ _ _).setRow _; have E1 : Hid (Below w.heap.size w ((w1.alloc (.cells (cellsP fun _ => false) 115)).setRow w1.heap.size (cellsP f))) := below_setRow (S1.out.alloc S1.out.size _) S1.out.size _; have Y1 : Hid (Blk (w1.alloc (.cells (cellsP fun _ => false) 115)) w1.heap.size (cellsP fun _ => false) 115) := Blk.new _ _ _; clear hs1 hk)
        | (refine wpList_store_row rfl 115 (.tmp 9) _ rfl w1.heap.size (cellsP f) rfl rfl 115 _ Y1.out (sizePS f) (by rw [cellsP_size, cellsP_size]) (cellsP_one f) ?_; clear Y1; generalize (w1.alloc (.cells (cellsP fun _ => false) 115)).setRow w1.heap.size (cellsP f) = U at X1 E1 ⊢; generalize w1.heap.size = X at X1 ⊢; have x0 := X1.out.partAt (i := W8) hlt8; have zX := X1.out.lt))
      go_ret
      exact ⟨f W8, rfl, FE.out, E1.out⟩
    · obtain ⟨i, rfl⟩ : ∃ i, a = i + 1 := ⟨a - 1, by omega⟩
      have e1 : ((i + 1 : Nat) : Int) - 1 = (i : Int) := by omega
      rw [e1]
      have hlt : i < s.size := by omega
      obtain ⟨T2, hT2⟩ := ALL.out i (by omega)
      have hRl : R.length ≤ 23 := by have h1 := suf_len SU.out; have h2 := stack_len ST.out; omega
      have cr : Calls Try.prog 63 #[.pointer (some ⟨w.heap.size, 0, none⟩), .int .u8 (s[i].toNat : Int), .string word, .int .i64 (W8 : Int)] wr (ReadPost2 s (Flow.nats word) i w.heap.size w.heap.size wr) := by
        rw [Flow.bt_at hlt]
        exact crd i w.heap.size w.heap.size R T2 T wr hlt hT2 SU.out ST.out hRl hzw SK.out
      have hI0 : (0 : Int) ≤ (i : Int) := by omega
      have hI1 : (i : Int) < (s.size : Int) := by omega
      clear crd cw hRl hT2
      go_wp2_with (first
        | (go_at_call 63; refine cr.mono ?_; rintro e w1 ⟨f, R2, T3, rfl, hf, hR2, hT3, hl2, hs2, hb2⟩; obtain ⟨v1, v2, v3⟩ := stk_var hs2 (HW.out.trans hb2) (by have := hb2.size; omega) f; have S1 : Hid (Stk ((w1.alloc (.cells (cellsP fun _ => false) 115)).setRow w1.heap.size (cellsP f)) w.heap.size w.heap.size R2.reverse) := v1; have E1 : Hid (Below w.heap.size w ((w1.alloc (.cells (cellsP fun _ => false) 115)).setRow w1.heap.size (cellsP f))) := v2; have X1 : Hid (Blk ((w1.alloc (.cells (cellsP fun _ => false) 115)).setRow w1.heap.size (cellsP f)) w1.heap.size (cellsP f) 115) := v3; have Y1 : Hid (Blk (w1.alloc (.cells (cellsP fun _ => false) 115)) w1.heap.size (cellsP fun _ => false) 115) := Blk.new _ _ _; have SU2 : Hid (SufAt s i (i :: T3)) := hT3; have ST2 : Hid (StackIs s (Flow.nats word) (f :: R2) (i :: T3)) := ⟨hf, hR2⟩; clear v1 v2 v3 hf hR2 hT3 hs2 hb2)
        | (refine wpList_store_row rfl 115 (.tmp 8) _ rfl w1.heap.size (cellsP f) rfl rfl 115 _ Y1.out (sizePS f) (by rw [cellsP_size, cellsP_size]) (cellsP_one f) ?_; clear Y1; generalize (w1.alloc (.cells (cellsP fun _ => false) 115)).setRow w1.heap.size (cellsP f) = U at S1 X1 E1 ⊢; generalize w1.heap.size = X at X1 ⊢)
        | (refine wpList_load_row rfl 115 (.tmp 8) rfl X rfl 115 (cellsP f) (0, 0) _ X1.out Try.underlying115 rfl (sizePS f) ?_)
        | (go_at_call 64; refine (push_any f R2.reverse w.heap.size w.heap.size U (by simp; omega) E1.out.size S1.out).mono ?_; rintro e w3 ⟨rfl, hs3, hb3⟩; have S3 : Hid (Stk w3 w.heap.size w.heap.size (f :: R2).reverse) := (by show Stk _ _ _ _; rw [List.reverse_cons]; exact hs3); have E3 : Hid (Below w.heap.size w w3) := E1.out.trans hb3; clear hs3 hb3))
      all_goals go_roundw
      all_goals (first | (simp [intOf]; omega) | (simp [intOf]; done) | exact ⟨i, f :: R2, i :: T3, by omega, rfl, SU2, ST2, S3, E3⟩)

/-- how many processes stand behind a sign -/
def Flow.arity (c : Nat) : Int := if c = 46 ∨ c = 43 ∨ c = 38 then 2 else if c = 42 then 1 else if Flow.isTk c = true then 0 else -1
theorem partsBehind_any (c : Nat) (w : World) : Calls Try.prog 41 #[.int .u8 c] w fun e w' => e = .returned (.int .i64 (Flow.arity c)) ∧ w = w' := by
  have ci : ∀ W, Calls Try.prog 61 #[.int .u8 c] W fun e w' => e = .returned (.bool (Flow.isTk c)) ∧ W = w' := fun W => (isLetter_any c W).mono fun e w' h => ⟨h.1, h.2.symm⟩
  by_cases h1 : c = 46 ∨ c = 43 ∨ c = 38
  · have R : Hid (Flow.arity c = 2) := if_pos h1
    rcases h1 with rfl | rfl | rfl
    all_goals
      go_enter Try.func41, Try.ntmps41
      go_wp2
      go_ret
      exact ⟨by rw [R.out]; rfl, rfl⟩
  · by_cases h2 : c = 42
    · subst h2
      go_enter Try.func41, Try.ntmps41
      go_wp2
      go_ret
      exact ⟨rfl, rfl⟩
    · have t1 : ((c : Int) == 46) = false := by simp; omega
      have t2 : ((c : Int) == 43) = false := by simp; omega
      have t3 : ((c : Int) == 38) = false := by simp; omega
      have t4 : ((c : Int) == 42) = false := by simp; omega
      cases h3 : Flow.isTk c with
      | true =>
        have R : Hid (Flow.arity c = 0) := by show _ = _; unfold Flow.arity; rw [if_neg h1, if_neg h2, if_pos h3]
        rw [h3] at ci
        clear h1 h2 h3
        go_enter Try.func41, Try.ntmps41
        go_wp2_with (go_at_call 61; refine (ci _).mono ?_; rintro e w' ⟨rfl, rfl⟩)
        go_ret
        exact ⟨by rw [R.out]; rfl, rfl⟩
      | false =>
        have R : Hid (Flow.arity c = -1) := by show _ = _; unfold Flow.arity; rw [if_neg h1, if_neg h2, if_neg (by rw [h3]; simp)]
        rw [h3] at ci
        clear h1 h2 h3
        go_enter Try.func41, Try.ntmps41
        go_wp2_with (go_at_call 61; refine (ci _).mono ?_; rintro e w' ⟨rfl, rfl⟩)
        go_ret
        exact ⟨by rw [R.out]; rfl, rfl⟩

/-- so many processes from i on: where that ends, and whether they are there -/
def Flow.scanMany (s : ByteArray) : Nat → Nat → Nat × Bool
  | 0, i => (i, true)
  | m + 1, i => if (Flow.scan s i).2.2 = true then Flow.scanMany s m (Flow.scan s i).1 else ((Flow.scan s i).1, false)
theorem many_one (s : ByteArray) : Flow.scanMany s 1 0 = ((Flow.scan s 0).1, (Flow.scan s 0).2.2) := by
  show (if _ then _ else _) = _
  cases h : (Flow.scan s 0).2.2 with
  | true => rw [if_pos rfl]; rfl
  | false => rw [if_neg (by simp)]
theorem many_bad {s : ByteArray} {m i : Nat} (h : i < s.size) (hc : Flow.arity (Flow.bt s i) < 0) : Flow.scanMany s (m + 1) i = (i, false) := by
  have h1 : ¬ (Flow.bt s i = 46 ∨ Flow.bt s i = 43 ∨ Flow.bt s i = 38) := fun x => by unfold Flow.arity at hc; rw [if_pos x] at hc; omega
  have h2 : ¬ Flow.bt s i = 42 := fun x => by unfold Flow.arity at hc; rw [if_neg h1, if_pos x] at hc; omega
  have h3 : ¬ Flow.isTk (Flow.bt s i) = true := fun x => by unfold Flow.arity at hc; rw [if_neg h1, if_neg h2, if_pos x] at hc; omega
  have E : Flow.scan s i = (i, 0, false) := by rw [Flow.scan_eq, if_neg (by omega), if_neg h3, if_neg h2, if_neg h1]
  show (if _ then _ else _) = _
  rw [E, if_neg (by simp)]
theorem manyEnd {s : ByteArray} {m : Nat} : Flow.scanMany s (m + 1) s.size = (s.size, false) := by
  have E : Flow.scan s s.size = (s.size, 0, false) := by rw [Flow.scan_eq, if_pos (Nat.le_refl _)]
  show (if _ then _ else _) = _
  rw [E, if_neg (by simp)]
theorem many_step {s : ByteArray} {m i p : Nat} (h : i < s.size) (hc : Flow.arity (Flow.bt s i) = (p : Int)) : Flow.scanMany s (m + 1) i = Flow.scanMany s (m + p) (i + 1) := by
  have E := Flow.scan_eq s i
  rw [if_neg (by omega)] at E
  unfold Flow.arity at hc
  by_cases h1 : Flow.bt s i = 46 ∨ Flow.bt s i = 43 ∨ Flow.bt s i = 38
  · rw [if_pos h1] at hc
    have hp : p = 2 := by omega
    subst hp
    rw [if_neg (Flow.isTk_no (.inr h1)), if_neg (by omega), if_pos h1] at E
    show (if _ then _ else _) = (if _ then (if _ then _ else _) else _)
    by_cases h3 : (Flow.scan s (i + 1)).2.2 = true
    · rw [if_pos h3] at E
      rw [if_pos h3]
      by_cases h4 : (Flow.scan s (Flow.scan s (i + 1)).1).2.2 = true
      · rw [if_pos h4] at E; rw [if_pos h4, E, if_pos rfl]
      · rw [if_neg h4] at E; rw [if_neg h4, E, if_neg (by simp)]
    · rw [if_neg h3] at E; rw [if_neg h3, E, if_neg (by simp)]
  · rw [if_neg h1] at hc
    by_cases h2 : Flow.bt s i = 42
    · rw [if_pos h2] at hc
      have hp : p = 1 := by omega
      subst hp
      rw [if_neg (Flow.isTk_no (.inl h2)), if_pos h2] at E
      show (if _ then _ else _) = (if _ then _ else _)
      by_cases h3 : (Flow.scan s (i + 1)).2.2 = true
      · rw [if_pos h3] at E; rw [if_pos h3, E, if_pos rfl]
      · rw [if_neg h3] at E; rw [if_neg h3, E, if_neg (by simp)]
    · rw [if_neg h2] at hc
      by_cases h3 : Flow.isTk (Flow.bt s i) = true
      · rw [if_pos h3] at hc
        have hp : p = 0 := by omega
        subst hp
        rw [if_pos h3] at E
        show (if _ then _ else _) = _
        rw [E, if_pos rfl]; rfl
      · rw [if_neg h3] at hc; omega
theorem nodes_eq {s : ByteArray} {i : Nat} (h : (Flow.scan s i).2.2 = true) : (Flow.scan s i).2.1 + i = (Flow.scan s i).1 := by
  induction n : s.size - i using Nat.strongRecOn generalizing i with
  | ind n ih =>
    obtain ⟨hi, hc⟩ := Flow.scan_char h
    rcases hc with hc | hc | hc
    · rw [Flow.scan_eq, if_neg (by omega), if_pos hc]; show 1 + i = i + 1; omega
    · obtain ⟨h1, h2, h3⟩ := Flow.scan_one h hc
      have := ih (s.size - (i + 1)) (by omega) h1 rfl
      omega
    · obtain ⟨h1, h2, h3, h4⟩ := Flow.scan_two h hc
      have g1 := ih (s.size - (i + 1)) (by omega) h1 rfl
      have g0 := Flow.scan_ge s (i + 1)
      have g2 := ih (s.size - (Flow.scan s (i + 1)).1) (by omega) h2 rfl
      omega
theorem read_no {s : ByteArray} {j : Nat} {b : Bool} (hs : ¬ 24 < s.size) (h : ((Flow.scan s 0).1, (Flow.scan s 0).2.2) = (j, b)) (hb : b = false ∨ j < s.size) : Flow.readE s = 9 ∧ Flow.readP s = j := by
  injection h with h1 h2
  have hx : (Flow.scan s 0).2.2 = false ∨ (Flow.scan s 0).1 < s.size := by
    rcases hb with hb | hb
    · exact .inl (by rw [h2, hb])
    · exact .inr (by rw [h1]; exact hb)
  exact ⟨by unfold Flow.readE; rw [if_neg hs, if_pos hx], by unfold Flow.readP; rw [if_neg hs, if_pos hx, h1]⟩
theorem read_yes {s : ByteArray} (hs : ¬ 24 < s.size) (h : ((Flow.scan s 0).1, (Flow.scan s 0).2.2) = (s.size, true)) : Flow.readE s = (if 8 < s.size then 10 else 0) ∧ Flow.readP s = 0 := by
  injection h with h1 h2
  have hx : ¬ ((Flow.scan s 0).2.2 = false ∨ (Flow.scan s 0).1 < s.size) := by
    rintro (x | x)
    · rw [h2] at x; cases x
    · omega
  have hn := nodes_eq h2
  have e : (Flow.scan s 0).2.1 = s.size := by omega
  exact ⟨by unfold Flow.readE; rw [if_neg hs, if_neg hx, e], by unfold Flow.readP; rw [if_neg hs, if_neg hx]⟩

set_option maxHeartbeats 1000000 in
theorem readProcess_any (s : ByteArray) (w : World) (hs : s.size ≤ maxLen) : Calls Try.prog 19 #[.string s] w fun e w' => e = .returned (.tuple #[.int .i64 (Flow.readE s), .int .i64 (Flow.readP s)]) ∧ w = w' := by
  unfold maxLen at hs
  by_cases h24 : 24 < s.size
  · have R : Hid (Flow.readE s = 1 ∧ Flow.readP s = 0) := ⟨by unfold Flow.readE; rw [if_pos h24], by unfold Flow.readP; rw [if_pos h24]⟩
    go_enter Try.func19, Try.ntmps19
    go_wp2
    go_ret2
    exact ⟨by rw [R.out.1, R.out.2]; rfl, rfl⟩
  · have H24 : Hid (¬ 24 < s.size) := h24
    have ONE : Hid (Flow.scanMany s 1 0 = ((Flow.scan s 0).1, (Flow.scan s 0).2.2)) := many_one s
    have h24' : s.size ≤ 24 := by omega
    go_enter Try.func19, Try.ntmps19
    go_wp2
    go_loop [4, 5] (fun m' i' => ∃ (m i : Nat), i ≤ s.size ∧ m ≤ i + 1 ∧ i' = .int .i64 i ∧ m' = .int .i64 m ∧ Hid (Flow.scanMany s m i = Flow.scanMany s 1 0)) (fun _ i' => s.size - (intOf i').toNat)
    case atStart => exact ⟨1, 0, by omega, by omega, rfl, rfl, rfl⟩
    case round =>
      obtain ⟨m, i, hi, hm, rfl, rfl, SM⟩ := hrel
      by_cases hlt : i < s.size
      · have cb : ∀ W, Calls Try.prog 41 #[.int .u8 (s[i].toNat : Int)] W fun e w' => e = .returned (.int .i64 (Flow.arity (Flow.bt s i))) ∧ W = w' := fun W => by rw [Flow.bt_at hlt]; exact partsBehind_any _ W
        have hI0 : (0 : Int) ≤ (i : Int) := by omega
        have hI1 : (i : Int) < (s.size : Int) := by omega
        by_cases hm0 : m = 0
        · subst hm0
          have R : Hid (Flow.readE s = 9 ∧ Flow.readP s = i) := read_no H24.out (by rw [← ONE.out, ← SM.out]; rfl) (.inr hlt)
          go_wp2_with (go_at_call 41; refine (cb _).mono ?_; rintro e w' ⟨rfl, rfl⟩)
          all_goals go_ret2
          all_goals exact ⟨by rw [R.out.1, R.out.2]; rfl, rfl⟩
        · obtain ⟨m1, rfl⟩ : ∃ m1, m = m1 + 1 := ⟨m - 1, by omega⟩
          have tm : ((m1 : Int) + 1 == 0) = false := by simp; omega
          by_cases hneg : Flow.arity (Flow.bt s i) < 0
          · have R : Hid (Flow.readE s = 9 ∧ Flow.readP s = i) := read_no H24.out (by rw [← ONE.out, ← SM.out, many_bad hlt hneg]) (.inl rfl)
            generalize Flow.arity (Flow.bt s i) = ar at cb hneg
            go_wp2_with (go_at_call 41; refine (cb _).mono ?_; rintro e w' ⟨rfl, rfl⟩)
            all_goals go_ret2
            all_goals exact ⟨by rw [R.out.1, R.out.2]; rfl, rfl⟩
          · obtain ⟨p, hp⟩ : ∃ p : Nat, Flow.arity (Flow.bt s i) = (p : Int) := ⟨(Flow.arity (Flow.bt s i)).toNat, by omega⟩
            have hp2 : p ≤ 2 := by
              unfold Flow.arity at hp
              split at hp
              · omega
              · split at hp
                · omega
                · split at hp <;> omega
            have NX : Hid (Flow.scanMany s (m1 + p) (i + 1) = Flow.scanMany s 1 0) := by show _ = _; rw [← many_step hlt hp]; exact SM.out
            rw [hp] at cb
            have tp : decide ((p : Int) < 0) = false := decide_eq_false (by omega)
            clear hp hneg hm0
            go_wp2_with (go_at_call 41; refine (cb _).mono ?_; rintro e w' ⟨rfl, rfl⟩)
            go_round
            case rel => exact ⟨m1 + p, i + 1, by omega, by omega, by go_num, by go_num, NX⟩
            case measure => simp [intOf]; omega
      · obtain rfl : i = s.size := by omega
        by_cases hm0 : m = 0
        · subst hm0
          have R : Hid (Flow.readE s = (if 8 < s.size then 10 else 0) ∧ Flow.readP s = 0) := read_yes H24.out (by rw [← ONE.out, ← SM.out]; rfl)
          by_cases h8 : 8 < s.size
          · go_wp2
            go_ret2
            exact ⟨by rw [R.out.1, R.out.2, if_pos h8]; rfl, rfl⟩
          · go_wp2
            go_ret2
            exact ⟨by rw [R.out.1, R.out.2, if_neg h8]; rfl, rfl⟩
        · obtain ⟨m1, rfl⟩ : ∃ m1, m = m1 + 1 := ⟨m - 1, by omega⟩
          have R : Hid (Flow.readE s = 9 ∧ Flow.readP s = s.size) := read_no H24.out (by rw [← ONE.out, ← SM.out, manyEnd]) (.inl rfl)
          go_wp2
          go_ret2
          exact ⟨by rw [R.out.1, R.out.2]; rfl, rfl⟩
end Go.Proofs.Ytdlldljgogbiaab
