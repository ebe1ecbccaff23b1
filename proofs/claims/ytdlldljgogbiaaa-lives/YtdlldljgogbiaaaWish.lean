/-
  What the answers of Judge, Finish and Enable say of every run that is wished for: plain.
-/
import Derived.Test.YtdlldljgogbiaaaEndedR
import Derived.Laws.Cover1
namespace Go.Proofs.Ytdlldljgogbiaaa
open Go.RowKit

theorem sgn_lt {j k : Nat} (hj : j < 16) (hk : k < 16) (h : j < k) : Flow.sgn j < Flow.sgn k := by
  rw [UInt8.lt_iff_toNat_lt, (sgn_num hj).1, (sgn_num hk).1]
  split <;> split <;> omega
/-- not above, as Go compares texts -/
def Flow.leB (a b : ByteArray) : Prop := (Op.bytesLess a.toList b.toList || a.toList == b.toList) = true
theorem lex_bytes {a b : List Nat} (ha : ∀ k ∈ a, k < 16) (hb : ∀ k ∈ b, k < 16) (h : Flow.lexLe a b) (hl : a.length = b.length) : (Op.bytesLess (Flow.signs a) (Flow.signs b) || Flow.signs a == Flow.signs b) = true := by
  induction a generalizing b with
  | nil =>
    cases b with
    | nil => rfl
    | cons y b => simp at hl
  | cons x a ih =>
    cases b with
    | nil => simp at hl
    | cons y b =>
      have e1 : Flow.signs (x :: a) = Flow.sgn x :: Flow.signs a := rfl
      have e2 : Flow.signs (y :: b) = Flow.sgn y :: Flow.signs b := rfl
      rw [e1, e2]
      rcases h with h | ⟨rfl, h⟩
      · have := sgn_lt (ha x (by simp)) (hb y (by simp)) h
        simp [Op.bytesLess, this]
      · have := ih (fun k hk => ha k (by simp [hk])) (fun k hk => hb k (by simp [hk])) h (by simpa using hl)
        simp only [Bool.or_eq_true, beq_iff_eq] at this
        rcases this with this | this
        · simp [Op.bytesLess, this]
        · simp [this]
theorem runOf_toList (ks : List Nat) : (Flow.runOf ks).toList = Flow.signs ks := by unfold Flow.runOf; rw [ByteArray.toList_mk]
/-- shorter, or as long and not above: of the texts -/
theorem first_text {a b : List Nat} (ha : ∀ k ∈ a, k < 16) (hb : ∀ k ∈ b, k < 16) (h : Flow.firstLe a b) : (Flow.runOf a).size < (Flow.runOf b).size ∨ ((Flow.runOf a).size = (Flow.runOf b).size ∧ Flow.leB (Flow.runOf a) (Flow.runOf b)) := by
  rw [runOf_size, runOf_size]
  rcases h with h | ⟨h1, h2⟩
  · exact .inl h
  · refine .inr ⟨h1, ?_⟩
    unfold Flow.leB
    rw [runOf_toList, runOf_toList]
    exact lex_bytes ha hb h2 h1

theorem goes_16 {ts : List Flow.Tr} (hts : ts.length ≤ 16) {m m' : Nat} {ks : List Nat} (h : Flow.goes ts m ks = some m') : ∀ k ∈ ks, k < 16 := fun k hk => by have := goes_lt h k hk; omega
theorem goes_join {ts : List Flow.Tr} {m m1 m2 : Nat} {a b : List Nat} (h : Flow.goes ts m a = some m1) (g : Flow.goes ts m1 b = some m2) : Flow.goes ts m (a ++ b) = some m2 := by
  rw [Flow.goes_append, h]; exact g
theorem played_at {s : ByteArray} {ks : List Nat} {m : Nat} (h : Flow.goes (Flow.readTr s) (Flow.first s) ks = some m) : (Flow.played s (Flow.runOf ks)).2.1 = 0 ∧ (Flow.played s (Flow.runOf ks)).1 = m := played_goes.2 ⟨ks, rfl, h⟩
theorem fire_at {s : ByteArray} {ks : List Nat} {m : Nat} (hc : Flow.checkErr s = 0) (hl : ks.length ≤ 65536) (h : Flow.goes (Flow.readTr s) (Flow.first s) ks = some m) : Flow.fireE s (Flow.runOf ks) = 0 := fire_run.2 ⟨by rw [runOf_size]; exact hl, hc, ks, m, rfl, h⟩

theorem last_sign (js : List Nat) (k : Nat) : (Flow.runOf (js ++ [k])).extract js.length (js.length + 1) = Flow.runOf [k] := by
  have hlt : js.length < (Flow.runOf (js ++ [k])).size := by rw [runOf_size]; simp
  rw [extract_one _ _ hlt]
  have hd : (Flow.runOf (js ++ [k])).data.toList.drop js.length = [Flow.sgn k] := by
    show (Flow.signs (js ++ [k])).drop js.length = _
    rw [signs_append, List.drop_append_of_le_length (by rw [signs_len]; omega), List.drop_of_length_le (by rw [signs_len]; omega)]
    rfl
  rw [drop_at _ hlt] at hd
  injection hd with hd _
  rw [hd]; rfl
/-- a run of a text and something behind it, split -/
theorem run_split {ts : List Flow.Tr} (hts : ts.length ≤ 16) {m m1 m2 : Nat} {ks js : List Nat} {w : ByteArray} (h : Flow.goes ts m ks = some m1) (g : Flow.goes ts m js = some m2) (e : Flow.runOf js = Flow.runOf ks ++ w) : ∃ is, js = ks ++ is ∧ Flow.runOf is = w ∧ Flow.goes ts m1 is = some m2 := by
  have e1 : Flow.signs js = Flow.signs ks ++ w.data.toList := by
    have := congrArg (fun x => x.data.toList) e
    simpa [Flow.runOf] using this
  have hlen : ks.length ≤ js.length := by
    have := congrArg List.length e1
    rw [signs_len, List.length_append, signs_len] at this
    omega
  have e2 : Flow.signs (js.take ks.length) = Flow.signs ks := by
    have h1 : Flow.signs (js.take ks.length) = (Flow.signs js).take ks.length := by unfold Flow.signs; rw [List.map_take]
    rw [h1, e1, List.take_append_of_le_length (by rw [signs_len]; omega), List.take_of_length_le (by rw [signs_len]; omega)]
  have hj := goes_16 hts g
  have e3 : js.take ks.length = ks := signs_inj (fun k hk => hj k (List.mem_of_mem_take hk)) (goes_16 hts h) e2
  have e4 : js = ks ++ js.drop ks.length := by
    have := List.take_append_drop ks.length js
    rw [e3] at this; exact this.symm
  refine ⟨js.drop ks.length, e4, ?_, ?_⟩
  · apply runOf_iff.1
    have := e1
    rw [e4, signs_append] at this
    exact List.append_cancel_left this
  · rw [e4, Flow.goes_append, h] at g
    exact g

theorem last_small {s : ByteArray} (hc : Flow.checkErr s = 0) : Flow.last s < 65536 := by
  obtain ⟨_, _, _, hp1⟩ := checkErr_ok hc
  have := Flow.isPl_iff.1 hp1
  unfold Flow.last
  have h1 : (2 : Nat) ^ (Flow.bt s 1 - 65) ≤ 2 ^ 15 := Nat.pow_le_pow_right (by omega) (by omega)
  have h2 : (2 : Nat) ^ 15 = 32768 := by decide
  omega

/-- where the judge says Sound: no run spills, none has the end and more, each can end -/
theorem sound_all {s : ByteArray} {v : Nat} {t : ByteArray} (h : Flow.JudgeA s v t 0) (hv : v = 1) {ks : List Nat} {m : Nat} (hg : Flow.goes (Flow.readTr s) (Flow.first s) ks = some m) : (∀ k, ¬ Flow.spillM (Flow.readTr s) m k) ∧ ¬ Flow.Improper (Flow.last s) m ∧ Flow.CanEnd (Flow.readTr s) (Flow.last s) m := by
  subst hv
  rcases h with ⟨a, h1, _⟩ | ⟨a, _, l, hb, hj⟩
  · omega
  · obtain ⟨j, x, hx, rfl, _⟩ := hb.complete (readTr_size s) ks m hg
    have hjl := (List.getElem?_eq_some_iff.1 hx).1
    rcases hj with ⟨_, h⟩ | ⟨n1, hj⟩
    · omega
    · rcases hj with ⟨_, _, _, _, _, h, _⟩ | ⟨n2, hj⟩
      · omega
      · rcases hj with ⟨_, _, _, _, _, h, _⟩ | ⟨n3, hj⟩
        · omega
        · exact ⟨fun k => n1 j k x hx (.inl hjl), n2 j x hjl hx, n3 j x hjl hx⟩
/-- the verdicts -/
theorem judge_range {s : ByteArray} {v e : Nat} {t : ByteArray} (h : Flow.JudgeA s v t e) : e ≠ 0 ∨ (e = 0 ∧ v = 1) ∨ (e = 0 ∧ 2 ≤ v ∧ v ≤ 5) := by
  rcases h with ⟨a, _, _, h⟩ | ⟨_, h0, l, _, hj⟩
  · exact .inl (by omega)
  · right
    rcases hj with ⟨_, h⟩ | ⟨_, hj⟩
    · omega
    · rcases hj with ⟨_, _, _, _, _, h, _⟩ | ⟨_, hj⟩
      · omega
      · rcases hj with ⟨_, _, _, _, _, h, _⟩ | ⟨_, hj⟩
        · omega
        · rcases hj with ⟨_, _, _, _, h, _⟩ | ⟨_, h, _⟩ <;> omega
theorem judge_err {s : ByteArray} {v e : Nat} {t : ByteArray} (h : Flow.JudgeA s v t e) : e = Flow.checkErr s := by
  rcases h with ⟨_, _, _, h⟩ | ⟨a, h, _⟩
  · exact h
  · rw [h, a]

/-- what Finish tells, of every run and every wish to go on -/
theorem finish_says {s run t : ByteArray} {e : Nat} (hE : Flow.fireE s run = 0) (h : Flow.FinishA s run t e) :
    (e = 0 ∧ Flow.EndsBy s (run ++ t) ∧ t.size ≤ 65536 ∧ ∀ w, Flow.EndsBy s (run ++ w) → t.size < w.size ∨ (t.size = w.size ∧ Flow.leB t w)) ∨
    (e = 7 ∧ t = ⟨#[]⟩ ∧ ∀ w, ¬ Flow.EndsBy s (run ++ w)) := by
  obtain ⟨hsz, hc, ks, m, rfl, hg⟩ := fire_run.1 hE
  have hp := (played_at hg).2
  have h16 := readTr_size s
  rcases h with ⟨a, _⟩ | ⟨_, l, hb, h⟩
  · exact absurd hE a
  · rw [hp] at hb
    have split : ∀ w, Flow.EndsBy s (Flow.runOf ks ++ w) → ∃ is, Flow.runOf is = w ∧ Flow.goes (Flow.readTr s) m is = some (Flow.last s) := by
      rintro w ⟨js, h1, h2⟩
      obtain ⟨is, _, h3, h4⟩ := run_split h16 hg h2 h1
      exact ⟨is, h3, h4⟩
    rcases h with ⟨i, n, hi, hn, ht, he⟩ | ⟨hno, ht, he⟩
    · left
      have hil := (List.getElem?_eq_some_iff.1 hi).1
      have hkg := Flow.key_goes hb i n hi
      rw [hn] at hkg
      have hkl := Flow.key_len hb i hil
      have h65 := hb.size
      refine ⟨he, ⟨ks ++ Flow.key l i, by rw [ht, runOf_append], goes_join hg hkg⟩, by rw [ht, runOf_size]; omega, ?_⟩
      intro w hw
      obtain ⟨is, rfl, h4⟩ := split w hw
      obtain ⟨j, x, hj, hx, hle⟩ := hb.complete h16 is _ h4
      have := hb.once i j n x hi hj (by rw [hn, hx])
      subst this
      rw [ht]
      exact first_text (Flow.key_lt hb i hil) (goes_16 h16 h4) hle
    · right
      refine ⟨he, ht, ?_⟩
      intro w hw
      obtain ⟨is, rfl, h4⟩ := split w hw
      obtain ⟨j, x, hj, hx, _⟩ := hb.complete h16 is _ h4
      exact hno j x hj hx
/-- what Finish tells behind a run that can end -/
theorem finish_can {s run t : ByteArray} {e m : Nat} {ks : List Nat} (hr : Flow.runOf ks = run) (hl : ks.length ≤ 65536) (hc : Flow.checkErr s = 0) (hg : Flow.goes (Flow.readTr s) (Flow.first s) ks = some m) (hcan : Flow.CanEnd (Flow.readTr s) (Flow.last s) m) (h : Flow.FinishA s run t e) : e = 0 ∧ Flow.EndsBy s (run ++ t) ∧ t.size ≤ 65536 := by
  subst hr
  rcases finish_says (fire_at hc hl hg) h with ⟨a, b, c, _⟩ | ⟨_, _, hno⟩
  · exact ⟨a, b, c⟩
  · obtain ⟨js, hjs⟩ := hcan
    exact absurd ⟨ks ++ js, (runOf_append ks js).symm, goes_join hg hjs⟩ (hno (Flow.runOf js))

/-- what Enable tells, of every run -/
theorem enable_says {s step t : ByteArray} {e : Nat} (hc : Flow.checkErr s = 0) (h1 : step.size = 1) (hk : Flow.num (Flow.bt step 0) < (Flow.readTr s).length) (h : Flow.EnableA s step t e) :
    (e = 0 ∧ (∃ js m, t = Flow.runOf (js ++ [Flow.num (Flow.bt step 0)]) ∧ js.length + 1 ≤ 65536 ∧ Flow.goes (Flow.readTr s) (Flow.first s) (js ++ [Flow.num (Flow.bt step 0)]) = some m ∧
      ∀ is m', Flow.goes (Flow.readTr s) (Flow.first s) (is ++ [Flow.num (Flow.bt step 0)]) = some m' → t.size < is.length + 1 ∨ (t.size = is.length + 1 ∧ Flow.leB t (Flow.runOf (is ++ [Flow.num (Flow.bt step 0)]))))) ∨
    (e = 7 ∧ t = ⟨#[]⟩ ∧ ∀ is m', Flow.goes (Flow.readTr s) (Flow.first s) (is ++ [Flow.num (Flow.bt step 0)]) ≠ some m') := by
  have h16 := readTr_size s
  have long : ¬ 65536 < step.size := by omega
  rcases h with ⟨a, _⟩ | ⟨_, a, _⟩ | ⟨_, _, a, _⟩ | ⟨_, _, _, l, ok, hb, hby, he⟩
  · exact absurd a long
  · exact absurd hc a
  · exact absurd ⟨h1, hk⟩ a
  · obtain ⟨k, ek⟩ : ∃ k, k = Flow.num (Flow.bt step 0) := ⟨_, rfl⟩
    rw [← ek] at hk hby ⊢
    have parts : ∀ is m', Flow.goes (Flow.readTr s) (Flow.first s) (is ++ [k]) = some m' → ∃ (j : Nat) (x : Flow.Node), l[j]? = some x ∧ Flow.nextM (Flow.readTr s) x.mark k = some m' ∧ Flow.firstLe (Flow.key l j) is ∧ (∀ q ∈ is, q < 16) := by
      intro is m' hg
      rw [Flow.goes_snoc] at hg
      cases hi : Flow.goes (Flow.readTr s) (Flow.first s) is with
      | none => rw [hi] at hg; cases hg
      | some m1 =>
        rw [hi] at hg
        obtain ⟨j, x, hj, hx, hle⟩ := hb.complete h16 is m1 hi
        exact ⟨j, x, hj, by rw [hx]; exact hg, hle, goes_16 h16 hi⟩
    rcases hby with ⟨i, n, m', hi, hn, hno, ht, hok⟩ | ⟨hno, ht, hok⟩
    · left
      have hil := (List.getElem?_eq_some_iff.1 hi).1
      have hkl := Flow.key_len hb i hil
      have h65 := hb.size
      refine ⟨by rw [he, hok]; rfl, Flow.key l i, m', ht, by omega, by rw [Flow.goes_snoc, Flow.key_goes hb i n hi]; exact hn, ?_⟩
      intro is m2 hg
      obtain ⟨j, x, hj, hx, hle, hq⟩ := parts is m2 hg
      have hij : i ≤ j := by
        rcases Nat.lt_or_ge j i with g | g
        · have := hno j x g hj; rw [hx] at this; cases this
        · exact g
      have hle2 := Flow.firstLe_trans (Flow.key_le hb i j hij (List.getElem?_eq_some_iff.1 hj).1) hle
      have hq2 : ∀ q ∈ is ++ [k], q < 16 := by
        intro q hq'
        rcases List.mem_append.1 hq' with h | h
        · exact hq q h
        · rw [List.mem_singleton.1 h]; omega
      have hq1 : ∀ q ∈ Flow.key l i ++ [k], q < 16 := by
        intro q hq'
        rcases List.mem_append.1 hq' with h | h
        · exact Flow.key_lt hb i hil q h
        · rw [List.mem_singleton.1 h]; omega
      have := first_text hq1 hq2 (Flow.firstLe_snoc hle2 (fun _ => Nat.le_refl k))
      rw [ht]
      rw [runOf_size (is ++ [k]), List.length_append] at this
      exact this
    · right
      refine ⟨by rw [he, hok]; rfl, ht, ?_⟩
      intro is m2 hg
      obtain ⟨j, x, hj, hx, _⟩ := parts is m2 hg
      have := hno j x (List.getElem?_eq_some_iff.1 hj).1 hj
      rw [hx] at this; cases this
/-- Enable never tells OK or ErrNever where it may not -/
theorem enable_bad {s step t : ByteArray} {e : Nat} (hbad : ¬ (Flow.checkErr s = 0 ∧ step.size = 1 ∧ Flow.num (Flow.bt step 0) < (Flow.readTr s).length)) (h : Flow.EnableA s step t e) : e ≠ 0 ∧ e ≠ 7 ∧ t = ⟨#[]⟩ := by
  have hce : Flow.checkErr s ≤ 3 := by unfold Flow.checkErr; split <;> (try split) <;> (try split) <;> omega
  rcases h with ⟨_, h1, h2⟩ | ⟨_, a, h1, h2⟩ | ⟨_, _, _, h1, h2⟩ | ⟨a, b, c, _⟩
  · exact ⟨by omega, by omega, h1⟩
  · exact ⟨by omega, by omega, h1⟩
  · exact ⟨by omega, by omega, h1⟩
  · exact absurd ⟨a, b, c⟩ hbad

/-- steps that go are played -/
theorem steps_run {ts : List Flow.Tr} (hts : ts.length ≤ 16) (run : ByteArray) {ks : List Nat} {rest : List UInt8} {m m' i : Nat} (h : Flow.goes ts m ks = some m') (hd : run.data.toList.drop i = Flow.signs ks ++ rest) : Flow.steps ts m run i = Flow.steps ts m' run (i + ks.length) ∧ run.data.toList.drop (i + ks.length) = rest := by
  induction ks generalizing m i with
  | nil =>
    have : m = m' := by simpa [Flow.goes] using h
    subst this
    exact ⟨rfl, by simpa [Flow.signs] using hd⟩
  | cons k ks ih =>
    have hlt : i < run.size := by
      rcases Nat.lt_or_ge i run.size with g | g
      · exact g
      · have : run.data.toList.drop i = [] := by apply List.drop_eq_nil_of_le; simpa using g
        rw [this] at hd; simp [Flow.signs] at hd
    rw [drop_at run hlt] at hd
    have e0 : Flow.signs (k :: ks) = Flow.sgn k :: Flow.signs ks := rfl
    rw [e0, List.cons_append] at hd
    injection hd with hd1 hd2
    have h' : (match Flow.nextM ts m k with | none => none | some m1 => Flow.goes ts m1 ks) = some m' := h
    cases hx : Flow.nextM ts m k with
    | none => rw [hx] at h'; cases h'
    | some m1 =>
      rw [hx] at h'
      have hk : k < ts.length := by
        rcases Nat.lt_or_ge k ts.length with g | g
        · exact g
        · unfold Flow.nextM at hx; rw [List.getElem?_eq_none g] at hx; cases hx
      have ht := List.getElem?_eq_getElem hk
      have hn : Flow.num (Flow.bt run i) = k := by rw [← Flow.bt_at hlt, hd1]; exact (sgn_num (k := k) (by omega)).2
      rw [nextM_at ht] at hx
      by_cases f : Flow.fireErr ts[k] m = 0
      · rw [if_pos f] at hx
        injection hx with hx
        obtain ⟨i1, i2⟩ := ih h' hd2
        refine ⟨?_, by rw [List.length_cons, show i + (ks.length + 1) = i + 1 + ks.length by omega]; exact i2⟩
        rw [Flow.steps_go hlt (by rw [hn]; exact ht) f, hx, i1, List.length_cons]
        congr 1; omega
      · rw [if_neg f] at hx; cases hx
theorem fire_spills {s : ByteArray} {ks : List Nat} {k m : Nat} (hc : Flow.checkErr s = 0) (hl : ks.length + 1 ≤ 65536) (hg : Flow.goes (Flow.readTr s) (Flow.first s) ks = some m) (hs : Flow.spillM (Flow.readTr s) m k) : Flow.fireE s (Flow.runOf (ks ++ [k])) = 6 ∧ Flow.fireP s (Flow.runOf (ks ++ [k])) = ks.length := by
  have h16 := readTr_size s
  obtain ⟨t, ht, h1, h2⟩ := hs
  have hk := (List.getElem?_eq_some_iff.1 ht).1
  have hd : (Flow.runOf (ks ++ [k])).data.toList.drop 0 = Flow.signs ks ++ [Flow.sgn k] := by
    show (Flow.signs (ks ++ [k])).drop 0 = _
    rw [signs_append]; rfl
  obtain ⟨e1, e2⟩ := steps_run h16 (Flow.runOf (ks ++ [k])) hg hd
  rw [Nat.zero_add] at e1 e2
  have hlt : ks.length < (Flow.runOf (ks ++ [k])).size := by rw [runOf_size]; simp
  rw [drop_at _ hlt] at e2
  injection e2 with e2 _
  have hn : Flow.num (Flow.bt (Flow.runOf (ks ++ [k])) ks.length) = k := by rw [← Flow.bt_at hlt, e2]; exact (sgn_num (k := k) (by omega)).2
  have f : Flow.fireErr t m = 6 := by unfold Flow.fireErr; rw [if_neg (by rw [h1]; simp), if_pos h2]
  have hp : Flow.played s (Flow.runOf (ks ++ [k])) = (0, 6, ks.length) := by
    unfold Flow.played
    rw [e1, Flow.steps_bad hlt (by rw [hn]; exact ht) (by rw [f]; omega), f]
  have hsz : ¬ 65536 < (Flow.runOf (ks ++ [k])).size := by rw [runOf_size]; simp; omega
  constructor
  · unfold Flow.fireE; rw [if_neg hsz, if_neg (fun x => x hc), hp]
  · unfold Flow.fireP; rw [if_neg hsz, if_neg (fun x => x hc), hp, if_pos (by simp)]
/-- what the judge tells shows the verdict -/
theorem shown_all {s : ByteArray} {v : Nat} {t : ByteArray} (h : Flow.JudgeA s v t 0) :
    (v = 1 ∧ t = ⟨#[]⟩) ∨
    (v = 2 ∧ 0 < t.size ∧ t.size ≤ 65536 ∧ Flow.fireE s t = 6 ∧ Flow.fireP s t + 1 = t.size) ∨
    (v = 3 ∧ ∃ ks m, Flow.runOf ks = t ∧ ks.length ≤ 65536 ∧ Flow.goes (Flow.readTr s) (Flow.first s) ks = some m ∧ Flow.Improper (Flow.last s) m) ∨
    (v = 4 ∧ t.size ≤ 65536 ∧ Flow.fireE s t = 0 ∧ ∀ t' e, Flow.FinishA s t t' e → e = 7) ∨
    (v = 5 ∧ t.size = 1 ∧ ∀ t' e, Flow.EnableA s t t' e → e = 7) := by
  rcases h with ⟨a, _, _, h⟩ | ⟨hc, _, l, hb, hj⟩
  · omega
  · have h65 := hb.size
    have h16 := readTr_size s
    rcases hj with ⟨hs, hv⟩ | ⟨_, hj⟩
    · right; left
      rcases hs with ⟨i, k, n, h1, h2, h3, h4, h5, _⟩ | ⟨_, _, h⟩
      · have hil := (List.getElem?_eq_some_iff.1 h1).1
        have hkl := Flow.key_len hb i hil
        obtain ⟨g1, g2⟩ := fire_spills hc (by omega) (Flow.key_goes hb i n h1) h3
        have hsz := runOf_size (Flow.key l i ++ [k])
        simp at hsz
        rw [h5]
        exact ⟨hv, by omega, by omega, g1, by rw [g2, hsz]⟩
      · cases h
    · rcases hj with ⟨i, n, h1, h2, _, hv, ht⟩ | ⟨_, hj⟩
      · right; right; left
        have hil := (List.getElem?_eq_some_iff.1 h1).1
        have hkl := Flow.key_len hb i hil
        exact ⟨hv, Flow.key l i, n.mark, ht.symm, by omega, Flow.key_goes hb i n h1, h2⟩
      · rcases hj with ⟨i, n, h1, h2, _, hv, ht⟩ | ⟨_, hj⟩
        · right; right; right; left
          have hil := (List.getElem?_eq_some_iff.1 h1).1
          have hkl := Flow.key_len hb i hil
          have hg := Flow.key_goes hb i n h1
          have hE : Flow.fireE s t = 0 := by rw [ht]; exact fire_at hc (by omega) hg
          refine ⟨hv, by rw [ht, runOf_size]; omega, hE, ?_⟩
          intro t' e hf
          rcases finish_says hE hf with ⟨_, ⟨js, j1, j2⟩, _⟩ | ⟨he, _⟩
          · rw [ht] at j1
            obtain ⟨is, _, _, h4⟩ := run_split h16 hg j2 j1
            exact absurd ⟨is, h4⟩ h2
          · exact he
        · rcases hj with ⟨k, h1, h2, _, hv, ht⟩ | ⟨_, hv, ht⟩
          · right; right; right; right
            have hsz : t.size = 1 := by rw [ht, runOf_size]; rfl
            refine ⟨hv, hsz, ?_⟩
            intro t' e hf
            have hn : Flow.num (Flow.bt t 0) = k := by
              rw [ht, ← Flow.bt_at (s := Flow.runOf [k]) (k := 0) (by rw [runOf_size]; simp)]
              exact (sgn_num (k := k) (by omega)).2
            rcases enable_says hc hsz (by rw [hn]; exact h1) hf with ⟨_, js, m, _, _, hg, _⟩ | ⟨he, _⟩
            · rw [hn, Flow.goes_snoc] at hg
              cases hi : Flow.goes (Flow.readTr s) (Flow.first s) js with
              | none => rw [hi] at hg; cases hg
              | some m1 =>
                rw [hi] at hg
                obtain ⟨j, x, hj, hx, _⟩ := hb.complete h16 js m1 hi
                have := h2 j x (List.getElem?_eq_some_iff.1 hj).1 hj
                rw [hx] at this
                dsimp only at hg
                rw [this] at hg; cases hg
            · exact he
          · exact .inl ⟨hv, ht⟩
/-- where the judge says Sound, no transition is dead -/
theorem sound_alive {s : ByteArray} {v : Nat} {t : ByteArray} (h : Flow.JudgeA s v t 0) (hv : v = 1) {k : Nat} (hk : k < (Flow.readTr s).length) : ∃ is m, Flow.goes (Flow.readTr s) (Flow.first s) (is ++ [k]) = some m := by
  subst hv
  rcases h with ⟨a, h1, _⟩ | ⟨a, _, l, hb, hj⟩
  · omega
  · rcases hj with ⟨_, h⟩ | ⟨_, hj⟩
    · omega
    · rcases hj with ⟨_, _, _, _, _, h, _⟩ | ⟨_, hj⟩
      · omega
      · rcases hj with ⟨_, _, _, _, _, h, _⟩ | ⟨_, hj⟩
        · omega
        · rcases hj with ⟨_, _, _, _, h, _⟩ | ⟨nd, _⟩
          · omega
          · have hn := nd k hk
            have : ∃ (p : Nat) (n : Flow.Node), l[p]? = some n ∧ Flow.nextM (Flow.readTr s) n.mark k ≠ none := by
              apply Classical.byContradiction
              intro hc
              apply hn
              intro p n _ hp
              apply Classical.byContradiction
              intro hx
              exact hc ⟨p, n, hp, hx⟩
            obtain ⟨p, n, hp, hx⟩ := this
            cases e : Flow.nextM (Flow.readTr s) n.mark k with
            | none => exact absurd e hx
            | some m' => exact ⟨Flow.key l p, m', by rw [Flow.goes_snoc, Flow.key_goes hb p n hp]; exact e⟩
end Go.Proofs.Ytdlldljgogbiaaa
