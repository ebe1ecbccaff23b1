/-
  Laid as one: CompT, Fin.
-/
import Derived.Test.YtdlldljgogbiaabGreatCompM
import Derived.Test.YtdlldljgogbiaabGreatTrans
import Derived.Test.YtdlldljgogbiaabGreatBaseM
import Derived.Test.YtdlldljgogbiaabGreatJudgeR
import Derived.Test.YtdlldljgogbiaabGreatWordM
namespace Go.Proofs.YtdlldljgogbiaabGreat
open Go.RowKit
set_option linter.unusedVariables false

def rawB (r : Raw) : List Nat := 59 :: r.lab :: (r.ins.map (65 + ·) ++ 62 :: r.outs.map (65 + ·))
/-- the bytes of a net -/
def netB (rs : List Raw) : List Nat := 65 :: 66 :: rs.flatMap rawB

/-- from i on the text has these bytes -/
def At (T : ByteArray) (i : Nat) (rest : List Nat) : Prop := i ≤ T.size ∧ (Flow.nats T).drop i = rest
theorem At.cons {T : ByteArray} {i c : Nat} {rest : List Nat} (h : At T i (c :: rest)) : i < T.size ∧ Flow.bt T i = c ∧ At T (i + 1) rest := by
  obtain ⟨h1, h2⟩ := h
  have hl := congrArg List.length h2
  rw [List.length_drop, nats_len] at hl
  simp at hl
  have hlt : i < T.size := by omega
  have hg := nats_get T hlt
  have h3 : (Flow.nats T)[i]? = some c := by
    have : ((Flow.nats T).drop i)[0]? = some c := by rw [h2]; rfl
    rw [List.getElem?_drop] at this
    exact this
  rw [hg] at h3
  injection h3 with h3
  refine ⟨hlt, h3, by omega, ?_⟩
  have : (Flow.nats T).drop (i + 1) = ((Flow.nats T).drop i).drop 1 := by rw [List.drop_drop]
  rw [this, h2]; rfl
theorem At.nil {T : ByteArray} {i : Nat} (h : At T i []) : i = T.size := by
  obtain ⟨h1, h2⟩ := h
  have hl := congrArg List.length h2
  rw [List.length_drop, nats_len] at hl
  simp at hl
  omega
theorem At.app {T : ByteArray} {l rest : List Nat} : ∀ {i : Nat}, At T i (l ++ rest) → At T (i + l.length) rest := by
  induction l with
  | nil => intro i h; exact h
  | cons c l ih =>
    intro i h
    have := ih (At.cons h).2.2
    rw [List.length_cons]
    have e : i + (l.length + 1) = i + 1 + l.length := by omega
    rw [e]; exact this

theorem psum_cons (x : Nat) (l : List Nat) : psum (x :: l) = 2 ^ x + psum l := by simp [psum]
theorem psum_pos {l : List Nat} (h : l ≠ []) : psum l ≠ 0 := by
  cases l with
  | nil => exact absurd rfl h
  | cons x l => rw [psum_cons]; have := Nat.two_pow_pos x; omega
theorem places_at {T : ByteArray} {rest : List Nat} (hr : rest = [] ∨ ∃ c r, rest = c :: r ∧ Flow.isPl c = false) : ∀ (l : List Nat) (i set : Nat), At T i (l.map (65 + ·) ++ rest) → Rises set l → Flow.places T i set = (set + psum l, i + l.length) := by
  intro l
  induction l with
  | nil =>
    intro i set h _
    have e : Flow.places T i set = (set, i) := by
      apply Flow.places_end
      rcases hr with hr | ⟨c, r, hr, hc⟩
      · subst hr
        have := At.nil h
        omega
      · subst hr
        obtain ⟨h1, h2, _⟩ := At.cons (rest := r) h
        intro hx
        rw [h2, hc] at hx
        exact absurd hx.2.1 (by simp)
    rw [e]; rfl
  | cons x l ih =>
    rintro i set h ⟨h1, h2, h3⟩
    obtain ⟨g1, g2, g3⟩ := At.cons h
    replace g2 : Flow.bt T i = 65 + x := g2
    have hp : Flow.isPl (Flow.bt T i) = true := by rw [g2]; exact Flow.isPl_iff.2 ⟨by omega, by omega⟩
    have e : Flow.bt T i - 65 = x := by rw [g2]; omega
    rw [Flow.places_go ⟨g1, hp, by rw [e]; exact h2⟩, e, ih (i + 1) (set + 2 ^ x) g3 h3, psum_cons, List.length_cons]
    rw [Nat.add_assoc set, Nat.add_assoc i, Nat.add_comm 1]
theorem trans_at {T : ByteArray} {a b k k' : Nat} {r : Raw} {rest : List Nat} (ok : RawOk a b k k' r) (hr : rest = [] ∨ ∃ q, rest = 59 :: q) {i : Nat} (h : At T i (r.lab :: (r.ins.map (65 + ·) ++ 62 :: (r.outs.map (65 + ·) ++ rest)))) :
    Flow.trans T i = (toTr r, i + 1 + r.ins.length + 1 + r.outs.length, true) ∧ At T (i + 1 + r.ins.length + 1 + r.outs.length) rest := by
  obtain ⟨g1, g2, g3⟩ := At.cons h
  have e1 := places_at (T := T) (.inr ⟨62, _, rfl, by decide⟩) r.ins (i + 1) 0 g3 ok.ins.1
  have g4 := At.app (l := r.ins.map (65 + ·)) g3
  rw [List.length_map] at g4
  obtain ⟨g5, g6, g7⟩ := At.cons g4
  have e2 := places_at (T := T) (rest := rest) (by
    rcases hr with hr | ⟨q, hr⟩
    · exact .inl hr
    · exact .inr ⟨59, q, hr, by decide⟩) r.outs (i + 1 + r.ins.length + 1) 0 g7 ok.outs.1
  have g8 := At.app (l := r.outs.map (65 + ·)) g7
  rw [List.length_map] at g8
  rw [Nat.zero_add] at e1 e2
  refine ⟨?_, g8⟩
  rw [Flow.trans_all g1 (by rw [g2]; exact ok.lab) e1 e2 (psum_pos ok.ins.2.1) g5 g6, g2, decide_eq_true (psum_pos ok.outs.2.1)]
  rfl
theorem transes_at {T : ByteArray} {a b k k' : Nat} : ∀ (rs : List Raw) (i : Nat) (acc : List Flow.Tr), (∀ r ∈ rs, RawOk a b k k' r) → acc.length + rs.length ≤ 16 → At T i (rs.flatMap rawB) → Flow.transes T i acc = (acc ++ rs.map toTr, T.size, true) := by
  intro rs
  induction rs with
  | nil =>
    intro i acc _ _ h
    have := At.nil h
    subst this
    rw [Flow.transes_end (by omega), List.map_nil, List.append_nil]
  | cons r rs ih =>
    intro i acc ok hl h
    have e : (r :: rs).flatMap rawB = 59 :: (r.lab :: (r.ins.map (65 + ·) ++ 62 :: (r.outs.map (65 + ·) ++ rs.flatMap rawB))) := by
      rw [List.flatMap_cons]; simp [rawB]
    rw [e] at h
    obtain ⟨g1, g2, g3⟩ := At.cons h
    have hrest : rs.flatMap rawB = [] ∨ ∃ q, rs.flatMap rawB = 59 :: q := by
      cases rs with
      | nil => exact .inl rfl
      | cons r' rs' => exact .inr ⟨_, by rw [List.flatMap_cons]; rfl⟩
    obtain ⟨t1, t2⟩ := trans_at (ok r (by simp)) hrest g3
    simp at hl
    rw [Flow.transes_go g1 g2 (by omega) (by rw [t1]), t1, ih _ _ (fun x hx => ok x (by simp [hx])) (by simp; omega) t2]
    simp

theorem shape_ins {T : ByteArray} (h1 : Flow.bt T 1 = 66) {rest : List Nat} : ∀ (l : List Nat) (i : Nat), At T i (l.map (65 + ·) ++ rest) → (∀ x ∈ l, x ≠ 1 ∧ x < 16) → Flow.shape T i false = Flow.shape T (i + l.length) false := by
  intro l
  induction l with
  | nil => intro i _ _; rfl
  | cons x l ih =>
    intro i h hx
    obtain ⟨g1, g2, g3⟩ := At.cons h
    replace g2 : Flow.bt T i = 65 + x := g2
    have hx1 := hx x (by simp)
    have hp : Flow.putsAt (Flow.bt T i) false = false := by unfold Flow.putsAt; rw [g2]; split; omega; split <;> rfl
    rw [Flow.shape_next g1 (by rw [hp, h1, g2]; rintro (⟨q, _⟩ | ⟨_, q⟩); cases q; omega), hp, ih (i + 1) g3 (fun y hy => hx y (by simp [hy])), List.length_cons]
    have e : i + 1 + l.length = i + (l.length + 1) := by omega
    rw [e]
theorem shape_outs {T : ByteArray} (h0 : Flow.bt T 0 = 65) {rest : List Nat} : ∀ (l : List Nat) (i : Nat), At T i (l.map (65 + ·) ++ rest) → (∀ x ∈ l, x ≠ 0 ∧ x < 16) → Flow.shape T i true = Flow.shape T (i + l.length) true := by
  intro l
  induction l with
  | nil => intro i _ _; rfl
  | cons x l ih =>
    intro i h hx
    obtain ⟨g1, g2, g3⟩ := At.cons h
    replace g2 : Flow.bt T i = 65 + x := g2
    have hx1 := hx x (by simp)
    have hp : Flow.putsAt (Flow.bt T i) true = true := by unfold Flow.putsAt; rw [g2]; split; rfl; split; omega; rfl
    rw [Flow.shape_next g1 (by rw [hp, h0, g2]; rintro (⟨_, q⟩ | ⟨q, _⟩); omega; cases q), hp, ih (i + 1) g3 (fun y hy => hx y (by simp [hy])), List.length_cons]
    have e : i + 1 + l.length = i + (l.length + 1) := by omega
    rw [e]
theorem shape_at {T : ByteArray} {k' : Nat} (hk : k' ≤ 16) (h0 : Flow.bt T 0 = 65) (h1 : Flow.bt T 1 = 66) : ∀ (rs : List Raw) (i : Nat) (puts : Bool), (∀ r ∈ rs, RawOk 0 1 2 k' r) → At T i (rs.flatMap rawB) → Flow.shape T i puts = T.size := by
  intro rs
  induction rs with
  | nil =>
    intro i puts _ h
    have := At.nil h
    exact Flow.shape_end (by omega)
  | cons r rs ih =>
    intro i puts ok h
    have e : (r :: rs).flatMap rawB = 59 :: (r.lab :: (r.ins.map (65 + ·) ++ 62 :: (r.outs.map (65 + ·) ++ rs.flatMap rawB))) := by
      rw [List.flatMap_cons]; simp [rawB]
    rw [e] at h
    have o := ok r (by simp)
    obtain ⟨g1, g2, g3⟩ := At.cons h
    have p1 : Flow.putsAt (Flow.bt T i) puts = false := by rw [g2]; rfl
    rw [Flow.shape_next g1 (by rw [p1, h1, g2]; rintro (⟨q, _⟩ | ⟨_, q⟩); cases q; omega), p1]
    obtain ⟨g4, g5, g6⟩ := At.cons g3
    have hl : 97 ≤ r.lab ∧ r.lab ≤ 122 ∨ r.lab = 45 := by
      have := o.lab
      unfold Flow.isLb at this
      rw [Bool.or_eq_true] at this
      rcases this with q | q
      · exact .inl (Flow.isTk_iff.1 q)
      · exact .inr (by simpa using q)
    have p2 : Flow.putsAt (Flow.bt T (i + 1)) false = false := by unfold Flow.putsAt; rw [g5]; split; omega; split <;> rfl
    rw [Flow.shape_next g4 (by rw [p2, h1, g5]; rintro (⟨q, _⟩ | ⟨_, q⟩); cases q; omega), p2]
    rw [shape_ins h1 r.ins (i + 1 + 1) g6 (fun x hx => by have := o.ins.2.2 x hx; omega)]
    have g7 := At.app (l := r.ins.map (65 + ·)) g6
    rw [List.length_map] at g7
    obtain ⟨g8, g9, g10⟩ := At.cons g7
    have p3 : Flow.putsAt (Flow.bt T (i + 1 + 1 + r.ins.length)) false = true := by rw [g9]; rfl
    rw [Flow.shape_next g8 (by rw [p3, h0, g9]; rintro (⟨_, q⟩ | ⟨q, _⟩); omega; cases q), p3]
    rw [shape_outs h0 r.outs _ g10 (fun x hx => by have := o.outs.2.2 x hx; omega)]
    have g11 := At.app (l := r.outs.map (65 + ·)) g10
    rw [List.length_map] at g11
    exact ih _ true (fun x hx => ok x (by simp [hx])) g11
theorem netB_len {a b k k' : Nat} : ∀ (rs : List Raw), (∀ r ∈ rs, RawOk a b k k' r) → (rs.flatMap rawB).length ≤ rs.length * 6 := by
  intro rs
  induction rs with
  | nil => intro _; simp
  | cons r rs ih =>
    intro ok
    have h1 := ih (fun x hx => ok x (by simp [hx]))
    have h2 := (ok r (by simp)).len
    rw [List.flatMap_cons, List.length_append, List.length_cons]
    have : (rawB r).length = 3 + (r.ins.length + r.outs.length) := by simp [rawB]; omega
    omega
/-- the net's text is read as it was meant -/
theorem net_read {T : ByteArray} {rs : List Raw} {k' : Nat} (hT : Flow.nats T = netB rs) (hk : k' ≤ 16) (hl : rs.length ≤ 15) (ok : ∀ r ∈ rs, RawOk 0 1 2 k' r) : Flow.checkErr T = 0 ∧ Flow.readTr T = rs.map toTr ∧ Flow.bt T 0 = 65 ∧ Flow.bt T 1 = 66 := by
  have A0 : At T 0 (netB rs) := ⟨Nat.zero_le _, by rw [List.drop_zero]; exact hT⟩
  obtain ⟨h1, h2, h3⟩ := At.cons A0
  obtain ⟨h4, h5, h6⟩ := At.cons h3
  have hsz : T.size ≤ 160 := by
    have := congrArg List.length hT
    rw [nats_len] at this
    have h7 := netB_len rs ok
    have : (netB rs).length = 2 + (rs.flatMap rawB).length := by simp [netB]; omega
    omega
  have tr := transes_at (T := T) rs 2 [] ok (by simp; omega) h6
  have hh : Flow.headAt T = 2 := head_two (by omega) (by rw [h2]; decide) (by rw [h5]; decide) (by rw [h5, h2]; omega)
  refine ⟨?_, ?_, h2, h5⟩
  · unfold Flow.checkErr
    rw [if_neg (by omega), if_neg (by unfold Flow.readOk; rw [hh, tr]; simp), shape_at hk h2 h5 rs 2 false ok h6, if_neg (by omega)]
  · unfold Flow.readTr; rw [tr]; rfl

theorem next_fires {ts : List Flow.Tr} {m k m' : Nat} (h : Flow.nextM ts m k = some m') : ∃ t, ts[k]? = some t ∧ Fires t m m' := by
  cases e : ts[k]? with
  | none => unfold Flow.nextM at h; rw [e] at h; cases h
  | some t =>
    rw [nextM_at e] at h
    by_cases f : Flow.fireErr t m = 0
    · rw [if_pos f] at h; injection h with h; exact ⟨t, rfl, f, h⟩
    · rw [if_neg f] at h; cases h
theorem fires_next {ts : List Flow.Tr} {m k m' : Nat} {t : Flow.Tr} (h : ts[k]? = some t) (f : Fires t m m') : Flow.nextM ts m k = some m' := by
  rw [nextM_at h, if_pos f.1, f.2]
theorem spelt_cons {ts : List Flow.Tr} {k : Nat} {t : Flow.Tr} (h : ts[k]? = some t) (ks : List Nat) : Flow.spelt ts (k :: ks) = wordT [t] ++ Flow.spelt ts ks := by
  have e : Flow.lab ts k = if t.label = 45 then none else some t.label := by unfold Flow.lab; rw [h]
  unfold Flow.spelt wordT
  rw [List.filterMap_cons, e]
  by_cases g : t.label = 45
  · simp [g]
  · simp [g]
theorem piece_stage {ts : List Flow.Tr} {a b : Nat} {I In : Nat → Prop} {Lg : List Nat → Prop} (P : Piece ts a b I In Lg) (hab : a ≠ b) : ∀ (ks : List Nat) (x m : Nat), Stage In a b x → Flow.goes ts x ks = some m → Stage In a b m := by
  intro ks
  induction ks with
  | nil =>
    intro x m hx h
    have : x = m := by simpa [Flow.goes] using h
    rw [← this]; exact hx
  | cons k ks ih =>
    intro x m hx h
    unfold Flow.goes at h
    cases e : Flow.nextM ts x k with
    | none => rw [e] at h; cases h
    | some x' =>
      rw [e] at h
      obtain ⟨t, h1, h2⟩ := next_fires e
      exact ih x' m (stage_of (Stage.step P hab (List.mem_of_getElem? h1) hx h2).2) h
theorem piece_goes {ts : List Flow.Tr} {a b : Nat} {I In : Nat → Prop} {Lg : List Nat → Prop} (P : Piece ts a b I In Lg) (hab : a ≠ b) : ∀ (ks : List Nat) (x : Nat), Stage In a b x → Flow.goes ts x ks = some (2 ^ b) → ∃ r, Tail ts (Going In a) x r (2 ^ b) ∧ wordT r = Flow.spelt ts ks := by
  intro ks
  induction ks with
  | nil =>
    intro x hx h
    have : x = 2 ^ b := by simpa [Flow.goes] using h
    exact ⟨[], this, rfl⟩
  | cons k ks ih =>
    intro x hx h
    unfold Flow.goes at h
    cases e : Flow.nextM ts x k with
    | none => rw [e] at h; cases h
    | some x' =>
      rw [e] at h
      obtain ⟨t, h1, h2⟩ := next_fires e
      obtain ⟨g1, g2⟩ := Stage.step P hab (List.mem_of_getElem? h1) hx h2
      obtain ⟨r, z1, z2⟩ := ih x' (stage_of g2) h
      exact ⟨t :: r, ⟨List.mem_of_getElem? h1, g1, x', h2, z1⟩, by rw [wordT_cons, z2, spelt_cons h1]⟩
theorem tail_goes {ts : List Flow.Tr} {In : Nat → Prop} : ∀ (r : List Flow.Tr) (x y : Nat), Tail ts In x r y → ∃ ks, Flow.goes ts x ks = some y ∧ Flow.spelt ts ks = wordT r := by
  intro r
  induction r with
  | nil => intro x y h; have : x = y := h; subst this; exact ⟨[], rfl, rfl⟩
  | cons t r ih =>
    rintro x y ⟨h1, h2, x', h3, h4⟩
    obtain ⟨ks, g1, g2⟩ := ih x' y h4
    obtain ⟨k, hk⟩ := List.mem_iff_getElem?.1 h1
    refine ⟨k :: ks, ?_, by rw [spelt_cons hk, g2, wordT_cons t r]⟩
    unfold Flow.goes
    rw [fires_next hk h3]; exact g1
/-- the words of the net are those of the piece -/
theorem piece_spells {ts : List Flow.Tr} {a b : Nat} {I In : Nat → Prop} {Lg : List Nat → Prop} (P : Piece ts a b I In Lg) (hab : a ≠ b) (u : List Nat) : Flow.Spells ts (2 ^ a) u (2 ^ b) ↔ Lg u := by
  rw [← going_words P hab u]
  constructor
  · rintro ⟨ks, h1, h2⟩
    obtain ⟨r, z1, z2⟩ := piece_goes P hab ks _ (.inl (.inl rfl)) h1
    exact ⟨r, z1, by rw [z2, h2]⟩
  · rintro ⟨r, h1, h2⟩
    obtain ⟨ks, z1, z2⟩ := tail_goes r _ _ h1
    exact ⟨ks, z1, by rw [z2, h2]⟩
/-- **a net that is one piece is sound** -/
theorem piece_sound {ts : List Flow.Tr} {a b : Nat} {I In : Nat → Prop} {Lg : List Nat → Prop} (P : Piece ts a b I In Lg) (hab : a ≠ b) (hlen : ts.length ≤ 16) {l : List Flow.Node} {v : Nat} {s : ByteArray} (hb : Flow.Bfs ts (2 ^ a) l) (hj : Flow.JudgeIs ts (2 ^ b) l v s) : v = 1 := by
  have st : ∀ (i : Nat) (n : Flow.Node), l[i]? = some n → Stage In a b n.mark := fun i n hn => piece_stage P hab _ _ _ (.inl (.inl rfl)) (Flow.key_goes hb i n hn)
  have en : ∀ x, Stage In a b x → ∀ t ∈ ts, Flow.enabled t x = true → ∃ x', Fires t x x' := by
    intro x hx t ht he
    rcases hx with (hx | hx) | hx
    · subst hx; obtain ⟨y, h1, _⟩ := P.first t ht he; exact ⟨y, h1⟩
    · obtain ⟨y, h1, _⟩ := P.next t ht x hx he; exact ⟨y, h1⟩
    · subst hx; exact absurd he (P.off ht (fun i hi => by rw [bit_only hi]; exact ⟨fun e => hab e.symm, P.nB⟩))
  rcases hj with ⟨h1, _⟩ | ⟨_, ⟨i, n, h1, h2, _⟩ | ⟨_, ⟨i, n, h1, h2, _⟩ | ⟨_, ⟨k, h1, h2, _⟩ | ⟨_, h, _⟩⟩⟩⟩
  · rcases h1 with ⟨i, k, n, g1, g2, ⟨t, g3, g4, g5⟩, _⟩ | ⟨_, _, h⟩
    · obtain ⟨y, hy⟩ := en _ (st i n g1) t (List.mem_of_getElem? g3) g4
      have := (fireErr_zero hy.1).2
      rw [this] at g5; cases g5
    · cases h
  · obtain ⟨h3, h4⟩ := h2
    rcases st i n h1 with (g | g) | g
    · rw [g] at h3
      exfalso; apply h3
      apply Nat.eq_of_testBit_eq
      intro j
      rw [Nat.testBit_and, Nat.zero_testBit, bit_pow, bit_pow]
      by_cases e : a = j
      · rw [decide_eq_true e, decide_eq_false (by omega)]; rfl
      · rw [decide_eq_false e]; rfl
    · exfalso; apply h3
      apply Nat.eq_of_testBit_eq
      intro j
      rw [Nat.testBit_and, Nat.zero_testBit, bit_pow]
      by_cases e : b = j
      · subst e
        cases hx : n.mark.testBit b with
        | false => rfl
        | true => exact absurd ((P.inn _ g).2.1 b hx) P.nB
      · rw [decide_eq_false e, Bool.and_false]
    · exact absurd g h4
  · obtain ⟨r, hr⟩ := (st i n h1).ends P hab
    obtain ⟨ks, z1, _⟩ := tail_goes r _ _ hr
    exact absurd ⟨ks, z1⟩ h2
  · exfalso
    obtain ⟨t, ht⟩ : ∃ t, ts[k]? = some t := ⟨_, List.getElem?_eq_getElem h1⟩
    have htm := List.mem_of_getElem? ht
    have key : ∀ ks m, Flow.goes ts (2 ^ a) ks = some m → Flow.enabled t m = true → False := by
      intro ks m hg he
      obtain ⟨j, x, hx, e, _⟩ := hb.complete hlen ks m hg
      have hs := st j x hx
      rw [e] at hs
      obtain ⟨y, hy⟩ := en m hs t htm he
      have := h2 j x (List.getElem?_eq_some_iff.1 hx).1 hx
      rw [e, fires_next ht hy] at this
      cases this
    rcases P.live t htm with g | ⟨x, g1, g2, t0, x0, r, g3, g4, g5⟩
    · exact key [] _ rfl g
    · obtain ⟨ks, z1, _⟩ := tail_goes (ts := ts) (In := In) r x0 x g5
      obtain ⟨k0, hk0⟩ := List.mem_iff_getElem?.1 g3
      refine key (k0 :: ks) x ?_ g2
      unfold Flow.goes
      rw [fires_next hk0 g4]; exact z1
  · exact h

/-- .. no step spills, and from wherever it has come to the end can be come to -/
theorem piece_lives {ts : List Flow.Tr} {a b : Nat} {I In : Nat → Prop} {Lg : List Nat → Prop} (P : Piece ts a b I In Lg) (hab : a ≠ b) {ks : List Nat} {m : Nat} (hg : Flow.goes ts (2 ^ a) ks = some m) : (∀ k, ¬ Flow.spillM ts m k) ∧ Flow.CanEnd ts (2 ^ b) m := by
  have st := piece_stage P hab _ _ _ (.inl (.inl rfl)) hg
  refine ⟨?_, ?_⟩
  · rintro k ⟨t, g3, g4, g5⟩
    have ht := List.mem_of_getElem? g3
    have : ∃ x', Fires t m x' := by
      rcases st with (hx | hx) | hx
      · subst hx; obtain ⟨y, h1, _⟩ := P.first t ht g4; exact ⟨y, h1⟩
      · obtain ⟨y, h1, _⟩ := P.next t ht m hx g4; exact ⟨y, h1⟩
      · subst hx; exact absurd g4 (P.off ht (fun i hi => by rw [bit_only hi]; exact ⟨fun e => hab e.symm, P.nB⟩))
    obtain ⟨y, hy⟩ := this
    rw [(fireErr_zero hy.1).2] at g5; cases g5
  · obtain ⟨r, hr⟩ := st.ends P hab
    obtain ⟨ks, z1, _⟩ := tail_goes r _ _ hr
    exact ⟨ks, z1⟩
/-- **what Compile answers is right** -/
theorem comp_net {s T : ByteArray} (hok : (Flow.scan s 0).2.2 = true) (hn : (Flow.scan s 0).2.1 ≤ 8) (hT : Flow.nats T = netB (comp s 0 0 1 2).1) :
    Flow.checkErr T = 0 ∧ (∀ u, Flow.Spells (Flow.readTr T) (Flow.first T) u (Flow.lastQ T) ↔ Flow.Has s 0 u) ∧ (∀ l v t, Flow.Bfs (Flow.readTr T) (Flow.first T) l → Flow.JudgeIs (Flow.readTr T) (Flow.last T) l v t → v = 1) ∧ (∀ ks m, Flow.goes (Flow.readTr T) (Flow.first T) ks = some m → (∀ k, ¬ Flow.spillM (Flow.readTr T) m k) ∧ Flow.CanEnd (Flow.readTr T) (Flow.last T) m) ∧ T.size ≤ 160 := by
  obtain ⟨In, P, p1, p2, p3, p4, p5⟩ := comp_piece hok 0 1 2 (by omega) (by omega) (by omega)
  obtain ⟨c1, c2, c3, c4⟩ := net_read hT (k' := (comp s 0 0 1 2).2) (by omega) (by omega) p5
  have f1 : Flow.first T = 2 ^ 0 := by unfold Flow.first; rw [c3]
  have f2 : Flow.lastQ T = 2 ^ 1 := by unfold Flow.lastQ; rw [c4]
  have f3 : Flow.last T = 2 ^ 1 := by unfold Flow.last; rw [c4]
  rw [c2, f1, f2, f3]
  refine ⟨c1, fun u => piece_spells P (by omega) u, fun l v t h1 h2 => piece_sound P (by omega) (by rw [List.length_map]; omega) h1 h2, fun ks m h => piece_lives P (by omega) h, ?_⟩
  unfold Flow.checkErr at c1
  split at c1
  · cases c1
  · omega
end Go.Proofs.YtdlldljgogbiaabGreat
namespace Go.Proofs.YtdlldljgogbiaabGreat
set_option linter.unusedVariables false

def fin (s : ByteArray) : List (Nat × Nat) → Nat → Nat → List Nat → List Nat
  | [], _, _, T => T
  | p :: R, i, k, T => fin s R (Flow.scan s i).1 (comp s i p.1 p.2 k).2 (T ++ (comp s i p.1 p.2 k).1.flatMap rawB)
theorem fin_cons (s : ByteArray) (a b : Nat) (R : List (Nat × Nat)) (i k : Nat) (T : List Nat) : fin s ((a, b) :: R) i k T = fin s R (Flow.scan s i).1 (comp s i a b k).2 (T ++ (comp s i a b k).1.flatMap rawB) := rfl
theorem fin_task {s : ByteArray} {a b i k : Nat} {R : List (Nat × Nat)} {T : List Nat} (h : (Flow.scan s i).2.2 = true) (hc : Flow.isTk (Flow.bt s i) = true) : fin s ((a, b) :: R) i k T = fin s R (i + 1) k (T ++ [59, Flow.bt s i, 65 + a, 62, 65 + b]) := by
  rw [fin_cons, comp_task hc, scan_task h hc]
  simp [rawB]
theorem fin_star {s : ByteArray} {a b i k : Nat} {R : List (Nat × Nat)} {T : List Nat} (h : (Flow.scan s i).2.2 = true) (hc : Flow.bt s i = 42) : fin s ((a, b) :: R) i k T = fin s ((k, k) :: R) (i + 1) (k + 1) (T ++ [59, 45, 65 + a, 62, 65 + k] ++ [59, 45, 65 + k, 62, 65 + b]) := by
  rw [fin_cons, fin_cons, comp_star h hc, (Flow.scan_one h hc).2.1]
  simp [rawB]
theorem fin_seq {s : ByteArray} {a b i k : Nat} {R : List (Nat × Nat)} {T : List Nat} (h : (Flow.scan s i).2.2 = true) (hc : Flow.bt s i = 46) : fin s ((a, b) :: R) i k T = fin s ((a, k) :: (k, b) :: R) (i + 1) (k + 1) T := by
  rw [fin_cons, fin_cons, fin_cons, comp_seq h hc, (Flow.scan_two h (.inl hc)).2.2.1]
  simp
theorem fin_alt {s : ByteArray} {a b i k : Nat} {R : List (Nat × Nat)} {T : List Nat} (h : (Flow.scan s i).2.2 = true) (hc : Flow.bt s i = 43) : fin s ((a, b) :: R) i k T = fin s ((a, b) :: (a, b) :: R) (i + 1) k T := by
  rw [fin_cons, fin_cons, fin_cons, comp_alt h hc, (Flow.scan_two h (.inr (.inl hc))).2.2.1]
  simp
theorem fin_par {s : ByteArray} {a b i k : Nat} {R : List (Nat × Nat)} {T : List Nat} (h : (Flow.scan s i).2.2 = true) (hc : Flow.bt s i = 38) : fin s ((a, b) :: R) i k T = fin s ((k, k + 2) :: (k + 1, k + 3) :: R) (i + 1) (k + 4) (T ++ [59, 45, 65 + a, 62, 65 + k, 65 + (k + 1)] ++ [59, 45, 65 + (k + 2), 65 + (k + 3), 62, 65 + b]) := by
  rw [fin_cons, fin_cons, fin_cons, comp_par h hc, (Flow.scan_two h (.inr (.inr hc))).2.2.1]
  simp [rawB]
theorem fin_start (s : ByteArray) : fin s [(0, 1)] 0 2 [65, 66] = netB (comp s 0 0 1 2).1 := rfl

/-- the bytes of a net are bytes -/
theorem netB_bytes {rs : List Raw} {k' : Nat} (hk : k' ≤ 16) (ok : ∀ r ∈ rs, RawOk 0 1 2 k' r) : ∀ c ∈ netB rs, c < 256 := by
  intro c hc
  unfold netB at hc
  rcases List.mem_cons.1 hc with rfl | hc
  · omega
  · rcases List.mem_cons.1 hc with rfl | hc
    · omega
    · obtain ⟨r, hr, hc⟩ := List.mem_flatMap.1 hc
      have o := ok r hr
      unfold rawB at hc
      rcases List.mem_cons.1 hc with rfl | hc
      · omega
      · rcases List.mem_cons.1 hc with rfl | hc
        · have := o.lab
          unfold Flow.isLb at this
          rw [Bool.or_eq_true] at this
          rcases this with q | q
          · have := Flow.isTk_iff.1 q; omega
          · have : r.lab = 45 := by simpa using q
            omega
        · rcases List.mem_append.1 hc with hc | hc
          · obtain ⟨x, hx, rfl⟩ := List.mem_map.1 hc
            have := o.ins.2.2 x hx
            show 65 + x < 256
            omega
          · rcases List.mem_cons.1 hc with rfl | hc
            · omega
            · obtain ⟨x, hx, rfl⟩ := List.mem_map.1 hc
              have := o.outs.2.2 x hx
              show 65 + x < 256
              omega
end Go.Proofs.YtdlldljgogbiaabGreat
