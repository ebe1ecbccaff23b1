/-
  The search of markings, plain: what a list of markings in the order of their first runs says.
-/
import Derived.Test.YtdlldljgogbiaabPlain
namespace Go.Proofs.Ytdlldljgogbiaab
namespace Flow

/-- the marking behind transition k at m -/
def nextM (ts : List Tr) (m k : Nat) : Option Nat :=
  match ts[k]? with
  | none => none
  | some t => if fireErr t m = 0 then some (after t m) else none

/-- the marking behind the steps ks from m on -/
def goes (ts : List Tr) (m : Nat) : List Nat → Option Nat
  | [] => some m
  | k :: ks => match nextM ts m k with
    | none => none
    | some m' => goes ts m' ks

theorem goes_snoc (ts : List Tr) (m : Nat) (ks : List Nat) (k : Nat) : goes ts m (ks ++ [k]) = match goes ts m ks with | none => none | some m' => nextM ts m' k := by
  induction ks generalizing m with
  | nil =>
    show (match nextM ts m k with | none => none | some m' => goes ts m' []) = nextM ts m k
    cases nextM ts m k <;> rfl
  | cons j ks ih =>
    show (match nextM ts m j with | none => none | some m' => goes ts m' (ks ++ [k])) = match (match nextM ts m j with | none => none | some m' => goes ts m' ks) with | none => none | some m' => nextM ts m' k
    cases nextM ts m j with
    | none => rfl
    | some m' => exact ih m'
theorem goes_append (ts : List Tr) (m : Nat) (ks js : List Nat) : goes ts m (ks ++ js) = match goes ts m ks with | none => none | some m' => goes ts m' js := by
  induction ks generalizing m with
  | nil => rfl
  | cons j ks ih =>
    show (match nextM ts m j with | none => none | some m' => goes ts m' (ks ++ js)) = match (match nextM ts m j with | none => none | some m' => goes ts m' ks) with | none => none | some m' => goes ts m' js
    cases nextM ts m j with
    | none => rfl
    | some m' => exact ih m'

/-- shorter, or as long and not above -/
def lexLe : List Nat → List Nat → Prop
  | [], _ => True
  | _ :: _, [] => False
  | a :: l, b :: r => a < b ∨ (a = b ∧ lexLe l r)
def firstLe (a b : List Nat) : Prop := a.length < b.length ∨ (a.length = b.length ∧ lexLe a b)

theorem lexLe_refl (a : List Nat) : lexLe a a := by
  induction a with
  | nil => trivial
  | cons x a ih => exact .inr ⟨rfl, ih⟩
theorem lexLe_trans {a b c : List Nat} (h : lexLe a b) (g : lexLe b c) : lexLe a c := by
  induction a generalizing b c with
  | nil => trivial
  | cons x a ih =>
    cases b with
    | nil => exact absurd h id
    | cons y b =>
      cases c with
      | nil => exact absurd g id
      | cons z c =>
        rcases h with h | ⟨rfl, h⟩ <;> rcases g with g | ⟨rfl, g⟩
        · exact .inl (by omega)
        · exact .inl h
        · exact .inl g
        · exact .inr ⟨rfl, ih h g⟩
theorem firstLe_refl (a : List Nat) : firstLe a a := .inr ⟨rfl, lexLe_refl a⟩
theorem firstLe_trans {a b c : List Nat} (h : firstLe a b) (g : firstLe b c) : firstLe a c := by
  rcases h with h | ⟨h1, h2⟩ <;> rcases g with g | ⟨g1, g2⟩
  · exact .inl (by omega)
  · exact .inl (by omega)
  · exact .inl (by omega)
  · exact .inr ⟨by omega, lexLe_trans h2 g2⟩
theorem lexLe_anti {a b : List Nat} (h : lexLe a b) (g : lexLe b a) : a = b := by
  induction a generalizing b with
  | nil =>
    cases b with
    | nil => rfl
    | cons y b => exact absurd g id
  | cons x a ih =>
    cases b with
    | nil => exact absurd h id
    | cons y b =>
      rcases h with h | ⟨rfl, h⟩ <;> rcases g with g | ⟨g0, g⟩
      · omega
      · omega
      · omega
      · rw [ih h g]
theorem firstLe_anti {a b : List Nat} (h : firstLe a b) (g : firstLe b a) : a = b := by
  rcases h with h | ⟨h1, h2⟩ <;> rcases g with g | ⟨g1, g2⟩
  · omega
  · omega
  · omega
  · exact lexLe_anti h2 g2
theorem lexLe_snoc {a b : List Nat} {j k : Nat} (hl : a.length = b.length) (h : lexLe a b) (hne : a = b → j ≤ k) : lexLe (a ++ [j]) (b ++ [k]) := by
  induction a generalizing b with
  | nil =>
    cases b with
    | nil =>
      have := hne rfl
      rcases Nat.lt_or_eq_of_le this with h | h
      · exact .inl h
      · exact .inr ⟨h, trivial⟩
    | cons y b => simp at hl
  | cons x a ih =>
    cases b with
    | nil => simp at hl
    | cons y b =>
      rcases h with h | ⟨rfl, h⟩
      · exact .inl h
      · exact .inr ⟨rfl, ih (by simpa using hl) h (fun e => hne (by rw [e]))⟩
theorem firstLe_snoc {a b : List Nat} {j k : Nat} (h : firstLe a b) (hne : a = b → j ≤ k) : firstLe (a ++ [j]) (b ++ [k]) := by
  rcases h with h | ⟨h1, h2⟩
  · exact .inl (by simp; omega)
  · exact .inr ⟨by simp; omega, lexLe_snoc h1 h2 hne⟩

/-- a marking that was laid down: from which, by which transition (the first: -1, -1) -/
structure Node where
  mark : Nat
  frm : Int
  via : Int
def pos (n : Node) : Int := n.frm * 16 + n.via

/-- l: the markings from m0 on, in the order of their first runs, as far as all steps ahead of position P were looked at (position i * 16 + k: transition k at the i-th marking) -/
structure Upto (ts : List Tr) (m0 : Nat) (l : List Node) (P : Nat) : Prop where
  zero : l[0]? = some ⟨m0, -1, -1⟩
  back : ∀ (j : Nat) (n : Node), l[j]? = some n → j ≠ 0 → ∃ p k : Nat, n.frm = (p : Int) ∧ n.via = (k : Int) ∧ k < 16 ∧ p < j ∧ ∃ n' : Node, l[p]? = some n' ∧ nextM ts n'.mark k = some n.mark
  up : ∀ (i j : Nat) (ni nj : Node), l[i]? = some ni → l[j]? = some nj → i < j → pos ni < pos nj
  once : ∀ (i j : Nat) (ni nj : Node), l[i]? = some ni → l[j]? = some nj → ni.mark = nj.mark → i = j
  below : ∀ (j : Nat) (n : Node), l[j]? = some n → pos n < P
  all : ∀ (p k : Nat) (n : Node) (m' : Nat), l[p]? = some n → k < 16 → p * 16 + k < P → nextM ts n.mark k = some m' → ∃ (q : Nat) (nq : Node), l[q]? = some nq ∧ nq.mark = m' ∧ pos nq ≤ p * 16 + k
  small : ∀ (j : Nat) (n : Node), l[j]? = some n → n.mark < 65536

/-- the first marking alone -/
theorem Upto.start (ts : List Tr) (m0 : Nat) (h : m0 < 65536) : Upto ts m0 [⟨m0, -1, -1⟩] 0 := by
  have one : ∀ (j : Nat) (n : Node), ([⟨m0, -1, -1⟩] : List Node)[j]? = some n → j = 0 ∧ n = ⟨m0, -1, -1⟩ := by
    intro j n hj
    cases j with
    | zero => simp at hj; exact ⟨rfl, hj.symm⟩
    | succ j => simp at hj
  refine ⟨rfl, ?_, ?_, ?_, ?_, ?_, ?_⟩
  · intro j n hj h0; exact absurd (one j n hj).1 h0
  · intro i j ni nj hi hj hij; have := (one j nj hj).1; omega
  · intro i j ni nj hi hj _; rw [(one i ni hi).1, (one j nj hj).1]
  · intro j n hj; rw [(one j n hj).2]; show (-1 : Int) * 16 + -1 < 0; decide
  · intro p k n m' hp hk hP; omega
  · intro j n hj; rw [(one j n hj).2]; exact h

/-- nothing new at position i * 16 + k -/
theorem Upto.pass {ts : List Tr} {m0 : Nat} {l : List Node} {i k : Nat} (h : Upto ts m0 l (i * 16 + k)) (hk : k < 16)
    (hno : ∀ n m', l[i]? = some n → nextM ts n.mark k = some m' → ∃ (q : Nat) (nq : Node), l[q]? = some nq ∧ nq.mark = m') : Upto ts m0 l (i * 16 + (k + 1)) := by
  refine ⟨h.zero, h.back, h.up, h.once, fun j n hj => by have := h.below j n hj; omega, ?_, h.small⟩
  intro p k' n m' hp hk' hP hn
  by_cases e : p * 16 + k' < i * 16 + k
  · exact h.all p k' n m' hp hk' e hn
  · have e1 : p = i := by omega
    have e2 : k' = k := by omega
    subst e1 e2
    obtain ⟨q, nq, hq, hm⟩ := hno n m' hp hn
    exact ⟨q, nq, hq, hm, by have := h.below q nq hq; omega⟩

/-- a new marking at position i * 16 + k -/
theorem Upto.new {ts : List Tr} {m0 : Nat} {l : List Node} {i k m' : Nat} {n : Node} (h : Upto ts m0 l (i * 16 + k)) (hk : k < 16) (hi : l[i]? = some n) (hn : nextM ts n.mark k = some m') (hs : m' < 65536)
    (hno : ∀ (q : Nat) (nq : Node), l[q]? = some nq → nq.mark ≠ m') : Upto ts m0 (l ++ [⟨m', i, k⟩]) (i * 16 + (k + 1)) := by
  have hil : i < l.length := (List.getElem?_eq_some_iff.1 hi).1
  have old : ∀ (j : Nat) (x : Node), l[j]? = some x → (l ++ [⟨m', (i : Int), (k : Int)⟩])[j]? = some x := by
    intro j x hj
    rw [List.getElem?_append_left (List.getElem?_eq_some_iff.1 hj).1]; exact hj
  have get : ∀ (j : Nat) (x : Node), (l ++ [⟨m', (i : Int), (k : Int)⟩])[j]? = some x → l[j]? = some x ∨ (j = l.length ∧ x = ⟨m', i, k⟩) := by
    intro j x hj
    by_cases hlt : j < l.length
    · rw [List.getElem?_append_left hlt] at hj; exact .inl hj
    · rw [List.getElem?_append_right (by omega)] at hj
      by_cases e : j - l.length = 0
      · rw [e] at hj; simp at hj; exact .inr ⟨by omega, hj.symm⟩
      · rw [List.getElem?_eq_none (by simp; omega)] at hj; cases hj
  have pnew : pos ⟨m', (i : Int), (k : Int)⟩ = i * 16 + k := rfl
  refine ⟨old 0 _ h.zero, ?_, ?_, ?_, ?_, ?_, ?_⟩
  · intro j x hj h0
    rcases get j x hj with hj | ⟨rfl, rfl⟩
    · obtain ⟨p, k', a, b, c, d, n', e, f⟩ := h.back j x hj h0
      exact ⟨p, k', a, b, c, d, n', old p n' e, f⟩
    · exact ⟨i, k, rfl, rfl, hk, hil, n, old i n hi, hn⟩
  · intro a b x y ha hb hab
    rcases get a x ha with ha | ⟨rfl, rfl⟩ <;> rcases get b y hb with hb | ⟨rfl, rfl⟩
    · exact h.up a b x y ha hb hab
    · have := h.below a x ha; rw [pnew]; omega
    · have := (List.getElem?_eq_some_iff.1 hb).1; omega
    · omega
  · intro a b x y ha hb hab
    rcases get a x ha with ha | ⟨rfl, rfl⟩ <;> rcases get b y hb with hb | ⟨rfl, rfl⟩
    · exact h.once a b x y ha hb hab
    · exact absurd hab (hno a x ha)
    · exact absurd hab.symm (hno b y hb)
    · rfl
  · intro j x hj
    rcases get j x hj with hj | ⟨rfl, rfl⟩
    · have := h.below j x hj; omega
    · rw [pnew]; omega
  · intro p k' x m'' hp hk' hP hx
    rcases get p x hp with hp2 | ⟨rfl, rfl⟩
    · by_cases e : p * 16 + k' < i * 16 + k
      · obtain ⟨q, nq, a, b, c⟩ := h.all p k' x m'' hp2 hk' e hx
        exact ⟨q, nq, old q nq a, b, c⟩
      · have e1 : p = i := by omega
        have e2 : k' = k := by omega
        subst e1 e2
        rw [hi] at hp2
        injection hp2 with hp2
        subst hp2
        rw [hn] at hx
        injection hx with hx
        subst hx
        exact ⟨l.length, ⟨m', p, k'⟩, by simp, rfl, by rw [pnew]; exact Int.le_refl _⟩
    · omega
  · intro j x hj
    rcases get j x hj with hj | ⟨rfl, rfl⟩
    · exact h.small j x hj
    · exact hs

/-- all transitions of the i-th marking have been looked at -/
theorem Upto.row {ts : List Tr} {m0 : Nat} {l : List Node} {i : Nat} (h : Upto ts m0 l (i * 16 + ts.length)) (hts : ts.length ≤ 16) : Upto ts m0 l ((i + 1) * 16 + 0) := by
  refine ⟨h.zero, h.back, h.up, h.once, fun j n hj => by have := h.below j n hj; omega, ?_, h.small⟩
  intro p k n m' hp hk hP hn
  by_cases e : p * 16 + k < i * 16 + ts.length
  · exact h.all p k n m' hp hk e hn
  · have e1 : p = i := by omega
    subst e1
    unfold nextM at hn
    rw [List.getElem?_eq_none (by omega)] at hn
    cases hn

/-- the whole search -/
def Bfs (ts : List Tr) (m0 : Nat) (l : List Node) : Prop := Upto ts m0 l (l.length * 16)

/-- the run by which the j-th marking was laid down (n: fuel) -/
def keyN (l : List Node) : Nat → Nat → List Nat
  | 0, _ => []
  | n + 1, j => match l[j]? with
    | none => []
    | some x => if x.frm < 0 then [] else keyN l n x.frm.toNat ++ [x.via.toNat]
def key (l : List Node) (j : Nat) : List Nat := keyN l (j + 1) j

theorem keyN_more {ts : List Tr} {m0 : Nat} {l : List Node} {P : Nat} (h : Upto ts m0 l P) (j n m : Nat) (hn : j < n) (hm : j < m) : keyN l n j = keyN l m j := by
  induction n generalizing m j with
  | zero => omega
  | succ n ih =>
    cases m with
    | zero => omega
    | succ m =>
      unfold keyN
      cases e : l[j]? with
      | none => rfl
      | some x =>
        dsimp only
        by_cases hx : x.frm < 0
        · rw [if_pos hx, if_pos hx]
        · rw [if_neg hx, if_neg hx]
          have hj0 : j ≠ 0 := by
            intro h0
            subst h0
            rw [h.zero] at e
            injection e with e
            subst e
            exact hx (show (-1 : Int) < 0 by decide)
          obtain ⟨p, k, a, b, c, d, _⟩ := h.back j x e hj0
          rw [a]
          simp only [Int.toNat_natCast]
          rw [ih p m (by omega) (by omega)]

theorem key_zero {ts : List Tr} {m0 : Nat} {l : List Node} {P : Nat} (h : Upto ts m0 l P) : key l 0 = [] := by
  unfold key keyN; rw [h.zero]; simp
theorem key_step {ts : List Tr} {m0 : Nat} {l : List Node} {P : Nat} (h : Upto ts m0 l P) {j p k : Nat} {x : Node} (hj : l[j]? = some x) (h0 : j ≠ 0) (hp : x.frm = p) (hk : x.via = k) : key l j = key l p ++ [k] := by
  obtain ⟨p', k', a, b, c, d, _⟩ := h.back j x hj h0
  have e1 : p' = p := by omega
  have e2 : k' = k := by omega
  subst e1 e2
  show keyN l (j + 1) j = _
  unfold keyN
  rw [hj]
  dsimp only
  rw [if_neg (by omega), a, b]
  simp only [Int.toNat_natCast]
  rw [show key l p' = keyN l (p' + 1) p' from rfl, keyN_more h p' j (p' + 1) d (by omega)]

/-- the run leads there -/
theorem key_goes {ts : List Tr} {m0 : Nat} {l : List Node} {P : Nat} (h : Upto ts m0 l P) (j : Nat) (x : Node) (hj : l[j]? = some x) : goes ts m0 (key l j) = some x.mark := by
  induction j using Nat.strongRecOn generalizing x with
  | ind j ih =>
    by_cases h0 : j = 0
    · subst h0
      rw [h.zero] at hj
      injection hj with hj
      rw [key_zero h, ← hj]; rfl
    · obtain ⟨p, k, a, b, c, d, n', e, f⟩ := h.back j x hj h0
      rw [key_step h hj h0 a b, goes_snoc, ih p d n' e]
      exact f
theorem key_len {ts : List Tr} {m0 : Nat} {l : List Node} {P : Nat} (h : Upto ts m0 l P) (j : Nat) (hj : j < l.length) : (key l j).length ≤ j := by
  induction j using Nat.strongRecOn with
  | ind j ih =>
    by_cases h0 : j = 0
    · subst h0; rw [key_zero h]; exact Nat.le_refl _
    · obtain ⟨p, k, a, b, c, d, n', e, f⟩ := h.back j _ (List.getElem?_eq_getElem hj) h0
      rw [key_step h (List.getElem?_eq_getElem hj) h0 a b]
      have := ih p d (by omega)
      simp; omega
theorem key_lt {ts : List Tr} {m0 : Nat} {l : List Node} {P : Nat} (h : Upto ts m0 l P) (j : Nat) (hj : j < l.length) : ∀ k ∈ key l j, k < 16 := by
  induction j using Nat.strongRecOn with
  | ind j ih =>
    by_cases h0 : j = 0
    · subst h0; rw [key_zero h]; intro k hk; cases hk
    · obtain ⟨p, k, a, b, c, d, n', e, f⟩ := h.back j _ (List.getElem?_eq_getElem hj) h0
      rw [key_step h (List.getElem?_eq_getElem hj) h0 a b]
      intro k' hk'
      rcases List.mem_append.1 hk' with hk' | hk'
      · exact ih p d (by omega) k' hk'
      · rw [List.mem_singleton.1 hk']; exact c

/-- the markings stand in the order of their runs -/
theorem key_up {ts : List Tr} {m0 : Nat} {l : List Node} {P : Nat} (h : Upto ts m0 l P) (i j : Nat) (hij : i < j) (hj : j < l.length) : firstLe (key l i) (key l j) ∧ key l i ≠ key l j := by
  induction j using Nat.strongRecOn generalizing i with
  | ind j ih =>
    have hjx := List.getElem?_eq_getElem hj
    obtain ⟨p, k, a, b, c, d, n', e, f⟩ := h.back j _ hjx (by omega)
    by_cases h0 : i = 0
    · subst h0
      rw [key_zero h, key_step h hjx (by omega) a b]
      exact ⟨.inl (by simp), by simp⟩
    · have hil : i < l.length := by omega
      have hix := List.getElem?_eq_getElem hil
      obtain ⟨p', k', a', b', c', d', n'', e', f'⟩ := h.back i _ hix h0
      have hpos := h.up i j _ _ hix hjx hij
      unfold pos at hpos
      rw [a, b, a', b'] at hpos
      rw [key_step h hjx (by omega) a b, key_step h hix h0 a' b']
      rcases Nat.lt_trichotomy p' p with hp | hp | hp
      · obtain ⟨g1, g2⟩ := ih p d p' hp (by omega)
        refine ⟨firstLe_snoc g1 (fun x => absurd x g2), fun x => g2 ?_⟩
        have := congrArg List.dropLast x
        simpa using this
      · subst hp
        refine ⟨firstLe_snoc (firstLe_refl _) (fun _ => by omega), fun x => ?_⟩
        have := List.append_inj_right x rfl
        simp at this
        omega
      · omega
theorem key_le {ts : List Tr} {m0 : Nat} {l : List Node} {P : Nat} (h : Upto ts m0 l P) (i j : Nat) (hij : i ≤ j) (hj : j < l.length) : firstLe (key l i) (key l j) := by
  rcases Nat.lt_or_eq_of_le hij with g | rfl
  · exact (key_up h i j g hj).1
  · exact firstLe_refl _

/-- every marking that steps come to is in the list, and its run is first -/
theorem Bfs.complete {ts : List Tr} {m0 : Nat} {l : List Node} (h : Bfs ts m0 l) (hts : ts.length ≤ 16) (ks : List Nat) (m : Nat) (hg : goes ts m0 ks = some m) : ∃ (j : Nat) (x : Node), l[j]? = some x ∧ x.mark = m ∧ firstLe (key l j) ks := by
  induction e : ks.length generalizing ks m with
  | zero =>
    have : ks = [] := List.length_eq_zero_iff.1 e
    subst this
    have : m0 = m := by simpa [goes] using hg
    exact ⟨0, _, h.zero, this, by rw [key_zero h]; exact firstLe_refl _⟩
  | succ n ih =>
    obtain ⟨js, k, rfl⟩ : ∃ js k, ks = js ++ [k] := by
      have hne : ks ≠ [] := by intro x; rw [x] at e; simp at e
      exact ⟨ks.dropLast, ks.getLast hne, (List.dropLast_concat_getLast hne).symm⟩
    rw [goes_snoc] at hg
    cases hjs : goes ts m0 js with
    | none => rw [hjs] at hg; cases hg
    | some m1 =>
      rw [hjs] at hg
      dsimp only at hg
      obtain ⟨p, x, hp, hx, hle⟩ := ih js m1 hjs (by simp at e; exact e)
      have hk : k < ts.length := by
        rcases Nat.lt_or_ge k ts.length with h1 | h1
        · exact h1
        · unfold nextM at hg; rw [List.getElem?_eq_none h1] at hg; cases hg
      have hpl := (List.getElem?_eq_some_iff.1 hp).1
      obtain ⟨q, nq, hq, hm, hpos⟩ := h.all p k x m hp (by omega) (by omega) (by rw [hx]; exact hg)
      refine ⟨q, nq, hq, hm, ?_⟩
      have hql := (List.getElem?_eq_some_iff.1 hq).1
      refine firstLe_trans ?_ (firstLe_snoc (k := k) hle (fun _ => Nat.le_refl _))
      by_cases h0 : q = 0
      · subst h0; rw [key_zero h]; exact .inl (by simp)
      · obtain ⟨p', k', a', b', c', d', n'', e', f'⟩ := h.back q nq hq h0
        unfold pos at hpos
        rw [a', b'] at hpos
        rw [key_step h hq h0 a' b']
        rcases Nat.lt_trichotomy p' p with hpp | hpp | hpp
        · obtain ⟨g1, g2⟩ := key_up h p' p hpp hpl
          exact firstLe_snoc g1 (fun z => absurd z g2)
        · subst hpp; exact firstLe_snoc (firstLe_refl _) (fun _ => by omega)
        · omega

/-- there are no more than 65536 -/
theorem Upto.size {ts : List Tr} {m0 : Nat} {l : List Node} {P : Nat} (h : Upto ts m0 l P) : l.length ≤ 65536 := by
  have hnd : (l.map Node.mark).Nodup := by
    rw [List.nodup_iff_pairwise_ne, List.pairwise_iff_getElem]
    intro i j hi hj hij heq
    have hj' : j < l.length := by simpa using hj
    have hi' : i < l.length := by omega
    simp only [List.getElem_map] at heq
    have := h.once i j _ _ (List.getElem?_eq_getElem hi') (List.getElem?_eq_getElem hj') heq
    omega
  have hsub : ∀ m ∈ l.map Node.mark, m ∈ List.range 65536 := by
    intro m hm
    obtain ⟨x, hx, rfl⟩ := List.mem_map.1 hm
    obtain ⟨j, hj⟩ := List.mem_iff_getElem?.1 hx
    exact List.mem_range.2 (h.small j x hj)
  have := hnd.length_le_of_subset hsub
  simpa using this

end Flow
end Go.Proofs.Ytdlldljgogbiaab
