/-
  What Judge, Finish and Enable answer is settled: plain.
-/
import Derived.Test.YtdlldljgogbiaabGreatJudgeR
namespace Go.Proofs.YtdlldljgogbiaabGreat
open Go.RowKit

theorem bfs_le {ts : List Flow.Tr} {m0 : Nat} {l l' : List Flow.Node} (h : Flow.Bfs ts m0 l) (h' : Flow.Bfs ts m0 l') (j : Nat) (x : Flow.Node) (hj : l[j]? = some x) : l'[j]? = some x := by
  induction j using Nat.strongRecOn generalizing x with
  | ind j ih =>
    by_cases h0 : j = 0
    · subst h0; rw [h.zero] at hj; rw [h'.zero]; exact hj
    · obtain ⟨p, k, a, b, c, d, n', e, f⟩ := h.back j x hj h0
      have e' := ih p d n' e
      have hjl := (List.getElem?_eq_some_iff.1 hj).1
      have hpl' := (List.getElem?_eq_some_iff.1 e').1
      obtain ⟨q, nq, hq, hm, hpos⟩ := h'.all p k n' x.mark e' c (by omega) f
      have hxp : Flow.pos x = p * 16 + k := by unfold Flow.pos; rw [a, b]
      -- q is j
      have hqj : q = j := by
        rcases Nat.lt_trichotomy q j with g | g | g
        · -- l has the marking twice
          have hlt : q < l.length := by omega
          have hx := List.getElem?_eq_getElem hlt
          have := ih q g _ hx
          rw [hq] at this
          injection this with this
          have := h.once q j _ _ hx hj (by rw [← this]; exact hm)
          omega
        · exact g
        · -- the j-th of l' stands ahead of q: its step is looked at in l
          have hjl' : j < l'.length := by have := (List.getElem?_eq_some_iff.1 hq).1; omega
          have hy := List.getElem?_eq_getElem hjl'
          obtain ⟨p2, k2, a2, b2, c2, d2, n2, e2, f2⟩ := h'.back j _ hy h0
          have hup := h'.up j q _ _ hy hq g
          have hyp : Flow.pos l'[j] = p2 * 16 + k2 := by unfold Flow.pos; rw [a2, b2]
          -- p2 * 16 + k2 < p * 16 + k, so p2 ≤ p < j
          have hp2 : p2 < l.length := by omega
          have hx2 := List.getElem?_eq_getElem hp2
          have h3 := ih p2 d2 _ hx2
          rw [e2] at h3
          injection h3 with h3
          obtain ⟨q3, nq3, hq3, hm3, hpos3⟩ := h.all p2 k2 _ _ hx2 c2 (by omega) (by rw [← h3]; exact f2)
          have hlt3 : q3 < j := by
            rcases Nat.lt_trichotomy q3 j with g3 | g3 | g3
            · exact g3
            · subst g3; rw [hj] at hq3; injection hq3 with hq3; rw [← hq3] at hpos3; omega
            · have := h.up j q3 _ _ hj hq3 g3; omega
          have h4 := ih q3 hlt3 _ hq3
          have := h'.once q3 j _ _ h4 hy hm3
          omega
      subst hqj
      obtain ⟨p2, k2, a2, b2, c2, d2, n2, e2, f2⟩ := h'.back q nq hq h0
      have hqp : Flow.pos nq = p2 * 16 + k2 := by unfold Flow.pos; rw [a2, b2]
      -- and not earlier
      have hge : ¬ (p2 * 16 + k2 < p * 16 + k) := by
        intro g
        have hp2 : p2 < l.length := by omega
        have hx2 := List.getElem?_eq_getElem hp2
        have h3 := ih p2 d2 _ hx2
        rw [e2] at h3
        injection h3 with h3
        obtain ⟨q3, nq3, hq3, hm3, hpos3⟩ := h.all p2 k2 _ _ hx2 c2 (by omega) (by rw [← h3]; exact f2)
        have hlt3 : q3 < q := by
          rcases Nat.lt_trichotomy q3 q with g3 | g3 | g3
          · exact g3
          · subst g3; rw [hj] at hq3; injection hq3 with hq3; rw [← hq3] at hpos3; omega
          · have := h.up q q3 _ _ hj hq3 g3; omega
        have h4 := ih q3 hlt3 _ hq3
        have := h'.once q3 q _ _ h4 hq hm3
        omega
      have e1 : p2 = p := by omega
      have e3 : k2 = k := by omega
      subst e1 e3
      rw [hq]
      congr 1
      cases x
      cases nq
      simp_all
theorem bfs_unique {ts : List Flow.Tr} {m0 : Nat} {l l' : List Flow.Node} (h : Flow.Bfs ts m0 l) (h' : Flow.Bfs ts m0 l') : l = l' := by
  apply List.ext_getElem?
  intro j
  cases e : l[j]? with
  | some x => exact (bfs_le h h' j x e).symm
  | none =>
    cases e' : l'[j]? with
    | none => rfl
    | some x => have := bfs_le h' h j x e'; rw [e] at this; cases this

theorem spill_unique {ts : List Flow.Tr} {l : List Flow.Node} {s s' : ByteArray} {b b' : Bool} (h : Flow.SpillIs ts l s b) (h' : Flow.SpillIs ts l s' b') : s = s' ∧ b = b' := by
  rcases h with ⟨i, k, n, h1, h2, h3, h4, h5, h6⟩ | ⟨h1, h2, h3⟩ <;> rcases h' with ⟨i', k', n', g1, g2, g3, g4, g5, g6⟩ | ⟨g1, g2, g3⟩
  · have c1 : ¬ (i < i' ∨ (i = i' ∧ k < k')) := fun c => g4 i k n h1 c h3
    have c2 : ¬ (i' < i ∨ (i' = i ∧ k' < k)) := fun c => h4 i' k' n' g1 c g3
    have e1 : i = i' := by omega
    have e2 : k = k' := by omega
    subst e1 e2
    exact ⟨by rw [h5, g5], by rw [h6, g6]⟩
  · exact absurd h3 (g1 i k n h1 (.inl (List.getElem?_eq_some_iff.1 h1).1))
  · exact absurd g3 (h1 i' k' n' g1 (.inl (List.getElem?_eq_some_iff.1 g1).1))
  · exact ⟨by rw [h2, g2], by rw [h3, g3]⟩
theorem by_unique {ts : List Flow.Tr} {l : List Flow.Node} {k : Nat} {s s' : ByteArray} {b b' : Bool} (h : Flow.ByIs ts l k s b) (h' : Flow.ByIs ts l k s' b') : s = s' ∧ b = b' := by
  rcases h with ⟨i, n, m, h1, h2, h3, h4, h5⟩ | ⟨h1, h2, h3⟩ <;> rcases h' with ⟨i', n', m', g1, g2, g3, g4, g5⟩ | ⟨g1, g2, g3⟩
  · have c1 : ¬ i < i' := fun c => by have := g3 i n c h1; rw [h2] at this; cases this
    have c2 : ¬ i' < i := fun c => by have := h3 i' n' c g1; rw [g2] at this; cases this
    have e1 : i = i' := by omega
    subst e1
    exact ⟨by rw [h4, g4], by rw [h5, g5]⟩
  · have := g1 i n (List.getElem?_eq_some_iff.1 h1).1 h1; rw [h2] at this; cases this
  · have := h1 i' n' (List.getElem?_eq_some_iff.1 g1).1 g1; rw [g2] at this; cases this
  · exact ⟨by rw [h2, g2], by rw [h3, g3]⟩
theorem judge_unique {ts : List Flow.Tr} {e : Nat} {l : List Flow.Node} {v v' : Nat} {s s' : ByteArray} (h : Flow.JudgeIs ts e l v s) (h' : Flow.JudgeIs ts e l v' s') : v = v' ∧ s = s' := by
  rcases h with ⟨h1, h2⟩ | ⟨h1, h⟩ <;> rcases h' with ⟨g1, g2⟩ | ⟨g1, g⟩
  · exact ⟨by rw [h2, g2], (spill_unique h1 g1).1⟩
  · have := (spill_unique h1 (.inr ⟨g1, rfl, rfl⟩)).2; cases this
  · have := (spill_unique g1 (.inr ⟨h1, rfl, rfl⟩)).2; cases this
  · rcases h with ⟨i, n, a1, a2, a3, a4, a5⟩ | ⟨a, h⟩ <;> rcases g with ⟨i', n', b1, b2, b3, b4, b5⟩ | ⟨b, g⟩
    · have c1 : ¬ i < i' := fun c => b3 i n c a1 a2
      have c2 : ¬ i' < i := fun c => a3 i' n' c b1 b2
      have e1 : i = i' := by omega
      subst e1
      exact ⟨by rw [a4, b4], by rw [a5, b5]⟩
    · exact absurd a2 (b i n (List.getElem?_eq_some_iff.1 a1).1 a1)
    · exact absurd b2 (a i' n' (List.getElem?_eq_some_iff.1 b1).1 b1)
    · rcases h with ⟨i, n, a1, a2, a3, a4, a5⟩ | ⟨a, h⟩ <;> rcases g with ⟨i', n', b1, b2, b3, b4, b5⟩ | ⟨b, g⟩
      · have c1 : ¬ i < i' := fun c => a2 (b3 i n c a1)
        have c2 : ¬ i' < i := fun c => b2 (a3 i' n' c b1)
        have e1 : i = i' := by omega
        subst e1
        exact ⟨by rw [a4, b4], by rw [a5, b5]⟩
      · exact absurd (b i n (List.getElem?_eq_some_iff.1 a1).1 a1) a2
      · exact absurd (a i' n' (List.getElem?_eq_some_iff.1 b1).1 b1) b2
      · rcases h with ⟨k, a1, a2, a3, a4, a5⟩ | ⟨a, a4, a5⟩ <;> rcases g with ⟨k', b1, b2, b3, b4, b5⟩ | ⟨b, b4, b5⟩
        · have c1 : ¬ k < k' := fun c => b3 k c a2
          have c2 : ¬ k' < k := fun c => a3 k' c b2
          have e1 : k = k' := by omega
          subst e1
          exact ⟨by rw [a4, b4], by rw [a5, b5]⟩
        · exact absurd a2 (b k a1)
        · exact absurd b2 (a k' b1)
        · exact ⟨by rw [a4, b4], by rw [a5, b5]⟩

theorem judgeA_unique {s : ByteArray} {v v' : Nat} {t t' : ByteArray} {e e' : Nat} (h : Flow.JudgeA s v t e) (h' : Flow.JudgeA s v' t' e') : v = v' ∧ t = t' ∧ e = e' := by
  rcases h with ⟨a, h1, h2, h3⟩ | ⟨a, h1, l, h2, h3⟩ <;> rcases h' with ⟨b, g1, g2, g3⟩ | ⟨b, g1, l', g2, g3⟩
  · exact ⟨by rw [h1, g1], by rw [h2, g2], by rw [h3, g3]⟩
  · exact absurd b a
  · exact absurd a b
  · have := bfs_unique h2 g2
    subst this
    obtain ⟨x, y⟩ := judge_unique h3 g3
    exact ⟨x, y, by rw [h1, g1]⟩
theorem finishA_unique {s run t t' : ByteArray} {e e' : Nat} (h : Flow.FinishA s run t e) (h' : Flow.FinishA s run t' e') : t = t' ∧ e = e' := by
  rcases h with ⟨a, h1, h2⟩ | ⟨a, l, hb, h⟩ <;> rcases h' with ⟨b, g1, g2⟩ | ⟨b, l', gb, g⟩
  · exact ⟨by rw [h1, g1], by rw [h2, g2]⟩
  · exact absurd b a
  · exact absurd a b
  · have := bfs_unique hb gb
    subst this
    rcases h with ⟨i, n, h1, h2, h3, h4⟩ | ⟨h1, h2, h3⟩ <;> rcases g with ⟨i', n', g1, g2, g3, g4⟩ | ⟨g1, g2, g3⟩
    · have := hb.once i i' n n' h1 g1 (by rw [h2, g2])
      subst this
      exact ⟨by rw [h3, g3], by rw [h4, g4]⟩
    · exact absurd h2 (g1 i n h1)
    · exact absurd g2 (h1 i' n' g1)
    · exact ⟨by rw [h2, g2], by rw [h3, g3]⟩
theorem enableA_unique {s step t t' : ByteArray} {e e' : Nat} (h : Flow.EnableA s step t e) (h' : Flow.EnableA s step t' e') : t = t' ∧ e = e' := by
  rcases h with ⟨a, h1, h2⟩ | ⟨a, c, h1, h2⟩ | ⟨a, c, d, h1, h2⟩ | ⟨c, d, d2, l, ok, hb, h1, h2⟩ <;> rcases h' with ⟨a', g1, g2⟩ | ⟨a', c', g1, g2⟩ | ⟨a', c', d', g1, g2⟩ | ⟨c', d', d2', l', ok', gb, g1, g2⟩
  · exact ⟨by rw [h1, g1], by rw [h2, g2]⟩
  · exact absurd a a'
  · exact absurd a a'
  · omega
  · exact absurd a' a
  · exact ⟨by rw [h1, g1], by rw [h2, g2]⟩
  · exact absurd c' c
  · exact absurd c' c
  · exact absurd a' a
  · exact absurd c c'
  · exact ⟨by rw [h1, g1], by rw [h2, g2]⟩
  · exact absurd ⟨d', d2'⟩ d
  · omega
  · exact absurd c c'
  · exact absurd ⟨d, d2⟩ d'
  · have := bfs_unique hb gb
    subst this
    obtain ⟨x, y⟩ := by_unique h1 g1
    exact ⟨x, by rw [h2, g2, y]⟩
end Go.Proofs.YtdlldljgogbiaabGreat
