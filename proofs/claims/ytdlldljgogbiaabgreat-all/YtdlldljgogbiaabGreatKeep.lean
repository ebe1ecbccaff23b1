/-
  What is kept of memory, by blocks.
-/
import Derived.Test.YtdlldljgogbiaabGreatLayR
namespace Go.Proofs.YtdlldljgogbiaabGreat
open Go.RowKit
set_option linter.unusedVariables false
set_option maxRecDepth 20000

/-- outside of the blocks S something may have turned or be new -/
structure Kept (S : Nat → Prop) (w w' : World) : Prop where
  os : w'.os = w.os
  tape : w'.tape = w.tape
  output : w'.output = w.output
  size : w.heap.size ≤ w'.heap.size
  block : ∀ k, S k → w'.heap[k]? = w.heap[k]?
theorem Kept.refl (S : Nat → Prop) (w : World) : Kept S w w := ⟨rfl, rfl, rfl, Nat.le_refl _, fun _ _ => rfl⟩
theorem Kept.trans {S : Nat → Prop} {a b c : World} (h : Kept S a b) (g : Kept S b c) : Kept S a c :=
  ⟨g.os.trans h.os, g.tape.trans h.tape, g.output.trans h.output, Nat.le_trans h.size g.size, fun k hk => (g.block k hk).trans (h.block k hk)⟩
theorem Kept.mono {S T : Nat → Prop} {a b : World} (h : Kept S a b) (hS : ∀ k, T k → S k) : Kept T a b := ⟨h.os, h.tape, h.output, h.size, fun k hk => h.block k (hS k hk)⟩
theorem Kept.below {S : Nat → Prop} {B : Nat} {a b : World} (h : Kept S a b) (hS : ∀ k, k < B → S k) : Below B a b := ⟨h.os, h.tape, h.output, h.size, fun k hk => h.block k (hS k hk)⟩
theorem Kept.of_below {S : Nat → Prop} {B : Nat} {a b : World} (h : Below B a b) (hS : ∀ k, S k → k < B) : Kept S a b := ⟨h.os, h.tape, h.output, h.size, fun k hk => h.block k (hS k hk)⟩
theorem Kept.drew {S : Nat → Prop} {a b : World} (h : Kept S a b) : Kept S a b.drew := ⟨h.os, h.tape, h.output, h.size, h.block⟩
theorem Kept.drewN {S : Nat → Prop} {a b : World} (h : Kept S a b) (n : Nat) : Kept S a (b.drewN n) := ⟨h.os, h.tape, h.output, h.size, h.block⟩
theorem Kept.alloc {S : Nat → Prop} {a b : World} (h : Kept S a b) (hS : ∀ k, S k → k < b.heap.size) (o : Obj) : Kept S a (b.alloc o) :=
  h.trans (Kept.of_below ((Below.refl b.heap.size b).alloc (Nat.le_refl _) o) hS)
theorem Kept.setCell {S : Nat → Prop} {a b : World} (h : Kept S a b) {p : Addr} (hp : ¬ S p.block) (v : Value) : Kept S a (b.setCell p v) := by
  have g := (Below.refl 0 b).setCell (p := p) (Nat.zero_le _) v
  exact h.trans ⟨g.os, g.tape, g.output, g.size, fun k hk => heap_setCell_other b p k v (fun e => hp (e ▸ hk))⟩
theorem Kept.grown {S : Nat → Prop} {a w w' : World} {row : Option Nat} (h : Kept S a w) (hg : w.grownBy w' row) (hS : ∀ k, S k → k < w.heap.size) (hr : ∀ k, row = some k → ¬ S k) : Kept S a w' :=
  h.trans ⟨hg.os, hg.tape, hg.output, hg.size, fun k hk => hg.block k (hS k hk) (fun e => hr k e.symm hk)⟩
theorem Blk.kept {S : Nat → Prop} {w w' : World} {b : Nat} {cs : Array Value} {t : TypeId} (h : Blk w b cs t) (hb : Kept S w w') (hs : S b) : Blk w' b cs t := by
  unfold Blk; rw [hb.block b hs]; exact h
theorem owns_kept {S : Nat → Prop} {w w' : World} {base : Nat} {e : TypeId} {size n c : Nat} {a : Option Addr} {xs : List Value} (h : w.ownsRow base e size (.slice a n c) n xs) (hb : Kept S w w') (hS : ∀ g, obk a = some g → S g) : w'.ownsRow base e size (.slice a n c) n xs := by
  obtain ⟨h1, h2⟩ := h
  refine ⟨h1, ?_⟩
  rcases h2 with h2 | ⟨g, cap, cur, hv, hg, hh, r⟩
  · exact .inl h2
  · refine .inr ⟨g, cap, cur, hv, hg, ?_, r⟩
    rw [hb.block g (hS g (by injection hv with hv; rw [hv]; rfl))]
    exact hh
theorem owns_up {w : World} {base base' : Nat} {e : TypeId} {size n c : Nat} {a : Option Addr} {xs : List Value} (h : w.ownsRow base e size (.slice a n c) n xs) (hS : ∀ g, obk a = some g → base' ≤ g) : w.ownsRow base' e size (.slice a n c) n xs := by
  obtain ⟨h1, h2⟩ := h
  refine ⟨h1, ?_⟩
  rcases h2 with h2 | ⟨g, cap, cur, hv, hg, r⟩
  · exact .inl h2
  · exact .inr ⟨g, cap, cur, hv, hS g (by injection hv with hv; rw [hv]; rfl), r⟩

theorem owns_pop {w : World} {base : Nat} {e : TypeId} {size n c : Nat} {a : Option Addr} {xs ys : List Value} (h : w.ownsRow base e size (.slice a (n + 1) c) (n + 1) (xs ++ ys)) (hx : xs.length = n * size) : w.ownsRow base e size (.slice a n c) n xs := by
  obtain ⟨h1, h2⟩ := h
  refine ⟨hx, ?_⟩
  rcases h2 with ⟨_, h2⟩ | ⟨g, cap, cur, hv, hg, hh, hle, hm, hs, ht⟩
  · omega
  · injection hv with e1 _ e3
    subst e1 e3
    refine .inr ⟨g, c, cur, rfl, hg, hh, by omega, hm, hs, ?_⟩
    have hle2 : n * size ≤ (n + 1) * size := Nat.mul_le_mul_right _ (by omega)
    have : (cur.toList.take ((n + 1) * size)).take (n * size) = (xs ++ ys).take (n * size) := by rw [ht]
    rw [List.take_take, Nat.min_eq_left hle2] at this
    rw [this, List.take_append_of_le_length (by omega)]
    exact List.take_of_length_le (by omega)
theorem owns_cap {w : World} {base : Nat} {e : TypeId} {size n c : Nat} {a : Option Addr} {xs : List Value} (h : w.ownsRow base e size (.slice a n c) n xs) : n ≤ c ∧ c ≤ maxLen := by
  rcases h.2 with ⟨h1, h2⟩ | ⟨g, cap, cur, hv, _, _, hle, hm, _⟩
  · injection h1 with _ e1 e2
    subst e2
    exact ⟨by omega, Nat.zero_le _⟩
  · injection hv with _ _ e3
    subst e3
    exact ⟨hle, hm⟩
end Go.Proofs.YtdlldljgogbiaabGreat
