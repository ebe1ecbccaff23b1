/-
  The reference's words of a net.
-/
import Derived.Test.YtdlldljgogbiaabLoudR
import Derived.Test.YtdlldljgogbiaabNatsR
import Derived.Deep.RegionHeld3
namespace Go.Proofs.Ytdlldljgogbiaab
open Go.RowKit
set_option linter.unusedVariables false
set_option maxRecDepth 40000

theorem wrapQ (z : Int) : IntKind.i64.wrap z = wrap64 z := IntWalk.i64_left _
/-- what stands all through words -/
structure WStands (w : World) (base0 : Nat) (x y : Int) (a : Option Addr) (cap : Nat) (ts : List Flow.Tr) (l : List Nat) (b : Option Addr) (cb : Nat) (wr : World) : Prop where
  net : Blk wr w.heap.size (netQ x y a ts.length cap) 48
  own : wr.ownsRow base0 60 3 (.slice a ts.length cap) ts.length (cellsR ts)
  row : wr.ownsRow (w.heap.size + 1) 3 1 (.slice b l.length cb) l.length (cellsN l)
  bel : Below w.heap.size w wr
  old : ∀ g, obk a = some g → g < w.heap.size

theorem WStands.step {w : World} {base0 : Nat} {x y : Int} {a : Option Addr} {cap : Nat} {ts : List Flow.Tr} {l out l' : List Nat} {b o b' : Option Addr} {cb co cb' : Nat} {wr w2 w3 : World} (h : WStands w base0 x y a cap ts l b cb wr) (hb : Below wr.heap.size wr w2)
    (hrow : w2.ownsRow (wr.heap.size + 1) 3 1 (.slice o out.length co) out.length (cellsN out)) (hs : QStands w2 base0 (wr.heap.size + 1) x y a cap ts o l' b' cb' w3) : WStands w base0 x y a cap ts l' b' cb' w3 := by
  have hn := h.net.lt
  have hz := hb.size
  refine ⟨(h.net.below hb hn).grown hs.grw ?_, hs.own, owns_base hs.row (by omega), (h.bel.trans (hb.mono h.bel.size)).grown hs.grw (by have := h.bel.size; omega) ?_, h.old⟩
  · intro e; have := (owns_lt hrow e.symm).1; omega
  · intro k hk; have := (owns_lt hrow hk).1; omega
theorem WStands.drew {w : World} {base0 : Nat} {x y : Int} {a : Option Addr} {cap : Nat} {ts : List Flow.Tr} {l : List Nat} {b : Option Addr} {cb : Nat} {wr : World} (h : WStands w base0 x y a cap ts l b cb wr) : WStands w base0 x y a cap ts l b cb wr.drew := ⟨h.net, h.own.drew, h.row.drew, h.bel.drew, h.old⟩

set_option maxHeartbeats 4000000 in
theorem wordsR_any (ts : List Flow.Tr) (st en : Nat) (a : Option Addr) (cap base0 : Nat) (word : ByteArray) (w : World) (hst : st ≤ 15) (hen : en ≤ 15) (hw : word.size ≤ maxLen) (hts : ∀ t ∈ ts, Flow.Small t) (hlen : ts.length ≤ 16)
    (hown : w.ownsRow base0 60 3 (.slice a ts.length cap) ts.length (cellsR ts)) :
    Calls Try.prog 25 #[.agg (netQ st en a ts.length cap), .string word] w fun e w' => ∃ b, e = .returned (.bool b) ∧ (b = true ↔ Flow.Spells ts (2 ^ st) (Flow.nats word) (2 ^ en)) ∧ Below w.heap.size w w' := by
  unfold maxLen at hw
  have OW : Hid (w.ownsRow base0 60 3 (.slice a ts.length cap) ts.length (cellsR ts)) := hown
  have HT : Hid (∀ t ∈ ts, Flow.Small t) := hts
  clear hown hts
  go_enter Try.func25, Try.ntmps25
  go_wp2
  have hpw : IntKind.i64.wrap (2 ^ st) = ((2 ^ st : Nat) : Int) := by rw [wrapQ]; exact pow_small' st hst
  have hM : (2 : Nat) ^ st < 65536 := by
    have h1 : (2 : Nat) ^ st ≤ 2 ^ 15 := Nat.pow_le_pow_right (by omega) hst
    have h2 : (2 : Nat) ^ 15 = 32768 := by decide
    omega
  have n0 : (w.alloc (.cells (netQ (st : Int) (en : Int) a ts.length cap) 48)).cell? ⟨w.heap.size, 0, none⟩ = some (.int .i64 st) := (Blk.new w _ _).cell 0
  have n1 : (w.alloc (.cells (netQ (st : Int) (en : Int) a ts.length cap) 48)).cell? ⟨w.heap.size, 1, none⟩ = some (.int .i64 en) := (Blk.new w _ _).cell 1
  have n2 : (w.alloc (.cells (netQ (st : Int) (en : Int) a ts.length cap) 48)).cell? ⟨w.heap.size, 2, none⟩ = some (.slice a ts.length cap) := (Blk.new w _ _).cell 2
  have B0 : Hid (Blk (w.alloc (.cells (netQ (st : Int) (en : Int) a ts.length cap) 48)) w.heap.size (netQ (st : Int) (en : Int) a ts.length cap) 48) := Blk.new w _ _
  have OW1 : Hid ((w.alloc (.cells (netQ (st : Int) (en : Int) a ts.length cap) 48)).ownsRow base0 60 3 (.slice a ts.length cap) ts.length (cellsR ts)) := OW.out.alloc _
  have HW : Hid (Below w.heap.size w (w.alloc (.cells (netQ (st : Int) (en : Int) a ts.length cap) 48))) := (Below.refl _ _).alloc (Nat.le_refl _) _
  have AL : Hid (∀ g, obk a = some g → g < w.heap.size) := fun g hg => (owns_lt OW.out hg).2
  generalize w.alloc (.cells (netQ (st : Int) (en : Int) a ts.length cap) 48) = W at n0 n1 n2 B0 OW1 HW ⊢
  have z0 := B0.out.lt
  have c1 : Calls Try.prog 53 #[.agg (netQ (st : Int) (en : Int) a ts.length cap), .slice (some ⟨W.heap.size, 0, none⟩) 1 1] (W.alloc (.cells #[.int .i64 ((2 : Int) ^ st)] 3)).drew fun e w' => ∃ b' cb' l, e = .returned (.slice b' l.length cb') ∧ Flow.QUpto ts [2 ^ st] l l.length 0 ∧ WStands w base0 st en a cap ts l b' cb' w' := by
    have hpc : (2 : Int) ^ st = ((2 ^ st : Nat) : Int) := by simp
    rw [hpc]
    have hr : (W.alloc (.cells #[.int .i64 ((2 ^ st : Nat) : Int)] 3)).drew.ownsRow (w.heap.size + 1) 3 1 (.slice (some ⟨W.heap.size, 0, none⟩) 1 1) 1 (cellsN [2 ^ st]) := by
      exact (World.ownsRow_lit (e := 3) (size := 1) (base := w.heap.size + 1) W #[.int .i64 ((2 ^ st : Nat) : Int)] 1 (by omega) (by decide) rfl).drew
    refine (quietR_any ts st en a (some ⟨W.heap.size, 0, none⟩) cap 1 base0 (w.heap.size + 1) [2 ^ st] _ HT.out hlen (by simp) (by intro m hm; rw [List.mem_singleton.1 hm]; exact hM) (by simp; omega) ((OW1.out.alloc _).drew) hr ?_).mono ?_
    · intro g hg e
      have h1 := AL.out g hg
      have h2 : W.heap.size = g := by simpa [obk] using e
      omega
    · rintro e w' ⟨b', cb', l, rfl, hq, hs⟩
      refine ⟨b', cb', l, rfl, hq, ?_, hs.own, hs.row, ?_, AL.out⟩
      · refine (((B0.out.alloc _).drew).grown hs.grw ?_)
        intro e
        have : w.heap.size = W.heap.size := by simpa [obk] using e
        omega
      · refine ((HW.out.alloc HW.out.size _).drew).grown hs.grw (by simp; omega) ?_
        intro k hk
        have : W.heap.size = k := by simpa [obk] using hk
        omega
  go_region_with (go_at_call 53; refine c1.mono ?_; rintro e w2 ⟨b, cb, l, rfl, hq, hs⟩; have Q0 : Hid (Flow.QUpto ts [2 ^ st] l l.length 0) := hq; have ST0 : Hid (WStands w base0 st en a cap ts l b cb w2) := hs; clear hq hs)
  all_goals
    go_wp2
    clear n0 n1 n2 B0 OW1 HW z0 c1 OW AL
    have I0 : Hid (l.Nodup ∧ (∀ m ∈ l, m < 65536) ∧ ∀ m, m ∈ l ↔ Flow.Spells ts (2 ^ st) ((Flow.nats word).take 0) m) := ⟨Q0.out.nodup, Q0.out.small, fun m => by rw [List.take_zero]; exact spells_first Q0.out.iff m⟩
    clear Q0
    go_loopw [5, 6] (fun s' i' wr => ∃ (i : Nat) (l : List Nat) (b : Option Addr) (cb : Nat), i ≤ word.size ∧ i' = .int .i64 i ∧ s' = .slice b l.length cb ∧ Hid (WStands w base0 st en a cap ts l b cb wr) ∧ Hid (l.Nodup ∧ (∀ m ∈ l, m < 65536) ∧ ∀ m, m ∈ l ↔ Flow.Spells ts (2 ^ st) ((Flow.nats word).take i) m)) (fun _ i' _ => word.size - (intOf i').toNat)
    case atStart => exact ⟨0, l, b, cb, by omega, rfl, rfl, ST0, I0⟩
    case round =>
      clear ST0 I0
      obtain ⟨i, l, b, cb, hil, rfl, rfl, ST, IV⟩ := hrel
      have n0 : wr.cell? ⟨w.heap.size, 0, none⟩ = some (.int .i64 st) := ST.out.net.cell 0
      have n1 : wr.cell? ⟨w.heap.size, 1, none⟩ = some (.int .i64 en) := ST.out.net.cell 1
      have n2 : wr.cell? ⟨w.heap.size, 2, none⟩ = some (.slice a ts.length cap) := ST.out.net.cell 2
      have z0 := ST.out.net.lt
      by_cases hlt : i < word.size
      · have hI0 : (0 : Int) ≤ (i : Int) := by omega
        have hI1 : (i : Int) < (word.size : Int) := by omega
        have hb256 : word[i].toNat < 256 := UInt8.toNat_lt _
        have c2 := loudR_any ts st en a b cap cb (word[i].toNat) base0 (w.heap.size + 1) l wr.drew hb256 HT.out hlen IV.out.1 IV.out.2.1 ST.out.own.drew ST.out.row.drew
        have c3 : ∀ w2 o co (out : List Nat), Flow.LUpto ts l out word[i].toNat l.length 0 → Below wr.heap.size wr w2 → wr.heap.size + 1 ≤ w2.heap.size → w2.ownsRow (wr.heap.size + 1) 3 1 (.slice o out.length co) out.length (cellsN out) → Calls Try.prog 53 #[.agg (netQ (st : Int) (en : Int) a ts.length cap), .slice o out.length co] w2 fun e w' => ∃ b' cb' l', e = .returned (.slice b' l'.length cb') ∧ (l'.Nodup ∧ (∀ m ∈ l', m < 65536) ∧ ∀ m, m ∈ l' ↔ Flow.Spells ts (2 ^ st) ((Flow.nats word).take (i + 1)) m) ∧ WStands w base0 st en a cap ts l' b' cb' w' := fun w2 o co out hu hb hz hr => by
          refine (quietR_any ts st en a o cap co base0 (wr.heap.size + 1) out w2 HT.out hlen hu.nodup hu.small ?_ (owns_below ST.out.own hb (Nat.le_refl _)) hr ?_).mono ?_
          · exact hz
          · intro g hg e
            have h1 := ST.out.old g hg
            have h2 := (owns_lt hr e).1
            have h3 := ST.out.net.lt
            omega
          · rintro e w' ⟨b', cb', l', rfl, hq, hs⟩
            refine ⟨b', cb', l', rfl, ⟨hq.nodup, hq.small, fun m => ?_⟩, ST.out.step hb hr hs⟩
            rw [nats_take hlt]
            exact spells_next IV.out.2.2 hu.iff hq.iff m
        go_wp2
        go_region_with (go_at_call 54; refine c2.mono ?_; rintro e w2 ⟨o, co, out, rfl, hu, hr, hb, hz⟩; have HZ : Hid (wr.heap.size + 1 ≤ w2.heap.size) := hz; have LU : Hid (Flow.LUpto ts l out word[i].toNat l.length 0) := hu; have LR : Hid (w2.ownsRow (wr.heap.size + 1) 3 1 (.slice o out.length co) out.length (cellsN out)) := hr; have LB : Hid (Below wr.heap.size wr w2) := (Below.refl _ _).drew.trans hb; have k0 := ST.out.net.below LB.out ST.out.net.lt; have v0 : w2.cell? ⟨w.heap.size, 0, none⟩ = some (.int .i64 st) := k0.cell 0; have v1 : w2.cell? ⟨w.heap.size, 1, none⟩ = some (.int .i64 en) := k0.cell 1; have v2 : w2.cell? ⟨w.heap.size, 2, none⟩ = some (.slice a ts.length cap) := k0.cell 2; have y0 := k0.lt; clear hu hr hb k0 hz)
        all_goals go_wp2_with (go_at_call 53; refine (c3 _ _ _ _ LU.out LB.out HZ.out LR.out).mono ?_; rintro e w3 ⟨b', cb', l', rfl, hi', hs'⟩; have IV3 : Hid _ := hi'; have ST3 : Hid (WStands w base0 st en a cap ts l' b' cb' w3) := hs'; clear hi' hs')
        all_goals go_roundw
        all_goals (first | (simp [intOf]; omega) | exact ⟨i + 1, l', b', cb', by omega, by go_num, rfl, ST3, IV3⟩)
      · obtain rfl : i = word.size := by omega
        have hpe : IntKind.i64.wrap (2 ^ en) = ((2 ^ en : Nat) : Int) := by rw [wrapQ]; exact pow_small' en hen
        have h65 := nodup_size IV.out.1 IV.out.2.1
        have c4 : Calls Try.prog 55 #[.slice b l.length cb, .int .i64 ((2 : Int) ^ en)] wr fun e w' => e = .returned (.bool (decide (2 ^ en ∈ l))) ∧ wr = w' := by
          have hpc : (2 : Int) ^ en = ((2 ^ en : Nat) : Int) := by simp
          rw [hpc]
          exact inList_any l (2 ^ en) b cb (w.heap.size + 1) wr h65 ST.out.row
        clear h65
        go_wp2_with (go_at_call 55; refine c4.mono ?_; rintro e w' ⟨rfl, rfl⟩)
        go_ret
        refine ⟨_, rfl, ?_, ST.out.bel⟩
        rw [decide_eq_true_iff, IV.out.2.2 (2 ^ en), nats_all]
end Go.Proofs.Ytdlldljgogbiaab
