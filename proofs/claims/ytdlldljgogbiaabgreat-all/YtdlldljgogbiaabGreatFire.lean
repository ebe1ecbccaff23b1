/-
  Fire, the program's and the reference's.
-/
import Derived.Test.YtdlldljgogbiaabGreatStepsR
import Derived.Test.YtdlldljgogbiaabGreatPlayF
import Derived.Test.YtdlldljgogbiaabGreatText
import Derived.Test.YtdlldljgogbiaabGreatCheckR
import Derived.Test.YtdlldljgogbiaabGreatNetN
import Derived.Test.YtdlldljgogbiaabGreatLayR
import Derived.RegionCalls
import Derived.Deep.RegionWith
namespace Go.Proofs.YtdlldljgogbiaabGreat
open Go.RowKit
set_option linter.unusedVariables false
set_option maxRecDepth 20000

/-- the first marking -/
def Flow.first (s : ByteArray) : Nat := 2 ^ (Flow.bt s 0 - 65)
/-- the steps of a run in the net that s writes -/
def Flow.played (s run : ByteArray) : Nat × Nat × Nat := Flow.steps (Flow.readTr s) (Flow.first s) run 0
/-- Fire's answer -/
def Flow.fireS (s run : ByteArray) : ByteArray := if 65536 < run.size then ⟨#[]⟩ else if Flow.checkErr s ≠ 0 then ⟨#[]⟩ else if (Flow.played s run).2.1 ≠ 0 then ⟨#[]⟩ else Flow.text (Flow.played s run).1
def Flow.fireE (s run : ByteArray) : Nat := if 65536 < run.size then 1 else if Flow.checkErr s ≠ 0 then Flow.checkErr s else (Flow.played s run).2.1
def Flow.fireP (s run : ByteArray) : Nat := if 65536 < run.size then 0 else if Flow.checkErr s ≠ 0 then Flow.checkAt s else if (Flow.played s run).2.1 ≠ 0 then (Flow.played s run).2.2 else 0
def FirePost (s run : ByteArray) (w : World) (e : Ending) (w' : World) : Prop := e = .returned (.tuple #[.string (Flow.fireS s run), .int .i64 (Flow.fireE s run), .int .i64 (Flow.fireP s run)]) ∧ Below w.heap.size w w'

theorem firePost_long {s run : ByteArray} {w W : World} (h : 65536 < run.size) (hb : Below w.heap.size w W) : FirePost s run w (.returned (.tuple #[.string ⟨#[]⟩, .int .i64 1, .int .i64 0])) W := by
  unfold FirePost Flow.fireS Flow.fireE Flow.fireP; rw [if_pos h, if_pos h, if_pos h]; exact ⟨rfl, hb⟩
theorem firePost_check {s run : ByteArray} {w W : World} (h : ¬ 65536 < run.size) (g : Flow.checkErr s ≠ 0) (hb : Below w.heap.size w W) : FirePost s run w (.returned (.tuple #[.string ⟨#[]⟩, .int .i64 (Flow.checkErr s), .int .i64 (Flow.checkAt s)])) W := by
  unfold FirePost Flow.fireS Flow.fireE Flow.fireP; rw [if_neg h, if_neg h, if_neg h, if_pos g, if_pos g, if_pos g]; exact ⟨rfl, hb⟩
theorem firePost_step {s run : ByteArray} {w W : World} (h : ¬ 65536 < run.size) (g : Flow.checkErr s = 0) (f : (Flow.played s run).2.1 ≠ 0) (hb : Below w.heap.size w W) : FirePost s run w (.returned (.tuple #[.string ⟨#[]⟩, .int .i64 (Flow.played s run).2.1, .int .i64 (Flow.played s run).2.2])) W := by
  have g' : ¬ (Flow.checkErr s ≠ 0) := fun x => x g
  unfold FirePost Flow.fireS Flow.fireE Flow.fireP; rw [if_neg h, if_neg h, if_neg h, if_neg g', if_neg g', if_neg g', if_pos f, if_pos f]; exact ⟨rfl, hb⟩
theorem firePost_ok {s run : ByteArray} {w W : World} (h : ¬ 65536 < run.size) (g : Flow.checkErr s = 0) (f : (Flow.played s run).2.1 = 0) (hb : Below w.heap.size w W) : FirePost s run w (.returned (.tuple #[.string (Flow.text (Flow.played s run).1), .int .i64 0, .int .i64 0])) W := by
  have g' : ¬ (Flow.checkErr s ≠ 0) := fun x => x g
  have f' : ¬ ((Flow.played s run).2.1 ≠ 0) := fun x => x f
  unfold FirePost Flow.fireS Flow.fireE Flow.fireP; rw [if_neg h, if_neg h, if_neg h, if_neg g', if_neg g', if_neg g', if_neg f', if_neg f', f]; exact ⟨rfl, hb⟩

theorem checkErr_long {s : ByteArray} (h : 160 < s.size) : Flow.checkErr s = 1 ∧ Flow.checkAt s = 0 := ⟨by unfold Flow.checkErr; rw [if_pos h], by unfold Flow.checkAt; rw [if_pos h]⟩
theorem checkErr_ok {s : ByteArray} (h : Flow.checkErr s = 0) : Flow.readOk s = true ∧ s.size ≤ 160 ∧ Flow.isPl (Flow.bt s 0) = true ∧ Flow.isPl (Flow.bt s 1) = true := by
  have hl : ¬ 160 < s.size := fun x => by rw [(checkErr_long x).1] at h; omega
  have hok : Flow.readOk s = true := by
    unfold Flow.checkErr at h
    rw [if_neg hl] at h
    cases e : Flow.readOk s
    · rw [if_pos e] at h; omega
    · rfl
  have hh := (readOk_size hok).2
  unfold Flow.headAt at hh
  split at hh
  · omega
  · split at hh
    · omega
    · rename_i h1 h2
      simp at h1 h2
      exact ⟨hok, by omega, h1.2, h2.2.1⟩

/-- a marking that steps come to is small -/
theorem steps_lt {ts : List Flow.Tr} {run : ByteArray} {m i : Nat} (hts : ∀ t ∈ ts, Flow.Small t) (hm : m < 65536) : (Flow.steps ts m run i).1 < 65536 := by
  induction n : run.size - i generalizing i m with
  | zero => rw [Flow.steps_end (by omega)]; exact hm
  | succ n ih =>
    have hi : i < run.size := by omega
    by_cases g : Flow.num (Flow.bt run i) < ts.length
    · have ht := List.getElem?_eq_getElem g
      have hs := hts _ (List.mem_of_getElem? ht)
      by_cases f : Flow.fireErr ts[Flow.num (Flow.bt run i)] m = 0
      · rw [Flow.steps_go hi ht f]; exact ih (after_lt hm hs f) (by omega)
      · rw [Flow.steps_bad hi ht f]; simp
    · rw [Flow.steps_none hi (by omega)]; simp
theorem first_lt {s : ByteArray} (h : Flow.isPl (Flow.bt s 0) = true) : Flow.first s < 65536 ∧ Flow.first s = Flow.pbit (Flow.bt s 0) := by
  have e : Flow.first s = Flow.pbit (Flow.bt s 0) := by unfold Flow.first Flow.pbit; rw [if_pos h]
  rw [e]; exact ⟨Flow.pbit_lt _, rfl⟩

theorem fireE_ok {s run : ByteArray} (h : Flow.fireE s run = 0) : ¬ 65536 < run.size ∧ Flow.checkErr s = 0 ∧ (Flow.played s run).2.1 = 0 := by
  unfold Flow.fireE at h
  by_cases h1 : 65536 < run.size
  · rw [if_pos h1] at h; omega
  · rw [if_neg h1] at h
    by_cases h2 : Flow.checkErr s = 0
    · rw [if_neg (fun x => x h2)] at h; exact ⟨h1, h2, h⟩
    · rw [if_pos h2] at h; exact absurd h h2

/-- what playNet answers -/
def PlayNetPost (s run : ByteArray) (w : World) (e : Ending) (w' : World) : Prop :=
  Below w.heap.size w w' ∧
  ((65536 < run.size ∧ e = .returned (.tuple #[.agg (netF 0 0 none 0 0), .int .i64 0, .int .i64 1, .int .i64 0])) ∨
   (¬ 65536 < run.size ∧ Flow.checkErr s ≠ 0 ∧ e = .returned (.tuple #[.agg (netF 0 0 none 0 0), .int .i64 0, .int .i64 (Flow.checkErr s), .int .i64 (Flow.checkAt s)])) ∨
   (¬ 65536 < run.size ∧ Flow.checkErr s = 0 ∧ ∃ a cap, e = .returned (.tuple #[.agg (netF (Flow.bt s 0) (Flow.bt s 1) a (Flow.readTr s).length cap), .int .i64 (Flow.played s run).1, .int .i64 (Flow.played s run).2.1, .int .i64 (Flow.played s run).2.2]) ∧
     w'.ownsRow w.heap.size 93 3 (.slice a (Flow.readTr s).length cap) (Flow.readTr s).length (cellsF (Flow.readTr s))))

theorem owns_low {w : World} {base : Nat} {e : TypeId} {size n c : Nat} {a : Option Addr} {xs : List Value} (h : w.ownsRow base e size (.slice a n c) n xs) {x : Nat} (hx : x < base) (j : Nat) (u : Value) : (w.setCell ⟨x, j, none⟩ u).ownsRow base e size (.slice a n c) n xs :=
  owns_far h (by rw [ownBlock_slice]; intro e; have h1 : base ≤ x := (owns_lt h e).1; omega) u
/-- readNet where the net stands -/
theorem netF_ok (s : ByteArray) (w : World) (hs : s.size ≤ maxLen) (h2 : Flow.checkErr s = 0) : Calls Tryz.prog 32 #[.string s] w fun e w' => ∃ a cap, e = .returned (.tuple #[.agg (netF (Flow.bt s 0) (Flow.bt s 1) a (Flow.readTr s).length cap), .int .i64 0, .int .i64 0]) ∧ Below w.heap.size w w' ∧ w'.ownsRow w.heap.size 93 3 (.slice a (Flow.readTr s).length cap) (Flow.readTr s).length (cellsF (Flow.readTr s)) := (netF_any s w hs).mono fun e w' h => by
  obtain ⟨hok, hsz, hp0, hp1⟩ := checkErr_ok h2
  obtain ⟨v, he, hb, hg, _⟩ := h
  obtain ⟨a, cap, hv, ho⟩ := hg h2
  have h3 : Flow.checkAt s = 0 := by
    unfold Flow.checkAt
    rw [if_neg (by omega), if_neg (by rw [hok]; simp), if_neg]
    intro x
    unfold Flow.checkErr at h2
    rw [if_neg (by omega), if_neg (by rw [hok]; simp), if_pos x] at h2
    omega
  rw [h2, h3, hv] at he
  exact ⟨a, cap, he, hb, ho⟩
theorem netF_no (s : ByteArray) (w : World) (hs : s.size ≤ maxLen) (h2 : Flow.checkErr s ≠ 0) : Calls Tryz.prog 32 #[.string s] w fun e w' => e = .returned (.tuple #[.agg (netF 0 0 none 0 0), .int .i64 (Flow.checkErr s), .int .i64 (Flow.checkAt s)]) ∧ Below w.heap.size w w' := (netF_any s w hs).mono fun e w' h => by
  obtain ⟨v, he, hb, _, hn⟩ := h
  rw [hn h2] at he
  exact ⟨he, hb⟩
theorem playF_net (s run : ByteArray) (a : Option Addr) (cap base : Nat) (w : World) (hr : run.size ≤ maxLen) (h2 : Flow.checkErr s = 0) (ho : w.ownsRow base 93 3 (.slice a (Flow.readTr s).length cap) (Flow.readTr s).length (cellsF (Flow.readTr s))) :
    Calls Tryz.prog 67 #[.agg (netF (Flow.bt s 0) (Flow.bt s 1) a (Flow.readTr s).length cap), .string run] w fun e w' => e = .returned (.tuple #[.int .i64 (Flow.played s run).1, .int .i64 (Flow.played s run).2.1, .int .i64 (Flow.played s run).2.2]) ∧ Below w.heap.size w w' := by
  obtain ⟨hok, hsz, hp0, hp1⟩ := checkErr_ok h2
  obtain ⟨hf, hfe⟩ := first_lt hp0
  have := playF_any (Flow.readTr s) (Flow.bt s 0) (Flow.bt s 1) a cap base run w (Flow.bt_lt _ _) hr (readTr_small s) (readTr_size s) ho
  rw [← hfe] at this
  exact this

set_option maxHeartbeats 1000000 in
theorem playNet_any (s run : ByteArray) (w : World) (hs : s.size ≤ maxLen) (hr : run.size ≤ maxLen) : Calls Tryz.prog 35 #[.string s, .string run] w (PlayNetPost s run w) := by
  have hr' := hr
  unfold maxLen at hr
  by_cases h1 : 65536 < run.size
  · go_enter Tryz.func35, Tryz.ntmps35
    go_wp2
    exact bodyPost_ret (v := .tuple #[.agg (netF 0 0 none 0 0), .int .i64 0, .int .i64 1, .int .i64 0]) (by simp [results, Tryz.results35, go_sem]) rfl ⟨(Below.refl _ _).alloc (Nat.le_refl _) _, .inl ⟨h1, rfl⟩⟩
  · by_cases h2 : Flow.checkErr s = 0
    · have c1 := fun w => netF_ok s w hs h2
      have c2 := fun a cap base w ho => playF_net s run a cap base w hr' h2 ho
      have H2 : Hid _ := h2
      clear h2
      go_enter Tryz.func35, Tryz.ntmps35
      go_wp2_with (first | (go_at_call 32; refine (c1 _).mono ?_; rintro e w1 ⟨a, cap, rfl, hb1, ho1⟩; have k0 : Blk w1 w.heap.size (netF 0 0 none 0 0) 59 := (Blk.new w _ _).below hb1 (by simp); have x0 : w1.cell? ⟨w.heap.size, 0, none⟩ = some (.int .u8 0) := k0.cell 0; have x1 : w1.cell? ⟨w.heap.size, 1, none⟩ = some (.int .u8 0) := k0.cell 1; have x2 : w1.cell? ⟨w.heap.size, 2, none⟩ = some (.slice none 0 0) := k0.cell 2; have y0 := k0.froz 0; have y1 := k0.froz 1; have y2 := k0.froz 2; have z0 := k0.lt; have K0 : Hid (Blk w1 w.heap.size (netF 0 0 none 0 0) 59) := k0; clear k0; have HB1 : Hid _ := hb1; have HO1 : Hid (w1.ownsRow _ 93 3 (.slice a (Flow.readTr s).length cap) (Flow.readTr s).length (cellsF (Flow.readTr s))) := ho1; clear hb1 ho1) | (go_at_call 67; refine (c2 a cap _ _ (HO1.out.alloc _)).mono ?_; rintro e w2 ⟨rfl, hb2⟩; have k2 : Blk w2 w.heap.size (netF 0 0 none 0 0) 59 := (K0.out.alloc _).below hb2 (by simp; omega); have u0 : w2.cell? ⟨w.heap.size, 0, none⟩ = some (.int .u8 0) := k2.cell 0; have u1 : w2.cell? ⟨w.heap.size, 1, none⟩ = some (.int .u8 0) := k2.cell 1; have u2 : w2.cell? ⟨w.heap.size, 2, none⟩ = some (.slice none 0 0) := k2.cell 2; have v0 := k2.froz 0; have v1 := k2.froz 1; have v2 := k2.froz 2; have zz := k2.lt; have k3 : Blk w2 w1.heap.size (netF (Flow.bt s 0) (Flow.bt s 1) a (Flow.readTr s).length cap) 59 := (Blk.new w1 _ _).below hb2 (by simp); have r0 : w2.cell? ⟨w1.heap.size, 0, none⟩ = some (.int .u8 (Flow.bt s 0)) := k3.cell 0; have r1 : w2.cell? ⟨w1.heap.size, 1, none⟩ = some (.int .u8 (Flow.bt s 1)) := k3.cell 1; have r2 : w2.cell? ⟨w1.heap.size, 2, none⟩ = some (.slice a (Flow.readTr s).length cap) := k3.cell 2; have z3 := k3.lt; clear k2 k3; have HB2 : Hid _ := hb2; clear hb2))
      have q1 := HB1.out.size
      have hlow : w.heap.size < (w.alloc (.cells (netF 0 0 none 0 0) 59)).heap.size := by simp
      have O2 := owns_below (HO1.out.alloc (.cells (netF (Flow.bt s 0) (Flow.bt s 1) a (Flow.readTr s).length cap) 59)) HB2.out (Nat.le_refl _)
      have E2 : Below w.heap.size w w2 := ((((Below.refl _ _).alloc (Nat.le_refl _) _).trans (HB1.out.mono (by simp))).alloc (by simp at q1; omega) _).trans (HB2.out.mono (by simp at q1 ⊢; omega))
      exact bodyPost_ret (v := .tuple #[.agg (netF (Flow.bt s 0) (Flow.bt s 1) a (Flow.readTr s).length cap), .int .i64 (Flow.played s run).1, .int .i64 (Flow.played s run).2.1, .int .i64 (Flow.played s run).2.2]) (by simp [results, Tryz.results35, go_sem, u0, u1, u2]) rfl ⟨((E2.setCell (p := ⟨w.heap.size, 0, none⟩) (Nat.le_refl _) _).setCell (p := ⟨w.heap.size, 1, none⟩) (Nat.le_refl _) _).setCell (p := ⟨w.heap.size, 2, none⟩) (Nat.le_refl _) _, .inr (.inr ⟨h1, H2.out, a, cap, rfl, owns_base (owns_low (owns_low (owns_low O2 hlow 0 _) hlow 1 _) hlow 2 _) (by simp)⟩)⟩
    · have c1 := fun w => netF_no s w hs h2
      have t2 : ((Flow.checkErr s : Int) != 0) = true := by simp; omega
      go_enter Tryz.func35, Tryz.ntmps35
      go_wp2_with (go_at_call 32; refine (c1 _).mono ?_; rintro e w1 ⟨rfl, hb1⟩; have k0 : Blk w1 w.heap.size (netF 0 0 none 0 0) 59 := (Blk.new w _ _).below hb1 (by simp); have x0 : w1.cell? ⟨w.heap.size, 0, none⟩ = some (.int .u8 0) := k0.cell 0; have x1 : w1.cell? ⟨w.heap.size, 1, none⟩ = some (.int .u8 0) := k0.cell 1; have x2 : w1.cell? ⟨w.heap.size, 2, none⟩ = some (.slice none 0 0) := k0.cell 2; have y0 := k0.froz 0; have y1 := k0.froz 1; have y2 := k0.froz 2; have z0 := k0.lt; have K0 : Hid (Blk w1 w.heap.size (netF 0 0 none 0 0) 59) := k0; clear k0; have HB1 : Hid _ := hb1; clear hb1)
      refine bodyPost_ret (v := .tuple #[.agg (netF 0 0 none 0 0), .int .i64 0, .int .i64 (Flow.checkErr s), .int .i64 (Flow.checkAt s)]) (by simp [results, Tryz.results35, go_sem, x0, x1, x2, z0]) rfl ⟨?_, .inr (.inl ⟨h1, h2, rfl⟩)⟩
      have q1 := HB1.out.size
      exact ((((((Below.refl _ _).alloc (Nat.le_refl _) _).trans (HB1.out.mono (by simp))).setCell (p := ⟨w.heap.size, 0, none⟩) (Nat.le_refl _) _).setCell (p := ⟨w.heap.size, 1, none⟩) (Nat.le_refl _) _).setCell (p := ⟨w.heap.size, 2, none⟩) (Nat.le_refl _) _).alloc (by simp at q1 ⊢; omega) _

set_option maxHeartbeats 1000000 in
theorem fireF_any (s run : ByteArray) (w : World) (hs : s.size ≤ maxLen) (hr : run.size ≤ maxLen) : Calls Tryz.prog 16 #[.string s, .string run] w (FirePost s run w) := by
  have c1 := fun w => playNet_any s run w hs hr
  by_cases h1 : 65536 < run.size
  · have c2 : ∀ w, Calls Tryz.prog 35 #[.string s, .string run] w fun e w' => e = .returned (.tuple #[.agg (netF 0 0 none 0 0), .int .i64 0, .int .i64 1, .int .i64 0]) ∧ Below w.heap.size w w' := fun w => (c1 w).mono fun e w' h => by
      obtain ⟨hb, ⟨_, he⟩ | ⟨g, _⟩ | ⟨g, _⟩⟩ := h
      · exact ⟨he, hb⟩
      · exact absurd h1 g
      · exact absurd h1 g
    clear c1
    go_enter Tryz.func16, Tryz.ntmps16
    go_wp2_with (go_at_call 35; refine (c2 _).mono ?_; rintro e w1 ⟨rfl, hb1⟩; have HB1 : Hid _ := hb1; clear hb1)
    go_ret3
    exact firePost_long h1 (HB1.out.alloc HB1.out.size _)
  · by_cases h2 : Flow.checkErr s = 0
    · have c2 : ∀ w, Calls Tryz.prog 35 #[.string s, .string run] w fun e w' => ∃ a cap, e = .returned (.tuple #[.agg (netF (Flow.bt s 0) (Flow.bt s 1) a (Flow.readTr s).length cap), .int .i64 (Flow.played s run).1, .int .i64 (Flow.played s run).2.1, .int .i64 (Flow.played s run).2.2]) ∧ Below w.heap.size w w' := fun w => (c1 w).mono fun e w' h => by
        obtain ⟨hb, ⟨g, _⟩ | ⟨_, g, _⟩ | ⟨_, _, a, cap, he, _⟩⟩ := h
        · exact absurd g h1
        · exact absurd h2 g
        · exact ⟨a, cap, he, hb⟩
      clear c1
      obtain ⟨hok, hsz, hp0, hp1⟩ := checkErr_ok h2
      obtain ⟨hf, hfe⟩ := first_lt hp0
      have hlt : (Flow.played s run).1 < 65536 := steps_lt (readTr_small s) hf
      have c3 : ∀ w, Calls Tryz.prog 36 #[.int .i64 (Flow.played s run).1] w fun e w' => e = .returned (.string (Flow.text (Flow.played s run).1)) ∧ Below w.heap.size w w' := fun w => placesOf_any _ _ hlt
      have H2 : Hid _ := h2
      clear h2 hok hp0 hp1 hfe hf hlt
      by_cases h4 : (Flow.played s run).2.1 = 0
      · have H4 : Hid _ := h4
        rw [h4] at c2
        clear h4
        go_enter Tryz.func16, Tryz.ntmps16
        go_wp2_with (first | (go_at_call 35; refine (c2 _).mono ?_; rintro e w1 ⟨a, cap, rfl, hb1⟩; have HB1 : Hid _ := hb1; clear hb1) | (go_at_call 36; refine (c3 _).mono ?_; rintro e w3 ⟨rfl, hb3⟩; have HB3 : Hid _ := hb3; clear hb3))
        go_ret3
        have q1 := HB1.out.size
        exact firePost_ok h1 H2.out H4.out ((HB1.out.alloc HB1.out.size _).trans (HB3.out.mono (by simp; omega)))
      · have t4 : (((Flow.played s run).2.1 : Int) != 0) = true := by simp; omega
        have H4 : Hid _ := h4
        clear h4
        go_enter Tryz.func16, Tryz.ntmps16
        go_wp2_with (go_at_call 35; refine (c2 _).mono ?_; rintro e w1 ⟨a, cap, rfl, hb1⟩; have HB1 : Hid _ := hb1; clear hb1)
        go_ret3
        exact firePost_step h1 H2.out H4.out (HB1.out.alloc HB1.out.size _)
    · have c2 : ∀ w, Calls Tryz.prog 35 #[.string s, .string run] w fun e w' => e = .returned (.tuple #[.agg (netF 0 0 none 0 0), .int .i64 0, .int .i64 (Flow.checkErr s), .int .i64 (Flow.checkAt s)]) ∧ Below w.heap.size w w' := fun w => (c1 w).mono fun e w' h => by
        obtain ⟨hb, ⟨g, _⟩ | ⟨_, _, he⟩ | ⟨_, g, _⟩⟩ := h
        · exact absurd g h1
        · exact ⟨he, hb⟩
        · exact absurd g h2
      clear c1
      have t2 : ((Flow.checkErr s : Int) != 0) = true := by simp; omega
      go_enter Tryz.func16, Tryz.ntmps16
      go_wp2_with (go_at_call 35; refine (c2 _).mono ?_; rintro e w1 ⟨rfl, hb1⟩; have HB1 : Hid _ := hb1; clear hb1)
      go_ret3
      exact firePost_check h1 h2 (HB1.out.alloc HB1.out.size _)
end Go.Proofs.YtdlldljgogbiaabGreat
