/-
  Fire, the program's and the reference's.
-/
import Derived.Test.YtcdddfcadkckkaaStepsR
import Derived.Test.YtcdddfcadkckkaaPlayF
import Derived.Test.YtcdddfcadkckkaaText
import Derived.Test.YtcdddfcadkckkaaCheckR
import Derived.Test.YtcdddfcadkckkaaNetN
import Derived.RegionCalls
import Derived.Deep.RegionWith
namespace Go.Proofs.Ytcdddfcadkckkaa
open Go.RowKit
set_option linter.unusedVariables false

/-- the first marking -/
def Flow.first (s : ByteArray) : Nat := 2 ^ (Flow.bt s 0 - 65)
/-- the steps of a run in the net that s writes -/
def Flow.played (s run : ByteArray) : Nat × Nat × Nat := Flow.steps (Flow.readTr s) (Flow.first s) run 0
/-- Fire's answer -/
def Flow.fireS (s run : ByteArray) : ByteArray := if 65536 < run.size then ⟨#[]⟩ else if Flow.checkErr s ≠ 0 then ⟨#[]⟩ else if (Flow.played s run).2.1 ≠ 0 then ⟨#[]⟩ else Flow.text (Flow.played s run).1
def Flow.fireE (s run : ByteArray) : Nat := if 65536 < run.size then 1 else if Flow.checkErr s ≠ 0 then Flow.checkErr s else (Flow.played s run).2.1
def Flow.fireP (s run : ByteArray) : Nat := if 65536 < run.size then 0 else if Flow.checkErr s ≠ 0 then Flow.checkAt s else if (Flow.played s run).2.1 ≠ 0 then (Flow.played s run).2.2 else 0
def FirePost (s run : ByteArray) (w : World) (e : Ending) (w' : World) : Prop := e = .returned (.tuple #[.string (Flow.fireS s run), .int .i64 (Flow.fireE s run), .int .i64 (Flow.fireP s run)]) ∧ Below w.heap.size w w'

theorem firePost_long {s run : ByteArray} {w W : World} (h : 65536 < run.size) (hb : Below w.heap.size w W) : FirePost s run w (.returned (.tuple #[.string ⟨#[]⟩, .int .i64 1, .int .i64 0])) W := by
  unfold FirePost Flow.fireS Flow.fireE Flow.fireP; rw [if_pos h, if_pos h, if_pos h]; exact ⟨rfl, hb⟩
theorem firePost_check {s run : ByteArray} {w W : World} (h : ¬ 65536 < run.size) (g : Flow.checkErr s ≠ 0) (hb : Below w.heap.size w W) : FirePost s run w (.returned (.tuple #[.string ⟨#[]⟩, .int .i64 (Flow.checkErr s), .int .i64 (Flow.checkAt s)])) W := by
  unfold FirePost Flow.fireS Flow.fireE Flow.fireP; rw [if_neg h, if_neg h, if_neg h, if_pos g, if_pos g, if_pos g]; exact ⟨rfl, hb⟩
theorem firePost_step {s run : ByteArray} {w W : World} (h : ¬ 65536 < run.size) (g : Flow.checkErr s = 0) (f : (Flow.played s run).2.1 ≠ 0) (hb : Below w.heap.size w W) : FirePost s run w (.returned (.tuple #[.string ⟨#[]⟩, .int .i64 (Flow.played s run).2.1, .int .i64 (Flow.played s run).2.2])) W := by
  have g' : ¬ (Flow.checkErr s ≠ 0) := fun x => x g
  unfold FirePost Flow.fireS Flow.fireE Flow.fireP; rw [if_neg h, if_neg h, if_neg h, if_neg g', if_neg g', if_neg g', if_pos f, if_pos f]; exact ⟨rfl, hb⟩
theorem firePost_ok {s run : ByteArray} {w W : World} (h : ¬ 65536 < run.size) (g : Flow.checkErr s = 0) (f : (Flow.played s run).2.1 = 0) (hb : Below w.heap.size w W) : FirePost s run w (.returned (.tuple #[.string (Flow.text (Flow.played s run).1), .int .i64 0, .int .i64 0])) W := by
  have g' : ¬ (Flow.checkErr s ≠ 0) := fun x => x g
  have f' : ¬ ((Flow.played s run).2.1 ≠ 0) := fun x => x f
  unfold FirePost Flow.fireS Flow.fireE Flow.fireP; rw [if_neg h, if_neg h, if_neg h, if_neg g', if_neg g', if_neg g', if_neg f', if_neg f', f]; exact ⟨rfl, hb⟩

theorem checkErr_long {s : ByteArray} (h : 160 < s.size) : Flow.checkErr s = 1 ∧ Flow.checkAt s = 0 := ⟨by unfold Flow.checkErr; rw [if_pos h], by unfold Flow.checkAt; rw [if_pos h]⟩
theorem checkErr_ok {s : ByteArray} (h : Flow.checkErr s = 0) : Flow.readOk s = true ∧ s.size ≤ 160 ∧ Flow.isPl (Flow.bt s 0) = true ∧ Flow.isPl (Flow.bt s 1) = true := by
  have hl : ¬ 160 < s.size := fun x => by rw [(checkErr_long x).1] at h; omega
  have hok : Flow.readOk s = true := by
    unfold Flow.checkErr at h
    rw [if_neg hl] at h
    cases e : Flow.readOk s
    · rw [if_pos e] at h; omega
    · rfl
  have hh := (readOk_size hok).2
  unfold Flow.headAt at hh
  split at hh
  · omega
  · split at hh
    · omega
    · rename_i h1 h2
      simp at h1 h2
      exact ⟨hok, by omega, h1.2, h2.2.1⟩

/-- a marking that steps come to is small -/
theorem steps_lt {ts : List Flow.Tr} {run : ByteArray} {m i : Nat} (hts : ∀ t ∈ ts, Flow.Small t) (hm : m < 65536) : (Flow.steps ts m run i).1 < 65536 := by
  induction n : run.size - i generalizing i m with
  | zero => rw [Flow.steps_end (by omega)]; exact hm
  | succ n ih =>
    have hi : i < run.size := by omega
    by_cases g : Flow.num (Flow.bt run i) < ts.length
    · have ht := List.getElem?_eq_getElem g
      have hs := hts _ (List.mem_of_getElem? ht)
      by_cases f : Flow.fireErr ts[Flow.num (Flow.bt run i)] m = 0
      · rw [Flow.steps_go hi ht f]; exact ih (after_lt hm hs f) (by omega)
      · rw [Flow.steps_bad hi ht f]; simp
    · rw [Flow.steps_none hi (by omega)]; simp
theorem first_lt {s : ByteArray} (h : Flow.isPl (Flow.bt s 0) = true) : Flow.first s < 65536 ∧ Flow.first s = Flow.pbit (Flow.bt s 0) := by
  have e : Flow.first s = Flow.pbit (Flow.bt s 0) := by unfold Flow.first Flow.pbit; rw [if_pos h]
  rw [e]; exact ⟨Flow.pbit_lt _, rfl⟩

set_option maxHeartbeats 1000000 in
theorem fireF_any (s run : ByteArray) (w : World) (hs : s.size ≤ maxLen) (hr : run.size ≤ maxLen) : Calls Try.prog 8 #[.string s, .string run] w (FirePost s run w) := by
  have hr' := hr
  unfold maxLen at hr
  by_cases h1 : 65536 < run.size
  · go_enter Try.func8, Try.ntmps8
    go_wp2
    go_ret3
    exact firePost_long h1 (Below.refl _ _)
  · by_cases h2 : Flow.checkErr s = 0
    · obtain ⟨hok, hsz, hp0, hp1⟩ := checkErr_ok h2
      obtain ⟨hf, hfe⟩ := first_lt hp0
      have c1 : ∀ w, Calls Try.prog 10 #[.string s] w fun e w' => ∃ a cap, e = .returned (.tuple #[.agg #[.int .u8 (Flow.bt s 0), .int .u8 (Flow.bt s 1), .slice a (Flow.readTr s).length cap], .int .i64 0, .int .i64 0]) ∧ Below w.heap.size w w' ∧ w'.ownsRow w.heap.size 62 2 (.slice a (Flow.readTr s).length cap) (Flow.readTr s).length (cellsF (Flow.readTr s)) := fun w => (netF_any s w hs).mono fun e w' h => by
        obtain ⟨v, he, hb, hg, _⟩ := h
        obtain ⟨a, cap, hv, ho⟩ := hg h2
        have h3 : Flow.checkAt s = 0 := by
          unfold Flow.checkAt
          rw [if_neg (by omega), if_neg (by rw [hok]; simp), if_neg]
          intro x
          unfold Flow.checkErr at h2
          rw [if_neg (by omega), if_neg (by rw [hok]; simp), if_pos x] at h2
          omega
        rw [h2, h3, hv] at he
        exact ⟨a, cap, he, hb, ho⟩
      have c2 : ∀ a cap base w, w.ownsRow base 62 2 (.slice a (Flow.readTr s).length cap) (Flow.readTr s).length (cellsF (Flow.readTr s)) → Calls Try.prog 13 #[.agg #[.int .u8 (Flow.bt s 0), .int .u8 (Flow.bt s 1), .slice a (Flow.readTr s).length cap], .string run] w fun e w' => e = .returned (.tuple #[.int .i64 (Flow.played s run).1, .int .i64 (Flow.played s run).2.1, .int .i64 (Flow.played s run).2.2]) ∧ Below w.heap.size w w' := fun a cap base w ho => by
        have := playF_any (Flow.readTr s) (Flow.bt s 0) (Flow.bt s 1) a cap base run w (Flow.bt_lt _ _) hr' (readTr_small s) (readTr_size s) ho
        rw [← hfe] at this
        exact this
      have hlt : (Flow.played s run).1 < 65536 := steps_lt (readTr_small s) hf
      have H2 : Hid _ := h2
      clear h2 hok hp0 hp1 hfe hf
      by_cases h4 : (Flow.played s run).2.1 = 0
      · have H4 : Hid _ := h4
        rw [h4] at c2
        clear h4
        go_enter Try.func8, Try.ntmps8
        go_wp2_with (first | (go_at_call 10; refine (c1 _).mono ?_; rintro e w1 ⟨a, cap, rfl, hb1, ho1⟩; have HB1 : Hid _ := hb1; have HO1 : Hid (w1.ownsRow _ 62 2 (.slice a (Flow.readTr s).length cap) (Flow.readTr s).length (cellsF (Flow.readTr s))) := ho1; clear hb1 ho1) | (go_at_call 13; refine (c2 a cap _ _ (HO1.out.alloc _)).mono ?_; rintro e w2 ⟨rfl, hb2⟩; have HB2 : Hid _ := hb2; clear hb2) | (go_at_call 14; refine (placesOf_any _ _ hlt).mono ?_; rintro e w3 ⟨rfl, hb3⟩; have HB3 : Hid _ := hb3; clear hb3))
        go_ret3
        have q1 := HB1.out.size
        have q2 := HB2.out.size
        simp at q2
        exact firePost_ok h1 H2.out H4.out (((HB1.out.alloc HB1.out.size _).trans (HB2.out.mono (by simp; omega))).trans (HB3.out.mono (by omega)))
      · have t4 : (((Flow.played s run).2.1 : Int) != 0) = true := by simp; omega
        have H4 : Hid _ := h4
        clear h4
        go_enter Try.func8, Try.ntmps8
        go_wp2_with (first | (go_at_call 10; refine (c1 _).mono ?_; rintro e w1 ⟨a, cap, rfl, hb1, ho1⟩; have HB1 : Hid _ := hb1; have HO1 : Hid (w1.ownsRow _ 62 2 (.slice a (Flow.readTr s).length cap) (Flow.readTr s).length (cellsF (Flow.readTr s))) := ho1; clear hb1 ho1) | (go_at_call 13; refine (c2 a cap _ _ (HO1.out.alloc _)).mono ?_; rintro e w2 ⟨rfl, hb2⟩; have HB2 : Hid _ := hb2; clear hb2))
        go_ret3
        have q1 := HB1.out.size
        exact firePost_step h1 H2.out H4.out ((HB1.out.alloc HB1.out.size _).trans (HB2.out.mono (by simp; omega)))
    · have c1 : ∀ w, Calls Try.prog 10 #[.string s] w fun e w' => e = .returned (.tuple #[.agg #[.int .u8 0, .int .u8 0, .slice none 0 0], .int .i64 (Flow.checkErr s), .int .i64 (Flow.checkAt s)]) ∧ Below w.heap.size w w' := fun w => (netF_any s w hs).mono fun e w' h => by
        obtain ⟨v, he, hb, _, hn⟩ := h
        rw [hn h2] at he
        exact ⟨he, hb⟩
      have t2 : ((Flow.checkErr s : Int) != 0) = true := by simp; omega
      go_enter Try.func8, Try.ntmps8
      go_wp2_with (go_at_call 10; refine (c1 _).mono ?_; rintro e w1 ⟨rfl, hb1⟩; have HB1 : Hid _ := hb1; clear hb1)
      go_ret3
      exact firePost_check h1 h2 (HB1.out.alloc HB1.out.size _)
end Go.Proofs.Ytcdddfcadkckkaa
