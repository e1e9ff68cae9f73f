/- The contracts of term.isProper, Check and Size, and of the reference's Depth and Size. -/
import Derived.Test.YtomahhdhnlfabaaTmMeasure
import Derived.Test.YtomahhdhnlfabaaTmFormed
import Derived.Deep.RegionHeld3
import Derived.BigQuiet
import Derived.Deep.QuietTactic
namespace Go.Proofs.Ytomahhdhnlfabaa
open Go.RowKit
set_option linter.unusedSimpArgs false
set_option linter.unusedVariables false

theorem Tm.mOk_proper (t : Tm) : Tm.mOk t 0 1 = Tm.proper t := by
  unfold Tm.mOk Tm.proper; rw [Nat.zero_add]
theorem Tm.proper_sz {t : Tm} (h : Tm.proper t = true) : Tm.sz t ≤ 600 := by
  unfold Tm.proper at h; simp only [Bool.and_eq_true, decide_eq_true_eq] at h; exact h.1

/-- the method measure, called on a meter that was just made -/
theorem measure_new (o h n : Int) (v : Value) (l : List Tm) (w : World) (cs : Array Value) (t : TypeId) (hv : Lies w (fun _ => True) v l) :
    Calls Try.prog 88 #[.pointer (some ⟨w.heap.size + 1, 0, none⟩), .agg #[.int .i64 o, .int .i64 h, .int .i64 n, v], .int .i64 1] ((w.alloc (.cells cs t)).alloc (.cells #[.int .i64 0, .int .i64 0] 113))
      fun e w' => e = .returned (.bool (Tm.proper (.mk o h n l))) ∧ Below w.heap.size w w' ∧ ∃ c' d' : Int, w'.cell? ⟨w.heap.size + 1, 0, none⟩ = some (.int .i64 c') ∧ w'.cell? ⟨w.heap.size + 1, 1, none⟩ = some (.int .i64 d') ∧
        (Tm.proper (.mk o h n l) = true → c' = (Tm.sz (.mk o h n l) : Nat) ∧ d' = (Tm.depth (.mk o h n l) : Nat)) := by
  have h2 := two_below w (.cells cs t) (.cells #[.int .i64 0, .int .i64 0] 113)
  have hB : ((w.alloc (.cells cs t)).alloc (.cells #[.int .i64 0, .int .i64 0] 113)).heap[w.heap.size + 1]? = some (.cells #[.int .i64 ((0 : Nat) : Int), .int .i64 ((0 : Nat) : Int)] 113 (0, 0)) := by
    have := heap_alloc_new (w.alloc (.cells cs t)) (.cells #[.int .i64 0, .int .i64 0] 113)
    simpa using this
  have hv' : Lies ((w.alloc (.cells cs t)).alloc (.cells #[.int .i64 0, .int .i64 0] 113)) (· ≠ w.heap.size + 1) v l :=
    (hv.more (S' := (· ≠ w.heap.size + 1)) (fun b hb _ => by omega)).keep h2
  have call := measure_calls (w.heap.size + 1) _ o h n v l _ 0 0 1 (Nat.le_refl _) hv' hB (by omega) (by omega)
  refine Calls.mono call ?_
  rintro e w1 ⟨rfl, ho, c', d', hb, himp⟩
  rw [Tm.mOk_proper] at himp ⊢
  refine ⟨rfl, ho.fresh h2 (by omega), c', d', cell_in hb 0 _ rfl, cell_in hb 1 _ rfl, fun hp => ?_⟩
  obtain ⟨e1, e2⟩ := himp hp
  exact ⟨by rw [e1, Nat.zero_add], by rw [e2]; congr 1; omega⟩

set_option maxHeartbeats 1000000 in
set_option maxRecDepth 100000 in
/-- isProper answers whether a term is proper. -/
theorem isProper_any (o h n : Int) (v : Value) (l : List Tm) (w : World) (hv : Lies w (fun _ => True) v l) :
    Calls Try.prog 44 #[.agg #[.int .i64 o, .int .i64 h, .int .i64 n, v]] w fun e w' => e = .returned (.bool (Tm.proper (.mk o h n l))) ∧ Below w.heap.size w w' := by
  obtain ⟨a2, n2, m2, rfl⟩ := hv.isSlice
  have call := measure_new o h n _ l w #[.int .i64 o, .int .i64 h, .int .i64 n, .slice a2 n2 m2] 24 hv
  clear hv
  go_enter Try.func44, Try.ntmps44
  go_wp2_with (go_at_call 88; (with_reducible refine call.mono ?_); rintro e w1 ⟨rfl, hb1, c', d', hc1, hc2, himp⟩)
  go_ret
  exact ⟨rfl, hb1⟩

set_option maxHeartbeats 1000000 in
set_option maxRecDepth 100000 in
/-- Check answers OK, or ErrArg if a term is not proper. -/
theorem check_any (o h n : Int) (v : Value) (l : List Tm) (w : World) (hv : Lies w (fun _ => True) v l) :
    Calls Try.prog 94 #[.agg #[.int .i64 o, .int .i64 h, .int .i64 n, v]] w fun e w' => e = .returned (.int .i64 (if Tm.proper (.mk o h n l) then 0 else 2)) ∧ Below w.heap.size w w' := by
  obtain ⟨a2, n2, m2, rfl⟩ := hv.isSlice
  have hb0 := one_below w (.cells #[.int .i64 o, .int .i64 h, .int .i64 n, .slice a2 n2 m2] 24)
  have call := isProper_any o h n _ l _ (hv.keep hb0)
  rcases hp : Tm.proper (.mk o h n l) with _ | _
  all_goals
    rw [hp] at call
    clear hv hp
    go_enter Try.func94, Try.ntmps94
    go_wp2_with (go_at_call 44; (with_reducible refine call.mono ?_); rintro e w1 ⟨rfl, hb1⟩)
    go_ret
    exact ⟨rfl, hb0.trans (hb1.mono (by simp))⟩

/-- what Size returns -/
def sizeOf (t : Tm) : Ending := if Tm.proper t then .returned (.tuple #[.int .i64 (Tm.sz t : Nat), .int .i64 (Tm.depth t : Nat), .int .i64 0]) else .returned (.tuple #[.int .i64 0, .int .i64 0, .int .i64 2])

set_option maxHeartbeats 1000000 in
set_option maxRecDepth 100000 in
theorem size_any (o h n : Int) (v : Value) (l : List Tm) (w : World) (hv : Lies w (fun _ => True) v l) :
    Calls Try.prog 53 #[.agg #[.int .i64 o, .int .i64 h, .int .i64 n, v]] w fun e w' => e = sizeOf (.mk o h n l) ∧ Below w.heap.size w w' := by
  obtain ⟨a2, n2, m2, rfl⟩ := hv.isSlice
  have call := measure_new o h n _ l w #[.int .i64 o, .int .i64 h, .int .i64 n, .slice a2 n2 m2] 24 hv
  unfold sizeOf
  rcases hp : Tm.proper (.mk o h n l) with _ | _
  · rw [hp] at call
    clear hv hp
    go_enter Try.func53, Try.ntmps53
    go_wp2_with (go_at_call 88; (with_reducible refine call.mono ?_); rintro e w1 ⟨rfl, hb1, c', d', hc1, hc2, himp⟩)
    go_ret3
    exact ⟨rfl, hb1⟩
  · rw [hp] at call
    obtain ⟨s, hs⟩ : ∃ s, s = Tm.sz (.mk o h n l) := ⟨_, rfl⟩
    obtain ⟨d, hd⟩ : ∃ s, s = Tm.depth (.mk o h n l) := ⟨_, rfl⟩
    rw [← hs, ← hd] at call
    rw [← hs, ← hd]
    clear hv hp hs hd
    go_enter Try.func53, Try.ntmps53
    go_wp2_with (go_at_call 88; (with_reducible refine call.mono ?_); rintro e w1 ⟨rfl, hb1, c', d', hc1, hc2, himp⟩; obtain ⟨rfl, rfl⟩ := himp rfl)
    go_quiet (fail)
    go_wp2
    go_ret3
    exact ⟨rfl, below_drawn hb1 _⟩

end Go.Proofs.Ytomahhdhnlfabaa
