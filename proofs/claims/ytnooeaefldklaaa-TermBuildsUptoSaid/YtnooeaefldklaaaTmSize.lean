/- The contracts of term.isProper, Check and Size, and of the reference's Depth and Size. -/
import Derived.Test.YtnooeaefldklaaaTmMeasure
import Derived.Test.YtnooeaefldklaaaTmFormed
import Derived.Deep.RegionHeld3
import Derived.BigQuiet
import Derived.Deep.QuietTactic
namespace Go.Proofs.Ytnooeaefldklaaa
open Go.RowKit
set_option linter.unusedSimpArgs false
set_option linter.unusedVariables false

theorem Tm.mOk_proper (t : Tm) : Tm.mOk t 0 1 = Tm.proper t := by
  unfold Tm.mOk Tm.proper; rw [Nat.zero_add]
theorem Tm.proper_sz {t : Tm} (h : Tm.proper t = true) : Tm.sz t ≤ 600 := by
  unfold Tm.proper at h; simp only [Bool.and_eq_true, decide_eq_true_eq] at h; exact h.1

/-- the method measure, called on a meter that was just made -/
theorem measure_new (o h n : Int) (v : Value) (l : List Tm) (w : World) (cs : Array Value) (t : TypeId) (hv : Lies w (fun _ => True) v l) :
    Calls Try.prog 48 #[.pointer (some ⟨w.heap.size + 1, 0, none⟩), .agg #[.int .i64 o, .int .i64 h, .int .i64 n, v], .int .i64 1] ((w.alloc (.cells cs t)).alloc (.cells #[.int .i64 0, .int .i64 0] 81))
      fun e w' => e = .returned (.bool (Tm.proper (.mk o h n l))) ∧ Below w.heap.size w w' ∧ ∃ c' d' : Int, w'.cell? ⟨w.heap.size + 1, 0, none⟩ = some (.int .i64 c') ∧ w'.cell? ⟨w.heap.size + 1, 1, none⟩ = some (.int .i64 d') ∧
        (Tm.proper (.mk o h n l) = true → c' = (Tm.sz (.mk o h n l) : Nat) ∧ d' = (Tm.depth (.mk o h n l) : Nat)) := by
  have h2 := two_below w (.cells cs t) (.cells #[.int .i64 0, .int .i64 0] 81)
  have hB : ((w.alloc (.cells cs t)).alloc (.cells #[.int .i64 0, .int .i64 0] 81)).heap[w.heap.size + 1]? = some (.cells #[.int .i64 ((0 : Nat) : Int), .int .i64 ((0 : Nat) : Int)] 81 (0, 0)) := by
    have := heap_alloc_new (w.alloc (.cells cs t)) (.cells #[.int .i64 0, .int .i64 0] 81)
    simpa using this
  have hv' : Lies ((w.alloc (.cells cs t)).alloc (.cells #[.int .i64 0, .int .i64 0] 81)) (· ≠ w.heap.size + 1) v l :=
    (hv.more (S' := (· ≠ w.heap.size + 1)) (fun b hb _ => by omega)).keep h2
  have call := measure_calls (w.heap.size + 1) _ o h n v l _ 0 0 1 (Nat.le_refl _) hv' hB (by omega) (by omega)
  refine Calls.mono call ?_
  rintro e w1 ⟨rfl, ho, c', d', hb, himp⟩
  rw [Tm.mOk_proper] at himp ⊢
  refine ⟨rfl, ho.fresh h2 (by omega), c', d', cell_in hb 0 _ rfl, cell_in hb 1 _ rfl, fun hp => ?_⟩
  obtain ⟨e1, e2⟩ := himp hp
  exact ⟨by rw [e1, Nat.zero_add], by rw [e2]; congr 1; omega⟩

set_option maxHeartbeats 1000000 in
set_option maxRecDepth 100000 in
/-- isProper answers whether a term is proper. -/
theorem isProper_any (o h n : Int) (v : Value) (l : List Tm) (w : World) (hv : Lies w (fun _ => True) v l) :
    Calls Try.prog 47 #[.agg #[.int .i64 o, .int .i64 h, .int .i64 n, v]] w fun e w' => e = .returned (.bool (Tm.proper (.mk o h n l))) ∧ Below w.heap.size w w' := by
  obtain ⟨a2, n2, m2, rfl⟩ := hv.isSlice
  have call := measure_new o h n _ l w #[.int .i64 o, .int .i64 h, .int .i64 n, .slice a2 n2 m2] 24 hv
  clear hv
  go_enter Try.func47, Try.ntmps47
  go_wp2_with (go_at_call 48; (with_reducible refine call.mono ?_); rintro e w1 ⟨rfl, hb1, c', d', hc1, hc2, himp⟩)
  go_ret
  exact ⟨rfl, hb1⟩

set_option maxHeartbeats 1000000 in
set_option maxRecDepth 100000 in
/-- Check answers OK, or ErrArg if a term is not proper. -/
theorem check_any (o h n : Int) (v : Value) (l : List Tm) (w : World) (hv : Lies w (fun _ => True) v l) :
    Calls Try.prog 14 #[.agg #[.int .i64 o, .int .i64 h, .int .i64 n, v]] w fun e w' => e = .returned (.int .i64 (if Tm.proper (.mk o h n l) then 0 else 2)) ∧ Below w.heap.size w w' := by
  obtain ⟨a2, n2, m2, rfl⟩ := hv.isSlice
  have hb0 := one_below w (.cells #[.int .i64 o, .int .i64 h, .int .i64 n, .slice a2 n2 m2] 24)
  have call := isProper_any o h n _ l _ (hv.keep hb0)
  rcases hp : Tm.proper (.mk o h n l) with _ | _
  all_goals
    rw [hp] at call
    clear hv hp
    go_enter Try.func14, Try.ntmps14
    go_wp2_with (go_at_call 47; (with_reducible refine call.mono ?_); rintro e w1 ⟨rfl, hb1⟩)
    go_ret
    exact ⟨rfl, hb0.trans (hb1.mono (by simp))⟩

/-- what Size returns -/
def sizeOf (t : Tm) : Ending := if Tm.proper t then .returned (.tuple #[.int .i64 (Tm.sz t : Nat), .int .i64 (Tm.depth t : Nat), .int .i64 0]) else .returned (.tuple #[.int .i64 0, .int .i64 0, .int .i64 2])

set_option maxHeartbeats 1000000 in
set_option maxRecDepth 100000 in
theorem size_any (o h n : Int) (v : Value) (l : List Tm) (w : World) (hv : Lies w (fun _ => True) v l) :
    Calls Try.prog 15 #[.agg #[.int .i64 o, .int .i64 h, .int .i64 n, v]] w fun e w' => e = sizeOf (.mk o h n l) ∧ Below w.heap.size w w' := by
  obtain ⟨a2, n2, m2, rfl⟩ := hv.isSlice
  have call := measure_new o h n _ l w #[.int .i64 o, .int .i64 h, .int .i64 n, .slice a2 n2 m2] 24 hv
  unfold sizeOf
  rcases hp : Tm.proper (.mk o h n l) with _ | _
  · rw [hp] at call
    clear hv hp
    go_enter Try.func15, Try.ntmps15
    go_wp2_with (go_at_call 48; (with_reducible refine call.mono ?_); rintro e w1 ⟨rfl, hb1, c', d', hc1, hc2, himp⟩)
    go_ret3
    exact ⟨rfl, hb1⟩
  · rw [hp] at call
    obtain ⟨s, hs⟩ : ∃ s, s = Tm.sz (.mk o h n l) := ⟨_, rfl⟩
    obtain ⟨d, hd⟩ : ∃ s, s = Tm.depth (.mk o h n l) := ⟨_, rfl⟩
    rw [← hs, ← hd] at call
    rw [← hs, ← hd]
    clear hv hp hs hd
    go_enter Try.func15, Try.ntmps15
    go_wp2_with (go_at_call 48; (with_reducible refine call.mono ?_); rintro e w1 ⟨rfl, hb1, c', d', hc1, hc2, himp⟩; obtain ⟨rfl, rfl⟩ := himp rfl)
    go_quiet (fail)
    go_wp2
    go_ret3
    exact ⟨rfl, below_drawn hb1 _⟩

set_option maxHeartbeats 1000000 in
set_option maxRecDepth 100000 in
theorem depth_walk (S : Nat → Prop) (f : Nat) (ih : ∀ (o h n : Int) (v : Value) (l : List Tm) (w : World), Tm.sz (.mk o h n l) ≤ f → Lies w S v l → Tm.sz (.mk o h n l) ≤ 600 →
      Calls Try.prog 53 #[.agg #[.int .i64 o, .int .i64 h, .int .i64 n, v]] w fun e w' => e = .returned (.int .i64 (Tm.depth (.mk o h n l) : Nat)) ∧ Below w.heap.size w w')
    (o h n : Int) (v : Value) (l : List Tm) (w : World) (hf : Tm.sz (.mk o h n l) ≤ f + 1) (hv : Lies w S v l) (h6 : Tm.sz (.mk o h n l) ≤ 600) :
    Calls Try.prog 53 #[.agg #[.int .i64 o, .int .i64 h, .int .i64 n, v]] w fun e w' => e = .returned (.int .i64 (Tm.depth (.mk o h n l) : Nat)) ∧ Below w.heap.size w w' := by
  obtain ⟨ao, b, off, len, cap, oo, hh, kk, sv, ts, rfl, R⟩ := hv.open
  have hr := R.hr
  have hl := R.hl
  have HL := Lib.hid R.length
  have HZ : Tm.depthL (l.take 0) = 0 := by simp [Tm.depthL]
  have HZ' := Lib.hid HZ
  clear hv HZ
  have hdp : ∀ k, Tm.depthL (l.take k) ≤ 600 := fun k => by
    have h1 := Tm.depthL_le (l.take k); have h2 := Tm.szL_take_le l k; simp only [Tm.sz] at h6; omega
  have HDP := Lib.hid hdp
  clear hdp
  go_enter Try.func53, Try.ntmps53
  go_wp2
  go_loopw [3, 4] (fun m i wr => ∃ k : Nat, k ≤ len ∧ i = .int .i64 k ∧ m = .int .i64 (Tm.depthL (l.take k) : Nat) ∧ Below w.heap.size w wr ∧ wr.cell? ⟨w.heap.size, 3, none⟩ = some (.slice ao len cap))
    (fun _ i _ => len - (intOf i).toNat)
  case atStart => exact ⟨0, Nat.zero_le _, rfl, by rw [HZ'.out]; rfl, one_below w _, by rw [World.cell?_alloc_at _ _ _ _ rfl]; rfl⟩
  case round =>
    obtain ⟨k, hk, rfl, rfl, hbw, q3⟩ := hrel
    have hdk := HDP.out k
    by_cases hlt : k < len
    · obtain rfl := R.hao (by omega)
      obtain ⟨d0, d1, d2, d3, hsub⟩ := R.at hbw k hlt
      have hsz := R.size hf k hlt
      have hs6 := R.size_lt (x := o) (y := h) (z := n) k hlt
      have HT := Lib.hid (Tm.depthL_take l k (by rw [HL.out]; exact hlt))
      rw [R.get k hlt] at HT
      have call := ih (oo k) (hh k) (kk k) (sv k) (ts k) wr hsz hsub (by omega)
      obtain ⟨x, hx⟩ : ∃ x, x = Tm.depth (.mk (oo k) (hh k) (kk k) (ts k)) := ⟨_, rfl⟩
      have hx6 : x ≤ 600 := by rw [hx]; have := Tm.depth_le (.mk (oo k) (hh k) (kk k) (ts k)); omega
      rw [← hx] at call HT
      clear hx ih hs6 hsz
      by_cases hc : Tm.depthL (l.take k) < x
      · have HX : Hid (Tm.depthL (l.take (k + 1)) = x) := by rw [HT.out]; exact Nat.max_eq_right (by omega)
        go_wp2_with (go_at_call 53; (with_reducible refine call.mono ?_); rintro e w1 ⟨rfl, hb1⟩; have q4 := kept_cell hb1 q3)
        go_roundw
        case rel => exact ⟨k + 1, by omega, by go_num, by rw [HX.out], hbw.trans (hb1.mono hbw.size), kept_cell hb1 q3⟩
        case measure => simp [intOf]; omega
      · have HX : Hid (Tm.depthL (l.take (k + 1)) = Tm.depthL (l.take k)) := by rw [HT.out]; exact Nat.max_eq_left (by omega)
        go_wp2_with (go_at_call 53; (with_reducible refine call.mono ?_); rintro e w1 ⟨rfl, hb1⟩; have q4 := kept_cell hb1 q3)
        go_roundw
        case rel => exact ⟨k + 1, by omega, by go_num, by rw [HX.out], hbw.trans (hb1.mono hbw.size), kept_cell hb1 q3⟩
        case measure => simp [intOf]; omega
    · have hkl : l.take k = l := List.take_of_length_le (by rw [HL.out]; omega)
      have HD : Hid ((Tm.depth (.mk o h n l) : Int) = (Tm.depthL (l.take k) : Int) + 1) := by rw [hkl]; simp only [Tm.depth]; exact Int.natCast_add _ _
      clear hkl
      go_wp2
      go_ret
      exact ⟨ret_int (by rw [HD.out]), hbw⟩

theorem depth_calls (S : Nat → Prop) : ∀ (f : Nat) (o h n : Int) (v : Value) (l : List Tm) (w : World), Tm.sz (.mk o h n l) ≤ f → Lies w S v l → Tm.sz (.mk o h n l) ≤ 600 →
      Calls Try.prog 53 #[.agg #[.int .i64 o, .int .i64 h, .int .i64 n, v]] w fun e w' => e = .returned (.int .i64 (Tm.depth (.mk o h n l) : Nat)) ∧ Below w.heap.size w w'
  | 0, o, h, n, _, l, _, hf, _, _ => by have := Tm.sz_pos (.mk o h n l); omega
  | f + 1, o, h, n, v, l, w, hf, hv, h6 => depth_walk S f (depth_calls S f) o h n v l w hf hv h6

end Go.Proofs.Ytnooeaefldklaaa
