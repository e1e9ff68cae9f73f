/- The contract of the reference's Shift. -/
import Derived.Test.YtnooeaefldklaaaTmShiftP
namespace Go.Proofs.Ytnooeaefldklaaa
open Go.RowKit
set_option linter.unusedSimpArgs false
set_option linter.unusedVariables false

set_option maxHeartbeats 4000000 in
set_option maxRecDepth 100000 in
theorem shiftR_bad (o h n d fr : Int) (v : Value) (l : List Tm) (w : World) (hv : Lies w (fun _ => True) v l) (e : shiftArgs d fr (.mk o h n l) = false) (hd : I64 d) (hf : I64 fr) :
    Calls Try.prog 20 #[.agg #[.int .i64 o, .int .i64 h, .int .i64 n, v], .int .i64 d, .int .i64 fr] w (GivesE w (shiftRef d fr (.mk o h n l))) := by
  obtain ⟨a2, n2, m2, rfl⟩ := hv.isSlice
  have hy : shiftRef d fr (.mk o h n l) = (Tm.zero, 2) := by unfold shiftRef; rw [e]; rfl
  have HY := Lib.hid hy
  have HT := Lib.hid (two_blocks w #[.int .i64 o, .int .i64 h, .int .i64 n, .slice a2 n2 m2] #[.int .i64 0, .int .i64 0, .int .i64 0, .slice none 0 0] 24 24)
  have HB := Lib.hid (two_below w (.cells #[.int .i64 o, .int .i64 h, .int .i64 n, .slice a2 n2 m2] 24) (.cells #[.int .i64 0, .int .i64 0, .int .i64 0, .slice none 0 0] 24))
  have call := proper_any _ o h n _ l _ (hv.keep HB.out)
  have ways : Tm.proper (.mk o h n l) = false ∨ (Tm.proper (.mk o h n l) = true ∧ d < -9999) ∨ (Tm.proper (.mk o h n l) = true ∧ -9999 ≤ d ∧ 9999 < d) ∨ (Tm.proper (.mk o h n l) = true ∧ -9999 ≤ d ∧ d ≤ 9999 ∧ fr < 0) ∨ (Tm.proper (.mk o h n l) = true ∧ -9999 ≤ d ∧ d ≤ 9999 ∧ 0 ≤ fr ∧ 9999 < fr) := by
    unfold shiftArgs at e
    rcases hp : Tm.proper (.mk o h n l) with _ | _
    · exact .inl rfl
    · right
      rw [hp] at e
      simp only [Bool.true_and, Bool.and_eq_false_iff, decide_eq_false_iff_not] at e
      simp only [true_and]
      omega
  clear hy e hv
  rcases ways with hp | ⟨hp, k1⟩ | ⟨hp, k1, k2⟩ | ⟨hp, k1, k2, k3⟩ | ⟨hp, k1, k2, k3, k4⟩
  all_goals
    rw [hp] at call
    clear hp
    go_enter Try.func20, Try.ntmps20
    go_wp2_with (go_at_call 16; (with_reducible refine call.mono ?_); rintro e w1 ⟨rfl, hb1⟩; have hz := Lib.hid (heap_kept hb1 HT.out.2); have z0 := cell_in hz.out 0 (.int .i64 0) rfl; have z1 := cell_in hz.out 1 (.int .i64 0) rfl; have z2 := cell_in hz.out 2 (.int .i64 0) rfl; have z3 := cell_in hz.out 3 (.slice none 0 0) rfl; have f0 := free_in hz.out 0; have f1 := free_in hz.out 1; have f2 := free_in hz.out 2; have f3 := free_in hz.out 3)
    have hq := set4_at hz.out (.int .i64 0) (.int .i64 0) (.int .i64 0) (.slice none 0 0)
    have q0 := cell_in hq 0 (.int .i64 0) rfl
    have q1 := cell_in hq 1 (.int .i64 0) rfl
    have q2 := cell_in hq 2 (.int .i64 0) rfl
    have q3 := cell_in hq 3 (.slice none 0 0) rfl
    have hbw := below_next HB.out hb1
    refine bodyPost_ret (v := .tuple #[.agg #[.int .i64 0, .int .i64 0, .int .i64 0, .slice none 0 0], .int .i64 2]) (by simp [results, Try.results20, go_sem, q0, q1, q2, q3]) rfl (givesE_zero HY.out ?_)
    exact (((hbw.setCell (by simp) _).setCell (by simp) _).setCell (by simp) _).setCell (by simp) _

/-- the end of a call that returns a zero term and an error behind its result's block -/
theorem ends_zero {w w1 : World} {x : Int} {y : Tm × Int} (hy : y = (Tm.zero, x)) (hb : Below w.heap.size w w1) : GivesE w y (.returned (.tuple #[.agg #[.int .i64 0, .int .i64 0, .int .i64 0, .slice none 0 0], .int .i64 x]))
    ((((w1.setCell ⟨w.heap.size + 1, 0, none⟩ (.int .i64 0)).setCell ⟨w.heap.size + 1, 1, none⟩ (.int .i64 0)).setCell ⟨w.heap.size + 1, 2, none⟩ (.int .i64 0)).setCell ⟨w.heap.size + 1, 3, none⟩ (.slice none 0 0)) :=
  givesE_zero hy ((((hb.setCell (by simp) _).setCell (by simp) _).setCell (by simp) _).setCell (by simp) _)

set_option maxHeartbeats 4000000 in
set_option maxRecDepth 100000 in
theorem shiftR_low (o h n d fr : Int) (v : Value) (l : List Tm) (w : World) (hv : Lies w (fun _ => True) v l) (hp : Tm.proper (.mk o h n l) = true) (hd0 : -9999 ≤ d) (hd1 : d < 0) (hf0 : 0 ≤ fr) (hf1 : fr ≤ 9999)
    (hlow : Tm.low fr (fr - d - 1) (.mk o h n l) = true) :
    Calls Try.prog 20 #[.agg #[.int .i64 o, .int .i64 h, .int .i64 n, v], .int .i64 d, .int .i64 fr] w (GivesE w (Tm.zero, 27)) := by
  obtain ⟨a2, n2, m2, rfl⟩ := hv.isSlice
  have h6 := Tm.proper_sz hp
  have HT := Lib.hid (two_blocks w #[.int .i64 o, .int .i64 h, .int .i64 n, .slice a2 n2 m2] #[.int .i64 0, .int .i64 0, .int .i64 0, .slice none 0 0] 24 24)
  have HB := Lib.hid (two_below w (.cells #[.int .i64 o, .int .i64 h, .int .i64 n, .slice a2 n2 m2] 24) (.cells #[.int .i64 0, .int .i64 0, .int .i64 0, .slice none 0 0] 24))
  have call := proper_any _ o h n _ l _ (hv.keep HB.out)
  have call2 := fun w1 hb => low_calls _ _ o h n fr (fr - d - 1) _ l w1 (Nat.le_refl _) hf0 (by omega) (by omega) (by omega) (hv.keep (w' := w1) hb)
  rw [hp] at call
  rw [hlow] at call2
  clear hp hlow hv
  go_enter Try.func20, Try.ntmps20
  go_wp2_with fail
  refine call.mono ?_
  rintro e w1 ⟨rfl, hb1⟩
  have hx := Lib.hid (heap_kept hb1 HT.out.1)
  have hz := Lib.hid (heap_kept hb1 HT.out.2)
  have x0 := cell_in hx.out 0 (.int .i64 o) rfl
  have x1 := cell_in hx.out 1 (.int .i64 h) rfl
  have x2 := cell_in hx.out 2 (.int .i64 n) rfl
  have x3 := cell_in hx.out 3 (.slice a2 n2 m2) rfl
  have B1 := below_next HB.out hb1
  go_wp2_with fail
  refine (call2 _ B1).mono ?_
  rintro e w2 ⟨rfl, hb2⟩
  have hz2 := Lib.hid (heap_kept hb2 hz.out)
  have z0 := cell_in hz2.out 0 (.int .i64 0) rfl
  have z1 := cell_in hz2.out 1 (.int .i64 0) rfl
  have z2 := cell_in hz2.out 2 (.int .i64 0) rfl
  have z3 := cell_in hz2.out 3 (.slice none 0 0) rfl
  have f0 := free_in hz2.out 0
  have f1 := free_in hz2.out 1
  have f2 := free_in hz2.out 2
  have f3 := free_in hz2.out 3
  go_wp2
  have hq := set4_at hz2.out (.int .i64 0) (.int .i64 0) (.int .i64 0) (.slice none 0 0)
  have q0 := cell_in hq 0 (.int .i64 0) rfl
  have q1 := cell_in hq 1 (.int .i64 0) rfl
  have q2 := cell_in hq 2 (.int .i64 0) rfl
  have q3 := cell_in hq 3 (.slice none 0 0) rfl
  exact bodyPost_ret (v := .tuple #[.agg #[.int .i64 0, .int .i64 0, .int .i64 0, .slice none 0 0], .int .i64 27]) (by simp [results, Try.results20, go_sem, q0, q1, q2, q3]) rfl (ends_zero rfl (below_next B1 hb2))

set_option maxHeartbeats 4000000 in
set_option maxRecDepth 100000 in
theorem shiftR_go (o h n d fr : Int) (v : Value) (l : List Tm) (w : World) (hv : Lies w (fun _ => True) v l) (hp : Tm.proper (.mk o h n l) = true) (hd0 : -9999 ≤ d) (hd1 : d ≤ 9999) (hf0 : 0 ≤ fr) (hf1 : fr ≤ 9999)
    (hlow : 0 ≤ d ∨ (d < 0 ∧ Tm.low fr (fr - d - 1) (.mk o h n l) = false)) :
    Calls Try.prog 20 #[.agg #[.int .i64 o, .int .i64 h, .int .i64 n, v], .int .i64 d, .int .i64 fr] w (GivesE w (if Tm.proper (Tm.moved d fr (.mk o h n l)) then (Tm.moved d fr (.mk o h n l), 0) else (Tm.zero, 5))) := by
  obtain ⟨a2, n2, m2, rfl⟩ := hv.isSlice
  have h6 := Tm.proper_sz hp
  have hnum : Tm.nums (.mk o h n l) = true := by
    have hp' := hp
    unfold Tm.proper at hp'
    simp only [Bool.and_eq_true] at hp'
    exact Tm.nums_of_formed _ 1 hp'.2
  have HT := Lib.hid (two_blocks w #[.int .i64 o, .int .i64 h, .int .i64 n, .slice a2 n2 m2] #[.int .i64 0, .int .i64 0, .int .i64 0, .slice none 0 0] 24 24)
  have HB := Lib.hid (two_below w (.cells #[.int .i64 o, .int .i64 h, .int .i64 n, .slice a2 n2 m2] 24) (.cells #[.int .i64 0, .int .i64 0, .int .i64 0, .slice none 0 0] 24))
  have call := proper_any _ o h n _ l _ (hv.keep HB.out)
  have call3 := fun w1 hb => moved_calls _ d hd0 hd1 _ o h n fr _ l w1 (Nat.le_refl _) h6 hnum hf0 (by omega) (hv.keep (w' := w1) hb)
  rw [hp] at call
  obtain ⟨t', ht'⟩ : ∃ t', t' = Tm.moved d fr (.mk o h n l) := ⟨_, rfl⟩
  rw [← ht'] at call3
  rw [← ht']
  obtain ⟨y, hy⟩ : ∃ y, y = (if Tm.proper t' then (t', (0 : Int)) else (Tm.zero, 5)) := ⟨_, rfl⟩
  rw [← hy]
  have HY := Lib.hid hy
  have HV := Lib.hid hv
  clear hp hv hnum ht' hy
  rcases hlow with hlow | ⟨hlow, hl2⟩
  · go_enter Try.func20, Try.ntmps20
    go_wp2_with fail
    refine call.mono ?_
    rintro e w1 ⟨rfl, hb1⟩
    have hx := Lib.hid (heap_kept hb1 HT.out.1)
    have hz := Lib.hid (heap_kept hb1 HT.out.2)
    have x0 := cell_in hx.out 0 (.int .i64 o) rfl
    have x1 := cell_in hx.out 1 (.int .i64 h) rfl
    have x2 := cell_in hx.out 2 (.int .i64 n) rfl
    have x3 := cell_in hx.out 3 (.slice a2 n2 m2) rfl
    have B1 := below_next HB.out hb1
    go_wp2_with fail
    refine (call3 _ B1).mono ?_
    rintro e w3 ⟨v3, rfl, hb3, hl3⟩
    obtain ⟨a4, n4, m4, rfl⟩ := hl3.isSlice
    have hbz := (Below.refl w3.heap.size w3).alloc (Nat.le_refl _) (.cells #[.int .i64 t'.op, .int .i64 t'.hd, .int .i64 t'.n, .slice a4 n4 m4] 24)
    have B3 := below_next (below_next B1 hb3) hbz
    have hl4 := Lib.hid (hl3.keep hbz)
    have call4 := proper_any _ t'.op t'.hd t'.n _ t'.args _ hl4.out
    have hte : Tm.mk t'.op t'.hd t'.n t'.args = t' := by cases t'; rfl
    rw [hte] at call4
    have hres := Lib.hid (heap_kept hbz (heap_kept hb3 hz.out))
    have hnew := Lib.hid (heap_alloc_new w3 (.cells #[.int .i64 t'.op, .int .i64 t'.hd, .int .i64 t'.n, .slice a4 n4 m4] 24))
    have hs3 : w1.heap.size ≤ w3.heap.size := hb3.size
    have hs1 : w.heap.size + 1 < w1.heap.size := lt_of_block hz.out
    clear hte x0 x1 x2 x3 hl3
    go_wp2_with fail
    rcases hpt : Tm.proper t' with _ | _
    · rw [hpt] at call4
      have hyy : y = (Tm.zero, 5) := by rw [HY.out, hpt]; rfl
      have HYY := Lib.hid hyy
      clear hpt hyy
      refine call4.mono ?_
      rintro e w4 ⟨rfl, hb4⟩
      have hr4 := Lib.hid (heap_kept hb4 hres.out)
      have z0 := cell_in hr4.out 0 (.int .i64 0) rfl
      have z1 := cell_in hr4.out 1 (.int .i64 0) rfl
      have z2 := cell_in hr4.out 2 (.int .i64 0) rfl
      have z3 := cell_in hr4.out 3 (.slice none 0 0) rfl
      have f0 := free_in hr4.out 0
      have f1 := free_in hr4.out 1
      have f2 := free_in hr4.out 2
      have f3 := free_in hr4.out 3
      go_wp2
      have hq := set4_at hr4.out (.int .i64 0) (.int .i64 0) (.int .i64 0) (.slice none 0 0)
      have q0 := cell_in hq 0 (.int .i64 0) rfl
      have q1 := cell_in hq 1 (.int .i64 0) rfl
      have q2 := cell_in hq 2 (.int .i64 0) rfl
      have q3 := cell_in hq 3 (.slice none 0 0) rfl
      exact bodyPost_ret (v := .tuple #[.agg #[.int .i64 0, .int .i64 0, .int .i64 0, .slice none 0 0], .int .i64 5]) (by simp [results, Try.results20, go_sem, q0, q1, q2, q3]) rfl (ends_zero HYY.out (below_next B3 hb4))
    · rw [hpt] at call4
      have hyy : y = (t', 0) := by rw [HY.out, hpt]; rfl
      have HYY := Lib.hid hyy
      clear hpt hyy
      refine call4.mono ?_
      rintro e w4 ⟨rfl, hb4⟩
      have hr4 := Lib.hid (heap_kept hb4 hres.out)
      have hn4 := Lib.hid (heap_kept hb4 hnew.out)
      have z0 := cell_in hr4.out 0 (.int .i64 0) rfl
      have z1 := cell_in hr4.out 1 (.int .i64 0) rfl
      have z2 := cell_in hr4.out 2 (.int .i64 0) rfl
      have z3 := cell_in hr4.out 3 (.slice none 0 0) rfl
      have f0 := free_in hr4.out 0
      have f1 := free_in hr4.out 1
      have f2 := free_in hr4.out 2
      have f3 := free_in hr4.out 3
      have m0 := cell_in hn4.out 0 (.int .i64 t'.op) rfl
      have m1 := cell_in hn4.out 1 (.int .i64 t'.hd) rfl
      have m2' := cell_in hn4.out 2 (.int .i64 t'.n) rfl
      have m3 := cell_in hn4.out 3 (.slice a4 n4 m4) rfl
      go_wp2
      have hq := set4_at hr4.out (.int .i64 t'.op) (.int .i64 t'.hd) (.int .i64 t'.n) (.slice a4 n4 m4)
      have q0 := cell_in hq 0 (.int .i64 t'.op) rfl
      have q1 := cell_in hq 1 (.int .i64 t'.hd) rfl
      have q2 := cell_in hq 2 (.int .i64 t'.n) rfl
      have q3 := cell_in hq 3 (.slice a4 n4 m4) rfl
      refine bodyPost_ret (v := .tuple #[.agg #[.int .i64 t'.op, .int .i64 t'.hd, .int .i64 t'.n, .slice a4 n4 m4], .int .i64 0]) (by simp [results, Try.results20, go_sem, q0, q1, q2, q3]) rfl ?_
      rw [HYY.out]
      refine ⟨_, rfl, ((((below_next B3 hb4).setCell (by simp) _).setCell (by simp) _).setCell (by simp) _).setCell (by simp) _, ?_⟩
      exact ((hl4.out.keep hb4).still fun j hS _ => heap_set4 _ _ _ _ (by show j ≠ w.heap.size + 1; omega) (by show j ≠ w.heap.size + 1; omega) (by show j ≠ w.heap.size + 1; omega) (by show j ≠ w.heap.size + 1; omega)).more fun j _ hS => by omega
  · have call2 := fun w1 hb => low_calls _ _ o h n fr (fr - d - 1) _ l w1 (Nat.le_refl _) hf0 (by omega) (by omega) (by omega) (HV.out.keep (w' := w1) hb)
    rw [hl2] at call2
    clear hl2
    go_enter Try.func20, Try.ntmps20
    go_wp2_with fail
    refine call.mono ?_
    rintro e w0 ⟨rfl, hb0⟩
    have hx0 := Lib.hid (heap_kept hb0 HT.out.1)
    have hz0 := Lib.hid (heap_kept hb0 HT.out.2)
    have u0 := cell_in hx0.out 0 (.int .i64 o) rfl
    have u1 := cell_in hx0.out 1 (.int .i64 h) rfl
    have u2 := cell_in hx0.out 2 (.int .i64 n) rfl
    have u3 := cell_in hx0.out 3 (.slice a2 n2 m2) rfl
    have B0 := below_next HB.out hb0
    go_wp2_with fail
    refine (call2 _ B0).mono ?_
    rintro e w1 ⟨rfl, hb1⟩
    have hx := Lib.hid (heap_kept hb1 hx0.out)
    have hz := Lib.hid (heap_kept hb1 hz0.out)
    have x0 := cell_in hx.out 0 (.int .i64 o) rfl
    have x1 := cell_in hx.out 1 (.int .i64 h) rfl
    have x2 := cell_in hx.out 2 (.int .i64 n) rfl
    have x3 := cell_in hx.out 3 (.slice a2 n2 m2) rfl
    have B1 := below_next B0 hb1
    clear u0 u1 u2 u3
    go_wp2_with fail
    refine (call3 _ B1).mono ?_
    rintro e w3 ⟨v3, rfl, hb3, hl3⟩
    obtain ⟨a4, n4, m4, rfl⟩ := hl3.isSlice
    have hbz := (Below.refl w3.heap.size w3).alloc (Nat.le_refl _) (.cells #[.int .i64 t'.op, .int .i64 t'.hd, .int .i64 t'.n, .slice a4 n4 m4] 24)
    have B3 := below_next (below_next B1 hb3) hbz
    have hl4 := Lib.hid (hl3.keep hbz)
    have call4 := proper_any _ t'.op t'.hd t'.n _ t'.args _ hl4.out
    have hte : Tm.mk t'.op t'.hd t'.n t'.args = t' := by cases t'; rfl
    rw [hte] at call4
    have hres := Lib.hid (heap_kept hbz (heap_kept hb3 hz.out))
    have hnew := Lib.hid (heap_alloc_new w3 (.cells #[.int .i64 t'.op, .int .i64 t'.hd, .int .i64 t'.n, .slice a4 n4 m4] 24))
    have hs3 : w1.heap.size ≤ w3.heap.size := hb3.size
    have hs1 : w.heap.size + 1 < w1.heap.size := lt_of_block hz.out
    clear hte x0 x1 x2 x3 hl3
    go_wp2_with fail
    rcases hpt : Tm.proper t' with _ | _
    · rw [hpt] at call4
      have hyy : y = (Tm.zero, 5) := by rw [HY.out, hpt]; rfl
      have HYY := Lib.hid hyy
      clear hpt hyy
      refine call4.mono ?_
      rintro e w4 ⟨rfl, hb4⟩
      have hr4 := Lib.hid (heap_kept hb4 hres.out)
      have z0 := cell_in hr4.out 0 (.int .i64 0) rfl
      have z1 := cell_in hr4.out 1 (.int .i64 0) rfl
      have z2 := cell_in hr4.out 2 (.int .i64 0) rfl
      have z3 := cell_in hr4.out 3 (.slice none 0 0) rfl
      have f0 := free_in hr4.out 0
      have f1 := free_in hr4.out 1
      have f2 := free_in hr4.out 2
      have f3 := free_in hr4.out 3
      go_wp2
      have hq := set4_at hr4.out (.int .i64 0) (.int .i64 0) (.int .i64 0) (.slice none 0 0)
      have q0 := cell_in hq 0 (.int .i64 0) rfl
      have q1 := cell_in hq 1 (.int .i64 0) rfl
      have q2 := cell_in hq 2 (.int .i64 0) rfl
      have q3 := cell_in hq 3 (.slice none 0 0) rfl
      exact bodyPost_ret (v := .tuple #[.agg #[.int .i64 0, .int .i64 0, .int .i64 0, .slice none 0 0], .int .i64 5]) (by simp [results, Try.results20, go_sem, q0, q1, q2, q3]) rfl (ends_zero HYY.out (below_next B3 hb4))
    · rw [hpt] at call4
      have hyy : y = (t', 0) := by rw [HY.out, hpt]; rfl
      have HYY := Lib.hid hyy
      clear hpt hyy
      refine call4.mono ?_
      rintro e w4 ⟨rfl, hb4⟩
      have hr4 := Lib.hid (heap_kept hb4 hres.out)
      have hn4 := Lib.hid (heap_kept hb4 hnew.out)
      have z0 := cell_in hr4.out 0 (.int .i64 0) rfl
      have z1 := cell_in hr4.out 1 (.int .i64 0) rfl
      have z2 := cell_in hr4.out 2 (.int .i64 0) rfl
      have z3 := cell_in hr4.out 3 (.slice none 0 0) rfl
      have f0 := free_in hr4.out 0
      have f1 := free_in hr4.out 1
      have f2 := free_in hr4.out 2
      have f3 := free_in hr4.out 3
      have m0 := cell_in hn4.out 0 (.int .i64 t'.op) rfl
      have m1 := cell_in hn4.out 1 (.int .i64 t'.hd) rfl
      have m2' := cell_in hn4.out 2 (.int .i64 t'.n) rfl
      have m3 := cell_in hn4.out 3 (.slice a4 n4 m4) rfl
      go_wp2
      have hq := set4_at hr4.out (.int .i64 t'.op) (.int .i64 t'.hd) (.int .i64 t'.n) (.slice a4 n4 m4)
      have q0 := cell_in hq 0 (.int .i64 t'.op) rfl
      have q1 := cell_in hq 1 (.int .i64 t'.hd) rfl
      have q2 := cell_in hq 2 (.int .i64 t'.n) rfl
      have q3 := cell_in hq 3 (.slice a4 n4 m4) rfl
      refine bodyPost_ret (v := .tuple #[.agg #[.int .i64 t'.op, .int .i64 t'.hd, .int .i64 t'.n, .slice a4 n4 m4], .int .i64 0]) (by simp [results, Try.results20, go_sem, q0, q1, q2, q3]) rfl ?_
      rw [HYY.out]
      refine ⟨_, rfl, ((((below_next B3 hb4).setCell (by simp) _).setCell (by simp) _).setCell (by simp) _).setCell (by simp) _, ?_⟩
      exact ((hl4.out.keep hb4).still fun j hS _ => heap_set4 _ _ _ _ (by show j ≠ w.heap.size + 1; omega) (by show j ≠ w.heap.size + 1; omega) (by show j ≠ w.heap.size + 1; omega) (by show j ≠ w.heap.size + 1; omega)).more fun j _ hS => by omega

/-- The reference's Shift answers shiftRef. -/
theorem shiftR_any (o h n d fr : Int) (v : Value) (l : List Tm) (w : World) (hv : Lies w (fun _ => True) v l) (hd : I64 d) (hf : I64 fr) :
    Calls Try.prog 20 #[.agg #[.int .i64 o, .int .i64 h, .int .i64 n, v], .int .i64 d, .int .i64 fr] w (GivesE w (shiftRef d fr (.mk o h n l))) := by
  rcases e : shiftArgs d fr (.mk o h n l) with _ | _
  · exact shiftR_bad o h n d fr v l w hv e hd hf
  · have e' := e
    simp only [shiftArgs, Bool.and_eq_true, decide_eq_true_eq] at e'
    obtain ⟨⟨⟨⟨hp, hd0⟩, hd1⟩, hf0⟩, hf1⟩ := e'
    by_cases hl : d < 0 ∧ Tm.low fr (fr - d - 1) (.mk o h n l) = true
    · have hy : shiftRef d fr (.mk o h n l) = (Tm.zero, 27) := by unfold shiftRef; rw [e, if_pos rfl, if_pos hl]
      rw [hy]
      exact shiftR_low o h n d fr v l w hv hp hd0 hl.1 hf0 hf1 hl.2
    · have hy : shiftRef d fr (.mk o h n l) = if Tm.proper (Tm.moved d fr (.mk o h n l)) then (Tm.moved d fr (.mk o h n l), 0) else (Tm.zero, 5) := by unfold shiftRef; rw [e, if_pos rfl, if_neg hl]
      rw [hy]
      refine shiftR_go o h n d fr v l w hv hp hd0 hd1 hf0 hf1 ?_
      by_cases h0 : 0 ≤ d
      · exact .inl h0
      · refine .inr ⟨by omega, ?_⟩
        rcases h : Tm.low fr (fr - d - 1) (.mk o h n l) with _ | _
        · rfl
        · exact absurd ⟨by omega, h⟩ hl

end Go.Proofs.Ytnooeaefldklaaa
