/- The contracts of term.Free, Constants, Metas, Occurs, and of the reference's. -/
import Derived.Test.YtnooeaefldklaaaTmConQ
import Derived.Test.YtnooeaefldklaaaTmAwake
namespace Go.Proofs.Ytnooeaefldklaaa
open Go.RowKit
set_option linter.unusedSimpArgs false
set_option linter.unusedVariables false

/-- what Free, Constants and Metas return -/
def contOut (x : Int) (t : Tm) : List Int × Int := if Tm.proper t then (Tm.insL [] (Tm.hds (rsel x) 0 t), 0) else ([], 2)
theorem contOut_free (y : Int) (t : Tm) : VF.numsOut y t = contOut 1 t := by
  unfold VF.numsOut contOut
  rcases h : Tm.proper t with _ | _
  · rfl
  · simp only [if_true]; rw [Tm.hds_free y h]
theorem contOut_heads (x : Int) (hx : 2 ≤ x) (t : Tm) : VH.numsOut x t = contOut x t := by
  unfold VH.numsOut contOut
  rcases h : Tm.proper t with _ | _
  · rfl
  · simp only [if_true]; rw [Tm.hds_heads x hx h]

theorem numE_next {w w0 w1 : World} {r : List Int × Int} {e : Ending} (hb : Below w.heap.size w w0) (h : NumE w0 r e w1) : NumE w r e w1 := by
  obtain ⟨v, he, hi, hb1⟩ := h
  exact ⟨v, he, hi, hb.trans (hb1.mono hb.size)⟩

set_option maxHeartbeats 1000000 in
set_option maxRecDepth 100000 in
theorem free_any (o h n : Int) (v : Value) (l : List Tm) (w : World) (hv : Lies w (fun _ => True) v l) :
    Calls Try.prog 22 #[.agg #[.int .i64 o, .int .i64 h, .int .i64 n, v]] w (NumE w (contOut 1 (.mk o h n l))) := by
  obtain ⟨a2, n2, m2, rfl⟩ := hv.isSlice
  have hb := one_below w (.cells #[.int .i64 o, .int .i64 h, .int .i64 n, .slice a2 n2 m2] 24)
  have call := VF.nums_any o h n _ l 0 0 _ (hv.keep hb) trivial (by simp)
  rw [contOut_free] at call
  unfold VF.fv at call
  clear hv
  go_enter Try.func22, Try.ntmps22
  go_wp2_with (go_at_call 59; (with_reducible refine call.mono ?_); rintro e w1 ⟨v1, rfl, hi1, hb1⟩)
  go_ret2
  exact ⟨v1, rfl, hi1, hb.trans (hb1.mono hb.size)⟩

set_option maxHeartbeats 1000000 in
set_option maxRecDepth 100000 in
theorem numberOf_any (x : Int) (w : World) : Calls Try.prog 60 #[.int .i64 x] w fun e w' => e = .returned (.func (.func 84) #[] #[.pointer (some ⟨w.heap.size, 0, none⟩)]) ∧ w' = w.alloc (.cells #[.int .i64 x] 3) := by
  go_enter Try.func60, Try.ntmps60
  go_wp2
  go_ret
  exact ⟨rfl, rfl⟩

set_option maxHeartbeats 1000000 in
set_option maxRecDepth 100000 in
theorem consts_any (o h n : Int) (v : Value) (l : List Tm) (w : World) (hv : Lies w (fun _ => True) v l) :
    Calls Try.prog 23 #[.agg #[.int .i64 o, .int .i64 h, .int .i64 n, v]] w (NumE w (contOut 2 (.mk o h n l))) := by
  obtain ⟨a2, n2, m2, rfl⟩ := hv.isSlice
  have hb := (two_below w (.cells #[.int .i64 o, .int .i64 h, .int .i64 n, .slice a2 n2 m2] 24) (.cells #[.int .i64 2] 3)).drew
  have hn := two_blocks w #[.int .i64 o, .int .i64 h, .int .i64 n, .slice a2 n2 m2] #[.int .i64 2] 24 3
  have hn0 := heap_alloc_new w (.cells #[.int .i64 o, .int .i64 h, .int .i64 n, .slice a2 n2 m2] 24)
  have call := VH.nums_any o h n _ l 2 (w.heap.size + 1) ((w.alloc (.cells #[.int .i64 o, .int .i64 h, .int .i64 n, .slice a2 n2 m2] 24)).alloc (.cells #[.int .i64 2] 3)).drew (hv.keep hb) hn.2 (lt_of_block hn.2)
  rw [contOut_heads 2 (by omega)] at call
  unfold VH.fv at call
  have hx0 : Cells4 (w.alloc (.cells #[.int .i64 o, .int .i64 h, .int .i64 n, .slice a2 n2 m2] 24)).drew w.heap.size (.int .i64 o) (.int .i64 h) (.int .i64 n) (.slice a2 n2 m2) := ⟨cell_in hn0 0 _ rfl, cell_in hn0 1 _ rfl, cell_in hn0 2 _ rfl, cell_in hn0 3 _ rfl⟩
  have hx1 : Cells4 ((w.alloc (.cells #[.int .i64 o, .int .i64 h, .int .i64 n, .slice a2 n2 m2] 24)).alloc (.cells #[.int .i64 2] 3)).drew w.heap.size (.int .i64 o) (.int .i64 h) (.int .i64 n) (.slice a2 n2 m2) := ⟨cell_in hn.1 0 _ rfl, cell_in hn.1 1 _ rfl, cell_in hn.1 2 _ rfl, cell_in hn.1 3 _ rfl⟩
  clear hv hn hn0
  go_enter Try.func23, Try.ntmps23
  go_wp2_with fail
  go_region_held3 (fun W => Cells4 W w.heap.size (.int .i64 o) (.int .i64 h) (.int .i64 n) (.slice a2 n2 m2))
    (first | (with_reducible exact hx0) | (with_reducible exact hx1) | (with_reducible exact keep4 hb2 hx1))
    (first | (go_at_call 60; (with_reducible refine (numberOf_any 2 _).mono ?_); rintro e w1 ⟨rfl, rfl⟩) | (go_at_call 59; (with_reducible refine call.mono ?_); rintro e w2 ⟨v1, rfl, hi1, hb2⟩))
  go_wp2
  go_ret2
  exact ⟨v1, rfl, hi1, hb.trans (hb2.mono hb.size)⟩

set_option maxHeartbeats 1000000 in
set_option maxRecDepth 100000 in
theorem metas_any (o h n : Int) (v : Value) (l : List Tm) (w : World) (hv : Lies w (fun _ => True) v l) :
    Calls Try.prog 24 #[.agg #[.int .i64 o, .int .i64 h, .int .i64 n, v]] w (NumE w (contOut 3 (.mk o h n l))) := by
  obtain ⟨a2, n2, m2, rfl⟩ := hv.isSlice
  have hb := (two_below w (.cells #[.int .i64 o, .int .i64 h, .int .i64 n, .slice a2 n2 m2] 24) (.cells #[.int .i64 3] 3)).drew
  have hn := two_blocks w #[.int .i64 o, .int .i64 h, .int .i64 n, .slice a2 n2 m2] #[.int .i64 3] 24 3
  have hn0 := heap_alloc_new w (.cells #[.int .i64 o, .int .i64 h, .int .i64 n, .slice a2 n2 m2] 24)
  have call := VH.nums_any o h n _ l 3 (w.heap.size + 1) ((w.alloc (.cells #[.int .i64 o, .int .i64 h, .int .i64 n, .slice a2 n2 m2] 24)).alloc (.cells #[.int .i64 3] 3)).drew (hv.keep hb) hn.2 (lt_of_block hn.2)
  rw [contOut_heads 3 (by omega)] at call
  unfold VH.fv at call
  have hx0 : Cells4 (w.alloc (.cells #[.int .i64 o, .int .i64 h, .int .i64 n, .slice a2 n2 m2] 24)).drew w.heap.size (.int .i64 o) (.int .i64 h) (.int .i64 n) (.slice a2 n2 m2) := ⟨cell_in hn0 0 _ rfl, cell_in hn0 1 _ rfl, cell_in hn0 2 _ rfl, cell_in hn0 3 _ rfl⟩
  have hx1 : Cells4 ((w.alloc (.cells #[.int .i64 o, .int .i64 h, .int .i64 n, .slice a2 n2 m2] 24)).alloc (.cells #[.int .i64 3] 3)).drew w.heap.size (.int .i64 o) (.int .i64 h) (.int .i64 n) (.slice a2 n2 m2) := ⟨cell_in hn.1 0 _ rfl, cell_in hn.1 1 _ rfl, cell_in hn.1 2 _ rfl, cell_in hn.1 3 _ rfl⟩
  clear hv hn hn0
  go_enter Try.func24, Try.ntmps24
  go_wp2_with fail
  go_region_held3 (fun W => Cells4 W w.heap.size (.int .i64 o) (.int .i64 h) (.int .i64 n) (.slice a2 n2 m2))
    (first | (with_reducible exact hx0) | (with_reducible exact hx1) | (with_reducible exact keep4 hb2 hx1))
    (first | (go_at_call 60; (with_reducible refine (numberOf_any 3 _).mono ?_); rintro e w1 ⟨rfl, rfl⟩) | (go_at_call 59; (with_reducible refine call.mono ?_); rintro e w2 ⟨v1, rfl, hi1, hb2⟩))
  go_wp2
  go_ret2
  exact ⟨v1, rfl, hi1, hb.trans (hb2.mono hb.size)⟩

/-- what Occurs returns -/
def occOut (n : Int) (t : Tm) : Bool × Int := if Tm.proper t then (Tm.occ n t, 0) else (false, 2)
theorem occ_end {n : Int} {t : Tm} : (Value.tuple #[.bool (decide (n ∈ (contOut 1 t).1)), .int .i64 (contOut 1 t).2]) = .tuple #[.bool (occOut n t).1, .int .i64 (occOut n t).2] := by
  unfold contOut occOut Tm.occ
  split <;> simp

set_option maxHeartbeats 1000000 in
set_option maxRecDepth 100000 in
theorem occurs_any (o h n : Int) (v : Value) (l : List Tm) (m : Int) (w : World) (hv : Lies w (fun _ => True) v l) :
    Calls Try.prog 25 #[.agg #[.int .i64 o, .int .i64 h, .int .i64 n, v], .int .i64 m] w fun e w' => e = .returned (.tuple #[.bool (occOut m (.mk o h n l)).1, .int .i64 (occOut m (.mk o h n l)).2]) ∧ Below w.heap.size w w' := by
  obtain ⟨a2, n2, m2, rfl⟩ := hv.isSlice
  have hb := one_below w (.cells #[.int .i64 o, .int .i64 h, .int .i64 n, .slice a2 n2 m2] 24)
  have call := free_any o h n _ l _ (hv.keep hb)
  have E := Lib.hid (occ_end (n := m) (t := .mk o h n l))
  obtain ⟨r, hr⟩ : ∃ r, r = contOut 1 (.mk o h n l) := ⟨_, rfl⟩
  rw [← hr] at call
  obtain ⟨xs, er⟩ := r
  have HR := Lib.hid hr
  clear hv hr
  go_enter Try.func25, Try.ntmps25
  go_wp2_with (first
    | (go_at_call 22; (with_reducible refine call.mono ?_); rintro e w1 ⟨v1, rfl, hi1, hb1⟩; have HI := Lib.hid hi1; clear hi1)
    | (go_at_call 61; (with_reducible refine (contains_any _ xs m _ HI.out).mono ?_); rintro e w2 ⟨rfl, rfl⟩))
  go_ret2
  refine ⟨?_, hb.trans (hb1.mono hb.size)⟩
  rw [← E.out, ← HR.out]
  rfl

set_option maxHeartbeats 1000000 in
set_option maxRecDepth 100000 in
theorem freeR_any (o h n : Int) (v : Value) (l : List Tm) (w : World) (hv : Lies w (fun _ => True) v l) (hp : Tm.proper (.mk o h n l) = true) :
    Calls Try.prog 27 #[.agg #[.int .i64 o, .int .i64 h, .int .i64 n, v]] w (GivesInts w (contOut 1 (.mk o h n l)).1) := by
  obtain ⟨a2, n2, m2, rfl⟩ := hv.isSlice
  have hb := one_below w (.cells #[.int .i64 o, .int .i64 h, .int .i64 n, .slice a2 n2 m2] 24)
  have hsz := Tm.proper_sz hp
  have call := heads_calls _ 1 (by omega) (by omega) _ o h n 0 _ l (.slice none 0 0) [] (w.alloc (.cells #[.int .i64 o, .int .i64 h, .int .i64 n, .slice a2 n2 m2] 24)) (Nat.le_refl _) (by omega) (by omega) (by simp; omega) (Tm.nums_of_formed _ 1 (Tm.proper_formed hp)) (hv.keep hb) ⟨Ints.nil _, fun _ => rfl⟩
  have E : Hid ((contOut 1 (.mk o h n l)).1 = Tm.insL [] (Tm.hds (rsel 1) 0 (.mk o h n l))) := by show _ = _; unfold contOut; rw [hp]; rfl
  rw [E.out]
  obtain ⟨xs, hxs⟩ : ∃ xs, xs = Tm.insL [] (Tm.hds (rsel 1) 0 (.mk o h n l)) := ⟨_, rfl⟩
  rw [← hxs] at call ⊢
  clear hv hp hsz hxs E
  go_enter Try.func27, Try.ntmps27
  go_wp2_with (go_at_call 62; (with_reducible refine call.mono ?_); rintro e w1 ⟨v1, rfl, hi1, hb1⟩)
  go_ret
  exact ⟨v1, rfl, hi1, hb.trans (hb1.mono hb.size)⟩

set_option maxHeartbeats 1000000 in
set_option maxRecDepth 100000 in
theorem constsR_any (o h n : Int) (v : Value) (l : List Tm) (w : World) (hv : Lies w (fun _ => True) v l) (hp : Tm.proper (.mk o h n l) = true) :
    Calls Try.prog 28 #[.agg #[.int .i64 o, .int .i64 h, .int .i64 n, v]] w (GivesInts w (contOut 2 (.mk o h n l)).1) := by
  obtain ⟨a2, n2, m2, rfl⟩ := hv.isSlice
  have hb := one_below w (.cells #[.int .i64 o, .int .i64 h, .int .i64 n, .slice a2 n2 m2] 24)
  have hsz := Tm.proper_sz hp
  have call := heads_calls _ 2 (by omega) (by omega) _ o h n 0 _ l (.slice none 0 0) [] (w.alloc (.cells #[.int .i64 o, .int .i64 h, .int .i64 n, .slice a2 n2 m2] 24)) (Nat.le_refl _) (by omega) (by omega) (by simp; omega) (Tm.nums_of_formed _ 1 (Tm.proper_formed hp)) (hv.keep hb) ⟨Ints.nil _, fun _ => rfl⟩
  have E : Hid ((contOut 2 (.mk o h n l)).1 = Tm.insL [] (Tm.hds (rsel 2) 0 (.mk o h n l))) := by show _ = _; unfold contOut; rw [hp]; rfl
  rw [E.out]
  obtain ⟨xs, hxs⟩ : ∃ xs, xs = Tm.insL [] (Tm.hds (rsel 2) 0 (.mk o h n l)) := ⟨_, rfl⟩
  rw [← hxs] at call ⊢
  clear hv hp hsz hxs E
  go_enter Try.func28, Try.ntmps28
  go_wp2_with (go_at_call 62; (with_reducible refine call.mono ?_); rintro e w1 ⟨v1, rfl, hi1, hb1⟩)
  go_ret
  exact ⟨v1, rfl, hi1, hb.trans (hb1.mono hb.size)⟩

set_option maxHeartbeats 1000000 in
set_option maxRecDepth 100000 in
theorem metasR_any (o h n : Int) (v : Value) (l : List Tm) (w : World) (hv : Lies w (fun _ => True) v l) (hp : Tm.proper (.mk o h n l) = true) :
    Calls Try.prog 29 #[.agg #[.int .i64 o, .int .i64 h, .int .i64 n, v]] w (GivesInts w (contOut 3 (.mk o h n l)).1) := by
  obtain ⟨a2, n2, m2, rfl⟩ := hv.isSlice
  have hb := one_below w (.cells #[.int .i64 o, .int .i64 h, .int .i64 n, .slice a2 n2 m2] 24)
  have hsz := Tm.proper_sz hp
  have call := heads_calls _ 3 (by omega) (by omega) _ o h n 0 _ l (.slice none 0 0) [] (w.alloc (.cells #[.int .i64 o, .int .i64 h, .int .i64 n, .slice a2 n2 m2] 24)) (Nat.le_refl _) (by omega) (by omega) (by simp; omega) (Tm.nums_of_formed _ 1 (Tm.proper_formed hp)) (hv.keep hb) ⟨Ints.nil _, fun _ => rfl⟩
  have E : Hid ((contOut 3 (.mk o h n l)).1 = Tm.insL [] (Tm.hds (rsel 3) 0 (.mk o h n l))) := by show _ = _; unfold contOut; rw [hp]; rfl
  rw [E.out]
  obtain ⟨xs, hxs⟩ : ∃ xs, xs = Tm.insL [] (Tm.hds (rsel 3) 0 (.mk o h n l)) := ⟨_, rfl⟩
  rw [← hxs] at call ⊢
  clear hv hp hsz hxs E
  go_enter Try.func29, Try.ntmps29
  go_wp2_with (go_at_call 62; (with_reducible refine call.mono ?_); rintro e w1 ⟨v1, rfl, hi1, hb1⟩)
  go_ret
  exact ⟨v1, rfl, hi1, hb.trans (hb1.mono hb.size)⟩

set_option maxHeartbeats 1000000 in
set_option maxRecDepth 100000 in
theorem occursR_any (o h n : Int) (v : Value) (l : List Tm) (m : Int) (w : World) (hv : Lies w (fun _ => True) v l) (hp : Tm.proper (.mk o h n l) = true) (hm : I64 m) :
    Calls Try.prog 30 #[.agg #[.int .i64 o, .int .i64 h, .int .i64 n, v], .int .i64 m] w fun e w' => e = .returned (.bool (Tm.occ m (.mk o h n l))) ∧ Below w.heap.size w w' := by
  obtain ⟨a2, n2, m2, rfl⟩ := hv.isSlice
  have hb := one_below w (.cells #[.int .i64 o, .int .i64 h, .int .i64 n, .slice a2 n2 m2] 24)
  have hsz := Tm.proper_sz hp
  have hnum : Tm.nums (.mk o h n l) = true := Tm.nums_of_formed _ 1 (Tm.proper_formed hp)
  have hm1 : m ≤ 9223372036854775807 := hm.2
  by_cases h0 : m < 0
  · have E := Lib.hid (Tm.occ_neg m h0 (.mk o h n l))
    clear hv hp hm
    go_enter Try.func30, Try.ntmps30
    go_wp2
    go_ret
    exact ⟨ret_bool (a := false) E.out.symm, hb⟩
  · have call : Calls Try.prog 57 #[.agg #[.int .i64 o, .int .i64 h, .int .i64 n, .slice a2 n2 m2], .int .i64 m, .int .i64 m] (w.alloc (.cells #[.int .i64 o, .int .i64 h, .int .i64 n, .slice a2 n2 m2] 24)) fun e w' => e = .returned (.bool (Tm.occ m (.mk o h n l))) ∧ Below (w.alloc (.cells #[.int .i64 o, .int .i64 h, .int .i64 n, .slice a2 n2 m2] 24)).heap.size (w.alloc (.cells #[.int .i64 o, .int .i64 h, .int .i64 n, .slice a2 n2 m2] 24)) w' := by
      by_cases h1 : 10000 ≤ m
      · rw [Tm.occ_far m h1 _ hnum]
        exact far_calls _ _ o h n m _ l _ (Nat.le_refl _) hsz hnum (.inl ⟨h1, hm1⟩) (hv.keep hb)
      · rw [Tm.occ_low m (by omega)]
        exact low_calls _ _ o h n m m _ l _ (Nat.le_refl _) (by omega) (by omega) (by omega) (by omega) (hv.keep hb)
    obtain ⟨r, hr⟩ : ∃ r, r = Tm.occ m (.mk o h n l) := ⟨_, rfl⟩
    rw [← hr] at call ⊢
    have h2 : 0 ≤ m := by omega
    clear hv hp hnum hm hsz hr h0
    go_enter Try.func30, Try.ntmps30
    go_wp2_with (go_at_call 57; (with_reducible refine call.mono ?_); rintro e w1 ⟨rfl, hb1⟩)
    go_ret
    exact ⟨rfl, hb.trans (hb1.mono hb.size)⟩
end Go.Proofs.Ytnooeaefldklaaa
