/- The contracts of term.Free, Constants, Metas, Occurs, and of the reference's. -/
import Derived.Test.YteoheeddjddekaaTmConQ
import Derived.Test.YteoheeddjddekaaTmNumH
namespace Go.Proofs.Yteoheeddjddekaa
open Go.RowKit
set_option linter.unusedSimpArgs false
set_option linter.unusedVariables false

/-- what Free, Constants and Metas return -/
def contOut (x : Int) (t : Tm) : List Int × Int := if Tm.proper t then (Tm.insL [] (Tm.hds (rsel x) 0 t), 0) else ([], 2)
theorem contOut_free (y : Int) (t : Tm) : VF.numsOut y t = contOut 1 t := by
  unfold VF.numsOut contOut
  rcases h : Tm.proper t with _ | _
  · rfl
  · simp only [if_true]; rw [Tm.hds_free y h]
theorem contOut_heads (x : Int) (hx : 2 ≤ x) (t : Tm) : VH.numsOut x t = contOut x t := by
  unfold VH.numsOut contOut
  rcases h : Tm.proper t with _ | _
  · rfl
  · simp only [if_true]; rw [Tm.hds_heads x hx h]

theorem numE_next {w w0 w1 : World} {r : List Int × Int} {e : Ending} (hb : Below w.heap.size w w0) (h : NumE w0 r e w1) : NumE w r e w1 := by
  obtain ⟨v, he, hi, hb1⟩ := h
  exact ⟨v, he, hi, hb.trans (hb1.mono hb.size)⟩

set_option maxHeartbeats 1000000 in
set_option maxRecDepth 100000 in
theorem numberOf_any (x : Int) (w : World) : Calls Try.prog 53 #[.int .i64 x] w fun e w' => e = .returned (.func (.func 75) #[] #[.pointer (some ⟨w.heap.size, 0, none⟩)]) ∧ w' = w.alloc (.cells #[.int .i64 x] 3) := by
  go_enter Try.func53, Try.ntmps53
  go_wp2
  go_ret
  exact ⟨rfl, rfl⟩

set_option maxHeartbeats 1000000 in
set_option maxRecDepth 100000 in
theorem consts_any (o h n : Int) (v : Value) (l : List Tm) (w : World) (hv : Lies w (fun _ => True) v l) :
    Calls Try.prog 25 #[.agg #[.int .i64 o, .int .i64 h, .int .i64 n, v]] w (NumE w (contOut 2 (.mk o h n l))) := by
  obtain ⟨a2, n2, m2, rfl⟩ := hv.isSlice
  have hb := (two_below w (.cells #[.int .i64 o, .int .i64 h, .int .i64 n, .slice a2 n2 m2] 25) (.cells #[.int .i64 2] 3)).drew
  have hn := two_blocks w #[.int .i64 o, .int .i64 h, .int .i64 n, .slice a2 n2 m2] #[.int .i64 2] 25 3
  have hn0 := heap_alloc_new w (.cells #[.int .i64 o, .int .i64 h, .int .i64 n, .slice a2 n2 m2] 25)
  have call := VH.nums_any o h n _ l 2 (w.heap.size + 1) ((w.alloc (.cells #[.int .i64 o, .int .i64 h, .int .i64 n, .slice a2 n2 m2] 25)).alloc (.cells #[.int .i64 2] 3)).drew (hv.keep hb) hn.2 (lt_of_block hn.2)
  rw [contOut_heads 2 (by omega)] at call
  unfold VH.fv at call
  have hx0 : Cells4 (w.alloc (.cells #[.int .i64 o, .int .i64 h, .int .i64 n, .slice a2 n2 m2] 25)).drew w.heap.size (.int .i64 o) (.int .i64 h) (.int .i64 n) (.slice a2 n2 m2) := ⟨cell_in hn0 0 _ rfl, cell_in hn0 1 _ rfl, cell_in hn0 2 _ rfl, cell_in hn0 3 _ rfl⟩
  have hx1 : Cells4 ((w.alloc (.cells #[.int .i64 o, .int .i64 h, .int .i64 n, .slice a2 n2 m2] 25)).alloc (.cells #[.int .i64 2] 3)).drew w.heap.size (.int .i64 o) (.int .i64 h) (.int .i64 n) (.slice a2 n2 m2) := ⟨cell_in hn.1 0 _ rfl, cell_in hn.1 1 _ rfl, cell_in hn.1 2 _ rfl, cell_in hn.1 3 _ rfl⟩
  clear hv hn hn0
  go_enter Try.func25, Try.ntmps25
  go_wp2_with fail
  go_region_held3 (fun W => Cells4 W w.heap.size (.int .i64 o) (.int .i64 h) (.int .i64 n) (.slice a2 n2 m2))
    (first | (with_reducible exact hx0) | (with_reducible exact hx1) | (with_reducible exact keep4 hb2 hx1))
    (first | (go_at_call 53; (with_reducible refine (numberOf_any 2 _).mono ?_); rintro e w1 ⟨rfl, rfl⟩) | (go_at_call 52; (with_reducible refine call.mono ?_); rintro e w2 ⟨v1, rfl, hi1, hb2⟩))
  go_wp2
  go_ret2
  exact ⟨v1, rfl, hi1, hb.trans (hb2.mono hb.size)⟩

/-- what Occurs returns -/
def occOut (n : Int) (t : Tm) : Bool × Int := if Tm.proper t then (Tm.occ n t, 0) else (false, 2)
theorem occ_end {n : Int} {t : Tm} : (Value.tuple #[.bool (decide (n ∈ (contOut 1 t).1)), .int .i64 (contOut 1 t).2]) = .tuple #[.bool (occOut n t).1, .int .i64 (occOut n t).2] := by
  unfold contOut occOut Tm.occ
  split <;> simp

set_option maxHeartbeats 1000000 in
set_option maxRecDepth 100000 in
theorem freeR_any (o h n : Int) (v : Value) (l : List Tm) (w : World) (hv : Lies w (fun _ => True) v l) (hp : Tm.proper (.mk o h n l) = true) :
    Calls Try.prog 77 #[.agg #[.int .i64 o, .int .i64 h, .int .i64 n, v]] w (GivesInts w (contOut 1 (.mk o h n l)).1) := by
  obtain ⟨a2, n2, m2, rfl⟩ := hv.isSlice
  have hb := one_below w (.cells #[.int .i64 o, .int .i64 h, .int .i64 n, .slice a2 n2 m2] 25)
  have hsz := Tm.proper_sz hp
  have call := heads_calls _ 1 (by omega) (by omega) _ o h n 0 _ l (.slice none 0 0) [] (w.alloc (.cells #[.int .i64 o, .int .i64 h, .int .i64 n, .slice a2 n2 m2] 25)) (Nat.le_refl _) (by omega) (by omega) (by simp; omega) (Tm.nums_of_formed _ 1 (Tm.proper_formed hp)) (hv.keep hb) ⟨Ints.nil _, fun _ => rfl⟩
  have E : Hid ((contOut 1 (.mk o h n l)).1 = Tm.insL [] (Tm.hds (rsel 1) 0 (.mk o h n l))) := by show _ = _; unfold contOut; rw [hp]; rfl
  rw [E.out]
  obtain ⟨xs, hxs⟩ : ∃ xs, xs = Tm.insL [] (Tm.hds (rsel 1) 0 (.mk o h n l)) := ⟨_, rfl⟩
  rw [← hxs] at call ⊢
  clear hv hp hsz hxs E
  go_enter Try.func77, Try.ntmps77
  go_wp2_with (go_at_call 59; (with_reducible refine call.mono ?_); rintro e w1 ⟨v1, rfl, hi1, hb1⟩)
  go_ret
  exact ⟨v1, rfl, hi1, hb.trans (hb1.mono hb.size)⟩

set_option maxHeartbeats 1000000 in
set_option maxRecDepth 100000 in
theorem constsR_any (o h n : Int) (v : Value) (l : List Tm) (w : World) (hv : Lies w (fun _ => True) v l) (hp : Tm.proper (.mk o h n l) = true) :
    Calls Try.prog 33 #[.agg #[.int .i64 o, .int .i64 h, .int .i64 n, v]] w (GivesInts w (contOut 2 (.mk o h n l)).1) := by
  obtain ⟨a2, n2, m2, rfl⟩ := hv.isSlice
  have hb := one_below w (.cells #[.int .i64 o, .int .i64 h, .int .i64 n, .slice a2 n2 m2] 25)
  have hsz := Tm.proper_sz hp
  have call := heads_calls _ 2 (by omega) (by omega) _ o h n 0 _ l (.slice none 0 0) [] (w.alloc (.cells #[.int .i64 o, .int .i64 h, .int .i64 n, .slice a2 n2 m2] 25)) (Nat.le_refl _) (by omega) (by omega) (by simp; omega) (Tm.nums_of_formed _ 1 (Tm.proper_formed hp)) (hv.keep hb) ⟨Ints.nil _, fun _ => rfl⟩
  have E : Hid ((contOut 2 (.mk o h n l)).1 = Tm.insL [] (Tm.hds (rsel 2) 0 (.mk o h n l))) := by show _ = _; unfold contOut; rw [hp]; rfl
  rw [E.out]
  obtain ⟨xs, hxs⟩ : ∃ xs, xs = Tm.insL [] (Tm.hds (rsel 2) 0 (.mk o h n l)) := ⟨_, rfl⟩
  rw [← hxs] at call ⊢
  clear hv hp hsz hxs E
  go_enter Try.func33, Try.ntmps33
  go_wp2_with (go_at_call 59; (with_reducible refine call.mono ?_); rintro e w1 ⟨v1, rfl, hi1, hb1⟩)
  go_ret
  exact ⟨v1, rfl, hi1, hb.trans (hb1.mono hb.size)⟩

set_option maxHeartbeats 1000000 in
set_option maxRecDepth 100000 in
theorem metasR_any (o h n : Int) (v : Value) (l : List Tm) (w : World) (hv : Lies w (fun _ => True) v l) (hp : Tm.proper (.mk o h n l) = true) :
    Calls Try.prog 78 #[.agg #[.int .i64 o, .int .i64 h, .int .i64 n, v]] w (GivesInts w (contOut 3 (.mk o h n l)).1) := by
  obtain ⟨a2, n2, m2, rfl⟩ := hv.isSlice
  have hb := one_below w (.cells #[.int .i64 o, .int .i64 h, .int .i64 n, .slice a2 n2 m2] 25)
  have hsz := Tm.proper_sz hp
  have call := heads_calls _ 3 (by omega) (by omega) _ o h n 0 _ l (.slice none 0 0) [] (w.alloc (.cells #[.int .i64 o, .int .i64 h, .int .i64 n, .slice a2 n2 m2] 25)) (Nat.le_refl _) (by omega) (by omega) (by simp; omega) (Tm.nums_of_formed _ 1 (Tm.proper_formed hp)) (hv.keep hb) ⟨Ints.nil _, fun _ => rfl⟩
  have E : Hid ((contOut 3 (.mk o h n l)).1 = Tm.insL [] (Tm.hds (rsel 3) 0 (.mk o h n l))) := by show _ = _; unfold contOut; rw [hp]; rfl
  rw [E.out]
  obtain ⟨xs, hxs⟩ : ∃ xs, xs = Tm.insL [] (Tm.hds (rsel 3) 0 (.mk o h n l)) := ⟨_, rfl⟩
  rw [← hxs] at call ⊢
  clear hv hp hsz hxs E
  go_enter Try.func78, Try.ntmps78
  go_wp2_with (go_at_call 59; (with_reducible refine call.mono ?_); rintro e w1 ⟨v1, rfl, hi1, hb1⟩)
  go_ret
  exact ⟨v1, rfl, hi1, hb.trans (hb1.mono hb.size)⟩

end Go.Proofs.Yteoheeddjddekaa
