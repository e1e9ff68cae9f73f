/- The walk of SignLevels. -/
import Derived.Test.YteoheeddjddekaaL5f
import Derived.Test.YteoheeddjddekaaL5e
namespace Go.Proofs.Yteoheeddjddekaa
open Go.RowKit
set_option linter.unusedSimpArgs false
set_option linter.unusedVariables false

set_option maxHeartbeats 4000000 in
set_option maxRecDepth 100000 in
theorem signLevels_walk (w : World) (l : List Dc) (sv : Value) (hl : DLies w (fun _ => True) sv l) (t : Tm) (v : Value) (hv : Lies w (fun _ => True) v t.args) (hft : t.fit) :
    Calls Try.prog 3 #[sv, .agg #[.int .i64 t.op, .int .i64 t.hd, .int .i64 t.n, v]] w fun e w' => e = .returned (.bool true) ∧ Below w.heap.size w w' := by
  have hbx := one_below w (.cells #[.int .i64 t.op, .int .i64 t.hd, .int .i64 t.n, v] 25)
  have HX := Lib.hid (heap_alloc_new w (.cells #[.int .i64 t.op, .int .i64 t.hd, .int .i64 t.n, v] 25))
  have c1 := level_any l t sv v _ (hl.keep hbx) (hv.keep hbx)
  have c2 := fun w1 (hb : Below w.heap.size w w1) => sgFormedR_any _ l sv w1 (hl.keep hb)
  have c3 := fun w1 (hb : Below w.heap.size w w1) => proper_any _ t.op t.hd t.n v t.args w1 (hv.keep hb)
  have c4 := fun (hf : Sg.formed l = true) (hp : Tm.proper t = true) w1 (hb : Below w.heap.size w w1) => levelR_any l t sv v w1 (hl.keep hb) (hv.keep hb) hf hp
  have et : Tm.mk t.op t.hd t.n t.args = t := by cases t; rfl
  rw [et] at c3
  obtain ⟨a2, n2, m2, rfl⟩ := hv.isSlice
  obtain ⟨asl, ms, rfl, hlen⟩ := hl.isSlice
  have HB := Lib.hid hbx
  clear hbx hl hv et
  rcases hf : Sg.formed l with _ | _
  · have HE : levOut l t = (0, 2) := by unfold levOut; rw [hf]; rfl
    rw [HE] at c1
    rw [hf] at c2
    clear hf HE c3 c4
    go_enter Try.func3, Try.ntmps3
    go_wp2_with (first
      | (go_at_call 8; (with_reducible refine c1.mono ?_); rintro e w1 ⟨rfl, hb1⟩; have HB1 := Lib.hid (below_next HB.out hb1); clear hb1)
      | (go_at_call 9; (with_reducible refine (c2 _ HB1.out).mono ?_); rintro e w2 ⟨rfl, hb2⟩; have HB2 := Lib.hid (below_next HB1.out hb2); clear hb2)
      | (go_at_call 11; (with_reducible refine (awake_any _).mono ?_); rintro e w5 ⟨rfl, hb5⟩; have HB5 := Lib.hid (below_next HB2.out hb5); clear hb5)
      | fail)
    go_ret
    exact ⟨rfl, HB5.out⟩
  rw [hf] at c2
  rcases hp : Tm.proper t with _ | _
  · have HE : levOut l t = (0, 2) := by unfold levOut; rw [hf, hp]; rfl
    rw [HE] at c1
    rw [hp] at c3
    clear hf HE hp c4
    go_enter Try.func3, Try.ntmps3
    go_wp2_with (first
      | (go_at_call 8; (with_reducible refine c1.mono ?_); rintro e w1 ⟨rfl, hb1⟩; have HB1 := Lib.hid (below_next HB.out hb1); have HX1 := Lib.hid (heap_kept hb1 HX.out); clear hb1)
      | (go_at_call 9; (with_reducible refine (c2 _ HB1.out).mono ?_); rintro e w2 ⟨rfl, hb2⟩; have HB2 := Lib.hid (below_next HB1.out hb2); obtain ⟨x0, x1, x2, x3⟩ := cells4_of (heap_kept hb2 HX1.out); clear hb2)
      | (go_at_call 10; (with_reducible refine (c3 _ HB2.out).mono ?_); rintro e w3 ⟨rfl, hb3⟩; have HB3 := Lib.hid (below_next HB2.out hb3); clear hb3)
      | (go_at_call 11; (with_reducible refine (awake_any _).mono ?_); rintro e w5 ⟨rfl, hb5⟩; have HB5 := Lib.hid (below_next HB3.out hb5); clear hb5)
      | fail)
    go_ret
    exact ⟨rfl, HB5.out⟩
  · rw [hp] at c3
    have c5 := c4 hf hp
    generalize levOut l t = z at *
    obtain ⟨z1, z2⟩ := z
    clear hf hp c4
    go_enter Try.func3, Try.ntmps3
    go_wp2_with (first
      | (go_at_call 8; (with_reducible refine c1.mono ?_); rintro e w1 ⟨rfl, hb1⟩; have HB1 := Lib.hid (below_next HB.out hb1); have HX1 := Lib.hid (heap_kept hb1 HX.out); clear hb1)
      | (go_at_call 9; (with_reducible refine (c2 _ HB1.out).mono ?_); rintro e w2 ⟨rfl, hb2⟩; have HB2 := Lib.hid (below_next HB1.out hb2); have HX2 := Lib.hid (heap_kept hb2 HX1.out); obtain ⟨x0, x1, x2, x3⟩ := cells4_of HX2.out; clear hb2)
      | (go_at_call 10; (with_reducible refine (c3 _ HB2.out).mono ?_); rintro e w3 ⟨rfl, hb3⟩; have HB3 := Lib.hid (below_next HB2.out hb3); clear x0 x1 x2 x3; obtain ⟨x0, x1, x2, x3⟩ := cells4_of (heap_kept hb3 HX2.out); clear hb3)
      | (go_at_call 12; (with_reducible refine (c5 _ HB3.out).mono ?_); rintro e w4 ⟨rfl, hb4⟩; have HB4 := Lib.hid (below_next HB3.out hb4); clear hb4 x0 x1 x2 x3)
      | (go_at_call 11; (with_reducible refine (awake_any _).mono ?_); rintro e w5 ⟨rfl, hb5⟩; have HB5 := Lib.hid (below_next HB4.out hb5); clear hb5)
      | fail)
    go_ret
    exact ⟨rfl, HB5.out⟩
end Go.Proofs.Yteoheeddjddekaa
