/- The contract of sign.contains: whether a constant stands in a class. -/
import Derived.Test.YteoheeddjddekaaSgT
namespace Go.Proofs.Yteoheeddjddekaa
open Go.RowKit
set_option linter.unusedSimpArgs false
set_option linter.unusedVariables false

set_option maxHeartbeats 1000000 in
set_option maxRecDepth 100000 in
theorem sgContains_any (t : Tm) (m : Int) (v : Value) (w : World) (hv : Lies w (fun _ => True) v t.args) (hp : Tm.proper t = true) :
    Calls Try.prog 36 #[.agg #[.int .i64 t.op, .int .i64 t.hd, .int .i64 t.n, v], .int .i64 m] w fun e w' => e = .returned (.bool (decide (m ∈ consL t))) ∧ Below w.heap.size w w' := by
  have hbx := one_below w (.cells #[.int .i64 t.op, .int .i64 t.hd, .int .i64 t.n, v] 25)
  have HB := Lib.hid hbx
  have cC := fun w1 (hb : Below w.heap.size w w1) => consts_any t.op t.hd t.n v t.args w1 (hv.keep hb)
  have et : Tm.mk t.op t.hd t.n t.args = t := by cases t; rfl
  have hco : contOut 2 t = (consL t, 0) := by unfold contOut; rw [hp]; rfl
  rw [et, hco] at cC
  obtain ⟨a2, n2, m2, rfl⟩ := hv.isSlice
  clear hv hbx hp hco et
  generalize consL t = cs at *
  go_enter Try.func36, Try.ntmps36
  go_wp2_with (first
    | (go_at_call 25; (with_reducible refine (cC _ HB.out).mono ?_); rintro e w2 ⟨v2, rfl, hi2, hb2⟩; have HI2 := Lib.hid hi2; have HB2 := Lib.hid (below_next HB.out hb2); clear hb2 hi2)
    | (go_at_call 60; (with_reducible refine (contains_any _ cs m _ HI2.out).mono ?_); rintro e w3 ⟨rfl, rfl⟩)
    | fail)
  go_ret
  exact ⟨rfl, HB2.out⟩
end Go.Proofs.Yteoheeddjddekaa
