/- The contract of the reference's Simple. -/
import Derived.Test.YtomahhdhnlfabaaTmSimP
import Derived.Test.YtomahhdhnlfabaaSmSameT
import Derived.Test.YtomahhdhnlfabaaTmAwake
namespace Go.Proofs.Ytomahhdhnlfabaa
open Go.RowKit
set_option linter.unusedSimpArgs false
set_option linter.unusedVariables false

/-- a simple type in new memory, and whether there is one -/
def GivesS (w : World) (r : Option Sp.Tm) (e : Ending) (w' : World) : Prop :=
  ∃ v, e = .returned (.tuple #[.agg #[v, .int .i64 (spOf r).n], .bool r.isSome]) ∧ Below w.heap.size w w' ∧ Sp.Lies w' (w.heap.size ≤ ·) v (spOf r).args

theorem cells2_of {w : World} {B : Nat} {a b : Value} {t : TypeId} (h : w.heap[B]? = some (.cells #[a, b] t (0, 0))) : w.cell? ⟨B, 0, none⟩ = some a ∧ w.cell? ⟨B, 1, none⟩ = some b ∧ w.frozen? ⟨B, 0, none⟩ = false ∧ w.frozen? ⟨B, 1, none⟩ = false :=
  ⟨cell_in h 0 _ rfl, cell_in h 1 _ rfl, free_in h 0, free_in h 1⟩
theorem c4_of {w : World} {B : Nat} {x y z v : Value} {t : TypeId} (h : w.heap[B]? = some (.cells #[x, y, z, v] t (0, 0))) : w.cell? ⟨B, 0, none⟩ = some x ∧ w.cell? ⟨B, 1, none⟩ = some y ∧ w.cell? ⟨B, 2, none⟩ = some z ∧ w.cell? ⟨B, 3, none⟩ = some v :=
  ⟨cell_in h 0 _ rfl, cell_in h 1 _ rfl, cell_in h 2 _ rfl, cell_in h 3 _ rfl⟩
theorem lt_blk {w : World} {B : Nat} {o : Obj} (h : w.heap[B]? = some o) : B < w.heap.size := (Array.getElem?_eq_some_iff.1 h).1
theorem set2_at {w : World} {B : Nat} {a b : Value} {t : TypeId} (h : w.heap[B]? = some (.cells #[a, b] t (0, 0))) (x y : Value) : ((w.setCell ⟨B, 0, none⟩ x).setCell ⟨B, 1, none⟩ y).heap[B]? = some (.cells #[x, y] t (0, 0)) := by
  have h1 := heap_set_at (j := 0) x h
  have h2 := heap_set_at (j := 1) y h1
  simpa using h2
theorem heap_set2 {w : World} {k B : Nat} (x y : Value) (i j : Nat) (h : k ≠ B) : ((w.setCell ⟨B, i, none⟩ x).setCell ⟨B, j, none⟩ y).heap[k]? = w.heap[k]? := by
  rw [Below.heap_setCell _ _ _ _ (by simpa using h), Below.heap_setCell _ _ _ _ (by simpa using h)]

set_option maxHeartbeats 2000000 in
set_option maxRecDepth 100000 in
theorem simR_con (o n : Int) (v : Value) (l : List Tm) (w : World) (S : Nat → Prop) (hv : Lies w S v l) (ho : o = 4) :
    Calls Try.prog 17 #[.agg #[.int .i64 o, .int .i64 2, .int .i64 n, v]] w (GivesS w (some (.mk n []))) := by
  obtain ⟨a2, n2, m2, rfl⟩ := hv.isSlice
  subst ho
  clear hv
  go_enter Try.func17, Try.ntmps17
  go_wp2
  refine bodyPost_ret (v := .tuple #[.agg #[.slice none 0 0, .int .i64 n], .bool true]) (by simp [results, Try.results17, go_sem]) rfl ?_
  exact ⟨_, rfl, two_below _ _ _, Sp.Lies.nil _ _⟩

set_option maxHeartbeats 2000000 in
set_option maxRecDepth 100000 in
theorem simR_no (o h n : Int) (v : Value) (l : List Tm) (w : World) (S : Nat → Prop) (hv : Lies w S v l) (e2 : (o == 2) = false) (e4 : ((o == 4) = false) ∨ (o = 4 ∧ (h == 2) = false)) :
    Calls Try.prog 17 #[.agg #[.int .i64 o, .int .i64 h, .int .i64 n, v]] w (GivesS w none) := by
  obtain ⟨a2, n2, m2, rfl⟩ := hv.isSlice
  clear hv
  rcases e4 with e4 | ⟨rfl, e4⟩
  all_goals
    go_enter Try.func17, Try.ntmps17
    go_wp2
    refine bodyPost_ret (v := .tuple #[.agg #[.slice none 0 0, .int .i64 0], .bool false]) (by simp [results, Try.results17, go_sem]) rfl ?_
    exact ⟨_, rfl, two_below _ _ _, Sp.Lies.nil _ _⟩
end Go.Proofs.Ytomahhdhnlfabaa
