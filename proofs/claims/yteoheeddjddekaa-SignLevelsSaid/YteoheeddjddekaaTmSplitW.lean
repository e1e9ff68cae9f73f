/- The contract of term.Split. -/
import Derived.Test.YteoheeddjddekaaTmSplitP
namespace Go.Proofs.Yteoheeddjddekaa
open Go.RowKit
set_option linter.unusedSimpArgs false
set_option linter.unusedVariables false

/-- the number of a slice's elements -/
def rowLenOf : Value → Nat | .slice _ n _ => n | _ => 0

/-- what Split gives -/
def GivesSplit (w : World) (x : List Tm × Tm × Int) (e : Ending) (w' : World) : Prop :=
  ∃ a b, e = .returned (.tuple #[a, .agg #[.int .i64 x.2.1.op, .int .i64 x.2.1.hd, .int .i64 x.2.1.n, b], .int .i64 x.2.2]) ∧ Below w.heap.size w w' ∧ Lies w' (w.heap.size ≤ ·) a x.1 ∧ Lies w' (w.heap.size ≤ ·) b x.2.1.args

/-- the loop: the domains' row, the parameter's box with what is left, the result's box -/
structure SplitSt (w : World) (t : Tm) (v : Value) (ts : List Tm) (u : Tm) (uv : Value) (wr : World) : Prop where
  row : Built wr (w.heap.size + 2) 25 v ts
  box : wr.heap[w.heap.size]? = some (.cells #[.int .i64 u.op, .int .i64 u.hd, .int .i64 u.n, uv] 25 (0, 0))
  res : wr.heap[w.heap.size + 1]? = some (.cells #[.int .i64 0, .int .i64 0, .int .i64 0, .slice none 0 0] 25 (0, 0))
  arg : Lies w (fun _ => True) uv u.args
  below : Below w.heap.size w wr
  spl : SplitTo t ts u

theorem Built.len {w : World} {base : Nat} {e : TypeId} {v : Value} {ts : List Tm} (h : Built w base e v ts) : rowLenOf v = ts.length := by
  obtain ⟨vs, _, hown, _⟩ := h.has
  rcases hown.2 with ⟨rfl, h0⟩ | ⟨g, cap, cur, rfl, _⟩
  · simp [rowLenOf, h0]
  · rfl

theorem SplitSt.next {w w3 : World} {t : Tm} {v v' : Value} {ts : List Tm} {u a b : Tm} {uv bv : Value} {wr : World} (H : SplitSt w t v ts u uv wr) (hb : Below (w.heap.size + 2) wr w3) (hrow : Built w3 (w.heap.size + 2) 25 v' (ts ++ [a]))
    (e : u = .mk 2 0 0 [a, b]) (ha : Tm.proper a = true) (hpb : Tm.proper b = true) (hl : Lies w (fun _ => True) bv b.args) :
    SplitSt w t v' (ts ++ [a]) b bv ((((w3.setCell ⟨w.heap.size, 0, none⟩ (.int .i64 b.op)).setCell ⟨w.heap.size, 1, none⟩ (.int .i64 b.hd)).setCell ⟨w.heap.size, 2, none⟩ (.int .i64 b.n)).setCell ⟨w.heap.size, 3, none⟩ bv) := by
  have hbox : w3.heap[w.heap.size]? = _ := (hb.block w.heap.size (by omega)).trans H.box
  have hres : w3.heap[w.heap.size + 1]? = _ := (hb.block (w.heap.size + 1) (by omega)).trans H.res
  refine ⟨(((hrow.setCell (by simp) _).setCell (by simp) _).setCell (by simp) _).setCell (by simp) _, set4_at hbox _ _ _ _, ?_, hl, ((((H.below.trans (hb.mono (by omega))).setCell (by simp) _).setCell (by simp) _).setCell (by simp) _).setCell (by simp) _, H.spl.step e ha hpb⟩
  exact (heap_set4 _ _ _ _ (by simp) (by simp) (by simp) (by simp)).trans hres

end Go.Proofs.Yteoheeddjddekaa
