/- The contracts of the closure that term.numbers hands on and of term.visit: the free numbers. -/
import Derived.Test.YteoheeddjddekaaTmConP
import Derived.Test.YteoheeddjddekaaTmGc
import Derived.Test.YteoheeddjddekaaTmGb
namespace Go.Proofs.Yteoheeddjddekaa.VF
open Go.RowKit Go.Maps
set_option linter.unusedSimpArgs false
set_option linter.unusedVariables false

theorem lt_of_block' {w : World} {k : Nat} {o : Obj} (h : w.heap[k]? = some o) : k < w.heap.size := (Array.getElem?_eq_some_iff.1 h).1

def capAt (_ : Nat) (_ : Int) (_ : World) : Prop := True
theorem capAt.below {C : Nat} {x : Int} {w w' : World} (_ : capAt C x w) (_ : Below w.heap.size w w') : capAt C x w' := trivial
theorem capAt.other {C B : Nat} {x : Int} {w w' : World} (_ : capAt C x w) (_ : w.grownBy w' (some B)) (_ : C ≠ B) : capAt C x w' := trivial
def selB (_ b h n : Int) : Bool := (h == 1) && decide (b ≤ n)
def selN (b n : Int) : Int := n - b
def sel (x : Int) : Int → Int → Int → Int → Option Int := fun b _ h n => if selB x b h n then some (selN b n) else none

section
variable {H : Type} {N M B C K : Nat} {x : Int} {acc : List Int} {w w' : World}
end

theorem law : Keyed Try.prog 3 := int_keyed Try.underlying3

abbrev Cells8 (W : World) (b1 b2 : Nat) (u1 u2 u3 u4 u5 u6 u7 u8 : Value) : Prop :=
  W.cell? ⟨b1, 0, none⟩ = some u1 ∧ W.cell? ⟨b1, 1, none⟩ = some u2 ∧ W.cell? ⟨b1, 2, none⟩ = some u3 ∧ W.cell? ⟨b1, 3, none⟩ = some u4 ∧ W.cell? ⟨b2, 0, none⟩ = some u5 ∧ W.cell? ⟨b2, 1, none⟩ = some u6 ∧ W.cell? ⟨b2, 2, none⟩ = some u7 ∧ W.cell? ⟨b2, 3, none⟩ = some u8
theorem cells8_below {W W' : World} {b1 b2 : Nat} {u1 u2 u3 u4 u5 u6 u7 u8 : Value} (hb : Below W.heap.size W W') (x : Cells8 W b1 b2 u1 u2 u3 u4 u5 u6 u7 u8) : Cells8 W' b1 b2 u1 u2 u3 u4 u5 u6 u7 u8 := by
  obtain ⟨x1, x2, x3, x4, x5, x6, x7, x8⟩ := x
  exact ⟨kept_cell hb x1, kept_cell hb x2, kept_cell hb x3, kept_cell hb x4, kept_cell hb x5, kept_cell hb x6, kept_cell hb x7, kept_cell hb x8⟩

theorem cells8_only {E : Nat} {W W' : World} {b1 b2 : Nat} {u1 u2 u3 u4 u5 u6 u7 u8 : Value} (h1 : b1 ≠ E) (h2 : b2 ≠ E) (hb : Only E W W') (x : Cells8 W b1 b2 u1 u2 u3 u4 u5 u6 u7 u8) : Cells8 W' b1 b2 u1 u2 u3 u4 u5 u6 u7 u8 := by
  obtain ⟨x1, x2, x3, x4, x5, x6, x7, x8⟩ := x
  exact ⟨hb.cell h1 x1, hb.cell h1 x2, hb.cell h1 x3, hb.cell h1 x4, hb.cell h2 x5, hb.cell h2 x6, hb.cell h2 x7, hb.cell h2 x8⟩

end Go.Proofs.Yteoheeddjddekaa.VF
