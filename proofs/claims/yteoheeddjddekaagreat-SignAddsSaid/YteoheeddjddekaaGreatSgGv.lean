/- The law's gives; a list parameter that is nil has no room. -/
import Derived.Test.YteoheeddjddekaaGreatSgSm
import Derived.Test.YteoheeddjddekaaGreatSgOp
namespace Go.Proofs.YteoheeddjddekaaGreat
open Go.RowKit Go.Shelf
set_option linter.unusedSimpArgs false
set_option linter.unusedVariables false
set_option maxRecDepth 100000

section
variable {H : Type} {enc : TypeId × Value → H} {w : World} {base : Nat} {spare : Nat → Bool} {held : Bool}
open Go.ChangeShapes Go.WideShapes in
/-- a list parameter that is nil has no elements and no room -/
theorem open_declsNil {r : Reach} {b0 : Nat} {v : Value} {d : DataW H} {p : List MemPlace} (hv : Value.okWide Tryz.prog w r b0 22 v) (h : DataW.Trod enc Tryz.prog w base spare held 22 v d p) {l : List Dc} {S : Nat → Prop} (hl : DLies w S v l) :
    ∃ a m, v = .slice a l.length m ∧ (a = none → l.length = 0 ∧ m = 0) := by
  obtain ⟨a0, len, cap, rfl⟩ := okWide_slice Tryz.underlying22 hv
  obtain ⟨a, m, he, -⟩ := hl.isSlice
  cases he
  refine ⟨_, _, rfl, fun h0 => ?_⟩
  subst h0
  obtain ⟨fuel, hf⟩ := h
  rcases DataW.trod_slice Tryz.underlying22 hf with ⟨hc, _⟩ | ⟨a, len, cap', elems, rest, n, hn, hc, hx, _, hl, hm, hlen, hel, _, _⟩
  · simp [Value.cells] at hc
    exact ⟨by rw [hc.1]; rfl, hc.2⟩
  · simp [Value.cells] at hc
end

set_option maxHeartbeats 1000000 in
theorem gives_no (a : Option Addr) (m : Nat) (a2 : Option Addr) (n2 m2 : Nat) (z : Int) (w : World) :
    Calls Tryz.prog 21 #[.slice a 0 m, .int .i64 2, .bool false, .slice a2 n2 m2, .int .i64 z] w fun e w' => e = .returned (.bool true) ∧ w' = w := by
  go_enter Tryz.func21, Tryz.ntmps21
  go_wp2_with fail
  go_ret
  exact ⟨rfl, rfl⟩

set_option maxHeartbeats 1000000 in
theorem gives_yes (S S' : Nat → Prop) (l : List Dc) (x y : Value) (c : Int) (h0 : 0 ≤ c) (h1 : c ≤ 100) (w : World) (hx : DLies w S x l) (hy : DLies w S' y l) :
    Calls Tryz.prog 21 #[x, .int .i64 c, .bool true, y, .int .i64 c] w fun e w' => e = .returned (.bool true) ∧ Below w.heap.size w w' := by
  have cS := sameD_any S S' l x y w hx hy
  obtain ⟨a, m, rfl, -⟩ := hx.isSlice
  obtain ⟨a', m', rfl, -⟩ := hy.isSlice
  have hw : IntKind.i64.wrap c = c := IntWalk.i64_in _ (by omega)
  clear hx hy
  go_enter Tryz.func21, Tryz.ntmps21
  go_wp2_with fail
  refine cS.mono ?_
  rintro e w1 ⟨rfl, hb1⟩
  have HB := Lib.hid hb1
  clear hb1 cS
  go_wp2_with fail
  go_ret
  exact ⟨rfl, HB.out⟩
end Go.Proofs.YteoheeddjddekaaGreat
