/- Plain facts on what measure counts, and on worlds in which one block alone may have been written. Nothing of the program is imported. -/
import Derived.Test.YtomahhdhnlfabaaTmMovedP
import Derived.Deep.QuietTactic
namespace Go.Proofs.Ytomahhdhnlfabaa
open Go.RowKit
namespace Tm

/-- is a term, that stands so deep behind so many nodes, one that may stand there? -/
def mOk (t : Tm) (c lev : Nat) : Bool := decide (c + sz t ≤ 600) && formed t lev

theorem mOk_eq (o h n : Int) (l : List Tm) (c lev : Nat) : mOk (.mk o h n l) c lev = (decide (c + 1 + szL l ≤ 600) && (decide (lev ≤ 40) && headOk o h n l.length && formedL l (lev + 1))) := by
  unfold mOk
  rw [show c + sz (.mk o h n l) = c + 1 + szL l from by simp only [sz]; omega, formed]
theorem mOk_many (o h n : Int) (l : List Tm) (c lev : Nat) (hc : 600 < c + 1) : mOk (.mk o h n l) c lev = false := by
  rw [mOk_eq, show decide (c + 1 + szL l ≤ 600) = false from by rw [decide_eq_false_iff_not]; omega, Bool.false_and]
theorem mOk_deep (o h n : Int) (l : List Tm) (c lev : Nat) (hl : 40 < lev) : mOk (.mk o h n l) c lev = false := by
  rw [mOk_eq, show decide (lev ≤ 40) = false from by rw [decide_eq_false_iff_not]; omega, Bool.false_and, Bool.false_and, Bool.and_false]
theorem mOk_head (o h n : Int) (l : List Tm) (c lev : Nat) (e : headOk o h n l.length = false) : mOk (.mk o h n l) c lev = false := by
  rw [mOk_eq, e, Bool.and_false, Bool.false_and, Bool.and_false]
theorem mOk_fail (o h n : Int) (l : List Tm) (c lev k : Nat) (hk : k < l.length) (e : mOk l[k] (c + 1 + szL (l.take k)) (lev + 1) = false) : mOk (.mk o h n l) c lev = false := by
  have h1 := szL_take l k hk
  have h2 := szL_take_le l (k + 1)
  rw [mOk_eq]
  unfold mOk at e
  rcases Bool.and_eq_false_iff.1 e with e | e
  · rw [decide_eq_false_iff_not] at e
    rw [show decide (c + 1 + szL l ≤ 600) = false from by rw [decide_eq_false_iff_not]; omega, Bool.false_and]
  · rw [formedL_fail l (lev + 1) k hk e, Bool.and_false, Bool.and_false]
theorem mOk_step (l : List Tm) (c lev k : Nat) (hk : k < l.length) (e : mOk l[k] (c + 1 + szL (l.take k)) (lev + 1) = true) : c + 1 + szL (l.take (k + 1)) ≤ 600 ∧ formed l[k] (lev + 1) = true := by
  unfold mOk at e
  rw [Bool.and_eq_true, decide_eq_true_eq] at e
  rw [szL_take l k hk]
  exact ⟨by omega, e.2⟩
theorem mOk_all (o h n : Int) (l : List Tm) (c lev : Nat) (e : headOk o h n l.length = true) (hl : lev ≤ 40) (hc : c + 1 + szL l ≤ 600) (hf : formedL l (lev + 1) = true) : mOk (.mk o h n l) c lev = true := by
  rw [mOk_eq, e, hf, decide_eq_true hl, decide_eq_true hc]; rfl

theorem depthL_snoc : ∀ (l : List Tm) (t : Tm), depthL (l ++ [t]) = max (depthL l) (depth t)
  | [], t => by simp [depthL]
  | a :: l, t => by simp only [List.cons_append, depthL, depthL_snoc l t]; omega
theorem depthL_take (l : List Tm) (k : Nat) (h : k < l.length) : depthL (l.take (k + 1)) = max (depthL (l.take k)) (depth l[k]) := by
  rw [List.take_succ_eq_append_getElem h, depthL_snoc]
theorem depth_pos (t : Tm) : 1 ≤ depth t := by cases t; simp [depth]
mutual
theorem depth_le : ∀ t : Tm, depth t ≤ sz t
  | .mk _ _ _ l => by have := depthL_le l; simp only [depth, sz]; omega
theorem depthL_le : ∀ l : List Tm, depthL l ≤ szL l
  | [] => Nat.le_refl _
  | t :: l => by have := depth_le t; have := depthL_le l; simp only [depthL, szL]; omega
end

theorem szL_take_mem {l : List Tm} {k : Nat} (h : k < l.length) : szL (l.take k) + sz l[k] ≤ szL l := by
  have h1 := szL_take l k h
  have h2 := szL_take_le l (k + 1)
  omega

/-- the ways through the tests on a node, each decided -/
theorem node_ways (h n : Int) :
    ((h == 0) = false ∨ ((h == 0) = true ∧ (n == 0) = false) ∨ ((h == 0) = true ∧ (n == 0) = true)) := by
  rcases (h == 0) with _ | _ <;> rcases (n == 0) with _ | _ <;> simp
end Tm

theorem below_drawn {B : Nat} {a w : World} (h : Below B a w) (n : Nat) : Below B a (w.drewN n) := h.trans ⟨rfl, rfl, rfl, Nat.le_refl _, fun _ _ => rfl⟩

section
variable {w w1 w2 : World} {B : Nat}
/-- one block alone may have been written -/
def Only (B : Nat) (w w' : World) : Prop := w.grownBy w' (some B)
theorem Only.out (h : Only B w w1) : w.grownBy w1 (some B) := h
theorem Only.refl (B : Nat) (w : World) : Only B w w := ⟨rfl, rfl, rfl, Nat.le_refl _, fun _ _ _ => rfl⟩
theorem Only.size (h : Only B w w1) : w.heap.size ≤ w1.heap.size := h.out.size
theorem Only.block (h : Only B w w1) (k : Nat) (hk : k < w.heap.size) (hn : k ≠ B) : w1.heap[k]? = w.heap[k]? := h.out.block k hk (by simpa using hn)
theorem Only.trans (h : Only B w w1) (g : Only B w1 w2) : Only B w w2 := by
  refine ⟨g.out.os.trans h.out.os, g.out.tape.trans h.out.tape, g.out.output.trans h.out.output, Nat.le_trans h.size g.size, fun k hk hn => ?_⟩
  have hn' : k ≠ B := by simpa using hn
  exact (g.block k (by have := h.size; omega) hn').trans (h.block k hk hn')
theorem Only.below (h : Below w.heap.size w w1) (B : Nat) : Only B w w1 := ⟨h.os, h.tape, h.output, h.size, fun k hk _ => h.block k hk⟩
theorem Only.alloc (h : Only B w w1) (o : Obj) : Only B w (w1.alloc o) := h.trans (Only.below ((Below.refl _ _).alloc (Nat.le_refl _) o) B)
theorem Only.drew (h : Only B w w1) : Only B w w1.drew := h.trans (Only.below (Below.refl _ _).drew B)
theorem Only.setCell (h : Only B w w1) (j : Nat) (s : Option Nat) (u : Value) : Only B w (w1.setCell ⟨B, j, s⟩ u) :=
  h.trans ⟨rfl, rfl, rfl, by simp [World.setCell], fun k hk hn => Below.heap_setCell _ _ _ _ (by simpa using hn)⟩
/-- the one block is new -/
theorem Only.fresh (h : Only B w1 w2) (hb : Below w.heap.size w w1) (hB : w.heap.size ≤ B) : Below w.heap.size w w2 :=
  hb.trans ⟨h.out.os, h.out.tape, h.out.output, h.size, fun k hk => h.block k (by have := hb.size; omega) (by omega)⟩
theorem Only.cell (h : Only B w w1) {p : Addr} {u : Value} (hp : p.block ≠ B) (e : w.cell? p = some u) : w1.cell? p = some u := by
  rw [World.cell?_of_block (w := w) (h.block p.block (World.block_lt_of_cell? w p e) hp)]; exact e
theorem Lies.only {S : Nat → Prop} {v : Value} {l : List Tm} (h : Lies w S v l) (hS : ¬ S B) (hb : Only B w w1) : Lies w1 S v l :=
  h.still fun b hb' hlt => hb.block b hlt (fun e => hS (e ▸ hb'))
end

theorem RowAt.atO {w wr : World} {B : Nat} {ao : Option Addr} {b off len cap : Nat} {o h k : Nat → Int} {sv : Nat → Value} {ts : Nat → List Tm} {l : List Tm} (R : RowAt w (· ≠ B) ao b off len cap o h k sv ts l) (hb : Only B w wr) (i : Nat) (hi : i < len) :
    wr.cell? ⟨b, off + i * 4, none⟩ = some (.int .i64 (o i)) ∧ wr.cell? ⟨b, off + i * 4 + 1, none⟩ = some (.int .i64 (h i)) ∧ wr.cell? ⟨b, off + i * 4 + 2, none⟩ = some (.int .i64 (k i)) ∧ wr.cell? ⟨b, off + i * 4 + 3, none⟩ = some (sv i) ∧ Lies wr (· ≠ B) (sv i) (ts i) := by
  have hne : b ≠ B := R.hS (by omega)
  exact ⟨hb.cell hne (R.c0 i hi), hb.cell hne (R.c1 i hi), hb.cell hne (R.c2 i hi), hb.cell hne (R.c3 i hi), (R.sub i hi).only (fun h => h rfl) hb⟩

theorem Lies.isSlice {w : World} {S : Nat → Prop} {v : Value} {l : List Tm} (h : Lies w S v l) : ∃ a n m, v = .slice a n m := by
  cases h; exact ⟨_, _, _, rfl⟩

theorem two_cells {w : World} {B : Nat} {x y : Value} {t : TypeId} (h : w.heap[B]? = some (.cells #[x, y] t (0, 0))) :
    w.cell? ⟨B, 0, none⟩ = some x ∧ w.cell? ⟨B, 1, none⟩ = some y ∧ w.frozen? ⟨B, 0, none⟩ = false ∧ w.frozen? ⟨B, 1, none⟩ = false ∧ B < w.heap.size :=
  ⟨cell_in h 0 _ rfl, cell_in h 1 _ rfl, free_in h 0, free_in h 1, (Array.getElem?_eq_some_iff.1 h).1⟩
end Go.Proofs.Ytomahhdhnlfabaa
