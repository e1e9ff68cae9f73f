/- The list of pieces that Apply makes. -/
import Derived.Test.YtieakippgeehgaaSbGb
import Derived.Laws.MakeOwn
import Derived.Laws.World
namespace Go.Proofs.Ytieakippgeehgaa.Tm
mutual
theorem moved_zero : ∀ (t : Tm) (fr : Int), moved 0 fr t = t
  | .mk o h n l, fr => by simp only [moved, movedL_zero l fr o 0, Int.add_zero, ite_self]
theorem movedL_zero : ∀ (l : List Tm) (fr o : Int) (i : Nat), movedL 0 fr o i l = l
  | [], _, _, _ => rfl
  | t :: l, fr, o, i => by simp only [movedL, moved_zero t, movedL_zero l fr o (i + 1)]
end
end Go.Proofs.Ytieakippgeehgaa.Tm
namespace Go.Proofs.Ytieakippgeehgaa.Sb
open Go.RowKit
set_option linter.unusedSimpArgs false
set_option linter.unusedVariables false

/-- the list of pieces, as far as it is filled -/
structure MkP (w wr : World) (M len : Nat) (l : List Tm) (sv : Nat → Value) (j : Nat) : Prop where
  below : Below w.heap.size w wr
  bM : w.heap.size < M
  blk : ∃ cs, wr.heap[M]? = some (.cells cs 77 (0, 0)) ∧ cs.size = len * 6
  hlen : l.length = len
  hj : j ≤ len
  c0 : ∀ i (h : i < l.length), i < j → wr.cell? ⟨M, i * 6, none⟩ = some (.int .i64 l[i].op)
  c1 : ∀ i (h : i < l.length), i < j → wr.cell? ⟨M, i * 6 + 1, none⟩ = some (.int .i64 l[i].hd)
  c2 : ∀ i (h : i < l.length), i < j → wr.cell? ⟨M, i * 6 + 2, none⟩ = some (.int .i64 l[i].n)
  c3 : ∀ i (h : i < l.length), i < j → wr.cell? ⟨M, i * 6 + 3, none⟩ = some (sv i)
  c4 : ∀ i (h : i < l.length), i < j → wr.cell? ⟨M, i * 6 + 4, none⟩ = some (.int .i64 (Tm.sz l[i] : Nat))
  c5 : ∀ i (h : i < l.length), i < j → wr.cell? ⟨M, i * 6 + 5, none⟩ = some (.int .i64 (Tm.depth l[i] : Nat))

theorem cell_some {w : World} {B j : Nat} {cs : Array Value} {t : TypeId} (h : w.heap[B]? = some (.cells cs t (0, 0))) (hj : j < cs.size) : ∃ u, w.cell? ⟨B, j, none⟩ = some u :=
  ⟨cs[j], cell_in h j _ (by simp [hj])⟩

theorem MkP.there {w wr : World} {M len : Nat} {l : List Tm} {sv : Nat → Value} {j : Nat} (H : MkP w wr M len l sv j) (hlt : j < len) : (∃ u, wr.cell? ⟨M, j * 6, none⟩ = some u) ∧ (∃ u, wr.cell? ⟨M, j * 6 + 1, none⟩ = some u) ∧ (∃ u, wr.cell? ⟨M, j * 6 + 2, none⟩ = some u) ∧ (∃ u, wr.cell? ⟨M, j * 6 + 3, none⟩ = some u) ∧ (∃ u, wr.cell? ⟨M, j * 6 + 4, none⟩ = some u) ∧ (∃ u, wr.cell? ⟨M, j * 6 + 5, none⟩ = some u) := by
  obtain ⟨cs, hb, hs⟩ := H.blk
  exact ⟨cell_some hb (by omega), cell_some hb (by omega), cell_some hb (by omega), cell_some hb (by omega), cell_some hb (by omega), cell_some hb (by omega)⟩
theorem MkP.free {w wr : World} {M len : Nat} {l : List Tm} {sv : Nat → Value} {j : Nat} (H : MkP w wr M len l sv j) (k : Nat) : wr.frozen? ⟨M, k, none⟩ = false := by
  obtain ⟨cs, hb, hs⟩ := H.blk
  exact free_in hb k

theorem MkP.keep {w wr wr' : World} {M len : Nat} {l : List Tm} {sv : Nat → Value} {j : Nat} (H : MkP w wr M len l sv j) (hb : Below wr.heap.size wr wr') : MkP w wr' M len l sv j := by
  obtain ⟨cs, hk, hs⟩ := H.blk
  exact ⟨below_next H.below hb, H.bM, ⟨cs, heap_kept hb hk, hs⟩, H.hlen, H.hj, fun i h g => kept_cell hb (H.c0 i h g), fun i h g => kept_cell hb (H.c1 i h g), fun i h g => kept_cell hb (H.c2 i h g), fun i h g => kept_cell hb (H.c3 i h g), fun i h g => kept_cell hb (H.c4 i h g), fun i h g => kept_cell hb (H.c5 i h g)⟩

theorem MkP.start {w w1 : World} {len : Nat} {l : List Tm} {sv : Nat → Value} {z : Array Value} (hb : Below w.heap.size w w1) (hs : w.heap.size < w1.heap.size) (hl : l.length = len) : MkP w (w1.alloc (.cells (madeCells z (len * 6)) 77)) w1.heap.size len l sv 0 :=
  ⟨below_next hb (one_below _ _), hs, ⟨_, heap_alloc_new _ _, size_madeCells _ _⟩, hl, Nat.zero_le _, fun i h g => by omega, fun i h g => by omega, fun i h g => by omega, fun i h g => by omega, fun i h g => by omega, fun i h g => by omega⟩

/-- six cells of a block set anew -/
def setAt6 (w : World) (M k : Nat) (a b c d e f : Value) : World :=
  (((((w.setCell ⟨M, k, none⟩ a).setCell ⟨M, k + 1, none⟩ b).setCell ⟨M, k + 2, none⟩ c).setCell ⟨M, k + 3, none⟩ d).setCell ⟨M, k + 4, none⟩ e).setCell ⟨M, k + 5, none⟩ f

theorem MkP.next {w wr : World} {M len : Nat} {l : List Tm} {sv : Nat → Value} {j : Nat} {t : Tm} (H : MkP w wr M len l sv j) (hlt : j < l.length) (ht : l[j] = t) :
    MkP w (setAt6 wr M (j * 6) (.int .i64 t.op) (.int .i64 t.hd) (.int .i64 t.n) (sv j) (.int .i64 (Tm.sz t : Nat)) (.int .i64 (Tm.depth t : Nat))) M len l sv (j + 1) := by
  obtain ⟨cs, hk, hs⟩ := H.blk
  have hM := H.bM
  have hlen := H.hlen
  have h1 := heap_set_at (j := j * 6) (.int .i64 t.op) hk
  have h2 := heap_set_at (j := j * 6 + 1) (.int .i64 t.hd) h1
  have h3 := heap_set_at (j := j * 6 + 2) (.int .i64 t.n) h2
  have h4 := heap_set_at (j := j * 6 + 3) (sv j) h3
  have h5 := heap_set_at (j := j * 6 + 4) (.int .i64 (Tm.sz t : Nat)) h4
  have h6 := heap_set_at (j := j * 6 + 5) (.int .i64 (Tm.depth t : Nat)) h5
  have hg := H.below
  have old : ∀ i, i < j → ∀ k, k < 6 → ∀ u, wr.cell? ⟨M, i * 6 + k, none⟩ = some u → (setAt6 wr M (j * 6) (.int .i64 t.op) (.int .i64 t.hd) (.int .i64 t.n) (sv j) (.int .i64 (Tm.sz t : Nat)) (.int .i64 (Tm.depth t : Nat))).cell? ⟨M, i * 6 + k, none⟩ = some u := fun i hi k hk u hu => by
    have ne : ∀ m, (⟨M, j * 6 + m, none⟩ : Addr) ≠ ⟨M, i * 6 + k, none⟩ := fun m e => by injection e with e1 e2; omega
    have ne0 : (⟨M, j * 6, none⟩ : Addr) ≠ ⟨M, i * 6 + k, none⟩ := ne 0
    unfold setAt6
    rw [World.cell?_setCell_other (h := ne 5), World.cell?_setCell_other (h := ne 4), World.cell?_setCell_other (h := ne 3), World.cell?_setCell_other (h := ne 2), World.cell?_setCell_other (h := ne 1), World.cell?_setCell_other (h := ne0), hu]
  have new : ∀ k (hk6 : k < 6), (setAt6 wr M (j * 6) (.int .i64 t.op) (.int .i64 t.hd) (.int .i64 t.n) (sv j) (.int .i64 (Tm.sz t : Nat)) (.int .i64 (Tm.depth t : Nat))).cell? ⟨M, j * 6 + k, none⟩ = #[.int .i64 t.op, .int .i64 t.hd, .int .i64 t.n, sv j, .int .i64 (Tm.sz t : Nat), .int .i64 (Tm.depth t : Nat)][k]? := fun k hk6 => by
    have hj6 : j * 6 + 5 < cs.size := by omega
    have e := cell_in (j := j * 6 + k) h6
    unfold setAt6
    rcases (by omega : k = 0 ∨ k = 1 ∨ k = 2 ∨ k = 3 ∨ k = 4 ∨ k = 5) with rfl | rfl | rfl | rfl | rfl | rfl <;> exact e _ (by simp [Array.getElem?_setIfInBounds]; omega)
  have six : ∀ {P : Nat → Prop}, P j → (∀ i, i < j → P i) → ∀ i, i < j + 1 → P i := fun h0 h i hi => by
    rcases Nat.lt_or_eq_of_le (Nat.lt_succ_iff.1 hi) with h' | rfl
    · exact h i h'
    · exact h0
  refine ⟨?_, hM, ⟨_, h6, by simp [hs]⟩, hlen, by omega, fun i h g => ?_, fun i h g => ?_, fun i h g => ?_, fun i h g => ?_, fun i h g => ?_, fun i h g => ?_⟩
  · exact ((((((hg.setCell (Nat.le_of_lt hM) _).setCell (Nat.le_of_lt hM) _).setCell (Nat.le_of_lt hM) _).setCell (Nat.le_of_lt hM) _).setCell (Nat.le_of_lt hM) _).setCell (Nat.le_of_lt hM) _)
  all_goals rcases Nat.lt_or_eq_of_le (Nat.lt_succ_iff.1 g) with h' | rfl
  · exact old i h' 0 (by omega) _ (H.c0 i h h')
  · rw [ht]; exact new 0 (by omega)
  · exact old i h' 1 (by omega) _ (H.c1 i h h')
  · rw [ht]; exact new 1 (by omega)
  · exact old i h' 2 (by omega) _ (H.c2 i h h')
  · rw [ht]; exact new 2 (by omega)
  · exact old i h' 3 (by omega) _ (H.c3 i h h')
  · exact new 3 (by omega)
  · exact old i h' 4 (by omega) _ (H.c4 i h h')
  · rw [ht]; exact new 4 (by omega)
  · exact old i h' 5 (by omega) _ (H.c5 i h h')
  · rw [ht]; exact new 5 (by omega)

/-- the list, filled -/
theorem MkP.whole {w wr : World} {S : Nat → Prop} {M len : Nat} {l : List Tm} {sv : Nat → Value} (H : MkP w wr M len l sv len) (hS : S M) (hl6 : len ≤ 600) (sub : ∀ i (h : i < l.length), Lies wr S (sv i) l[i].args) : PLies wr S (.slice (some ⟨M, 0, none⟩) len len) l :=
  ⟨_, M, 0, len, len, sv, rfl, ⟨H.hlen, fun _ => rfl, fun _ => hS, Nat.le_refl _, by omega, fun i h => by rw [Nat.zero_add]; exact H.c0 i h (by rw [← H.hlen]; exact h), fun i h => by rw [Nat.zero_add]; exact H.c1 i h (by rw [← H.hlen]; exact h), fun i h => by rw [Nat.zero_add]; exact H.c2 i h (by rw [← H.hlen]; exact h),
    fun i h => by rw [Nat.zero_add]; exact H.c3 i h (by rw [← H.hlen]; exact h), fun i h => by rw [Nat.zero_add]; exact H.c4 i h (by rw [← H.hlen]; exact h), fun i h => by rw [Nat.zero_add]; exact H.c5 i h (by rw [← H.hlen]; exact h), sub⟩⟩
end Go.Proofs.Ytieakippgeehgaa.Sb
