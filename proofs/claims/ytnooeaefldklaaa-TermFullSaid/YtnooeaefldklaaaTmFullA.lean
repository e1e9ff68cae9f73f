/- For any number: terms of MaxNodes nodes and of the depth MaxDepth are proper, larger and deeper ones are not; so are heads with the number MaxN. No conditions. -/
import Derived.Test.YtnooeaefldklaaaRows
import Derived.Test.YtnooeaefldklaaaTmBack
import Derived.Deep.AppendLies
namespace Go.Proofs.Ytnooeaefldklaaa
open Go.RowKit
set_option linter.unusedSimpArgs false
set_option linter.unusedVariables false

/-- a term under so many binders -/
def deepN : Nat → Tm
  | 0 => .mk 4 2 0 []
  | k + 1 => .mk 3 0 0 [deepN k]
theorem deepN_fit : ∀ k, (deepN k).fit
  | 0 => ⟨by simp [deepN, Tm.op], by simp [deepN, Tm.hd], by simp [deepN, Tm.n]⟩
  | k + 1 => ⟨by simp [deepN, Tm.op], by simp [deepN, Tm.hd], by simp [deepN, Tm.n]⟩
def wideN (k : Nat) : Tm := .mk 4 1 0 (List.replicate k (.mk 1 0 0 []))

theorem deep_proper : Tm.proper (deepN 38) = true ∧ Tm.proper (deepN 39) = true ∧ Tm.proper (deepN 40) = false := by decide +kernel
theorem wide_proper : Tm.proper (wideN 598) = true ∧ Tm.proper (wideN 599) = true ∧ Tm.proper (wideN 600) = false := by decide +kernel
theorem far_proper : Tm.proper (.mk 4 3 9998 []) = true ∧ Tm.proper (.mk 4 3 9999 []) = true ∧ Tm.proper (.mk 4 3 10000 []) = false := by decide +kernel

theorem check_t (t : Tm) (v : Value) (w : World) (hv : Lies w (fun _ => True) v t.args) :
    Calls Try.prog 14 #[.agg #[.int .i64 t.op, .int .i64 t.hd, .int .i64 t.n, v]] w fun e w' => e = .returned (.int .i64 (if Tm.proper t then 0 else 2)) ∧ Below w.heap.size w w' := by
  have c := check_any t.op t.hd t.n v t.args w hv
  rwa [Tm.eta] at c

/-- the term t, in the variable deep -/
def DeepAt (w wr : World) (t : Tm) : Prop :=
  ∃ v, wr.heap[w.heap.size]? = some (.cells #[.int .i64 t.op, .int .i64 t.hd, .int .i64 t.n, v] 24 (0, 0)) ∧ Lies wr (· ≠ w.heap.size) v t.args ∧ Below w.heap.size w wr
theorem DeepAt.zero (w : World) : DeepAt w (w.alloc (.cells #[.int .i64 4, .int .i64 2, .int .i64 0, .slice none 0 0] 24)) (.mk 4 2 0 []) :=
  ⟨_, heap_alloc_new w _, Lies.nil _ _, one_below w _⟩
theorem DeepAt.step {w wr : World} {t : Tm} {v : Value} (hf : t.fit) (hz : wr.heap[w.heap.size]? = some (.cells #[.int .i64 t.op, .int .i64 t.hd, .int .i64 t.n, v] 24 (0, 0))) (hl : Lies wr (· ≠ w.heap.size) v t.args) (hb : Below w.heap.size w wr) :
    DeepAt w (((((wr.setCell ⟨w.heap.size, 0, none⟩ (.int .i64 3)).setCell ⟨w.heap.size, 1, none⟩ (.int .i64 0)).setCell ⟨w.heap.size, 2, none⟩ (.int .i64 0)).setCell ⟨w.heap.size, 3, none⟩ (.slice (some ⟨wr.heap.size, 0, none⟩) 1 1)).alloc (.cells #[.int .i64 t.op, .int .i64 t.hd, .int .i64 t.n, v] 24)) (.mk 3 0 0 [t]) := by
  have hlt := lt_of_block hz
  have he := Tm.eta t
  obtain ⟨hf1, hf2, hf3⟩ := hf
  have z := set4_at hz (.int .i64 3) (.int .i64 0) (.int .i64 0) (.slice (some ⟨wr.heap.size, 0, none⟩) 1 1)
  have hs : ((((wr.setCell ⟨w.heap.size, 0, none⟩ (.int .i64 3)).setCell ⟨w.heap.size, 1, none⟩ (.int .i64 0)).setCell ⟨w.heap.size, 2, none⟩ (.int .i64 0)).setCell ⟨w.heap.size, 3, none⟩ (.slice (some ⟨wr.heap.size, 0, none⟩) 1 1)).heap.size = wr.heap.size := by simp
  have h2 := hb.setCell (p := ⟨w.heap.size, 0, none⟩) (Nat.le_refl _) (.int .i64 3)
  have h3 := h2.setCell (p := ⟨w.heap.size, 1, none⟩) (Nat.le_refl _) (.int .i64 0)
  have h4 := h3.setCell (p := ⟨w.heap.size, 2, none⟩) (Nat.le_refl _) (.int .i64 0)
  have h5 := h4.setCell (p := ⟨w.heap.size, 3, none⟩) (Nat.le_refl _) (.slice (some ⟨wr.heap.size, 0, none⟩) 1 1)
  have hl2 := hl.still (w' := ((((wr.setCell ⟨w.heap.size, 0, none⟩ (.int .i64 3)).setCell ⟨w.heap.size, 1, none⟩ (.int .i64 0)).setCell ⟨w.heap.size, 2, none⟩ (.int .i64 0)).setCell ⟨w.heap.size, 3, none⟩ (.slice (some ⟨wr.heap.size, 0, none⟩) 1 1))) fun b hS _ => (by rw [heap_set4 (p1 := ⟨w.heap.size, 0, none⟩) (p2 := ⟨w.heap.size, 1, none⟩) (p3 := ⟨w.heap.size, 2, none⟩) (p4 := ⟨w.heap.size, 3, none⟩) _ _ _ _ hS hS hS hS])
  generalize ((((wr.setCell ⟨w.heap.size, 0, none⟩ (.int .i64 3)).setCell ⟨w.heap.size, 1, none⟩ (.int .i64 0)).setCell ⟨w.heap.size, 2, none⟩ (.int .i64 0)).setCell ⟨w.heap.size, 3, none⟩ (.slice (some ⟨wr.heap.size, 0, none⟩) 1 1)) = wx at *
  have hba := (Below.refl wx.heap.size wx).alloc (Nat.le_refl _) (.cells #[.int .i64 t.op, .int .i64 t.hd, .int .i64 t.n, v] 24)
  have h1 : Lies (wx.alloc (.cells #[.int .i64 t.op, .int .i64 t.hd, .int .i64 t.n, v] 24)) (· ≠ w.heap.size) (.slice (some ⟨wx.heap.size, 0, none⟩) 1 1) [.mk t.op t.hd t.n t.args] :=
    Lies.one (heap_alloc_new wx _) (by omega) hf1 hf2 hf3 (hl2.keep hba)
  rw [he, hs] at h1
  exact ⟨_, heap_kept hba z, h1, below_next h5 hba⟩

end Go.Proofs.Ytnooeaefldklaaa
