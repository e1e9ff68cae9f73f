/- What is formed does not lie in a block that holds the zero term. (The same as in XTmFreeW: import one of the two.) -/
import Derived.Test.YtnooeaefldklaaaTmArrow
namespace Go.Proofs.Ytnooeaefldklaaa
open Go.RowKit
set_option linter.unusedSimpArgs false
set_option linter.unusedVariables false

theorem Lies.lenF {w : World} {S : Nat → Prop} {a : Option Addr} {n m : Nat} {l : List Tm} (h : Lies w S (.slice a n m) l) : l.length = n := by
  cases h
  simp
theorem zero_cells {w : World} {z : Nat} {t : TypeId} (h : w.heap[z]? = some (.cells #[.int .i64 0, .int .i64 0, .int .i64 0, .slice none 0 0] t (0, 0))) : ∀ j u, w.cell? ⟨z, j, none⟩ = some u → j ≤ 3 ∧ (j = 0 → u = .int .i64 0) := by
  intro j u e
  simp [World.cell?, h] at e
  match j, e with
  | 0, e => simp at e; exact ⟨by omega, fun _ => e.symm⟩
  | 1, e => exact ⟨by omega, fun h => by omega⟩
  | 2, e => exact ⟨by omega, fun h => by omega⟩
  | 3, e => exact ⟨by omega, fun h => by omega⟩
  | n + 4, e => simp at e
theorem cell_set4 {w : World} {z b j : Nat} {u x1 x2 x3 x4 : Value} (hb : b ≠ z) (e : w.cell? ⟨b, j, none⟩ = some u) : ((((w.setCell ⟨z, 0, none⟩ x1).setCell ⟨z, 1, none⟩ x2).setCell ⟨z, 2, none⟩ x3).setCell ⟨z, 3, none⟩ x4).cell? ⟨b, j, none⟩ = some u := by
  rw [World.cell?_of_block (w := w) (heap_set4 x1 x2 x3 x4 hb hb hb hb)]; exact e
/-- what is formed does not lie in a block that holds the zero term -/
theorem Lies.shun {W W' : World} {S : Nat → Prop} {z : Nat} (hz : ∀ j u, W.cell? ⟨z, j, none⟩ = some u → j ≤ 3 ∧ (j = 0 → u = .int .i64 0)) (hk : ∀ b j u, b ≠ z → W.cell? ⟨b, j, none⟩ = some u → W'.cell? ⟨b, j, none⟩ = some u) {v : Value} {l : List Tm} (h : Lies W S v l) : ∀ d, Tm.formedL l d = true → Lies W' S v l := by
  induction h with
  | row ao b off len cap o h k sv ts hao hS hl hr c0 c1 c2 c3 r0 r1 r2 _ ih =>
    intro d hf
    have hfi : ∀ i, i < len → Tm.formed (.mk (o i) (h i) (k i) (ts i)) d = true := by
      intro i hi
      rw [Tm.formedL_all, List.all_eq_true] at hf
      exact hf _ (List.mem_map.2 ⟨i, List.mem_range.2 hi, rfl⟩)
    have hbz : ∀ i, i < len → b ≠ z := by
      rintro i hi rfl
      have h3 := (hz _ _ (c3 i hi)).1
      have h0 := (hz _ _ (c0 i hi)).2 (by omega)
      simp only [Value.int.injEq, true_and] at h0
      have := hfi i hi
      simp [Tm.formed, Tm.headOk, h0] at this
    exact .row ao b off len cap o h k sv ts hao hS hl hr (fun i hi => hk _ _ _ (hbz i hi) (c0 i hi)) (fun i hi => hk _ _ _ (hbz i hi) (c1 i hi)) (fun i hi => hk _ _ _ (hbz i hi) (c2 i hi)) (fun i hi => hk _ _ _ (hbz i hi) (c3 i hi)) r0 r1 r2
      (fun i hi => ih i hi (d + 1) (by have := hfi i hi; simp only [Tm.formed, Bool.and_eq_true] at this; exact this.2))
end Go.Proofs.Ytnooeaefldklaaa
