/- A row of terms that was appended to an empty row of the call's own. -/
import Derived.Test.YtieakippgeehgaaTmGd
import Derived.Test.YtieakippgeehgaaSbGa
namespace Go.Proofs.Ytieakippgeehgaa
open Go.RowKit
set_option linter.unusedSimpArgs false
set_option linter.unusedVariables false

theorem own_empty {X : World} {g base : Nat} {e : TypeId} (h : X.heap[g]? = some (.cells #[] e (0, 0))) (hb : base ≤ g) : X.ownsRow base e 4 (.slice (some ⟨g, 0, none⟩) 0 0) 0 [] :=
  ⟨rfl, .inr ⟨g, 0, #[], rfl, hb, h, Nat.le_refl _, by unfold maxLen; omega, rfl, rfl⟩⟩

section
variable {w : World} {ao : Option Addr} {b off len cap : Nat} {o h k : Nat → Int} {sv : Nat → Value} {ts : Nat → List Tm} {l : List Tm}
/-- the row's cells -/
def rowCells (l : List Tm) (sv : Nat → Value) (len : Nat) : List Value := flat l ((List.range len).map sv)
theorem RowAt.cellsLen {S : Nat → Prop} (R : RowAt w S ao b off len cap o h k sv ts l) : (rowCells l sv len).length = len * 4 := by
  unfold rowCells
  rw [flat_length _ _ (by rw [R.length]; simp), R.length]
theorem RowAt.cellAt {S : Nat → Prop} (R : RowAt w S ao b off len cap o h k sv ts l) (i : Nat) (hi : i < len) :
    (rowCells l sv len)[i * 4]? = some (.int .i64 (o i)) ∧ (rowCells l sv len)[i * 4 + 1]? = some (.int .i64 (h i)) ∧ (rowCells l sv len)[i * 4 + 2]? = some (.int .i64 (k i)) ∧ (rowCells l sv len)[i * 4 + 3]? = some (sv i) := by
  have hf := flat_get l ((List.range len).map sv) i (by rw [R.length]; exact hi) (by simpa using hi)
  rw [R.get i hi] at hf
  simp only [Tm.op, Tm.hd, Tm.n, List.getElem_map, List.getElem_range] at hf
  exact hf
theorem RowAt.cellIs {S : Nat → Prop} (R : RowAt w S ao b off len cap o h k sv ts l) {j : Nat} {u : Value} (hu : (rowCells l sv len)[j]? = some u) :
    ∃ i, i < len ∧ ((j = i * 4 ∧ u = .int .i64 (o i)) ∨ (j = i * 4 + 1 ∧ u = .int .i64 (h i)) ∨ (j = i * 4 + 2 ∧ u = .int .i64 (k i)) ∨ (j = i * 4 + 3 ∧ u = sv i)) := by
  have hj : j < len * 4 := by rw [← R.cellsLen]; exact (List.getElem?_eq_some_iff.1 hu).1
  have hi : j / 4 < len := by omega
  obtain ⟨c0, c1, c2, c3⟩ := R.cellAt (j / 4) hi
  refine ⟨j / 4, hi, ?_⟩
  rcases (by omega : j = j / 4 * 4 ∨ j = j / 4 * 4 + 1 ∨ j = j / 4 * 4 + 2 ∨ j = j / 4 * 4 + 3) with e | e | e | e
  · rw [← e, hu] at c0; exact .inl ⟨e, by simpa using c0⟩
  · rw [← e, hu] at c1; exact .inr (.inl ⟨e, by simpa using c1⟩)
  · rw [← e, hu] at c2; exact .inr (.inr (.inl ⟨e, by simpa using c2⟩))
  · rw [← e, hu] at c3; exact .inr (.inr (.inr ⟨e, by simpa using c3⟩))
theorem RowAt.newsOf (R : RowAt w (fun _ => True) ao b off len cap o h k sv ts l) {X : World} (hb : Below w.heap.size w X) : ∀ ad, ao = some ad → ∀ j u, (rowCells l sv len)[j]? = some u → X.cell? (ad.add j) = some u := by
  intro ad ha j u hu
  obtain ⟨i, hi, hc⟩ := R.cellIs hu
  have e2 : some (⟨b, off, none⟩ : Addr) = some ad := by rw [← ha]; exact (R.hao (by omega)).symm
  obtain rfl : (⟨b, off, none⟩ : Addr) = ad := by simpa using e2
  rw [Addr.add_lit]
  obtain ⟨d0, d1, d2, d3, _⟩ := R.at hb i hi
  rcases hc with ⟨rfl, rfl⟩ | ⟨rfl, rfl⟩ | ⟨rfl, rfl⟩ | ⟨rfl, rfl⟩
  · exact d0
  · rw [← Nat.add_assoc]; exact d1
  · rw [← Nat.add_assoc]; exact d2
  · rw [← Nat.add_assoc]; exact d3
theorem RowAt.ones {S : Nat → Prop} (R : RowAt w S ao b off len cap o h k sv ts l) : ∀ u ∈ rowCells l sv len, u.oneCell' = true := by
  intro u hu
  obtain ⟨j, hj⟩ := List.mem_iff_getElem?.1 hu
  obtain ⟨i, hi, hc⟩ := R.cellIs hj
  rcases hc with ⟨_, rfl⟩ | ⟨_, rfl⟩ | ⟨_, rfl⟩ | ⟨_, rfl⟩
  · rfl
  · rfl
  · rfl
  · exact lies_one (R.sub i hi)
/-- the copy lies there -/
theorem RowAt.copied (R : RowAt w (fun _ => True) ao b off len cap o h k sv ts l) {w9 : World} {g cap9 base : Nat} {e : TypeId} (hown : w9.ownsRow base e 4 (.slice (some ⟨g, 0, none⟩) (0 + len) cap9) (0 + len) ([] ++ rowCells l sv len)) (hb : Below w.heap.size w w9) :
    Lies w9 (fun _ => True) (.slice (some ⟨g, 0, none⟩) len cap9) l := by
  simp only [Nat.zero_add, List.nil_append] at hown
  have hcells := @World.ownsRow.cells w9 base e 4 _ len (rowCells l sv len) hown
  have hc : ∀ j u, (rowCells l sv len)[j]? = some u → w9.cell? ⟨g, 0 + j, none⟩ = some u := fun j u hu => by
    have := hcells (g := g) (by simp [Value.ownBlock]) j u hu
    rwa [Addr.add_lit] at this
  obtain ⟨hle, hmx⟩ : len ≤ cap9 ∧ cap9 ≤ maxLen := by
    rcases hown.2 with ⟨h, _⟩ | ⟨_, _, _, hv, _, _, h1, h2, _⟩
    · cases h
    · cases hv; exact ⟨h1, h2⟩
  have hm : cap9 ≤ 9223372036854775807 := by unfold maxLen at hmx; exact hmx
  have row := Lies.row (w := w9) (S := fun _ => True) (some ⟨g, 0, none⟩) g 0 len cap9 o h k sv ts (fun _ => rfl) (fun _ => trivial) hle hm
    (fun i hi => hc _ _ (R.cellAt i hi).1) (fun i hi => by have := hc _ _ (R.cellAt i hi).2.1; rwa [← Nat.add_assoc] at this)
    (fun i hi => by have := hc _ _ (R.cellAt i hi).2.2.1; rwa [← Nat.add_assoc] at this) (fun i hi => by have := hc _ _ (R.cellAt i hi).2.2.2; rwa [← Nat.add_assoc] at this)
    R.r0 R.r1 R.r2 (fun i hi => (R.sub i hi).keep hb)
  rw [← R.isRow] at row
  exact row
theorem RowAt.noAddr {S : Nat → Prop} (R : RowAt w S ao b off len cap o h k sv ts l) : ao = none → len = 0 := by
  intro e
  rcases Nat.eq_zero_or_pos len with h0 | h0
  · exact h0
  · have := R.hao h0; rw [e] at this; cases this
end

end Go.Proofs.Ytieakippgeehgaa
