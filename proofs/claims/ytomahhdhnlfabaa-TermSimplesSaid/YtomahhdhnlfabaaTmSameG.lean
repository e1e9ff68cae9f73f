/- Rows of arguments, as sources of append, and small lemmas. Nothing of the program is imported. -/
import Derived.Test.YtomahhdhnlfabaaTmStk
import Derived.Test.YtomahhdhnlfabaaTmProper
import Derived.Test.YtomahhdhnlfabaaTmRenS
import Derived.Test.YtomahhdhnlfabaaTmAwake
namespace Go.Proofs.Ytomahhdhnlfabaa
open Go.RowKit
set_option linter.unusedSimpArgs false
set_option linter.unusedVariables false

abbrev CellsP8 (W : World) (p1 p2 p3 p4 p5 p6 p7 p8 : Addr) (u1 u2 u3 u4 u5 u6 u7 u8 : Value) : Prop :=
  W.cell? p1 = some u1 ∧ W.cell? p2 = some u2 ∧ W.cell? p3 = some u3 ∧ W.cell? p4 = some u4 ∧ W.cell? p5 = some u5 ∧ W.cell? p6 = some u6 ∧ W.cell? p7 = some u7 ∧ W.cell? p8 = some u8
theorem cellsP8_below {W W' : World} {p1 p2 p3 p4 p5 p6 p7 p8 : Addr} {u1 u2 u3 u4 u5 u6 u7 u8 : Value} (hb : Below W.heap.size W W') (x : CellsP8 W p1 p2 p3 p4 p5 p6 p7 p8 u1 u2 u3 u4 u5 u6 u7 u8) : CellsP8 W' p1 p2 p3 p4 p5 p6 p7 p8 u1 u2 u3 u4 u5 u6 u7 u8 := by
  obtain ⟨x1, x2, x3, x4, x5, x6, x7, x8⟩ := x
  exact ⟨kept_cell hb x1, kept_cell hb x2, kept_cell hb x3, kept_cell hb x4, kept_cell hb x5, kept_cell hb x6, kept_cell hb x7, kept_cell hb x8⟩

theorem Tm.sameL_append : ∀ (l m l' m' : List Tm), l.length = m.length → Tm.sameL (l ++ l') (m ++ m') = (Tm.sameL l m && Tm.sameL l' m')
  | [], [], l', m', _ => by simp [Tm.sameL]
  | x :: l, y :: m, l', m', h => by
    simp only [List.cons_append, Tm.sameL]
    rw [Tm.sameL_append l m l' m' (by simpa using h), Bool.and_assoc]
  | [], _ :: _, _, _, h => by simp at h
  | _ :: _, [], _, _, h => by simp at h

/-- the cells of an argument's row, as a source of append -/
theorem RowAt.news {w wr : World} {S : Nat → Prop} {ao : Option Addr} {b off len cap : Nat} {o h k : Nat → Int} {sv : Nat → Value} {ts : Nat → List Tm} {l : List Tm} (R : RowAt w S ao b off len cap o h k sv ts l) (hb : Below w.heap.size w wr) :
    ∀ ad, ao = some ad → ∀ j u, (flat l ((List.range len).map sv))[j]? = some u → wr.cell? (ad.add j) = some u := by
  intro ad had j u hu
  have hl := R.length
  by_cases h0 : 0 < len
  · have h1 := R.hao h0
    rw [h1] at had
    cases had
    refine flat_at l _ (by simp [hl]) ?_ j u hu
    intro i hi hi'
    obtain ⟨d0, d1, d2, d3, _⟩ := R.at hb i (by omega)
    have hg := R.get i (by omega)
    rw [hg]
    refine ⟨d0, d1, d2, ?_⟩
    simpa using d3
  · have : l = [] := List.eq_nil_of_length_eq_zero (by omega)
    subst this
    simp [flat] at hu
theorem RowAt.one {w : World} {S : Nat → Prop} {ao : Option Addr} {b off len cap : Nat} {o h k : Nat → Int} {sv : Nat → Value} {ts : Nat → List Tm} {l : List Tm} (R : RowAt w S ao b off len cap o h k sv ts l) :
    ∀ u ∈ flat l ((List.range len).map sv), u.oneCell' = true := by
  refine flat_one _ _ fun v hv => ?_
  obtain ⟨i, hi, rfl⟩ := List.mem_map.1 hv
  obtain ⟨a, n, m, e⟩ := (R.sub i (by simpa using hi)).isSlice
  rw [e]; rfl
theorem RowAt.subs {w wr : World} {S : Nat → Prop} {ao : Option Addr} {b off len cap : Nat} {o h k : Nat → Int} {sv : Nat → Value} {ts : Nat → List Tm} {l : List Tm} (R : RowAt w S ao b off len cap o h k sv ts l) (hb : Below w.heap.size w wr) :
    ∀ i (hi : i < l.length) (hi' : i < ((List.range len).map sv).length), Lies wr S ((List.range len).map sv)[i] l[i].args := by
  intro i hi hi'
  have hl := R.length
  rw [R.get i (by omega)]
  simpa [Tm.args] using (R.sub i (by omega)).keep hb
theorem RowAt.fits {w : World} {S : Nat → Prop} {ao : Option Addr} {b off len cap : Nat} {o h k : Nat → Int} {sv : Nat → Value} {ts : Nat → List Tm} {l : List Tm} (R : RowAt w S ao b off len cap o h k sv ts l) : ∀ t ∈ l, t.fit := by
  intro t ht
  rw [R.isRow] at ht
  obtain ⟨i, hi, rfl⟩ := List.mem_map.1 ht
  have hi' : i < len := by simpa using hi
  exact ⟨R.r0 i hi', R.r1 i hi', R.r2 i hi'⟩

theorem RowAt.still {w w' : World} {S : Nat → Prop} {ao : Option Addr} {b off len cap : Nat} {o h k : Nat → Int} {sv : Nat → Value} {ts : Nat → List Tm} {l : List Tm} (R : RowAt w S ao b off len cap o h k sv ts l) (hb : ∀ b, S b → b < w.heap.size → w'.heap[b]? = w.heap[b]?) :
    RowAt w' S ao b off len cap o h k sv ts l := by
  have go : ∀ {i : Nat}, i < len → ∀ {j : Nat} {u : Value}, w.cell? ⟨b, j, none⟩ = some u → w'.cell? ⟨b, j, none⟩ = some u := fun {i} hi {j u} e => by
    rw [World.cell?_of_block (w := w) (hb b (R.hS (by omega)) (World.block_lt_of_cell? w _ e))]; exact e
  exact ⟨R.isRow, R.hao, R.hS, R.hl, R.hr, fun i hi => go hi (R.c0 i hi), fun i hi => go hi (R.c1 i hi), fun i hi => go hi (R.c2 i hi), fun i hi => go hi (R.c3 i hi), R.r0, R.r1, R.r2, fun i hi => (R.sub i hi).still hb⟩

theorem concat_of {α : Type} {l : List α} {n : Nat} (h : l.length = n + 1) : ∃ l' a, l = l' ++ [a] ∧ l'.length = n := by
  rcases List.eq_nil_or_concat l with rfl | ⟨L, b, rfl⟩
  · simp at h
  · exact ⟨L, b, by simp, by simpa using h⟩

end Go.Proofs.Ytomahhdhnlfabaa
