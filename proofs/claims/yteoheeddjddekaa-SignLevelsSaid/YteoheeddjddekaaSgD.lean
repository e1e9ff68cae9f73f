/- Signatures in memory: a row of constants; the contracts of isOver and isNext. -/
import Derived.Test.YteoheeddjddekaaSgC
namespace Go.Proofs.Yteoheeddjddekaa
open Go.RowKit
set_option linter.unusedSimpArgs false
set_option linter.unusedVariables false

theorem over_calls (S : Nat → Prop) (sa : Option Addr) (N sm : Nat) (hN : N ≤ 9223372036854775807) : ∀ (f : Nat) (o h n b : Int) (v : Value) (l : List Tm) (w : World), Tm.sz (.mk o h n l) ≤ f → 0 ≤ b → b + (Tm.sz (.mk o h n l) : Int) ≤ 1000000 → Lies w S v l →
      Calls Try.prog 66 #[.slice sa N sm, .agg #[.int .i64 o, .int .i64 h, .int .i64 n, v], .int .i64 b] w fun e w' => e = .returned (.bool (Tm.over N b (.mk o h n l))) ∧ Below w.heap.size w w'
  | 0, o, h, n, _, _, l, _, hf, _, _, _ => by have := Tm.sz_pos (.mk o h n l); omega
  | f + 1, o, h, n, b, v, l, w, hf, hb0, hb1, hv => by
    by_cases c : ((h == 1 && decide (b ≤ n)) || (h == 2 && decide ((N : Int) ≤ n)) || h == 3) = true
    · have e : Tm.over N b (.mk o h n l) = false := by simp only [Tm.over, c]; rfl
      rw [e]
      obtain ⟨a2, n2, m2, rfl⟩ := hv.isSlice
      refine over_bad sa N sm o h n b a2 n2 m2 w hN ?_
      simpa [Bool.or_eq_true, or_assoc] using c
    · have c' := Bool.eq_false_iff.2 c
      have e : Tm.over N b (.mk o h n l) = Tm.overL N b o 0 l := by simp only [Tm.over, c']; simp
      rw [e]
      refine over_walk S sa N sm hN f (over_calls S sa N sm hN f) o h n b v l w hf hb0 hb1 hv ?_
      by_cases h1 : h = 1
      · subst h1; simp at c'; exact .inl ⟨rfl, rfl, rfl, c'⟩
      · by_cases h2 : h = 2
        · subst h2; simp at c'; exact .inr (.inl ⟨rfl, rfl, rfl, c'⟩)
        · by_cases h3 : h = 3
          · subst h3; simp at c'
          · exact .inr (.inr ⟨by simpa using h1, by simpa using h2, by simpa using h3⟩)
theorem over_any (S : Nat → Prop) (sa : Option Addr) (N sm : Nat) (hN : N ≤ 9223372036854775807) (t : Tm) (v : Value) (w : World) (hp : Tm.proper t = true) (hv : Lies w S v t.args) :
      Calls Try.prog 66 #[.slice sa N sm, .agg #[.int .i64 t.op, .int .i64 t.hd, .int .i64 t.n, v], .int .i64 0] w fun e w' => e = .returned (.bool (Tm.over N 0 t)) ∧ Below w.heap.size w w' := by
  obtain ⟨o, h, n, l⟩ := t
  have := (Tm.proper_formed' hp).1
  exact over_calls S sa N sm hN _ o h n 0 v l w (Nat.le_refl _) (by omega) (by omega) hv

/-- a row of constants, opened -/
structure DRow (w : World) (S : Nat → Prop) (ao : Option Addr) (b off len cap : Nat) (nm : Nat → ByteArray) (o h k : Nat → Int) (sv : Nat → Value) (ts : Nat → List Tm) (im : Nat → Int) (l : List Dc) : Prop where
  isRow : l = (List.range len).map fun i => ⟨nm i, .mk (o i) (h i) (k i) (ts i), im i⟩
  hao : 0 < len → ao = some ⟨b, off, none⟩
  hS : 0 < len → S b
  hl : len ≤ cap
  hr : cap ≤ 9223372036854775807
  c0 : ∀ i, i < len → w.cell? ⟨b, off + i * 6, none⟩ = some (.string (nm i))
  c1 : ∀ i, i < len → w.cell? ⟨b, off + i * 6 + 1, none⟩ = some (.int .i64 (o i))
  c2 : ∀ i, i < len → w.cell? ⟨b, off + i * 6 + 2, none⟩ = some (.int .i64 (h i))
  c3 : ∀ i, i < len → w.cell? ⟨b, off + i * 6 + 3, none⟩ = some (.int .i64 (k i))
  c4 : ∀ i, i < len → w.cell? ⟨b, off + i * 6 + 4, none⟩ = some (sv i)
  c5 : ∀ i, i < len → w.cell? ⟨b, off + i * 6 + 5, none⟩ = some (.int .i64 (im i))
  rn : ∀ i, i < len → (nm i).size ≤ 140737488351232
  r0 : ∀ i, i < len → -9223372036854775808 ≤ o i ∧ o i ≤ 9223372036854775807
  r1 : ∀ i, i < len → -9223372036854775808 ≤ h i ∧ h i ≤ 9223372036854775807
  r2 : ∀ i, i < len → -9223372036854775808 ≤ k i ∧ k i ≤ 9223372036854775807
  r3 : ∀ i, i < len → -9223372036854775808 ≤ im i ∧ im i ≤ 9223372036854775807
  sub : ∀ i, i < len → Lies w S (sv i) (ts i)
/-- a slice of constants lies in w, in blocks of S -/
def DLies (w : World) (S : Nat → Prop) (v : Value) (l : List Dc) : Prop :=
  ∃ ao b off len cap nm o h k sv ts im, v = .slice ao len cap ∧ DRow w S ao b off len cap nm o h k sv ts im l
section
variable {w wr : World} {S : Nat → Prop} {ao : Option Addr} {b off len cap : Nat} {nm : Nat → ByteArray} {o h k : Nat → Int} {sv : Nat → Value} {ts : Nat → List Tm} {im : Nat → Int} {l : List Dc}
theorem DRow.length (R : DRow w S ao b off len cap nm o h k sv ts im l) : l.length = len := by rw [R.isRow]; simp
theorem DRow.get (R : DRow w S ao b off len cap nm o h k sv ts im l) (i : Nat) (hi : i < len) : l[i]'(by rw [R.length]; exact hi) = ⟨nm i, .mk (o i) (h i) (k i) (ts i), im i⟩ := by
  have := R.isRow; subst this; simp
theorem DRow.at (R : DRow w S ao b off len cap nm o h k sv ts im l) (hb : Below w.heap.size w wr) (i : Nat) (hi : i < len) :
    wr.cell? ⟨b, off + i * 6, none⟩ = some (.string (nm i)) ∧ wr.cell? ⟨b, off + i * 6 + 1, none⟩ = some (.int .i64 (o i)) ∧ wr.cell? ⟨b, off + i * 6 + 2, none⟩ = some (.int .i64 (h i)) ∧ wr.cell? ⟨b, off + i * 6 + 3, none⟩ = some (.int .i64 (k i)) ∧ wr.cell? ⟨b, off + i * 6 + 4, none⟩ = some (sv i) ∧ wr.cell? ⟨b, off + i * 6 + 5, none⟩ = some (.int .i64 (im i)) ∧ Lies wr S (sv i) (ts i) :=
  ⟨kept_cell hb (R.c0 i hi), kept_cell hb (R.c1 i hi), kept_cell hb (R.c2 i hi), kept_cell hb (R.c3 i hi), kept_cell hb (R.c4 i hi), kept_cell hb (R.c5 i hi), (R.sub i hi).keep hb⟩
theorem DRow.keep (R : DRow w S ao b off len cap nm o h k sv ts im l) (hb : Below w.heap.size w wr) : DRow wr S ao b off len cap nm o h k sv ts im l :=
  ⟨R.isRow, R.hao, R.hS, R.hl, R.hr, fun i hi => kept_cell hb (R.c0 i hi), fun i hi => kept_cell hb (R.c1 i hi), fun i hi => kept_cell hb (R.c2 i hi), fun i hi => kept_cell hb (R.c3 i hi), fun i hi => kept_cell hb (R.c4 i hi), fun i hi => kept_cell hb (R.c5 i hi), R.rn, R.r0, R.r1, R.r2, R.r3, fun i hi => (R.sub i hi).keep hb⟩
theorem DRow.take (R : DRow w S ao b off len cap nm o h k sv ts im l) (j : Nat) (hj : j ≤ len) : DRow w S ao b off j cap nm o h k sv ts im (l.take j) := by
  refine ⟨?_, fun h0 => R.hao (by omega), fun h0 => R.hS (by omega), by have := R.hl; omega, R.hr, fun i hi => R.c0 i (by omega), fun i hi => R.c1 i (by omega), fun i hi => R.c2 i (by omega), fun i hi => R.c3 i (by omega), fun i hi => R.c4 i (by omega), fun i hi => R.c5 i (by omega), fun i hi => R.rn i (by omega), fun i hi => R.r0 i (by omega), fun i hi => R.r1 i (by omega), fun i hi => R.r2 i (by omega), fun i hi => R.r3 i (by omega), fun i hi => R.sub i (by omega)⟩
  have := R.isRow; subst this
  rw [← List.map_take, List.take_range, Nat.min_eq_left hj]
end
theorem DLies.keep {w w' : World} {S : Nat → Prop} {v : Value} {l : List Dc} (hv : DLies w S v l) (hb : Below w.heap.size w w') : DLies w' S v l := by
  obtain ⟨ao, b, off, len, cap, nm, o, h, k, sv, ts, im, rfl, R⟩ := hv
  exact ⟨ao, b, off, len, cap, nm, o, h, k, sv, ts, im, rfl, R.keep hb⟩
theorem DLies.isSlice {w : World} {S : Nat → Prop} {v : Value} {l : List Dc} (hv : DLies w S v l) : ∃ a m, v = .slice a l.length m ∧ l.length ≤ 9223372036854775807 := by
  obtain ⟨ao, b, off, len, cap, nm, o, h, k, sv, ts, im, rfl, R⟩ := hv
  exact ⟨ao, cap, by rw [R.length], by have := R.hl; have := R.hr; rw [R.length]; omega⟩
/-- a constant that is a value: its six cells -/
def dcV (d : Dc) (v : Value) : Value := .agg #[.string d.nm, .int .i64 d.cl.op, .int .i64 d.cl.hd, .int .i64 d.cl.n, v, .int .i64 d.im]
end Go.Proofs.Yteoheeddjddekaa
