/- Terms as plain trees, and what lies in memory as a list of terms. Nothing of the program is imported. -/
import Derived.Below
import Derived.Deep.Slices
namespace Go.Proofs.Ytomahhdhnlfabaa
open Go.RowKit

/-- A term as a tree: its operator, head, number and parts. -/
inductive Tm where
  | mk (op hd n : Int) (args : List Tm)

namespace Tm
def op : Tm → Int | .mk o _ _ _ => o
def hd : Tm → Int | .mk _ h _ _ => h
def n : Tm → Int | .mk _ _ n _ => n
def args : Tm → List Tm | .mk _ _ _ l => l

mutual
def sz : Tm → Nat
  | .mk _ _ _ l => 1 + szL l
def szL : List Tm → Nat
  | [] => 0
  | t :: l => sz t + szL l
end

mutual
def same : Tm → Tm → Bool
  | .mk o h n l, .mk o' h' n' l' => o == o' && h == h' && n == n' && l.length == l'.length && sameL l l'
def sameL : List Tm → List Tm → Bool
  | a :: l, b :: m => same a b && sameL l m
  | _, _ => true
end

mutual
theorem same_iff : ∀ a b : Tm, same a b = true ↔ a = b
  | .mk o h n l, .mk o' h' n' l' => by
    simp only [same, Bool.and_eq_true, beq_iff_eq, mk.injEq]
    constructor
    · rintro ⟨⟨⟨⟨h1, h2⟩, h3⟩, h4⟩, h5⟩
      exact ⟨h1, h2, h3, (sameL_iff l l' h4).1 h5⟩
    · rintro ⟨h1, h2, h3, h4⟩
      subst h4
      exact ⟨⟨⟨⟨h1, h2⟩, h3⟩, rfl⟩, (sameL_iff l l rfl).2 rfl⟩
theorem sameL_iff : ∀ l m : List Tm, l.length = m.length → (sameL l m = true ↔ l = m)
  | [], [], _ => by simp [sameL]
  | a :: l, b :: m, hl => by
    simp only [sameL, Bool.and_eq_true, List.cons.injEq]
    rw [same_iff a b, sameL_iff l m (by simpa using hl)]
  | [], _ :: _, h => by simp at h
  | _ :: _, [], h => by simp at h
end

theorem sz_pos (t : Tm) : 1 ≤ sz t := by cases t; simp [sz]

theorem szL_le_of_mem : ∀ {l : List Tm} {t : Tm}, t ∈ l → sz t ≤ szL l
  | a :: l, t, h => by
    simp only [szL]
    rcases List.mem_cons.1 h with rfl | h
    · omega
    · have := szL_le_of_mem h; omega

/-- the first parts alone -/
def sameTo (k : Nat) (l m : List Tm) : Bool := sameL (l.take k) (m.take k)

theorem sameL_snoc : ∀ (l m : List Tm) (a b : Tm), l.length = m.length → sameL (l ++ [a]) (m ++ [b]) = (sameL l m && same a b)
  | [], [], a, b, _ => by simp [sameL]
  | x :: l, y :: m, a, b, h => by
    simp only [List.cons_append, sameL]
    rw [sameL_snoc l m a b (by simpa using h), Bool.and_assoc]
  | [], _ :: _, _, _, h => by simp at h
  | _ :: _, [], _, _, h => by simp at h

theorem sameL_false : ∀ (k : Nat) (l m : List Tm) (h : k < l.length) (h' : k < m.length), same l[k] m[k] = false → sameL l m = false
  | 0, a :: l, b :: m, _, _, e => by simp at e; simp [sameL, e]
  | k + 1, a :: l, b :: m, h, h', e => by
    have := sameL_false k l m (by simpa using h) (by simpa using h') (by simpa using e)
    simp [sameL, this]
  | _, [], _, h, _, _ => by simp at h
  | _, _ :: _, [], _, h, _ => by simp at h
end Tm

/-- the i-th of the terms that a row of families lists -/
theorem Tm.row_get (len : Nat) (g : Nat → Tm) (i : Nat) (h : i < ((List.range len).map g).length) : ((List.range len).map g)[i] = g i := by simp

/-- A slice of terms lies in w, in blocks of S: the value v reads as the list ts. -/
inductive Lies (w : World) (S : Nat → Prop) : Value → List Tm → Prop
  | row (ao : Option Addr) (b off len cap : Nat) (o h k : Nat → Int) (sv : Nat → Value) (ts : Nat → List Tm)
      (hao : 0 < len → ao = some ⟨b, off, none⟩) (hS : 0 < len → S b) (hl : len ≤ cap) (hr : cap ≤ 9223372036854775807)
      (c0 : ∀ i, i < len → w.cell? ⟨b, off + i * 4, none⟩ = some (.int .i64 (o i)))
      (c1 : ∀ i, i < len → w.cell? ⟨b, off + i * 4 + 1, none⟩ = some (.int .i64 (h i)))
      (c2 : ∀ i, i < len → w.cell? ⟨b, off + i * 4 + 2, none⟩ = some (.int .i64 (k i)))
      (c3 : ∀ i, i < len → w.cell? ⟨b, off + i * 4 + 3, none⟩ = some (sv i))
      (r0 : ∀ i, i < len → -9223372036854775808 ≤ o i ∧ o i ≤ 9223372036854775807)
      (r1 : ∀ i, i < len → -9223372036854775808 ≤ h i ∧ h i ≤ 9223372036854775807)
      (r2 : ∀ i, i < len → -9223372036854775808 ≤ k i ∧ k i ≤ 9223372036854775807)
      (sub : ∀ i, i < len → Lies w S (sv i) (ts i)) :
      Lies w S (.slice ao len cap) ((List.range len).map fun i => .mk (o i) (h i) (k i) (ts i))

theorem Lies.nil (w : World) (S : Nat → Prop) : Lies w S (.slice none 0 0) [] := by
  have := Lies.row (w := w) (S := S) none 0 0 0 0 (fun _ => 0) (fun _ => 0) (fun _ => 0) (fun _ => .slice none 0 0) (fun _ => []) (by simp) (by simp) (by simp) (by simp)
    (by simp) (by simp) (by simp) (by simp) (by simp) (by simp) (by simp) (by simp)
  simpa using this

/-- What lies in blocks of S that are as they were still lies there. -/
theorem Lies.still {w w' : World} {S : Nat → Prop} (hb : ∀ b, S b → b < w.heap.size → w'.heap[b]? = w.heap[b]?) {v : Value} {ts : List Tm} (h : Lies w S v ts) : Lies w' S v ts := by
  induction h with
  | row ao b off len cap o h k sv ts hao hS hl hr c0 c1 c2 c3 r0 r1 r2 _ ih =>
    have go : ∀ {i : Nat}, i < len → ∀ {j : Nat} {u : Value}, w.cell? ⟨b, j, none⟩ = some u → w'.cell? ⟨b, j, none⟩ = some u := fun {i} hi {j u} e => by
      rw [World.cell?_of_block (w := w) (hb b (hS (by omega)) (World.block_lt_of_cell? w _ e))]; exact e
    exact .row ao b off len cap o h k sv ts hao hS hl hr (fun i hi => go hi (c0 i hi)) (fun i hi => go hi (c1 i hi)) (fun i hi => go hi (c2 i hi)) (fun i hi => go hi (c3 i hi)) r0 r1 r2 ih

/-- What lies in w lies in a world that is as w was below w's size. -/
theorem Lies.keep {w w' : World} {S : Nat → Prop} (hb : Below w.heap.size w w') {v : Value} {ts : List Tm} (h : Lies w S v ts) : Lies w' S v ts :=
  h.still fun b _ hlt => hb.block b hlt

/-- It lies in blocks that are there. -/
theorem Lies.more {w : World} {S S' : Nat → Prop} (hs : ∀ b, b < w.heap.size → S b → S' b) {v : Value} {ts : List Tm} (h : Lies w S v ts) : Lies w S' v ts := by
  induction h with
  | row ao b off len cap o h k sv ts hao hS hl hr c0 c1 c2 c3 r0 r1 r2 _ ih =>
    exact .row ao b off len cap o h k sv ts hao (fun h0 => hs b (World.block_lt_of_cell? w _ (c0 0 h0)) (hS h0)) hl hr c0 c1 c2 c3 r0 r1 r2 ih

/-- A row of terms, opened: the slice's parts, and each term's cells (a structure: the walk does not look into it). -/
structure RowAt (w : World) (S : Nat → Prop) (ao : Option Addr) (b off len cap : Nat) (o h k : Nat → Int) (sv : Nat → Value) (ts : Nat → List Tm) (l : List Tm) : Prop where
  isRow : l = (List.range len).map fun i => .mk (o i) (h i) (k i) (ts i)
  hao : 0 < len → ao = some ⟨b, off, none⟩
  hS : 0 < len → S b
  hl : len ≤ cap
  hr : cap ≤ 9223372036854775807
  c0 : ∀ i, i < len → w.cell? ⟨b, off + i * 4, none⟩ = some (.int .i64 (o i))
  c1 : ∀ i, i < len → w.cell? ⟨b, off + i * 4 + 1, none⟩ = some (.int .i64 (h i))
  c2 : ∀ i, i < len → w.cell? ⟨b, off + i * 4 + 2, none⟩ = some (.int .i64 (k i))
  c3 : ∀ i, i < len → w.cell? ⟨b, off + i * 4 + 3, none⟩ = some (sv i)
  r0 : ∀ i, i < len → -9223372036854775808 ≤ o i ∧ o i ≤ 9223372036854775807
  r1 : ∀ i, i < len → -9223372036854775808 ≤ h i ∧ h i ≤ 9223372036854775807
  r2 : ∀ i, i < len → -9223372036854775808 ≤ k i ∧ k i ≤ 9223372036854775807
  sub : ∀ i, i < len → Lies w S (sv i) (ts i)

theorem Lies.open {w : World} {S : Nat → Prop} {v : Value} {l : List Tm} (hv : Lies w S v l) :
    ∃ (ao : Option Addr) (b off len cap : Nat) (o h k : Nat → Int) (sv : Nat → Value) (ts : Nat → List Tm), v = .slice ao len cap ∧ RowAt w S ao b off len cap o h k sv ts l := by
  cases hv with
  | row ao b off len cap o h k sv ts hao hS hl hr c0 c1 c2 c3 r0 r1 r2 sub =>
    exact ⟨ao, b, off, len, cap, o, h, k, sv, ts, rfl, ⟨rfl, hao, hS, hl, hr, c0, c1, c2, c3, r0, r1, r2, sub⟩⟩

theorem kept_cell {w w' : World} (hb : Below w.heap.size w w') {p : Addr} {u : Value} (e : w.cell? p = some u) : w'.cell? p = some u := by
  rw [hb.cell (World.block_lt_of_cell? w p e)]; exact e

section
variable {w wr : World} {S : Nat → Prop} {ao : Option Addr} {b off len cap : Nat} {o h k : Nat → Int} {sv : Nat → Value} {ts : Nat → List Tm} {l : List Tm}
theorem RowAt.length (R : RowAt w S ao b off len cap o h k sv ts l) : l.length = len := by rw [R.isRow]; simp
theorem RowAt.get (R : RowAt w S ao b off len cap o h k sv ts l) (i : Nat) (hi : i < len) : l[i]'(by rw [R.length]; exact hi) = .mk (o i) (h i) (k i) (ts i) := by
  have := R.isRow; subst this; simp
theorem RowAt.at (R : RowAt w S ao b off len cap o h k sv ts l) (hb : Below w.heap.size w wr) (i : Nat) (hi : i < len) :
    wr.cell? ⟨b, off + i * 4, none⟩ = some (.int .i64 (o i)) ∧ wr.cell? ⟨b, off + i * 4 + 1, none⟩ = some (.int .i64 (h i)) ∧ wr.cell? ⟨b, off + i * 4 + 2, none⟩ = some (.int .i64 (k i)) ∧ wr.cell? ⟨b, off + i * 4 + 3, none⟩ = some (sv i) ∧ Lies wr S (sv i) (ts i) :=
  ⟨kept_cell hb (R.c0 i hi), kept_cell hb (R.c1 i hi), kept_cell hb (R.c2 i hi), kept_cell hb (R.c3 i hi), (R.sub i hi).keep hb⟩
theorem RowAt.mem (R : RowAt w S ao b off len cap o h k sv ts l) (i : Nat) (hi : i < len) : .mk (o i) (h i) (k i) (ts i) ∈ l := by
  rw [← R.get i hi]; exact List.getElem_mem _
theorem RowAt.size (R : RowAt w S ao b off len cap o h k sv ts l) {f : Nat} {x y z : Int} (hf : Tm.sz (.mk x y z l) ≤ f + 1) (i : Nat) (hi : i < len) : Tm.sz (.mk (o i) (h i) (k i) (ts i)) ≤ f := by
  have := Tm.szL_le_of_mem (R.mem i hi)
  simp only [Tm.sz] at hf this ⊢
  omega
end

theorem RowAt.size_lt {w : World} {S : Nat → Prop} {ao : Option Addr} {b off len cap : Nat} {o h k : Nat → Int} {sv : Nat → Value} {ts : Nat → List Tm} {l : List Tm} (R : RowAt w S ao b off len cap o h k sv ts l) {x y z : Int} (i : Nat) (hi : i < len) :
    Tm.sz (.mk (o i) (h i) (k i) (ts i)) + 1 ≤ Tm.sz (.mk x y z l) := by
  have := Tm.szL_le_of_mem (R.mem i hi)
  simp only [Tm.sz] at this ⊢
  omega

/-- a term that is a value: its four cells -/
def TmIs (w : World) (S : Nat → Prop) (x : Value) (t : Tm) : Prop :=
  ∃ v, x = .agg #[.int .i64 t.op, .int .i64 t.hd, .int .i64 t.n, v] ∧ Lies w S v t.args

end Go.Proofs.Ytomahhdhnlfabaa
