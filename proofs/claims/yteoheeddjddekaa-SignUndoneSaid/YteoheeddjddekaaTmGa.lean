/- Terms as plain trees, and what lies in memory as a list of terms. Nothing of the program is imported. * Plain facts on terms: how many nodes, how deep, whether built as terms are. Nothing of the program is imported. * A row of terms that a call is building: what it owns, and how it grows. Nothing of the program is imported. * Shifting, as a plain function on terms. Nothing of the program is imported. * Plain facts on what measure counts, and on worlds in which one block alone may have been written. Nothing of the program is imported. * Renumbering as a plain function on terms; a row of terms that a call made and fills. Nothing of the program is imported. * A stack of terms that a call keeps in a row of its own: popped and appended to. Nothing of the program is imported. -/
import Derived.Below
import Derived.Deep.Slices
import Derived.Deep.AppendLies
import Derived.Deep.QuietTactic
import Derived.Deep.RegionLaw
namespace Go.Proofs.Yteoheeddjddekaa
open Go.RowKit

/-- A term as a tree: its operator, head, number and parts. -/
inductive Tm where
  | mk (op hd n : Int) (args : List Tm)

namespace Tm
def op : Tm → Int | .mk o _ _ _ => o
def hd : Tm → Int | .mk _ h _ _ => h
def n : Tm → Int | .mk _ _ n _ => n
def args : Tm → List Tm | .mk _ _ _ l => l

mutual
def sz : Tm → Nat
  | .mk _ _ _ l => 1 + szL l
def szL : List Tm → Nat
  | [] => 0
  | t :: l => sz t + szL l
end

mutual
def same : Tm → Tm → Bool
  | .mk o h n l, .mk o' h' n' l' => o == o' && h == h' && n == n' && l.length == l'.length && sameL l l'
def sameL : List Tm → List Tm → Bool
  | a :: l, b :: m => same a b && sameL l m
  | _, _ => true
end

mutual
theorem same_iff : ∀ a b : Tm, same a b = true ↔ a = b
  | .mk o h n l, .mk o' h' n' l' => by
    simp only [same, Bool.and_eq_true, beq_iff_eq, mk.injEq]
    constructor
    · rintro ⟨⟨⟨⟨h1, h2⟩, h3⟩, h4⟩, h5⟩
      exact ⟨h1, h2, h3, (sameL_iff l l' h4).1 h5⟩
    · rintro ⟨h1, h2, h3, h4⟩
      subst h4
      exact ⟨⟨⟨⟨h1, h2⟩, h3⟩, rfl⟩, (sameL_iff l l rfl).2 rfl⟩
theorem sameL_iff : ∀ l m : List Tm, l.length = m.length → (sameL l m = true ↔ l = m)
  | [], [], _ => by simp [sameL]
  | a :: l, b :: m, hl => by
    simp only [sameL, Bool.and_eq_true, List.cons.injEq]
    rw [same_iff a b, sameL_iff l m (by simpa using hl)]
  | [], _ :: _, h => by simp at h
  | _ :: _, [], h => by simp at h
end

theorem sz_pos (t : Tm) : 1 ≤ sz t := by cases t; simp [sz]

theorem szL_le_of_mem : ∀ {l : List Tm} {t : Tm}, t ∈ l → sz t ≤ szL l
  | a :: l, t, h => by
    simp only [szL]
    rcases List.mem_cons.1 h with rfl | h
    · omega
    · have := szL_le_of_mem h; omega

/-- the first parts alone -/
def sameTo (k : Nat) (l m : List Tm) : Bool := sameL (l.take k) (m.take k)

theorem sameL_snoc : ∀ (l m : List Tm) (a b : Tm), l.length = m.length → sameL (l ++ [a]) (m ++ [b]) = (sameL l m && same a b)
  | [], [], a, b, _ => by simp [sameL]
  | x :: l, y :: m, a, b, h => by
    simp only [List.cons_append, sameL]
    rw [sameL_snoc l m a b (by simpa using h), Bool.and_assoc]
  | [], _ :: _, _, _, h => by simp at h
  | _ :: _, [], _, _, h => by simp at h

theorem sameL_false : ∀ (k : Nat) (l m : List Tm) (h : k < l.length) (h' : k < m.length), same l[k] m[k] = false → sameL l m = false
  | 0, a :: l, b :: m, _, _, e => by simp at e; simp [sameL, e]
  | k + 1, a :: l, b :: m, h, h', e => by
    have := sameL_false k l m (by simpa using h) (by simpa using h') (by simpa using e)
    simp [sameL, this]
  | _, [], _, h, _, _ => by simp at h
  | _, _ :: _, [], _, h, _ => by simp at h
end Tm

/-- the i-th of the terms that a row of families lists -/
theorem Tm.row_get (len : Nat) (g : Nat → Tm) (i : Nat) (h : i < ((List.range len).map g).length) : ((List.range len).map g)[i] = g i := by simp

/-- A slice of terms lies in w, in blocks of S: the value v reads as the list ts. -/
inductive Lies (w : World) (S : Nat → Prop) : Value → List Tm → Prop
  | row (ao : Option Addr) (b off len cap : Nat) (o h k : Nat → Int) (sv : Nat → Value) (ts : Nat → List Tm)
      (hao : 0 < len → ao = some ⟨b, off, none⟩) (hS : 0 < len → S b) (hl : len ≤ cap) (hr : cap ≤ 9223372036854775807)
      (c0 : ∀ i, i < len → w.cell? ⟨b, off + i * 4, none⟩ = some (.int .i64 (o i)))
      (c1 : ∀ i, i < len → w.cell? ⟨b, off + i * 4 + 1, none⟩ = some (.int .i64 (h i)))
      (c2 : ∀ i, i < len → w.cell? ⟨b, off + i * 4 + 2, none⟩ = some (.int .i64 (k i)))
      (c3 : ∀ i, i < len → w.cell? ⟨b, off + i * 4 + 3, none⟩ = some (sv i))
      (r0 : ∀ i, i < len → -9223372036854775808 ≤ o i ∧ o i ≤ 9223372036854775807)
      (r1 : ∀ i, i < len → -9223372036854775808 ≤ h i ∧ h i ≤ 9223372036854775807)
      (r2 : ∀ i, i < len → -9223372036854775808 ≤ k i ∧ k i ≤ 9223372036854775807)
      (sub : ∀ i, i < len → Lies w S (sv i) (ts i)) :
      Lies w S (.slice ao len cap) ((List.range len).map fun i => .mk (o i) (h i) (k i) (ts i))

theorem Lies.nil (w : World) (S : Nat → Prop) : Lies w S (.slice none 0 0) [] := by
  have := Lies.row (w := w) (S := S) none 0 0 0 0 (fun _ => 0) (fun _ => 0) (fun _ => 0) (fun _ => .slice none 0 0) (fun _ => []) (by simp) (by simp) (by simp) (by simp)
    (by simp) (by simp) (by simp) (by simp) (by simp) (by simp) (by simp) (by simp)
  simpa using this

/-- What lies in blocks of S that are as they were still lies there. -/
theorem Lies.still {w w' : World} {S : Nat → Prop} (hb : ∀ b, S b → b < w.heap.size → w'.heap[b]? = w.heap[b]?) {v : Value} {ts : List Tm} (h : Lies w S v ts) : Lies w' S v ts := by
  induction h with
  | row ao b off len cap o h k sv ts hao hS hl hr c0 c1 c2 c3 r0 r1 r2 _ ih =>
    have go : ∀ {i : Nat}, i < len → ∀ {j : Nat} {u : Value}, w.cell? ⟨b, j, none⟩ = some u → w'.cell? ⟨b, j, none⟩ = some u := fun {i} hi {j u} e => by
      rw [World.cell?_of_block (w := w) (hb b (hS (by omega)) (World.block_lt_of_cell? w _ e))]; exact e
    exact .row ao b off len cap o h k sv ts hao hS hl hr (fun i hi => go hi (c0 i hi)) (fun i hi => go hi (c1 i hi)) (fun i hi => go hi (c2 i hi)) (fun i hi => go hi (c3 i hi)) r0 r1 r2 ih

/-- What lies in w lies in a world that is as w was below w's size. -/
theorem Lies.keep {w w' : World} {S : Nat → Prop} (hb : Below w.heap.size w w') {v : Value} {ts : List Tm} (h : Lies w S v ts) : Lies w' S v ts :=
  h.still fun b _ hlt => hb.block b hlt

/-- It lies in blocks that are there. -/
theorem Lies.more {w : World} {S S' : Nat → Prop} (hs : ∀ b, b < w.heap.size → S b → S' b) {v : Value} {ts : List Tm} (h : Lies w S v ts) : Lies w S' v ts := by
  induction h with
  | row ao b off len cap o h k sv ts hao hS hl hr c0 c1 c2 c3 r0 r1 r2 _ ih =>
    exact .row ao b off len cap o h k sv ts hao (fun h0 => hs b (World.block_lt_of_cell? w _ (c0 0 h0)) (hS h0)) hl hr c0 c1 c2 c3 r0 r1 r2 ih

/-- A row of terms, opened: the slice's parts, and each term's cells (a structure: the walk does not look into it). -/
structure RowAt (w : World) (S : Nat → Prop) (ao : Option Addr) (b off len cap : Nat) (o h k : Nat → Int) (sv : Nat → Value) (ts : Nat → List Tm) (l : List Tm) : Prop where
  isRow : l = (List.range len).map fun i => .mk (o i) (h i) (k i) (ts i)
  hao : 0 < len → ao = some ⟨b, off, none⟩
  hS : 0 < len → S b
  hl : len ≤ cap
  hr : cap ≤ 9223372036854775807
  c0 : ∀ i, i < len → w.cell? ⟨b, off + i * 4, none⟩ = some (.int .i64 (o i))
  c1 : ∀ i, i < len → w.cell? ⟨b, off + i * 4 + 1, none⟩ = some (.int .i64 (h i))
  c2 : ∀ i, i < len → w.cell? ⟨b, off + i * 4 + 2, none⟩ = some (.int .i64 (k i))
  c3 : ∀ i, i < len → w.cell? ⟨b, off + i * 4 + 3, none⟩ = some (sv i)
  r0 : ∀ i, i < len → -9223372036854775808 ≤ o i ∧ o i ≤ 9223372036854775807
  r1 : ∀ i, i < len → -9223372036854775808 ≤ h i ∧ h i ≤ 9223372036854775807
  r2 : ∀ i, i < len → -9223372036854775808 ≤ k i ∧ k i ≤ 9223372036854775807
  sub : ∀ i, i < len → Lies w S (sv i) (ts i)

theorem Lies.open {w : World} {S : Nat → Prop} {v : Value} {l : List Tm} (hv : Lies w S v l) :
    ∃ (ao : Option Addr) (b off len cap : Nat) (o h k : Nat → Int) (sv : Nat → Value) (ts : Nat → List Tm), v = .slice ao len cap ∧ RowAt w S ao b off len cap o h k sv ts l := by
  cases hv with
  | row ao b off len cap o h k sv ts hao hS hl hr c0 c1 c2 c3 r0 r1 r2 sub =>
    exact ⟨ao, b, off, len, cap, o, h, k, sv, ts, rfl, ⟨rfl, hao, hS, hl, hr, c0, c1, c2, c3, r0, r1, r2, sub⟩⟩

theorem kept_cell {w w' : World} (hb : Below w.heap.size w w') {p : Addr} {u : Value} (e : w.cell? p = some u) : w'.cell? p = some u := by
  rw [hb.cell (World.block_lt_of_cell? w p e)]; exact e

section
variable {w wr : World} {S : Nat → Prop} {ao : Option Addr} {b off len cap : Nat} {o h k : Nat → Int} {sv : Nat → Value} {ts : Nat → List Tm} {l : List Tm}
theorem RowAt.length (R : RowAt w S ao b off len cap o h k sv ts l) : l.length = len := by rw [R.isRow]; simp
theorem RowAt.get (R : RowAt w S ao b off len cap o h k sv ts l) (i : Nat) (hi : i < len) : l[i]'(by rw [R.length]; exact hi) = .mk (o i) (h i) (k i) (ts i) := by
  have := R.isRow; subst this; simp
theorem RowAt.at (R : RowAt w S ao b off len cap o h k sv ts l) (hb : Below w.heap.size w wr) (i : Nat) (hi : i < len) :
    wr.cell? ⟨b, off + i * 4, none⟩ = some (.int .i64 (o i)) ∧ wr.cell? ⟨b, off + i * 4 + 1, none⟩ = some (.int .i64 (h i)) ∧ wr.cell? ⟨b, off + i * 4 + 2, none⟩ = some (.int .i64 (k i)) ∧ wr.cell? ⟨b, off + i * 4 + 3, none⟩ = some (sv i) ∧ Lies wr S (sv i) (ts i) :=
  ⟨kept_cell hb (R.c0 i hi), kept_cell hb (R.c1 i hi), kept_cell hb (R.c2 i hi), kept_cell hb (R.c3 i hi), (R.sub i hi).keep hb⟩
theorem RowAt.mem (R : RowAt w S ao b off len cap o h k sv ts l) (i : Nat) (hi : i < len) : .mk (o i) (h i) (k i) (ts i) ∈ l := by
  rw [← R.get i hi]; exact List.getElem_mem _
theorem RowAt.size (R : RowAt w S ao b off len cap o h k sv ts l) {f : Nat} {x y z : Int} (hf : Tm.sz (.mk x y z l) ≤ f + 1) (i : Nat) (hi : i < len) : Tm.sz (.mk (o i) (h i) (k i) (ts i)) ≤ f := by
  have := Tm.szL_le_of_mem (R.mem i hi)
  simp only [Tm.sz] at hf this ⊢
  omega
end

theorem RowAt.size_lt {w : World} {S : Nat → Prop} {ao : Option Addr} {b off len cap : Nat} {o h k : Nat → Int} {sv : Nat → Value} {ts : Nat → List Tm} {l : List Tm} (R : RowAt w S ao b off len cap o h k sv ts l) {x y z : Int} (i : Nat) (hi : i < len) :
    Tm.sz (.mk (o i) (h i) (k i) (ts i)) + 1 ≤ Tm.sz (.mk x y z l) := by
  have := Tm.szL_le_of_mem (R.mem i hi)
  simp only [Tm.sz] at this ⊢
  omega

/-- a term that is a value: its four cells -/
def TmIs (w : World) (S : Nat → Prop) (x : Value) (t : Tm) : Prop :=
  ∃ v, x = .agg #[.int .i64 t.op, .int .i64 t.hd, .int .i64 t.n, v] ∧ Lies w S v t.args

end Go.Proofs.Yteoheeddjddekaa

namespace Go.Proofs.Yteoheeddjddekaa
namespace Tm

theorem szL_append : ∀ l m : List Tm, szL (l ++ m) = szL l + szL m
  | [], m => by simp [szL]
  | a :: l, m => by simp only [List.cons_append, szL, szL_append l m]; omega

theorem szL_take (l : List Tm) (k : Nat) (h : k < l.length) : szL (l.take (k + 1)) = szL (l.take k) + sz l[k] := by
  rw [List.take_succ_eq_append_getElem h, szL_append]; simp [szL]

theorem szL_take_le (l : List Tm) (k : Nat) : szL (l.take k) ≤ szL l := by
  have := szL_append (l.take k) (l.drop k)
  rw [List.take_append_drop] at this; omega

theorem length_le_szL : ∀ l : List Tm, l.length ≤ szL l
  | [] => by simp
  | a :: l => by have := length_le_szL l; have := sz_pos a; simp only [List.length_cons, szL]; omega

/-- the number of nodes, or one more than most -/
def cnt (t : Tm) (most : Int) : Int := if (sz t : Int) ≤ most then sz t else most + 1
theorem cnt_bd (t : Tm) (most : Int) (h : 0 ≤ most) : 1 ≤ cnt t most ∧ cnt t most ≤ most + 1 := by have := sz_pos t; unfold cnt; split <;> omega
/-- what has been counted before the k-th part -/
def cntTo (l : List Tm) (k : Nat) (most : Int) : Int := if ((1 + szL (l.take k) : Nat) : Int) ≤ most then ((1 + szL (l.take k) : Nat) : Int) else most + 1

theorem cntTo_zero (l : List Tm) (most : Int) (h : 0 ≤ most) : cntTo l 0 most = 1 := by unfold cntTo; simp [szL]; omega
theorem cntTo_bd (l : List Tm) (k : Nat) (most : Int) (h : 0 ≤ most) : 1 ≤ cntTo l k most ∧ cntTo l k most ≤ most + 1 := by unfold cntTo; split <;> omega
theorem cntTo_step (l : List Tm) (k : Nat) (most : Int) (h : k < l.length) (hm : cntTo l k most ≤ most) :
    cntTo l k most + cnt l[k] (most - cntTo l k most) = cntTo l (k + 1) most := by
  unfold cntTo at *
  rw [szL_take l k h]
  split at hm
  · rename_i h1
    rw [if_pos h1]
    unfold cnt
    split <;> split <;> omega
  · omega
theorem cntTo_full (o h n : Int) (l : List Tm) (k : Nat) (most : Int) (hk : l.length ≤ k ∨ most < cntTo l k most) : cntTo l k most = cnt (.mk o h n l) most := by
  have := szL_take_le l k
  have e : sz (.mk o h n l) = 1 + szL l := by simp [sz]
  unfold cnt cntTo at *
  rw [e]
  rcases hk with hk | hk
  · rw [List.take_of_length_le hk]
  · split at hk
    · omega
    · split <;> split <;> omega

/-- is a node's head one of a term's? -/
def headOk (o h n : Int) (len : Nat) : Bool :=
  if o == 1 then len == 0 && h == 0 && n == 0
  else if o == 2 then len == 2 && h == 0 && n == 0
  else if o == 3 then len == 1 && h == 0 && n == 0
  else if o == 4 then decide (1 ≤ h) && decide (h ≤ 3) && decide (0 ≤ n) && decide (n ≤ 9999)
  else false

theorem headOk_yes (o h n : Int) (len : Nat) (e : headOk o h n len = true) :
    (o = 1 ∧ len = 0 ∧ h = 0 ∧ n = 0) ∨ (o = 2 ∧ len = 2 ∧ h = 0 ∧ n = 0) ∨ (o = 3 ∧ len = 1 ∧ h = 0 ∧ n = 0) ∨ (o = 4 ∧ 1 ≤ h ∧ h ≤ 3 ∧ 0 ≤ n ∧ n ≤ 9999) := by
  unfold headOk at e
  by_cases o1 : o = 1
  · subst o1; simp at e; omega
  · by_cases o2 : o = 2
    · subst o2; simp at e; omega
    · by_cases o3 : o = 3
      · subst o3; simp at e; omega
      · by_cases o4 : o = 4
        · subst o4; simp at e; omega
        · simp [o1, o2, o3, o4] at e

theorem headOk_no (o h n : Int) (len : Nat) (e : headOk o h n len = false) :
    (o = 1 ∧ (len ≠ 0 ∨ (len = 0 ∧ h ≠ 0) ∨ (len = 0 ∧ h = 0 ∧ n ≠ 0))) ∨ (o = 2 ∧ (len ≠ 2 ∨ (len = 2 ∧ h ≠ 0) ∨ (len = 2 ∧ h = 0 ∧ n ≠ 0))) ∨ (o = 3 ∧ (len ≠ 1 ∨ (len = 1 ∧ h ≠ 0) ∨ (len = 1 ∧ h = 0 ∧ n ≠ 0))) ∨
    (o = 4 ∧ (h < 1 ∨ (1 ≤ h ∧ 3 < h) ∨ (1 ≤ h ∧ h ≤ 3 ∧ n < 0) ∨ (1 ≤ h ∧ h ≤ 3 ∧ 0 ≤ n ∧ 9999 < n))) ∨ (o ≠ 1 ∧ o ≠ 2 ∧ o ≠ 3 ∧ o ≠ 4) := by
  unfold headOk at e
  by_cases o1 : o = 1
  · subst o1; simp at e; omega
  · by_cases o2 : o = 2
    · subst o2; simp at e; omega
    · by_cases o3 : o = 3
      · subst o3; simp at e; omega
      · by_cases o4 : o = 4
        · subst o4; simp at e; omega
        · omega

mutual
/-- built as terms are, and not deeper than 40, if it stands so deep -/
def formed : Tm → Nat → Bool
  | .mk o h n l, d => decide (d ≤ 40) && headOk o h n l.length && formedL l (d + 1)
def formedL : List Tm → Nat → Bool
  | [], _ => true
  | t :: l, d => formed t d && formedL l d
end

theorem formedL_all : ∀ (l : List Tm) (d : Nat), formedL l d = l.all (formed · d)
  | [], _ => rfl
  | t :: l, d => by simp only [formedL, List.all_cons, formedL_all l d]

theorem formedL_take_step (l : List Tm) (d k : Nat) (h : k < l.length) (hp : formedL (l.take k) d = true) (e : formed l[k] d = true) : formedL (l.take (k + 1)) d = true := by
  rw [formedL_all] at *
  rw [List.take_succ_eq_append_getElem h, List.all_append, hp]; simp [e]
theorem formedL_fail (l : List Tm) (d k : Nat) (h : k < l.length) (e : formed l[k] d = false) : formedL l d = false := by
  rw [formedL_all, List.all_eq_false]
  exact ⟨l[k], List.getElem_mem h, by simp [e]⟩
/-- the first k parts are well built (hidden from the walk) -/
def FormedTo (l : List Tm) (d k : Nat) : Prop := formedL (l.take k) d = true
theorem FormedTo.zero (l : List Tm) (d : Nat) : FormedTo l d 0 := by simp [FormedTo, formedL]
theorem FormedTo.step {l : List Tm} {d k : Nat} (hp : FormedTo l d k) (h : k < l.length) (e : formed l[k] d = true) : FormedTo l d (k + 1) := formedL_take_step l d k h hp e
theorem FormedTo.all {l : List Tm} {d k : Nat} (hp : FormedTo l d k) (h : l.length ≤ k) : formedL l d = true := by
  unfold FormedTo at hp; rwa [List.take_of_length_le h] at hp

mutual
def depth : Tm → Nat
  | .mk _ _ _ l => depthL l + 1
def depthL : List Tm → Nat
  | [] => 0
  | t :: l => max (depth t) (depthL l)
end

def proper (t : Tm) : Bool := decide (sz t ≤ 600) && formed t 1

end Tm
end Go.Proofs.Yteoheeddjddekaa

namespace Go.Proofs.Yteoheeddjddekaa
open Go.RowKit

/-- the cells of terms whose spines are these values -/
def flat : List Tm → List Value → List Value
  | t :: ts, v :: vs => .int .i64 t.op :: .int .i64 t.hd :: .int .i64 t.n :: v :: flat ts vs
  | _, _ => []

theorem flat_length : ∀ (ts : List Tm) (vs : List Value), ts.length = vs.length → (flat ts vs).length = ts.length * 4
  | [], [], _ => rfl
  | t :: ts, v :: vs, h => by simp only [flat, List.length_cons, flat_length ts vs (by simpa using h)]; omega
  | [], _ :: _, h => by simp at h
  | _ :: _, [], h => by simp at h

theorem flat_snoc : ∀ (ts : List Tm) (vs : List Value) (t : Tm) (v : Value), ts.length = vs.length → flat (ts ++ [t]) (vs ++ [v]) = flat ts vs ++ [.int .i64 t.op, .int .i64 t.hd, .int .i64 t.n, v]
  | [], [], _, _, _ => rfl
  | t :: ts, v :: vs, t', v', h => by simp only [List.cons_append, flat, flat_snoc ts vs t' v' (by simpa using h)]
  | [], _ :: _, _, _, h => by simp at h
  | _ :: _, [], _, _, h => by simp at h

theorem flat_get : ∀ (ts : List Tm) (vs : List Value) (i : Nat) (h : i < ts.length) (h' : i < vs.length),
    (flat ts vs)[i * 4]? = some (.int .i64 ts[i].op) ∧ (flat ts vs)[i * 4 + 1]? = some (.int .i64 ts[i].hd) ∧ (flat ts vs)[i * 4 + 2]? = some (.int .i64 ts[i].n) ∧ (flat ts vs)[i * 4 + 3]? = some vs[i]
  | t :: ts, v :: vs, 0, _, _ => by simp [flat]
  | t :: ts, v :: vs, i + 1, h, h' => by
    have := flat_get ts vs i (by simpa using h) (by simpa using h')
    have e : ∀ j, (i + 1) * 4 + j = (i * 4 + j) + 1 + 1 + 1 + 1 := fun j => by omega
    have e0 : (i + 1) * 4 = i * 4 + 1 + 1 + 1 + 1 := by omega
    simp only [flat, List.getElem_cons_succ]
    rw [e 1, e 2, e 3, e0]
    simp only [List.getElem?_cons_succ]
    exact this
  | [], _, _, h, _ => by simp at h
  | _ :: _, [], _, _, h => by simp at h

/-- what a term's numbers are between -/
def Tm.fit (t : Tm) : Prop := (-9223372036854775808 ≤ t.op ∧ t.op ≤ 9223372036854775807) ∧ (-9223372036854775808 ≤ t.hd ∧ t.hd ≤ 9223372036854775807) ∧ (-9223372036854775808 ≤ t.n ∧ t.n ≤ 9223372036854775807)

/-- The slice value v is the call's own row (in a block from base on), and holds the terms ts; their spines lie in other blocks, from base on too. -/
structure Built (w : World) (base : Nat) (e : TypeId) (v : Value) (ts : List Tm) : Prop where
  has : ∃ vs : List Value, ts.length = vs.length ∧ w.ownsRow base e 4 v ts.length (flat ts vs) ∧ ∀ i (h : i < ts.length) (h' : i < vs.length), Lies w (fun b => base ≤ b ∧ v.ownBlock ≠ some b) vs[i] ts[i].args
  fit : ∀ t ∈ ts, t.fit

theorem Built.nil (w : World) (base : Nat) (e : TypeId) : Built w base e (.slice none 0 0) [] :=
  ⟨⟨[], rfl, World.ownsRow_nil _ _ _ _, fun i h => by simp at h⟩, by simp⟩

/-- Blocks that are there stay as they were. -/
theorem Built.keep {w w' : World} {base : Nat} {e : TypeId} {v : Value} {ts : List Tm} (h : Built w base e v ts) (hb : ∀ b, base ≤ b → b < w.heap.size → w'.heap[b]? = w.heap[b]?) : Built w' base e v ts := by
  obtain ⟨⟨vs, hl, hown, hsub⟩, hfit⟩ := h
  refine ⟨⟨vs, hl, ⟨hown.1, ?_⟩, fun i h h' => (hsub i h h').still fun b hS hlt => hb b hS.1 hlt⟩, hfit⟩
  rcases hown.2 with hn | ⟨g, cap, cur, rfl, hg, hh, rest⟩
  · exact .inl hn
  · exact .inr ⟨g, cap, cur, rfl, hg, (hb g hg (Array.getElem?_eq_some_iff.1 hh).1).trans hh, rest⟩

theorem Built.below {w w' : World} {base : Nat} {e : TypeId} {v : Value} {ts : List Tm} (h : Built w base e v ts) (hb : Below w.heap.size w w') : Built w' base e v ts :=
  h.keep fun b _ hlt => hb.block b hlt
theorem Built.setCell {w : World} {base : Nat} {e : TypeId} {v : Value} {ts : List Tm} (h : Built w base e v ts) {p : Addr} (hp : p.block < base) (u : Value) : Built (w.setCell p u) base e v ts :=
  h.keep fun b hb _ => Below.heap_setCell _ _ _ _ (by omega)

theorem Built.own {w : World} {base : Nat} {e : TypeId} {v : Value} {ts : List Tm} (h : Built w base e v ts) : ∃ vs : List Value, ts.length = vs.length ∧ w.ownsRow base e 4 v ts.length (flat ts vs) ∧
    ∀ i (h : i < ts.length) (h' : i < vs.length), Lies w (fun b => base ≤ b ∧ v.ownBlock ≠ some b) vs[i] ts[i].args := h.has

/-- One more term is appended: what the law on append leaves is a row with one term more. -/
theorem Built.push {w w' : World} {base : Nat} {e : TypeId} {v : Value} {ts : List Tm} {vs : List Value} {g cap : Nat} {t : Tm} {s : Value}
    (hl : ts.length = vs.length) (hsub : ∀ i (h : i < ts.length) (h' : i < vs.length), Lies w (fun b => base ≤ b ∧ v.ownBlock ≠ some b) vs[i] ts[i].args) (hfit : ∀ t ∈ ts, t.fit) (ht : t.fit)
    (hs : Lies w (fun b => base ≤ b ∧ v.ownBlock ≠ some b) s t.args)
    (hown' : w'.ownsRow base e 4 (.slice (some ⟨g, 0, none⟩) (ts.length + 1) cap) (ts.length + 1) (flat ts vs ++ [.int .i64 t.op, .int .i64 t.hd, .int .i64 t.n, s]))
    (hgrow : w.grownBy w' v.ownBlock) (hat : v.ownBlock = some g ∨ g = w.heap.size) : Built w' base e (.slice (some ⟨g, 0, none⟩) (ts.length + 1) cap) (ts ++ [t]) := by
  have move : ∀ {x : Value} {l : List Tm}, Lies w (fun b => base ≤ b ∧ v.ownBlock ≠ some b) x l → Lies w' (fun b => base ≤ b ∧ (Value.slice (some ⟨g, 0, none⟩) (ts.length + 1) cap).ownBlock ≠ some b) x l := by
    intro x l h
    have h2 : Lies w (fun b => base ≤ b ∧ b ≠ g ∧ v.ownBlock ≠ some b) x l := h.more fun b hlt hS => ⟨hS.1, fun e => by
      subst e
      rcases hat with hat | hat
      · exact hS.2 hat
      · omega, hS.2⟩
    refine (h2.still (w' := w') fun b hS hlt => hgrow.block b hlt (fun e => hS.2.2 e.symm)).more fun b _ hS => ⟨hS.1, ?_⟩
    simp only [Value.ownBlock, ne_eq, Option.some.injEq]
    exact fun e => hS.2.1 e.symm
  refine ⟨⟨vs ++ [s], by simp [hl], by rw [flat_snoc ts vs t s hl]; simpa using hown', ?_⟩, ?_⟩
  · intro i h h'
    by_cases hi : i < ts.length
    · rw [List.getElem_append_left hi, List.getElem_append_left (by omega)]
      exact move (hsub i hi (by omega))
    · obtain rfl : i = ts.length := by simp at h; omega
      simp only [List.getElem_append_right (Nat.le_refl _), Nat.sub_self, List.getElem_cons_zero]
      rw [List.getElem_append_right (by omega)]
      simp only [hl, Nat.sub_self, List.getElem_cons_zero]
      rw [← hl]
      exact move hs
  · intro x hx
    rcases List.mem_append.1 hx with hx | hx
    · exact hfit x hx
    · simp at hx; rw [hx]; exact ht

/-- What has been built lies there. -/
theorem Built.lies {w : World} {base : Nat} {e : TypeId} {v : Value} {ts : List Tm} (h : Built w base e v ts) : Lies w (base ≤ ·) v ts := by
  obtain ⟨⟨vs, hl, hown, hsub⟩, hfit⟩ := h
  have hcells := @World.ownsRow.cells w base e 4 v ts.length (flat ts vs) hown
  rcases hown.2 with ⟨rfl, h0⟩ | ⟨g, cap, cur, rfl, hg, hh, hle, hmx, _⟩
  · obtain rfl : ts = [] := List.eq_nil_of_length_eq_zero h0
    exact Lies.nil _ _
  · have hc : ∀ j u, (flat ts vs)[j]? = some u → w.cell? ⟨g, 0 + j, none⟩ = some u := fun j u hu => by
      have := hcells (g := g) (by simp [Value.ownBlock]) j u hu
      rwa [Addr.add_lit] at this
    have hts : ts = (List.range ts.length).map fun i => Tm.mk (ts[i]?.getD (.mk 0 0 0 [])).op (ts[i]?.getD (.mk 0 0 0 [])).hd (ts[i]?.getD (.mk 0 0 0 [])).n (ts[i]?.getD (.mk 0 0 0 [])).args := by
      apply List.ext_getElem
      · simp
      · intro i h1 h2
        simp only [List.getElem_map, List.getElem_range, List.getElem?_eq_getElem h1, Option.getD_some]
        cases ts[i]; rfl
    have hget : ∀ i (h : i < ts.length), ts[i]?.getD (.mk 0 0 0 []) = ts[i] := fun i h => by rw [List.getElem?_eq_getElem h]; rfl
    have hvs : ∀ i (h : i < vs.length), vs[i]?.getD (.slice none 0 0) = vs[i] := fun i h => by rw [List.getElem?_eq_getElem h]; rfl
    have hf := fun i (h : i < ts.length) => flat_get ts vs i h (by omega)
    have hm : cap ≤ 9223372036854775807 := by unfold maxLen at hmx; exact hmx
    have row := Lies.row (w := w) (S := (base ≤ ·)) (some ⟨g, 0, none⟩) g 0 ts.length cap (fun i => (ts[i]?.getD (.mk 0 0 0 [])).op) (fun i => (ts[i]?.getD (.mk 0 0 0 [])).hd) (fun i => (ts[i]?.getD (.mk 0 0 0 [])).n)
      (fun i => vs[i]?.getD (.slice none 0 0)) (fun i => (ts[i]?.getD (.mk 0 0 0 [])).args) (fun _ => rfl) (fun _ => hg) hle hm
      (fun i hi => by rw [hget i hi]; exact hc _ _ (hf i hi).1) (fun i hi => by rw [hget i hi]; have := hc _ _ (hf i hi).2.1; rwa [← Nat.add_assoc] at this)
      (fun i hi => by rw [hget i hi]; have := hc _ _ (hf i hi).2.2.1; rwa [← Nat.add_assoc] at this) (fun i hi => by rw [hvs i (by omega)]; have := hc _ _ (hf i hi).2.2.2; rwa [← Nat.add_assoc] at this)
      (fun i hi => by rw [hget i hi]; exact (hfit _ (List.getElem_mem hi)).1) (fun i hi => by rw [hget i hi]; exact (hfit _ (List.getElem_mem hi)).2.1) (fun i hi => by rw [hget i hi]; exact (hfit _ (List.getElem_mem hi)).2.2)
      (fun i hi => by rw [hget i hi, hvs i (by omega)]; exact (hsub i hi (by omega)).more fun b _ hS => hS.1)
    rw [← hts] at row
    exact row

theorem Built.drew {w : World} {base : Nat} {e : TypeId} {v : Value} {ts : List Tm} (h : Built w base e v ts) : Built w.drew base e v ts := h.keep fun _ _ _ => rfl
theorem Built.lt {w : World} {base : Nat} {e : TypeId} {v : Value} {ts : List Tm} (h : Built w base e v ts) : ∀ k, v.ownBlock = some k → base ≤ k ∧ k < w.heap.size := by
  obtain ⟨vs, _, hown, _⟩ := h.has; exact hown.lt

/-- a cell of a block that is known whole -/
theorem cell_in {w : World} {B : Nat} {cs : Array Value} {t : TypeId} {fr : Nat × Nat} (hb : w.heap[B]? = some (.cells cs t fr)) (j : Nat) (u : Value) (hu : cs[j]? = some u) : w.cell? ⟨B, j, none⟩ = some u := by
  rw [cell_of_row w B j cs t fr hb]; simpa using hu
theorem free_in {w : World} {B : Nat} {cs : Array Value} {t : TypeId} (hb : w.heap[B]? = some (.cells cs t (0, 0))) (j : Nat) : w.frozen? ⟨B, j, none⟩ = false := by
  simp [World.frozen?, hb]
theorem heap_kept {w w' : World} {B : Nat} {o : Obj} (hb : Below w.heap.size w w') (h : w.heap[B]? = some o) : w'.heap[B]? = some o := by
  rw [hb.block B (Array.getElem?_eq_some_iff.1 h).1]; exact h

theorem frozen_kept {w w' : World} (hb : Below w.heap.size w w') {p : Addr} {u : Value} {c : Bool} (e : w.cell? p = some u) (h : w.frozen? p = c) : w'.frozen? p = c :=
  (hb.frozen (World.block_lt_of_cell? w p e)).trans h
theorem far_cell {w w' : World} {row : Option Nat} {B : Nat} {p : Addr} {u : Value} (hg : w.grownBy w' row) (h : w.cell? p = some u) (hr : ∀ k, row = some k → B ≤ k) (hp : p.block < B) : w'.cell? p = some u :=
  hg.cell h (fun e => by have := hr _ e.symm; omega)
theorem far_frozen {w w' : World} {row : Option Nat} {B : Nat} {p : Addr} {u : Value} {c : Bool} (hg : w.grownBy w' row) (h : w.cell? p = some u) (hf : w.frozen? p = c) (hr : ∀ k, row = some k → B ≤ k) (hp : p.block < B) : w'.frozen? p = c :=
  (hg.frozen_far p (World.block_lt_of_cell? w p h) (fun e => by have := hr _ e.symm; omega)).trans hf

/-- A call that builds a term: its argument's box, its result's box, the term being built with the row v, the parts so far. (B: the heap's size when the call began.) -/
structure Building (w wr : World) (e : TypeId) (box res : Array Value) (o h n : Int) (v : Value) (ts : List Tm) : Prop where
  below : Below w.heap.size w wr
  box : wr.heap[w.heap.size]? = some (.cells box e (0, 0))
  res : wr.heap[w.heap.size + 1]? = some (.cells res e (0, 0))
  out : wr.heap[w.heap.size + 1 + 1]? = some (.cells #[.int .i64 o, .int .i64 h, .int .i64 n, v] e (0, 0))
  row : Built wr (w.heap.size + 1 + 1 + 1) e v ts

theorem heap_set_at {w : World} {B j : Nat} {cs : Array Value} {t : TypeId} {fr : Nat × Nat} (u : Value) (h : w.heap[B]? = some (.cells cs t fr)) : (w.setCell ⟨B, j, none⟩ u).heap[B]? = some (.cells (cs.setIfInBounds j u) t fr) := by
  simp [World.setCell, Array.getElem?_modify, h]

theorem Building.start {w : World} {e : TypeId} {o h n : Int} (box res : Array Value) (v : Value) (hv : v = .slice none 0 0) :
    Building w (((w.alloc (.cells box e)).alloc (.cells res e)).alloc (.cells #[.int .i64 o, .int .i64 h, .int .i64 n, v] e)) e box res o h n v [] := by
  subst hv
  refine ⟨(((Below.refl _ _).alloc (Nat.le_refl _) _).alloc (by simp) _).alloc (by simp; omega) _, ?_, ?_, ?_, Built.nil _ _ _⟩
  · rw [heap_alloc_old _ _ _ (by simp; omega), heap_alloc_old _ _ _ (by simp), heap_alloc_new]
  · rw [heap_alloc_old _ _ _ (by simp)]
    have := heap_alloc_new (w.alloc (.cells box e)) (.cells res e)
    simpa using this
  · have := heap_alloc_new ((w.alloc (.cells box e)).alloc (.cells res e)) (.cells #[.int .i64 o, .int .i64 h, .int .i64 n, .slice none 0 0] e)
    simpa using this

theorem Building.step {w wr w1 w2 w3 : World} {e : TypeId} {box res : Array Value} {o h n : Int} {v : Value} {ts : List Tm} {t : Tm} {x : Value} {g cap : Nat} {vs : List Value} {ob : Obj}
    (M : Building w wr e box res o h n v ts) (hb1 : Below wr.heap.size wr w1) (hb2 : Below w1.heap.size w1 w2) (hx : Lies w2 (w1.heap.size ≤ ·) x t.args) (hft : t.fit)
    (hvl : ts.length = vs.length) (hsub : ∀ i (h : i < ts.length) (h' : i < vs.length), Lies w2 (fun b => w.heap.size + 1 + 1 + 1 ≤ b ∧ v.ownBlock ≠ some b) vs[i] ts[i].args)
    (hown3 : w3.ownsRow (w.heap.size + 1 + 1 + 1) e 4 (.slice (some ⟨g, 0, none⟩) (ts.length + 1) cap) (ts.length + 1) (flat ts vs ++ [.int .i64 t.op, .int .i64 t.hd, .int .i64 t.n, x]))
    (hgrow : (w2.alloc ob).grownBy w3 v.ownBlock) (hat : v.ownBlock = some g ∨ g = w2.heap.size + 1) :
    Building w (w3.setCell ⟨w.heap.size + 1 + 1, 3, none⟩ (.slice (some ⟨g, 0, none⟩) (ts.length + 1) cap)) e box res o h n (.slice (some ⟨g, 0, none⟩) (ts.length + 1) cap) (ts ++ [t]) := by
  have hlt := M.row.lt
  have s0 : w.heap.size + 1 + 1 < wr.heap.size := (Array.getElem?_eq_some_iff.1 M.out).1
  have s1 := hb1.size
  have s2 := hb2.size
  have sa : (w2.alloc ob).heap.size = w2.heap.size + 1 := by simp
  have old : ∀ k, k < wr.heap.size → k < w.heap.size + 1 + 1 + 1 → w3.heap[k]? = wr.heap[k]? := fun k hk hk2 => by
    rw [hgrow.block k (by omega) (fun e => by have := (hlt k e.symm).1; omega), heap_alloc_old w2 ob k (by omega), hb2.block k (by omega), hb1.block k hk]
  have b3 : Below w.heap.size w w3 := by
    have b2 := M.below.trans ((hb1.mono (M.below.size)).trans (hb2.mono (by have := M.below.size; omega)))
    exact (b2.alloc (by have := b2.size; omega) ob).grown hgrow (by have := b2.size; omega) (fun k hk => by have := (hlt k hk).1; omega)
  refine ⟨b3.setCell (by simp; omega) _, ?_, ?_, ?_, ?_⟩
  · rw [Below.heap_setCell _ _ _ _ (by simp; omega), old _ (by omega) (by omega)]; exact M.box
  · rw [Below.heap_setCell _ _ _ _ (by simp), old _ (by omega) (by omega)]; exact M.res
  · rw [heap_set_at _ ((old _ (by omega) (by omega)).trans M.out)]; simp
  · refine Built.setCell (Built.push (w := w2.alloc ob) hvl (fun i h h' => (hsub i h h').keep ((Below.refl _ _).alloc (Nat.le_refl _) _)) M.row.fit hft ?_ hown3 hgrow (by rw [sa]; exact hat)) (by simp) _
    refine (hx.keep ((Below.refl _ _).alloc (Nat.le_refl _) ob)).more fun b _ hS => ⟨by omega, fun e => ?_⟩
    have := (hlt b e).2
    omega

end Go.Proofs.Yteoheeddjddekaa

namespace Go.Proofs.Yteoheeddjddekaa
namespace Tm

/-- how many more binders are around the i-th part -/
def belowN (o : Int) (i : Nat) : Int := if o == 3 || (o == 2 && i == 1) then 1 else 0

mutual
def moved (d : Int) : Int → Tm → Tm
  | fr, .mk o h n l => .mk o h (if o == 4 && h == 1 && decide (fr ≤ n) then n + d else n) (movedL d fr o 0 l)
def movedL (d : Int) : Int → Int → Nat → List Tm → List Tm
  | _, _, _, [] => []
  | fr, o, i, t :: l => moved d (fr + belowN o i) t :: movedL d fr o (i + 1) l
end

theorem movedL_snoc (d fr o : Int) : ∀ (l : List Tm) (i : Nat) (t : Tm), movedL d fr o i (l ++ [t]) = movedL d fr o i l ++ [moved d (fr + belowN o (i + l.length)) t]
  | [], i, t => by simp [movedL]
  | a :: l, i, t => by
    simp only [List.cons_append, movedL, movedL_snoc d fr o l (i + 1) t, List.length_cons]
    rw [show i + 1 + l.length = i + (l.length + 1) by omega]

theorem movedL_length (d fr o : Int) : ∀ (l : List Tm) (i : Nat), (movedL d fr o i l).length = l.length
  | [], _ => rfl
  | _ :: l, i => by simp [movedL, movedL_length d fr o l (i + 1)]

/-- the first k parts, shifted -/
def movedTo (d fr o : Int) (l : List Tm) (k : Nat) : List Tm := movedL d fr o 0 (l.take k)
theorem movedTo_zero (d fr o : Int) (l : List Tm) : movedTo d fr o l 0 = [] := by simp [movedTo, movedL]
theorem movedTo_length (d fr o : Int) (l : List Tm) (k : Nat) (h : k ≤ l.length) : (movedTo d fr o l k).length = k := by
  rw [movedTo, movedL_length, List.length_take]; omega
theorem movedTo_step (d fr o : Int) (l : List Tm) (k : Nat) (h : k < l.length) : movedTo d fr o l (k + 1) = movedTo d fr o l k ++ [moved d (fr + belowN o k) l[k]] := by
  rw [movedTo, List.take_succ_eq_append_getElem h, movedL_snoc, List.length_take, Nat.min_eq_left (by omega), Nat.zero_add]; rfl
theorem movedTo_all (d fr o : Int) (l : List Tm) (k : Nat) (h : l.length ≤ k) : movedTo d fr o l k = movedL d fr o 0 l := by
  rw [movedTo, List.take_of_length_le h]

theorem belowN_bd (o : Int) (i : Nat) : 0 ≤ belowN o i ∧ belowN o i ≤ 1 := by unfold belowN; split <;> omega

mutual
/-- every number is one of a head: from 0 to 9999 -/
def nums : Tm → Bool
  | .mk o h n l => decide (0 ≤ o) && decide (o ≤ 4) && decide (0 ≤ h) && decide (h ≤ 3) && decide (0 ≤ n) && decide (n ≤ 9999) && numsL l
def numsL : List Tm → Bool
  | [] => true
  | t :: l => nums t && numsL l
end
theorem numsL_mem : ∀ {l : List Tm} {t : Tm}, numsL l = true → t ∈ l → nums t = true
  | a :: l, t, h, hm => by
    simp only [numsL, Bool.and_eq_true] at h
    rcases List.mem_cons.1 hm with rfl | hm
    · exact h.1
    · exact numsL_mem h.2 hm

mutual
theorem nums_of_formed : ∀ (t : Tm) (d : Nat), formed t d = true → nums t = true
  | .mk o h n l, d, hf => by
    simp only [formed, Bool.and_eq_true] at hf
    have hl := numsL_of_formed l (d + 1) hf.2
    rcases headOk_yes o h n l.length hf.1.2 with ⟨rfl, _, rfl, rfl⟩ | ⟨rfl, _, rfl, rfl⟩ | ⟨rfl, _, rfl, rfl⟩ | ⟨rfl, h1, h2, h3, h4⟩ <;> simp [nums, hl] <;> omega
theorem numsL_of_formed : ∀ (l : List Tm) (d : Nat), formedL l d = true → numsL l = true
  | [], _, _ => rfl
  | t :: l, d, h => by
    simp only [formedL, Bool.and_eq_true] at h
    simp [numsL, nums_of_formed t d h.1, numsL_of_formed l d h.2]
end

theorem moved_fit (d fr o h n : Int) (l : List Tm) (hn : nums (.mk o h n l) = true) (h0 : -9999 ≤ d) (h1 : d ≤ 9999) : (moved d fr (.mk o h n l)).fit := by
  simp only [nums, Bool.and_eq_true, decide_eq_true_eq] at hn
  unfold fit moved op hd Tm.n
  simp only
  refine ⟨by omega, by omega, ?_⟩
  split <;> omega

theorem nums_n {o h n : Int} {l : List Tm} (hn : nums (.mk o h n l) = true) : 0 ≤ n ∧ n ≤ 9999 := by
  simp only [nums, Bool.and_eq_true, decide_eq_true_eq] at hn; omega
theorem nums_l {o h n : Int} {l : List Tm} (hn : nums (.mk o h n l) = true) : numsL l = true := by
  simp only [nums, Bool.and_eq_true] at hn; exact hn.2

theorem moved_ways (d fr o h n : Int) (l : List Tm) (hn : nums (.mk o h n l) = true) (h0 : -9999 ≤ d) (h1 : d ≤ 9999) :
    ∃ n', (-9999 ≤ n' ∧ n' ≤ 20000) ∧ moved d fr (.mk o h n l) = .mk o h n' (movedL d fr o 0 l) ∧
      (((o == 4) = true ∧ (h == 1) = true ∧ fr ≤ n ∧ n' = n + d) ∨ ((o == 4) = true ∧ (h == 1) = true ∧ n < fr ∧ n' = n) ∨ ((o == 4) = true ∧ (h == 1) = false ∧ n' = n) ∨ ((o == 4) = false ∧ n' = n)) := by
  have hb := nums_n hn
  by_cases c : (o == 4 && h == 1 && decide (fr ≤ n)) = true
  · refine ⟨n + d, by omega, by simp [moved, c], .inl ?_⟩
    simp only [Bool.and_eq_true, beq_iff_eq, decide_eq_true_eq] at c
    exact ⟨by simp [c.1.1], by simp [c.1.2], c.2, rfl⟩
  · refine ⟨n, by omega, by simp [moved, c], ?_⟩
    rcases e4 : (o == 4) with _ | _
    · exact .inr (.inr (.inr ⟨rfl, rfl⟩))
    · rcases e1 : (h == 1) with _ | _
      · exact .inr (.inr (.inl ⟨rfl, rfl, rfl⟩))
      · refine .inr (.inl ⟨rfl, rfl, ?_, rfl⟩)
        simp only [e4, e1, Bool.true_and, decide_eq_true_eq] at c
        omega

end Tm
end Go.Proofs.Yteoheeddjddekaa

namespace Go.Proofs.Yteoheeddjddekaa
open Go.RowKit
namespace Tm

/-- is a term, that stands so deep behind so many nodes, one that may stand there? -/
def mOk (t : Tm) (c lev : Nat) : Bool := decide (c + sz t ≤ 600) && formed t lev

theorem mOk_eq (o h n : Int) (l : List Tm) (c lev : Nat) : mOk (.mk o h n l) c lev = (decide (c + 1 + szL l ≤ 600) && (decide (lev ≤ 40) && headOk o h n l.length && formedL l (lev + 1))) := by
  unfold mOk
  rw [show c + sz (.mk o h n l) = c + 1 + szL l from by simp only [sz]; omega, formed]
theorem mOk_many (o h n : Int) (l : List Tm) (c lev : Nat) (hc : 600 < c + 1) : mOk (.mk o h n l) c lev = false := by
  rw [mOk_eq, show decide (c + 1 + szL l ≤ 600) = false from by rw [decide_eq_false_iff_not]; omega, Bool.false_and]
theorem mOk_deep (o h n : Int) (l : List Tm) (c lev : Nat) (hl : 40 < lev) : mOk (.mk o h n l) c lev = false := by
  rw [mOk_eq, show decide (lev ≤ 40) = false from by rw [decide_eq_false_iff_not]; omega, Bool.false_and, Bool.false_and, Bool.and_false]
theorem mOk_head (o h n : Int) (l : List Tm) (c lev : Nat) (e : headOk o h n l.length = false) : mOk (.mk o h n l) c lev = false := by
  rw [mOk_eq, e, Bool.and_false, Bool.false_and, Bool.and_false]
theorem mOk_fail (o h n : Int) (l : List Tm) (c lev k : Nat) (hk : k < l.length) (e : mOk l[k] (c + 1 + szL (l.take k)) (lev + 1) = false) : mOk (.mk o h n l) c lev = false := by
  have h1 := szL_take l k hk
  have h2 := szL_take_le l (k + 1)
  rw [mOk_eq]
  unfold mOk at e
  rcases Bool.and_eq_false_iff.1 e with e | e
  · rw [decide_eq_false_iff_not] at e
    rw [show decide (c + 1 + szL l ≤ 600) = false from by rw [decide_eq_false_iff_not]; omega, Bool.false_and]
  · rw [formedL_fail l (lev + 1) k hk e, Bool.and_false, Bool.and_false]
theorem mOk_step (l : List Tm) (c lev k : Nat) (hk : k < l.length) (e : mOk l[k] (c + 1 + szL (l.take k)) (lev + 1) = true) : c + 1 + szL (l.take (k + 1)) ≤ 600 ∧ formed l[k] (lev + 1) = true := by
  unfold mOk at e
  rw [Bool.and_eq_true, decide_eq_true_eq] at e
  rw [szL_take l k hk]
  exact ⟨by omega, e.2⟩
theorem mOk_all (o h n : Int) (l : List Tm) (c lev : Nat) (e : headOk o h n l.length = true) (hl : lev ≤ 40) (hc : c + 1 + szL l ≤ 600) (hf : formedL l (lev + 1) = true) : mOk (.mk o h n l) c lev = true := by
  rw [mOk_eq, e, hf, decide_eq_true hl, decide_eq_true hc]; rfl

theorem depthL_snoc : ∀ (l : List Tm) (t : Tm), depthL (l ++ [t]) = max (depthL l) (depth t)
  | [], t => by simp [depthL]
  | a :: l, t => by simp only [List.cons_append, depthL, depthL_snoc l t]; omega
theorem depthL_take (l : List Tm) (k : Nat) (h : k < l.length) : depthL (l.take (k + 1)) = max (depthL (l.take k)) (depth l[k]) := by
  rw [List.take_succ_eq_append_getElem h, depthL_snoc]
theorem depth_pos (t : Tm) : 1 ≤ depth t := by cases t; simp [depth]
mutual
theorem depth_le : ∀ t : Tm, depth t ≤ sz t
  | .mk _ _ _ l => by have := depthL_le l; simp only [depth, sz]; omega
theorem depthL_le : ∀ l : List Tm, depthL l ≤ szL l
  | [] => Nat.le_refl _
  | t :: l => by have := depth_le t; have := depthL_le l; simp only [depthL, szL]; omega
end

theorem szL_take_mem {l : List Tm} {k : Nat} (h : k < l.length) : szL (l.take k) + sz l[k] ≤ szL l := by
  have h1 := szL_take l k h
  have h2 := szL_take_le l (k + 1)
  omega

/-- the ways through the tests on a node, each decided -/
theorem node_ways (h n : Int) :
    ((h == 0) = false ∨ ((h == 0) = true ∧ (n == 0) = false) ∨ ((h == 0) = true ∧ (n == 0) = true)) := by
  rcases (h == 0) with _ | _ <;> rcases (n == 0) with _ | _ <;> simp
end Tm

theorem below_drawn {B : Nat} {a w : World} (h : Below B a w) (n : Nat) : Below B a (w.drewN n) := h.trans ⟨rfl, rfl, rfl, Nat.le_refl _, fun _ _ => rfl⟩

section
variable {w w1 w2 : World} {B : Nat}
/-- one block alone may have been written -/
def Only (B : Nat) (w w' : World) : Prop := w.grownBy w' (some B)
theorem Only.out (h : Only B w w1) : w.grownBy w1 (some B) := h
theorem Only.refl (B : Nat) (w : World) : Only B w w := ⟨rfl, rfl, rfl, Nat.le_refl _, fun _ _ _ => rfl⟩
theorem Only.size (h : Only B w w1) : w.heap.size ≤ w1.heap.size := h.out.size
theorem Only.block (h : Only B w w1) (k : Nat) (hk : k < w.heap.size) (hn : k ≠ B) : w1.heap[k]? = w.heap[k]? := h.out.block k hk (by simpa using hn)
theorem Only.trans (h : Only B w w1) (g : Only B w1 w2) : Only B w w2 := by
  refine ⟨g.out.os.trans h.out.os, g.out.tape.trans h.out.tape, g.out.output.trans h.out.output, Nat.le_trans h.size g.size, fun k hk hn => ?_⟩
  have hn' : k ≠ B := by simpa using hn
  exact (g.block k (by have := h.size; omega) hn').trans (h.block k hk hn')
theorem Only.below (h : Below w.heap.size w w1) (B : Nat) : Only B w w1 := ⟨h.os, h.tape, h.output, h.size, fun k hk _ => h.block k hk⟩
theorem Only.alloc (h : Only B w w1) (o : Obj) : Only B w (w1.alloc o) := h.trans (Only.below ((Below.refl _ _).alloc (Nat.le_refl _) o) B)
theorem Only.drew (h : Only B w w1) : Only B w w1.drew := h.trans (Only.below (Below.refl _ _).drew B)
theorem Only.setCell (h : Only B w w1) (j : Nat) (s : Option Nat) (u : Value) : Only B w (w1.setCell ⟨B, j, s⟩ u) :=
  h.trans ⟨rfl, rfl, rfl, by simp [World.setCell], fun k hk hn => Below.heap_setCell _ _ _ _ (by simpa using hn)⟩
/-- the one block is new -/
theorem Only.fresh (h : Only B w1 w2) (hb : Below w.heap.size w w1) (hB : w.heap.size ≤ B) : Below w.heap.size w w2 :=
  hb.trans ⟨h.out.os, h.out.tape, h.out.output, h.size, fun k hk => h.block k (by have := hb.size; omega) (by omega)⟩
theorem Only.cell (h : Only B w w1) {p : Addr} {u : Value} (hp : p.block ≠ B) (e : w.cell? p = some u) : w1.cell? p = some u := by
  rw [World.cell?_of_block (w := w) (h.block p.block (World.block_lt_of_cell? w p e) hp)]; exact e
theorem Lies.only {S : Nat → Prop} {v : Value} {l : List Tm} (h : Lies w S v l) (hS : ¬ S B) (hb : Only B w w1) : Lies w1 S v l :=
  h.still fun b hb' hlt => hb.block b hlt (fun e => hS (e ▸ hb'))
end

theorem RowAt.atO {w wr : World} {B : Nat} {ao : Option Addr} {b off len cap : Nat} {o h k : Nat → Int} {sv : Nat → Value} {ts : Nat → List Tm} {l : List Tm} (R : RowAt w (· ≠ B) ao b off len cap o h k sv ts l) (hb : Only B w wr) (i : Nat) (hi : i < len) :
    wr.cell? ⟨b, off + i * 4, none⟩ = some (.int .i64 (o i)) ∧ wr.cell? ⟨b, off + i * 4 + 1, none⟩ = some (.int .i64 (h i)) ∧ wr.cell? ⟨b, off + i * 4 + 2, none⟩ = some (.int .i64 (k i)) ∧ wr.cell? ⟨b, off + i * 4 + 3, none⟩ = some (sv i) ∧ Lies wr (· ≠ B) (sv i) (ts i) := by
  have hne : b ≠ B := R.hS (by omega)
  exact ⟨hb.cell hne (R.c0 i hi), hb.cell hne (R.c1 i hi), hb.cell hne (R.c2 i hi), hb.cell hne (R.c3 i hi), (R.sub i hi).only (fun h => h rfl) hb⟩

theorem Lies.isSlice {w : World} {S : Nat → Prop} {v : Value} {l : List Tm} (h : Lies w S v l) : ∃ a n m, v = .slice a n m := by
  cases h; exact ⟨_, _, _, rfl⟩

theorem two_cells {w : World} {B : Nat} {x y : Value} {t : TypeId} (h : w.heap[B]? = some (.cells #[x, y] t (0, 0))) :
    w.cell? ⟨B, 0, none⟩ = some x ∧ w.cell? ⟨B, 1, none⟩ = some y ∧ w.frozen? ⟨B, 0, none⟩ = false ∧ w.frozen? ⟨B, 1, none⟩ = false ∧ B < w.heap.size :=
  ⟨cell_in h 0 _ rfl, cell_in h 1 _ rfl, free_in h 0, free_in h 1, (Array.getElem?_eq_some_iff.1 h).1⟩
end Go.Proofs.Yteoheeddjddekaa

namespace Go.Proofs.Yteoheeddjddekaa
open Go.RowKit
namespace Tm

mutual
/-- each number becomes what f says of it (binders, operator, head, number) -/
def ren (f : Int → Int → Int → Int → Int) : Int → Tm → Tm
  | b, .mk o h n l => .mk o h (f b o h n) (renL f b o 0 l)
def renL (f : Int → Int → Int → Int → Int) : Int → Int → Nat → List Tm → List Tm
  | _, _, _, [] => []
  | b, o, i, t :: l => ren f (b + belowN o i) t :: renL f b o (i + 1) l
end

mutual
/-- what is noted on the way, node by node -/
def errT (g : Int → Int → Int → Int → Int → Int) : Int → Tm → Int → Int
  | b, .mk o h n l, e => errL g b o 0 l (g b o h n e)
def errL (g : Int → Int → Int → Int → Int → Int) : Int → Int → Nat → List Tm → Int → Int
  | _, _, _, [], e => e
  | b, o, i, t :: l, e => errL g b o (i + 1) l (errT g (b + belowN o i) t e)
end

section
variable (f : Int → Int → Int → Int → Int) (g : Int → Int → Int → Int → Int → Int) (b o : Int)
theorem renL_snoc : ∀ (l : List Tm) (i : Nat) (t : Tm), renL f b o i (l ++ [t]) = renL f b o i l ++ [ren f (b + belowN o (i + l.length)) t]
  | [], i, t => by simp [renL]
  | a :: l, i, t => by
    simp only [List.cons_append, renL, renL_snoc l (i + 1) t, List.length_cons]
    rw [show i + 1 + l.length = i + (l.length + 1) by omega]
theorem renL_length : ∀ (l : List Tm) (i : Nat), (renL f b o i l).length = l.length
  | [], _ => rfl
  | _ :: l, i => by simp [renL, renL_length l (i + 1)]
theorem errL_snoc : ∀ (l : List Tm) (i : Nat) (t : Tm) (e : Int), errL g b o i (l ++ [t]) e = errT g (b + belowN o (i + l.length)) t (errL g b o i l e)
  | [], i, t, e => by simp [errL]
  | a :: l, i, t, e => by
    simp only [List.cons_append, errL, errL_snoc l (i + 1) t, List.length_cons]
    rw [show i + 1 + l.length = i + (l.length + 1) by omega]
/-- the first k parts, renumbered; what has been noted behind them -/
def renTo (l : List Tm) (k : Nat) : List Tm := renL f b o 0 (l.take k)
def errTo (l : List Tm) (k : Nat) (e : Int) : Int := errL g b o 0 (l.take k) e
theorem renTo_zero (l : List Tm) : renTo f b o l 0 = [] := by simp [renTo, renL]
theorem errTo_zero (l : List Tm) (e : Int) : errTo g b o l 0 e = e := by simp [errTo, errL]
theorem renTo_length (l : List Tm) (k : Nat) (h : k ≤ l.length) : (renTo f b o l k).length = k := by
  rw [renTo, renL_length, List.length_take]; omega
theorem renTo_step (l : List Tm) (k : Nat) (h : k < l.length) : renTo f b o l (k + 1) = renTo f b o l k ++ [ren f (b + belowN o k) l[k]] := by
  rw [renTo, List.take_succ_eq_append_getElem h, renL_snoc, List.length_take, Nat.min_eq_left (by omega), Nat.zero_add]; rfl
theorem errTo_step (l : List Tm) (k : Nat) (h : k < l.length) (e : Int) : errTo g b o l (k + 1) e = errT g (b + belowN o k) l[k] (errTo g b o l k e) := by
  rw [errTo, List.take_succ_eq_append_getElem h, errL_snoc, List.length_take, Nat.min_eq_left (by omega), Nat.zero_add]; rfl
theorem renTo_all (l : List Tm) (k : Nat) (h : l.length ≤ k) : renTo f b o l k = renL f b o 0 l := by rw [renTo, List.take_of_length_le h]
theorem errTo_all (l : List Tm) (k : Nat) (h : l.length ≤ k) (e : Int) : errTo g b o l k e = errL g b o 0 l e := by rw [errTo, List.take_of_length_le h]
end

def zero : Tm := .mk 0 0 0 []
def nilV : Value := .slice none 0 0
end Tm

theorem flat_set : ∀ (ts : List Tm) (vs : List Value) (k : Nat) (t : Tm) (v : Value), k < ts.length → ts.length = vs.length →
    ((((flat ts vs).set (k * 4) (.int .i64 t.op)).set (k * 4 + 1) (.int .i64 t.hd)).set (k * 4 + 2) (.int .i64 t.n)).set (k * 4 + 3) v = flat (ts.set k t) (vs.set k v)
  | a :: ts, x :: vs, 0, t, v, _, _ => by simp [flat]
  | a :: ts, x :: vs, k + 1, t, v, h, hl => by
    have := flat_set ts vs k t v (by simpa using h) (by simpa using hl)
    have e : ∀ j, (k + 1) * 4 + j = (k * 4 + j) + 1 + 1 + 1 + 1 := fun j => by omega
    have e0 : (k + 1) * 4 = k * 4 + 1 + 1 + 1 + 1 := by omega
    simp only [flat, List.set_cons_succ]
    rw [e 1, e 2, e 3, e0]
    simp only [List.set_cons_succ]
    rw [this]
  | [], _, _, _, _, h, _ => by simp at h
  | _ :: _, [], _, _, _, _, hl => by simp at hl

theorem flat_zero : ∀ n : Nat, flat (List.replicate n Tm.zero) (List.replicate n Tm.nilV) = (List.replicate n [Value.int .i64 0, Value.int .i64 0, Value.int .i64 0, Value.slice none 0 0]).flatten
  | 0 => rfl
  | n + 1 => by
    have h := flat_zero n
    simp only [List.replicate_succ, flat, List.flatten_cons, h]
    rfl

theorem made_flat (n : Nat) : (madeCells #[.int .i64 0, .int .i64 0, .int .i64 0, .slice none 0 0] (n * 4)).toList = flat (List.replicate n Tm.zero) (List.replicate n Tm.nilV) := by
  apply List.ext_getElem?
  intro j
  by_cases hj : j < n * 4
  · have hq : j / 4 < n := by omega
    have h0 := flat_get (List.replicate n Tm.zero) (List.replicate n Tm.nilV) (j / 4) (by simpa using hq) (by simpa using hq)
    have e0 : (madeCells #[.int .i64 0, .int .i64 0, .int .i64 0, .slice none 0 0] (n * 4)).toList[j]? = some (#[Value.int .i64 0, Value.int .i64 0, Value.int .i64 0, Value.slice none 0 0][j % 4]!) := by
      unfold madeCells
      rw [Array.toList_map, List.getElem?_map, Array.toList_range, List.getElem?_range hj]
      rfl
    rw [e0]
    simp only [List.getElem_replicate, Tm.zero, Tm.nilV, Tm.op, Tm.hd, Tm.n] at h0
    have hm : j = j / 4 * 4 + j % 4 := by omega
    have hlt : j % 4 < 4 := by omega
    generalize j % 4 = r at hm hlt ⊢
    rw [hm]
    match r, hlt with
    | 0, _ => rw [Nat.add_zero]; exact h0.1.symm
    | 1, _ => exact h0.2.1.symm
    | 2, _ => exact h0.2.2.1.symm
    | 3, _ => exact h0.2.2.2.symm
  · rw [List.getElem?_eq_none (by rw [Array.length_toList, size_madeCells]; omega), List.getElem?_eq_none (by rw [flat_length _ _ (by simp)]; simp; omega)]

/-- Block G is a row of terms that the call made: it holds ts, their spines vs lie in other blocks from base on. -/
structure RowF (w : World) (base : Nat) (e : TypeId) (G : Nat) (ts : List Tm) (vs : List Value) : Prop where
  hb : base ≤ G
  hl : ts.length = vs.length
  hn : ts.length ≤ 9223372036854775807
  hg : w.heap[G]? = some (.cells (flat ts vs).toArray e (0, 0))
  sub : ∀ i (h : i < ts.length) (h' : i < vs.length), Lies w (fun b => base ≤ b ∧ b ≠ G) vs[i] ts[i].args
  fit : ∀ t ∈ ts, t.fit

section
variable {w w' : World} {base : Nat} {e : TypeId} {G : Nat} {ts : List Tm} {vs : List Value}
theorem RowF.keep (h : RowF w base e G ts vs) (hb : ∀ b, base ≤ b → b < w.heap.size → w'.heap[b]? = w.heap[b]?) : RowF w' base e G ts vs :=
  ⟨h.hb, h.hl, h.hn, (hb G h.hb (Array.getElem?_eq_some_iff.1 h.hg).1).trans h.hg, fun i hi hi' => (h.sub i hi hi').still fun b hS hlt => hb b hS.1 hlt, h.fit⟩
theorem RowF.below (h : RowF w base e G ts vs) (hb : Below w.heap.size w w') : RowF w' base e G ts vs := h.keep fun b _ hlt => hb.block b hlt
/-- A row that was just made. -/
theorem RowF.made {n g : Nat} (h : w.ownsRow base e 4 (.slice (some ⟨g, 0, none⟩) n n) n (madeCells #[.int .i64 0, .int .i64 0, .int .i64 0, .slice none 0 0] (n * 4)).toList) : RowF w base e g (List.replicate n Tm.zero) (List.replicate n Tm.nilV) := by
  have hm := made_flat n
  rcases h.2 with ⟨h0, _⟩ | ⟨g', cap, cur, hv, hb, hh, hle, hmx, hsz, htk⟩
  · cases h0
  · cases hv
    rw [List.take_of_length_le (by rw [Array.length_toList, hsz]; omega), hm] at htk
    refine ⟨hb, by simp, by unfold maxLen at hmx; simpa using hmx, ?_, fun i h h' => ?_, fun t ht => ?_⟩
    · rw [hh, ← htk]
    · simp only [List.getElem_replicate]
      exact Lies.nil _ _
    · rw [(List.mem_replicate.1 ht).2]
      exact ⟨by simp [Tm.zero, Tm.op], by simp [Tm.zero, Tm.hd], by simp [Tm.zero, Tm.n]⟩
theorem RowF.lt (h : RowF w base e G ts vs) : G < w.heap.size := (Array.getElem?_eq_some_iff.1 h.hg).1
theorem RowF.cell (h : RowF w base e G ts vs) (j : Nat) (u : Value) (hu : (flat ts vs)[j]? = some u) : w.cell? ⟨G, j, none⟩ = some u := cell_in h.hg j u (by simpa using hu)
theorem RowF.cells (h : RowF w base e G ts vs) (k : Nat) (hk : k < ts.length) :
    (∃ u, w.cell? ⟨G, k * 4, none⟩ = some u) ∧ (∃ u, w.cell? ⟨G, k * 4 + 1, none⟩ = some u) ∧ (∃ u, w.cell? ⟨G, k * 4 + 2, none⟩ = some u) ∧ (∃ u, w.cell? ⟨G, k * 4 + 3, none⟩ = some u) := by
  have h0 := flat_get ts vs k hk (by rw [← h.hl]; exact hk)
  exact ⟨⟨_, h.cell _ _ h0.1⟩, ⟨_, h.cell _ _ h0.2.1⟩, ⟨_, h.cell _ _ h0.2.2.1⟩, ⟨_, h.cell _ _ h0.2.2.2⟩⟩
theorem RowF.free (h : RowF w base e G ts vs) (j : Nat) : w.frozen? ⟨G, j, none⟩ = false := free_in h.hg j
/-- One term is stored. -/
theorem RowF.store (h : RowF w base e G ts vs) (k : Nat) (hk : k < ts.length) (t : Tm) (v : Value) (hv : Lies w (fun b => base ≤ b ∧ b ≠ G) v t.args) (hf : t.fit) :
    RowF ((((w.setCell ⟨G, k * 4, none⟩ (.int .i64 t.op)).setCell ⟨G, k * 4 + 1, none⟩ (.int .i64 t.hd)).setCell ⟨G, k * 4 + 2, none⟩ (.int .i64 t.n)).setCell ⟨G, k * 4 + 3, none⟩ v) base e G (ts.set k t) (vs.set k v) := by
  have g1 := heap_set_at (j := k * 4) (.int .i64 t.op) h.hg
  have g2 := heap_set_at (j := k * 4 + 1) (.int .i64 t.hd) g1
  have g3 := heap_set_at (j := k * 4 + 2) (.int .i64 t.n) g2
  have g4 := heap_set_at (j := k * 4 + 3) v g3
  have hfl := flat_set ts vs k t v hk h.hl
  simp only [List.setIfInBounds_toArray] at g4
  rw [hfl] at g4
  have other : ∀ b, b ≠ G → ((((w.setCell ⟨G, k * 4, none⟩ (.int .i64 t.op)).setCell ⟨G, k * 4 + 1, none⟩ (.int .i64 t.hd)).setCell ⟨G, k * 4 + 2, none⟩ (.int .i64 t.n)).setCell ⟨G, k * 4 + 3, none⟩ v).heap[b]? = w.heap[b]? := fun b hb => by
    rw [Below.heap_setCell _ _ _ _ hb, Below.heap_setCell _ _ _ _ hb, Below.heap_setCell _ _ _ _ hb, Below.heap_setCell _ _ _ _ hb]
  refine ⟨h.hb, by simp [h.hl], by simpa using h.hn, g4, fun i hi hi' => ?_, fun x hx => ?_⟩
  · by_cases hik : k = i
    · subst hik
      simp only [List.getElem_set_self]
      exact hv.still fun b hS _ => other b hS.2
    · rw [List.getElem_set_ne hik, List.getElem_set_ne hik]
      exact (h.sub i (by simpa using hi) (by simpa using hi')).still fun b hS _ => other b hS.2
  · rcases List.mem_or_eq_of_mem_set hx with hx | rfl
    · exact h.fit x hx
    · exact hf
/-- What was filled lies there. -/
theorem RowF.lies (h : RowF w base e G ts vs) : Lies w (base ≤ ·) (.slice (some ⟨G, 0, none⟩) ts.length ts.length) ts := by
  have hc : ∀ j u, (flat ts vs)[j]? = some u → w.cell? ⟨G, 0 + j, none⟩ = some u := fun j u hu => by rw [Nat.zero_add]; exact h.cell j u hu
  have hts : ts = (List.range ts.length).map fun i => Tm.mk (ts[i]?.getD (.mk 0 0 0 [])).op (ts[i]?.getD (.mk 0 0 0 [])).hd (ts[i]?.getD (.mk 0 0 0 [])).n (ts[i]?.getD (.mk 0 0 0 [])).args := by
    apply List.ext_getElem
    · simp
    · intro i h1 h2
      simp only [List.getElem_map, List.getElem_range, List.getElem?_eq_getElem h1, Option.getD_some]
      cases ts[i]; rfl
  have hget : ∀ i (h : i < ts.length), ts[i]?.getD (.mk 0 0 0 []) = ts[i] := fun i h => by rw [List.getElem?_eq_getElem h]; rfl
  have hvs : ∀ i (h : i < vs.length), vs[i]?.getD (.slice none 0 0) = vs[i] := fun i h => by rw [List.getElem?_eq_getElem h]; rfl
  have hl := h.hl
  have hf := fun i (hi : i < ts.length) => flat_get ts vs i hi (by omega)
  have row := Lies.row (w := w) (S := (base ≤ ·)) (some ⟨G, 0, none⟩) G 0 ts.length ts.length (fun i => (ts[i]?.getD (.mk 0 0 0 [])).op) (fun i => (ts[i]?.getD (.mk 0 0 0 [])).hd) (fun i => (ts[i]?.getD (.mk 0 0 0 [])).n)
    (fun i => vs[i]?.getD (.slice none 0 0)) (fun i => (ts[i]?.getD (.mk 0 0 0 [])).args) (fun _ => rfl) (fun _ => h.hb) (Nat.le_refl _) h.hn
    (fun i hi => by rw [hget i hi]; exact hc _ _ (hf i hi).1) (fun i hi => by rw [hget i hi]; have := hc _ _ (hf i hi).2.1; rwa [← Nat.add_assoc] at this)
    (fun i hi => by rw [hget i hi]; have := hc _ _ (hf i hi).2.2.1; rwa [← Nat.add_assoc] at this) (fun i hi => by rw [hvs i (by omega)]; have := hc _ _ (hf i hi).2.2.2; rwa [← Nat.add_assoc] at this)
    (fun i hi => by rw [hget i hi]; exact (h.fit _ (List.getElem_mem hi)).1) (fun i hi => by rw [hget i hi]; exact (h.fit _ (List.getElem_mem hi)).2.1) (fun i hi => by rw [hget i hi]; exact (h.fit _ (List.getElem_mem hi)).2.2)
    (fun i hi => by rw [hget i hi, hvs i (by omega)]; exact (h.sub i hi (by omega)).more fun b _ hS => hS.1)
  rw [← hts] at row
  exact row
end
end Go.Proofs.Yteoheeddjddekaa

namespace Go
open Go.RowKit

section
variable {P : Program} (w : World)
theorem run_append_nil_src (base : Nat) (t ty e : TypeId) (i : TypeInfo) (size : Nat) (ht : P.underlying t = some (.slice e)) (hi : P.info? e = some i)
    (v : Value) (n c : Nat) (xs : List Value) (hown : w.ownsRow base e size v n xs) :
    (Builtin.append_ #[t, t] ty #[v, .slice none 0 c]).run P w = .ok v w := by
  rcases hown.2 with ⟨rfl, rfl⟩ | ⟨g, cap, cur, rfl, _, _, hnc, _⟩
  · simp [Builtin.append_, run_underlying ht, sizeOf, typeInfo, hi, Builtin.lenOf, Builtin.firstCells]
  · simp [Builtin.append_, run_underlying ht, sizeOf, typeInfo, hi, Builtin.lenOf, Builtin.firstCells, hnc, storeCells]

/-- append to a row of the call's own, whatever is appended: nothing, from a nil slice, or some. -/
theorem run_append_any (t ty : TypeId) (base : Nat) (e : TypeId) (i : TypeInfo) (z : Value) (size bytes : Nat) (ht : P.underlying t = some (.slice e)) (hi : P.info? e = some i) (hz : i.zero = some z)
    (hsize : i.size = size) (hby : i.bytes = bytes) (hzs : z.cells.size = size) (hsz : 0 < size)
    (g0 n cap0 : Nat) (xs : List Value) (hown : w.ownsRow base e size (.slice (some ⟨g0, 0, none⟩) n cap0) n xs)
    (ao : Option Addr) (m c : Nat) (news : List Value) (hl : news.length = m * size) (hao : ao = none → m = 0) (hnews : ∀ ad, ao = some ad → ∀ j u, news[j]? = some u → w.cell? (ad.add j) = some u) (h1 : ∀ u ∈ news, u.oneCell' = true)
    (h63 : n + m ≤ maxLen) (hbytes : (n + m) * bytes ≤ 140737488355328) (hbase : base ≤ w.heap.size) :
    ∃ g cap w', (Builtin.append_ #[t, t] ty #[.slice (some ⟨g0, 0, none⟩) n cap0, .slice ao m c]).run P w = .ok (.slice (some ⟨g, 0, none⟩) (n + m) cap) w' ∧
      w'.ownsRow base e size (.slice (some ⟨g, 0, none⟩) (n + m) cap) (n + m) (xs ++ news) ∧ w.grownBy w' (some g0) ∧ (g = g0 ∨ g = w.heap.size) ∧ g < w'.heap.size := by
  have hlt0 : g0 < w.heap.size := by
    rcases hown.2 with ⟨h, _⟩ | ⟨g, cap, cur, hv, _, hg, _⟩
    · cases h
    · cases hv; exact (Array.getElem?_eq_some_iff.1 hg).1
  have hcap : n ≤ cap0 := by
    rcases hown.2 with ⟨h, _⟩ | ⟨g, cap, cur, hv, _, hg, hle, _⟩
    · cases h
    · cases hv; exact hle
  cases ao with
  | none =>
    obtain rfl := hao rfl
    obtain rfl : news = [] := List.eq_nil_of_length_eq_zero (by simpa using hl)
    exact ⟨g0, cap0, w, run_append_nil_src w base t ty e i size ht hi _ n c xs hown, by simpa using hown, World.grownBy.refl _ _, .inl rfl, hlt0⟩
  | some ad =>
    by_cases hm : 0 < m
    · obtain ⟨g, cap, w', hr, h2, h3, h4, h5⟩ := run_append_lies (P := P) w t ty base e i z size bytes ht hi hz hsize hby hzs hsz _ n xs hown ad m c news hl (hnews ad rfl) h1 hm h63 hbytes hbase w.heap.size rfl
      exact ⟨g, cap, w', hr, h2, h3, by rcases h4 with h4 | h4
                                        · exact .inl (by simpa [Value.ownBlock] using h4.symm)
                                        · exact .inr h4, h5⟩
    · obtain rfl : m = 0 := by omega
      obtain ⟨w', hr, h2, h3⟩ := run_append_fits (P := P) w base t ty e i size ht hi hsize g0 n cap0 xs hown ad 0 c news hl (hnews ad rfl) h1 (by omega)
      exact ⟨g0, cap0, w', hr, h2, h3, .inl rfl, Nat.lt_of_lt_of_le hlt0 h3.size⟩
end

theorem step_append_any {P : Program} {w : World} {ops : Array Oper} {o : Oper} {a : Act} {K : Act → World → Prop} {Q : Exit → Act → World → Prop} {E : Prop} (hgd : o.guard = none) (s x : Operand) (t : TypeId)
    (ho : o.op = .call { callee := .builtin .append, args := #[s, x], argTypes := #[t, t] })
    (base : Nat) (e : TypeId) (i : TypeInfo) (z : Value) (size bytes : Nat) (ht : P.underlying t = some (.slice e)) (hi : P.info? e = some i) (hz : i.zero = some z)
    (hsize : i.size = size) (hby : i.bytes = bytes) (hzs : z.cells.size = size) (hsz : 0 < size)
    (g0 n cap0 : Nat) (xs : List Value) (hs : a.eval s = .slice (some ⟨g0, 0, none⟩) n cap0) (hown : w.ownsRow base e size (.slice (some ⟨g0, 0, none⟩) n cap0) n xs)
    (ao : Option Addr) (m c : Nat) (news : List Value) (hx : a.eval x = .slice ao m c) (hl : news.length = m * size) (hao : ao = none → m = 0) (hnews : ∀ ad, ao = some ad → ∀ j u, news[j]? = some u → w.cell? (ad.add j) = some u) (h1 : ∀ u ∈ news, u.oneCell' = true)
    (h63 : n + m ≤ maxLen) (hbytes : (n + m) * bytes ≤ 140737488355328) (hbase : base ≤ w.heap.size)
    (h : ∀ g cap w', w'.ownsRow base e size (.slice (some ⟨g, 0, none⟩) (n + m) cap) (n + m) (xs ++ news) → w.grownBy w' (some g0) → (g = g0 ∨ g = w.heap.size) → g < w'.heap.size → K (a.put o.dst (.slice (some ⟨g, 0, none⟩) (n + m) cap)) w') :
    if Region.wanted o (yielded ops a.tmps) = true then Oper.wp P o a w K Q else E := by
  have hw : Region.wanted o (yielded ops a.tmps) = true := by simp [Region.wanted, hgd]
  rw [if_pos hw]
  obtain ⟨g, cap, w', hr, h2, h3, h4, h5⟩ := run_append_any (P := P) w t o.type base e i z size bytes ht hi hz hsize hby hzs hsz g0 n cap0 xs hown ao m c news hl hao hnews h1 h63 hbytes hbase
  unfold Oper.wp execOp
  simp only [ho, resolve, invoke, builtin, Sem.run_bind, Sem.run_pure, Result.andThen_ok, List.map_toArray, List.map_cons, List.map_nil, hs, hx, hr]
  exact h g cap w' h2 h3 h4 h5

theorem wpList_append_any {P : Program} {w : World} {ops : Array Oper} {rest : List Oper} {o : Oper} {a : Act} {Q : Exit → Act → World → Prop} (hgd : o.guard = none) (s x : Operand) (t : TypeId)
    (ho : o.op = .call { callee := .builtin .append, args := #[s, x], argTypes := #[t, t] })
    (base : Nat) (e : TypeId) (i : TypeInfo) (z : Value) (size bytes : Nat) (ht : P.underlying t = some (.slice e)) (hi : P.info? e = some i) (hz : i.zero = some z)
    (hsize : i.size = size) (hby : i.bytes = bytes) (hzs : z.cells.size = size) (hsz : 0 < size)
    (g0 n cap0 : Nat) (xs : List Value) (hs : a.eval s = .slice (some ⟨g0, 0, none⟩) n cap0) (hown : w.ownsRow base e size (.slice (some ⟨g0, 0, none⟩) n cap0) n xs)
    (ao : Option Addr) (m c : Nat) (news : List Value) (hx : a.eval x = .slice ao m c) (hl : news.length = m * size) (hao : ao = none → m = 0) (hnews : ∀ ad, ao = some ad → ∀ j u, news[j]? = some u → w.cell? (ad.add j) = some u) (h1 : ∀ u ∈ news, u.oneCell' = true)
    (h63 : n + m ≤ maxLen) (hbytes : (n + m) * bytes ≤ 140737488355328) (hbase : base ≤ w.heap.size)
    (h : ∀ g cap w', w'.ownsRow base e size (.slice (some ⟨g, 0, none⟩) (n + m) cap) (n + m) (xs ++ news) → w.grownBy w' (some g0) → (g = g0 ∨ g = w.heap.size) → g < w'.heap.size → wpList P ops Q rest (a.put o.dst (.slice (some ⟨g, 0, none⟩) (n + m) cap)) w') : wpList P ops Q (o :: rest) a w := by
  refine wpList_plain hgd fun K hK => ?_
  obtain ⟨g, cap, w', hr, h2, h3, h4, h5⟩ := run_append_any (P := P) w t o.type base e i z size bytes ht hi hz hsize hby hzs hsz g0 n cap0 xs hown ao m c news hl hao hnews h1 h63 hbytes hbase
  unfold Oper.wp execOp
  simp only [ho, resolve, invoke, builtin, Sem.run_bind, Sem.run_pure, Result.andThen_ok, List.map_toArray, List.map_cons, List.map_nil, hs, hx, hr]
  exact hK _ _ (h g cap w' h2 h3 h4 h5)
end Go

namespace Go.Proofs.Yteoheeddjddekaa
open Go.RowKit

theorem flat_append : ∀ (ts ts' : List Tm) (vs vs' : List Value), ts.length = vs.length → flat (ts ++ ts') (vs ++ vs') = flat ts vs ++ flat ts' vs'
  | [], _, [], _, _ => rfl
  | t :: ts, ts', v :: vs, vs', h => by simp only [List.cons_append, flat, flat_append ts ts' vs vs' (by simpa using h)]
  | [], _, _ :: _, _, h => by simp at h
  | _ :: _, _, [], _, h => by simp at h

/-- the cells of a row of terms, read as one list -/
theorem flat_at {w : World} {b off : Nat} (ts : List Tm) (vs : List Value) (hl : ts.length = vs.length)
    (h : ∀ i (h : i < ts.length) (h' : i < vs.length), w.cell? ⟨b, off + i * 4, none⟩ = some (.int .i64 ts[i].op) ∧ w.cell? ⟨b, off + i * 4 + 1, none⟩ = some (.int .i64 ts[i].hd) ∧ w.cell? ⟨b, off + i * 4 + 2, none⟩ = some (.int .i64 ts[i].n) ∧ w.cell? ⟨b, off + i * 4 + 3, none⟩ = some vs[i]) :
    ∀ j u, (flat ts vs)[j]? = some u → w.cell? ((⟨b, off, none⟩ : Addr).add j) = some u := by
  intro j u hu
  have hj : j < ts.length * 4 := by rw [← flat_length ts vs hl]; exact (List.getElem?_eq_some_iff.1 hu).1
  have hq : j / 4 < ts.length := by omega
  have h0 := h (j / 4) hq (by omega)
  have hf := flat_get ts vs (j / 4) hq (by omega)
  have hm : j = j / 4 * 4 + j % 4 := by omega
  have hlt : j % 4 < 4 := by omega
  rw [Addr.add_lit]
  generalize j % 4 = r at hm hlt
  rw [hm] at hu ⊢
  match r, hlt with
  | 0, _ => rw [Nat.add_zero] at hu ⊢; rw [hf.1] at hu; rw [← hu]; exact h0.1
  | 1, _ => rw [hf.2.1] at hu; rw [← hu]; exact h0.2.1
  | 2, _ => rw [hf.2.2.1] at hu; rw [← hu]; exact h0.2.2.1
  | 3, _ => rw [hf.2.2.2] at hu; rw [← hu]; exact h0.2.2.2

theorem flat_one : ∀ (ts : List Tm) (vs : List Value), (∀ v ∈ vs, v.oneCell' = true) → ∀ u ∈ flat ts vs, u.oneCell' = true
  | t :: ts, v :: vs, h, u, hu => by
    simp only [flat, List.mem_cons] at hu
    rcases hu with rfl | rfl | rfl | rfl | hu
    · rfl
    · rfl
    · rfl
    · exact h _ (by simp)
    · exact flat_one ts vs (fun v hv => h v (by simp [hv])) u hu
  | [], _, _, u, hu => by simp [flat] at hu
  | _ :: _, [], _, u, hu => by simp [flat] at hu

/-- A stack of terms in a row of the call's own (block g), whose spines lie in blocks of S, all older. -/
structure Stk (w : World) (base : Nat) (e : TypeId) (g n cap : Nat) (ts : List Tm) (vs : List Value) : Prop where
  len : ts.length = n
  hl : ts.length = vs.length
  own : w.ownsRow base e 4 (.slice (some ⟨g, 0, none⟩) n cap) n (flat ts vs)
  sub : ∀ i (h : i < ts.length) (h' : i < vs.length), Lies w (· < base) vs[i] ts[i].args
  fit : ∀ t ∈ ts, t.fit

section
variable {w w' : World} {base : Nat} {e : TypeId} {g n cap : Nat} {ts : List Tm} {vs : List Value}
theorem Stk.block (H : Stk w base e g n cap ts vs) : base ≤ g ∧ g < w.heap.size := H.own.lt g rfl
theorem Stk.keep (H : Stk w base e g n cap ts vs) (hg : w'.heap[g]? = w.heap[g]?) (hb : ∀ b, b < base → b < w.heap.size → w'.heap[b]? = w.heap[b]?) : Stk w' base e g n cap ts vs := by
  refine ⟨H.len, H.hl, ⟨H.own.1, ?_⟩, fun i h h' => (H.sub i h h').still hb, H.fit⟩
  rcases H.own.2 with hn | ⟨g', cap', cur, hv, hb', hh, rest⟩
  · exact .inl hn
  · have : g' = g := by simpa [Value.ownBlock] using (congrArg Value.ownBlock hv).symm
    subst this
    exact .inr ⟨g', cap', cur, hv, hb', hg.trans hh, rest⟩
theorem Stk.below (H : Stk w base e g n cap ts vs) (hb : Below w.heap.size w w') : Stk w' base e g n cap ts vs := H.keep (hb.block _ H.block.2) fun b _ h => hb.block b h
theorem Stk.other {k : Nat} (H : Stk w base e g n cap ts vs) (hg : w.grownBy w' (some k)) (hk : k ≠ g) (hkb : base ≤ k) : Stk w' base e g n cap ts vs :=
  H.keep (hg.block _ H.block.2 (by simpa using (Ne.symm hk))) fun b h1 h2 => hg.block b h2 (by simp; omega)
/-- the last one, taken off -/
theorem Stk.pop {t : Tm} {v : Value} (H : Stk w base e g (n + 1) cap (ts ++ [t]) (vs ++ [v])) : Stk w base e g n cap ts vs := by
  have hlen := H.len
  have hl := H.hl
  simp only [List.length_append, List.length_singleton] at hlen hl
  have hl' : ts.length = vs.length := by omega
  refine ⟨by omega, hl', ⟨by rw [flat_length _ _ hl']; omega, ?_⟩, fun i h h' => ?_, fun t ht => H.fit t (by simp [ht])⟩
  · rcases H.own.2 with ⟨h, _⟩ | ⟨g', cap', cur, hv, hb', hh, hle, hmx, hsz, htk⟩
    · cases h
    · cases hv
      refine .inr ⟨g, cap, cur, rfl, hb', hh, by omega, hmx, hsz, ?_⟩
      rw [flat_append _ _ _ _ hl'] at htk
      have h4 : (flat ts vs).length = n * 4 := by rw [flat_length _ _ hl']; omega
      have := congrArg (List.take (n * 4)) htk
      rwa [List.take_take, Nat.min_eq_left (by omega), List.take_left' h4] at this
  · have := H.sub i (by simp; omega) (by simp; omega)
    rwa [List.getElem_append_left h, List.getElem_append_left h'] at this
/-- the cells of the last one -/
theorem Stk.top {t : Tm} {v : Value} (H : Stk w base e g (n + 1) cap (ts ++ [t]) (vs ++ [v])) :
    w.cell? ⟨g, n * 4, none⟩ = some (.int .i64 t.op) ∧ w.cell? ⟨g, n * 4 + 1, none⟩ = some (.int .i64 t.hd) ∧ w.cell? ⟨g, n * 4 + 2, none⟩ = some (.int .i64 t.n) ∧ w.cell? ⟨g, n * 4 + 3, none⟩ = some v ∧ Lies w (· < base) v t.args ∧ t.fit ∧ n + 1 ≤ cap ∧ cap ≤ 9223372036854775807 := by
  have hlen := H.len
  have hl := H.hl
  simp only [List.length_append, List.length_singleton] at hlen hl
  have hn : ts.length = n := by omega
  have hv : vs.length = n := by omega
  have hcells := @World.ownsRow.cells w base e 4 _ (n + 1) _ H.own g rfl
  have hf := flat_get (ts ++ [t]) (vs ++ [v]) n (by simp [hn]) (by simp [hv])
  have e1 : (ts ++ [t])[n]'(by simp [hn]) = t := by simp [List.getElem_append_right, hn]
  have e2 : (vs ++ [v])[n]'(by simp [hv]) = v := by simp [List.getElem_append_right, hv]
  rw [e1, e2] at hf
  have hs := H.sub n (by simp [hn]) (by simp [hv])
  rw [e1, e2] at hs
  have go : ∀ j u, (flat (ts ++ [t]) (vs ++ [v]))[j]? = some u → w.cell? ⟨g, j, none⟩ = some u := fun j u hu => by
    have := hcells j u hu
    rw [Addr.add_lit, Nat.zero_add] at this
    exact this
  refine ⟨go _ _ hf.1, go _ _ hf.2.1, go _ _ hf.2.2.1, go _ _ hf.2.2.2, hs, H.fit t (by simp), ?_⟩
  rcases H.own.2 with ⟨h, _⟩ | ⟨g', cap', cur, hv', hb', hh, hle, hmx, _⟩
  · cases h
  · cases hv'; exact ⟨hle, by unfold maxLen at hmx; exact hmx⟩
/-- some more, appended -/
theorem Stk.push {ts' : List Tm} {vs' : List Value} {g' cap' m : Nat} (H : Stk w base e g n cap ts vs) (hl : ts'.length = vs'.length) (hm : ts'.length = m) (hs : ∀ i (h : i < ts'.length) (h' : i < vs'.length), Lies w (· < base) vs'[i] ts'[i].args) (hf : ∀ t ∈ ts', t.fit)
    (hown : w'.ownsRow base e 4 (.slice (some ⟨g', 0, none⟩) (n + m) cap') (n + m) (flat ts vs ++ flat ts' vs')) (hgrow : w.grownBy w' (some g)) : Stk w' base e g' (n + m) cap' (ts ++ ts') (vs ++ vs') := by
  have hb : ∀ b, b < base → b < w.heap.size → w'.heap[b]? = w.heap[b]? := fun b h1 h2 => hgrow.block b h2 (by have := H.block; simp; omega)
  refine ⟨by simp [H.len, hm], by simp [H.hl, hl], by rw [flat_append _ _ _ _ H.hl]; exact hown, fun i h h' => ?_, fun t ht => ?_⟩
  · by_cases hi : i < ts.length
    · rw [List.getElem_append_left hi, List.getElem_append_left (by rw [← H.hl]; exact hi)]
      exact (H.sub i hi (by rw [← H.hl]; exact hi)).still hb
    · have hvl := H.hl
      rw [List.getElem_append_right (as := ts) (by omega), List.getElem_append_right (as := vs) (by omega)]
      have := hs (i - ts.length) (by simp at h; omega) (by simp at h'; have := H.hl; omega)
      have e : i - vs.length = i - ts.length := by rw [H.hl]
      simp only [e]
      exact this.still hb
  · rcases List.mem_append.1 ht with h | h
    · exact H.fit t h
    · exact hf t h
theorem Stk.one {o h n : Int} {v : Value} {l : List Tm} {b : Nat} (hb : base ≤ b) (hh : w.heap[b]? = some (.cells #[.int .i64 o, .int .i64 h, .int .i64 n, v] e (0, 0))) (hv : Lies w (· < base) v l) (hf : (Tm.mk o h n l).fit) : Stk w base e b 1 1 [.mk o h n l] [v] := by
  refine ⟨rfl, rfl, ⟨rfl, .inr ⟨b, 1, _, rfl, hb, hh, Nat.le_refl _, by unfold maxLen; omega, rfl, rfl⟩⟩, ?_, fun t ht => by simp at ht; rw [ht]; exact hf⟩
  intro i h h'
  obtain rfl : i = 0 := by simpa using h
  exact hv
end
end Go.Proofs.Yteoheeddjddekaa
