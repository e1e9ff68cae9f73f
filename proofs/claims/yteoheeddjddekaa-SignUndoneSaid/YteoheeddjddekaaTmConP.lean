/- What is in a term, as plain functions: the numbers that a rule finds at its nodes; ascending lists without repeats. Nothing of the program is imported. -/
import Derived.Test.YteoheeddjddekaaTmGa
import Derived.Maps.OwnSet
import Derived.Lib.SlKeysI
namespace Go.Proofs.Yteoheeddjddekaa
open Go.RowKit
namespace Tm

mutual
/-- what a rule finds (binders, operator, head, number), in the order of the text -/
def hds (f : Int → Int → Int → Int → Option Int) : Int → Tm → List Int
  | b, .mk o h n l => (f b o h n).toList ++ hdsL f b o 0 l
def hdsL (f : Int → Int → Int → Int → Option Int) : Int → Int → Nat → List Tm → List Int
  | _, _, _, [] => []
  | b, o, i, t :: l => hds f (b + belowN o i) t ++ hdsL f b o (i + 1) l
end

section
variable (f : Int → Int → Int → Int → Option Int) (b o : Int)
theorem hdsL_snoc : ∀ (l : List Tm) (i : Nat) (t : Tm), hdsL f b o i (l ++ [t]) = hdsL f b o i l ++ hds f (b + belowN o (i + l.length)) t
  | [], i, t => by simp [hdsL]
  | a :: l, i, t => by
    simp only [List.cons_append, hdsL, hdsL_snoc l (i + 1) t, List.length_cons, List.append_assoc]
    rw [show i + 1 + l.length = i + (l.length + 1) by omega]
/-- what the rule finds at the node and in the first k parts -/
def hdsTo (h n : Int) (l : List Tm) (k : Nat) : List Int := (f b o h n).toList ++ hdsL f b o 0 (l.take k)
theorem hdsTo_zero (h n : Int) (l : List Tm) : hdsTo f b o h n l 0 = (f b o h n).toList := by simp [hdsTo, hdsL]
theorem hdsTo_step (h n : Int) (l : List Tm) (k : Nat) (hk : k < l.length) : hdsTo f b o h n l (k + 1) = hdsTo f b o h n l k ++ hds f (b + belowN o k) l[k] := by
  rw [hdsTo, List.take_succ_eq_append_getElem hk, hdsL_snoc, List.length_take, Nat.min_eq_left (by omega), Nat.zero_add, ← List.append_assoc]; rfl
theorem hdsTo_all (h n : Int) (l : List Tm) (k : Nat) (hk : l.length ≤ k) : hdsTo f b o h n l k = hds f b (.mk o h n l) := by
  rw [hdsTo, List.take_of_length_le hk, hds]
end

mutual
theorem hds_length (f : Int → Int → Int → Int → Option Int) : ∀ (b : Int) (t : Tm), (hds f b t).length ≤ sz t
  | b, .mk o h n l => by
    have := hdsL_length f b o 0 l
    have h1 : (f b o h n).toList.length ≤ 1 := by cases f b o h n <;> simp
    simp only [hds, List.length_append, sz]; omega
theorem hdsL_length (f : Int → Int → Int → Int → Option Int) : ∀ (b o : Int) (i : Nat) (l : List Tm), (hdsL f b o i l).length ≤ szL l
  | _, _, _, [] => by simp [hdsL]
  | b, o, i, t :: l => by
    have h1 := hds_length f (b + belowN o i) t
    have h2 := hdsL_length f b o (i + 1) l
    simp only [hdsL, List.length_append, szL]; omega
end
theorem hdsTo_length (f : Int → Int → Int → Int → Option Int) (b o h n : Int) (l : List Tm) (k : Nat) : (hdsTo f b o h n l k).length ≤ 1 + szL (l.take k) := by
  have := hdsL_length f b o 0 (l.take k)
  have h1 : (f b o h n).toList.length ≤ 1 := by cases f b o h n <;> simp
  simp only [hdsTo, List.length_append]; omega

/-- an ascending list with one more number, unless it is there -/
def ins : List Int → Int → List Int
  | [], n => [n]
  | a :: l, n => if a < n then a :: ins l n else if a = n then a :: l else n :: a :: l

theorem mem_ins (n x : Int) : ∀ l : List Int, x ∈ ins l n ↔ x ∈ l ∨ x = n
  | [] => by simp [ins]
  | a :: l => by
    unfold ins
    by_cases h1 : a < n
    · rw [if_pos h1, List.mem_cons, mem_ins n x l, List.mem_cons, or_assoc]
    · rw [if_neg h1]
      by_cases h2 : a = n
      · rw [if_pos h2]; subst h2; simp only [List.mem_cons]; constructor
        · exact fun h => .inl h
        · rintro (h | h); exact h; exact .inl h
      · rw [if_neg h2]; simp only [List.mem_cons]; constructor
        · rintro (h | h); exact .inr h; exact .inl h
        · rintro (h | h); exact .inr h; exact .inl h
theorem asc_ins (n : Int) : ∀ l : List Int, l.Pairwise (· < ·) → (ins l n).Pairwise (· < ·)
  | [], _ => by simp [ins]
  | a :: l, h => by
    rw [List.pairwise_cons] at h
    unfold ins
    by_cases h1 : a < n
    · rw [if_pos h1, List.pairwise_cons]
      refine ⟨fun x hx => ?_, asc_ins n l h.2⟩
      rcases (mem_ins n x l).1 hx with hx | hx
      · exact h.1 x hx
      · omega
    · rw [if_neg h1]
      by_cases h2 : a = n
      · rw [if_pos h2, List.pairwise_cons]; exact h
      · rw [if_neg h2, List.pairwise_cons, List.pairwise_cons]
        refine ⟨fun x hx => ?_, h⟩
        rcases List.mem_cons.1 hx with rfl | hx
        · omega
        · have := h.1 x hx; omega
theorem ins_length (n : Int) : ∀ l : List Int, (ins l n).length ≤ l.length + 1
  | [] => by simp [ins]
  | a :: l => by
    have := ins_length n l
    unfold ins
    split
    · simp; omega
    · split <;> simp
/-- all of a list, put in one by one -/
def insL (l xs : List Int) : List Int := xs.foldl ins l
theorem insL_append (l xs ys : List Int) : insL l (xs ++ ys) = insL (insL l xs) ys := by simp [insL, List.foldl_append]
theorem mem_insL (x : Int) : ∀ (xs l : List Int), x ∈ insL l xs ↔ x ∈ l ∨ x ∈ xs
  | [], l => by simp [insL]
  | a :: xs, l => by
    have := mem_insL x xs (ins l a)
    simp only [insL, List.foldl_cons, List.mem_cons] at this ⊢
    rw [this, mem_ins, or_assoc]
theorem asc_insL : ∀ (xs l : List Int), l.Pairwise (· < ·) → (insL l xs).Pairwise (· < ·)
  | [], _, h => h
  | a :: xs, l, h => asc_insL xs (ins l a) (asc_ins a l h)
theorem insL_length : ∀ (xs l : List Int), (insL l xs).length ≤ l.length + xs.length
  | [], l => by simp [insL]
  | a :: xs, l => by
    have h1 := insL_length xs (ins l a)
    have h2 := ins_length a l
    simp only [insL, List.foldl_cons, List.length_cons] at h1 ⊢; omega

/-- two ascending lists with the same members are one -/
theorem asc_ext : ∀ (l m : List Int), l.Pairwise (· < ·) → m.Pairwise (· < ·) → (∀ x, x ∈ l ↔ x ∈ m) → l = m
  | [], [], _, _, _ => rfl
  | [], b :: m, _, _, h => absurd ((h b).2 (by simp)) (by simp)
  | a :: l, [], _, _, h => absurd ((h a).1 (by simp)) (by simp)
  | a :: l, b :: m, hl, hm, h => by
    rw [List.pairwise_cons] at hl hm
    have e : a = b := by
      rcases List.mem_cons.1 ((h a).1 (by simp)) with e | e
      · exact e
      · rcases List.mem_cons.1 ((h b).2 (by simp)) with e' | e'
        · exact e'.symm
        · have := hl.1 b e'; have := hm.1 a e; omega
    subst e
    congr 1
    refine asc_ext l m hl.2 hm.2 fun x => ?_
    have := h x
    simp only [List.mem_cons] at this
    constructor
    · intro hx
      rcases this.1 (.inr hx) with e | e
      · have := hl.1 x hx; omega
      · exact e
    · intro hx
      rcases this.2 (.inr hx) with e | e
      · have := hm.1 x hx; omega
      · exact e

/-- the keys of a set of these numbers, sorted, are the numbers put in one by one -/
theorem sorted_keys {H : Type} {es : List (Lit × DataW H)} (hp : es.Pairwise (fun p q => p.1 ≠ q.1)) (hk : ∀ p ∈ es, ∃ x, p.1 = .int .i64 x) {xs ss : List Int} (hm : ∀ x, x ∈ xs ↔ Maps.has (.map es) (.int .i64 x) = true)
    (hs : ss.Perm (intKeys (.map es))) : ss.mergeSort (fun x y => decide (x ≤ y)) = insL [] xs := by
  have ha := asc_insL xs [] List.Pairwise.nil
  have h1 : (insL [] xs).Perm (intKeys (.map es)) := by
    refine perm_intKeys hp hk (ha.imp fun h e => by omega) fun x => ?_
    rw [mem_insL, ← hm x]; simp
  rw [mergeSort_of_perm_i (hs.trans h1.symm)]
  exact List.mergeSort_of_pairwise (ha.imp fun h => by simp only [leI, decide_eq_true_eq]; omega)
end Tm
end Go.Proofs.Yteoheeddjddekaa
