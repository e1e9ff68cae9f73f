/- Plain facts on terms: how many nodes, how deep, whether built as terms are. Nothing of the program is imported. -/
import Derived.Test.YtomahhdhnlfabaaTmSpec
namespace Go.Proofs.Ytomahhdhnlfabaa
namespace Tm

theorem szL_append : ∀ l m : List Tm, szL (l ++ m) = szL l + szL m
  | [], m => by simp [szL]
  | a :: l, m => by simp only [List.cons_append, szL, szL_append l m]; omega

theorem szL_take (l : List Tm) (k : Nat) (h : k < l.length) : szL (l.take (k + 1)) = szL (l.take k) + sz l[k] := by
  rw [List.take_succ_eq_append_getElem h, szL_append]; simp [szL]

theorem szL_take_le (l : List Tm) (k : Nat) : szL (l.take k) ≤ szL l := by
  have := szL_append (l.take k) (l.drop k)
  rw [List.take_append_drop] at this; omega

theorem length_le_szL : ∀ l : List Tm, l.length ≤ szL l
  | [] => by simp
  | a :: l => by have := length_le_szL l; have := sz_pos a; simp only [List.length_cons, szL]; omega

/-- the number of nodes, or one more than most -/
def cnt (t : Tm) (most : Int) : Int := if (sz t : Int) ≤ most then sz t else most + 1
theorem cnt_bd (t : Tm) (most : Int) (h : 0 ≤ most) : 1 ≤ cnt t most ∧ cnt t most ≤ most + 1 := by have := sz_pos t; unfold cnt; split <;> omega
/-- what has been counted before the k-th part -/
def cntTo (l : List Tm) (k : Nat) (most : Int) : Int := if ((1 + szL (l.take k) : Nat) : Int) ≤ most then ((1 + szL (l.take k) : Nat) : Int) else most + 1

theorem cntTo_zero (l : List Tm) (most : Int) (h : 0 ≤ most) : cntTo l 0 most = 1 := by unfold cntTo; simp [szL]; omega
theorem cntTo_bd (l : List Tm) (k : Nat) (most : Int) (h : 0 ≤ most) : 1 ≤ cntTo l k most ∧ cntTo l k most ≤ most + 1 := by unfold cntTo; split <;> omega
theorem cntTo_step (l : List Tm) (k : Nat) (most : Int) (h : k < l.length) (hm : cntTo l k most ≤ most) :
    cntTo l k most + cnt l[k] (most - cntTo l k most) = cntTo l (k + 1) most := by
  unfold cntTo at *
  rw [szL_take l k h]
  split at hm
  · rename_i h1
    rw [if_pos h1]
    unfold cnt
    split <;> split <;> omega
  · omega
theorem cntTo_full (o h n : Int) (l : List Tm) (k : Nat) (most : Int) (hk : l.length ≤ k ∨ most < cntTo l k most) : cntTo l k most = cnt (.mk o h n l) most := by
  have := szL_take_le l k
  have e : sz (.mk o h n l) = 1 + szL l := by simp [sz]
  unfold cnt cntTo at *
  rw [e]
  rcases hk with hk | hk
  · rw [List.take_of_length_le hk]
  · split at hk
    · omega
    · split <;> split <;> omega

/-- is a node's head one of a term's? -/
def headOk (o h n : Int) (len : Nat) : Bool :=
  if o == 1 then len == 0 && h == 0 && n == 0
  else if o == 2 then len == 2 && h == 0 && n == 0
  else if o == 3 then len == 1 && h == 0 && n == 0
  else if o == 4 then decide (1 ≤ h) && decide (h ≤ 3) && decide (0 ≤ n) && decide (n ≤ 9999)
  else false

theorem headOk_yes (o h n : Int) (len : Nat) (e : headOk o h n len = true) :
    (o = 1 ∧ len = 0 ∧ h = 0 ∧ n = 0) ∨ (o = 2 ∧ len = 2 ∧ h = 0 ∧ n = 0) ∨ (o = 3 ∧ len = 1 ∧ h = 0 ∧ n = 0) ∨ (o = 4 ∧ 1 ≤ h ∧ h ≤ 3 ∧ 0 ≤ n ∧ n ≤ 9999) := by
  unfold headOk at e
  by_cases o1 : o = 1
  · subst o1; simp at e; omega
  · by_cases o2 : o = 2
    · subst o2; simp at e; omega
    · by_cases o3 : o = 3
      · subst o3; simp at e; omega
      · by_cases o4 : o = 4
        · subst o4; simp at e; omega
        · simp [o1, o2, o3, o4] at e

theorem headOk_no (o h n : Int) (len : Nat) (e : headOk o h n len = false) :
    (o = 1 ∧ (len ≠ 0 ∨ (len = 0 ∧ h ≠ 0) ∨ (len = 0 ∧ h = 0 ∧ n ≠ 0))) ∨ (o = 2 ∧ (len ≠ 2 ∨ (len = 2 ∧ h ≠ 0) ∨ (len = 2 ∧ h = 0 ∧ n ≠ 0))) ∨ (o = 3 ∧ (len ≠ 1 ∨ (len = 1 ∧ h ≠ 0) ∨ (len = 1 ∧ h = 0 ∧ n ≠ 0))) ∨
    (o = 4 ∧ (h < 1 ∨ (1 ≤ h ∧ 3 < h) ∨ (1 ≤ h ∧ h ≤ 3 ∧ n < 0) ∨ (1 ≤ h ∧ h ≤ 3 ∧ 0 ≤ n ∧ 9999 < n))) ∨ (o ≠ 1 ∧ o ≠ 2 ∧ o ≠ 3 ∧ o ≠ 4) := by
  unfold headOk at e
  by_cases o1 : o = 1
  · subst o1; simp at e; omega
  · by_cases o2 : o = 2
    · subst o2; simp at e; omega
    · by_cases o3 : o = 3
      · subst o3; simp at e; omega
      · by_cases o4 : o = 4
        · subst o4; simp at e; omega
        · omega

mutual
/-- built as terms are, and not deeper than 40, if it stands so deep -/
def formed : Tm → Nat → Bool
  | .mk o h n l, d => decide (d ≤ 40) && headOk o h n l.length && formedL l (d + 1)
def formedL : List Tm → Nat → Bool
  | [], _ => true
  | t :: l, d => formed t d && formedL l d
end

theorem formedL_all : ∀ (l : List Tm) (d : Nat), formedL l d = l.all (formed · d)
  | [], _ => rfl
  | t :: l, d => by simp only [formedL, List.all_cons, formedL_all l d]

theorem formedL_take_step (l : List Tm) (d k : Nat) (h : k < l.length) (hp : formedL (l.take k) d = true) (e : formed l[k] d = true) : formedL (l.take (k + 1)) d = true := by
  rw [formedL_all] at *
  rw [List.take_succ_eq_append_getElem h, List.all_append, hp]; simp [e]
theorem formedL_fail (l : List Tm) (d k : Nat) (h : k < l.length) (e : formed l[k] d = false) : formedL l d = false := by
  rw [formedL_all, List.all_eq_false]
  exact ⟨l[k], List.getElem_mem h, by simp [e]⟩
/-- the first k parts are well built (hidden from the walk) -/
def FormedTo (l : List Tm) (d k : Nat) : Prop := formedL (l.take k) d = true
theorem FormedTo.zero (l : List Tm) (d : Nat) : FormedTo l d 0 := by simp [FormedTo, formedL]
theorem FormedTo.step {l : List Tm} {d k : Nat} (hp : FormedTo l d k) (h : k < l.length) (e : formed l[k] d = true) : FormedTo l d (k + 1) := formedL_take_step l d k h hp e
theorem FormedTo.all {l : List Tm} {d k : Nat} (hp : FormedTo l d k) (h : l.length ≤ k) : formedL l d = true := by
  unfold FormedTo at hp; rwa [List.take_of_length_le h] at hp

mutual
def depth : Tm → Nat
  | .mk _ _ _ l => depthL l + 1
def depthL : List Tm → Nat
  | [] => 0
  | t :: l => max (depth t) (depthL l)
end

def proper (t : Tm) : Bool := decide (sz t ≤ 600) && formed t 1

end Tm
end Go.Proofs.Ytomahhdhnlfabaa
