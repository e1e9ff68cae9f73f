/- Shifting, as a plain function on terms. Nothing of the program is imported. -/
import Derived.Test.YtomahhdhnlfabaaTmBuilt
namespace Go.Proofs.Ytomahhdhnlfabaa
namespace Tm

/-- how many more binders are around the i-th part -/
def belowN (o : Int) (i : Nat) : Int := if o == 3 || (o == 2 && i == 1) then 1 else 0

mutual
def moved (d : Int) : Int → Tm → Tm
  | fr, .mk o h n l => .mk o h (if o == 4 && h == 1 && decide (fr ≤ n) then n + d else n) (movedL d fr o 0 l)
def movedL (d : Int) : Int → Int → Nat → List Tm → List Tm
  | _, _, _, [] => []
  | fr, o, i, t :: l => moved d (fr + belowN o i) t :: movedL d fr o (i + 1) l
end

theorem movedL_snoc (d fr o : Int) : ∀ (l : List Tm) (i : Nat) (t : Tm), movedL d fr o i (l ++ [t]) = movedL d fr o i l ++ [moved d (fr + belowN o (i + l.length)) t]
  | [], i, t => by simp [movedL]
  | a :: l, i, t => by
    simp only [List.cons_append, movedL, movedL_snoc d fr o l (i + 1) t, List.length_cons]
    rw [show i + 1 + l.length = i + (l.length + 1) by omega]

theorem movedL_length (d fr o : Int) : ∀ (l : List Tm) (i : Nat), (movedL d fr o i l).length = l.length
  | [], _ => rfl
  | _ :: l, i => by simp [movedL, movedL_length d fr o l (i + 1)]

/-- the first k parts, shifted -/
def movedTo (d fr o : Int) (l : List Tm) (k : Nat) : List Tm := movedL d fr o 0 (l.take k)
theorem movedTo_zero (d fr o : Int) (l : List Tm) : movedTo d fr o l 0 = [] := by simp [movedTo, movedL]
theorem movedTo_length (d fr o : Int) (l : List Tm) (k : Nat) (h : k ≤ l.length) : (movedTo d fr o l k).length = k := by
  rw [movedTo, movedL_length, List.length_take]; omega
theorem movedTo_step (d fr o : Int) (l : List Tm) (k : Nat) (h : k < l.length) : movedTo d fr o l (k + 1) = movedTo d fr o l k ++ [moved d (fr + belowN o k) l[k]] := by
  rw [movedTo, List.take_succ_eq_append_getElem h, movedL_snoc, List.length_take, Nat.min_eq_left (by omega), Nat.zero_add]; rfl
theorem movedTo_all (d fr o : Int) (l : List Tm) (k : Nat) (h : l.length ≤ k) : movedTo d fr o l k = movedL d fr o 0 l := by
  rw [movedTo, List.take_of_length_le h]

theorem belowN_bd (o : Int) (i : Nat) : 0 ≤ belowN o i ∧ belowN o i ≤ 1 := by unfold belowN; split <;> omega

mutual
/-- every number is one of a head: from 0 to 9999 -/
def nums : Tm → Bool
  | .mk o h n l => decide (0 ≤ o) && decide (o ≤ 4) && decide (0 ≤ h) && decide (h ≤ 3) && decide (0 ≤ n) && decide (n ≤ 9999) && numsL l
def numsL : List Tm → Bool
  | [] => true
  | t :: l => nums t && numsL l
end
theorem numsL_mem : ∀ {l : List Tm} {t : Tm}, numsL l = true → t ∈ l → nums t = true
  | a :: l, t, h, hm => by
    simp only [numsL, Bool.and_eq_true] at h
    rcases List.mem_cons.1 hm with rfl | hm
    · exact h.1
    · exact numsL_mem h.2 hm

mutual
theorem nums_of_formed : ∀ (t : Tm) (d : Nat), formed t d = true → nums t = true
  | .mk o h n l, d, hf => by
    simp only [formed, Bool.and_eq_true] at hf
    have hl := numsL_of_formed l (d + 1) hf.2
    rcases headOk_yes o h n l.length hf.1.2 with ⟨rfl, _, rfl, rfl⟩ | ⟨rfl, _, rfl, rfl⟩ | ⟨rfl, _, rfl, rfl⟩ | ⟨rfl, h1, h2, h3, h4⟩ <;> simp [nums, hl] <;> omega
theorem numsL_of_formed : ∀ (l : List Tm) (d : Nat), formedL l d = true → numsL l = true
  | [], _, _ => rfl
  | t :: l, d, h => by
    simp only [formedL, Bool.and_eq_true] at h
    simp [numsL, nums_of_formed t d h.1, numsL_of_formed l d h.2]
end

theorem moved_fit (d fr o h n : Int) (l : List Tm) (hn : nums (.mk o h n l) = true) (h0 : -9999 ≤ d) (h1 : d ≤ 9999) : (moved d fr (.mk o h n l)).fit := by
  simp only [nums, Bool.and_eq_true, decide_eq_true_eq] at hn
  unfold fit moved op hd Tm.n
  simp only
  refine ⟨by omega, by omega, ?_⟩
  split <;> omega

theorem nums_n {o h n : Int} {l : List Tm} (hn : nums (.mk o h n l) = true) : 0 ≤ n ∧ n ≤ 9999 := by
  simp only [nums, Bool.and_eq_true, decide_eq_true_eq] at hn; omega
theorem nums_l {o h n : Int} {l : List Tm} (hn : nums (.mk o h n l) = true) : numsL l = true := by
  simp only [nums, Bool.and_eq_true] at hn; exact hn.2

theorem moved_ways (d fr o h n : Int) (l : List Tm) (hn : nums (.mk o h n l) = true) (h0 : -9999 ≤ d) (h1 : d ≤ 9999) :
    ∃ n', (-9999 ≤ n' ∧ n' ≤ 20000) ∧ moved d fr (.mk o h n l) = .mk o h n' (movedL d fr o 0 l) ∧
      (((o == 4) = true ∧ (h == 1) = true ∧ fr ≤ n ∧ n' = n + d) ∨ ((o == 4) = true ∧ (h == 1) = true ∧ n < fr ∧ n' = n) ∨ ((o == 4) = true ∧ (h == 1) = false ∧ n' = n) ∨ ((o == 4) = false ∧ n' = n)) := by
  have hb := nums_n hn
  by_cases c : (o == 4 && h == 1 && decide (fr ≤ n)) = true
  · refine ⟨n + d, by omega, by simp [moved, c], .inl ?_⟩
    simp only [Bool.and_eq_true, beq_iff_eq, decide_eq_true_eq] at c
    exact ⟨by simp [c.1.1], by simp [c.1.2], c.2, rfl⟩
  · refine ⟨n, by omega, by simp [moved, c], ?_⟩
    rcases e4 : (o == 4) with _ | _
    · exact .inr (.inr (.inr ⟨rfl, rfl⟩))
    · rcases e1 : (h == 1) with _ | _
      · exact .inr (.inr (.inl ⟨rfl, rfl, rfl⟩))
      · refine .inr (.inl ⟨rfl, rfl, ?_, rfl⟩)
        simp only [e4, e1, Bool.true_and, decide_eq_true_eq] at c
        omega

end Tm
end Go.Proofs.Ytomahhdhnlfabaa
