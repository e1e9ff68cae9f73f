/- What the program finds in a proper term is what the reference finds (plain). -/
import Derived.Test.YteoheeddjddekaaTmHeads
import Derived.Test.YteoheeddjddekaaTmNumF
import Derived.Test.YteoheeddjddekaaTmNumH
import Derived.Test.YteoheeddjddekaaTmFar
namespace Go.Proofs.Yteoheeddjddekaa
open Go.RowKit
namespace Tm
mutual
theorem hds_congr (f g : Int → Int → Int → Int → Option Int) (hfg : ∀ b o h n len, headOk o h n len = true → f b o h n = g b o h n) : ∀ (b : Int) (t : Tm) (d : Nat), formed t d = true → hds f b t = hds g b t
  | b, .mk o h n l, d, e => by
    simp only [formed, Bool.and_eq_true] at e
    simp only [hds]
    rw [hfg b o h n _ e.1.2, hdsL_congr f g hfg b o 0 l (d + 1) e.2]
theorem hdsL_congr (f g : Int → Int → Int → Int → Option Int) (hfg : ∀ b o h n len, headOk o h n len = true → f b o h n = g b o h n) : ∀ (b o : Int) (i : Nat) (l : List Tm) (d : Nat), formedL l d = true → hdsL f b o i l = hdsL g b o i l
  | _, _, _, [], _, _ => rfl
  | b, o, i, t :: l, d, e => by
    simp only [formedL, Bool.and_eq_true] at e
    simp only [hdsL]
    rw [hds_congr f g hfg _ t d e.1, hdsL_congr f g hfg b o (i + 1) l d e.2]
end
theorem proper_formed {t : Tm} (h : proper t = true) : formed t 1 = true := by
  unfold proper at h; simp only [Bool.and_eq_true] at h; exact h.2

theorem hds_free (x : Int) {t : Tm} (h : proper t = true) : hds (VF.sel x) 0 t = hds (rsel 1) 0 t := by
  refine hds_congr _ _ (fun b o h n len e => ?_) 0 t 1 (proper_formed h)
  rcases headOk_yes o h n len e with ⟨h1, h2, h3, h4⟩ | ⟨h1, h2, h3, h4⟩ | ⟨h1, h2, h3, h4⟩ | ⟨h1, h2, h3, h4, h5⟩
  · subst h1 h3; simp [VF.sel, VF.selB, rsel]
  · subst h1 h3; simp [VF.sel, VF.selB, rsel]
  · subst h1 h3; simp [VF.sel, VF.selB, rsel]
  · subst h1
    by_cases e1 : h = 1
    · subst e1; simp [VF.sel, VF.selB, VF.selN, rsel]
    · have e2 : (h == 1) = false := by simpa using e1
      simp [VF.sel, VF.selB, rsel, e2]
theorem hds_heads (x : Int) (hx : 2 ≤ x) {t : Tm} (h : proper t = true) : hds (VH.sel x) 0 t = hds (rsel x) 0 t := by
  refine hds_congr _ _ (fun b o h n len e => ?_) 0 t 1 (proper_formed h)
  have hx1 : ¬ x = 1 := by omega
  have z : ∀ {h : Int}, h = 0 → (h == x) = false := fun e => by subst e; rw [beq_eq_false_iff_ne]; omega
  rcases headOk_yes o h n len e with ⟨h1, h2, h3, h4⟩ | ⟨h1, h2, h3, h4⟩ | ⟨h1, h2, h3, h4⟩ | ⟨h1, h2, h3, h4, h5⟩
  · simp [VH.sel, VH.selB, rsel, z h3]
  · simp [VH.sel, VH.selB, rsel, z h3]
  · simp [VH.sel, VH.selB, rsel, z h3]
  · subst h1
    simp [VH.sel, VH.selB, VH.selN, rsel, hx1]

mutual
/-- a free variable occurs just if low says so -/
theorem mem_hds (n : Int) (hn : 0 ≤ n) : ∀ (b : Int) (t : Tm), n ∈ hds (rsel 1) b t ↔ low (n + b) (n + b) t = true
  | b, .mk o h m l => by
    have ih := mem_hdsL n hn b o 0 l
    simp only [hds, low, List.mem_append, Bool.or_eq_true]
    rw [ih]
    refine or_congr ?_ Iff.rfl
    unfold rsel
    rcases (o == 4) with _ | _
    · simp
    · rcases (h == 1) with _ | _
      · simp
      · by_cases e : b ≤ m
        · simp [e]; omega
        · simp [e]; omega
theorem mem_hdsL (n : Int) (hn : 0 ≤ n) : ∀ (b o : Int) (i : Nat) (l : List Tm), n ∈ hdsL (rsel 1) b o i l ↔ lowL (n + b) (n + b) o i l = true
  | _, _, _, [] => by simp [hdsL, lowL]
  | b, o, i, t :: l => by
    have h1 := mem_hds n hn (b + belowN o i) t
    have h2 := mem_hdsL n hn b o (i + 1) l
    simp only [hdsL, lowL, List.mem_append, Bool.or_eq_true]
    rw [h1, h2, Int.add_assoc]
end
mutual
theorem hds_pos : ∀ (b : Int) (t : Tm), ∀ x ∈ hds (rsel 1) b t, 0 ≤ x ∧ (nums t = true → 0 ≤ b → x ≤ 9999)
  | b, .mk o h m l, x, hx => by
    simp only [hds, List.mem_append] at hx
    rcases hx with hx | hx
    · unfold rsel at hx
      split at hx
      · simp only [if_true] at hx
        split at hx
        · simp at hx
          refine ⟨by omega, fun hn hb => ?_⟩
          have := nums_n hn
          omega
        · simp at hx
      · simp at hx
    · have := hdsL_pos b o 0 l x hx
      exact ⟨this.1, fun hn hb => this.2 (nums_l hn) hb⟩
theorem hdsL_pos : ∀ (b o : Int) (i : Nat) (l : List Tm), ∀ x ∈ hdsL (rsel 1) b o i l, 0 ≤ x ∧ (numsL l = true → 0 ≤ b → x ≤ 9999)
  | _, _, _, [], x, hx => by simp [hdsL] at hx
  | b, o, i, t :: l, x, hx => by
    simp only [hdsL, List.mem_append] at hx
    have hbl := belowN_bd o i
    rcases hx with hx | hx
    · have := hds_pos (b + belowN o i) t x hx
      exact ⟨this.1, fun hn hb => this.2 (numsL_mem hn (by simp)) (by omega)⟩
    · have := hdsL_pos b o (i + 1) l x hx
      refine ⟨this.1, fun hn hb => this.2 ?_ hb⟩
      simp only [numsL, Bool.and_eq_true] at hn
      exact hn.2
end
/-- does the free variable n occur? -/
def occ (n : Int) (t : Tm) : Bool := decide (n ∈ insL [] (hds (rsel 1) 0 t))
theorem occ_low (n : Int) (hn : 0 ≤ n) (t : Tm) : occ n t = low n n t := by
  unfold occ
  rw [Bool.eq_iff_iff, decide_eq_true_iff, mem_insL]
  have := mem_hds n hn 0 t
  rw [Int.add_zero] at this
  rw [← this]; simp
theorem occ_neg (n : Int) (hn : n < 0) (t : Tm) : occ n t = false := by
  unfold occ
  rw [decide_eq_false_iff_not, mem_insL]
  rintro (h | h)
  · simp at h
  · have := (hds_pos 0 t n h).1; omega
theorem occ_far (n : Int) (hn : 10000 ≤ n) (t : Tm) (h : nums t = true) : occ n t = false := by
  unfold occ
  rw [decide_eq_false_iff_not, mem_insL]
  rintro (h' | h')
  · simp at h'
  · have := (hds_pos 0 t n h').2 h (Int.le_refl _); omega
end Tm
end Go.Proofs.Yteoheeddjddekaa
