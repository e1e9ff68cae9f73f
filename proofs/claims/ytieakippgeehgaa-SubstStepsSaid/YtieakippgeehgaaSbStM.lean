/- The mathematics of SubstSteps. -/
import Derived.Test.YtieakippgeehgaaSbInG
namespace Go.Proofs.Ytieakippgeehgaa.Sb
open Go.RowKit
set_option linter.unusedSimpArgs false
set_option linter.unusedVariables false

theorem okList_parts {l : List Tm} (h : l.length ≤ 600) (hp : ∀ x ∈ l, Tm.proper x = true) : okList l = true := by
  simp only [okList, Bool.and_eq_true, decide_eq_true_eq, List.all_eq_true]; exact ⟨h, hp⟩
theorem inst_er : ∀ (l : List Tm) (t : Tm) (c : Nat) (e : Int), Tm.proper t = true → c ≤ 20000 → instO l t c = .er e → e = 5 ∨ e = 23 ∨ e = 22
  | [], t, c, e, hp, hc, h => by cases h
  | m :: l, t, c, e, hp, hc, h => by
    have h1 := step_fine (m := m) hp hc
    simp only [instO] at h
    cases hs : stepO t m c with
    | er e1 => rw [hs] at h; cases h; exact step_er hp hc hs
    | ok x c' => rw [hs] at h h1; exact inst_er l x c' e h1.1 h1.2.2 h

/-- of one object, and of all -/
theorem steps_inst {t m : Tm} {r : List Tm} (hp : Tm.proper t = true) (hl : (m :: r).length ≤ 600) (ho : ∀ x ∈ m :: r, Tm.proper x = true) :
    ((instOut t [m]).2 ≠ 0 ∧ (instOut t (m :: r)).2 = (instOut t [m]).2) ∨
    ((instOut t [m]).2 = 0 ∧ Tm.proper (instOut t [m]).1 = true ∧ ((instOut (instOut t [m]).1 r).2 ≠ 0 ∨ ((instOut (instOut t [m]).1 r).2 = 0 ∧ ((instOut t (m :: r)).2 = 5 ∨ ((instOut t (m :: r)).2 = 0 ∧ (instOut t (m :: r)).1 = (instOut (instOut t [m]).1 r).1))))) := by
  have k1 : okList [m] = true := okList_parts (by simp) fun x hx => ho x (by simp at hx; simp [hx])
  have k2 : okList (m :: r) = true := okList_parts hl ho
  have k3 : okList r = true := okList_parts (by simp at hl; omega) fun x hx => ho x (by simp [hx])
  have e1 : instOut t [m] = outOf (instO [m] t 0) := by simp [instOut, hp, k1]
  have e2 : instOut t (m :: r) = outOf (instO (m :: r) t 0) := by simp [instOut, hp, k2]
  rw [e1, e2]
  have hf := step_fine (m := m) (c := 0) hp (by omega)
  simp only [instO]
  cases hs : stepO t m 0 with
  | er e =>
    left
    have := step_er hp (by omega) hs
    simp only [outOf]
    exact ⟨by omega, trivial⟩
  | ok x c' =>
    rw [hs] at hf
    right
    simp only [outOf]
    refine ⟨trivial, hf.1, ?_⟩
    have e3 : instOut x r = outOf (instO r x 0) := by simp [instOut, hf.1, k3]
    rw [e3]
    have hu := inst_up r x 0 c'
    cases hr : instO r x 0 with
    | er e =>
      left
      have := inst_er r x 0 e hf.1 (by omega) hr
      simp only [outOf]
      omega
    | ok y d =>
      rw [hr] at hu
      right
      refine ⟨rfl, ?_⟩
      rcases hu with hu | ⟨hu, _⟩
      · left; rw [hu]
      · right; rw [hu]; constructor <;> rfl
/-- several objects that are one -/
theorem steps_many {t m : Tm} {S : Sp.Tm} (hp : Tm.proper t = true) (hm : Tm.proper m = true) : manyOut t [m] [S] = substOut t 0 m S := by
  have k1 : okList [m] = true := okList_parts (by simp) fun x hx => by simp at hx; rw [hx]; exact hm
  have hn : isNum 0 = true := by decide
  simp only [manyOut, substOut, hp, hm, k1, hn, Bool.and_self, Bool.true_and, List.length_singleton, decide_true, List.all_cons, List.all_nil, Bool.and_true]
  split
  · have h0 : Tm.moved (([] : List Tm).length : Int) 0 m = m := Tm.moved_zero m 0
    simp only [manyO, h0, hm, if_true]
    cases put S m 0 t 0 <;> rfl
  · rfl
end Go.Proofs.Ytieakippgeehgaa.Sb
