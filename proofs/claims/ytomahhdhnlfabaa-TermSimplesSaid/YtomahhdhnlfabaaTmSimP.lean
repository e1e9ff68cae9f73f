/- The simple type of a term, plain. Nothing of the program is imported. -/
import Derived.Test.YtomahhdhnlfabaaSmBuilt
import Derived.Test.YtomahhdhnlfabaaTmPlain
namespace Go.Proofs.Ytomahhdhnlfabaa
set_option linter.unusedSimpArgs false
set_option linter.unusedVariables false

/-- that of a TPi, of those of its parts -/
def Tm.simpJ (x y : Option Sp.Tm) : Option Sp.Tm := match x, y with
  | some x, some y => some (.mk y.n (x :: y.args))
  | _, _ => none

mutual
/-- the simple type of a term, if it has one -/
def Tm.simp : Tm → Option Sp.Tm
  | .mk o h n l => if o = 2 then Tm.simpL l else if h = 2 then some (.mk n []) else none
def Tm.simpL : List Tm → Option Sp.Tm
  | [] => none
  | a :: l => Tm.simpJ (Tm.simp a) (Tm.simpT l)
def Tm.simpT : List Tm → Option Sp.Tm
  | [] => none
  | b :: _ => Tm.simp b
end

theorem Tm.simp_pi (h n : Int) (a b : Tm) : Tm.simp (.mk 2 h n [a, b]) = Tm.simpJ (Tm.simp a) (Tm.simp b) := by
  simp only [Tm.simp, Tm.simpL, Tm.simpT, if_true]
theorem Tm.simp_con (o n : Int) (l : List Tm) (h : ¬ o = 2) : Tm.simp (.mk o 2 n l) = some (.mk n []) := by simp [Tm.simp, h]
theorem Tm.simp_no (o h n : Int) (l : List Tm) (e : ¬ o = 2) (e' : ¬ h = 2) : Tm.simp (.mk o h n l) = none := by simp [Tm.simp, e, e']

/-- what stands for no simple type -/
def spOf : Option Sp.Tm → Sp.Tm | some x => x | none => .mk 0 []

theorem Tm.formed_pi {h n : Int} {l : List Tm} {d : Nat} (e : Tm.formed (.mk 2 h n l) d = true) : ∃ a b, l = [a, b] ∧ Tm.formed a (d + 1) = true ∧ Tm.formed b (d + 1) = true := by
  simp only [Tm.formed, Bool.and_eq_true, decide_eq_true_eq] at e
  obtain ⟨⟨_, hh⟩, hl⟩ := e
  have hh' := Tm.headOk_yes _ _ _ _ hh
  have h2 : l.length = 2 := by omega
  match l, h2 with
  | [a, b], _ =>
    simp only [Tm.formedL, Bool.and_eq_true] at hl
    exact ⟨a, b, rfl, hl.1, hl.2.1⟩

mutual
theorem Tm.simp_fit : ∀ (t : Tm) (d : Nat), Tm.formed t d = true → ∀ s, Tm.simp t = some s → 0 ≤ s.n ∧ s.n ≤ 9999 ∧ Sp.Tm.sz s ≤ Tm.sz t
  | .mk o h n l, d, e, s, hs => by
    have e0 := e
    simp only [Tm.formed, Bool.and_eq_true, decide_eq_true_eq] at e
    obtain ⟨⟨_, hh⟩, hl⟩ := e
    have hh' := Tm.headOk_yes _ _ _ _ hh
    simp only [Tm.simp] at hs
    split at hs
    · obtain ⟨h1, h2, h3⟩ := Tm.simpL_fit l (d + 1) hl s hs
      refine ⟨h1, h2, ?_⟩
      simp only [Tm.sz]; omega
    · split at hs
      · cases hs
        simp only [Sp.Tm.n, Sp.Tm.sz, Sp.Tm.szL, Tm.sz]
        omega
      · cases hs
theorem Tm.simpL_fit : ∀ (l : List Tm) (d : Nat), Tm.formedL l d = true → ∀ s, Tm.simpL l = some s → 0 ≤ s.n ∧ s.n ≤ 9999 ∧ Sp.Tm.sz s ≤ Tm.szL l
  | [], _, _, s, hs => by simp [Tm.simpL] at hs
  | a :: l, d, e, s, hs => by
    simp only [Tm.formedL, Bool.and_eq_true] at e
    simp only [Tm.simpL, Tm.simpJ] at hs
    split at hs
    · rename_i x y hx hy
      cases hs
      obtain ⟨x1, x2, x3⟩ := Tm.simp_fit a d e.1 x hx
      obtain ⟨y1, y2, y3⟩ := Tm.simpT_fit l d e.2 y hy
      refine ⟨y1, y2, ?_⟩
      obtain ⟨yn, ya⟩ := y
      simp only [Sp.Tm.sz, Sp.Tm.szL, Sp.Tm.n, Sp.Tm.args, Tm.szL] at *
      omega
    · cases hs
theorem Tm.simpT_fit : ∀ (l : List Tm) (d : Nat), Tm.formedL l d = true → ∀ s, Tm.simpT l = some s → 0 ≤ s.n ∧ s.n ≤ 9999 ∧ Sp.Tm.sz s ≤ Tm.szL l
  | [], _, _, s, hs => by simp [Tm.simpT] at hs
  | a :: l, d, e, s, hs => by
    simp only [Tm.formedL, Bool.and_eq_true] at e
    simp only [Tm.simpT] at hs
    obtain ⟨x1, x2, x3⟩ := Tm.simp_fit a d e.1 s hs
    refine ⟨x1, x2, ?_⟩
    simp only [Tm.szL]; omega
end
end Go.Proofs.Ytomahhdhnlfabaa
