/- Instances and several substitutions, as mathematics: what Instance and Many compute. -/
import Derived.Test.YtieakippgeehgaaSbGc
import Derived.Test.YtieakippgeehgaaSbLst
import Derived.Test.YtieakippgeehgaaSbApM
namespace Go.Proofs.Ytieakippgeehgaa
set_option linter.unusedSimpArgs false
set_option linter.unusedVariables false

/-- a class whose outermost TPi is given an object -/
def stepO (t m : Tm) (c : Nat) : Out Tm :=
  if t.op = 2 then
    match t.args with
    | [a, b] => match Tm.simp a with
      | some S => put S m 0 b c
      | none => .er 22
    | _ => .er 23
  else .er 23
theorem stepO_pi {h k : Int} {a b m : Tm} {c : Nat} {S : Sp.Tm} (hs : Tm.simp a = some S) : stepO (.mk 2 h k [a, b]) m c = put S m 0 b c := by simp [stepO, Tm.op, Tm.args, hs]
theorem stepO_level {h k : Int} {a b m : Tm} {c : Nat} (hs : Tm.simp a = none) : stepO (.mk 2 h k [a, b]) m c = .er 22 := by simp [stepO, Tm.op, Tm.args, hs]
theorem stepO_shape {t m : Tm} {c : Nat} (h : ¬ t.op = 2) : stepO t m c = .er 23 := by simp [stepO, h]

/-- what is left of a class that is given objects -/
def instO : List Tm → Tm → Nat → Out Tm
  | [], t, c => .ok t c
  | m :: l, t, c => match stepO t m c with
    | .er e => .er e
    | .ok x c' => instO l x c'
/-- several objects put at once -/
def manyO : List Tm → List Sp.Tm → Tm → Nat → Out Tm
  | m :: l, S :: Ss, t, c =>
    if Tm.proper (Tm.moved l.length 0 m) then
      match put S (Tm.moved l.length 0 m) 0 t c with
      | .er e => .er e
      | .ok x c' => manyO l Ss x c'
    else .er 5
  | _, _, t, c => .ok t c

theorem Tm.proper_pi {h k : Int} {l : List Tm} (hp : Tm.proper (.mk 2 h k l) = true) : ∃ a b, l = [a, b] ∧ h = 0 ∧ k = 0 ∧ Tm.proper a = true ∧ Tm.proper b = true := by
  obtain ⟨hs, hf⟩ := Tm.proper_two hp
  simp only [Tm.formed, Bool.and_eq_true, decide_eq_true_eq] at hf
  obtain ⟨⟨_, hh⟩, hl⟩ := hf
  have hh' := Tm.headOk_yes _ _ _ _ hh
  have h2 : l.length = 2 ∧ h = 0 ∧ k = 0 := by omega
  match l, h2 with
  | [a, b], h2 => exact ⟨a, b, rfl, h2.2.1, h2.2.2, Tm.proper_parts hp a (by simp), Tm.proper_parts hp b (by simp)⟩

/-- a result is proper, and the count has not gone past 20000 -/
def FineOut (c : Nat) : Out Tm → Prop
  | .ok t c' => Tm.proper t = true ∧ c ≤ c' ∧ c' ≤ 20000
  | .er e => True
theorem GoodOut.fine {c : Nat} {r : Out Tm} (h : GoodOut c r) : FineOut c r := by
  cases r with
  | ok t c' => exact h
  | er e => trivial
theorem FineOut.more {c0 c : Nat} {r : Out Tm} (h : FineOut c r) (h0 : c0 ≤ c) : FineOut c0 r := by
  cases r with
  | ok t c' => exact ⟨h.1, by have := h.2.1; omega, h.2.2⟩
  | er e => trivial
theorem step_fine {t m : Tm} {c : Nat} (hp : Tm.proper t = true) (hc : c ≤ 20000) : FineOut c (stepO t m c) := by
  obtain ⟨o, h, k, l⟩ := t
  by_cases ho : o = 2
  · subst ho
    obtain ⟨a, b, rfl, rfl, rfl, ha, hb⟩ := Tm.proper_pi hp
    cases hs : Tm.simp a with
    | none => rw [stepO_level hs]; trivial
    | some S => rw [stepO_pi hs]; exact (put_good S m 0 b c hc hb).fine
  · rw [stepO_shape (by simpa [Tm.op] using ho)]; trivial
theorem inst_fine : ∀ (l : List Tm) (t : Tm) (c : Nat), Tm.proper t = true → c ≤ 20000 → FineOut c (instO l t c)
  | [], t, c, hp, hc => ⟨hp, Nat.le_refl _, hc⟩
  | m :: l, t, c, hp, hc => by
    have h1 := step_fine (m := m) hp hc
    simp only [instO]
    cases hs : stepO t m c with
    | er e => trivial
    | ok x c' =>
      rw [hs] at h1
      exact (inst_fine l x c' h1.1 h1.2.2).more h1.2.1

mutual
/-- the constants of a proper type's simple type are numbers -/
theorem Tm.simp_ok : ∀ (t : Tm) (d : Nat), Tm.formed t d = true → ∀ s, Tm.simp t = some s → Sp.Tm.okN s = true
  | .mk o h n l, d, e, s, hs => by
    simp only [Tm.formed, Bool.and_eq_true, decide_eq_true_eq] at e
    obtain ⟨⟨_, hh⟩, hl⟩ := e
    have hh' := Tm.headOk_yes _ _ _ _ hh
    simp only [Tm.simp] at hs
    split at hs
    · exact Tm.simpL_ok l (d + 1) hl s hs
    · split at hs
      · cases hs
        have h1 : 0 ≤ n := by omega
        have h2 : n ≤ 9999 := by omega
        simp [Sp.Tm.okN, Sp.Tm.okL, Sb.isNum, h1, h2]
      · cases hs
theorem Tm.simpL_ok : ∀ (l : List Tm) (d : Nat), Tm.formedL l d = true → ∀ s, Tm.simpL l = some s → Sp.Tm.okN s = true
  | [], _, _, s, hs => by simp [Tm.simpL] at hs
  | a :: l, d, e, s, hs => by
    simp only [Tm.formedL, Bool.and_eq_true] at e
    simp only [Tm.simpL, Tm.simpJ] at hs
    split at hs
    · rename_i x y hx hy
      cases hs
      have x1 := Tm.simp_ok a d e.1 x hx
      have y1 := Tm.simpT_ok l d e.2 y hy
      obtain ⟨yn, ya⟩ := y
      simp only [Sp.Tm.okN, Sp.Tm.okL, Bool.and_eq_true, Sp.Tm.n, Sp.Tm.args] at *
      exact ⟨y1.1, x1, y1.2⟩
    · cases hs
theorem Tm.simpT_ok : ∀ (l : List Tm) (d : Nat), Tm.formedL l d = true → ∀ s, Tm.simpT l = some s → Sp.Tm.okN s = true
  | [], _, _, s, hs => by simp [Tm.simpT] at hs
  | a :: l, d, e, s, hs => by
    simp only [Tm.formedL, Bool.and_eq_true] at e
    simp only [Tm.simpT] at hs
    exact Tm.simp_ok a d e.1 s hs
end
theorem Tm.simp_small {t : Tm} (hp : Tm.proper t = true) {s : Sp.Tm} (hs : Tm.simp t = some s) : Sp.Tm.small s = true := by
  obtain ⟨h1, h2⟩ := Tm.proper_two hp
  have h3 := Tm.simp_ok t 1 h2 s hs
  have h4 := (Tm.simp_fit t 1 h2 s hs).2.2
  simp only [Sp.Tm.small, Sp.Tm.smallIn, h3, Bool.true_and, decide_eq_true_eq]
  omega

theorem instO_drop {l : List Tm} {t0 t : Tm} {c0 c j : Nat} (hj : j < l.length) (h : instO l t0 c0 = instO (l.drop j) t c) :
    instO l t0 c0 = match stepO t l[j] c with
      | .er e => .er e
      | .ok x c' => instO (l.drop (j + 1)) x c' := by
  rw [h, List.drop_eq_getElem_cons hj]; rfl
theorem manyO_drop {l : List Tm} {Ss : List Sp.Tm} {t0 t : Tm} {c0 c j : Nat} (hj : j < l.length) (hS : j < Ss.length) (h : manyO l Ss t0 c0 = manyO (l.drop j) (Ss.drop j) t c) :
    manyO l Ss t0 c0 = if Tm.proper (Tm.moved ((l.length - 1 - j : Nat) : Int) 0 l[j]) then
      (match put Ss[j] (Tm.moved ((l.length - 1 - j : Nat) : Int) 0 l[j]) 0 t c with
      | .er e => .er e
      | .ok x c' => manyO (l.drop (j + 1)) (Ss.drop (j + 1)) x c') else .er 5 := by
  rw [h, List.drop_eq_getElem_cons hj, List.drop_eq_getElem_cons hS]
  have e : (l.drop (j + 1)).length = l.length - 1 - j := by rw [List.length_drop]; omega
  simp only [manyO, e]

namespace Sb
/-- what Instance gives -/
def instOut (t : Tm) (l : List Tm) : Tm × Int := if Tm.proper t && okList l then outOf (instO l t 0) else (Tm.zero, 2)
/-- what Many gives -/
def manyOut (t : Tm) (l : List Tm) (Ss : List Sp.Tm) : Tm × Int :=
  if Tm.proper t && okList l && decide (Ss.length = l.length) && Ss.all Sp.Tm.small then outOf (manyO l Ss t 0) else (Tm.zero, 2)
end Sb

/-- what comes with one count comes with another, or the count is at its end -/
def SameUp (r r' : Out Tm) (c c' : Nat) : Prop :=
  match r with
  | .ok x d => r' = .er 5 ∨ (r' = .ok x (d + c' - c) ∧ c ≤ d)
  | .er _ => True
def SameUpL (r r' : Out (List Tm)) (c c' : Nat) : Prop :=
  match r with
  | .ok x d => r' = .er 5 ∨ (r' = .ok x (d + c' - c) ∧ c ≤ d)
  | .er _ => True
def PutUp (S : Sp.Tm) (s : Tm) (n : Int) (t : Tm) (c : Nat) : Prop := ∀ c', SameUp (put S s n t c) (put S s n t c') c c'
def PutUpL (S : Sp.Tm) (s : Tm) (n o : Int) (i : Nat) (l : List Tm) (c : Nat) : Prop := ∀ c', SameUpL (putL S s n o i l c) (putL S s n o i l c') c c'
def AppUp (Ss : List Sp.Tm) (f : Tm) (sp : List Tm) (c : Nat) : Prop := ∀ c', SameUp (app Ss f sp c) (app Ss f sp c') c c'

theorem whole_up (t : Tm) (d c c' : Nat) (h : c ≤ d) : SameUp (whole t d) (whole t (d + c' - c)) c c' := by
  unfold whole
  split
  · exact .inr ⟨rfl, h⟩
  · trivial
theorem pu1 (S : Sp.Tm) (s : Tm) (n o h k : Int) (l : List Tm) (c : Nat) (hl : ∀ c, PutUpL S s n o 0 l c) (ha : ∀ f sp c, AppUp S.args f sp c) : PutUp S s n (.mk o h k l) c := by
  intro c'
  rw [put_eq, put_eq]
  by_cases h1 : 20000 ≤ c
  · rw [if_pos h1]; trivial
  rw [if_neg h1]
  have hu := hl (c + 1) (c' + 1)
  cases hq : putL S s n o 0 l (c + 1) with
  | er e => trivial
  | ok l' d =>
    rw [hq] at hu
    simp only
    by_cases h2 : 20000 ≤ c'
    · rw [if_pos h2]
      split
      · split
        · split
          · cases app S.args (Tm.moved n 0 s) l' d <;> first | exact .inl rfl | trivial
          · trivial
        · unfold whole; split <;> first | exact .inl rfl | trivial
      · unfold whole; split <;> first | exact .inl rfl | trivial
    · rw [if_neg h2]
      rcases hu with hu | ⟨hu, hd⟩
      · rw [hu]
        simp only
        split
        · split
          · split
            · cases app S.args (Tm.moved n 0 s) l' d <;> first | exact .inl rfl | trivial
            · trivial
          · unfold whole; split <;> first | exact .inl rfl | trivial
        · unfold whole; split <;> first | exact .inl rfl | trivial
      · rw [hu]
        simp only
        have e : d + (c' + 1) - (c + 1) = d + c' - c := by omega
        rw [e]
        split
        · split
          · split
            · have hA := ha (Tm.moved n 0 s) l' d (d + c' - c)
              cases hr : app S.args (Tm.moved n 0 s) l' d with
              | er e => trivial
              | ok x d2 =>
                rw [hr] at hA
                rcases hA with hA | ⟨hA, hd2⟩
                · exact .inl hA
                · refine .inr ⟨?_, by omega⟩
                  rw [hA]; congr 1; omega
            · trivial
          · exact whole_up _ _ _ _ (by omega)
        · exact whole_up _ _ _ _ (by omega)
theorem pu3 (S : Sp.Tm) (s : Tm) (n o : Int) (i : Nat) (t : Tm) (l : List Tm) (c : Nat) (ht : ∀ c, PutUp S s (n + Tm.belowN o i) t c) (hl : ∀ c, PutUpL S s n o (i + 1) l c) : PutUpL S s n o i (t :: l) c := by
  intro c'
  rw [putL_cons, putL_cons]
  have h1 := ht c c'
  cases hq : put S s (n + Tm.belowN o i) t c with
  | er e => trivial
  | ok t' d =>
    rw [hq] at h1
    simp only
    have h2 := hl d
    cases hr : putL S s n o (i + 1) l d with
    | er e => trivial
    | ok l' d2 =>
      simp only
      rcases h1 with h1 | ⟨h1, hd⟩
      · rw [h1]; exact .inl rfl
      · rw [h1]
        simp only
        have h3 := h2 (d + c' - c)
        rw [hr] at h3
        rcases h3 with h3 | ⟨h3, hd2⟩
        · rw [h3]; exact .inl rfl
        · rw [h3]; refine .inr ⟨?_, by omega⟩
          simp only; congr 1; omega
theorem pu6 (S1 : Sp.Tm) (Ss : List Sp.Tm) (f a : Tm) (sp : List Tm) (c : Nat) (hS : ∀ s n t c, PutUp S1 s n t c) (hA : ∀ f sp c, AppUp Ss f sp c) : AppUp (S1 :: Ss) f (a :: sp) c := by
  intro c'
  by_cases ho : f.op = 3
  · obtain ⟨fo, fh, fk, fl⟩ := f
    simp only [Tm.op] at ho
    subst ho
    cases fl with
    | nil =>
      have e : ∀ c, app (S1 :: Ss) (.mk 3 fh fk []) (a :: sp) c = .er 23 := fun c => by
        conv => lhs; rw [app.eq_def]
        simp [Tm.op, Tm.args]
      rw [e]; trivial
    | cons b r =>
      rw [app_cons, app_cons]
      have h1 := hS a 0 b c c'
      cases hq : put S1 a 0 b c with
      | er e => trivial
      | ok x d =>
        rw [hq] at h1
        simp only
        rcases h1 with h1 | ⟨h1, hd⟩
        · rw [h1]
          cases app Ss x sp d with
          | er e => trivial
          | ok y d2 => exact .inl rfl
        · rw [h1]
          have h2 := hA x sp d (d + c' - c)
          simp only
          cases hr : app Ss x sp d with
          | er e => trivial
          | ok y d2 =>
            rw [hr] at h2
            rcases h2 with h2 | ⟨h2, hd2⟩
            · exact .inl h2
            · refine .inr ⟨?_, by omega⟩
              rw [h2]; congr 1; omega
  · rw [app_shape _ _ _ _ _ (fun h => absurd h ho)]; trivial
theorem put_up (S : Sp.Tm) (s : Tm) (n : Int) (t : Tm) (c : Nat) : PutUp S s n t c :=
  put_ind_S (P := PutUp) (PL := PutUpL) (PA := AppUp) (fun S s n o h k l c hl ha => pu1 S s n o h k l c hl ha) (fun S s n o i c c' => by rw [putL_nil, putL_nil]; exact .inr ⟨by congr 1; omega, Nat.le_refl _⟩)
    (fun S s n o i t l c ht hl => pu3 S s n o i t l c ht hl) (fun Ss f c c' => by rw [app_nil, app_nil]; exact .inr ⟨by congr 1; omega, Nat.le_refl _⟩) (fun f a sp c c' => by rw [app_shape _ _ _ _ _ (fun _ => rfl)]; trivial)
    (fun S1 Ss f a sp c hS hA => pu6 S1 Ss f a sp c hS hA) S s n t c
theorem step_up (t m : Tm) (c c' : Nat) : SameUp (stepO t m c) (stepO t m c') c c' := by
  unfold stepO
  split
  · split
    · split
      · exact put_up _ _ _ _ _ _
      · trivial
    · trivial
  · trivial
theorem inst_up : ∀ (l : List Tm) (t : Tm) (c c' : Nat), SameUp (instO l t c) (instO l t c') c c'
  | [], t, c, c' => .inr ⟨by show Out.ok t c' = _; congr 1; omega, Nat.le_refl _⟩
  | m :: l, t, c, c' => by
    have h1 := step_up t m c c'
    simp only [instO]
    cases hs : stepO t m c with
    | er e => trivial
    | ok x d =>
      rw [hs] at h1
      simp only
      have h2 := inst_up l x d
      cases hr : instO l x d with
      | er e => trivial
      | ok y d2 =>
        rcases h1 with h1 | ⟨h1, hd⟩
        · rw [h1]; exact .inl rfl
        · rw [h1]
          simp only
          have h3 := h2 (d + c' - c)
          rw [hr] at h3
          rcases h3 with h3 | ⟨h3, hd2⟩
          · exact .inl h3
          · refine .inr ⟨?_, by omega⟩
            rw [h3]; congr 1; omega
end Go.Proofs.Ytieakippgeehgaa
