/- The mathematics of SubstRenames. -/
import Derived.Test.YtieakippgeehgaaSbCoM
import Derived.Test.YtieakippgeehgaaSbTyR
import Derived.Test.YtieakippgeehgaaSbGd
namespace Go.Proofs.Ytieakippgeehgaa.Sb
open Go.RowKit
set_option linter.unusedSimpArgs false
set_option linter.unusedVariables false

/-- a head's number with m for n, below b binders -/
def rnN (n m b o h k : Int) : Int := if o = 4 ∧ h = 1 then (if k = n + b then m + b else if n + b < k then k - 1 else k) else k
mutual
/-- a term with m for n, below b binders -/
def rnm (n m : Int) : Int → Tm → Tm
  | b, .mk o h k l => .mk o h (rnN n m b o h k) (rnmL n m (b + if o = 3 then 1 else 0) l)
def rnmL (n m : Int) : Int → List Tm → List Tm
  | _, [] => []
  | b, t :: l => rnm n m b t :: rnmL n m b l
end
theorem rnmL_map (n m b : Int) : ∀ l : List Tm, rnmL n m b l = l.map (rnm n m b)
  | [] => rfl
  | t :: l => by simp only [rnmL, List.map_cons, rnmL_map n m b l]

theorem rnm_lam (n m b : Int) (x : Tm) : rnm n m b (.mk 3 0 0 [x]) = .mk 3 0 0 [rnm n m (b + 1) x] := by simp [rnm, rnmL, rnN]
theorem rnm_var (n m b k : Int) (l : List Tm) : rnm n m b (.mk 4 1 k l) = .mk 4 1 (if k = n + b then m + b else if n + b < k then k - 1 else k) (l.map (rnm n m b)) := by
  simp [rnm, rnmL_map, rnN]
theorem rnm_con (n m b k : Int) (l : List Tm) : rnm n m b (.mk 4 2 k l) = .mk 4 2 k (l.map (rnm n m b)) := by
  simp [rnm, rnmL_map, rnN]
theorem rnm_rn {K : List Sp.Tm} {t : Tm} {G Ss : List Sp.Tm} {c : Int} (hf : Fit K t G Ss c) {n y b : Int} (hn : 0 ≤ n) (hb : 0 ≤ b) : rnm n (y + n) b t = rn (sg (n + b) y) t :=
  fit_ind (K := K) (P := fun t G => ∀ b : Int, 0 ≤ b → ∀ k : Int → Int, (∀ x : Int, 0 ≤ x → x < (G.length : Int) → sg (n + b) y x = k x) → rnm n (y + n) b t = rn k t)
    (fun x G a ih b h k hk => by
      rw [rnm_lam, rn_lam, ih (b + 1) (by omega) (lift k) ?_]
      intro x h0 h1
      rw [show n + (b + 1) = n + b + 1 by omega, ← lift_sg (by omega) h0]
      rcases Int.lt_or_eq_of_le h0 with h2 | h2
      · rw [lift_pos k h2, lift_pos _ h2, ← hk (x - 1) (by omega) (by simp at h1; omega)]
      · subst h2; rw [lift_zero, lift_zero])
    (fun x l G h0 h1 ih b h k hk => by
      rw [rnm_var, rn_var, ← hk x h0 h1]
      have e : (if x = n + b then y + n + b else if n + b < x then x - 1 else x) = sg (n + b) y x := by
        unfold sg
        split
        · omega
        · rfl
      rw [e]; congr 1
      exact List.map_congr_left fun t ht => ih t ht b h k hk)
    (fun x l G ih b h k hk => by
      rw [rnm_con, rn_con]; congr 1
      exact List.map_congr_left fun t ht => ih t ht b h k hk) _ t (Nat.le_refl _) G Ss c hf b hb _ (fun _ _ _ => rfl)

theorem fit_lams' {K : List Sp.Tm} : ∀ (l : List Sp.Tm) (b : Tm) (G : List Sp.Tm) (c : Int), Fit K b (l.reverse ++ G) [] c → Fit K (lams l.length b) G l c
  | [], b, G, c, h => by simpa [lams] using h
  | S :: l, b, G, c, h => by
    simp only [List.length_cons, lams]
    refine fit_lam' (fit_lams' l b (S :: G) c ?_)
    rw [List.reverse_cons, List.append_assoc] at h; exact h
mutual
/-- the long form of a variable is canonical -/
theorem eta_fit {K : List Sp.Tm} : ∀ (S : Sp.Tm) (v : Int) (G : List Sp.Tm), 0 ≤ v → G[v.toNat]? = some S → Fit K (long 1 v S) G S.args S.n
  | .mk cn l, v, G, h0, hg => by
    rw [long_var]
    refine fit_lams' l _ G cn ?_
    simp only [Fit]
    refine ⟨trivial, by omega, .mk cn l, .inl ⟨trivial, ?_⟩, rfl, etaL_fit l l.length 0 _ fun j hj => ?_⟩
    · rw [List.getElem?_append_right (by simp; omega)]
      rw [← hg]; congr 1; simp; omega
    · refine ⟨by omega, ?_⟩
      rw [List.getElem?_append_left (by simp; omega), List.getElem?_reverse (by omega)]
      rw [List.getElem?_eq_getElem (by omega)]
      congr 1; congr 1; omega
theorem etaL_fit {K : List Sp.Tm} : ∀ (l : List Sp.Tm) (c i : Nat) (G : List Sp.Tm), (∀ (j : Nat) (h : j < l.length), 0 ≤ (c : Int) - 1 - ((i + j : Nat) : Int) ∧ G[((c : Int) - 1 - ((i + j : Nat) : Int)).toNat]? = some l[j]) → FitL K (longL c i l) G l
  | [], c, i, G, h => by simp [longL, FitL]
  | a :: l, c, i, G, h => by
    simp only [longL, FitL]
    have h0 := h 0 (by simp)
    simp only [Nat.add_zero, List.getElem_cons_zero] at h0
    refine ⟨eta_fit a _ G h0.1 h0.2, etaL_fit l c (i + 1) G fun j hj => ?_⟩
    have h1 := h (j + 1) (by simp; omega)
    simp only [List.getElem_cons_succ] at h1
    rw [show i + 1 + j = i + (j + 1) by omega]; exact h1
end

/-- what Long and Subst give of a variable that is renamed -/
theorem renames_math {K G : List Sp.Tm} {t : Tm} {cn : Int} {Ss : List Sp.Tm} {L n m : Nat} {A : Sp.Tm} (hL : G.length = L) (hA : G[L - 1 - n]? = some A) (hB : G[L - 1 - m]? = some A) (hn : n < m) (hm : m < L) (hR : rightB K G t (.mk cn Ss) = true) :
    (longOut 1 ((m : Int) - n - 1) A).2 = 5 ∨ ((longOut 1 ((m : Int) - n - 1) A).2 = 0 ∧ Tm.proper (longOut 1 ((m : Int) - n - 1) A).1 = true ∧
    ((substOut t n (longOut 1 ((m : Int) - n - 1) A).1 A).2 = 5 ∨ ((substOut t n (longOut 1 ((m : Int) - n - 1) A).1 A).2 = 0 ∧ (substOut t n (longOut 1 ((m : Int) - n - 1) A).1 A).1 = rnm n ((m : Int) - 1) 0 t))) := by
  obtain ⟨h20, hp, hsm, hf⟩ := rightB_parts hR
  simp only [Sp.Tm.args, Sp.Tm.n] at hf
  have hsA : Sp.Tm.small A = true := by obtain ⟨_, rfl⟩ := List.getElem?_eq_some_iff.1 hA; exact hsm _ (List.getElem_mem _)
  obtain ⟨G1, G2, G3, l1, l2, e1, e2, e3⟩ := ctx_split2 hL hA hB hn hm
  have ft := (fit_iff hp).1 hf
  rw [e1] at ft
  have hargs : longArgs 1 ((m : Int) - n - 1) A = true := by simp [longArgs, isNum, hsA]; omega
  unfold longOut
  rw [hargs, if_pos rfl]
  by_cases hpl : Tm.proper (long 1 ((m : Int) - n - 1) A) = true
  · rw [if_pos hpl]
    right
    refine ⟨rfl, hpl, ?_⟩
    have hl : (G2 ++ A :: G3)[((m : Int) - n - 1).toNat]? = some A := by
      rw [List.getElem?_append_right (by omega), show ((m : Int) - n - 1).toNat - G2.length = 0 by omega]; rfl
    have fs := eta_fit (K := K) A ((m : Int) - n - 1) (G2 ++ A :: G3) (by omega) hl
    have o1 := substOut_fit (by omega) hp hpl hsA ft fs
    rw [show (G1.length : Int) = (n : Int) by omega] at o1
    rcases o1 with ⟨a1, a2, a3, a4⟩ | h
    · right
      refine ⟨a1, ?_⟩
      simp only
      rw [a2]
      have h1 := putT_long (K := K) (S := A) t G1 (G2 ++ A :: G3) Ss cn ((m : Int) - n - 1) ft (by omega) ⟨A, hl, rfl⟩
      rw [show (G1.length : Int) = (n : Int) by omega] at h1
      rw [h1]
      have h2 := rnm_rn ft (n := n) (y := (m : Int) - n - 1) (b := 0) (by omega) (by omega)
      rw [show (m : Int) - n - 1 + n = m - 1 by omega, Int.add_zero] at h2
      exact h2.symm
    · left; exact h
  · rw [if_neg hpl]; left; rfl
end Go.Proofs.Ytieakippgeehgaa.Sb
