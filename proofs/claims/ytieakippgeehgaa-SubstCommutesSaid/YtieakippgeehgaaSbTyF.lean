/- What fits a simple type: shifts and substitutions keep it; substitutions commute; an error of a substitution of what fits is that something is too large. Nothing of the program is imported. -/
import Derived.Test.YtieakippgeehgaaSbTyM
namespace Go.Proofs.Ytieakippgeehgaa
set_option linter.unusedSimpArgs false
set_option linter.unusedVariables false

section
variable (K : List Sp.Tm)
mutual
/-- a term is canonical at the simple type with these arguments and this constant; the first one of the context is the variable 0 -/
def Fit : Tm → List Sp.Tm → List Sp.Tm → Int → Prop
  | .mk o h n l, G, a :: Ss, c => o = 3 ∧ h = 0 ∧ n = 0 ∧ FitB l (a :: G) Ss c
  | .mk o h n l, G, [], c => o = 4 ∧ 0 ≤ n ∧ ∃ H : Sp.Tm, ((h = 1 ∧ G[n.toNat]? = some H) ∨ (h = 2 ∧ K[n.toNat]? = some H)) ∧ H.n = c ∧ FitL l G H.args
def FitB : List Tm → List Sp.Tm → List Sp.Tm → Int → Prop
  | [b], G, Ss, c => Fit b G Ss c
  | _, _, _, _ => False
def FitL : List Tm → List Sp.Tm → List Sp.Tm → Prop
  | [], _, [] => True
  | t :: l, G, S :: Ss => Fit t G S.args S.n ∧ FitL l G Ss
  | _, _, _ => False
end
end

theorem fit_lam {K : List Sp.Tm} {t : Tm} {G : List Sp.Tm} {a : Sp.Tm} {Ss : List Sp.Tm} {c : Int} (h : Fit K t G (a :: Ss) c) : ∃ b, t = .mk 3 0 0 [b] ∧ Fit K b (a :: G) Ss c := by
  obtain ⟨o, hd, n, l⟩ := t
  simp only [Fit] at h
  obtain ⟨rfl, rfl, rfl, h⟩ := h
  match l, h with
  | [b], h => exact ⟨b, rfl, h⟩
theorem fit_lam' {K : List Sp.Tm} {b : Tm} {G : List Sp.Tm} {a : Sp.Tm} {Ss : List Sp.Tm} {c : Int} (h : Fit K b (a :: G) Ss c) : Fit K (.mk 3 0 0 [b]) G (a :: Ss) c := by
  simp only [Fit, FitB]; exact ⟨trivial, trivial, trivial, h⟩
theorem fit_app {K : List Sp.Tm} {t : Tm} {G : List Sp.Tm} {c : Int} (h : Fit K t G [] c) : ∃ hd n l, t = .mk 4 hd n l ∧ 0 ≤ n ∧ ∃ H : Sp.Tm, ((hd = 1 ∧ G[n.toNat]? = some H) ∨ (hd = 2 ∧ K[n.toNat]? = some H)) ∧ H.n = c ∧ FitL K l G H.args := by
  obtain ⟨o, hd, n, l⟩ := t
  simp only [Fit] at h
  obtain ⟨rfl, h0, H, h1⟩ := h
  exact ⟨hd, n, l, rfl, h0, H, h1⟩
theorem fitL_cons {K : List Sp.Tm} {l : List Tm} {G : List Sp.Tm} {S : Sp.Tm} {Ss : List Sp.Tm} (h : FitL K l G (S :: Ss)) : ∃ t l', l = t :: l' ∧ Fit K t G S.args S.n ∧ FitL K l' G Ss := by
  match l, h with
  | t :: l', h => simp only [FitL] at h; exact ⟨t, l', rfl, h.1, h.2⟩
  | [], h => simp [FitL] at h
theorem fitL_nil {K : List Sp.Tm} {l : List Tm} {G : List Sp.Tm} (h : FitL K l G []) : l = [] := by
  match l, h with
  | [], h => rfl
  | t :: l', h => simp [FitL] at h
theorem fitL_tail {K : List Sp.Tm} {t : Tm} {l : List Tm} {G : List Sp.Tm} {Ss : List Sp.Tm} (h : FitL K (t :: l) G Ss) : ∃ S Ss', Ss = S :: Ss' ∧ Fit K t G S.args S.n ∧ FitL K l G Ss' := by
  match Ss, h with
  | S :: Ss', h => simp only [FitL] at h; exact ⟨S, Ss', rfl, h.1, h.2⟩
  | [], h => simp [FitL] at h

theorem look_left {α : Type} {A B : List α} {n : Int} (h0 : 0 ≤ n) (h : n < A.length) : (A ++ B)[n.toNat]? = A[n.toNat]? := by
  rw [List.getElem?_append_left (by omega)]
theorem look_right {α : Type} {A B : List α} {n : Int} (h : (A.length : Int) ≤ n) : (A ++ B)[n.toNat]? = B[(n - A.length).toNat]? := by
  rw [List.getElem?_append_right (by omega)]; congr 1; omega

mutual
/-- more types in between -/
theorem fit_weak (K : List Sp.Tm) : ∀ (t : Tm) (A D B Ss : List Sp.Tm) (c : Int), Fit K t (A ++ B) Ss c → Fit K (Tm.moved D.length A.length t) (A ++ (D ++ B)) Ss c
  | .mk o h n l, A, D, B, a :: Ss, c, hf => by
    simp only [Fit] at hf
    obtain ⟨rfl, rfl, rfl, hb⟩ := hf
    match l, hb with
    | [b], hb =>
      simp only [FitB] at hb
      have := fit_weak K b (a :: A) D B Ss c hb
      rw [moved_mk]
      simp only [Tm.movedL]
      refine fit_lam' ?_
      have e : ((A.length : Int) + Tm.belowN 3 0) = ((a :: A).length : Int) := by simp [Tm.belowN]
      rw [e]; exact this
  | .mk o h n l, A, D, B, [], c, hf => by
    simp only [Fit] at hf
    obtain ⟨rfl, h0, H, hh, hc, hl⟩ := hf
    have hl' := fitL_weak K l A D B H.args 0 hl
    rw [moved_mk]
    simp only [Fit]
    refine ⟨trivial, ?_, H, ?_, hc, hl'⟩
    · unfold mvN; split <;> omega
    · rcases hh with ⟨rfl, hg⟩ | ⟨rfl, hg⟩
      · left
        refine ⟨rfl, ?_⟩
        rw [mvN_var]
        by_cases h1 : (A.length : Int) ≤ n
        · rw [if_pos h1, look_right (by omega), look_right (by omega)]
          rw [look_right h1] at hg
          rw [← hg]; congr 1; omega
        · rw [if_neg h1, look_left h0 (by omega)]
          rw [look_left h0 (by omega)] at hg
          exact hg
      · right
        rw [mvN_no (by omega)]
        exact ⟨rfl, hg⟩
theorem fitL_weak (K : List Sp.Tm) : ∀ (l : List Tm) (A D B Ss : List Sp.Tm) (i : Nat), FitL K l (A ++ B) Ss → FitL K (Tm.movedL D.length A.length 4 i l) (A ++ (D ++ B)) Ss
  | [], A, D, B, Ss, i, h => by
    match Ss, h with
    | [], _ => simp [Tm.movedL, FitL]
  | t :: l, A, D, B, Ss, i, h => by
    obtain ⟨S, Ss', rfl, h1, h2⟩ := fitL_tail h
    simp only [Tm.movedL, FitL]
    refine ⟨?_, fitL_weak K l A D B Ss' (i + 1) h2⟩
    have e : ((A.length : Int) + Tm.belowN 4 i) = (A.length : Int) := by simp [Tm.belowN]
    rw [e]; exact fit_weak K t A D B S.args S.n h1
end
theorem fit_weak0 {K : List Sp.Tm} {t : Tm} {D B Ss : List Sp.Tm} {c : Int} (h : Fit K t B Ss c) : Fit K (Tm.moved D.length 0 t) (D ++ B) Ss c := fit_weak K t [] D B Ss c h

/- substitution keeps what fits -/
def PrP (K : List Sp.Tm) (S : Sp.Tm) (t : Tm) : Prop := ∀ (s : Tm) (A B Ss : List Sp.Tm) (c : Int), Fit K t (A ++ S :: B) Ss c → Fit K s B S.args S.n → Fit K (putT S s A.length t) (A ++ B) Ss c
def PrL (K : List Sp.Tm) (S : Sp.Tm) (o : Int) (i : Nat) (l : List Tm) : Prop := (∀ (s : Tm) (A B Ss : List Sp.Tm), o = 4 → FitL K l (A ++ S :: B) Ss → Fit K s B S.args S.n → FitL K (putTL S s A.length 4 i l) (A ++ B) Ss) ∧
  (∀ (s : Tm) (A B Ss : List Sp.Tm) (a : Sp.Tm) (c : Int), o = 3 → i = 0 → FitB K l (a :: (A ++ S :: B)) Ss c → Fit K s B S.args S.n → FitB K (putTL S s A.length 3 0 l) (a :: (A ++ B)) Ss c)
def PrA (K : List Sp.Tm) (Ss : List Sp.Tm) : Prop := ∀ (f : Tm) (sp : List Tm) (G : List Sp.Tm) (c : Int), Fit K f G Ss c → FitL K sp G Ss → Fit K (appT Ss f sp) G [] c
theorem pr1 (K : List Sp.Tm) (S : Sp.Tm) (o h k : Int) (l : List Tm) (hl : PrL K S o 0 l) (hA : PrA K S.args) : PrP K S (.mk o h k l) := by
  intro s A B Ss c hf hs
  rcases Ss with _ | ⟨a, Ss⟩
  · simp only [Fit] at hf
    obtain ⟨rfl, h0, H, hh, hc, hfl⟩ := hf
    have hl' := hl.1 s A B H.args rfl hfl hs
    rw [putT_eq]
    simp only [true_and]
    rcases hh with ⟨rfl, hg⟩ | ⟨rfl, hg⟩
    · simp only [true_and]
      by_cases h1 : (A.length : Int) ≤ k
      · rw [if_pos h1]
        rw [look_right h1] at hg
        by_cases h2 : k = A.length
        · subst h2
          simp at hg
          subst hg
          rw [if_pos rfl]
          subst hc
          exact hA _ _ _ _ (fit_weak0 hs) hl'
        · rw [if_neg h2]
          simp only [Fit]
          refine ⟨trivial, by omega, H, .inl ⟨by trivial, ?_⟩, hc, hl'⟩
          rw [look_right (by omega)]
          rw [← hg, show (k - (A.length : Int)).toNat = (k - 1 - (A.length : Int)).toNat + 1 by omega, List.getElem?_cons_succ]
      · rw [if_neg h1]
        simp only [Fit]
        refine ⟨trivial, h0, H, .inl ⟨by trivial, ?_⟩, hc, hl'⟩
        rw [look_left h0 (by omega)] at hg ⊢
        exact hg
    · rw [if_neg (by omega)]
      simp only [Fit]
      exact ⟨trivial, h0, H, .inr ⟨by trivial, hg⟩, hc, hl'⟩
  · simp only [Fit] at hf
    obtain ⟨rfl, rfl, rfl, hb⟩ := hf
    rw [putT_eq, if_neg (by omega)]
    simp only [Fit]
    exact ⟨trivial, trivial, trivial, hl.2 s A B Ss a c rfl rfl hb hs⟩
theorem pr3 (K : List Sp.Tm) (S : Sp.Tm) (o : Int) (i : Nat) (t : Tm) (l : List Tm) (ht : PrP K S t) (hl : PrL K S o (i + 1) l) : PrL K S o i (t :: l) := by
  refine ⟨fun s A B Ss ho h hs => ?_, fun s A B Ss a c ho hi h hs => ?_⟩
  · obtain ⟨S', Ss', rfl, h1, h2⟩ := fitL_tail h
    rw [putTL_cons]
    simp only [FitL]
    refine ⟨?_, hl.1 s A B Ss' ho h2 hs⟩
    rw [show (A.length : Int) + Tm.belowN 4 i = A.length by simp [Tm.belowN]]
    exact ht s A B _ _ h1 hs
  · subst hi
    match l, h with
    | [], h =>
      simp only [FitB] at h
      rw [putTL_cons, putTL_nil]
      simp only [FitB]
      have := ht s (a :: A) B Ss c h hs
      rw [show (A.length : Int) + Tm.belowN 3 0 = ((a :: A).length : Int) by simp [Tm.belowN]]
      exact this
theorem pr5 (K : List Sp.Tm) (S1 : Sp.Tm) (Ss : List Sp.Tm) (hS : ∀ t, PrP K S1 t) (hA : PrA K Ss) : PrA K (S1 :: Ss) := by
  intro f sp G c hf hs
  obtain ⟨b, rfl, hb⟩ := fit_lam hf
  obtain ⟨a, sp', rfl, ha, hs'⟩ := fitL_cons hs
  rw [appT_cons]
  exact hA _ _ _ _ (hS b a [] G Ss c hb ha) hs'
theorem pr2 (K : List Sp.Tm) (S : Sp.Tm) (o : Int) (i : Nat) : PrL K S o i [] := by
  refine ⟨fun s A B Ss ho h hs => ?_, fun s A B Ss a c ho hi h hs => ?_⟩
  · rw [putTL_nil]
    match Ss, h with
    | [], _ => simp [FitL]
  · simp [FitB] at h
theorem pr4 (K : List Sp.Tm) : PrA K [] := by
  intro f sp G c hf hs
  rw [fitL_nil hs, appT_nil]; exact hf
theorem fit_putT {K : List Sp.Tm} {S : Sp.Tm} {t : Tm} : PrP K S t := tind_S (P := PrP K) (PL := PrL K) (PA := PrA K) (pr1 K) (pr2 K) (pr3 K) (pr4 K) (pr5 K) S t
theorem fit_appT {K : List Sp.Tm} {Ss : List Sp.Tm} : PrA K Ss := tind_A (P := PrP K) (PL := PrL K) (PA := PrA K) (pr1 K) (pr2 K) (pr3 K) (pr4 K) (pr5 K) Ss
theorem fitL_putTL {K : List Sp.Tm} {S : Sp.Tm} {l : List Tm} {s : Tm} {A B Ss : List Sp.Tm} (h : FitL K l (A ++ S :: B) Ss) (hs : Fit K s B S.args S.n) : FitL K (l.map (putT S s A.length)) (A ++ B) Ss := by
  rw [← putTL_map S s A.length l 0]
  exact (tind_l (P := PrP K) (PL := PrL K) (PA := PrA K) S fit_appT (pr1 K) (pr2 K) (pr3 K) l 4 0).1 s A B Ss rfl h hs

/- what fits is put in without an error but that something is too large, and comes to what the total function says -/
def ErOk (x : Tm) : Out Tm → Prop
  | .ok y _ => y = x
  | .er e => e = 5
def ErOkL (x : List Tm) : Out (List Tm) → Prop
  | .ok y _ => y = x
  | .er e => e = 5
theorem erOk_whole (t : Tm) (c : Nat) : ErOk t (whole t c) := by
  unfold whole
  split
  · exact rfl
  · exact rfl
def ErP (K : List Sp.Tm) (S : Sp.Tm) (t : Tm) : Prop := ∀ (s : Tm) (A B Ss : List Sp.Tm) (cc : Int) (c : Nat), Fit K t (A ++ S :: B) Ss cc → Fit K s B S.args S.n → ErOk (putT S s A.length t) (put S s A.length t c)
def ErL (K : List Sp.Tm) (S : Sp.Tm) (o : Int) (i : Nat) (l : List Tm) : Prop := (∀ (s : Tm) (A B Ss : List Sp.Tm) (c : Nat), o = 4 → FitL K l (A ++ S :: B) Ss → Fit K s B S.args S.n → ErOkL (putTL S s A.length 4 i l) (putL S s A.length 4 i l c)) ∧
  (∀ (s : Tm) (A B Ss : List Sp.Tm) (a : Sp.Tm) (cc : Int) (c : Nat), o = 3 → i = 0 → FitB K l (a :: (A ++ S :: B)) Ss cc → Fit K s B S.args S.n → ErOkL (putTL S s A.length 3 0 l) (putL S s A.length 3 0 l c))
def ErA (K : List Sp.Tm) (Ss : List Sp.Tm) : Prop := ∀ (f : Tm) (sp : List Tm) (G : List Sp.Tm) (cc : Int) (c : Nat), Fit K f G Ss cc → FitL K sp G Ss → ErOk (appT Ss f sp) (app Ss f sp c)
theorem er1 (K : List Sp.Tm) (S : Sp.Tm) (o h k : Int) (l : List Tm) (hl : ErL K S o 0 l) (hA : ErA K S.args) : ErP K S (.mk o h k l) := by
  intro s A B Ss cc c hf hs
  rw [put_eq]
  by_cases hc : 20000 ≤ c
  · rw [if_pos hc]; exact rfl
  rw [if_neg hc]
  rcases Ss with _ | ⟨a, Ss⟩
  · simp only [Fit] at hf
    obtain ⟨rfl, h0, H, hh, hcc, hfl⟩ := hf
    have h1 := hl.1 s A B H.args (c + 1) rfl hfl hs
    have hl' := fitL_putTL hfl hs
    rw [putT_eq]
    simp only [true_and]
    cases hq : putL S s A.length 4 0 l (c + 1) with
    | er e => rw [hq] at h1; exact h1
    | ok l' c' =>
      rw [hq] at h1
      have h1' : l' = putTL S s A.length 4 0 l := h1
      subst h1'
      simp only
      by_cases h2 : h = 1 ∧ (A.length : Int) ≤ k
      · rw [if_pos h2, if_pos h2]
        by_cases h3 : k = A.length
        · subst h3
          rw [if_pos rfl, if_pos rfl]
          split
          · rcases hh with ⟨_, hg⟩ | ⟨rfl, _⟩
            · rw [look_right (Int.le_refl _)] at hg
              simp at hg
              subst hg
              rw [putTL_map]
              exact hA _ _ _ _ _ (fit_weak0 hs) hl'
            · omega
          · exact rfl
        · rw [if_neg h3, if_neg h3]; exact erOk_whole _ _
      · rw [if_neg h2, if_neg h2]; exact erOk_whole _ _
  · simp only [Fit] at hf
    obtain ⟨rfl, rfl, rfl, hb⟩ := hf
    have h1 := hl.2 s A B Ss a cc (c + 1) rfl rfl hb hs
    rw [putT_eq, if_neg (by omega)]
    cases hq : putL S s A.length 3 0 l (c + 1) with
    | er e => rw [hq] at h1; exact h1
    | ok l' c' =>
      rw [hq] at h1
      have h1' : l' = putTL S s A.length 3 0 l := h1
      subst h1'
      simp only
      rw [if_neg (by omega)]; exact erOk_whole _ _
theorem er3 (K : List Sp.Tm) (S : Sp.Tm) (o : Int) (i : Nat) (t : Tm) (l : List Tm) (ht : ErP K S t) (hl : ErL K S o (i + 1) l) : ErL K S o i (t :: l) := by
  refine ⟨fun s A B Ss c ho h hs => ?_, fun s A B Ss a cc c ho hi h hs => ?_⟩
  · obtain ⟨S', Ss', rfl, h1, h2⟩ := fitL_tail h
    rw [putTL_cons, putL_cons, show (A.length : Int) + Tm.belowN 4 i = A.length by simp [Tm.belowN]]
    have h3 := ht s A B _ _ c h1 hs
    cases hq : put S s A.length t c with
    | er e => rw [hq] at h3; exact h3
    | ok x d =>
      rw [hq] at h3
      have h4 := hl.1 s A B Ss' d ho h2 hs
      simp only
      cases hr : putL S s A.length 4 (i + 1) l d with
      | er e => rw [hr] at h4; exact h4
      | ok y d2 =>
        rw [hr] at h4
        have e1 : x = _ := h3
        have e2 : y = _ := h4
        rw [e1, e2]; exact rfl
  · subst hi
    match l, h with
    | [], h =>
      simp only [FitB] at h
      have h3 := ht s (a :: A) B Ss cc c h hs
      rw [putTL_cons, putTL_nil, putL_cons, show (A.length : Int) + Tm.belowN 3 0 = ((a :: A).length : Int) by simp [Tm.belowN]]
      cases hq : put S s ((a :: A).length : Int) t c with
      | er e => rw [hq] at h3; exact h3
      | ok x d =>
        rw [hq] at h3
        have e1 : x = _ := h3
        simp only [putL_nil]
        rw [e1]; exact rfl
theorem er2 (K : List Sp.Tm) (S : Sp.Tm) (o : Int) (i : Nat) : ErL K S o i [] := by
  refine ⟨fun s A B Ss c ho h hs => ?_, fun s A B Ss a cc c ho hi h hs => ?_⟩
  · rw [putTL_nil, putL_nil]; exact rfl
  · simp [FitB] at h
theorem er4 (K : List Sp.Tm) : ErA K [] := by
  intro f sp G cc c hf hs
  rw [fitL_nil hs, appT_nil, app_nil]; exact rfl
theorem er5 (K : List Sp.Tm) (S1 : Sp.Tm) (Ss : List Sp.Tm) (hS : ∀ t, ErP K S1 t) (hA : ErA K Ss) : ErA K (S1 :: Ss) := by
  intro f sp G cc c hf hs
  obtain ⟨b, rfl, hb⟩ := fit_lam hf
  obtain ⟨a, sp', rfl, ha, hs'⟩ := fitL_cons hs
  rw [appT_cons, app_cons]
  have h1 := hS b a [] G Ss cc c hb ha
  have h2 := fit_putT a [] G Ss cc hb ha
  simp only [List.length_nil, List.nil_append] at h1 h2
  cases hq : put S1 a 0 b c with
  | er e => rw [show ((0 : Nat) : Int) = 0 from rfl, hq] at h1; exact h1
  | ok x d =>
    rw [show ((0 : Nat) : Int) = 0 from rfl, hq] at h1
    have e1 : x = _ := h1
    subst e1
    exact hA _ _ _ _ d h2 hs'
theorem put_fit {K : List Sp.Tm} {S : Sp.Tm} {t : Tm} : ErP K S t := tind_S (P := ErP K) (PL := ErL K) (PA := ErA K) (er1 K) (er2 K) (er3 K) (er4 K) (er5 K) S t

/- substitutions commute -/
def Dist (K : List Sp.Tm) (Ss : List Sp.Tm) (B : Sp.Tm) : Prop := ∀ (f : Tm) (sp : List Tm) (G1 G3 : List Sp.Tm) (r : Tm) (c : Int), Fit K f (G1 ++ B :: G3) Ss c → FitL K sp (G1 ++ B :: G3) Ss → Fit K r G3 B.args B.n →
  putT B r G1.length (appT Ss f sp) = appT Ss (putT B r G1.length f) (sp.map (putT B r G1.length))
def CmP (K : List Sp.Tm) (A B : Sp.Tm) (t : Tm) : Prop := ∀ (G1 G2 G3 : List Sp.Tm) (s r : Tm) (Ss : List Sp.Tm) (c : Int), Fit K t (G1 ++ A :: (G2 ++ B :: G3)) Ss c → Fit K s (G2 ++ B :: G3) A.args A.n → Fit K r G3 B.args B.n →
  putT A (putT B r G2.length s) G1.length (putT B r (G1.length + 1 + G2.length) t) = putT B r (G1.length + G2.length) (putT A s G1.length t)
theorem dist_of (K : List Sp.Tm) (B : Sp.Tm) : ∀ (Ss : List Sp.Tm), (∀ S1 ∈ Ss, ∀ t, CmP K S1 B t) → Dist K Ss B
  | [], _, f, sp, G1, G3, r, c, hf, hs, hr => by
    rw [fitL_nil hs, List.map_nil, appT_nil, appT_nil]
  | S1 :: Ss, ih, f, sp, G1, G3, r, c, hf, hs, hr => by
    obtain ⟨b, rfl, hb⟩ := fit_lam hf
    obtain ⟨a, sp', rfl, ha, hs'⟩ := fitL_cons hs
    have hx := fit_putT a [] (G1 ++ B :: G3) Ss c hb ha
    simp only [List.length_nil, List.nil_append] at hx
    have hx' : Fit K (putT S1 a 0 b) (G1 ++ B :: G3) Ss c := hx
    rw [appT_cons, List.map_cons, dist_of K B Ss (fun S hS => ih S (by simp [hS])) _ sp' G1 G3 r c hx' hs' hr]
    have hc := ih S1 (by simp) b [] G1 G3 a r Ss c hb ha hr
    simp only [List.length_nil, Int.ofNat_zero, Int.zero_add] at hc
    have e : putT B r G1.length (.mk 3 0 0 [b]) = .mk 3 0 0 [putT B r (1 + G1.length) b] := by
      rw [putT_eq, if_neg (by omega), putTL_cons, putTL_nil]
      congr 3
      simp [Tm.belowN]; omega
    rw [e, appT_cons]
    have hc' : putT S1 (putT B r G1.length a) 0 (putT B r (1 + G1.length) b) = putT B r G1.length (putT S1 a 0 b) := hc
    rw [hc']
mutual
theorem comm_t (K : List Sp.Tm) (A B : Sp.Tm) (hdA : Dist K A.args B) (hdB : Dist K B.args A) : ∀ (t : Tm), CmP K A B t
  | .mk o h k l => fun G1 G2 G3 s r Ss c hf hs hr => by
    rcases Ss with _ | ⟨a, Ss⟩
    · simp only [Fit] at hf
      obtain ⟨rfl, h0, H, hh, hc, hfl⟩ := hf
      have hl := comm_l K A B hdA hdB l G1 G2 G3 s r H.args hfl hs hr
      by_cases h1 : h = 1
      · subst h1
        rcases hh with ⟨_, hg⟩ | ⟨hx, _⟩
        · rcases (by omega : k < G1.length ∨ k = G1.length ∨ ((G1.length : Int) < k ∧ k < G1.length + 1 + G2.length) ∨ k = G1.length + 1 + G2.length ∨ (G1.length : Int) + 1 + G2.length < k) with h2 | h2 | h2 | h2 | h2
          · rw [putT_eq, if_neg (by omega), putT_eq, if_neg (by omega), putT_eq, if_neg (by omega), putT_eq, if_neg (by omega)]
            simp only [putTL_map]
            rw [hl]
          · subst h2
            rw [look_right (Int.le_refl _)] at hg
            simp at hg
            subst hg
            rw [putT_eq B r, if_neg (by omega), putT_eq A, if_pos (by omega), if_pos rfl, putT_eq A s, if_pos (by omega), if_pos rfl]
            simp only [putTL_map]
            have hfm : Fit K (Tm.moved G1.length 0 s) ((G1 ++ G2) ++ B :: G3) A.args A.n := by
              have := fit_weak0 (D := G1) hs
              rwa [← List.append_assoc] at this
            have hfs : FitL K (l.map (putT A s G1.length)) ((G1 ++ G2) ++ B :: G3) A.args := by
              have := fitL_putTL hfl hs
              rwa [← List.append_assoc] at this
            have hd := hdA _ _ _ _ r _ hfm hfs hr
            rw [List.length_append, Int.natCast_add] at hd
            rw [hd, ← hl]
            congr 1
            rw [Int.add_comm (G1.length : Int) G2.length]
            exact (putT_moved B r G1.length (by omega) s 0 G2.length (by omega) (by omega)).symm
          · rw [putT_eq B r, if_neg (by omega), putT_eq A, if_pos (by omega), if_neg (by omega), putT_eq A s, if_pos (by omega), if_neg (by omega), putT_eq B r, if_neg (by omega)]
            simp only [putTL_map]
            rw [hl]
          · have hH : B = H := by
              rw [look_right (by omega)] at hg
              rw [show (k - (G1.length : Int)).toNat = G2.length + 1 by omega, List.getElem?_cons_succ, List.getElem?_append_right (Nat.le_refl _)] at hg
              simp at hg
              exact hg
            subst hH
            rw [putT_eq B r, if_pos (by omega), if_pos h2, putT_eq A s, if_pos (by omega), if_neg (by omega), putT_eq B r, if_pos (by omega), if_pos (by omega)]
            simp only [putTL_map]
            have e0 : (G1 ++ A :: (G2 ++ G3)) = (G1 ++ A :: G2) ++ G3 := by simp
            have hfm : Fit K (Tm.moved (G1.length + 1 + G2.length) 0 r) (G1 ++ A :: (G2 ++ G3)) B.args B.n := by
              have := fit_weak0 (D := G1 ++ A :: G2) hr
              rw [← e0] at this
              have e1 : (((G1 ++ A :: G2).length : Nat) : Int) = G1.length + 1 + G2.length := by simp; omega
              rwa [e1] at this
            have hfs : FitL K (l.map (putT B r (G1.length + 1 + G2.length))) (G1 ++ A :: (G2 ++ G3)) B.args := by
              have e2 : (G1 ++ A :: (G2 ++ B :: G3)) = (G1 ++ A :: G2) ++ B :: G3 := by simp
              rw [e2] at hfl
              have := fitL_putTL hfl hr
              rw [← e0] at this
              have e1 : (((G1 ++ A :: G2).length : Nat) : Int) = G1.length + 1 + G2.length := by simp; omega
              rwa [e1] at this
            have hu : Fit K (putT B r G2.length s) (G2 ++ G3) A.args A.n := fit_putT r G2 G3 _ _ hs hr
            have hd := hdB _ _ G1 (G2 ++ G3) _ _ hfm hfs hu
            rw [hd, hl]
            congr 1
            · rw [putT_gap A _ _ r 0 G1.length (by omega) (by omega)]
              congr 1; omega
          · rw [putT_eq B r, if_pos (by omega), if_neg (by omega), putT_eq A, if_pos (by omega), if_neg (by omega), putT_eq A s, if_pos (by omega), if_neg (by omega), putT_eq B r, if_pos (by omega), if_neg (by omega)]
            simp only [putTL_map]
            rw [hl]
        · omega
      · rw [putT_eq B r, if_neg (by omega), putT_eq A, if_neg (by omega), putT_eq A s, if_neg (by omega), putT_eq B r, if_neg (by omega)]
        simp only [putTL_map]
        rw [hl]
    · simp only [Fit] at hf
      obtain ⟨rfl, rfl, rfl, hb⟩ := hf
      match l, hb with
      | [b], hb =>
        simp only [FitB] at hb
        have := comm_t K A B hdA hdB b (a :: G1) G2 G3 s r Ss c hb hs hr
        have e : (((a :: G1).length : Nat) : Int) = (G1.length : Int) + 1 := by simp
        rw [e] at this
        rw [putT_eq B r, if_neg (by omega), putT_eq A, if_neg (by omega), putT_eq A s, if_neg (by omega), putT_eq B r, if_neg (by omega)]
        simp only [putTL_cons, putTL_nil]
        have eb : Tm.belowN 3 0 = 1 := rfl
        rw [eb, show (G1.length : Int) + 1 + G2.length + 1 = G1.length + 1 + 1 + G2.length by omega, this, show (G1.length : Int) + 1 + G2.length = G1.length + G2.length + 1 by omega]
theorem comm_l (K : List Sp.Tm) (A B : Sp.Tm) (hdA : Dist K A.args B) (hdB : Dist K B.args A) : ∀ (l : List Tm) (G1 G2 G3 : List Sp.Tm) (s r : Tm) (Ss : List Sp.Tm), FitL K l (G1 ++ A :: (G2 ++ B :: G3)) Ss → Fit K s (G2 ++ B :: G3) A.args A.n → Fit K r G3 B.args B.n →
    (l.map (putT B r (G1.length + 1 + G2.length))).map (putT A (putT B r G2.length s) G1.length) = (l.map (putT A s G1.length)).map (putT B r (G1.length + G2.length))
  | [], G1, G2, G3, s, r, Ss, hf, hs, hr => rfl
  | t :: l, G1, G2, G3, s, r, Ss, hf, hs, hr => by
    obtain ⟨S, Ss', rfl, h1, h2⟩ := fitL_tail hf
    simp only [List.map_cons]
    rw [comm_l K A B hdA hdB l G1 G2 G3 s r Ss' h2 hs hr, comm_t K A B hdA hdB t G1 G2 G3 s r _ _ h1 hs hr]
end
theorem comm_all (K : List Sp.Tm) : ∀ (N : Nat) (A B : Sp.Tm), Sp.Tm.sz A + Sp.Tm.sz B ≤ N → ∀ t, CmP K A B t
  | 0, A, B, h => by have := Sp.Tm.sz_pos A; omega
  | N + 1, A, B, h => comm_t K A B
      (dist_of K B A.args fun S1 hS => comm_all K N S1 B (by have := Sp.Tm.szL_le_of_mem hS; have := Sp.Tm.sz_args A; omega))
      (dist_of K A B.args fun S1 hS => comm_all K N S1 A (by have := Sp.Tm.szL_le_of_mem hS; have := Sp.Tm.sz_args B; omega))
/-- substitutions of what fits commute -/
theorem putT_comm {K : List Sp.Tm} {A B : Sp.Tm} {t : Tm} : CmP K A B t := comm_all K _ A B (Nat.le_refl _) t
end Go.Proofs.Ytieakippgeehgaa
