/- A long form of a variable, put for another one, changes its number and nothing else. Plain. -/
import Derived.Test.YtieakippgeehgaaSbTyF
import Derived.Test.YtieakippgeehgaaSbGd
namespace Go.Proofs.Ytieakippgeehgaa
set_option linter.unusedSimpArgs false
set_option linter.unusedVariables false
open Sb (lams long longL)

/- renaming -/
def lift (f : Int → Int) : Int → Int := fun x => if x ≤ 0 then x else f (x - 1) + 1
mutual
/-- each free variable's number becomes what f says -/
def rn : (Int → Int) → Tm → Tm
  | f, .mk o h n l => .mk o h (if o = 4 ∧ h = 1 then f n else n) (rnL f o 0 l)
def rnL : (Int → Int) → Int → Nat → List Tm → List Tm
  | _, _, _, [] => []
  | f, o, i, t :: l => rn (if Tm.belowN o i = 1 then lift f else f) t :: rnL f o (i + 1) l
end
theorem rnL_map (f : Int → Int) : ∀ (l : List Tm) (i : Nat), rnL f 4 i l = l.map (rn f)
  | [], i => rfl
  | t :: l, i => by simp only [rnL, rnL_map f l (i + 1)]; simp [Tm.belowN]
theorem rn_lam (f : Int → Int) (b : Tm) : rn f (.mk 3 0 0 [b]) = .mk 3 0 0 [rn (lift f) b] := by simp [rn, rnL, Tm.belowN]
theorem rn_var (f : Int → Int) (n : Int) (l : List Tm) : rn f (.mk 4 1 n l) = .mk 4 1 (f n) (l.map (rn f)) := by simp [rn, rnL_map]
theorem rn_con (f : Int → Int) (n : Int) (l : List Tm) : rn f (.mk 4 2 n l) = .mk 4 2 n (l.map (rn f)) := by simp [rn, rnL_map]
theorem moved_lam (d fr : Int) (b : Tm) : Tm.moved d fr (.mk 3 0 0 [b]) = .mk 3 0 0 [Tm.moved d (fr + 1) b] := by simp [Tm.moved, Tm.movedL, Tm.belowN]
theorem moved_var (d fr n : Int) (l : List Tm) : Tm.moved d fr (.mk 4 1 n l) = .mk 4 1 (if fr ≤ n then n + d else n) (l.map (Tm.moved d fr)) := by rw [moved_mk, mvN_var, movedL_map]
theorem moved_con (d fr n : Int) (l : List Tm) : Tm.moved d fr (.mk 4 2 n l) = .mk 4 2 n (l.map (Tm.moved d fr)) := by rw [moved_mk, mvN_no (by omega), movedL_map]
theorem putT_lam (S : Sp.Tm) (s : Tm) (n : Int) (b : Tm) : putT S s n (.mk 3 0 0 [b]) = .mk 3 0 0 [putT S s (n + 1) b] := by
  rw [putT_eq, if_neg (by omega), putTL_cons, putTL_nil]; rfl

theorem look_lt {α : Type} {G : List α} {n : Int} {x : α} (h0 : 0 ≤ n) (h : G[n.toNat]? = some x) : n < G.length := by
  have := (List.getElem?_eq_some_iff.1 h).1; omega

/-- the case of each term that fits -/
theorem fit_cases {K : List Sp.Tm} {t : Tm} {G Ss : List Sp.Tm} {c : Int} (h : Fit K t G Ss c) :
    (∃ a Ss' b, Ss = a :: Ss' ∧ t = .mk 3 0 0 [b] ∧ Fit K b (a :: G) Ss' c) ∨ (Ss = [] ∧ ∃ n l H, t = .mk 4 1 n l ∧ 0 ≤ n ∧ G[n.toNat]? = some H ∧ H.n = c ∧ FitL K l G H.args) ∨ (Ss = [] ∧ ∃ n l H, t = .mk 4 2 n l ∧ 0 ≤ n ∧ K[n.toNat]? = some H ∧ H.n = c ∧ FitL K l G H.args) := by
  rcases Ss with _ | ⟨a, Ss⟩
  · obtain ⟨hd, n, l, rfl, h0, H, hh, hc, hl⟩ := fit_app h
    rcases hh with ⟨rfl, hg⟩ | ⟨rfl, hg⟩
    · exact .inr (.inl ⟨rfl, n, l, H, rfl, h0, hg, hc, hl⟩)
    · exact .inr (.inr ⟨rfl, n, l, H, rfl, h0, hg, hc, hl⟩)
  · obtain ⟨b, rfl, hb⟩ := fit_lam h
    exact .inl ⟨a, Ss, b, rfl, rfl, hb⟩
theorem fit_var' {K G : List Sp.Tm} {n : Int} {l : List Tm} {H : Sp.Tm} (h0 : 0 ≤ n) (hg : G[n.toNat]? = some H) (hl : FitL K l G H.args) : Fit K (.mk 4 1 n l) G [] H.n := by
  simp only [Fit]; exact ⟨trivial, h0, H, .inl ⟨trivial, hg⟩, rfl, hl⟩
theorem fit_con' {K G : List Sp.Tm} {n : Int} {l : List Tm} {H : Sp.Tm} (h0 : 0 ≤ n) (hg : K[n.toNat]? = some H) (hl : FitL K l G H.args) : Fit K (.mk 4 2 n l) G [] H.n := by
  simp only [Fit]; exact ⟨trivial, h0, H, .inr ⟨trivial, hg⟩, rfl, hl⟩

/-- what holds of every term that fits: by its form -/
theorem fit_ind {K : List Sp.Tm} {P : Tm → List Sp.Tm → Prop}
    (hlam : ∀ b G a, P b (a :: G) → P (.mk 3 0 0 [b]) G)
    (hvar : ∀ n l G, 0 ≤ n → n < (G.length : Int) → (∀ t ∈ l, P t G) → P (.mk 4 1 n l) G)
    (hcon : ∀ n l G, (∀ t ∈ l, P t G) → P (.mk 4 2 n l) G) : ∀ (N : Nat) (t : Tm), Tm.sz t ≤ N → ∀ (G Ss : List Sp.Tm) (c : Int), Fit K t G Ss c → P t G
  | 0, t, h, G, Ss, c, hf => by have := Tm.sz_pos t; omega
  | N + 1, t, h, G, Ss, c, hf => by
    have hL : ∀ (l : List Tm) (Ss : List Sp.Tm), Tm.szL l ≤ N → FitL K l G Ss → ∀ t ∈ l, P t G := by
      intro l
      induction l with
      | nil => intro Ss _ _ t ht; cases ht
      | cons a l ih =>
        intro Ss hN hl t ht
        obtain ⟨S, Ss', rfl, h1, h2⟩ := fitL_tail hl
        simp only [Tm.szL] at hN
        rcases List.mem_cons.1 ht with rfl | ht
        · exact fit_ind hlam hvar hcon N _ (by omega) G _ _ h1
        · exact ih Ss' (by omega) h2 t ht
    rcases fit_cases hf with ⟨a, Ss', b, rfl, rfl, hb⟩ | ⟨rfl, n, l, H, rfl, h0, hg, hc, hl⟩ | ⟨rfl, n, l, H, rfl, h0, hg, hc, hl⟩
    · simp only [Tm.sz, Tm.szL] at h
      exact hlam b G a (fit_ind hlam hvar hcon N b (by omega) _ _ _ hb)
    · simp only [Tm.sz] at h
      exact hvar n l G h0 (look_lt h0 hg) (hL l _ (by omega) hl)
    · simp only [Tm.sz] at h
      exact hcon n l G (hL l _ (by omega) hl)

theorem lift_zero (f : Int → Int) : lift f 0 = 0 := by simp [lift]
theorem lift_pos (f : Int → Int) {x : Int} (h : 0 < x) : lift f x = f (x - 1) + 1 := by unfold lift; rw [if_neg (by omega)]
theorem rn_ext {K : List Sp.Tm} {t : Tm} {G Ss : List Sp.Tm} {c : Int} (hf : Fit K t G Ss c) {f g : Int → Int} (h : ∀ x : Int, 0 ≤ x → x < (G.length : Int) → f x = g x) : rn f t = rn g t :=
  fit_ind (K := K) (P := fun t G => ∀ f g : Int → Int, (∀ x : Int, 0 ≤ x → x < (G.length : Int) → f x = g x) → rn f t = rn g t)
    (fun b G a ih f g h => by
      rw [rn_lam, rn_lam, ih (lift f) (lift g) fun x h0 h1 => ?_]
      rcases Int.lt_or_eq_of_le h0 with h2 | h2
      · rw [lift_pos f h2, lift_pos g h2, h (x - 1) (by omega) (by simp at h1; omega)]
      · subst h2; rw [lift_zero, lift_zero])
    (fun n l G h0 h1 ih f g h => by
      rw [rn_var, rn_var, h n h0 h1]; congr 1
      exact List.map_congr_left fun t ht => ih t ht f g h)
    (fun n l G ih f g h => by
      rw [rn_con, rn_con]; congr 1
      exact List.map_congr_left fun t ht => ih t ht f g h) _ t (Nat.le_refl _) G Ss c hf f g h
theorem rn_comp {K : List Sp.Tm} {t : Tm} {G Ss : List Sp.Tm} {c : Int} (hf : Fit K t G Ss c) {f g : Int → Int} (h : ∀ x : Int, 0 ≤ x → x < (G.length : Int) → 0 ≤ g x) : rn f (rn g t) = rn (fun x => f (g x)) t :=
  fit_ind (K := K) (P := fun t G => ∀ f g : Int → Int, (∀ x : Int, 0 ≤ x → x < (G.length : Int) → 0 ≤ g x) → ∀ k : Int → Int, (∀ x : Int, 0 ≤ x → x < (G.length : Int) → f (g x) = k x) → rn f (rn g t) = rn k t)
    (fun b G a ih f g h k hk => by
      rw [rn_lam, rn_lam, rn_lam, ih (lift f) (lift g) ?_ (lift k) ?_]
      · intro x h0 h1
        rcases Int.lt_or_eq_of_le h0 with h2 | h2
        · rw [lift_pos g h2]; have := h (x - 1) (by omega) (by simp at h1; omega); omega
        · subst h2; rw [lift_zero]; omega
      · intro x h0 h1
        rcases Int.lt_or_eq_of_le h0 with h2 | h2
        · have h3 := h (x - 1) (by omega) (by simp at h1; omega)
          rw [lift_pos g h2, lift_pos k h2, lift_pos f (by omega), show g (x - 1) + 1 - 1 = g (x - 1) by omega, hk (x - 1) (by omega) (by simp at h1; omega)]
        · subst h2; rw [lift_zero, lift_zero, lift_zero])
    (fun n l G h0 h1 ih f g h k hk => by
      rw [rn_var, rn_var, rn_var, hk n h0 h1]; congr 1
      rw [List.map_map]
      exact List.map_congr_left fun t ht => ih t ht f g h k hk)
    (fun n l G ih f g h k hk => by
      rw [rn_con, rn_con, rn_con]; congr 1
      rw [List.map_map]
      exact List.map_congr_left fun t ht => ih t ht f g h k hk) _ t (Nat.le_refl _) G Ss c hf f g h _ (fun _ _ _ => rfl)
theorem moved_rn {K : List Sp.Tm} {t : Tm} {G Ss : List Sp.Tm} {c : Int} (hf : Fit K t G Ss c) {d fr : Int} (hfr : 0 ≤ fr) : Tm.moved d fr t = rn (fun x => if fr ≤ x then x + d else x) t :=
  fit_ind (K := K) (P := fun t G => ∀ fr : Int, 0 ≤ fr → ∀ k : Int → Int, (∀ x : Int, 0 ≤ x → x < (G.length : Int) → (if fr ≤ x then x + d else x) = k x) → Tm.moved d fr t = rn k t)
    (fun b G a ih fr h k hk => by
      rw [moved_lam, rn_lam, ih (fr + 1) (by omega) (lift k) ?_]
      intro x h0 h1
      rcases Int.lt_or_eq_of_le h0 with h2 | h2
      · rw [lift_pos k h2, ← hk (x - 1) (by omega) (by simp at h1; omega)]
        by_cases h3 : fr + 1 ≤ x
        · rw [if_pos h3, if_pos (by omega)]; omega
        · rw [if_neg h3, if_neg (by omega)]; omega
      · subst h2; rw [lift_zero, if_neg (by omega)])
    (fun n l G h0 h1 ih fr h k hk => by
      rw [moved_var, rn_var, hk n h0 h1]; congr 1
      exact List.map_congr_left fun t ht => ih t ht fr h k hk)
    (fun n l G ih fr h k hk => by
      rw [moved_con, rn_con]; congr 1
      exact List.map_congr_left fun t ht => ih t ht fr h k hk) _ t (Nat.le_refl _) G Ss c hf fr hfr _ (fun _ _ _ => rfl)
/-- a renaming that keeps types keeps what fits -/
theorem rn_fit {K : List Sp.Tm} : ∀ (N : Nat) (t : Tm), Tm.sz t ≤ N → ∀ (G G' Ss : List Sp.Tm) (c : Int) (f : Int → Int), Fit K t G Ss c → (∀ x : Int, 0 ≤ x → x < (G.length : Int) → 0 ≤ f x ∧ G'[(f x).toNat]? = G[x.toNat]?) → Fit K (rn f t) G' Ss c
  | 0, t, h, G, G', Ss, c, f, hf, hg => by have := Tm.sz_pos t; omega
  | N + 1, t, h, G, G', Ss, c, f, hf, hg => by
    have hL : ∀ (l : List Tm) (Ss : List Sp.Tm), Tm.szL l ≤ N → FitL K l G Ss → FitL K (l.map (rn f)) G' Ss := by
      intro l
      induction l with
      | nil => intro Ss _ hl; match Ss, hl with | [], _ => simp [FitL]
      | cons a l ih =>
        intro Ss hN hl
        obtain ⟨S, Ss', rfl, h1, h2⟩ := fitL_tail hl
        simp only [Tm.szL] at hN
        simp only [List.map_cons, FitL]
        exact ⟨rn_fit N a (by omega) G G' _ _ f h1 hg, ih Ss' (by omega) h2⟩
    rcases fit_cases hf with ⟨a, Ss', b, rfl, rfl, hb⟩ | ⟨rfl, n, l, H, rfl, h0, hgn, rfl, hl⟩ | ⟨rfl, n, l, H, rfl, h0, hgn, rfl, hl⟩
    · simp only [Tm.sz, Tm.szL] at h
      rw [rn_lam]
      refine fit_lam' (rn_fit N b (by omega) (a :: G) (a :: G') Ss' c (lift f) hb fun x h1 h2 => ?_)
      rcases Int.lt_or_eq_of_le h1 with h3 | h3
      · have h4 := hg (x - 1) (by omega) (by simp at h2; omega)
        rw [lift_pos f h3]
        refine ⟨by omega, ?_⟩
        rw [show (f (x - 1) + 1).toNat = (f (x - 1)).toNat + 1 by omega, show x.toNat = (x - 1).toNat + 1 by omega, List.getElem?_cons_succ, List.getElem?_cons_succ]
        exact h4.2
      · subst h3; rw [lift_zero]; exact ⟨by omega, rfl⟩
    · simp only [Tm.sz] at h
      rw [rn_var]
      have h1 := hg n h0 (look_lt h0 hgn)
      exact fit_var' h1.1 (h1.2.trans hgn) (hL l _ (by omega) hl)
    · simp only [Tm.sz] at h
      rw [rn_con]
      exact fit_con' h0 hgn (hL l _ (by omega) hl)

/- long forms -/
theorem putT_lams (S : Sp.Tm) (s : Tm) : ∀ (k : Nat) (n : Int) (t : Tm), putT S s n (lams k t) = lams k (putT S s (n + k) t)
  | 0, n, t => by simp [lams]
  | k + 1, n, t => by
    simp only [lams]
    rw [putT_lam, putT_lams S s k (n + 1) t, show n + 1 + (k : Int) = n + ((k + 1 : Nat) : Int) by omega]
theorem moved_lams (d : Int) : ∀ (k : Nat) (fr : Int) (t : Tm), Tm.moved d fr (lams k t) = lams k (Tm.moved d (fr + k) t)
  | 0, fr, t => by simp [lams]
  | k + 1, fr, t => by
    simp only [lams]
    rw [moved_lam, moved_lams d k (fr + 1) t, show fr + 1 + (k : Int) = fr + ((k + 1 : Nat) : Int) by omega]
theorem rn_lams (f : Int → Int) : ∀ (k : Nat) (t : Tm), ∃ g, rn f (lams k t) = lams k (rn g t)
  | 0, t => ⟨f, rfl⟩
  | k + 1, t => by
    obtain ⟨g, hg⟩ := rn_lams (lift f) k t
    exact ⟨g, by simp only [lams]; rw [rn_lam, hg]⟩
theorem longL_shift (j : Nat) : ∀ (l : List Sp.Tm) (c i : Nat), longL (c + j) (i + j) l = longL c i l
  | [], c, i => rfl
  | a :: l, c, i => by
    simp only [longL]
    rw [show i + j + 1 = i + 1 + j by omega, longL_shift j l c (i + 1)]
    congr 2; omega
theorem long_var (v : Int) (cn : Int) (l : List Sp.Tm) : long 1 v (.mk cn l) = lams l.length (.mk 4 1 (v + l.length) (longL l.length 0 l)) := by simp [long]

mutual
/-- a variable above those of a long form -/
theorem putT_low (S : Sp.Tm) (s : Tm) : ∀ (T : Sp.Tm) (v k : Int), 0 ≤ k → v < k → putT S s k (long 1 v T) = long 1 v T
  | .mk cn l, v, k, hk, h => by
    rw [long_var, putT_lams, putT_eq, if_neg (by omega), putTL_map, putTL_low S s l l.length 0 (k + l.length) (by omega) (by omega)]
theorem putTL_low (S : Sp.Tm) (s : Tm) : ∀ (l : List Sp.Tm) (c i : Nat) (k : Int), 0 ≤ k → (c : Int) - i ≤ k → (longL c i l).map (putT S s k) = longL c i l
  | [], c, i, k, hk, h => rfl
  | a :: l, c, i, k, hk, h => by
    simp only [longL, List.map_cons]
    rw [putT_low S s a _ k hk (by omega), putTL_low S s l c (i + 1) k hk (by omega)]
end
mutual
theorem moved_low (d : Int) : ∀ (T : Sp.Tm) (v k : Int), 0 ≤ k → v < k → Tm.moved d k (long 1 v T) = long 1 v T
  | .mk cn l, v, k, hk, h => by
    rw [long_var, moved_lams, moved_var, if_neg (by omega), movedL_low d l l.length 0 (k + l.length) (by omega) (by omega)]
theorem movedL_low (d : Int) : ∀ (l : List Sp.Tm) (c i : Nat) (k : Int), 0 ≤ k → (c : Int) - i ≤ k → (longL c i l).map (Tm.moved d k) = longL c i l
  | [], c, i, k, hk, h => rfl
  | a :: l, c, i, k, hk, h => by
    simp only [longL, List.map_cons]
    rw [moved_low d a _ k hk (by omega), movedL_low d l c (i + 1) k hk (by omega)]
end
theorem moved_long (d : Int) (T : Sp.Tm) (v k : Int) (h0 : 0 ≤ k) (h : k ≤ v) : Tm.moved d k (long 1 v T) = long 1 (v + d) T := by
  obtain ⟨cn, l⟩ := T
  rw [long_var, long_var, moved_lams, moved_var, if_pos (by omega), movedL_low d l l.length 0 (k + l.length) (by omega) (by omega)]
  congr 2; omega

/-- what a long form of y, put for n, makes of a variable -/
def sg (n y : Int) : Int → Int := fun x => if x = n then y + n else if n < x then x - 1 else x
theorem lift_sg {n y x : Int} (hn : 0 ≤ n) (h0 : 0 ≤ x) : lift (sg n y) x = sg (n + 1) y x := by
  rcases Int.lt_or_eq_of_le h0 with h2 | h2
  · rw [lift_pos _ h2]; unfold sg
    by_cases h3 : x = n + 1
    · rw [if_pos (by omega), if_pos h3]; omega
    · rw [if_neg (by omega), if_neg h3]
      by_cases h4 : n + 1 < x
      · rw [if_pos (by omega), if_pos h4]; omega
      · rw [if_neg (by omega), if_neg h4]; omega
  · subst h2; rw [lift_zero]; unfold sg; rw [if_neg (by omega), if_neg (by omega)]

/-- renaming by a long form -/
def R1 (K : List Sp.Tm) (S : Sp.Tm) : Prop := ∀ (t : Tm) (A B Ss : List Sp.Tm) (c y : Int), Fit K t (A ++ S :: B) Ss c → 0 ≤ y → (∃ H, B[y.toNat]? = some H ∧ H = S) → putT S (long 1 y S) A.length t = rn (sg A.length y) t
/-- a term put for the long form of a variable -/
def I1 (K : List Sp.Tm) (S : Sp.Tm) : Prop := ∀ (a : Tm) (G : List Sp.Tm) (k : Int), Fit K a G S.args S.n → 0 ≤ k → putT S a k (long 1 k S) = Tm.moved k 0 a
/-- a long form of a variable, applied -/
def A1 (K : List Sp.Tm) (S : Sp.Tm) : Prop := ∀ (sp : List Tm) (G : List Sp.Tm) (z : Int), FitL K sp G S.args → 0 ≤ z → appT S.args (long 1 z S) sp = .mk 4 1 z sp

theorem moved_zero' (t : Tm) (fr : Int) : Tm.moved 0 fr t = t := by
  have h : ∀ N (t : Tm), Tm.sz t ≤ N → ∀ fr, Tm.moved 0 fr t = t := by
    intro N
    induction N with
    | zero => intro t h; have := Tm.sz_pos t; omega
    | succ N ih =>
      intro t h fr
      obtain ⟨o, hd, n, l⟩ := t
      have hl : ∀ (l : List Tm) (o : Int) (i : Nat) (fr : Int), Tm.szL l ≤ N → Tm.movedL 0 fr o i l = l := by
        intro l
        induction l with
        | nil => intro o i fr _; rfl
        | cons a l ih2 =>
          intro o i fr hz
          simp only [Tm.szL] at hz
          simp only [Tm.movedL]
          rw [ih a (by omega), ih2 o (i + 1) fr (by omega)]
      simp only [Tm.sz] at h
      rw [moved_mk, hl l o 0 fr (by omega)]
      congr 1
      unfold mvN; split <;> omega
  exact h _ t (Nat.le_refl _) fr

theorem a1_step (K : List Sp.Tm) (G : List Sp.Tm) (z : Int) (hz : 0 ≤ z) : ∀ (l2 : List Sp.Tm), (∀ S1 ∈ l2, I1 K S1) → ∀ (sp1 sp2 : List Tm), FitL K sp2 G l2 →
    appT l2 (lams l2.length (.mk 4 1 (z + l2.length) (sp1.map (Tm.moved l2.length 0) ++ longL l2.length 0 l2))) sp2 = .mk 4 1 z (sp1 ++ sp2)
  | [], _, sp1, sp2, hs => by
    rw [fitL_nil hs, appT_nil]
    have e : ∀ l : List Tm, l.map (Tm.moved ((0 : Nat) : Int) 0) = l := fun l => by
      conv => rhs; rw [← List.map_id l]
      exact List.map_congr_left fun t _ => moved_zero' t 0
    simp only [lams, longL, List.length_nil, List.append_nil]
    rw [e]
    congr 1; omega
  | S1 :: l2, ih, sp1, sp2, hs => by
    obtain ⟨a, sp', rfl, ha, hs'⟩ := fitL_cons hs
    simp only [List.length_cons, lams, longL]
    rw [appT_cons, putT_lams, putT_eq, if_pos (by omega), if_neg (by omega), putTL_map]
    have e1 : (sp1.map (Tm.moved ((l2.length + 1 : Nat) : Int) 0)).map (putT S1 a (0 + (l2.length : Int))) = sp1.map (Tm.moved (l2.length : Int) 0) := by
      rw [List.map_map]
      refine List.map_congr_left fun t _ => ?_
      show putT S1 a (0 + (l2.length : Int)) (Tm.moved ((l2.length + 1 : Nat) : Int) 0 t) = _
      rw [putT_gap S1 a _ t 0 _ (by omega) (by omega)]
      congr 1; omega
    have e2 : putT S1 a (0 + (l2.length : Int)) (long 1 (((l2.length + 1 : Nat) : Int) - 1 - ((0 : Nat) : Int)) S1) = Tm.moved (l2.length : Int) 0 a := by
      rw [show ((l2.length + 1 : Nat) : Int) - 1 - ((0 : Nat) : Int) = 0 + (l2.length : Int) by omega, ih S1 (by simp) a G _ ha (by omega)]
      congr 1; omega
    have e3 : (longL (l2.length + 1) (0 + 1) l2).map (putT S1 a (0 + (l2.length : Int))) = longL l2.length 0 l2 := by
      rw [longL_shift 1 l2 l2.length 0, putTL_low S1 a l2 _ _ _ (by omega) (by omega)]
    rw [List.map_append, List.map_cons, e1, e2, e3, show z + ((l2.length + 1 : Nat) : Int) - 1 = z + (l2.length : Int) by omega]
    have := a1_step K G z hz l2 (fun S hS => ih S (by simp [hS])) (sp1 ++ [a]) sp' hs'
    rw [List.map_append, List.append_assoc, List.append_assoc] at this
    exact this
theorem a1_of (K : List Sp.Tm) (S : Sp.Tm) (ih : ∀ S1 ∈ S.args, I1 K S1) : A1 K S := by
  intro sp G z hs hz
  obtain ⟨cn, l⟩ := S
  have := a1_step K G z hz l ih [] sp hs
  rw [long_var]
  show appT l _ sp = _
  simpa using this

theorem r1_of (K : List Sp.Tm) (S : Sp.Tm) (hA : A1 K S) : ∀ (N : Nat) (t : Tm), Tm.sz t ≤ N → ∀ (A B Ss : List Sp.Tm) (c y : Int), Fit K t (A ++ S :: B) Ss c → 0 ≤ y → (∃ H, B[y.toNat]? = some H ∧ H = S) → putT S (long 1 y S) A.length t = rn (sg A.length y) t
  | 0, t, h, A, B, Ss, c, y, hf, hy, hS => by have := Tm.sz_pos t; omega
  | N + 1, t, h, A, B, Ss, c, y, hf, hy, hS => by
    have hL : ∀ (l : List Tm) (Ss : List Sp.Tm), Tm.szL l ≤ N → FitL K l (A ++ S :: B) Ss → l.map (putT S (long 1 y S) A.length) = l.map (rn (sg A.length y)) := by
      intro l
      induction l with
      | nil => intro Ss _ _; rfl
      | cons a l ih =>
        intro Ss hN hl
        obtain ⟨S', Ss', rfl, h1, h2⟩ := fitL_tail hl
        simp only [Tm.szL] at hN
        rw [List.map_cons, List.map_cons, r1_of K S hA N a (by omega) A B _ _ y h1 hy hS, ih Ss' (by omega) h2]
    rcases fit_cases hf with ⟨a, Ss', b, rfl, rfl, hb⟩ | ⟨rfl, n, l, H, rfl, h0, hg, rfl, hl⟩ | ⟨rfl, n, l, H, rfl, h0, hg, rfl, hl⟩
    · simp only [Tm.sz, Tm.szL] at h
      have := r1_of K S hA N b (by omega) (a :: A) B Ss' c y hb hy hS
      rw [putT_lam, rn_lam, show (A.length : Int) + 1 = ((a :: A).length : Int) by simp, this]
      congr 2
      refine rn_ext hb fun x h1 h2 => ?_
      rw [lift_sg (by omega) h1, show ((a :: A).length : Int) = (A.length : Int) + 1 by simp]
    · simp only [Tm.sz] at h
      have hl' := hL l _ (by omega) hl
      have hfl := fitL_putTL (s := long 1 y S) hl
      rw [putT_eq, putTL_map, hl', rn_var]
      by_cases h1 : (A.length : Int) ≤ n
      · rw [if_pos (by omega)]
        by_cases h2 : n = A.length
        · subst h2
          rw [if_pos rfl, moved_long _ S y 0 (by omega) hy]
          rw [look_right (Int.le_refl _)] at hg
          simp at hg
          subst hg
          have hfit : FitL K (l.map (rn (sg A.length y))) (A ++ B) S.args := by
            have hsz : ∀ (l : List Tm) (Ss : List Sp.Tm), FitL K l (A ++ S :: B) Ss → FitL K (l.map (rn (sg A.length y))) (A ++ B) Ss := by
              intro l
              induction l with
              | nil => intro Ss hl; match Ss, hl with | [], _ => simp [FitL]
              | cons a l ih2 =>
                intro Ss hl
                obtain ⟨S', Ss', rfl, h3, h4⟩ := fitL_tail hl
                simp only [List.map_cons, FitL]
                refine ⟨rn_fit _ a (Nat.le_refl _) (A ++ S :: B) (A ++ B) _ _ _ h3 fun x hx0 hx1 => ?_, ih2 Ss' h4⟩
                unfold sg
                by_cases hx2 : x = A.length
                · rw [if_pos hx2]
                  refine ⟨by omega, ?_⟩
                  rw [look_right (by omega), look_right (by omega)]
                  obtain ⟨H, hH, rfl⟩ := hS
                  rw [show (y + (A.length : Int) - A.length).toNat = y.toNat by omega, hH, show (x - (A.length : Int)).toNat = 0 by omega]; rfl
                · rw [if_neg hx2]
                  by_cases hx3 : (A.length : Int) < x
                  · rw [if_pos hx3]
                    refine ⟨by omega, ?_⟩
                    rw [look_right (by omega), look_right (by omega), show (x - (A.length : Int)).toNat = (x - 1 - (A.length : Int)).toNat + 1 by omega, List.getElem?_cons_succ]
                  · rw [if_neg hx3]
                    refine ⟨hx0, ?_⟩
                    rw [look_left hx0 (by omega), look_left hx0 (by omega)]
            exact hsz l _ hl
          rw [hA _ _ _ hfit (by omega)]
          congr 1
          unfold sg; rw [if_pos rfl]
        · rw [if_neg h2]
          congr 1
          unfold sg; rw [if_neg h2, if_pos (by omega)]
      · rw [if_neg (by omega)]
        congr 1
        unfold sg; rw [if_neg (by omega), if_neg (by omega)]
    · simp only [Tm.sz] at h
      rw [putT_eq, if_neg (by omega), putTL_map, hL l _ (by omega) hl, rn_con]

/- what the eta expansion's body becomes -/
def rh (q len k : Int) : Int → Int := fun x => if x < q then x else if x < len then x + q else x + k + q
theorem fit_lams {K : List Sp.Tm} : ∀ (l : List Sp.Tm) (a : Tm) (G : List Sp.Tm) (c : Int), Fit K a G l c → ∃ b, a = lams l.length b ∧ Fit K b (l.reverse ++ G) [] c
  | [], a, G, c, h => ⟨a, rfl, h⟩
  | S :: l, a, G, c, h => by
    obtain ⟨b, rfl, hb⟩ := fit_lam h
    obtain ⟨b', rfl, hb'⟩ := fit_lams l b (S :: G) c hb
    refine ⟨b', rfl, ?_⟩
    rw [List.reverse_cons, List.append_assoc]; exact hb'
theorem i1_step (K : List Sp.Tm) (G : List Sp.Tm) (S0 : Sp.Tm) (k : Nat) (c : Int) (b : Tm) (l : List Sp.Tm) (hb : Fit K b (l.reverse ++ G) [] c) : ∀ (l2 l1 : List Sp.Tm), l = l1 ++ l2 → (∀ S1 ∈ l2, R1 K S1) →
    appT l2 (lams l2.length (rn (rh l2.length l.length k) b)) (longL l2.length 0 l2) = rn (rh 0 l.length k) b
  | [], l1, _, _ => by
    simp only [lams, longL, List.length_nil, appT_nil]
    rfl
  | S1 :: l2, l1, hl, ih => by
    have hlen : l.length = l1.length + (l2.length + 1) := by rw [hl]; simp
    simp only [List.length_cons, lams, longL]
    rw [appT_cons, putT_lams, show (1 : Nat) = 0 + 1 from rfl, longL_shift 1 l2 l2.length 0]
    have hctx : Fit K (rn (rh ((l2.length + 1 : Nat) : Int) l.length k) b) (l2.reverse ++ S1 :: (l.reverse ++ (List.replicate k S0 ++ G))) [] c := by
      refine rn_fit _ b (Nat.le_refl _) (l.reverse ++ G) _ _ _ _ hb fun x h0 h1 => ?_
      unfold rh
      have hrev : l.reverse = l2.reverse ++ S1 :: l1.reverse := by rw [hl]; simp
      by_cases h2 : x < ((l2.length + 1 : Nat) : Int)
      · rw [if_pos h2]
        refine ⟨h0, ?_⟩
        conv => rhs; rw [hrev, List.append_assoc]
        by_cases h3 : x < (l2.length : Int)
        · rw [look_left h0 (by simp; omega), look_left h0 (by simp; omega)]
        · rw [look_right (by simp; omega), look_right (by simp; omega)]
          have e : (x - ((l2.reverse.length : Nat) : Int)).toNat = 0 := by simp; omega
          rw [e]; rfl
      · rw [if_neg h2]
        by_cases h3 : x < (l.length : Int)
        · rw [if_pos h3]
          refine ⟨by omega, ?_⟩
          rw [look_right (by simp; omega)]
          have e : (x + ((l2.length + 1 : Nat) : Int) - ((l2.reverse.length : Nat) : Int)).toNat = x.toNat + 1 := by simp; omega
          rw [e, List.getElem?_cons_succ, List.getElem?_append_left (by simp; omega), List.getElem?_append_left (by simp; omega)]
        · rw [if_neg h3]
          refine ⟨by omega, ?_⟩
          rw [look_right (by simp; omega)]
          have e : (x + (k : Int) + ((l2.length + 1 : Nat) : Int) - ((l2.reverse.length : Nat) : Int)).toNat = x.toNat + k + 1 := by simp; omega
          rw [e, List.getElem?_cons_succ, List.getElem?_append_right (by simp; omega), List.getElem?_append_right (by simp; omega), List.getElem?_append_right (by simp; omega)]
          congr 1; simp; omega
    have hr := ih S1 (by simp) _ l2.reverse (l.reverse ++ (List.replicate k S0 ++ G)) [] c l2.length hctx (by omega) ⟨S1, by
      have hrev : l.reverse = l2.reverse ++ S1 :: l1.reverse := by rw [hl]; simp
      rw [List.getElem?_append_left (by simp; omega), hrev, List.getElem?_append_right (by simp)]
      simp, rfl⟩
    rw [List.length_reverse] at hr
    rw [show ((l2.length + 1 : Nat) : Int) - 1 - ((0 : Nat) : Int) = (l2.length : Int) by omega, Int.zero_add, hr, rn_comp hb (fun x h0 h1 => by unfold rh; split <;> (try split) <;> omega)]
    have e : rn (fun x => sg l2.length l2.length (rh ((l2.length + 1 : Nat) : Int) l.length k x)) b = rn (rh l2.length l.length k) b := by
      refine rn_ext hb fun x h0 h1 => ?_
      unfold sg rh
      by_cases h2 : x < (l2.length : Int)
      · rw [if_pos (by omega : x < ((l2.length + 1 : Nat) : Int)), if_neg (by omega), if_neg (by omega), if_pos h2]
      · by_cases h3 : x = (l2.length : Int)
        · rw [if_pos (by omega : x < ((l2.length + 1 : Nat) : Int)), if_pos h3, if_neg h2, if_pos (by omega)]; omega
        · rw [if_neg (by omega : ¬ x < ((l2.length + 1 : Nat) : Int)), if_neg h2]
          by_cases h4 : x < (l.length : Int)
          · rw [if_pos h4, if_neg (by omega), if_pos (by omega)]; omega
          · rw [if_neg h4, if_neg (by omega), if_pos (by omega)]; omega
    rw [e]
    exact i1_step K G S0 k c b l hb l2 (l1 ++ [S1]) (by rw [hl]; simp) (fun S hS => ih S (by simp [hS]))
theorem i1_of (K : List Sp.Tm) (S : Sp.Tm) (ih : ∀ S1 ∈ S.args, R1 K S1) : I1 K S := by
  intro a G k hf hk
  obtain ⟨cn, l⟩ := S
  obtain ⟨b, rfl, hb⟩ := fit_lams l a G _ hf
  obtain ⟨k, rfl⟩ : ∃ m : Nat, k = m := ⟨k.toNat, by omega⟩
  rw [long_var, putT_lams, putT_eq, if_pos (by omega), if_pos rfl, putTL_map, putTL_low _ _ l _ _ _ (by omega) (by omega), moved_lams, moved_lams]
  congr 1
  have h1 := i1_step K G (.mk cn l) k _ b l hb l [] rfl ih
  have e1 : Tm.moved ((k : Int) + l.length) (0 + (l.length : Int)) b = rn (rh l.length l.length k) b := by
    rw [moved_rn hb (by omega)]
    refine rn_ext hb fun x h0 h1 => ?_
    unfold rh
    by_cases h2 : x < (l.length : Int)
    · rw [if_neg (by omega), if_pos h2]
    · rw [if_pos (by omega), if_neg h2, if_neg h2]; omega
  have e2 : Tm.moved (k : Int) (0 + (l.length : Int)) b = rn (rh 0 l.length k) b := by
    rw [moved_rn hb (by omega)]
    refine rn_ext hb fun x h0 h1 => ?_
    unfold rh
    by_cases h2 : x < (l.length : Int)
    · rw [if_neg (by omega), if_neg (by omega), if_pos h2]; omega
    · rw [if_pos (by omega), if_neg (by omega), if_neg h2]; omega
  rw [e1, e2]
  exact h1
theorem eta_all (K : List Sp.Tm) : ∀ (N : Nat) (S : Sp.Tm), Sp.Tm.sz S ≤ N → R1 K S ∧ I1 K S
  | 0, S, h => by have := Sp.Tm.sz_pos S; omega
  | N + 1, S, h => by
    have ih : ∀ S1 ∈ S.args, R1 K S1 ∧ I1 K S1 := fun S1 hS => eta_all K N S1 (by have := Sp.Tm.szL_le_of_mem hS; have := Sp.Tm.sz_args S; omega)
    exact ⟨fun t A B Ss c y hf hy hS => r1_of K S (a1_of K S fun S1 h1 => (ih S1 h1).2) _ t (Nat.le_refl _) A B Ss c y hf hy hS, i1_of K S fun S1 h1 => (ih S1 h1).1⟩
/-- the long form of a variable, put for another one of the same simple type, changes its number alone -/
theorem putT_long {K : List Sp.Tm} {S : Sp.Tm} : R1 K S := (eta_all K _ S (Nat.le_refl _)).1
end Go.Proofs.Ytieakippgeehgaa
