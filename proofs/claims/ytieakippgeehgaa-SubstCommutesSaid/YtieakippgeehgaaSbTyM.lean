/- Substitution without counts, as a total function on terms; shifts and substitutions commute; what fits a simple type; substitutions commute. Nothing of the program is imported. -/
import Derived.Test.YtieakippgeehgaaSmGa
namespace Go.Proofs.Ytieakippgeehgaa
set_option linter.unusedSimpArgs false
set_option linter.unusedVariables false

mutual
/-- the object s, of the simple type S, put for n in a term -/
def putT (S : Sp.Tm) (s : Tm) (n : Int) (t : Tm) : Tm :=
  match t with
  | .mk o h k l =>
    if o = 4 ∧ h = 1 ∧ n ≤ k then
      if k = n then appT S.args (Tm.moved n 0 s) (putTL S s n o 0 l)
      else .mk o h (k - 1) (putTL S s n o 0 l)
    else .mk o h k (putTL S s n o 0 l)
termination_by (Sp.Tm.sz S, Tm.sz t, 0)
decreasing_by
  · simp only [Tm.sz]; apply Prod.Lex.right; apply Prod.Lex.left; omega
  · rw [Sp.Tm.sz_args, Nat.add_comm]; apply Prod.Lex.right; apply Prod.Lex.left; have := Tm.sz_pos (.mk o h k l); omega
  · simp only [Tm.sz]; apply Prod.Lex.right; apply Prod.Lex.left; omega
  · simp only [Tm.sz]; apply Prod.Lex.right; apply Prod.Lex.left; omega
def putTL (S : Sp.Tm) (s : Tm) (n o : Int) (i : Nat) (l : List Tm) : List Tm :=
  match l with
  | [] => []
  | t :: l => putT S s (n + Tm.belowN o i) t :: putTL S s n o (i + 1) l
termination_by (Sp.Tm.sz S, Tm.szL l, 1)
decreasing_by
  · have := Tm.sz_pos t
    simp only [Tm.szL]
    rcases Nat.eq_or_lt_of_le (show Tm.sz t ≤ Tm.sz t + Tm.szL l by omega) with e | e
    · rw [← e]; apply Prod.Lex.right; apply Prod.Lex.right; omega
    · apply Prod.Lex.right; apply Prod.Lex.left; exact e
  · have := Tm.sz_pos t
    simp only [Tm.szL]
    apply Prod.Lex.right; apply Prod.Lex.left; omega
/-- f applied to a list, at these simple types of arguments -/
def appT (Ss : List Sp.Tm) (f : Tm) (sp : List Tm) : Tm :=
  match sp with
  | [] => f
  | a :: sp =>
    if f.op = 3 then
      match f.args, Ss with
      | b :: _, S1 :: Ss' => appT Ss' (putT S1 a 0 b) sp
      | _, _ => .mk 0 0 0 []
    else .mk 0 0 0 []
termination_by (Sp.Tm.szL Ss + 1, 0, 0)
decreasing_by
  · apply Prod.Lex.left; simp only [Sp.Tm.szL]; omega
  · apply Prod.Lex.left; have := Sp.Tm.sz_pos S1; simp only [Sp.Tm.szL]; omega
end

theorem putT_eq (S : Sp.Tm) (s : Tm) (n o h k : Int) (l : List Tm) : putT S s n (.mk o h k l) =
    if o = 4 ∧ h = 1 ∧ n ≤ k then
      if k = n then appT S.args (Tm.moved n 0 s) (putTL S s n o 0 l)
      else .mk o h (k - 1) (putTL S s n o 0 l)
    else .mk o h k (putTL S s n o 0 l) := by rw [putT]
theorem putTL_nil (S : Sp.Tm) (s : Tm) (n o : Int) (i : Nat) : putTL S s n o i [] = [] := by rw [putTL]
theorem putTL_cons (S : Sp.Tm) (s : Tm) (n o : Int) (i : Nat) (t : Tm) (l : List Tm) : putTL S s n o i (t :: l) = putT S s (n + Tm.belowN o i) t :: putTL S s n o (i + 1) l := by rw [putTL]
theorem appT_nil (Ss : List Sp.Tm) (f : Tm) : appT Ss f [] = f := by rw [appT]
theorem appT_cons (S1 : Sp.Tm) (Ss : List Sp.Tm) (h k : Int) (b a : Tm) (r sp : List Tm) : appT (S1 :: Ss) (.mk 3 h k (b :: r)) (a :: sp) = appT Ss (putT S1 a 0 b) sp := by
  conv => lhs; rw [appT.eq_def]
  rfl
theorem appT_op (Ss : List Sp.Tm) (f : Tm) (a : Tm) (sp : List Tm) (h : ¬ f.op = 3) : appT Ss f (a :: sp) = .mk 0 0 0 [] := by
  conv => lhs; rw [appT.eq_def]
  simp only [h, if_false]
theorem appT_no (f : Tm) (a : Tm) (sp : List Tm) : appT [] f (a :: sp) = .mk 0 0 0 [] := by
  conv => lhs; rw [appT.eq_def]
  simp only
  split
  · cases f.args <;> rfl
  · rfl
theorem appT_bare (Ss : List Sp.Tm) (h k : Int) (a : Tm) (sp : List Tm) : appT Ss (.mk 3 h k []) (a :: sp) = .mk 0 0 0 [] := by
  conv => lhs; rw [appT.eq_def]
  simp [Tm.op, Tm.args]
theorem putTL_map (S : Sp.Tm) (s : Tm) (n : Int) : ∀ (l : List Tm) (i : Nat), putTL S s n 4 i l = l.map (putT S s n)
  | [], i => putTL_nil _ _ _ _ _
  | t :: l, i => by rw [putTL_cons, putTL_map S s n l (i + 1)]; simp [Tm.belowN]
theorem movedL_map (d f : Int) : ∀ (l : List Tm) (i : Nat), Tm.movedL d f 4 i l = l.map (Tm.moved d f)
  | [], i => rfl
  | t :: l, i => by simp only [Tm.movedL, movedL_map d f l (i + 1)]; simp [Tm.belowN]

section
variable {P : Sp.Tm → Tm → Prop} {PL : Sp.Tm → Int → Nat → List Tm → Prop} {PA : List Sp.Tm → Prop}
mutual
theorem tind_t (S : Sp.Tm) (hA : PA S.args) (h1 : ∀ S o h k l, PL S o 0 l → PA S.args → P S (.mk o h k l)) (h2 : ∀ S o i, PL S o i []) (h3 : ∀ S o i t l, P S t → PL S o (i + 1) l → PL S o i (t :: l)) : ∀ (t : Tm), P S t
  | .mk o h k l => h1 S o h k l (tind_l S hA h1 h2 h3 l o 0) hA
theorem tind_l (S : Sp.Tm) (hA : PA S.args) (h1 : ∀ S o h k l, PL S o 0 l → PA S.args → P S (.mk o h k l)) (h2 : ∀ S o i, PL S o i []) (h3 : ∀ S o i t l, P S t → PL S o (i + 1) l → PL S o i (t :: l)) : ∀ (l : List Tm) o i, PL S o i l
  | [], o, i => h2 S o i
  | t :: l, o, i => h3 S o i t l (tind_t S hA h1 h2 h3 t) (tind_l S hA h1 h2 h3 l o (i + 1))
end
mutual
theorem tind_S (h1 : ∀ S o h k l, PL S o 0 l → PA S.args → P S (.mk o h k l)) (h2 : ∀ S o i, PL S o i []) (h3 : ∀ S o i t l, P S t → PL S o (i + 1) l → PL S o i (t :: l))
    (h4 : PA []) (h5 : ∀ S1 Ss, (∀ t, P S1 t) → PA Ss → PA (S1 :: Ss)) : ∀ (S : Sp.Tm) t, P S t
  | .mk cn Ss, t => tind_t (.mk cn Ss) (tind_A h1 h2 h3 h4 h5 Ss) h1 h2 h3 t
theorem tind_A (h1 : ∀ S o h k l, PL S o 0 l → PA S.args → P S (.mk o h k l)) (h2 : ∀ S o i, PL S o i []) (h3 : ∀ S o i t l, P S t → PL S o (i + 1) l → PL S o i (t :: l))
    (h4 : PA []) (h5 : ∀ S1 Ss, (∀ t, P S1 t) → PA Ss → PA (S1 :: Ss)) : ∀ (Ss : List Sp.Tm), PA Ss
  | [] => h4
  | S1 :: Ss => h5 S1 Ss (tind_S h1 h2 h3 h4 h5 S1) (tind_A h1 h2 h3 h4 h5 Ss)
end
end

/- shifts -/
/-- the number of a shifted head -/
def mvN (d f o h n : Int) : Int := if o == 4 && h == 1 && decide (f ≤ n) then n + d else n
theorem moved_mk (d f o h n : Int) (l : List Tm) : Tm.moved d f (.mk o h n l) = .mk o h (mvN d f o h n) (Tm.movedL d f o 0 l) := rfl
theorem mvN_var (d f n : Int) : mvN d f 4 1 n = if f ≤ n then n + d else n := by unfold mvN; simp
theorem mvN_no {d f o h n : Int} (e : ¬ (o = 4 ∧ h = 1)) : mvN d f o h n = n := by
  unfold mvN
  rw [if_neg]
  simp only [Bool.and_eq_true, beq_iff_eq, decide_eq_true_eq]
  exact fun x => e x.1

mutual
theorem moved_add (d e : Int) : ∀ (t : Tm) (f g : Int), f ≤ g → g ≤ f + e → Tm.moved d g (Tm.moved e f t) = Tm.moved (d + e) f t
  | .mk o h n l, f, g, h1, h2 => by
    simp only [moved_mk, movedL_add d e l f g o 0 h1 h2]
    congr 1
    by_cases ho : o = 4 ∧ h = 1
    · obtain ⟨rfl, rfl⟩ := ho
      simp only [mvN_var]
      split <;> split <;> omega
    · simp only [mvN_no ho]
theorem movedL_add (d e : Int) : ∀ (l : List Tm) (f g o : Int) (i : Nat), f ≤ g → g ≤ f + e → Tm.movedL d g o i (Tm.movedL e f o i l) = Tm.movedL (d + e) f o i l
  | [], _, _, _, _, _, _ => rfl
  | t :: l, f, g, o, i, h1, h2 => by
    simp only [Tm.movedL, movedL_add d e l f g o (i + 1) h1 h2, moved_add d e t (f + Tm.belowN o i) (g + Tm.belowN o i) (by omega) (by omega)]
end
mutual
theorem moved_comm (d e : Int) (hd0 : 0 ≤ d) (he : 0 ≤ e) : ∀ (t : Tm) (g f : Int), g ≤ f → Tm.moved d (f + e) (Tm.moved e g t) = Tm.moved e g (Tm.moved d f t)
  | .mk o h n l, g, f, h1 => by
    simp only [moved_mk, movedL_comm d e hd0 he l g f o 0 h1]
    congr 1
    by_cases ho : o = 4 ∧ h = 1
    · obtain ⟨rfl, rfl⟩ := ho
      simp only [mvN_var]
      by_cases hd : f ≤ n
      · rw [if_pos hd, if_pos (by omega : g ≤ n), if_pos (by omega)]
        rw [if_pos (by omega : g ≤ n + d)]; omega
      · rw [if_neg hd]
        by_cases hg : g ≤ n
        · rw [if_pos hg, if_neg (by omega)]
        · rw [if_neg hg, if_neg (by omega)]
    · simp only [mvN_no ho]
theorem movedL_comm (d e : Int) (hd0 : 0 ≤ d) (he : 0 ≤ e) : ∀ (l : List Tm) (g f o : Int) (i : Nat), g ≤ f → Tm.movedL d (f + e) o i (Tm.movedL e g o i l) = Tm.movedL e g o i (Tm.movedL d f o i l)
  | [], _, _, _, _, _ => rfl
  | t :: l, g, f, o, i, h1 => by
    simp only [Tm.movedL, movedL_comm d e hd0 he l g f o (i + 1) h1]
    rw [← moved_comm d e hd0 he t (g + Tm.belowN o i) (f + Tm.belowN o i) (by omega)]
    congr 2; omega
end

/- a shift above the variable that is put for -/
def MvP (S : Sp.Tm) (t : Tm) : Prop := ∀ (d f n : Int) (s : Tm), 0 ≤ d → 0 ≤ n → n ≤ f → Tm.moved d f (putT S s n t) = putT S (Tm.moved d (f - n) s) n (Tm.moved d (f + 1) t)
def MvL (S : Sp.Tm) (o : Int) (i : Nat) (l : List Tm) : Prop := ∀ (d f n : Int) (s : Tm), 0 ≤ d → 0 ≤ n → n ≤ f → Tm.movedL d f o i (putTL S s n o i l) = putTL S (Tm.moved d (f - n) s) n o i (Tm.movedL d (f + 1) o i l)
def MvA (Ss : List Sp.Tm) : Prop := ∀ (d f : Int), 0 ≤ d → 0 ≤ f → ∀ (g : Tm) (sp : List Tm), Tm.moved d f (appT Ss g sp) = appT Ss (Tm.moved d f g) (sp.map (Tm.moved d f))

theorem mv1 (S : Sp.Tm) (o h k : Int) (l : List Tm) (hl : MvL S o 0 l) (hA : MvA S.args) : MvP S (.mk o h k l) := by
  intro d f n s hd hn hf
  by_cases ho : o = 4 ∧ h = 1
  · obtain ⟨rfl, rfl⟩ := ho
    have hl' := hl d f n s hd hn hf
    rw [putT_eq, moved_mk, putT_eq, mvN_var]
    simp only [true_and]
    by_cases h1 : n ≤ k
    · rw [if_pos h1]
      by_cases h2 : k = n
      · subst h2
        rw [if_pos rfl, if_neg (by omega : ¬ f + 1 ≤ k), if_pos h1, if_pos rfl, hA d f hd (by omega)]
        simp only [putTL_map, movedL_map] at hl' ⊢
        rw [← hl']
        congr 1
        have := moved_comm d k hd hn s 0 (f - k) (by omega)
        rw [show f - k + k = f by omega] at this
        exact this
      · rw [if_neg h2, moved_mk, mvN_var, hl']
        by_cases h3 : f + 1 ≤ k
        · rw [if_pos h3, if_pos (by omega : f ≤ k - 1), if_pos (by omega : n ≤ k + d), if_neg (by omega : ¬ k + d = n)]
          congr 1; omega
        · rw [if_neg h3, if_neg (by omega : ¬ f ≤ k - 1), if_pos h1, if_neg h2]
    · rw [if_neg h1, moved_mk, mvN_var, hl', if_neg (by omega : ¬ f ≤ k), if_neg (by omega : ¬ f + 1 ≤ k), if_neg h1]
  · have e : ∀ x : Int, ¬ (o = 4 ∧ h = 1 ∧ n ≤ x) := fun x y => ho ⟨y.1, y.2.1⟩
    rw [putT_eq, if_neg (e k), moved_mk, moved_mk, putT_eq, mvN_no ho, mvN_no ho, if_neg (e k), hl d f n s hd hn hf]
theorem mv3 (S : Sp.Tm) (o : Int) (i : Nat) (t : Tm) (l : List Tm) (ht : MvP S t) (hl : MvL S o (i + 1) l) : MvL S o i (t :: l) := by
  intro d f n s hd hn hf
  have hb := Tm.belowN_bd o i
  simp only [putTL_cons, Tm.movedL, hl d f n s hd hn hf]
  rw [ht d (f + Tm.belowN o i) (n + Tm.belowN o i) s hd (by omega) (by omega)]
  congr 2
  · congr 1; omega
  · congr 1; omega
theorem mv5 (S1 : Sp.Tm) (Ss : List Sp.Tm) (hS : ∀ t, MvP S1 t) (hA : MvA Ss) : MvA (S1 :: Ss) := by
  intro d f hd hf g sp
  rcases sp with _ | ⟨a, sp⟩
  · rw [List.map_nil, appT_nil, appT_nil]
  obtain ⟨o, h, k, l⟩ := g
  rw [List.map_cons, moved_mk]
  by_cases ho : o = 3
  · subst ho
    rcases l with _ | ⟨b, r⟩
    · rw [appT_bare]
      simp only [Tm.movedL]
      rw [appT_bare]; rfl
    · rw [appT_cons, hA d f hd hf, hS b d f 0 a hd (by omega) hf]
      simp only [Tm.movedL]
      rw [appT_cons, show f - 0 = f by omega]
      rfl
  · rw [appT_op _ _ _ _ (by simpa [Tm.op] using ho), appT_op _ _ _ _ (by simpa [Tm.op] using ho)]; rfl
theorem moved_putT (S : Sp.Tm) (t : Tm) : MvP S t :=
  tind_S (P := MvP) (PL := MvL) (PA := MvA) mv1 (fun S o i d f n s _ _ _ => by simp only [putTL_nil, Tm.movedL]) mv3
    (fun d f _ _ g sp => by
      rcases sp with _ | ⟨a, sp⟩
      · rw [List.map_nil, appT_nil, appT_nil]
      · rw [List.map_cons, appT_no, appT_no]; rfl) mv5 S t
theorem moved_appT (Ss : List Sp.Tm) : MvA Ss :=
  tind_A (P := MvP) (PL := MvL) (PA := MvA) mv1 (fun S o i d f n s _ _ _ => by simp only [putTL_nil, Tm.movedL]) mv3
    (fun d f _ _ g sp => by
      rcases sp with _ | ⟨a, sp⟩
      · rw [List.map_nil, appT_nil, appT_nil]
      · rw [List.map_cons, appT_no, appT_no]; rfl) mv5 Ss

/- a shift below it -/
mutual
theorem putT_moved (B : Sp.Tm) (r : Tm) (d : Int) (hd : 0 ≤ d) : ∀ (t : Tm) (f k : Int), 0 ≤ f → f ≤ k → putT B r (k + d) (Tm.moved d f t) = Tm.moved d f (putT B r k t)
  | .mk o h j l, f, k, hf, hk => by
    have hl := putTL_moved B r d hd l f k o 0 hf hk
    by_cases ho : o = 4 ∧ h = 1
    · obtain ⟨rfl, rfl⟩ := ho
      rw [moved_mk, putT_eq, putT_eq, mvN_var]
      simp only [true_and]
      by_cases h1 : f ≤ j
      · rw [if_pos h1]
        by_cases h2 : k ≤ j
        · rw [if_pos (by omega : k + d ≤ j + d), if_pos h2]
          by_cases h3 : j = k
          · subst h3
            rw [if_pos rfl, if_pos rfl, moved_appT _ d f hd hf, hl, putTL_map, movedL_map, moved_add d j r 0 f hf (by omega)]
            congr 2; omega
          · rw [if_neg (by omega : ¬ j + d = k + d), if_neg h3, moved_mk, mvN_var, if_pos (by omega : f ≤ j - 1), hl]
            congr 1; omega
        · rw [if_neg (by omega : ¬ k + d ≤ j + d), if_neg h2, moved_mk, mvN_var, if_pos h1, hl]
      · rw [if_neg h1, if_neg (by omega : ¬ k + d ≤ j), if_neg (by omega : ¬ k ≤ j), moved_mk, mvN_var, if_neg h1, hl]
    · have e : ∀ x y : Int, ¬ (o = 4 ∧ h = 1 ∧ y ≤ x) := fun x y z => ho ⟨z.1, z.2.1⟩
      rw [moved_mk, putT_eq, putT_eq, mvN_no ho, if_neg (e _ _), if_neg (e _ _), moved_mk, mvN_no ho, hl]
theorem putTL_moved (B : Sp.Tm) (r : Tm) (d : Int) (hd : 0 ≤ d) : ∀ (l : List Tm) (f k o : Int) (i : Nat), 0 ≤ f → f ≤ k → putTL B r (k + d) o i (Tm.movedL d f o i l) = Tm.movedL d f o i (putTL B r k o i l)
  | [], _, _, _, _, _, _ => by simp only [putTL_nil, Tm.movedL]
  | t :: l, f, k, o, i, hf, hk => by
    have hb := Tm.belowN_bd o i
    simp only [Tm.movedL, putTL_cons, putTL_moved B r d hd l f k o (i + 1) hf hk]
    rw [← putT_moved B r d hd t (f + Tm.belowN o i) (k + Tm.belowN o i) (by omega) (by omega)]
    congr 2; omega
end
/- a variable that a shift has made room for -/
mutual
theorem putT_gap (A : Sp.Tm) (u : Tm) (d : Int) : ∀ (t : Tm) (f n : Int), f ≤ n → n < f + d → putT A u n (Tm.moved d f t) = Tm.moved (d - 1) f t
  | .mk o h j l, f, n, h1, h2 => by
    have hl := putTL_gap A u d l f n o 0 h1 h2
    by_cases ho : o = 4 ∧ h = 1
    · obtain ⟨rfl, rfl⟩ := ho
      rw [moved_mk, moved_mk, putT_eq, mvN_var, mvN_var]
      simp only [true_and]
      by_cases h3 : f ≤ j
      · rw [if_pos h3, if_pos h3, if_pos (by omega : n ≤ j + d), if_neg (by omega : ¬ j + d = n), hl]
        congr 1; omega
      · rw [if_neg h3, if_neg h3, if_neg (by omega : ¬ n ≤ j), hl]
    · have e : ∀ x y : Int, ¬ (o = 4 ∧ h = 1 ∧ y ≤ x) := fun x y z => ho ⟨z.1, z.2.1⟩
      rw [moved_mk, moved_mk, putT_eq, mvN_no ho, mvN_no ho, if_neg (e _ _), hl]
theorem putTL_gap (A : Sp.Tm) (u : Tm) (d : Int) : ∀ (l : List Tm) (f n o : Int) (i : Nat), f ≤ n → n < f + d → putTL A u n o i (Tm.movedL d f o i l) = Tm.movedL (d - 1) f o i l
  | [], _, _, _, _, _, _ => by simp only [putTL_nil, Tm.movedL]
  | t :: l, f, n, o, i, h1, h2 => by
    simp only [Tm.movedL, putTL_cons, putTL_gap A u d l f n o (i + 1) h1 h2]
    rw [putT_gap A u d t (f + Tm.belowN o i) (n + Tm.belowN o i) (by omega) (by omega)]
end
end Go.Proofs.Ytieakippgeehgaa
