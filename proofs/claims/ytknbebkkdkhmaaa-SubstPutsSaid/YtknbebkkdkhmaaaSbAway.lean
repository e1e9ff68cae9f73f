/- What is put for a variable that does not occur changes nothing but the numbers above it (plain). -/
import Derived.Test.YtknbebkkdkhmaaaSmGa
import Derived.Test.YtknbebkkdkhmaaaTmGd
namespace Go.Proofs.Ytknbebkkdkhmaaa.Sb
set_option linter.unusedSimpArgs false
set_option linter.unusedVariables false

mutual
theorem mbf : ∀ (t : Tm) (n : Int) (dp : Nat), Tm.formed t dp = true → 0 ≤ n → Tm.low n n t = false → Tm.formed (Tm.moved (-1) n t) dp = true
  | .mk o h k l, n, dp, hf, hn, hl => by
    simp only [Tm.formed, Bool.and_eq_true, decide_eq_true_eq] at hf
    simp only [Tm.low, Bool.or_eq_false_iff] at hl
    simp only [Tm.moved, Tm.formed, Tm.movedL_length, Bool.and_eq_true, decide_eq_true_eq]
    refine ⟨⟨hf.1.1, ?_⟩, mbfL l n o 0 (dp + 1) hf.2 hn hl.2⟩
    split
    · rename_i hc
      simp only [Bool.and_eq_true, decide_eq_true_eq, beq_iff_eq] at hc
      obtain ⟨⟨rfl, rfl⟩, hc⟩ := hc
      have h1 := hl.1
      have h2 := Tm.headOk_yes _ _ _ _ hf.1.2
      simp at h1
      rw [Tm.headOk_num hf.1.2 rfl]
      simp only [Bool.and_eq_true, decide_eq_true_eq]
      have h3 : ¬ k ≤ n := fun e => by have := h1 hc; omega
      omega
    · exact hf.1.2
theorem mbfL : ∀ (l : List Tm) (n o : Int) (i dp : Nat), Tm.formedL l dp = true → 0 ≤ n → Tm.lowL n n o i l = false → Tm.formedL (Tm.movedL (-1) n o i l) dp = true
  | [], _, _, _, _, _, _, _ => by simp [Tm.movedL, Tm.formedL]
  | t :: l, n, o, i, dp, hf, hn, hl => by
    simp only [Tm.formedL, Bool.and_eq_true] at hf
    simp only [Tm.lowL, Bool.or_eq_false_iff] at hl
    have hb := Tm.belowN_bd o i
    simp only [Tm.movedL, Tm.formedL, Bool.and_eq_true]
    exact ⟨mbf t (n + Tm.belowN o i) dp hf.1 (by omega) hl.1, mbfL l n o (i + 1) dp hf.2 hn hl.2⟩
end

theorem moved_back_proper {t : Tm} {n : Int} (hp : Tm.proper t = true) (hn : 0 ≤ n) (hl : Tm.low n n t = false) : Tm.proper (Tm.moved (-1) n t) = true := by
  obtain ⟨h1, h2⟩ := Tm.proper_two hp
  exact Tm.two_proper (by rw [Tm.moved_sz]; exact h1) (mbf t n 1 h2 hn hl)

mutual
theorem put_away (S : Sp.Tm) (s : Tm) : ∀ (t : Tm) (n : Int) (c : Nat), Tm.proper t = true → 0 ≤ n → Tm.low n n t = false → c + Tm.sz t ≤ 20000 → put S s n t c = .ok (Tm.moved (-1) n t) (c + Tm.sz t)
  | .mk o h k l, n, c, hp, hn, hl, hc => by
    have hpp := moved_back_proper hp hn hl
    have hf := (Tm.proper_two hp).2
    simp only [Tm.formed, Bool.and_eq_true] at hf
    have hl' := hl
    simp only [Tm.low, Bool.or_eq_false_iff] at hl'
    have hsz : Tm.sz (.mk o h k l) = 1 + Tm.szL l := by simp only [Tm.sz]
    rw [put_eq, if_neg (by omega), putL_away S s l n o 0 (c + 1) (Tm.proper_parts hp) hn hl'.2 (by omega)]
    simp only [Tm.moved] at hpp ⊢
    rw [show c + 1 + Tm.szL l = c + Tm.sz (.mk o h k l) by omega]
    by_cases hh : h = 1
    · have ho : o = 4 := by simpa using Tm.headOk_var hf.1.2 (by simpa using hh)
      subst hh; subst ho
      by_cases hk : n ≤ k
      · have hne : k ≠ n := fun e => by
          have := hl'.1
          simp [e] at this
        rw [if_pos ⟨rfl, hk⟩, if_neg hne]
        simp only [beq_self_eq_true, Bool.true_and, hk, decide_true, if_true] at hpp ⊢
        rw [show k + -1 = k - 1 by omega] at hpp ⊢
        unfold whole
        rw [if_pos hpp]
      · rw [if_neg (fun e => hk e.2)]
        simp only [beq_self_eq_true, Bool.true_and, hk, decide_false, Bool.false_eq_true, if_false] at hpp ⊢
        unfold whole
        rw [if_pos hpp]
    · have hb : (h == 1) = false := by simpa using hh
      rw [if_neg (fun e => hh e.1)]
      simp only [hb, Bool.and_false, Bool.false_and, Bool.false_eq_true, if_false] at hpp ⊢
      unfold whole
      rw [if_pos hpp]
theorem putL_away (S : Sp.Tm) (s : Tm) : ∀ (l : List Tm) (n o : Int) (i c : Nat), (∀ t ∈ l, Tm.proper t = true) → 0 ≤ n → Tm.lowL n n o i l = false → c + Tm.szL l ≤ 20000 → putL S s n o i l c = .ok (Tm.movedL (-1) n o i l) (c + Tm.szL l)
  | [], n, o, i, c, _, _, _, _ => by rw [putL_nil]; simp [Tm.movedL, Tm.szL]
  | t :: l, n, o, i, c, hp, hn, hl, hc => by
    simp only [Tm.lowL, Bool.or_eq_false_iff] at hl
    simp only [Tm.szL] at hc ⊢
    have hb := Tm.belowN_bd o i
    rw [putL_cons, put_away S s t (n + Tm.belowN o i) c (hp t (by simp)) (by omega) hl.1 (by omega)]
    simp only
    rw [putL_away S s l n o (i + 1) (c + Tm.sz t) (fun x hx => hp x (by simp [hx])) hn hl.2 (by omega)]
    simp only [Tm.movedL, Nat.add_assoc]
end
end Go.Proofs.Ytknbebkkdkhmaaa.Sb
