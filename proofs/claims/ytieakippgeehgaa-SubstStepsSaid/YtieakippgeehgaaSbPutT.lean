/- The reference's put: its ends. -/
import Derived.Test.YtieakippgeehgaaSbPutS
import Derived.Test.YtieakippgeehgaaSbRais
namespace Go.Proofs.Ytieakippgeehgaa.Sb
open Go.RowKit
set_option linter.unusedSimpArgs false
set_option linter.unusedVariables false

theorem GivesR.form {Sf : Nat → Prop} {w w' : World} {C : Nat} {r : Out Tm} {e : Ending} (h : GivesR Sf w C r e w') :
    ∃ a b c p q m x, e = .returned (.tuple #[.agg #[.int .i64 a, .int .i64 b, .int .i64 c, .slice p q m], .int .i64 x]) ∧ Only C w w' := by
  unfold GivesR at h
  rcases r with ⟨t, c⟩ | x
  · obtain ⟨v, rfl, ho, _, L⟩ := h
    obtain ⟨p, q, m, rfl⟩ := L.isSlice
    exact ⟨_, _, _, _, _, _, _, rfl, ho⟩
  · obtain ⟨rfl, ho⟩ := h; exact ⟨_, _, _, _, _, _, _, rfl, ho⟩

theorem GivesR.after {w w1 w2 : World} {C OB : Nat} {r : Out Tm} {e : Ending} (hG : GivesR (OB + 1 ≤ ·) w1 C r e w2) (hO : w.heap.size + 1 + 1 + 1 < OB) (hC : C < w.heap.size) (h1 : Only C w w1) (u0 u1 u2 u3 : Value) :
    GivesR (w.heap.size ≤ ·) w C r e ((((w2.setCell ⟨w.heap.size + 1 + 1 + 1, 0, none⟩ u0).setCell ⟨w.heap.size + 1 + 1 + 1, 1, none⟩ u1).setCell ⟨w.heap.size + 1 + 1 + 1, 2, none⟩ u2).setCell ⟨w.heap.size + 1 + 1 + 1, 3, none⟩ u3) := by
  have ho : Only C w w2 → Only C w ((((w2.setCell ⟨w.heap.size + 1 + 1 + 1, 0, none⟩ u0).setCell ⟨w.heap.size + 1 + 1 + 1, 1, none⟩ u1).setCell ⟨w.heap.size + 1 + 1 + 1, 2, none⟩ u2).setCell ⟨w.heap.size + 1 + 1 + 1, 3, none⟩ u3) := fun h =>
    (((h.new (p := ⟨w.heap.size + 1 + 1 + 1, 0, none⟩) (by simp; omega) _).new (p := ⟨w.heap.size + 1 + 1 + 1, 1, none⟩) (by simp; omega) _).new (p := ⟨w.heap.size + 1 + 1 + 1, 2, none⟩) (by simp; omega) _).new (p := ⟨w.heap.size + 1 + 1 + 1, 3, none⟩) (by simp; omega) _
  unfold GivesR at hG ⊢
  rcases r with ⟨t, c⟩ | x
  · obtain ⟨v, rfl, h2, hc, L⟩ := hG
    refine ⟨v, rfl, ho (h1.trans h2), (set4_other _ _ _ _ (by omega)).trans hc, (L.still fun b hS _ => set4_other _ _ _ _ ?_).more fun b _ hS => ?_⟩
    · have hS' : OB + 1 ≤ b := hS; omega
    · have hS' : OB + 1 ≤ b := hS; show w.heap.size ≤ b; omega
  · obtain ⟨rfl, h2⟩ := hG
    exact ⟨rfl, ho (h1.trans h2)⟩

theorem wholeR_gives (t : Tm) (v : Value) (w : World) (S : Nat → Prop) (C c : Nat) (hv : Lies w S v t.args) (hC : cntR C c w) :
    Calls Try.prog 57 #[.agg #[.int .i64 t.op, .int .i64 t.hd, .int .i64 t.n, v]] w (GivesR S w C (whole t c)) := by
  refine (wholeR_any t v w S hv).mono fun e w' h => ?_
  obtain ⟨h1, hb⟩ := h
  unfold whole GivesR
  rcases hp : Tm.proper t with _ | _
  · rw [hp] at h1
    simp only [if_false, Bool.false_eq_true] at h1 ⊢
    exact ⟨h1, Only.below hb C⟩
  · rw [hp] at h1
    simp only [if_true] at h1 ⊢
    exact ⟨v, h1, Only.below hb C, heap_kept hb hC, hv.keep hb⟩

theorem put_ends {S : Sp.Tm} {s : Tm} {n o h k : Int} {l l' : List Tm} {c c' : Nat} (hc : c < 20000) (hL : putL S s n o 0 l (c + 1) = .ok l' c') : put S s n (.mk o h k l) c =
    if h = 1 ∧ n ≤ k then
      if k = n then
        if Tm.proper (Tm.moved n 0 s) then app S.args (Tm.moved n 0 s) l' c' else .er 5
      else whole (.mk o h (k - 1) l') c'
    else whole (.mk o h k l') c' := by
  rw [put_eq, if_neg (by omega), hL]

/-- the ways out of put's loop -/
theorem end_ways {o h k : Int} {l : List Tm} (n : Int) (hp : Tm.proper (.mk o h k l) = true) :
    ((o != 4) = true ∧ ¬ (h = 1 ∧ n ≤ k)) ∨ ((o != 4) = false ∧ (h != 1) = true ∧ ¬ (h = 1 ∧ n ≤ k)) ∨ ((o != 4) = false ∧ (h != 1) = false ∧ k < n ∧ ¬ (h = 1 ∧ n ≤ k)) ∨
    ((o != 4) = false ∧ (h != 1) = false ∧ ¬ k < n ∧ n < k ∧ (h = 1 ∧ n ≤ k) ∧ k ≤ 9999) ∨ ((o != 4) = false ∧ (h != 1) = false ∧ ¬ k < n ∧ ¬ n < k ∧ (h = 1 ∧ n ≤ k) ∧ k = n ∧ k ≤ 9999) := by
  have hf := (Tm.proper_two hp).2
  simp only [Tm.formed, Bool.and_eq_true] at hf
  have := Tm.headOk_yes _ _ _ _ hf.1.2
  by_cases h4 : o = 4
  · have e4 : (o != 4) = false := by simp [h4]
    by_cases h1 : h = 1
    · have e1 : (h != 1) = false := by simp [h1]
      rcases Int.lt_trichotomy k n with hk | hk | hk
      · exact .inr (.inr (.inl ⟨e4, e1, hk, by omega⟩))
      · exact .inr (.inr (.inr (.inr ⟨e4, e1, by omega, by omega, ⟨h1, by omega⟩, hk, by omega⟩)))
      · exact .inr (.inr (.inr (.inl ⟨e4, e1, by omega, by omega, ⟨h1, by omega⟩, by omega⟩)))
    · exact .inr (.inl ⟨e4, by simp [h1], fun hh => h1 hh.1⟩)
  · exact .inl ⟨by simp [h4], by omega⟩
end Go.Proofs.Ytieakippgeehgaa.Sb
