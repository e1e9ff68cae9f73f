/- The order of terms as a plain function: of three terms it is consistent, and 0 for the same ones alone. Nothing of the program is imported. -/
import Derived.Test.YtnooeaefldklaaaTmSpec
namespace Go.Proofs.Ytnooeaefldklaaa
open Go.RowKit

namespace Tm
def sgn (a b : Int) : Int := if a < b then -1 else if b < a then 1 else 0
def pick (x y : Int) : Int := if x = 0 then y else x
mutual
def ord : Tm → Tm → Int
  | .mk o h n l, .mk o' h' n' l' => pick (sgn o o') (pick (sgn h h') (pick (sgn n n') (pick (sgn l.length l'.length) (ordL l l'))))
def ordL : List Tm → List Tm → Int
  | a :: l, b :: m => pick (ord a b) (ordL l m)
  | [], _ :: _ => -1
  | _ :: _, [] => 1
  | [], [] => 0
end

theorem sgn_lt (a b : Int) : sgn a b < 0 ↔ a < b := by unfold sgn; split <;> (try split) <;> omega
theorem sgn_eq (a b : Int) : sgn a b = 0 ↔ a = b := by unfold sgn; split <;> (try split) <;> omega
theorem sgn_swap (a b : Int) : sgn b a = - sgn a b := by unfold sgn; split <;> split <;> (try split) <;> omega
theorem sgn_range (a b : Int) : -1 ≤ sgn a b ∧ sgn a b ≤ 1 := by unfold sgn; split <;> (try split) <;> omega
theorem pick_le (s r : Int) : pick s r ≤ 0 ↔ s < 0 ∨ (s = 0 ∧ r ≤ 0) := by unfold pick; split <;> omega
theorem pick_eq (s r : Int) : pick s r = 0 ↔ s = 0 ∧ r = 0 := by unfold pick; split <;> omega
theorem pick_neg (s r : Int) : pick (-s) (-r) = - pick s r := by unfold pick; split <;> split <;> omega
theorem pick_range {s r : Int} (hs : -1 ≤ s ∧ s ≤ 1) (hr : -1 ≤ r ∧ r ≤ 1) : -1 ≤ pick s r ∧ pick s r ≤ 1 := by unfold pick; split <;> assumption

mutual
theorem ord_range : ∀ a b : Tm, -1 ≤ ord a b ∧ ord a b ≤ 1
  | .mk o h n l, .mk o' h' n' l' => by
    rw [ord]
    exact pick_range (sgn_range _ _) (pick_range (sgn_range _ _) (pick_range (sgn_range _ _) (pick_range (sgn_range _ _) (ordL_range l l'))))
theorem ordL_range : ∀ l m : List Tm, -1 ≤ ordL l m ∧ ordL l m ≤ 1
  | a :: l, b :: m => by rw [ordL]; exact pick_range (ord_range a b) (ordL_range l m)
  | [], _ :: _ => by simp [ordL]
  | _ :: _, [] => by simp [ordL]
  | [], [] => by simp [ordL]
end

mutual
theorem ord_swap : ∀ a b : Tm, ord b a = - ord a b
  | .mk o h n l, .mk o' h' n' l' => by
    rw [ord, ord, sgn_swap o o', sgn_swap h h', sgn_swap n n', sgn_swap l.length l'.length, ordL_swap l l', pick_neg, pick_neg, pick_neg, pick_neg]
theorem ordL_swap : ∀ l m : List Tm, ordL m l = - ordL l m
  | a :: l, b :: m => by rw [ordL, ordL, ord_swap a b, ordL_swap l m, pick_neg]
  | [], _ :: _ => by simp [ordL]
  | _ :: _, [] => by simp [ordL]
  | [], [] => by simp [ordL]
end

mutual
theorem ord_zero : ∀ a b : Tm, ord a b = 0 ↔ a = b
  | .mk o h n l, .mk o' h' n' l' => by
    rw [ord, pick_eq, pick_eq, pick_eq, pick_eq, sgn_eq, sgn_eq, sgn_eq, sgn_eq, ordL_zero l l', mk.injEq]
    constructor
    · rintro ⟨h1, h2, h3, _, h5⟩; exact ⟨h1, h2, h3, h5⟩
    · rintro ⟨h1, h2, h3, rfl⟩; exact ⟨h1, h2, h3, rfl, rfl⟩
theorem ordL_zero : ∀ l m : List Tm, ordL l m = 0 ↔ l = m
  | a :: l, b :: m => by rw [ordL, pick_eq, ord_zero a b, ordL_zero l m, List.cons.injEq]
  | [], _ :: _ => by simp [ordL]
  | _ :: _, [] => by simp [ordL]
  | [], [] => by simp [ordL]
end

theorem ord_lt_ne {a b : Tm} (h : ord a b < 0) : a ≠ b := fun e => by have := (ord_zero a b).2 e; omega

mutual
theorem ord_trans : ∀ a b c : Tm, ord a b ≤ 0 → ord b c ≤ 0 → ord a c ≤ 0
  | .mk o h n l, .mk o' h' n' l', .mk o2 h2 n2 l2 => by
    have ht := ordL_trans l l' l2
    simp only [ord, pick_le, sgn_lt, sgn_eq]
    generalize ordL l l' = x at *
    generalize ordL l' l2 = y at *
    generalize ordL l l2 = z at *
    omega
theorem ordL_trans : ∀ l m k : List Tm, ordL l m ≤ 0 → ordL m k ≤ 0 → ordL l k ≤ 0
  | a :: l, b :: m, c :: k => by
    have ht := ordL_trans l m k
    have h1 := ord_trans a b c
    simp only [ordL, pick_le]
    rintro (h | ⟨h, hr⟩) (g | ⟨g, gr⟩)
    · left
      have h3 := h1 (by omega) (by omega)
      rcases Int.lt_or_eq_of_le h3 with h4 | h4
      · exact h4
      · have := (ord_zero a c).1 h4
        subst this
        rw [ord_swap b a] at h
        omega
    · rw [ord_zero] at g
      subst g
      exact .inl h
    · rw [ord_zero] at h
      subst h
      exact .inl g
    · rw [ord_zero] at h g
      subst h
      subst g
      exact .inr ⟨(ord_zero a a).2 rfl, ht hr gr⟩
  | [], [], [] => by simp [ordL]
  | [], [], _ :: _ => by simp [ordL]
  | [], _ :: _, [] => by simp [ordL]
  | [], _ :: _, _ :: _ => by simp [ordL]
  | _ :: _, [], [] => by simp [ordL]
  | _ :: _, [], _ :: _ => by simp [ordL]
  | _ :: _, _ :: _, [] => by simp [ordL]
end

/-- four numbers, and the first of them that is not 0 -/
def hd4 (s0 s1 s2 s3 : Int) : Nat → Int
  | 0 => s0
  | 1 => s1
  | 2 => s2
  | _ => s3
def or4 (s0 s1 s2 s3 r : Int) : Int := pick s0 (pick s1 (pick s2 (pick s3 r)))
theorem or4_at {s0 s1 s2 s3 r : Int} {k : Nat} (hk : k < 4) (hz : ∀ j, j < k → hd4 s0 s1 s2 s3 j = 0) (hn : hd4 s0 s1 s2 s3 k ≠ 0) : or4 s0 s1 s2 s3 r = hd4 s0 s1 s2 s3 k := by
  have h0 := hz 0
  have h1 := hz 1
  have h2 := hz 2
  rcases (by omega : k = 0 ∨ k = 1 ∨ k = 2 ∨ k = 3) with rfl | rfl | rfl | rfl <;> simp [hd4, or4, pick] at * <;> simp_all
theorem or4_all {s0 s1 s2 s3 r : Int} (hz : ∀ j, j < 4 → hd4 s0 s1 s2 s3 j = 0) : or4 s0 s1 s2 s3 r = r := by
  have h0 := hz 0 (by omega)
  have h1 := hz 1 (by omega)
  have h2 := hz 2 (by omega)
  have h3 := hz 3 (by omega)
  simp [hd4, or4, pick] at *
  simp_all
theorem or4_ne {s0 s1 s2 s3 r : Int} {k : Nat} (hk : k < 4) (hz : ∀ j, j < k → hd4 s0 s1 s2 s3 j = 0) (hn : hd4 s0 s1 s2 s3 k ≠ 0) : or4 s0 s1 s2 s3 r ≠ 0 := by rw [or4_at hk hz hn]; exact hn
theorem hd4_step {s0 s1 s2 s3 : Int} {k : Nat} (hz : ∀ j, j < k → hd4 s0 s1 s2 s3 j = 0) (h0 : hd4 s0 s1 s2 s3 k = 0) : ∀ j, j < k + 1 → hd4 s0 s1 s2 s3 j = 0 := fun j hj => by
  rcases Nat.lt_or_ge j k with h | h
  · exact hz j h
  · obtain rfl : j = k := by omega
    exact h0
theorem ord_or4 (o h n o' h' n' : Int) (l l' : List Tm) : ord (.mk o h n l) (.mk o' h' n' l') = or4 (sgn o o') (sgn h h') (sgn n n') (sgn l.length l'.length) (ordL l l') := rfl
end Tm
end Go.Proofs.Ytnooeaefldklaaa
