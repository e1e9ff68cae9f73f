/- What is in a shifted term (plain). -/
import Derived.Test.YtnooeaefldklaaaTmCon
import Derived.Test.YtnooeaefldklaaaTmBackP
import Derived.Test.YtnooeaefldklaaaTmArrow
namespace Go.Proofs.Ytnooeaefldklaaa
open Go.RowKit
namespace Tm
mutual
theorem hds_moved (a : Int) (ha : 0 ≤ a) : ∀ (t : Tm) (b : Int), hds (rsel 1) b (moved a b t) = (hds (rsel 1) b t).map (· + a)
  | .mk o h n l, b => by
    have ih := hdsL_moved a ha l b o 0
    simp only [moved, hds, List.map_append]
    rw [ih]
    congr 1
    unfold rsel
    rcases (o == 4) with _ | _
    · simp
    · rcases (h == 1) with _ | _
      · simp
      · by_cases e : b ≤ n
        · have e2 : b ≤ n + a := by omega
          simp [e, e2]; omega
        · simp [e]
theorem hdsL_moved (a : Int) (ha : 0 ≤ a) : ∀ (l : List Tm) (b o : Int) (i : Nat), hdsL (rsel 1) b o i (movedL a b o i l) = (hdsL (rsel 1) b o i l).map (· + a)
  | [], _, _, _ => rfl
  | t :: l, b, o, i => by
    simp only [movedL, hdsL, List.map_append, hds_moved a ha t, hdsL_moved a ha l b o (i + 1)]
end
mutual
theorem hds_heads_moved (x : Int) (hx : 2 ≤ x) (a : Int) : ∀ (t : Tm) (b fr : Int), hds (rsel x) b (moved a fr t) = hds (rsel x) b t
  | .mk o h n l, b, fr => by
    have ih := hdsL_heads_moved x hx a l b fr o 0
    simp only [moved, hds]
    rw [ih]
    congr 1
    unfold rsel
    rcases (o == 4) with _ | _
    · simp
    · rcases e1 : (h == x) with _ | _
      · simp
      · have e2 : (h == 1) = false := by
          have : h = x := by simpa using e1
          rw [beq_eq_false_iff_ne]; omega
        simp [e2]
theorem hdsL_heads_moved (x : Int) (hx : 2 ≤ x) (a : Int) : ∀ (l : List Tm) (b fr o : Int) (i : Nat), hdsL (rsel x) b o i (movedL a fr o i l) = hdsL (rsel x) b o i l
  | [], _, _, _, _ => rfl
  | t :: l, b, fr, o, i => by
    simp only [movedL, hdsL, hds_heads_moved x hx a t, hdsL_heads_moved x hx a l b fr o (i + 1)]
end
theorem ins_map (a n : Int) : ∀ l : List Int, ins (l.map (· + a)) (n + a) = (ins l n).map (· + a)
  | [] => rfl
  | x :: l => by
    simp only [List.map_cons, ins]
    by_cases h1 : x < n
    · rw [if_pos h1, if_pos (by omega), ins_map a n l]; rfl
    · rw [if_neg h1, if_neg (by omega)]
      by_cases h2 : x = n
      · rw [if_pos h2, if_pos (by omega)]; rfl
      · rw [if_neg h2, if_neg (by omega)]; rfl
theorem insL_map (a : Int) : ∀ (xs l : List Int), insL (l.map (· + a)) (xs.map (· + a)) = (insL l xs).map (· + a)
  | [], l => rfl
  | x :: xs, l => by
    have := insL_map a xs (ins l x)
    simp only [insL, List.map_cons, List.foldl_cons] at this ⊢
    rw [ins_map, this]
end Tm

theorem cont_free_moved {a : Int} (ha : 0 ≤ a) {t : Tm} (hp : Tm.proper t = true) (hq : Tm.proper (Tm.moved a 0 t) = true) : contOut 1 (Tm.moved a 0 t) = ((contOut 1 t).1.map (· + a), 0) := by
  unfold contOut
  rw [hp, hq]
  simp only [if_true]
  rw [Tm.hds_moved a ha, ← Tm.insL_map]; rfl
theorem cont_heads_moved {x a : Int} (hx : 2 ≤ x) {t : Tm} (hp : Tm.proper t = true) (hq : Tm.proper (Tm.moved a 0 t) = true) : contOut x (Tm.moved a 0 t) = contOut x t := by
  unfold contOut
  rw [hp, hq, Tm.hds_heads_moved x hx]
/-- a shifted term has the numbers that are greater -/
theorem occ_moved {a y : Int} (ha : 0 ≤ a) {t : Tm} (hp : Tm.proper t = true) (hq : Tm.proper (Tm.moved a 0 t) = true) (hy : y ∈ (contOut 1 t).1) : occOut (y + a) (Tm.moved a 0 t) = (true, 0) := by
  unfold occOut
  rw [hq]
  simp only [if_true]
  unfold Tm.occ
  rw [Tm.hds_moved a ha, show ([] : List Int) = ([] : List Int).map (· + a) from rfl, Tm.insL_map, decide_eq_true]
  unfold contOut at hy
  rw [hp] at hy
  exact List.mem_map.2 ⟨y, hy, rfl⟩
theorem occ_lifted {t : Tm} (hq : Tm.proper (Tm.moved 1 0 t) = true) : occOut 0 (Tm.moved 1 0 t) = (false, 0) := by
  unfold occOut
  rw [hq]
  simp only [if_true]
  unfold Tm.occ
  rw [Tm.hds_moved 1 (by omega), decide_eq_false]
  intro h
  rw [Tm.mem_insL] at h
  rcases h with h | h
  · simp at h
  · obtain ⟨y, hy, e⟩ := List.mem_map.1 h
    have := (Tm.hds_pos 0 t y hy).1
    omega

/-- the constant 0 -/
def con0 : Tm := .mk 4 2 0 []
theorem con0_proper : Tm.proper con0 = true := by decide
theorem joinOut_one {a t : Tm} (ha : Tm.proper a = true) (ht : Tm.proper t = true) : joinOut [a] t = joinEnd (Tm.pi a t) := by
  have h1 : ([a].all Tm.proper && Tm.proper t) = true := by simp [ha, ht]
  unfold joinOut
  rw [if_pos h1, if_neg (by simp)]
  rfl
/-- what Arrow of it answers: an error, or a TPi -/
theorem arrow_con0 {t : Tm} (hp : Tm.proper t = true) : arrowOut con0 t = (Tm.zero, 5) ∨ (Tm.proper (Tm.moved 1 0 t) = true ∧ arrowOut con0 t = (Tm.pi con0 (Tm.moved 1 0 t), 0)) := by
  unfold arrowOut
  rw [con0_proper, hp, Bool.true_and, if_pos rfl, shift_same, shiftRef_up hp (by omega) (by omega) (by omega) (by omega)]
  rcases hq : Tm.proper (Tm.moved 1 0 t) with _ | _
  · left; simp
  · simp only [if_true]
    rw [joinOut_one con0_proper hq]
    unfold joinEnd
    by_cases hj : Tm.proper (Tm.pi con0 (Tm.moved 1 0 t)) = true
    · rw [if_pos hj]; right; exact ⟨trivial, rfl⟩
    · rw [if_neg hj]; left; rfl
end Go.Proofs.Ytnooeaefldklaaa
