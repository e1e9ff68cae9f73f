/- Plain facts on shifting twice. Nothing of the program is walked. -/
import Derived.Test.YtnooeaefldklaaaTmShiftP
namespace Go.Proofs.Ytnooeaefldklaaa
open Go.RowKit
namespace Tm
mutual
theorem moved_moved (a b : Int) (ha : 0 ≤ a) : ∀ (t : Tm) (fr : Int), moved b fr (moved a fr t) = moved (a + b) fr t
  | .mk o h n l, fr => by
    simp only [moved, movedL_movedL a b ha l fr o 0]
    congr 1
    rcases Bool.eq_false_or_eq_true (o == 4 && h == 1) with c | c
    · simp only [c, Bool.true_and]
      by_cases c1 : fr ≤ n
      · have c2 : fr ≤ n + a := by omega
        simp only [c1, c2, decide_true, if_true]; omega
      · simp [c1]
    · simp [c]
theorem movedL_movedL (a b : Int) (ha : 0 ≤ a) : ∀ (l : List Tm) (fr o : Int) (i : Nat), movedL b fr o i (movedL a fr o i l) = movedL (a + b) fr o i l
  | [], _, _, _ => rfl
  | t :: l, fr, o, i => by simp only [movedL, moved_moved a b ha t, movedL_movedL a b ha l fr o (i + 1)]
end
mutual
theorem moved_none : ∀ (t : Tm) (fr : Int), moved 0 fr t = t
  | .mk o h n l, fr => by simp only [moved, movedL_none l fr o 0, Int.add_zero, ite_self]
theorem movedL_none : ∀ (l : List Tm) (fr o : Int) (i : Nat), movedL 0 fr o i l = l
  | [], _, _, _ => rfl
  | t :: l, fr, o, i => by simp only [movedL, moved_none t, movedL_none l fr o (i + 1)]
end
mutual
theorem low_moved (a : Int) (ha : 0 ≤ a) : ∀ (t : Tm) (fr : Int), low fr (fr + a - 1) (moved a fr t) = false
  | .mk o h n l, fr => by
    simp only [moved, low, lowL_moved a ha l fr o 0, Bool.or_false]
    rcases Bool.eq_false_or_eq_true (o == 4 && h == 1) with c | c
    · simp only [c, Bool.true_and]
      by_cases c1 : fr ≤ n
      · have c2 : ¬ n + a ≤ fr + a - 1 := by omega
        simp [c1, c2]
      · simp [c1]
    · simp [c]
theorem lowL_moved (a : Int) (ha : 0 ≤ a) : ∀ (l : List Tm) (fr o : Int) (i : Nat), lowL fr (fr + a - 1) o i (movedL a fr o i l) = false
  | [], _, _, _ => rfl
  | t :: l, fr, o, i => by
    simp only [movedL, lowL, lowL_moved a ha l fr o (i + 1), Bool.or_false]
    rw [show fr + a - 1 + belowN o i = fr + belowN o i + a - 1 from by omega]
    exact low_moved a ha t _
end
end Tm

theorem shiftArgs_ok {d fr : Int} {t : Tm} (hp : Tm.proper t = true) (h0 : -9999 ≤ d) (h1 : d ≤ 9999) (h2 : 0 ≤ fr) (h3 : fr ≤ 9999) : shiftArgs d fr t = true := by simp [shiftArgs, hp, h0, h1, h2, h3]
theorem shiftRef_up {d fr : Int} {t : Tm} (hp : Tm.proper t = true) (h0 : 0 ≤ d) (h1 : d ≤ 9999) (h2 : 0 ≤ fr) (h3 : fr ≤ 9999) : shiftRef d fr t = if Tm.proper (Tm.moved d fr t) then (Tm.moved d fr t, 0) else (Tm.zero, 5) := by
  unfold shiftRef
  rw [shiftArgs_ok hp (by omega) h1 h2 h3, if_pos rfl, if_neg (by omega)]
/-- shifted by n, and by -n -/
theorem shiftRef_back {n fr : Int} {t : Tm} (hp : Tm.proper t = true) (ha : Tm.proper (Tm.moved n fr t) = true) (h0 : 0 ≤ n) (h1 : n ≤ 9999) (h2 : 0 ≤ fr) (h3 : fr ≤ 9999) : shiftRef (-n) fr (Tm.moved n fr t) = (t, 0) := by
  have e : Tm.moved (-n) fr (Tm.moved n fr t) = t := by rw [Tm.moved_moved n (-n) h0, show n + -n = 0 from by omega, Tm.moved_none]
  have l := Tm.low_moved n h0 t fr
  unfold shiftRef
  rw [shiftArgs_ok ha (by omega) (by omega) h2 h3, if_pos rfl, e, hp]
  rw [show fr - -n - 1 = fr + n - 1 from by omega, l]
  simp
/-- shifted by n, and by m -/
theorem shiftRef_twice {n m fr : Int} {t : Tm} (hp : Tm.proper t = true) (ha : Tm.proper (Tm.moved n fr t) = true) (h0 : 0 ≤ n) (h1 : n ≤ 4999) (h0' : 0 ≤ m) (h1' : m ≤ 4999) (h2 : 0 ≤ fr) (h3 : fr ≤ 9999) : shiftRef m fr (Tm.moved n fr t) = shiftRef (n + m) fr t := by
  rw [shiftRef_up ha h0' (by omega) h2 h3, shiftRef_up hp (by omega) (by omega) h2 h3, Tm.moved_moved n m h0]
end Go.Proofs.Ytnooeaefldklaaa
