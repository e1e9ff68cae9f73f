/- The contract of term.isNode. -/
import Derived.Test.YtomahhdhnlfabaaProg
import Derived.Test.YtomahhdhnlfabaaTmMeasP
import Derived.Test.YtomahhdhnlfabaaTmProper
namespace Go.Proofs.Ytomahhdhnlfabaa
open Go.RowKit
set_option linter.unusedSimpArgs false
set_option linter.unusedVariables false

theorem node_cases (o h n : Int) (len : Nat) :
    (Tm.headOk o h n len = true ∧ ((o = 1 ∧ h = 0 ∧ n = 0 ∧ len = 0) ∨ (o = 2 ∧ h = 0 ∧ n = 0 ∧ len = 2) ∨ (o = 3 ∧ h = 0 ∧ n = 0 ∧ len = 1) ∨ (o = 4 ∧ 1 ≤ h ∧ h ≤ 3 ∧ 0 ≤ n ∧ n ≤ 9999))) ∨
    (Tm.headOk o h n len = false ∧ ((o = 1 ∧ (h == 0) = false) ∨ (o = 1 ∧ h = 0 ∧ (n == 0) = false) ∨ (o = 1 ∧ h = 0 ∧ n = 0 ∧ ((len : Int) == 0) = false) ∨
      (o = 2 ∧ (h == 0) = false) ∨ (o = 2 ∧ h = 0 ∧ (n == 0) = false) ∨ (o = 2 ∧ h = 0 ∧ n = 0 ∧ ((len : Int) == 2) = false) ∨
      (o = 3 ∧ (h == 0) = false) ∨ (o = 3 ∧ h = 0 ∧ (n == 0) = false) ∨ (o = 3 ∧ h = 0 ∧ n = 0 ∧ ((len : Int) == 1) = false) ∨
      (o = 4 ∧ h < 0) ∨ (o = 4 ∧ h = 0 ∧ (n == 0) = false) ∨ (o = 4 ∧ h = 0 ∧ n = 0) ∨ (o = 4 ∧ 3 < h) ∨ (o = 4 ∧ 1 ≤ h ∧ h ≤ 3 ∧ n < 0) ∨ (o = 4 ∧ 1 ≤ h ∧ h ≤ 3 ∧ 9999 < n))) ∨
    (Tm.headOk o h n len = false ∧ ((o == 1) = false ∧ (o == 2) = false ∧ (o == 3) = false ∧ (o == 4) = false) ∧ ((h == 0) = false ∨ (h = 0 ∧ (n == 0) = false) ∨ (h = 0 ∧ n = 0))) := by
  rcases e : Tm.headOk o h n len with _ | _
  · have e' := Tm.headOk_no o h n len e
    by_cases h0 : h = 0 <;> by_cases n0 : n = 0 <;> simp [h0, n0] at e' ⊢ <;> omega
  · have e' := Tm.headOk_yes o h n len e
    left
    exact ⟨rfl, by omega⟩

set_option maxHeartbeats 2000000 in
set_option maxRecDepth 100000 in
theorem isNode_yes (o h n : Int) (ao : Option Addr) (len cap : Nat) (w : World) (e : (o = 1 ∧ h = 0 ∧ n = 0 ∧ len = 0) ∨ (o = 2 ∧ h = 0 ∧ n = 0 ∧ len = 2) ∨ (o = 3 ∧ h = 0 ∧ n = 0 ∧ len = 1) ∨ (o = 4 ∧ 1 ≤ h ∧ h ≤ 3 ∧ 0 ≤ n ∧ n ≤ 9999)) :
    Calls Try.prog 104 #[.agg #[.int .i64 o, .int .i64 h, .int .i64 n, .slice ao len cap]] w fun e w' => e = .returned (.bool true) ∧ Below w.heap.size w w' := by
  rcases e with ⟨rfl, rfl, rfl, rfl⟩ | ⟨rfl, rfl, rfl, rfl⟩ | ⟨rfl, rfl, rfl, rfl⟩ | ⟨rfl, h1, h2, h3, h4⟩
  all_goals
    go_enter Try.func104, Try.ntmps104
    go_wp2
    go_ret
    exact ⟨rfl, one_below w _⟩

set_option maxHeartbeats 4000000 in
set_option maxRecDepth 100000 in
theorem isNode_no (o h n : Int) (ao : Option Addr) (len cap : Nat) (w : World) (e : (o = 1 ∧ (h == 0) = false) ∨ (o = 1 ∧ h = 0 ∧ (n == 0) = false) ∨ (o = 1 ∧ h = 0 ∧ n = 0 ∧ ((len : Int) == 0) = false) ∨
      (o = 2 ∧ (h == 0) = false) ∨ (o = 2 ∧ h = 0 ∧ (n == 0) = false) ∨ (o = 2 ∧ h = 0 ∧ n = 0 ∧ ((len : Int) == 2) = false) ∨
      (o = 3 ∧ (h == 0) = false) ∨ (o = 3 ∧ h = 0 ∧ (n == 0) = false) ∨ (o = 3 ∧ h = 0 ∧ n = 0 ∧ ((len : Int) == 1) = false) ∨
      (o = 4 ∧ h < 0) ∨ (o = 4 ∧ h = 0 ∧ (n == 0) = false) ∨ (o = 4 ∧ h = 0 ∧ n = 0) ∨ (o = 4 ∧ 3 < h) ∨ (o = 4 ∧ 1 ≤ h ∧ h ≤ 3 ∧ n < 0) ∨ (o = 4 ∧ 1 ≤ h ∧ h ≤ 3 ∧ 9999 < n)) :
    Calls Try.prog 104 #[.agg #[.int .i64 o, .int .i64 h, .int .i64 n, .slice ao len cap]] w fun e w' => e = .returned (.bool false) ∧ Below w.heap.size w w' := by
  rcases e with ⟨rfl, h1⟩ | ⟨rfl, rfl, h1⟩ | ⟨rfl, rfl, rfl, h1⟩ | ⟨rfl, h1⟩ | ⟨rfl, rfl, h1⟩ | ⟨rfl, rfl, rfl, h1⟩ | ⟨rfl, h1⟩ | ⟨rfl, rfl, h1⟩ | ⟨rfl, rfl, rfl, h1⟩ | ⟨rfl, h1⟩ | ⟨rfl, rfl, h1⟩ | ⟨rfl, rfl, rfl⟩ | ⟨rfl, h1⟩ | ⟨rfl, h1, h2, h3⟩ | ⟨rfl, h1, h2, h3⟩
  all_goals
    go_enter Try.func104, Try.ntmps104
    go_wp2
    go_ret
    first | exact ⟨rfl, one_below w _⟩ | exact ⟨ret_bool (a := decide (n ≤ 9999)) (by rw [decide_eq_false_iff_not]; omega), one_below w _⟩

set_option maxHeartbeats 2000000 in
set_option maxRecDepth 100000 in
theorem isNode_none (o h n : Int) (ao : Option Addr) (len cap : Nat) (w : World) (e1 : (o == 1) = false) (e2 : (o == 2) = false) (e3 : (o == 3) = false) (e4 : (o == 4) = false) (e : (h == 0) = false ∨ (h = 0 ∧ (n == 0) = false) ∨ (h = 0 ∧ n = 0)) :
    Calls Try.prog 104 #[.agg #[.int .i64 o, .int .i64 h, .int .i64 n, .slice ao len cap]] w fun e w' => e = .returned (.bool false) ∧ Below w.heap.size w w' := by
  rcases e with h1 | ⟨rfl, h1⟩ | ⟨rfl, rfl⟩
  all_goals
    go_enter Try.func104, Try.ntmps104
    go_wp2
    go_ret
    exact ⟨rfl, one_below w _⟩

theorem isNode_any (o h n : Int) (ao : Option Addr) (len cap : Nat) (w : World) :
    Calls Try.prog 104 #[.agg #[.int .i64 o, .int .i64 h, .int .i64 n, .slice ao len cap]] w fun e w' => e = .returned (.bool (Tm.headOk o h n len)) ∧ Below w.heap.size w w' := by
  rcases node_cases o h n len with ⟨e, h1⟩ | ⟨e, h1⟩ | ⟨e, ⟨h1, h2, h3, h4⟩, h5⟩
  · rw [e]; exact isNode_yes o h n ao len cap w h1
  · rw [e]; exact isNode_no o h n ao len cap w h1
  · rw [e]; exact isNode_none o h n ao len cap w h1 h2 h3 h4 h5

end Go.Proofs.Ytomahhdhnlfabaa
