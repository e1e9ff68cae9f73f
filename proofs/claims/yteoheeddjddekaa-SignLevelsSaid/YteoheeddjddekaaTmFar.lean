/- The reference's low, asked for a number that no variable has. -/
import Derived.Test.YteoheeddjddekaaTmGd
import Derived.Test.YteoheeddjddekaaTmGc
namespace Go.Proofs.Yteoheeddjddekaa
open Go.RowKit
set_option linter.unusedSimpArgs false
set_option linter.unusedVariables false
set_option exponentiation.threshold 100

/-- a number that no variable has, nor in s binders more -/
def Far (a : Int) (s : Nat) : Prop := (10000 ≤ a ∧ a ≤ 9223372036854775807) ∨ (-9223372036854775808 ≤ a ∧ a + s ≤ -1)
theorem Far.next {a c : Int} {s s' : Nat} (h : Far a s) (hs : s' + 1 ≤ s) (h6 : s ≤ 600) (hc : 0 ≤ c) (hc1 : c ≤ 1) : Far (wrap64 (a + c)) s' := by
  rcases h with ⟨h1, h2⟩ | ⟨h1, h2⟩
  · by_cases h3 : a + c ≤ 9223372036854775807
    · rw [IntWalk.wrap64_in _ ⟨by omega, h3⟩]; exact .inl ⟨by omega, h3⟩
    · have e : a + c = 9223372036854775808 := by omega
      rw [e]
      have : wrap64 9223372036854775808 = -9223372036854775808 := by decide +kernel
      rw [this]; exact .inr ⟨by omega, by omega⟩
  · rw [IntWalk.wrap64_in _ ⟨by omega, by omega⟩]; exact .inr ⟨by omega, by omega⟩

end Go.Proofs.Yteoheeddjddekaa
