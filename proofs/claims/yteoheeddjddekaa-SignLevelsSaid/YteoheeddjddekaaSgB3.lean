/- The contract of sign.Swap, whole. -/
import Derived.Test.YteoheeddjddekaaSgB2
namespace Go.Proofs.Yteoheeddjddekaa
open Go.RowKit
set_option linter.unusedSimpArgs false
set_option linter.unusedVariables false
theorem swap_any (ls : List Dc) (n : Int) (sv : Value) (w : World) (hl : DLies w (fun _ => True) sv ls) : Calls Try.prog 13 #[sv, .int .i64 n] w (GivesSE w (swapOut ls n)) := by
  by_cases h : (swapOut ls n).2 = 0
  · have h0 := h
    unfold swapOut at h
    split at h
    · rename_i hc
      split at h
      · simp at h
      · rename_i he
        split at h
        · simp at h
        · rename_i hno
          obtain ⟨hf, i, rfl, hi⟩ := ckOut_zero hc
          have e : swapOut ls (i : Int) = (exch (ls.map (Dc.num (swp i))) i, 0) := by
            unfold swapOut
            rw [if_pos hc, if_neg he, if_neg hno, Int.toNat_natCast]
          rw [e]
          exact swap_good ls i sv w hl hc he (by rw [Int.toNat_natCast] at hno; exact hno)
    · rename_i hc
      exact absurd h hc
  · exact swap_bad ls n sv w hl h
end Go.Proofs.Yteoheeddjddekaa
