/- The contracts of trussref03.sign, cmp.Compare of two numbers, cmp.Or of four numbers. -/
import Derived.Test.YtnooeaefldklaaaTmProper
import Derived.Test.YtnooeaefldklaaaTmBuilt
import Derived.Test.YtnooeaefldklaaaTmOrdP
namespace Go.Proofs.Ytnooeaefldklaaa
open Go.RowKit
set_option linter.unusedSimpArgs false
set_option linter.unusedVariables false

theorem sign_any (a b : Int) (w : World) : Calls Try.prog 76 #[.int .i64 a, .int .i64 b] w fun e w' => e = .returned (.int .i64 (Tm.sgn a b)) ∧ w' = w := by
  rcases (by omega : a < b ∨ (¬ a < b ∧ b < a) ∨ (¬ a < b ∧ ¬ b < a)) with h | ⟨h, h'⟩ | ⟨h, h'⟩
  · rw [show Tm.sgn a b = -1 from by simp [Tm.sgn, h]]
    go_enter Try.func76, Try.ntmps76
    go_wp2
    go_ret
    exact ⟨rfl, rfl⟩
  · rw [show Tm.sgn a b = 1 from by simp [Tm.sgn, h, h']]
    go_enter Try.func76, Try.ntmps76
    go_wp2
    go_ret
    exact ⟨rfl, rfl⟩
  · rw [show Tm.sgn a b = 0 from by simp [Tm.sgn, h, h']]
    go_enter Try.func76, Try.ntmps76
    go_wp2
    go_ret
    exact ⟨rfl, rfl⟩

theorem cmpNaN_any (a : Int) (w : World) : Calls Try.prog 99 #[.int .i64 a] w fun e w' => e = .returned (.bool false) ∧ w' = w := by
  go_enter Try.func99, Try.ntmps99
  go_wp2
  go_ret
  exact ⟨by simp, rfl⟩

theorem cmp_any (a b : Int) (w : World) : Calls Try.prog 92 #[.int .i64 a, .int .i64 b] w fun e w' => e = .returned (.int .i64 (Tm.sgn a b)) ∧ w' = w := by
  rcases (by omega : a < b ∨ (¬ a < b ∧ b < a) ∨ (¬ a < b ∧ ¬ b < a)) with h | ⟨h, h'⟩ | ⟨h, h'⟩
  · rw [show Tm.sgn a b = -1 from by simp [Tm.sgn, h]]
    go_enter Try.func92, Try.ntmps92
    go_wp2_with (go_at_call 99; refine (cmpNaN_any _ _).mono ?_; rintro e w1 ⟨rfl, rfl⟩)
    go_ret
    exact ⟨rfl, rfl⟩
  · rw [show Tm.sgn a b = 1 from by simp [Tm.sgn, h, h']]
    go_enter Try.func92, Try.ntmps92
    go_wp2_with (go_at_call 99; refine (cmpNaN_any _ _).mono ?_; rintro e w1 ⟨rfl, rfl⟩)
    go_ret
    exact ⟨rfl, rfl⟩
  · rw [show Tm.sgn a b = 0 from by simp [Tm.sgn, h, h']]
    go_enter Try.func92, Try.ntmps92
    go_wp2_with (go_at_call 99; refine (cmpNaN_any _ _).mono ?_; rintro e w1 ⟨rfl, rfl⟩)
    go_ret
    exact ⟨rfl, rfl⟩

/-- the first of four numbers that is not 0 -/
theorem cmpOr_any (s0 s1 s2 s3 : Int) (b : Nat) (w : World) (t : TypeId) (hb : w.heap[b]? = some (.cells #[.int .i64 s0, .int .i64 s1, .int .i64 s2, .int .i64 s3] t (0, 0))) :
    Calls Try.prog 91 #[.slice (some ⟨b, 0, none⟩) 4 4] w fun e w' => e = .returned (.int .i64 (Tm.or4 s0 s1 s2 s3 0)) ∧ Below w.heap.size w w' := by
  have c : ∀ k, k < 4 → w.cell? ⟨b, k, none⟩ = some (.int .i64 (Tm.hd4 s0 s1 s2 s3 k)) := fun k hk => by
    rcases (by omega : k = 0 ∨ k = 1 ∨ k = 2 ∨ k = 3) with rfl | rfl | rfl | rfl
    · exact cell_in hb 0 _ rfl
    · exact cell_in hb 1 _ rfl
    · exact cell_in hb 2 _ rfl
    · exact cell_in hb 3 _ rfl
  have C := Lib.hid c
  clear c hb
  go_enter Try.func91, Try.ntmps91
  go_wp2_with fail
  go_loopw [8] (fun i wr => ∃ k : Nat, k ≤ 4 ∧ i = .int .i64 k ∧ Hid (∀ j, j < k → Tm.hd4 s0 s1 s2 s3 j = 0) ∧ wr = w) (fun i _ => 4 - (intOf i).toNat)
  case atStart => exact ⟨0, Nat.zero_le _, rfl, Lib.hid (fun j hj => by omega), rfl⟩
  case round =>
    obtain ⟨k, hk, rfl, hz, rfl⟩ := hrel
    by_cases hlt : k < 4
    · have ck := C.out k hlt
      by_cases h0 : Tm.hd4 s0 s1 s2 s3 k = 0
      · have HN := Lib.hid (Tm.hd4_step hz.out h0)
        rw [h0] at ck
        clear h0
        go_wp2_with fail
        go_roundw
        case rel => exact ⟨k + 1, by omega, by go_num, HN, trivial⟩
        case measure => simp [intOf]; omega
      · have hr := Tm.or4_at (r := 0) hlt hz.out h0
        have HR := Lib.hid hr
        clear hr hz
        generalize Tm.hd4 s0 s1 s2 s3 k = x at *
        go_wp2_with fail
        go_ret
        exact ⟨ret_int HR.out.symm, Below.refl _ _⟩
    · obtain rfl : k = 4 := by omega
      have HR := Lib.hid (Tm.or4_all (r := 0) hz.out)
      clear hz
      go_wp2_with fail
      go_ret
      exact ⟨ret_int HR.out.symm, Below.refl _ _⟩

end Go.Proofs.Ytnooeaefldklaaa
