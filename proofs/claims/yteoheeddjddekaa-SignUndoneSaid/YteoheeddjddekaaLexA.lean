/- Contracts of the smallest functions of package lexis: bytes and names. -/
import Derived.Test.YteoheeddjddekaaProg
import Derived.Test.YteoheeddjddekaaLexSpec
import Derived.WalkKit
import Derived.WalkSpells
import Derived.WalkLawsBesides
import Derived.Lib.Hide
namespace Go.Proofs.Yteoheeddjddekaa
open Go.RowKit Go.Proofs.Yteoheeddjddekaa.Lex
set_option linter.unusedSimpArgs false
set_option linter.unusedVariables false

set_option maxHeartbeats 400000 in
theorem lx_small (c : Int) (w : World) : Calls Try.prog 85 #[.int .u8 c] w fun e w' => e = .returned (.bool (smI c)) ∧ w = w' := by
  unfold smI
  by_cases h1 : 97 ≤ c <;> by_cases h2 : c ≤ 122
  all_goals
    go_enter Try.func85, Try.ntmps85
    go_wp2
    go_ret
    exact ⟨by simp [h1, h2], rfl⟩

set_option maxHeartbeats 400000 in
theorem lx_cap (c : Int) (w : World) : Calls Try.prog 101 #[.int .u8 c] w fun e w' => e = .returned (.bool (cpI c)) ∧ w = w' := by
  unfold cpI
  by_cases h1 : 65 ≤ c <;> by_cases h2 : c ≤ 90
  all_goals
    go_enter Try.func101, Try.ntmps101
    go_wp2
    go_ret
    exact ⟨by simp [h1, h2], rfl⟩

set_option maxHeartbeats 400000 in
theorem lx_digit (c : Int) (w : World) : Calls Try.prog 115 #[.int .u8 c] w fun e w' => e = .returned (.bool (dgI c)) ∧ w = w' := by
  unfold dgI
  by_cases h1 : 48 ≤ c <;> by_cases h2 : c ≤ 57
  all_goals
    go_enter Try.func115, Try.ntmps115
    go_wp2
    go_ret
    exact ⟨by simp [h1, h2], rfl⟩

set_option maxHeartbeats 400000 in
theorem lx_letter (c : Int) (w : World) : Calls Try.prog 93 #[.int .u8 c] w fun e w' => e = .returned (.bool (ltI c)) ∧ w = w' := by
  unfold ltI
  rcases h1 : smI c with _ | _ <;> rcases h2 : cpI c with _ | _
  all_goals
    go_enter Try.func93, Try.ntmps93
    go_wp2_with (first | (go_at_call 85; refine (lx_small _ _).mono ?_; rintro e w' ⟨rfl, rfl⟩) | (go_at_call 101; refine (lx_cap _ _).mono ?_; rintro e w' ⟨rfl, rfl⟩))
    go_ret
    exact ⟨by simp [h1, h2], rfl⟩

set_option maxHeartbeats 400000 in
theorem lx_nb (c : Int) (w : World) : Calls Try.prog 102 #[.int .u8 c] w fun e w' => e = .returned (.bool (nbI c)) ∧ w = w' := by
  unfold nbI
  rcases h1 : ltI c with _ | _ <;> rcases h2 : dgI c with _ | _ <;> rcases h3 : (c == 95) with _ | _ <;> rcases h4 : (c == 39) with _ | _
  all_goals
    go_enter Try.func102, Try.ntmps102
    go_wp2_with (first | (go_at_call 93; refine (lx_letter _ _).mono ?_; rintro e w' ⟨rfl, rfl⟩) | (go_at_call 115; refine (lx_digit _ _).mono ?_; rintro e w' ⟨rfl, rfl⟩))
    go_ret
    exact ⟨by simp_all, rfl⟩

theorem ret_int {k : IntKind} {a b : Int} (h : a = b) : Ending.returned (.int k a) = .returned (.int k b) := by rw [h]
theorem ret_bool {a b : Bool} (h : a = b) : Ending.returned (.bool a) = .returned (.bool b) := by rw [h]

/-- the run from a position on -/
theorem run_drop (l : Bytes) (k : Nat) (h : k < l.length) : run (l.drop k) = if nb l[k] then run (l.drop (k + 1)) + 1 else 0 := by
  rw [List.drop_eq_getElem_cons h]; rfl
theorem run_end (l : Bytes) (k : Nat) (h : l.length ≤ k) : run (l.drop k) = 0 := by
  rw [List.drop_eq_nil_of_le h]; rfl

set_option maxHeartbeats 400000 in
theorem lx_len (s : ByteArray) (w : World) (hs : s.size ≤ 140737488351232) : Calls Try.prog 94 #[.string s] w fun e w' => e = .returned (.int .i64 (run s.data.toList)) ∧ w = w' := by
  go_enter Try.func94, Try.ntmps94
  go_wp2
  go_loop [3] (fun n => ∃ k : Nat, k ≤ s.size ∧ n = .int .i64 k ∧ run s.data.toList = k + run (s.data.toList.drop k)) (fun n => s.size - (intOf n).toNat)
  case atStart => exact ⟨0, Nat.zero_le _, rfl, by simp⟩
  case round =>
    obtain ⟨k, hk, rfl, hr⟩ := hrel
    by_cases hlt : k < s.size
    · have hd := run_drop s.data.toList k (by simpa using hlt)
      have hg : s.data.toList[k]'(by simpa using hlt) = s[k] := by rw [Array.getElem_toList]; rfl
      rw [hg] at hd
      rcases hn : nbI (s[k].toNat : Int) with _ | _
      · have HR := Lib.hid hr; have HD := Lib.hid hd
        clear hr hd hg
        go_wp2_with (go_at_call 102; refine (lx_nb _ _).mono ?_; rintro e w' ⟨rfl, rfl⟩)
        go_ret
        exact ⟨ret_int (by rw [HR.out, HD.out]; simp [nb, hn]), rfl⟩
      · have HR := Lib.hid hr; have HD := Lib.hid hd
        clear hr hd hg
        go_wp2_with (go_at_call 102; refine (lx_nb _ _).mono ?_; rintro e w' ⟨rfl, rfl⟩)
        go_round
        case rel => exact ⟨k + 1, by omega, by go_num, by rw [HR.out, HD.out]; simp [nb, hn]; omega⟩
        case measure => simp [intOf]; omega
    · have he := run_end s.data.toList k (by simp; omega)
      have HR := Lib.hid hr; have HD := Lib.hid he
      clear hr he
      go_wp2
      go_ret
      exact ⟨ret_int (by rw [HR.out, HD.out]; rfl), rfl⟩

end Go.Proofs.Yteoheeddjddekaa
