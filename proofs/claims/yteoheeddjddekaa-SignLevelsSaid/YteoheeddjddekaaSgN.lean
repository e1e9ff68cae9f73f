/- Contracts of the reference's names: bytes, runs, small names, names of constants. -/
import Derived.Test.YteoheeddjddekaaSgC
namespace Go.Proofs.Yteoheeddjddekaa
open Go.RowKit Go.Proofs.Yteoheeddjddekaa.Lex
set_option linter.unusedSimpArgs false
set_option linter.unusedVariables false

set_option maxHeartbeats 400000 in
theorem lr_small (c : Int) (w : World) : Calls Try.prog 92 #[.int .u8 c] w fun e w' => e = .returned (.bool (smI c)) ∧ w = w' := by
  unfold smI
  by_cases h1 : 97 ≤ c <;> by_cases h2 : c ≤ 122
  all_goals
    go_enter Try.func92, Try.ntmps92
    go_wp2
    go_ret
    exact ⟨by simp [h1, h2], rfl⟩

set_option maxHeartbeats 800000 in
theorem lr_letter (c : Int) (w : World) : Calls Try.prog 99 #[.int .u8 c] w fun e w' => e = .returned (.bool (ltI c)) ∧ w = w' := by
  unfold ltI cpI
  rcases h1 : smI c with _ | _ <;> by_cases h2 : 65 ≤ c <;> by_cases h3 : c ≤ 90 <;> try (exfalso; omega)
  all_goals
    go_enter Try.func99, Try.ntmps99
    go_wp2_with (go_at_call 92; refine (lr_small _ _).mono ?_; rintro e w' ⟨rfl, rfl⟩)
    go_ret
    exact ⟨by simp [h1, h2, h3], rfl⟩

set_option maxHeartbeats 1600000 in
theorem lr_byteOf (c : Int) (w : World) : Calls Try.prog 114 #[.int .u8 c] w fun e w' => e = .returned (.bool (nbI c)) ∧ w = w' := by
  unfold nbI dgI
  rcases h1 : ltI c with _ | _ <;> by_cases h2 : 48 ≤ c <;> by_cases h3 : c ≤ 57 <;> try (exfalso; omega)
  all_goals rcases h4 : (c == 95) with _ | _ <;> rcases h5 : (c == 39) with _ | _
  all_goals
    go_enter Try.func114, Try.ntmps114
    go_wp2_with (go_at_call 99; refine (lr_letter _ _).mono ?_; rintro e w' ⟨rfl, rfl⟩)
    go_ret
    exact ⟨by simp_all, rfl⟩

set_option maxHeartbeats 800000 in
theorem lr_run (s : ByteArray) (w : World) (hs : s.size ≤ 140737488351232) : Calls Try.prog 100 #[.string s, .int .i64 0] w fun e w' => e = .returned (.int .i64 (run s.data.toList)) ∧ w = w' := by
  go_enter Try.func100, Try.ntmps100
  go_wp2
  go_loop [1] (fun n => ∃ k : Nat, k ≤ s.size ∧ n = .int .i64 k ∧ run s.data.toList = k + run (s.data.toList.drop k)) (fun n => s.size - (RowKit.intOf n).toNat)
  case atStart => exact ⟨0, Nat.zero_le _, rfl, by simp⟩
  case round =>
    obtain ⟨k, hk, rfl, hr⟩ := hrel
    by_cases hlt : k < s.size
    · have hd := run_drop s.data.toList k (by simpa using hlt)
      have hg : s.data.toList[k]'(by simpa using hlt) = s[k] := by rw [Array.getElem_toList]; rfl
      rw [hg] at hd
      rcases hn : nbI (s[k].toNat : Int) with _ | _
      · have HR := Lib.hid hr; have HD := Lib.hid hd
        clear hr hd hg
        go_wp2_with (go_at_call 114; refine (lr_byteOf _ _).mono ?_; rintro e w' ⟨rfl, rfl⟩)
        go_ret
        exact ⟨ret_int (by rw [HR.out, HD.out]; simp [nb, hn]), rfl⟩
      · have HR := Lib.hid hr; have HD := Lib.hid hd
        clear hr hd hg
        go_wp2_with (go_at_call 114; refine (lr_byteOf _ _).mono ?_; rintro e w' ⟨rfl, rfl⟩)
        go_round
        case rel => exact ⟨k + 1, by omega, by go_num, by rw [HR.out, HD.out]; simp [nb, hn]; omega⟩
        case measure => simp [RowKit.intOf]; omega
    · have he := run_end s.data.toList k (by simp; omega)
      have HR := Lib.hid hr; have HD := Lib.hid he
      clear hr he
      go_wp2
      go_ret
      exact ⟨ret_int (by rw [HR.out, HD.out]; rfl), rfl⟩

set_option maxHeartbeats 1000000 in
theorem lr_isName (s : ByteArray) (w : World) (hs : s.size ≤ 140737488351232) : Calls Try.prog 91 #[.string s] w fun e w' => e = .returned (.bool (isName s.data.toList)) ∧ w = w' := by
  by_cases h0 : s.size = 0
  · have hn := nil_of s h0
    have hb : isName s.data.toList = false := by rw [hn]; rfl
    have HB := Lib.hid hb; clear hb
    go_enter Try.func91, Try.ntmps91
    go_wp2
    go_ret
    exact ⟨by rw [HB.out]; rfl, rfl⟩
  · have hp : 0 < s.size := by omega
    have hp1 : (1 : Int) ≤ (s.size : Int) := by omega
    have hq := isName_eq s hp
    have HQ := Lib.hid hq; clear hq h0
    by_cases h16 : s.size ≤ 16
    · have h16' : (s.size : Int) ≤ 16 := by omega
      rcases hl : ltI (s[0].toNat : Int) with _ | _
      · go_enter Try.func91, Try.ntmps91
        go_wp2_with (go_at_call 99; refine (lr_letter _ _).mono ?_; rintro e w' ⟨rfl, rfl⟩)
        go_ret
        exact ⟨by rw [HQ.out, hl]; simp, rfl⟩
      · go_enter Try.func91, Try.ntmps91
        go_wp2_with (first | (go_at_call 99; refine (lr_letter _ _).mono ?_; rintro e w' ⟨rfl, rfl⟩) | (go_at_call 100; refine (lr_run _ _ hs).mono ?_; rintro e w' ⟨rfl, rfl⟩))
        go_ret
        refine ⟨?_, rfl⟩
        rw [HQ.out, hl]; simp [h16]
        exact cast_beq _ _
    · have h16' : ¬ (s.size : Int) ≤ 16 := by omega
      go_enter Try.func91, Try.ntmps91
      go_wp2
      go_ret
      exact ⟨by rw [HQ.out]; simp [h16], rfl⟩

set_option maxHeartbeats 1000000 in
theorem lr_IsSmall (s : ByteArray) (w : World) (hs : s.size ≤ 140737488351232) : Calls Try.prog 76 #[.string s] w fun e w' => e = .returned (.bool (isSmall s.data.toList)) ∧ w = w' := by
  rcases hn : isName s.data.toList with _ | _
  · have hq : isSmall s.data.toList = false := by simp [isSmall, hn]
    have HQ := Lib.hid hq; clear hq
    go_enter Try.func76, Try.ntmps76
    go_wp2_with (go_at_call 91; refine (lr_isName _ _ hs).mono ?_; rintro e w' ⟨rfl, rfl⟩)
    go_ret
    exact ⟨by rw [HQ.out]; rfl, rfl⟩
  · have hp := isName_pos s hn
    have hq : isSmall s.data.toList = smI (s[0].toNat : Int) := by unfold isSmall; rw [head_of s hp, hn]; rfl
    have HQ := Lib.hid hq; clear hq
    go_enter Try.func76, Try.ntmps76
    go_wp2_with (first | (go_at_call 91; refine (lr_isName _ _ hs).mono ?_; rintro e w' ⟨rfl, rfl⟩) | (go_at_call 92; refine (lr_small _ _).mono ?_; rintro e w' ⟨rfl, rfl⟩))
    go_ret
    exact ⟨by rw [HQ.out]; rfl, rfl⟩

set_option maxHeartbeats 400000 in
set_option maxRecDepth 100000 in
theorem sgNameR_any (s : ByteArray) (w : World) (hs : s.size ≤ 140737488351232) : Calls Try.prog 54 #[.string s] w fun e w' => e = .returned (.bool (Sg.nameOk s)) ∧ w = w' := by
  have call := lr_IsSmall s w hs
  rcases h1 : Lex.isSmall s.data.toList with _ | _
  · rw [h1] at call
    rw [nameOk_no h1]
    clear h1
    go_enter Try.func54, Try.ntmps54
    go_wp2_with (go_at_call 76; refine call.mono ?_; rintro e w' ⟨rfl, rfl⟩)
    go_ret
    exact ⟨rfl, rfl⟩
  · rw [h1] at call
    by_cases h2 : s = Sg.typeWord
    · rw [nameOk_type h2]
      unfold Sg.typeWord at h2
      subst h2
      clear h1
      go_enter Try.func54, Try.ntmps54
      go_wp2_with (go_at_call 76; refine call.mono ?_; rintro e w' ⟨rfl, rfl⟩)
      go_ret
      exact ⟨rfl, rfl⟩
    · rw [nameOk_yes h1 h2]
      unfold Sg.typeWord at h2
      have h3 := typeWord_ne h2
      clear h1
      go_enter Try.func54, Try.ntmps54
      go_wp2_with (go_at_call 76; refine call.mono ?_; rintro e w' ⟨rfl, rfl⟩)
      go_ret
      exact ⟨by simp [h3], rfl⟩
end Go.Proofs.Yteoheeddjddekaa
