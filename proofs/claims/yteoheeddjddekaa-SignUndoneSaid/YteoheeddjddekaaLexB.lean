/- Contracts of package lexis: names, signs, kinds of bytes. -/
import Derived.Test.YteoheeddjddekaaLexA
import Derived.Lib.Strings
namespace Go.Proofs.Yteoheeddjddekaa
open Go.RowKit Go.Proofs.Yteoheeddjddekaa.Lex
set_option linter.unusedSimpArgs false
set_option linter.unusedVariables false

theorem cast_beq (a b : Nat) : ((a : Int) == (b : Int)) = (a == b) := by rw [Bool.eq_iff_iff]; simp; omega
theorem data_size (s : ByteArray) : s.data.toList.length = s.size := by simp
theorem head_of (s : ByteArray) (h : 0 < s.size) : s.data.toList.headD 0 = s[0] := by
  have : s.data.toList = s.data.toList[0]'(by simpa using h) :: s.data.toList.drop 1 := by
    rw [← List.drop_eq_getElem_cons (by simpa using h)]; rfl
  rw [this]; simp; rfl
theorem nil_of (s : ByteArray) (h : s.size = 0) : s.data.toList = [] := by
  apply List.eq_nil_of_length_eq_zero; simpa using h
theorem isName_eq (s : ByteArray) (h : 0 < s.size) : isName s.data.toList = (decide (s.size ≤ 16) && ltI (s[0].toNat : Int) && run s.data.toList == s.size) := by
  unfold isName; rw [head_of s h, data_size]; simp [lt, show 1 ≤ s.size from h]

set_option maxHeartbeats 1000000 in
theorem lx_isName (s : ByteArray) (w : World) (hs : s.size ≤ 140737488351232) : Calls Try.prog 84 #[.string s] w fun e w' => e = .returned (.bool (isName s.data.toList)) ∧ w = w' := by
  by_cases h0 : s.size = 0
  · have hn := nil_of s h0
    have hb : isName s.data.toList = false := by rw [hn]; rfl
    have he : s.toList = [] := by rw [Lib.toList_data]; exact hn
    have HB := Lib.hid hb; clear hb
    go_enter Try.func84, Try.ntmps84
    go_wp2
    go_ret
    exact ⟨by rw [HB.out]; rfl, rfl⟩
  · have hp : 0 < s.size := by omega
    have hn : s.toList.isEmpty = false := by rw [Lib.toList_data, List.isEmpty_eq_false_iff]; intro h; have e : s.data.toList.length = 0 := (by rw [h]; rfl); rw [data_size] at e; omega
    have hq := isName_eq s hp
    have HQ := Lib.hid hq; clear hq h0
    by_cases h16 : s.size ≤ 16
    · rcases hl : ltI (s[0].toNat : Int) with _ | _
      · go_enter Try.func84, Try.ntmps84
        go_wp2_with (go_at_call 93; refine (lx_letter _ _).mono ?_; rintro e w' ⟨rfl, rfl⟩)
        go_ret
        exact ⟨by rw [HQ.out, hl]; simp, rfl⟩
      · go_enter Try.func84, Try.ntmps84
        go_wp2_with (first | (go_at_call 93; refine (lx_letter _ _).mono ?_; rintro e w' ⟨rfl, rfl⟩) | (go_at_call 94; refine (lx_len _ _ hs).mono ?_; rintro e w' ⟨rfl, rfl⟩))
        go_ret
        refine ⟨?_, rfl⟩
        rw [HQ.out, hl]; simp [h16]
        exact cast_beq _ _
    · go_enter Try.func84, Try.ntmps84
      go_wp2
      go_ret
      exact ⟨by rw [HQ.out]; simp [h16], rfl⟩


theorem isName_pos (s : ByteArray) (h : isName s.data.toList = true) : 0 < s.size := by
  by_cases h0 : s.size = 0
  · rw [nil_of s h0] at h; exact absurd h (by decide)
  · omega

set_option maxHeartbeats 1000000 in
theorem lx_IsSmall (s : ByteArray) (w : World) (hs : s.size ≤ 140737488351232) : Calls Try.prog 69 #[.string s] w fun e w' => e = .returned (.bool (isSmall s.data.toList)) ∧ w = w' := by
  rcases hn : isName s.data.toList with _ | _
  · have hq : isSmall s.data.toList = false := by simp [isSmall, hn]
    have HQ := Lib.hid hq; clear hq
    go_enter Try.func69, Try.ntmps69
    go_wp2_with (go_at_call 84; refine (lx_isName _ _ hs).mono ?_; rintro e w' ⟨rfl, rfl⟩)
    go_ret
    exact ⟨by rw [HQ.out]; rfl, rfl⟩
  · have hp := isName_pos s hn
    have hq : isSmall s.data.toList = smI (s[0].toNat : Int) := by unfold isSmall; rw [head_of s hp, hn]; rfl
    have HQ := Lib.hid hq; clear hq
    go_enter Try.func69, Try.ntmps69
    go_wp2_with (first | (go_at_call 84; refine (lx_isName _ _ hs).mono ?_; rintro e w' ⟨rfl, rfl⟩) | (go_at_call 85; refine (lx_small _ _).mono ?_; rintro e w' ⟨rfl, rfl⟩))
    go_ret
    exact ⟨by rw [HQ.out]; rfl, rfl⟩

end Go.Proofs.Yteoheeddjddekaa
