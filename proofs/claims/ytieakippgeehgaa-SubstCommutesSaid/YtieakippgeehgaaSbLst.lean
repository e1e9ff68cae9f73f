/- The contracts of isList and of the reference's list. -/
import Derived.Test.YtieakippgeehgaaSbSmR
namespace Go.Proofs.Ytieakippgeehgaa.Sb
open Go.RowKit
set_option linter.unusedSimpArgs false
set_option linter.unusedVariables false

/-- at most 600 terms, and all proper -/
def okList (l : List Tm) : Bool := decide (l.length ≤ 600) && l.all Tm.proper

set_option maxHeartbeats 1000000 in
set_option maxRecDepth 100000 in
theorem isList_any (v : Value) (l : List Tm) (w : World) (hv : Lies w (fun _ => True) v l) :
    Calls Try.prog 51 #[v] w fun e w' => e = .returned (.bool (okList l)) ∧ Below w.heap.size w w' := by
  have call := areProper_any v l w hv
  obtain ⟨ao, b, off, len, cap, oo, hh, kk, sv, ts, rfl, R⟩ := hv.open
  have hl := R.length
  unfold okList
  rw [hl]
  clear hv R hl
  by_cases h6 : len ≤ 600
  · have h6' : (len : Int) ≤ 600 := by omega
    rw [decide_eq_true h6, Bool.true_and]
    generalize l.all Tm.proper = r at call ⊢
    clear h6
    go_enter Try.func51, Try.ntmps51
    go_wp2_with (go_at_call 39; (with_reducible refine call.mono ?_); rintro e w1 ⟨rfl, hb1⟩)
    go_ret
    exact ⟨rfl, hb1⟩
  · have h6' : ¬ (len : Int) ≤ 600 := by omega
    rw [decide_eq_false h6, Bool.false_and]
    clear h6 call
    go_enter Try.func51, Try.ntmps51
    go_wp2_with fail
    go_ret
    exact ⟨rfl, Below.refl _ _⟩

set_option maxHeartbeats 2000000 in
set_option maxRecDepth 100000 in
theorem listR_any (v : Value) (l : List Tm) (w : World) (hv : Lies w (fun _ => True) v l) :
    Calls Try.prog 54 #[v] w fun e w' => e = .returned (.bool (okList l)) ∧ Below w.heap.size w w' := by
  obtain ⟨ao, b, off, len, cap, oo, hh, kk, sv, ts, rfl, R⟩ := hv.open
  have hr := R.hr
  have hl := R.hl
  have HL := Lib.hid R.length
  unfold okList
  rw [HL.out]
  clear hv
  by_cases h6 : len ≤ 600
  · have h6' : (len : Int) ≤ 600 := by omega
    rw [decide_eq_true h6, Bool.true_and]
    clear h6
    go_enter Try.func54, Try.ntmps54
    go_wp2
    go_loopw [3] (fun i wr => ∃ k : Nat, k ≤ len ∧ i = .int .i64 k ∧ PropTo l k ∧ Below w.heap.size w wr) (fun i _ => len - (intOf i).toNat)
    case atStart => exact ⟨0, Nat.zero_le _, rfl, PropTo.zero _, Below.refl _ _⟩
    case round =>
      obtain ⟨k, hk, rfl, hno, hbr⟩ := hrel
      have HNO := Lib.hid hno
      clear hno
      by_cases hlt : k < len
      · obtain rfl := R.hao (by omega)
        obtain ⟨d0, d1, d2, d3, hsub⟩ := R.at hbr k hlt
        obtain ⟨a2, n2, m2, hs2⟩ := hsub.isSlice
        rw [hs2] at d3 hsub
        clear hs2
        have hkl : k < l.length := by rw [HL.out]; exact hlt
        have call := proper_any (fun _ => True) (oo k) (hh k) (kk k) (.slice a2 n2 m2) (ts k) wr hsub
        have hk0 : (0 : Int) ≤ (k : Int) := by omega
        have hk1 : (k : Int) < (len : Int) := by omega
        have hg := R.get k hlt
        rcases hp : Tm.proper (.mk (oo k) (hh k) (kk k) (ts k)) with _ | _
        · have HN := Lib.hid (PropTo.not hkl (by rw [hg]; exact hp))
          rw [hp] at call
          clear hp hg R
          go_wp2_with (go_at_call 27; (with_reducible refine call.mono ?_); rintro e w1 ⟨rfl, hb1⟩)
          go_ret
          exact ⟨by rw [HN.out]; rfl, hbr.trans (hb1.mono hbr.size)⟩
        · have HN := Lib.hid (HNO.out.step hkl (by rw [hg]; exact hp))
          rw [hp] at call
          clear hp hg R
          go_wp2_with (go_at_call 27; (with_reducible refine call.mono ?_); rintro e w1 ⟨rfl, hb1⟩)
          go_roundw
          case rel => exact ⟨k + 1, by omega, by go_num, HN.out, hbr.trans (hb1.mono hbr.size)⟩
          case measure => simp [intOf]; omega
      · obtain rfl : k = len := by omega
        have HA := Lib.hid (HNO.out.all (by rw [HL.out]; exact Nat.le_refl _))
        go_wp2
        go_ret
        exact ⟨by rw [HA.out]; simp, hbr⟩
  · have h6' : ¬ (len : Int) ≤ 600 := by omega
    have h0 : (0 : Int) < (len : Int) := by omega
    rw [decide_eq_false h6, Bool.false_and]
    clear h6
    go_enter Try.func54, Try.ntmps54
    go_wp2
    go_loopw [3] (fun i wr => i = .int .i64 0 ∧ Below w.heap.size w wr ∧ Hid ((600 : Int) < (len : Int))) (fun i _ => 0)
    case atStart => exact ⟨rfl, Below.refl _ _, Lib.hid (by omega)⟩
    case round =>
      obtain ⟨rfl, hbr, HG⟩ := hrel
      go_wp2
      go_ret
      exact ⟨by simp; exact HG.out, hbr⟩
end Go.Proofs.Ytieakippgeehgaa.Sb
