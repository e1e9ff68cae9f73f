/- The law SubstSteps, walked where something is not proper. -/
import Derived.Test.YtieakippgeehgaaSbStA
import Derived.Test.YtieakippgeehgaaSbOpen
import Derived.JoinedCond
import Derived.ProofKit
namespace Go.Proofs.Ytieakippgeehgaa.Sb
open Go.RowKit
set_option linter.unusedSimpArgs false
set_option linter.unusedVariables false

set_option maxHeartbeats 16000000 in
set_option maxRecDepth 100000 in
theorem steps_bad (t : Tm) (l : List Tm) (cn : Int) (Ss : List Sp.Tm) (tv lv Sv : Value) (w : World) (lt : Lies w (fun _ => True) tv t.args) (ll : Lies w (fun _ => True) lv l) (lS : Sp.Lies w (fun _ => True) Sv Ss)
    (hbad : ¬ (0 < l.length ∧ l.length ≤ 600 ∧ Tm.proper t = true ∧ l.all Tm.proper = true)) :
    Calls Try.prog 13 #[.agg #[.int .i64 t.op, .int .i64 t.hd, .int .i64 t.n, tv], lv, .agg #[Sv, .int .i64 cn]] w fun e w' => e = .returned (.bool true) ∧ Below w.heap.size w w' := by
  obtain ⟨a1, n1, m1, rfl⟩ := lt.isSlice
  obtain ⟨ao, b, off, len, cap, oo, hh, kk, sv, ts, rfl, R⟩ := ll.open
  obtain ⟨a3, n3, m3, rfl⟩ := lS.isSlice
  have hl := R.length
  rw [hl] at hbad
  have hlc := R.hl
  have hcap := R.hr
  have h2 := two_blocks w #[.int .i64 t.op, .int .i64 t.hd, .int .i64 t.n, .slice a1 n1 m1] #[.slice a3 n3 m3, .int .i64 cn] 24 27
  have hb2 := two_below w (.cells #[.int .i64 t.op, .int .i64 t.hd, .int .i64 t.n, .slice a1 n1 m1] 24) (.cells #[.slice a3 n3 m3, .int .i64 cn] 27)
  have HB := Lib.hid hb2
  have cP := proper_t t (fun _ => True) (.slice a1 n1 m1) _ (lt.keep hb2)
  obtain ⟨x0, x1, x2, x3⟩ := c4_of h2.1
  clear lt ll lS h2 hb2
  by_cases h0 : len = 0
  · subst h0
    clear hbad cP R
    go_enter Try.func13, Try.ntmps13
    go_wp2_with fail
    refine (awake_any _).mono ?_
    rintro e w99 ⟨rfl, hb99⟩
    go_wp2_with fail
    go_ret
    exact ⟨rfl, below_next HB.out hb99⟩
  · have hz1 : ((len : Int) == 0) = false := by simp; omega
    have hz2 : (0 : Int) < (len : Int) := by omega
    by_cases h6 : len ≤ 600
    · have hz3 : (len : Int) ≤ 600 := by omega
      rcases hpt : Tm.proper t with _ | _
      · rw [hpt] at cP
        clear hbad hpt R
        go_enter Try.func13, Try.ntmps13
        go_wp2_with fail
        refine cP.mono ?_
        rintro e w1 ⟨rfl, hb1⟩
        have HB1 := Lib.hid (below_next HB.out hb1)
        clear x0 x1 x2 x3 hb1 cP
        go_wp2_with fail
        refine (awake_any _).mono ?_
        rintro e w99 ⟨rfl, hb99⟩
        go_wp2_with fail
        go_ret
        exact ⟨rfl, below_next HB1.out hb99⟩
      · have hno : ¬ l.all Tm.proper = true := fun h => hbad ⟨by omega, h6, hpt, h⟩
        have HNO := Lib.hid hno
        have HR := Lib.hid R
        rw [hpt] at cP
        clear hbad hpt hno R hl
        go_enter Try.func13, Try.ntmps13
        go_wp2_with fail
        refine cP.mono ?_
        rintro e w1 ⟨rfl, hb1⟩
        have HB1 := Lib.hid (below_next HB.out hb1)
        clear x0 x1 x2 x3 hb1 cP
        go_wp2_with fail
        go_loopw [34] (fun i wr => ∃ j : Nat, j ≤ len ∧ i = .int .i64 j ∧ PropTo l j ∧ Below w.heap.size w wr) (fun i _ => len - (intOf i).toNat)
        case atStart => exact ⟨0, Nat.zero_le _, rfl, PropTo.zero _, HB1.out⟩
        case round =>
        obtain ⟨j, hj, rfl, hto, hbw⟩ := hrel
        have HTO := Lib.hid hto
        have HBW := Lib.hid hbw
        clear hto hbw
        by_cases hlt : j < len
        · obtain rfl := HR.out.hao (by omega)
          obtain ⟨d0, d1, d2, d3, hsub⟩ := HR.out.at HBW.out j hlt
          obtain ⟨a5, n5, m5, hs5⟩ := hsub.isSlice
          rw [hs5] at d3 hsub
          clear hs5
          have hkl : j < l.length := by rw [HR.out.length]; exact hlt
          have hg := HR.out.get j hlt
          have hj0 : (0 : Int) ≤ (j : Int) := by omega
          have hj1 : (j : Int) < (len : Int) := by omega
          have call := proper_any (fun _ => True) (oo j) (hh j) (kk j) (.slice a5 n5 m5) (ts j) wr hsub
          rcases hp : Tm.proper (.mk (oo j) (hh j) (kk j) (ts j)) with _ | _
          · rw [hp] at call
            clear hp hg hsub
            go_wp2_with fail
            refine call.mono ?_
            rintro e w2 ⟨rfl, hb2⟩
            have HB2 := Lib.hid (below_next HBW.out hb2)
            clear hb2 call d0 d1 d2 d3
            go_wp2_with fail
            refine (awake_any _).mono ?_
            rintro e w99 ⟨rfl, hb99⟩
            go_wp2_with fail
            go_ret
            exact ⟨rfl, below_next HB2.out hb99⟩
          · have HN := Lib.hid (HTO.out.step hkl (by rw [hg]; exact hp))
            rw [hp] at call
            clear hp hg hsub
            go_wp2_with fail
            refine call.mono ?_
            rintro e w2 ⟨rfl, hb2⟩
            have HB2 := Lib.hid (below_next HBW.out hb2)
            clear hb2 call d0 d1 d2 d3
            go_wp2_with fail
            go_roundw
            case rel => exact ⟨j + 1, by omega, by go_num, HN.out, HB2.out⟩
            case measure => simp [intOf]; omega
        · obtain rfl : j = len := by omega
          exact absurd (HTO.out.all (by rw [HR.out.length]; exact Nat.le_refl _)) HNO.out
    · have hz3 : (600 : Int) < (len : Int) := by omega
      clear hbad cP R
      go_enter Try.func13, Try.ntmps13
      go_wp2_with fail
      refine (awake_any _).mono ?_
      rintro e w99 ⟨rfl, hb99⟩
      go_wp2_with fail
      go_ret
      exact ⟨rfl, below_next HB.out hb99⟩

end Go.Proofs.Ytieakippgeehgaa.Sb
