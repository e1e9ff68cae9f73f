/- Contracts of sign: checkConstant, Check, IsFamily, Target, Find. -/
import Derived.Test.YteoheeddjddekaaSgG
namespace Go.Proofs.Yteoheeddjddekaa
open Go.RowKit Go.Maps Go.WideMaps
set_option linter.unusedSimpArgs false
set_option linter.unusedVariables false

theorem formed_proper {l : List Dc} (h : Sg.formed l = true) : ∀ x ∈ l, Tm.proper x.cl = true := by
  unfold Sg.formed at h
  simp only [Bool.and_eq_true] at h
  have := nextTo_proper l l.length (Nat.le_refl _) h.1.2
  rwa [List.take_length] at this
theorem formed_len {l : List Dc} (h : Sg.formed l = true) : l.length ≤ 100 := by
  unfold Sg.formed at h
  simp only [Bool.and_eq_true, decide_eq_true_eq] at h
  exact h.1.1
theorem formed_nodup {l : List Dc} (h : Sg.formed l = true) : (l.map Dc.nm).Nodup := by
  unfold Sg.formed Sg.once at h
  simp only [Bool.and_eq_true, decide_eq_true_eq] at h
  exact h.2

/-- what checkConstant says -/
def ckOut (l : List Dc) (n : Int) : Int := if Sg.formed l = true then (if n < 0 ∨ (l.length : Int) ≤ n then 6 else 0) else 2
theorem ckOut_no {l : List Dc} {n : Int} (h : Sg.formed l = false) : ckOut l n = 2 := by unfold ckOut; rw [h]; rfl
theorem ckOut_out {l : List Dc} {n : Int} (h : Sg.formed l = true) (h1 : n < 0 ∨ (l.length : Int) ≤ n) : ckOut l n = 6 := by unfold ckOut; rw [if_pos h, if_pos h1]
theorem ckOut_in {l : List Dc} {n : Int} (h : Sg.formed l = true) (h1 : ¬ (n < 0 ∨ (l.length : Int) ≤ n)) : ckOut l n = 0 := by unfold ckOut; rw [if_pos h, if_neg h1]

set_option maxHeartbeats 1000000 in
set_option maxRecDepth 100000 in
theorem ck_any (S : Nat → Prop) (l : List Dc) (n : Int) (sv : Value) (w : World) (hl : DLies w S sv l) :
    Calls Try.prog 35 #[sv, .int .i64 n] w fun e w' => e = .returned (.int .i64 (ckOut l n)) ∧ Below w.heap.size w w' := by
  have call := sgFormed_any S l sv w hl
  obtain ⟨a, m, rfl, hlen⟩ := hl.isSlice
  rcases hf : Sg.formed l with _ | _
  · rw [hf] at call
    rw [ckOut_no hf]
    clear hf
    go_enter Try.func35, Try.ntmps35
    go_wp2_with (go_at_call 24; (with_reducible refine call.mono ?_); rintro e w1 ⟨rfl, hb1⟩)
    go_ret
    exact ⟨rfl, hb1⟩
  · rw [hf] at call
    have cs : n < 0 ∨ (¬ n < 0 ∧ (l.length : Int) ≤ n) ∨ (¬ n < 0 ∧ ¬ (l.length : Int) ≤ n) := by omega
    rcases cs with c | ⟨c, c2⟩ | ⟨c, c2⟩
    · rw [ckOut_out hf (.inl c)]
      clear hf
      go_enter Try.func35, Try.ntmps35
      go_wp2_with (go_at_call 24; (with_reducible refine call.mono ?_); rintro e w1 ⟨rfl, hb1⟩)
      go_ret
      exact ⟨rfl, hb1⟩
    · rw [ckOut_out hf (.inr c2)]
      clear hf
      go_enter Try.func35, Try.ntmps35
      go_wp2_with (go_at_call 24; (with_reducible refine call.mono ?_); rintro e w1 ⟨rfl, hb1⟩)
      go_ret
      exact ⟨rfl, hb1⟩
    · rw [ckOut_in hf (by omega)]
      clear hf
      go_enter Try.func35, Try.ntmps35
      go_wp2_with (go_at_call 24; (with_reducible refine call.mono ?_); rintro e w1 ⟨rfl, hb1⟩)
      go_ret
      exact ⟨rfl, hb1⟩

set_option maxHeartbeats 1000000 in
set_option maxRecDepth 100000 in
theorem sgCheck_any (S : Nat → Prop) (l : List Dc) (sv : Value) (w : World) (hl : DLies w S sv l) :
    Calls Try.prog 15 #[sv] w fun e w' => e = .returned (.int .i64 (if Sg.formed l = true then 0 else 2)) ∧ Below w.heap.size w w' := by
  have call := sgFormed_any S l sv w hl
  obtain ⟨a, m, rfl, hlen⟩ := hl.isSlice
  rcases hf : Sg.formed l with _ | _
  all_goals
    rw [hf] at call
    clear hf
    go_enter Try.func15, Try.ntmps15
    go_wp2_with (go_at_call 24; (with_reducible refine call.mono ?_); rintro e w1 ⟨rfl, hb1⟩)
    go_ret
    exact ⟨rfl, hb1⟩

/-- the class of a constant -/
def clAt (l : List Dc) (i : Nat) : Tm := (l.map Dc.cl).getD i Tm.zero
theorem clAt_get {l : List Dc} {i : Nat} (h : i < l.length) : clAt l i = l[i].cl := by
  unfold clAt
  rw [List.getD_eq_getElem?_getD, List.getElem?_map, List.getElem?_eq_getElem h, Option.map_some, Option.getD_some]
/-- what IsFamily returns -/
def famOut (l : List Dc) (n : Int) : Bool × Int := if ckOut l n = 0 then (Tm.kind (clAt l n.toNat), 0) else (false, ckOut l n)
/-- what Target returns -/
def tarOut (l : List Dc) (n : Int) : Int × Int := if ckOut l n = 0 then (if Tm.kind (clAt l n.toNat) = true then n else (Tm.res (clAt l n.toNat)).1.n, 0) else (0, ckOut l n)
theorem ckOut_zero {l : List Dc} {n : Int} (h : ckOut l n = 0) : Sg.formed l = true ∧ ∃ i : Nat, n = i ∧ i < l.length := by
  unfold ckOut at h
  split at h
  · rename_i hf
    split at h
    · omega
    · exact ⟨hf, n.toNat, by omega, by omega⟩
  · omega

set_option maxHeartbeats 2000000 in
set_option maxRecDepth 100000 in
theorem isFamily_any (S : Nat → Prop) (l : List Dc) (n : Int) (sv : Value) (w : World) (hl : DLies w S sv l) :
    Calls Try.prog 17 #[sv, .int .i64 n] w fun e w' => e = .returned (.tuple #[.bool (famOut l n).1, .int .i64 (famOut l n).2]) ∧ Below w.heap.size w w' := by
  have call := ck_any S l n sv w hl
  by_cases hc : ckOut l n = 0
  · obtain ⟨hf, i, rfl, hi⟩ := ckOut_zero hc
    have hp := formed_proper hf
    have HE : Hid (famOut l (i : Int) = (Tm.kind l[i].cl, 0)) := Lib.hid (by unfold famOut; rw [if_pos hc, Int.toNat_natCast, clAt_get hi])
    rw [hc] at call
    obtain ⟨ao, bb, off, len, cap, nm, oo, hh, kk, sc, tt, im, rfl, R⟩ := hl
    have hil : i < len := by rw [← R.length]; exact hi
    have hrl := R.hl
    have hrc := R.hr
    obtain rfl := R.hao (by omega)
    have hg := R.get i hil
    rw [hg] at HE
    have hpi : Tm.proper (.mk (oo i) (hh i) (kk i) (tt i)) = true := by have := hp l[i] (List.getElem_mem hi); rwa [hg] at this
    have cK := fun w1 (hb : Below w.heap.size w w1) => isKind_any S (.mk (oo i) (hh i) (kk i) (tt i)) (sc i) w1 ((R.sub i hil).keep hb) hpi
    obtain ⟨a9, n9, m9, hsc⟩ := (R.sub i hil).isSlice
    rw [hsc] at cK
    simp only [Tm.op, Tm.hd, Tm.n] at cK
    have HR := Lib.hid R
    clear R hg hp hpi hf hc hi
    go_enter Try.func17, Try.ntmps17
    go_wp2_with (first
      | (go_at_call 35; (with_reducible refine call.mono ?_); rintro e w1 ⟨rfl, hb1⟩; have HB1 := Lib.hid hb1; obtain ⟨d0, d1, d2, d3, d4, d5, hsub⟩ := HR.out.at hb1 i hil; rw [hsc] at d4; clear hb1 hsub d0 d5)
      | (go_at_call 41; (with_reducible refine (cK _ HB1.out).mono ?_); rintro e w2 ⟨rfl, hb2⟩; have HB2 := Lib.hid (below_next HB1.out hb2); clear hb2)
      | fail)
    go_ret2
    rw [HE.out]
    exact ⟨rfl, HB2.out⟩
  · have HE : Hid (famOut l n = (false, ckOut l n)) := Lib.hid (by unfold famOut; rw [if_neg hc])
    have hc' : (ckOut l n == 0) = false := by simpa using hc
    obtain ⟨a, m, rfl, hlen⟩ := hl.isSlice
    generalize ckOut l n = z at *
    go_enter Try.func17, Try.ntmps17
    go_wp2_with (go_at_call 35; (with_reducible refine call.mono ?_); rintro e w1 ⟨rfl, hb1⟩)
    go_ret2
    rw [HE.out]
    exact ⟨rfl, hb1⟩

set_option maxHeartbeats 2000000 in
set_option maxRecDepth 100000 in
theorem target_any (S : Nat → Prop) (l : List Dc) (n : Int) (sv : Value) (w : World) (hl : DLies w S sv l) :
    Calls Try.prog 18 #[sv, .int .i64 n] w fun e w' => e = .returned (.tuple #[.int .i64 (tarOut l n).1, .int .i64 (tarOut l n).2]) ∧ Below w.heap.size w w' := by
  have call := ck_any S l n sv w hl
  by_cases hc : ckOut l n = 0
  · obtain ⟨hf, i, rfl, hi⟩ := ckOut_zero hc
    have hp := formed_proper hf
    have HE : Hid (tarOut l (i : Int) = (if Tm.kind l[i].cl = true then (i : Int) else (Tm.res l[i].cl).1.n, 0)) := Lib.hid (by unfold tarOut; rw [if_pos hc, Int.toNat_natCast, clAt_get hi])
    rw [hc] at call
    obtain ⟨ao, bb, off, len, cap, nm, oo, hh, kk, sc, tt, im, rfl, R⟩ := hl
    have hil : i < len := by rw [← R.length]; exact hi
    have hrl := R.hl
    have hrc := R.hr
    obtain rfl := R.hao (by omega)
    have hg := R.get i hil
    rw [hg] at HE
    have hpi : Tm.proper (.mk (oo i) (hh i) (kk i) (tt i)) = true := by have := hp l[i] (List.getElem_mem hi); rwa [hg] at this
    have cK := fun w1 (hb : Below w.heap.size w w1) => isKind_any S (.mk (oo i) (hh i) (kk i) (tt i)) (sc i) w1 ((R.sub i hil).keep hb) hpi
    have cR := fun w1 (hb : Below w.heap.size w w1) => result_any S (.mk (oo i) (hh i) (kk i) (tt i)) (sc i) w1 ((R.sub i hil).keep hb) hpi
    obtain ⟨a9, n9, m9, hsc⟩ := (R.sub i hil).isSlice
    rw [hsc] at cK cR
    simp only [Tm.op, Tm.hd, Tm.n] at cK cR
    have HR := Lib.hid R
    clear R hg hp hpi hf hc hi
    generalize Tm.res (.mk (oo i) (hh i) (kk i) (tt i)) = rr at *
    obtain ⟨⟨uo, uh, un, ul⟩, cnt⟩ := rr
    simp only [Tm.op, Tm.hd, Tm.n] at cR HE
    rcases hk : Tm.kind (.mk (oo i) (hh i) (kk i) (tt i)) with _ | _
    · simp only [hk] at cK
      rw [hk] at HE
      clear hk
      go_enter Try.func18, Try.ntmps18
      go_wp2_with (first
        | (go_at_call 35; (with_reducible refine call.mono ?_); rintro e w1 ⟨rfl, hb1⟩; have HB1 := Lib.hid hb1; obtain ⟨d0, d1, d2, d3, d4, d5, hsub⟩ := HR.out.at hb1 i hil; rw [hsc] at d4; clear hb1 hsub d0 d5)
        | (go_at_call 41; (with_reducible refine (cK _ HB1.out).mono ?_); rintro e w2 ⟨rfl, hb2⟩; have HB2 := Lib.hid (below_next HB1.out hb2); clear d1 d2 d3 d4; obtain ⟨d0, d1, d2, d3, d4, d5, hsub⟩ := HR.out.at HB2.out i hil; rw [hsc] at d4; clear hb2 hsub d0 d5)
        | (go_at_call 42; (with_reducible refine (cR _ HB2.out).mono ?_); rintro e w3 ⟨b3, rfl, hb3, hl3⟩; obtain ⟨a5, n5, m5, rfl⟩ := hl3.isSlice; have HB3 := Lib.hid (below_next HB2.out hb3); clear hb3 hl3 d1 d2 d3 d4)
        | fail)
      go_ret2
      rw [HE.out]
      exact ⟨rfl, HB3.out.trans ((one_below w3 _).mono HB3.out.size)⟩
    · simp only [hk] at cK
      rw [hk] at HE
      clear hk
      go_enter Try.func18, Try.ntmps18
      go_wp2_with (first
        | (go_at_call 35; (with_reducible refine call.mono ?_); rintro e w1 ⟨rfl, hb1⟩; have HB1 := Lib.hid hb1; obtain ⟨d0, d1, d2, d3, d4, d5, hsub⟩ := HR.out.at hb1 i hil; rw [hsc] at d4; clear hb1 hsub d0 d5)
        | (go_at_call 41; (with_reducible refine (cK _ HB1.out).mono ?_); rintro e w2 ⟨rfl, hb2⟩; have HB2 := Lib.hid (below_next HB1.out hb2); clear hb2)
        | fail)
      go_ret2
      rw [HE.out]
      exact ⟨rfl, HB2.out⟩
  · have HE : Hid (tarOut l n = (0, ckOut l n)) := Lib.hid (by unfold tarOut; rw [if_neg hc])
    have hc' : (ckOut l n == 0) = false := by simpa using hc
    obtain ⟨a, m, rfl, hlen⟩ := hl.isSlice
    generalize ckOut l n = z at *
    go_enter Try.func18, Try.ntmps18
    go_wp2_with (go_at_call 35; (with_reducible refine call.mono ?_); rintro e w1 ⟨rfl, hb1⟩)
    go_ret2
    rw [HE.out]
    exact ⟨rfl, hb1⟩
end Go.Proofs.Yteoheeddjddekaa
