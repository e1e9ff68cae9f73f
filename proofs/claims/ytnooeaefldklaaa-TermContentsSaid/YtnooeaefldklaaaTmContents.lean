/- For any term and any int: Free, Constants, Metas and Occurs say what is in the term, or return ErrArg. No conditions. -/
import Derived.Test.YtnooeaefldklaaaRows
import Derived.Test.YtnooeaefldklaaaTmCon
import Derived.ProofKit
namespace Go.Proofs.Ytnooeaefldklaaa
open Go.RowKit
set_option linter.unusedSimpArgs false
set_option linter.unusedVariables false

theorem contOut_bad {t : Tm} (h : Tm.proper t = false) (x : Int) : contOut x t = ([], 2) := by unfold contOut; rw [h]; rfl
theorem contOut_good {t : Tm} (h : Tm.proper t = true) (x : Int) : (contOut x t).2 = 0 := by unfold contOut; rw [h]; rfl
theorem Ints.opened {w : World} {v : Value} {xs : List Int} (h : Ints w v xs) : ∃ a n m, v = .slice a n m ∧ xs.length = n := by
  obtain ⟨_, _, _, _, _, h⟩ := h
  exact ⟨_, _, _, h.hv, h.hlen⟩

set_option maxHeartbeats 4000000 in
set_option maxRecDepth 100000 in
theorem termContents_walk (o h n m : Int) (v : Value) (l : List Tm) (w : World) (hv : Lies w (fun _ => True) v l) (hm : I64 m) :
    Calls Try.prog 5 #[.agg #[.int .i64 o, .int .i64 h, .int .i64 n, v], .int .i64 m] w fun e w' => e = .returned (.bool true) ∧ Below w.heap.size w w' := by
  obtain ⟨a2, n2, m2, rfl⟩ := hv.isSlice
  have HB0 := Lib.hid (one_below w (.cells #[.int .i64 o, .int .i64 h, .int .i64 n, .slice a2 n2 m2] 24))
  have hm0 := hm.1
  have hm1 := hm.2
  have c1 := fun w1 hb => free_any o h n _ l w1 (hv.keep (w' := w1) hb)
  have c2 := fun w1 hb => consts_any o h n _ l w1 (hv.keep (w' := w1) hb)
  have c3 := fun w1 hb => metas_any o h n _ l w1 (hv.keep (w' := w1) hb)
  have c4 := fun w1 hb => occurs_any o h n _ l m w1 (hv.keep (w' := w1) hb)
  have c5 := fun w1 hb => proper_any _ o h n _ l w1 (hv.keep (w' := w1) hb)
  have HV := Lib.hid hv
  clear hv
  rcases hp : Tm.proper (.mk o h n l) with _ | _
  · rw [contOut_bad hp 1] at c1
    rw [contOut_bad hp 2] at c2
    rw [contOut_bad hp 3] at c3
    have ho : occOut m (.mk o h n l) = (false, 2) := by unfold occOut; rw [hp]; rfl
    rw [ho] at c4
    rw [hp] at c5
    clear hp ho hm
    go_enter Try.func5, Try.ntmps5
    go_wp2_with fail
    refine (c1 _ HB0.out).mono ?_
    rintro e w1 ⟨v1, rfl, hi1, hb1⟩
    obtain ⟨b1, k1, j1, rfl, hk1⟩ := hi1.opened
    obtain rfl : (0 : Nat) = k1 := hk1
    obtain ⟨q0, q1, q2, q3⟩ := box4 hb1
    have B1 := below_next HB0.out hb1
    clear hi1
    go_wp2_with fail
    refine (c2 _ B1).mono ?_
    rintro e w2 ⟨v2, rfl, hi2, hb2⟩
    obtain ⟨b2, k2, j2, rfl, hk2⟩ := hi2.opened
    obtain rfl : (0 : Nat) = k2 := hk2
    obtain ⟨r0, r1, r2, r3⟩ := keep4 hb2 ⟨q0, q1, q2, q3⟩
    have B2 := below_next B1 hb2
    clear hi2 q0 q1 q2 q3
    go_wp2_with fail
    refine (c3 _ B2).mono ?_
    rintro e w3 ⟨v3, rfl, hi3, hb3⟩
    obtain ⟨b3, k3, j3, rfl, hk3⟩ := hi3.opened
    obtain rfl : (0 : Nat) = k3 := hk3
    obtain ⟨q0, q1, q2, q3⟩ := keep4 hb3 ⟨r0, r1, r2, r3⟩
    have B3 := below_next B2 hb3
    clear hi3 r0 r1 r2 r3
    go_wp2_with fail
    refine (c4 _ B3).mono ?_
    rintro e w4 ⟨rfl, hb4⟩
    obtain ⟨r0, r1, r2, r3⟩ := keep4 hb4 ⟨q0, q1, q2, q3⟩
    have B4 := below_next B3 hb4
    clear q0 q1 q2 q3
    go_wp2_with fail
    refine (c5 _ B4).mono ?_
    rintro e w5 ⟨rfl, hb5⟩
    have B5 := below_next B4 hb5
    go_wp2_with fail
    refine (awake_any _).mono ?_
    rintro e w6 ⟨rfl, hb6⟩
    go_wp2
    go_ret
    exact ⟨rfl, below_next B5 hb6⟩
  · have hz1 := contOut_good hp 1
    have hz2 := contOut_good hp 2
    have hz3 := contOut_good hp 3
    have d1 := fun w1 hb => freeR_any o h n _ l w1 (HV.out.keep (w' := w1) hb) hp
    have d2 := fun w1 hb => constsR_any o h n _ l w1 (HV.out.keep (w' := w1) hb) hp
    have d3 := fun w1 hb => metasR_any o h n _ l w1 (HV.out.keep (w' := w1) hb) hp
    have d4 := fun w1 hb => occursR_any o h n _ l m w1 (HV.out.keep (w' := w1) hb) hp hm
    have ho : occOut m (.mk o h n l) = (Tm.occ m (.mk o h n l), 0) := by unfold occOut; rw [hp]; rfl
    rw [ho] at c4
    rw [hp] at c5
    generalize Tm.occ m (.mk o h n l) = oc at c4 d4 ho
    generalize contOut 1 (.mk o h n l) = y1 at c1 d1 hz1
    generalize contOut 2 (.mk o h n l) = y2 at c2 d2 hz2
    generalize contOut 3 (.mk o h n l) = y3 at c3 d3 hz3
    obtain ⟨y1, z1⟩ := y1
    obtain ⟨y2, z2⟩ := y2
    obtain ⟨y3, z3⟩ := y3
    obtain rfl : (0 : Int) = z1 := hz1.symm
    obtain rfl : (0 : Int) = z2 := hz2.symm
    obtain rfl : (0 : Int) = z3 := hz3.symm
    clear hp hz1 hz2 hz3 ho hm
    go_enter Try.func5, Try.ntmps5
    go_wp2_with fail
    refine (c1 _ HB0.out).mono ?_
    rintro e w1 ⟨v1, rfl, hi1, hb1⟩
    obtain ⟨b1, k1, j1, rfl, hk1⟩ := hi1.opened
    obtain ⟨q0, q1, q2, q3⟩ := box4 hb1
    have B1 := below_next HB0.out hb1
    have I1 := Lib.hid hi1
    clear hi1 hk1
    go_wp2_with fail
    refine (c2 _ B1).mono ?_
    rintro e w2 ⟨v2, rfl, hi2, hb2⟩
    obtain ⟨b2, k2, j2, rfl, hk2⟩ := hi2.opened
    obtain ⟨r0, r1, r2, r3⟩ := keep4 hb2 ⟨q0, q1, q2, q3⟩
    have B2 := below_next B1 hb2
    have I2 := Lib.hid hi2
    have I12 := Lib.hid (I1.out.below hb2)
    clear hi2 hk2 q0 q1 q2 q3 I1
    go_wp2_with fail
    refine (c3 _ B2).mono ?_
    rintro e w3 ⟨v3, rfl, hi3, hb3⟩
    obtain ⟨b3, k3, j3, rfl, hk3⟩ := hi3.opened
    obtain ⟨q0, q1, q2, q3⟩ := keep4 hb3 ⟨r0, r1, r2, r3⟩
    have B3 := below_next B2 hb3
    have I3 := Lib.hid hi3
    have I13 := Lib.hid (I12.out.below hb3)
    have I23 := Lib.hid (I2.out.below hb3)
    clear hi3 hk3 r0 r1 r2 r3 I12 I2
    go_wp2_with fail
    refine (c4 _ B3).mono ?_
    rintro e w4 ⟨rfl, hb4⟩
    obtain ⟨r0, r1, r2, r3⟩ := keep4 hb4 ⟨q0, q1, q2, q3⟩
    have B4 := below_next B3 hb4
    clear q0 q1 q2 q3
    go_wp2_with fail
    refine (c5 _ B4).mono ?_
    rintro e w5 ⟨rfl, hb5⟩
    obtain ⟨q0, q1, q2, q3⟩ := keep4 hb5 ⟨r0, r1, r2, r3⟩
    have B5 := below_next B4 hb5
    clear r0 r1 r2 r3
    go_wp2_with fail
    refine (d1 _ B5).mono ?_
    rintro e w6 ⟨v6, rfl, hi6, hb6⟩
    obtain ⟨r0, r1, r2, r3⟩ := keep4 hb6 ⟨q0, q1, q2, q3⟩
    have B6 := below_next B5 hb6
    have I6 := Lib.hid hi6
    clear q0 q1 q2 q3 hi6
    go_wp2_with fail
    refine (numbers_any _ _ y1 y1 _ (((I13.out.below hb4).below hb5).below hb6) I6.out.1).mono ?_
    rintro e w7 ⟨rfl, hb7⟩
    rw [decide_eq_true rfl]
    obtain ⟨q0, q1, q2, q3⟩ := keep4 hb7 ⟨r0, r1, r2, r3⟩
    have B7 := below_next B6 hb7
    clear r0 r1 r2 r3
    go_wp2_with fail
    refine (d2 _ B7).mono ?_
    rintro e w8 ⟨v8, rfl, hi8, hb8⟩
    obtain ⟨r0, r1, r2, r3⟩ := keep4 hb8 ⟨q0, q1, q2, q3⟩
    have B8 := below_next B7 hb8
    have I8 := Lib.hid hi8
    clear q0 q1 q2 q3 hi8
    go_wp2_with fail
    refine (numbers_any _ _ y2 y2 _ (((((I23.out.below hb4).below hb5).below hb6).below hb7).below hb8) I8.out.1).mono ?_
    rintro e w9 ⟨rfl, hb9⟩
    rw [decide_eq_true rfl]
    obtain ⟨q0, q1, q2, q3⟩ := keep4 hb9 ⟨r0, r1, r2, r3⟩
    have B9 := below_next B8 hb9
    clear r0 r1 r2 r3
    go_wp2_with fail
    refine (d3 _ B9).mono ?_
    rintro e w10 ⟨v10, rfl, hi10, hb10⟩
    obtain ⟨r0, r1, r2, r3⟩ := keep4 hb10 ⟨q0, q1, q2, q3⟩
    have B10 := below_next B9 hb10
    have I10 := Lib.hid hi10
    clear q0 q1 q2 q3 hi10
    go_wp2_with fail
    refine (numbers_any _ _ y3 y3 _ (((((((I3.out.below hb4).below hb5).below hb6).below hb7).below hb8).below hb9).below hb10) I10.out.1).mono ?_
    rintro e w11 ⟨rfl, hb11⟩
    rw [decide_eq_true rfl]
    obtain ⟨q0, q1, q2, q3⟩ := keep4 hb11 ⟨r0, r1, r2, r3⟩
    have B11 := below_next B10 hb11
    clear r0 r1 r2 r3
    go_wp2_with fail
    refine (d4 _ B11).mono ?_
    rintro e w12 ⟨rfl, hb12⟩
    have B12 := below_next B11 hb12
    clear q0 q1 q2 q3
    go_wp2_with fail
    refine (awake_any _).mono ?_
    rintro e w13 ⟨rfl, hb13⟩
    go_wp2
    go_ret
    exact ⟨rfl, below_next B12 hb13⟩

theorem tc_own : ownKnob Try.prog.godebug = none := by kernel_rfl
theorem tc_laidOut : laidOutB Try.prog = true := by kernel_rfl

open Go.ChangeShapes Go.WideShapes Go.ChangeAt Go.Deep in
set_option maxRecDepth 100000 in
theorem termContents_lifted (os : Os) (started : os.Started) (H : Type) (enc : TypeId × Value → H) :
    ReturnsInHanded {} Try.checked os 5 .any (Rows.termContentsSpec.pre6 enc Try.prog Try.f5 Rows.termContentsRow.domain false) (Rows.termContentsSpec.post enc Try.prog Try.f5 false true false false) := by
  refine returnsInHanded_of_change (C := Try.checked) tc_own started (by kernel_rfl) Try.func5
    (ChangeSpec.witness6 (enc := enc) (C := Try.checked) false ⟨#[], #[.agg #[.int .i64 0, .int .i64 0, .int .i64 0, .slice none 0 0], .int .i64 0], []⟩ 8 (by kernel_rfl) (by kernel_rfl) (by kernel_rfl) (by kernel_rfl)) ?_
  intro W base args ds gs before hval0 hW _ _
  have hval : ∀ (j : Nat) t v, Try.f5.params[j]? = some t → args[j]? = some v → Value.okWide Try.prog W .any base t v := hval0
  have hW' := hW
  obtain ⟨p, q, hA0, hV, rfl, _, _⟩ := hW
  have hA : DataW.TrodAll enc Try.prog W 0 (fun _ => true) true Try.f5.params.toList args.toList ds p := hA0
  rw [Try.params5] at hA hval
  obtain ⟨v0, v1, d0, d1, p0, p1, rfl, rfl, rfl, h0, h1⟩ := trodAll_two hA
  obtain ⟨rfl, rfl⟩ := trodVars_none hV
  clear hA0 hval0
  simp only [List.append_nil] at hW'
  have hlt0 : ∀ x ∈ p0, x.block < W.heap.size := fun x hx => hW'.lt x (by simp [hx])
  have hlt1 : ∀ x ∈ p1, x.block < W.heap.size := fun x hx => hW'.lt x (by simp [hx])
  obtain ⟨o, h, n, v, l, rfl, ro, rh, rn, hv⟩ := open_term (hval 0 24 v0 rfl rfl) h0
  obtain ⟨m, rfl, _, _, hm⟩ := open_int Try.underlying3 (hval 1 3 v1 rfl rfl) h1
  refine (termContents_walk o h n m v l W hv (I64.of hm)).mono fun e W' ⟨he, hb⟩ => ?_
  subst he
  refine ⟨_, rfl, _, _, _, [], p0 ++ p1, [], hW', ?_, ?_, rfl, hb.frame _, fun h => by cases h⟩
  · exact trodAll_mk1 (shut_bool Try.underlying4 true)
  · exact trodAll_mk2 (Below.trod tc_laidOut (by kernel_rfl) (of_decide_eq_true (by kernel_rfl)) h0 hb hlt0) (Below.trod tc_laidOut (by kernel_rfl) (of_decide_eq_true (by kernel_rfl)) h1 hb hlt1)

theorem termContents_holds : Rows.TermContentsSaid :=
  OpenClaim.holds_of_wide 5 Try.f5 rfl rfl rfl rfl rfl rfl rfl ⟨rfl, rfl, rfl, rfl, rfl⟩ rfl rfl rfl rfl rfl (by kernel_rfl) Try.func5 (by kernel_rfl)
    (of_decide_eq_true (by kernel_rfl)) (by unfold Func.isWrapper; first | (rw [if_pos (by decide +kernel)]; kernel_rfl) | (rw [if_neg (by decide +kernel)]; exact ⟨rfl, rfl⟩))
    (fun os started H enc _ => termContents_lifted os started H enc)

end Go.Proofs.Ytnooeaefldklaaa
