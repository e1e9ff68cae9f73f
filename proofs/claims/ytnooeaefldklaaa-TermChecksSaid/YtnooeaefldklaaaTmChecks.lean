/- For any term: Check reports whether it is proper, and Size returns the number of its nodes and its depth, or ErrArg. No conditions. -/
import Derived.Test.YtnooeaefldklaaaRows
import Derived.Test.YtnooeaefldklaaaTmAwake
import Derived.Test.YtnooeaefldklaaaTmSizeR
import Derived.Test.YtnooeaefldklaaaTmFormed
import Derived.ProofKit
namespace Go.Proofs.Ytnooeaefldklaaa
open Go.RowKit
set_option linter.unusedSimpArgs false
set_option linter.unusedVariables false

set_option maxHeartbeats 2000000 in
set_option maxRecDepth 100000 in
theorem termChecks_walk (o h n : Int) (v : Value) (l : List Tm) (w : World) (hv : Lies w (fun _ => True) v l) :
    Calls Try.prog 3 #[.agg #[.int .i64 o, .int .i64 h, .int .i64 n, v]] w fun e w' => e = .returned (.bool true) ∧ Below w.heap.size w w' := by
  obtain ⟨a2, n2, m2, rfl⟩ := hv.isSlice
  have HB0 := Lib.hid (one_below w (.cells #[.int .i64 o, .int .i64 h, .int .i64 n, .slice a2 n2 m2] 24))
  have HV := Lib.hid hv
  have c1 := fun w1 hb => check_any o h n _ l w1 (hv.keep (w' := w1) hb)
  have c2 := fun w1 hb => size_any o h n _ l w1 (hv.keep (w' := w1) hb)
  have c3 := fun w1 hb => proper_any _ o h n _ l w1 (hv.keep (w' := w1) hb)
  clear hv
  rcases hp : Tm.proper (.mk o h n l) with _ | _
  · have hso : sizeOf (.mk o h n l) = .returned (.tuple #[.int .i64 0, .int .i64 0, .int .i64 2]) := by unfold sizeOf; rw [hp]; rfl
    rw [hso] at c2
    rw [hp] at c1 c3
    clear hp hso
    go_enter Try.func3, Try.ntmps3
    go_wp2_with fail
    refine (c1 _ HB0.out).mono ?_
    rintro e w1 ⟨rfl, hb1⟩
    obtain ⟨q0, q1, q2, q3⟩ := box4 hb1
    have B1 := below_next HB0.out hb1
    go_wp2_with fail
    refine (c2 _ B1).mono ?_
    rintro e w2 ⟨rfl, hb2⟩
    obtain ⟨r0, r1, r2, r3⟩ := keep4 hb2 ⟨q0, q1, q2, q3⟩
    have B2 := below_next B1 hb2
    go_wp2_with fail
    refine (c3 _ B2).mono ?_
    rintro e w3 ⟨rfl, hb3⟩
    have B3 := below_next B2 hb3
    go_wp2_with fail
    refine (awake_any _).mono ?_
    rintro e w4 ⟨rfl, hb4⟩
    go_wp2
    go_ret
    exact ⟨rfl, below_next B3 hb4⟩
  · obtain ⟨s, hs⟩ : ∃ s, s = Tm.sz (.mk o h n l) := ⟨_, rfl⟩
    obtain ⟨d, hd⟩ : ∃ s, s = Tm.depth (.mk o h n l) := ⟨_, rfl⟩
    have hso : sizeOf (.mk o h n l) = .returned (.tuple #[.int .i64 s, .int .i64 d, .int .i64 0]) := by unfold sizeOf; rw [hp, hs, hd]; rfl
    have c5 := fun w1 hb => sizeR_any o h n _ l w1 (HV.out.keep (w' := w1) hb) (Tm.proper_sz hp)
    rw [hso] at c2
    rw [hp] at c1 c3
    rw [← hs, ← hd] at c5
    clear hp hso hs hd
    go_enter Try.func3, Try.ntmps3
    go_wp2_with fail
    refine (c1 _ HB0.out).mono ?_
    rintro e w1 ⟨rfl, hb1⟩
    obtain ⟨q0, q1, q2, q3⟩ := box4 hb1
    have B1 := below_next HB0.out hb1
    go_wp2_with fail
    refine (c2 _ B1).mono ?_
    rintro e w2 ⟨rfl, hb2⟩
    obtain ⟨r0, r1, r2, r3⟩ := keep4 hb2 ⟨q0, q1, q2, q3⟩
    have B2 := below_next B1 hb2
    go_wp2_with fail
    refine (c3 _ B2).mono ?_
    rintro e w3 ⟨rfl, hb3⟩
    obtain ⟨s0, s1, s2, s3⟩ := keep4 hb3 ⟨r0, r1, r2, r3⟩
    have B3 := below_next B2 hb3
    go_wp2_with fail
    refine (c5 _ B3).mono ?_
    rintro e w4 ⟨rfl, hb4⟩
    have B4 := below_next B3 hb4
    go_wp2_with fail
    refine (awake_any _).mono ?_
    rintro e w5 ⟨rfl, hb5⟩
    go_wp2
    go_ret
    exact ⟨rfl, below_next B4 hb5⟩

theorem tm_own : ownKnob Try.prog.godebug = none := by kernel_rfl
theorem tm_laidOut : laidOutB Try.prog = true := by kernel_rfl

open Go.ChangeShapes Go.WideShapes Go.ChangeAt Go.Deep in
set_option maxRecDepth 100000 in
theorem termChecks_lifted (os : Os) (started : os.Started) (H : Type) (enc : TypeId × Value → H) :
    ReturnsInHanded {} Try.checked os 3 .any (Rows.termChecksSpec.pre6 enc Try.prog Try.f3 Rows.termChecksRow.domain false) (Rows.termChecksSpec.post enc Try.prog Try.f3 false true false false) := by
  refine returnsInHanded_of_change (C := Try.checked) tm_own started (by kernel_rfl) Try.func3
    (ChangeSpec.witness6 (enc := enc) (C := Try.checked) false ⟨#[], #[.agg #[.int .i64 0, .int .i64 0, .int .i64 0, .slice none 0 0]], []⟩ 8 (by kernel_rfl) (by kernel_rfl) (by kernel_rfl) (by kernel_rfl)) ?_
  intro W base args ds gs before hval0 hW _ _
  have hval : ∀ (j : Nat) t v, Try.f3.params[j]? = some t → args[j]? = some v → Value.okWide Try.prog W .any base t v := hval0
  have hW' := hW
  obtain ⟨p, q, hA0, hV, rfl, _, _⟩ := hW
  have hA : DataW.TrodAll enc Try.prog W 0 (fun _ => true) true Try.f3.params.toList args.toList ds p := hA0
  rw [Try.params3] at hA hval
  obtain ⟨v0, d0, rfl, rfl, h0⟩ := trodAll_one hA
  obtain ⟨rfl, rfl⟩ := trodVars_none hV
  clear hA0 hval0
  simp only [List.append_nil] at hW'
  have hlt0 : ∀ x ∈ p, x.block < W.heap.size := fun x hx => hW'.lt x (by simp [hx])
  obtain ⟨o, h, n, v, l, rfl, ro, rh, rn, hv⟩ := open_term (hval 0 24 v0 rfl rfl) h0
  refine (termChecks_walk o h n v l W hv).mono fun e W' ⟨he, hb⟩ => ?_
  subst he
  refine ⟨_, rfl, _, _, _, [], p, [], hW', ?_, ?_, rfl, hb.frame _, fun h => by cases h⟩
  · exact trodAll_mk1 (shut_bool Try.underlying4 true)
  · exact trodAll_mk1 (Below.trod tm_laidOut (by kernel_rfl) (of_decide_eq_true (by kernel_rfl)) h0 hb hlt0)

theorem termChecks_holds : Rows.TermChecksSaid :=
  OpenClaim.holds_of_wide 3 Try.f3 rfl rfl rfl rfl rfl rfl rfl ⟨rfl, rfl, rfl, rfl, rfl⟩ rfl rfl rfl rfl rfl (by kernel_rfl) Try.func3 (by kernel_rfl)
    (of_decide_eq_true (by kernel_rfl)) (by unfold Func.isWrapper; first | (rw [if_pos (by decide +kernel)]; kernel_rfl) | (rw [if_neg (by decide +kernel)]; exact ⟨rfl, rfl⟩))
    (fun os started H enc _ => termChecks_lifted os started H enc)

end Go.Proofs.Ytnooeaefldklaaa
