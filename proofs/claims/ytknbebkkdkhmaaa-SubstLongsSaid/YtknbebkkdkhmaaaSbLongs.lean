/- For any head, number and simple type: Long returns the long form or the error, as the reference says, and Short says the head of it again; and the first examples come out. No conditions. -/
import Derived.Test.YtknbebkkdkhmaaaRows
import Derived.Test.YtknbebkkdkhmaaaSbShortF
import Derived.Test.YtknbebkkdkhmaaaSbLongQ
import Derived.Test.YtknbebkkdkhmaaaSbOpen
import Derived.ProofKit
namespace Go.Proofs.Ytknbebkkdkhmaaa.Sb
open Go.RowKit
set_option linter.unusedSimpArgs false
set_option linter.unusedVariables false

theorem longOut_ways (h n cn : Int) (Ss : List Sp.Tm) : (∃ f, longOut h n (.mk cn Ss) = (Tm.zero, f) ∧ (f = 2 ∨ f = 5)) ∨ (∃ T, longOut h n (.mk cn Ss) = (T, 0) ∧ shortOut T = (h, n, 0) ∧ T.fit) := by
  unfold longOut
  rcases e : longArgs h n (.mk cn Ss) with _ | _
  · exact .inl ⟨2, rfl, .inl rfl⟩
  · simp only [longArgs, Bool.and_eq_true, decide_eq_true_eq] at e
    have hn : 0 ≤ n ∧ n ≤ 9999 := by simpa [isNum] using e.1.2
    have hsz : Sp.Tm.sz (.mk cn Ss) ≤ 600 := by
      have h := e.2
      simp only [Sp.Tm.small, Sp.Tm.smallIn, Bool.and_eq_true, decide_eq_true_eq] at h
      exact h.2
    rcases hp : Tm.proper (long h n (.mk cn Ss)) with _ | _
    · exact .inl ⟨5, rfl, .inr rfl⟩
    · refine .inr ⟨_, rfl, ?_, long_fit e.1.1.1 e.1.1.2 hn.1 (by omega) hsz⟩
      simp only [shortOut, hp, short_long _ h n hn.1]; rfl

set_option maxHeartbeats 4000000 in
set_option maxRecDepth 100000 in
theorem substLongs_walk (h n cn : Int) (Ss : List Sp.Tm) (Sv : Value) (w : World) (lS : Sp.Lies w (fun _ => True) Sv Ss) :
    Calls Try.prog 5 #[.int .i64 h, .int .i64 n, .agg #[Sv, .int .i64 cn]] w fun e w' => e = .returned (.bool true) ∧ Below w.heap.size w w' := by
  obtain ⟨a3, n3, m3, rfl⟩ := lS.isSlice
  have hb0 := one_below w (.cells #[.slice a3 n3 m3, .int .i64 cn] 27)
  have hh0 := heap_alloc_new w (.cells #[.slice a3 n3 m3, .int .i64 cn] 27)
  have call1 : ∀ w1, Below w.heap.size w w1 → _ := fun w1 hb => longF_any h n cn Ss (.slice a3 n3 m3) w1 (lS.keep hb)
  have call2 : ∀ w1, Below w.heap.size w w1 → _ := fun w1 hb => longRF_any h n cn Ss (.slice a3 n3 m3) w1 (lS.keep hb)
  have HB := Lib.hid hb0
  have HH := Lib.hid hh0
  have ways := longOut_ways h n cn Ss
  unfold GivesE at call1 call2
  generalize longOut h n (.mk cn Ss) = x at call1 call2 ways
  have call3 : ∀ (T : Tm) (f : Int) (v v' : Value) (W : World), Lies W (fun _ => True) v T.args → Lies W (fun _ => True) v' T.args → Calls Try.prog 16 #[.agg #[.int .i64 T.op, .int .i64 T.hd, .int .i64 T.n, v], .int .i64 f, .agg #[.int .i64 T.op, .int .i64 T.hd, .int .i64 T.n, v'], .int .i64 f] W fun e' w' => e' = .returned (.bool true) ∧ Below W.heap.size W w' := fun T f v v' W h1 h2 => by
    have h := gives_any _ _ T T f f v v' W h1 h2
    have e : (Tm.same T T && (f == f)) = true := by rw [(Tm.same_iff T T).2 rfl]; simp
    rw [e] at h; exact h
  clear hb0 hh0 lS
  have hT : ∃ T f, x = (T, f) ∧ ((f = 2 ∨ f = 5) ∨ (f = 0 ∧ shortOut T = (h, n, 0) ∧ T.fit)) := by
    rcases ways with ⟨f, rfl, hf⟩ | ⟨T, rfl, hs, hft⟩
    · exact ⟨_, f, rfl, .inl hf⟩
    · exact ⟨T, 0, rfl, .inr ⟨rfl, hs, hft⟩⟩
  obtain ⟨T, f, rfl, hf⟩ := hT
  simp only at call1 call2
  have hf0 : ((f != 0) = true) ∨ (f = 0 ∧ shortOut T = (h, n, 0) ∧ T.fit) := by
    rcases hf with (rfl | rfl) | hf
    · exact .inl rfl
    · exact .inl rfl
    · exact .inr hf
  clear ways hf
  rcases hf0 with hf | ⟨rfl, hs, hft⟩
  all_goals
    go_enter Try.func5, Try.ntmps5
    go_wp2_with fail
    refine (call1 _ HB.out).mono ?_
    rintro e w1 ⟨v1, rfl, hb1, L1⟩
    obtain ⟨a4, n4, m4, rfl⟩ := L1.isSlice
    have hb1' := one_below w1 (.cells #[.int .i64 T.op, .int .i64 T.hd, .int .i64 T.n, .slice a4 n4 m4] 24)
    have hz1 := heap_alloc_new w1 (.cells #[.int .i64 T.op, .int .i64 T.hd, .int .i64 T.n, .slice a4 n4 m4] 24)
    have hh1 := heap_kept hb1' (heap_kept hb1 HH.out)
    have HB1 := Lib.hid (And.intro (below_next (below_next HB.out hb1) hb1') (And.intro hz1 (And.intro hh1 ((L1.more (S' := fun _ => True) fun _ _ _ => trivial).keep hb1'))))
    obtain ⟨⟨q0, q1⟩, _⟩ := cells2_of hh1
    clear hb1 hb1' hz1 hh1 L1 call1
    go_wp2_with fail
    refine (call2 _ HB1.out.1).mono ?_
    rintro e w2 ⟨v2, rfl, hb2, L2⟩
    obtain ⟨a5, n5, m5, rfl⟩ := L2.isSlice
    have hb2' := one_below w2 (.cells #[.int .i64 T.op, .int .i64 T.hd, .int .i64 T.n, .slice a5 n5 m5] 24)
    have hz2 := heap_alloc_new w2 (.cells #[.int .i64 T.op, .int .i64 T.hd, .int .i64 T.n, .slice a5 n5 m5] 24)
    have hz1 := heap_kept hb2' (heap_kept hb2 HB1.out.2.1)
    have HB2 := Lib.hid (And.intro (below_next (below_next HB1.out.1 hb2) hb2') (And.intro hz1 (And.intro ((HB1.out.2.2.2.keep hb2).keep hb2') ((L2.more (S' := fun _ => True) fun _ _ _ => trivial).keep hb2'))))
    obtain ⟨x0, x1, x2, x3⟩ := c4_of hz1
    obtain ⟨y0, y1, y2, y3⟩ := c4_of hz2
    have call4 := fun f => call3 T f (.slice a4 n4 m4) (.slice a5 n5 m5) _ HB2.out.2.2.1 HB2.out.2.2.2
    clear hb2 hb2' hz2 hz1 L2 call2 call3 q0 q1 HB1
    go_wp2_with fail
    refine (call4 _).mono ?_
    rintro e w3 ⟨rfl, hb3⟩
    have HB3 := Lib.hid (And.intro (below_next HB2.out.1 hb3) (And.intro (heap_kept hb3 HB2.out.2.1) (HB2.out.2.2.1.keep hb3)))
    clear x0 x1 x2 x3 y0 y1 y2 y3 hb3 call4 HB2
  · go_wp2_with fail
    refine (awake_any _).mono ?_
    rintro e w4 ⟨rfl, hb4⟩
    go_wp2_with fail
    go_ret
    exact ⟨rfl, below_next HB3.out.1 hb4⟩
  · obtain ⟨x0, x1, x2, x3⟩ := c4_of HB3.out.2.1
    have call5 := shortF_any T (.slice a4 n4 m4) w3 HB3.out.2.2 hft
    rw [hs] at call5
    unfold GivesS3 at call5
    simp only at call5
    clear hs hft
    go_wp2_with fail
    refine call5.mono ?_
    rintro e w4 ⟨rfl, hb4⟩
    have HB4 := Lib.hid (below_next HB3.out.1 hb4)
    clear x0 x1 x2 x3 hb4 call5
    go_wp2_with fail
    refine (awake_any _).mono ?_
    rintro e w5 ⟨rfl, hb5⟩
    go_wp2_with fail
    go_ret
    exact ⟨rfl, below_next HB4.out hb5⟩

theorem sl_own : ownKnob Try.prog.godebug = none := by kernel_rfl
theorem sl_laidOut : laidOutB Try.prog = true := by kernel_rfl

open Go.ChangeShapes Go.WideShapes Go.ChangeAt Go.Deep in
set_option maxRecDepth 100000 in
theorem substLongs_lifted (os : Os) (started : os.Started) (H : Type) (enc : TypeId × Value → H) :
    ReturnsInHanded {} Try.checked os 5 .any (Rows.substLongsSpec.pre6 enc Try.prog Try.f5 Rows.substLongsRow.domain false) (Rows.substLongsSpec.post enc Try.prog Try.f5 false true false false) := by
  refine returnsInHanded_of_change (C := Try.checked) sl_own started (by kernel_rfl) Try.func5
    (ChangeSpec.witness6 (enc := enc) (C := Try.checked) false ⟨#[], #[.int .i64 0, .int .i64 0, .agg #[.slice none 0 0, .int .i64 0]], []⟩ 8 (by kernel_rfl) (by kernel_rfl) (by kernel_rfl) (by kernel_rfl)) ?_
  intro W base args ds gs before hval0 hW _ _
  have hval : ∀ (j : Nat) t v, Try.f5.params[j]? = some t → args[j]? = some v → Value.okWide Try.prog W .any base t v := hval0
  have hW' := hW
  obtain ⟨p, q, hA0, hV, rfl, _, _⟩ := hW
  have hA : DataW.TrodAll enc Try.prog W 0 (fun _ => true) true Try.f5.params.toList args.toList ds p := hA0
  rw [Try.params5] at hA hval
  obtain ⟨v0, v1, v2, d0, d1, d2, p0, p1, p2, rfl, rfl, rfl, h0, h1, h2⟩ := trodAll_three hA
  obtain ⟨rfl, rfl⟩ := trodVars_none hV
  clear hA0 hval0
  simp only [List.append_nil] at hW'
  have hlt0 : ∀ x ∈ p0, x.block < W.heap.size := fun x hx => hW'.lt x (by simp [hx])
  have hlt1 : ∀ x ∈ p1, x.block < W.heap.size := fun x hx => hW'.lt x (by simp [hx])
  have hlt2 : ∀ x ∈ p2, x.block < W.heap.size := fun x hx => hW'.lt x (by simp [hx])
  have h0k := h0
  have h1k := h1
  obtain ⟨z0, rfl, rfl, rfl, hz0⟩ := open_int Try.underlying3 (hval 0 3 v0 rfl rfl) h0
  obtain ⟨z1, rfl, rfl, rfl, hz1⟩ := open_int Try.underlying3 (hval 1 3 v1 rfl rfl) h1
  obtain ⟨cn, v, l, rfl, rn, hv⟩ := open_simple (hval 2 27 v2 rfl rfl) h2
  refine (substLongs_walk z0 z1 cn l v W hv).mono fun e W' ⟨he, hb⟩ => ?_
  subst he
  refine ⟨_, rfl, _, _, _, [], [] ++ ([] ++ p2), [], hW', ?_, ?_, rfl, hb.frame _, fun h => by cases h⟩
  · exact trodAll_mk1 (shut_bool Try.underlying4 true)
  · exact trodAll_mk3 (Below.trod sl_laidOut (by kernel_rfl) (of_decide_eq_true (by kernel_rfl)) h0k hb hlt0) (Below.trod sl_laidOut (by kernel_rfl) (of_decide_eq_true (by kernel_rfl)) h1k hb hlt1) (Below.trod sl_laidOut (by kernel_rfl) (of_decide_eq_true (by kernel_rfl)) h2 hb hlt2)

theorem substLongs_all : Rows.SubstLongsSaid :=
  OpenClaim.holds_of_wide 5 Try.f5 rfl rfl rfl rfl rfl rfl rfl ⟨rfl, rfl, rfl, rfl, rfl⟩ rfl rfl rfl rfl rfl (by kernel_rfl) Try.func5 (by kernel_rfl)
    (of_decide_eq_true (by kernel_rfl)) (by unfold Func.isWrapper; first | (rw [if_pos (by decide +kernel)]; kernel_rfl) | (rw [if_neg (by decide +kernel)]; exact ⟨rfl, rfl⟩))
    (fun os started H enc _ => substLongs_lifted os started H enc)
end Go.Proofs.Ytknbebkkdkhmaaa.Sb
namespace Go.Proofs.Ytknbebkkdkhmaaa
theorem substLongs_holds : Rows.SubstLongsSaid := Sb.substLongs_all
end Go.Proofs.Ytknbebkkdkhmaaa
