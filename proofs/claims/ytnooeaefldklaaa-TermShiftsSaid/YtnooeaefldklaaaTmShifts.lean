/- For any term and any two numbers: Shift adds to the numbers of the free variables from one on, or returns the error. No conditions. -/
import Derived.Test.YtnooeaefldklaaaRows
import Derived.Test.YtnooeaefldklaaaTmShiftR
import Derived.ProofKit
namespace Go.Proofs.Ytnooeaefldklaaa
open Go.RowKit
set_option linter.unusedSimpArgs false
set_option linter.unusedVariables false

theorem gives_refl (S S' : Nat → Prop) (t : Tm) (e : Int) (v v' : Value) (w : World) (hv : Lies w S v t.args) (hv' : Lies w S' v' t.args) :
    Calls Try.prog 21 #[.agg #[.int .i64 t.op, .int .i64 t.hd, .int .i64 t.n, v], .int .i64 e, .agg #[.int .i64 t.op, .int .i64 t.hd, .int .i64 t.n, v'], .int .i64 e] w
      fun e' w' => e' = .returned (.bool true) ∧ Below w.heap.size w w' := by
  have c := gives_any S S' t.op t.hd t.n t.op t.hd t.n e e v v' t.args t.args w hv hv'
  rw [(Tm.same_iff _ _).2 rfl, beq_self_eq_true] at c
  exact c

set_option maxHeartbeats 2000000 in
set_option maxRecDepth 100000 in
theorem termShifts_walk (o h n d fr : Int) (v : Value) (l : List Tm) (w : World) (hv : Lies w (fun _ => True) v l) (hd : I64 d) (hf : I64 fr) :
    Calls Try.prog 4 #[.agg #[.int .i64 o, .int .i64 h, .int .i64 n, v], .int .i64 d, .int .i64 fr] w fun e w' => e = .returned (.bool true) ∧ Below w.heap.size w w' := by
  obtain ⟨a2, n2, m2, rfl⟩ := hv.isSlice
  have HB0 := Lib.hid (one_below w (.cells #[.int .i64 o, .int .i64 h, .int .i64 n, .slice a2 n2 m2] 24))
  have HZ0 := Lib.hid (heap_alloc_new w (.cells #[.int .i64 o, .int .i64 h, .int .i64 n, .slice a2 n2 m2] 24))
  have c1 := fun w1 hb => shift_any o h n d fr _ l w1 (hv.keep (w' := w1) hb) hd hf
  have c2 := fun w1 hb => shiftR_any o h n d fr _ l w1 (hv.keep (w' := w1) hb) hd hf
  rw [← shift_same] at c2
  obtain ⟨y, hy⟩ : ∃ y, y = shiftOut d fr (.mk o h n l) := ⟨_, rfl⟩
  rw [← hy] at c1 c2
  obtain ⟨t, x⟩ := y
  clear hy hv
  go_enter Try.func4, Try.ntmps4
  go_wp2_with fail
  refine (c1 _ HB0.out).mono ?_
  rintro e w1 ⟨v1, rfl, hb1, hl1⟩
  obtain ⟨a3, n3, m3, rfl⟩ := hl1.isSlice
  have hz := heap_kept hb1 HZ0.out
  have hba := (Below.refl w1.heap.size w1).alloc (Nat.le_refl _) (.cells #[.int .i64 t.op, .int .i64 t.hd, .int .i64 t.n, .slice a3 n3 m3] 24)
  have hzx := heap_kept hba hz
  have q0 := cell_in hzx 0 (.int .i64 o) rfl
  have q1 := cell_in hzx 1 (.int .i64 h) rfl
  have q2 := cell_in hzx 2 (.int .i64 n) rfl
  have q3 := cell_in hzx 3 (.slice a2 n2 m2) rfl
  have B1 := below_next (below_next HB0.out hb1) hba
  have L1 := Lib.hid (hl1.keep hba)
  have N1 := Lib.hid (heap_alloc_new w1 (.cells #[.int .i64 t.op, .int .i64 t.hd, .int .i64 t.n, .slice a3 n3 m3] 24))
  clear hz hzx hl1
  go_wp2_with fail
  refine (c2 _ B1).mono ?_
  rintro e w2 ⟨v2, rfl, hb2, hl2⟩
  obtain ⟨a4, n4, m4, rfl⟩ := hl2.isSlice
  have hba2 := (Below.refl w2.heap.size w2).alloc (Nat.le_refl _) (.cells #[.int .i64 t.op, .int .i64 t.hd, .int .i64 t.n, .slice a4 n4 m4] 24)
  have B2 := below_next (below_next B1 hb2) hba2
  have hzx := heap_kept hba2 (heap_kept hb2 N1.out)
  have r0 := cell_in hzx 0 (.int .i64 t.op) rfl
  have r1 := cell_in hzx 1 (.int .i64 t.hd) rfl
  have r2 := cell_in hzx 2 (.int .i64 t.n) rfl
  have r3 := cell_in hzx 3 (.slice a3 n3 m3) rfl
  have c3 := gives_refl _ _ t x _ _ _ ((L1.out.keep hb2).keep hba2) (hl2.keep hba2)
  clear hzx q0 q1 q2 q3 hl2
  go_wp2_with fail
  refine c3.mono ?_
  rintro e w3 ⟨rfl, hb3⟩
  have B3 := below_next B2 hb3
  clear c3
  go_wp2_with fail
  refine (awake_any _).mono ?_
  rintro e w4 ⟨rfl, hb4⟩
  go_wp2
  go_ret
  exact ⟨rfl, below_next B3 hb4⟩

theorem ts_own : ownKnob Try.prog.godebug = none := by kernel_rfl
theorem ts_laidOut : laidOutB Try.prog = true := by kernel_rfl

open Go.ChangeShapes Go.WideShapes Go.ChangeAt Go.Deep in
set_option maxRecDepth 100000 in
theorem termShifts_lifted (os : Os) (started : os.Started) (H : Type) (enc : TypeId × Value → H) :
    ReturnsInHanded {} Try.checked os 4 .any (Rows.termShiftsSpec.pre6 enc Try.prog Try.f4 Rows.termShiftsRow.domain false) (Rows.termShiftsSpec.post enc Try.prog Try.f4 false true false false) := by
  refine returnsInHanded_of_change (C := Try.checked) ts_own started (by kernel_rfl) Try.func4
    (ChangeSpec.witness6 (enc := enc) (C := Try.checked) false ⟨#[], #[.agg #[.int .i64 0, .int .i64 0, .int .i64 0, .slice none 0 0], .int .i64 0, .int .i64 0], []⟩ 8 (by kernel_rfl) (by kernel_rfl) (by kernel_rfl) (by kernel_rfl)) ?_
  intro W base args ds gs before hval0 hW _ _
  have hval : ∀ (j : Nat) t v, Try.f4.params[j]? = some t → args[j]? = some v → Value.okWide Try.prog W .any base t v := hval0
  have hW' := hW
  obtain ⟨p, q, hA0, hV, rfl, _, _⟩ := hW
  have hA : DataW.TrodAll enc Try.prog W 0 (fun _ => true) true Try.f4.params.toList args.toList ds p := hA0
  rw [Try.params4] at hA hval
  obtain ⟨v0, v1, v2, d0, d1, d2, p0, p1, p2, rfl, rfl, rfl, h0, h1, h2⟩ := trodAll_three hA
  obtain ⟨rfl, rfl⟩ := trodVars_none hV
  clear hA0 hval0
  simp only [List.append_nil] at hW'
  have hlt0 : ∀ x ∈ p0, x.block < W.heap.size := fun x hx => hW'.lt x (by simp [hx])
  have hlt1 : ∀ x ∈ p1, x.block < W.heap.size := fun x hx => hW'.lt x (by simp [hx])
  have hlt2 : ∀ x ∈ p2, x.block < W.heap.size := fun x hx => hW'.lt x (by simp [hx])
  obtain ⟨o, h, n, v, l, rfl, ro, rh, rn, hv⟩ := open_term (hval 0 24 v0 rfl rfl) h0
  have h1k := h1
  have h2k := h2
  obtain ⟨z1, rfl, rfl, rfl, hz1⟩ := open_int Try.underlying3 (hval 1 3 v1 rfl rfl) h1
  obtain ⟨z2, rfl, rfl, rfl, hz2⟩ := open_int Try.underlying3 (hval 2 3 v2 rfl rfl) h2
  refine (termShifts_walk o h n z1 z2 v l W hv (I64.of hz1) (I64.of hz2)).mono fun e W' ⟨he, hb⟩ => ?_
  subst he
  refine ⟨_, rfl, _, _, _, [], p0 ++ ([] ++ []), [], hW', ?_, ?_, rfl, hb.frame _, fun h => by cases h⟩
  · exact trodAll_mk1 (shut_bool Try.underlying4 true)
  · exact trodAll_mk3 (Below.trod ts_laidOut (by kernel_rfl) (of_decide_eq_true (by kernel_rfl)) h0 hb hlt0) (Below.trod ts_laidOut (by kernel_rfl) (of_decide_eq_true (by kernel_rfl)) h1k hb hlt1) (Below.trod ts_laidOut (by kernel_rfl) (of_decide_eq_true (by kernel_rfl)) h2k hb hlt2)

theorem termShifts_holds : Rows.TermShiftsSaid :=
  OpenClaim.holds_of_wide 4 Try.f4 rfl rfl rfl rfl rfl rfl rfl ⟨rfl, rfl, rfl, rfl, rfl⟩ rfl rfl rfl rfl rfl (by kernel_rfl) Try.func4 (by kernel_rfl)
    (of_decide_eq_true (by kernel_rfl)) (by unfold Func.isWrapper; first | (rw [if_pos (by decide +kernel)]; kernel_rfl) | (rw [if_neg (by decide +kernel)]; exact ⟨rfl, rfl⟩))
    (fun os started H enc _ => termShifts_lifted os started H enc)

end Go.Proofs.Ytnooeaefldklaaa
