/- For any two terms and two simple types whose reading is of bulk at most 1048576: Same and SameSimple compare them in all fields. -/
import Derived.Test.YtnooeaefldklaaaTmSameW
import Derived.Test.YtnooeaefldklaaaSmOpenZ
import Derived.JoinedCond
import Derived.ProofKit
namespace Go.Proofs.Ytnooeaefldklaaa
open Go.RowKit
set_option linter.unusedSimpArgs false
set_option linter.unusedVariables false
set_option maxRecDepth 100000
theorem four_cells : Try.prog.cellsOf 67 = 12 := by kernel_rfl

section
variable {H : Type} {enc : TypeId × Value → H} {w : World} {base : Nat} {spare : Nat → Bool} {held : Bool}
open Go.ChangeShapes Go.WideShapes in
theorem open_four {r : Reach} {b0 : Nat} {v : Value} {d : DataW H} {p : List MemPlace} (hv : Value.okWide Try.prog w r b0 67 v) (h : DataW.Trod enc Try.prog w base spare held 67 v d p) :
    ∃ (a b : Tm) (va vb vs vt : Value) (s t : Int) (ls lt : List Sp.Tm), v = .agg #[.int .i64 a.op, .int .i64 a.hd, .int .i64 a.n, va, .int .i64 b.op, .int .i64 b.hd, .int .i64 b.n, vb, vs, .int .i64 s, vt, .int .i64 t] ∧
      Lies w (fun _ => True) va a.args ∧ Lies w (fun _ => True) vb b.args ∧ Sp.Lies w (fun _ => True) vs ls ∧ Sp.Lies w (fun _ => True) vt lt ∧
      a.fit ∧ b.fit ∧ (Sp.Tm.mk s ls).fit ∧ (Sp.Tm.mk t lt).fit ∧ Tm.sz a + Tm.sz b + Sp.Tm.sz (.mk s ls) + Sp.Tm.sz (.mk t lt) ≤ Rows.uptoBulk d := by
  obtain ⟨cs, rfl, hsz⟩ := okWide_struct Try.underlying67 hv
  obtain ⟨fuel, hfu⟩ := h
  have hc : (Value.agg cs).cells.toList = cs.toList := by simp [Value.cells]
  rw [hc] at hfu
  cases fuel with
  | zero => simp [DataW.trod] at hfu
  | succ fuel =>
    obtain ⟨xs, n, hn, hx, hl, hlen, hf⟩ := DataW.trod_struct Try.underlying67 hfu
    obtain rfl : fuel = n := by omega
    rw [four_cells] at hl
    obtain ⟨cl⟩ := cs
    simp only at hl hf
    match cl, hl with
    | [c0, c1, c2, c3, c4, c5, c6, c7, c8, c9, c10, c11], _ =>
      match xs, hlen with
      | [y0, y1, y2, y3], _ =>
        have h0 : DataW.trod enc Try.prog w base spare held fuel 24 [c0, c1, c2, c3] = some y0 := by simpa [tm_cells, tm_cellsI, Sp.sm_cells] using hf 0 _ rfl
        have h1 : DataW.trod enc Try.prog w base spare held fuel 24 [c4, c5, c6, c7] = some y1 := by simpa [tm_cells, tm_cellsI, Sp.sm_cells] using hf 1 _ rfl
        have h2 : DataW.trod enc Try.prog w base spare held fuel 60 [c8, c9] = some y2 := by simpa [tm_cells, tm_cellsI, Sp.sm_cells] using hf 2 _ rfl
        have h3 : DataW.trod enc Try.prog w base spare held fuel 60 [c10, c11] = some y3 := by simpa [tm_cells, tm_cellsI, Sp.sm_cells] using hf 3 _ rfl
        obtain ⟨o, hd, n, s, l, he, ro, rh, rn, lies, hz⟩ := (openZ_both fuel).1 _ _ h0
        obtain ⟨o', hd', n', s', l', he', ro', rh', rn', lies', hz'⟩ := (openZ_both fuel).1 _ _ h1
        obtain ⟨m, s2, l2, he2, rm, lies2, hz2⟩ := (Sp.openZ_both fuel).1 _ _ h2
        obtain ⟨m', s3, l3, he3, rm', lies3, hz3⟩ := (Sp.openZ_both fuel).1 _ _ h3
        simp only [List.cons.injEq, and_true] at he he' he2 he3
        obtain ⟨rfl, rfl, rfl, rfl⟩ := he
        obtain ⟨rfl, rfl, rfl, rfl⟩ := he'
        obtain ⟨rfl, rfl⟩ := he2
        obtain ⟨rfl, rfl⟩ := he3
        refine ⟨.mk o hd n l, .mk o' hd' n' l', _, _, _, _, m, m', l2, l3, rfl, lies, lies', lies2, lies3, ⟨ro, rh, rn⟩, ⟨ro', rh', rn'⟩, rm, rm', ?_⟩
        have hx1 := congrArg Prod.fst hx
        simp only at hx1
        subst hx1
        simp only [List.map_cons, List.map_nil, Rows.uptoBulk, Rows.uptoBulkAll]
        omega
end

theorem ts_own : ownKnob Try.prog.godebug = none := by kernel_rfl
theorem ts_laidOut : laidOutB Try.prog = true := by kernel_rfl

open Go.ChangeShapes Go.WideShapes Go.ChangeAt Go.Deep in
theorem termSame_lifted (os : Os) (started : os.Started) (H : Type) (enc : TypeId × Value → H) (F : Stop.Interp) :
    ReturnsInHanded {} Try.checked os 8 .any ((Rows.OpenSpec.upto Rows.termSameSpec).pre6 enc Try.prog Try.f8 Rows.termSameUptoRow.domain false) (((Rows.OpenSpec.upto Rows.termSameSpec).at F).post enc Try.prog Try.f8 false true false false) := by
  refine returnsInHanded_of_cond (C := Try.checked) (s := Rows.OpenSpec.upto Rows.termSameSpec) (k := Rows.uptoSmall) rfl ts_own started (by kernel_rfl) Try.func8
    (OpenSpec.witness (enc := enc) (C := Try.checked) (s := Rows.OpenSpec.upto Rows.termSameSpec) (k := Rows.uptoSmall) rfl false ⟨#[], #[.agg #[.int .i64 0, .int .i64 0, .int .i64 0, .slice none 0 0, .int .i64 0, .int .i64 0, .int .i64 0, .slice none 0 0, .slice none 0 0, .int .i64 0, .slice none 0 0, .int .i64 0]], []⟩ 8 (by kernel_rfl) (by kernel_rfl) (by kernel_rfl)
      (x := ([.agg [.agg [.lit (.int .i64 0), .lit (.int .i64 0), .lit (.int .i64 0), .nil], .agg [.lit (.int .i64 0), .lit (.int .i64 0), .lit (.int .i64 0), .nil], .agg [.nil, .lit (.int .i64 0)], .agg [.nil, .lit (.int .i64 0)]]], [], [])) (by kernel_rfl) rfl (by kernel_rfl)) ?_
  intro W base args ds gs before hval0 hW _ hk _
  have hval : ∀ (j : Nat) t v, Try.f8.params[j]? = some t → args[j]? = some v → Value.okWide Try.prog W .any base t v := hval0
  have hW' := hW
  obtain ⟨p, q, hA0, hV, rfl, _, _⟩ := hW
  have hA : DataW.TrodAll enc Try.prog W 0 (fun _ => true) true Try.f8.params.toList args.toList ds p := hA0
  rw [Try.params8] at hA hval
  obtain ⟨v0, d0, rfl, rfl, h0⟩ := trodAll_one hA
  obtain ⟨rfl, rfl⟩ := trodVars_none hV
  clear hA0 hval0
  simp only [List.append_nil] at hW' hk
  have hlt0 : ∀ x ∈ p, x.block < W.heap.size := fun x hx => hW'.lt x (by simp [hx])
  have hk' : Rows.uptoBulkAll [d0] ≤ 1048576 := of_decide_eq_true hk
  simp only [Rows.uptoBulkAll] at hk'
  obtain ⟨a, b, va, vb, vs, vt, s, t, ls, lt, rfl, la, lb, lsx, ltx, fa, fb, fs, ft, hz⟩ := open_four (hval 0 67 v0 rfl rfl) h0
  refine (termSame_walk a b va vb vs vt s t ls lt W la lb lsx ltx fa fb fs ft (by omega) (by omega) (by omega) (by omega)).mono fun e W' ⟨he, hb⟩ => ?_
  subst he
  refine ⟨_, rfl, _, _, _, [], p, [], hW', ?_, ?_, rfl, hb.frame _, fun h => by cases h⟩
  · exact trodAll_mk1 (shut_bool Try.underlying4 true)
  · exact trodAll_mk1 (Below.trod ts_laidOut (by kernel_rfl) (of_decide_eq_true (by kernel_rfl)) h0 hb hlt0)

theorem termSame_holds : Rows.TermSameUptoSaid :=
  OpenClaim.holds_of_cond 8 Try.f8 rfl rfl rfl rfl rfl rfl rfl ⟨rfl, rfl, rfl, rfl, rfl⟩ rfl rfl rfl rfl rfl (by kernel_rfl) Try.func8 (by kernel_rfl)
    (of_decide_eq_true (by kernel_rfl)) (by unfold Func.isWrapper; first | (rw [if_pos (by decide +kernel)]; kernel_rfl) | (rw [if_neg (by decide +kernel)]; exact ⟨rfl, rfl⟩))
    (fun os started H enc _ F => termSame_lifted os started H enc F)

end Go.Proofs.Ytnooeaefldklaaa
