/- Arguments that are simple types, opened; and structs of terms. -/
import Derived.Test.YtieakippgeehgaaSmOpenZ
import Derived.Test.YtieakippgeehgaaTmGb
namespace Go.Proofs.Ytieakippgeehgaa.Sb
open Go.RowKit
set_option maxRecDepth 100000
set_option linter.unusedSimpArgs false
set_option linter.unusedVariables false

section
variable {H : Type} {enc : TypeId × Value → H} {w : World} {base : Nat} {spare : Nat → Bool} {held : Bool}
open Go.ChangeShapes Go.WideShapes in
/-- a parameter that is a simple type -/
theorem open_simple {r : Reach} {b0 : Nat} {v : Value} {d : DataW H} {p : List MemPlace} (hv : Value.okWide Try.prog w r b0 27 v) (h : DataW.Trod enc Try.prog w base spare held 27 v d p) :
    ∃ (n : Int) (s : Value) (l : List Sp.Tm), v = .agg #[s, .int .i64 n] ∧ I64 n ∧ Sp.Lies w (fun _ => True) s l := by
  obtain ⟨cs, rfl, hsz⟩ := okWide_struct Try.underlying27 hv
  obtain ⟨fuel, hf⟩ := h
  obtain ⟨n, s, l, hc, rn, hl, _⟩ := (Sp.openZ_both fuel).1 _ _ hf
  refine ⟨n, s, l, ?_, rn, hl⟩
  have e : cs.toList = [s, .int .i64 n] := by simpa [Value.cells] using hc
  obtain ⟨cl⟩ := cs
  simp at e
  rw [e]

theorem put_cells : Try.prog.cellsOf 29 = 11 := by kernel_rfl
open Go.ChangeShapes Go.WideShapes in
/-- a parameter that is a substitution -/
theorem open_put {r : Reach} {b0 : Nat} {v : Value} {d : DataW H} {p : List MemPlace} (hv : Value.okWide Try.prog w r b0 29 v) (h : DataW.Trod enc Try.prog w base spare held 29 v d p) :
    ∃ (t s : Tm) (n cn : Int) (tv sv Sv : Value) (Ss : List Sp.Tm), v = .agg #[.int .i64 t.op, .int .i64 t.hd, .int .i64 t.n, tv, .int .i64 n, .int .i64 s.op, .int .i64 s.hd, .int .i64 s.n, sv, Sv, .int .i64 cn] ∧ t.fit ∧ s.fit ∧ I64 n ∧ I64 cn ∧ Lies w (fun _ => True) tv t.args ∧ Lies w (fun _ => True) sv s.args ∧ Sp.Lies w (fun _ => True) Sv Ss := by
  obtain ⟨cs, rfl, hsz⟩ := okWide_struct Try.underlying29 hv
  obtain ⟨fuel, hf⟩ := h
  rcases fuel with _ | fuel
  · simp [DataW.trod] at hf
  obtain ⟨xs, m, hn, hx, hl, hlen, hfl⟩ := DataW.trod_struct Try.underlying29 hf
  obtain rfl : fuel = m := by omega
  rw [put_cells] at hl
  obtain ⟨cl⟩ := cs
  simp only [Value.cells, List.toList_toArray] at hl hfl
  match cl, hl with
  | [c0, c1, c2, c3, c4, c5, c6, c7, c8, c9, c10], _ =>
    match xs, hlen with
    | [y0, y1, y2, y3], _ =>
      have h0 : DataW.trod enc Try.prog w base spare held fuel 24 [c0, c1, c2, c3] = some y0 := by simpa [tm_cells] using hfl 0 _ rfl
      have h1 : DataW.trod enc Try.prog w base spare held fuel 3 [c4] = some y1 := by simpa [tm_cellsI] using hfl 1 _ rfl
      have h2 : DataW.trod enc Try.prog w base spare held fuel 24 [c5, c6, c7, c8] = some y2 := by simpa [tm_cells] using hfl 2 _ rfl
      have h3 : DataW.trod enc Try.prog w base spare held fuel 27 [c9, c10] = some y3 := by simpa [Sp.sm_cells] using hfl 3 _ rfl
      obtain ⟨o, h, n, s, l, e0, ro, rh, rn, L0⟩ := (open_both fuel).1 _ _ h0
      obtain ⟨k, rfl, rk⟩ := open_int_cell h1
      obtain ⟨o', h', n', s', l', e2, ro', rh', rn', L2⟩ := (open_both fuel).1 _ _ h2
      obtain ⟨cn, S, Ss, e3, rcn, L3, _⟩ := (Sp.openZ_both fuel).1 _ _ h3
      simp only [List.cons.injEq, and_true] at e0 e2 e3
      obtain ⟨rfl, rfl, rfl, rfl⟩ := e0
      obtain ⟨rfl, rfl, rfl, rfl⟩ := e2
      obtain ⟨rfl, rfl⟩ := e3
      exact ⟨.mk o h n l, .mk o' h' n' l', k, cn, _, _, _, Ss, rfl, ⟨ro, rh, rn⟩, ⟨ro', rh', rn'⟩, rk, rcn, L0, L2, L3⟩
end
end Go.Proofs.Ytieakippgeehgaa.Sb
