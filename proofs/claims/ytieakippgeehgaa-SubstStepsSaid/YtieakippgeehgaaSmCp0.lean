/- Append of a whole list of simple types to an empty slice that is not nil. -/
import Derived.Test.YtieakippgeehgaaTmCp0
import Derived.Test.YtieakippgeehgaaSmGb
namespace Go.Proofs.Ytieakippgeehgaa.Sp
open Go.RowKit
set_option linter.unusedSimpArgs false
set_option linter.unusedVariables false
section
variable {w : World} {ao : Option Addr} {b off len cap : Nat} {k : Nat → Int} {sv : Nat → Value} {ts : Nat → List Tm} {l : List Tm}
theorem RowAt.noAddr {S : Nat → Prop} (R : RowAt w S ao b off len cap k sv ts l) : ao = none → len = 0 := by
  intro e
  rcases Nat.eq_zero_or_pos len with h0 | h0
  · exact h0
  · have := R.hao h0; rw [e] at this; cases this
theorem RowAt.copied0 (R : RowAt w (fun _ => True) ao b off len cap k sv ts l) {w9 : World} {g cap9 : Nat} (hc : ∀ j u, (flat l ((List.range len).map sv))[j]? = some u → w9.cell? ⟨g, 0 + j, none⟩ = some u) (hle : len ≤ cap9) (hmx : cap9 ≤ maxLen) (hb : Below w.heap.size w w9) :
    Lies w9 (fun _ => True) (.slice (some ⟨g, 0, none⟩) len cap9) l := by
  have hm : cap9 ≤ 9223372036854775807 := by unfold maxLen at hmx; exact hmx
  have hf : ∀ i, i < len → (flat l ((List.range len).map sv))[i * 2]? = some (sv i) ∧ (flat l ((List.range len).map sv))[i * 2 + 1]? = some (.int .i64 (k i)) := fun i hi => by
    have h := flat_get l ((List.range len).map sv) i (by rw [R.length]; exact hi) (by simpa using hi)
    rw [R.get i hi] at h
    simp only [Tm.n, List.getElem_map, List.getElem_range] at h
    exact h
  have row := Lies.row (w := w9) (S := fun _ => True) (some ⟨g, 0, none⟩) g 0 len cap9 k sv ts (fun _ => rfl) (fun _ => trivial) hle hm
    (fun i hi => hc _ _ (hf i hi).1) (fun i hi => by have := hc _ _ (hf i hi).2; rwa [← Nat.add_assoc] at this)
    R.r2 (fun i hi => (R.sub i hi).keep hb)
  rw [← R.isRow] at row
  exact row
end
/-- append of a list of simple types to an empty list -/
theorem step_copy {ops : Array Oper} {o : Oper} {a : Act} {K : Act → World → Prop} {Q : Exit → Act → World → Prop} {E : Prop} {W w : World} (hgd : o.guard = none) (s x : Operand)
    (ho : o.op = .call { callee := .builtin .append, args := #[s, x], argTypes := #[25, 25] })
    (i : TypeInfo) (z : Value) (hi : Try.prog.info? 27 = some i) (hz : i.zero = some z) (hsize : i.size = 2) (hby : i.bytes = 32) (hzs : z.cells.size = 2) (g0 : Nat) (hs : a.eval s = .slice (some ⟨g0, 0, none⟩) 0 0)
    {ao : Option Addr} {b off len cap : Nat} {k2 : Nat → Int} {sv : Nat → Value} {ts : Nat → List Tm} {l : List Tm} (hx : a.eval x = .slice ao len cap) (R : RowAt W (fun _ => True) ao b off len cap k2 sv ts l)
    (hb : Below W.heap.size W w) (hlen : len ≤ 1048576)
    (h : ∀ g cap9 w9, Below w.heap.size w w9 → Below W.heap.size W w9 → Lies w9 (fun _ => True) (.slice (some ⟨g, 0, none⟩) len cap9) l → K (a.put o.dst (.slice (some ⟨g, 0, none⟩) len cap9)) w9) :
    if Region.wanted o (yielded ops a.tmps) = true then Oper.wp Try.prog o a w K Q else E :=
  step_append_zero w hgd s x 25 ho 27 i z 2 32 il_underlying hi hz hsize hby hzs (by omega) g0 hs ao len cap (flat l ((List.range len).map sv)) hx (by rw [flat_length _ _ (by rw [R.length]; simp), R.length]) R.noAddr (R.news hb) R.one (by unfold maxLen; omega) (by omega)
    fun g cap9 w9 hb9 hle hmx hc => h g cap9 w9 hb9 (hb.trans (hb9.mono hb.size)) (R.copied0 hc hle hmx (hb.trans (hb9.mono hb.size)))
end Go.Proofs.Ytieakippgeehgaa.Sp
