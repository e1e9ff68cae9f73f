/- The law trusslaw04.SubstManies, for lists whose reading is of bulk at most 1048576. -/
import Derived.Test.YtieakippgeehgaaRows
import Derived.Test.YtieakippgeehgaaSbMnW
import Derived.Test.YtieakippgeehgaaTmOpenZ
import Derived.Test.YtieakippgeehgaaSmOpenZ
import Derived.Test.YtieakippgeehgaaSbOpen
import Derived.JoinedCond
import Derived.ProofKit
namespace Go.Proofs.Ytieakippgeehgaa.Sb
open Go.RowKit
set_option linter.unusedSimpArgs false
set_option linter.unusedVariables false
set_option maxRecDepth 100000

section
variable {H : Type} {enc : TypeId × Value → H} {w : World} {base : Nat} {spare : Nat → Bool} {held : Bool}
open Go.ChangeShapes Go.WideShapes in
theorem open_listM {r : Reach} {b0 : Nat} {v : Value} {d : DataW H} {p : List MemPlace} (hv : Value.okWide Try.prog w r b0 22 v) (h : DataW.Trod enc Try.prog w base spare held 22 v d p) :
    ∃ l : List Tm, Lies w (fun _ => True) v l ∧ l.length ≤ Rows.uptoBulk d := by
  obtain ⟨a0, len, cap, rfl⟩ := okWide_slice Try.underlying22 hv
  obtain ⟨fuel, hf⟩ := h
  obtain ⟨v, l, hc, hl, hz⟩ := (openZ_both fuel).2 _ _ hf
  have e : Value.slice a0 len cap = v := by simpa [Value.cells] using hc
  subst e
  exact ⟨l, hl, by have := Tm.length_le_szL l; simp only at hz; omega⟩
open Go.ChangeShapes Go.WideShapes in
theorem open_simplesM {r : Reach} {b0 : Nat} {v : Value} {d : DataW H} {p : List MemPlace} (hv : Value.okWide Try.prog w r b0 25 v) (h : DataW.Trod enc Try.prog w base spare held 25 v d p) :
    ∃ l : List Sp.Tm, Sp.Lies w (fun _ => True) v l ∧ l.length ≤ Rows.uptoBulk d := by
  obtain ⟨a0, len, cap, rfl⟩ := okWide_slice Try.underlying25 hv
  obtain ⟨fuel, hf⟩ := h
  obtain ⟨v, l, hc, hl, hz⟩ := (Sp.openZ_both fuel).2 _ _ hf
  have e : Value.slice a0 len cap = v := by simpa [Value.cells] using hc
  subst e
  exact ⟨l, hl, by have := Sp.Tm.length_le_szL l; simp only at hz; omega⟩
end

theorem smn_own : ownKnob Try.prog.godebug = none := by kernel_rfl
theorem smn_laidOut : laidOutB Try.prog = true := by kernel_rfl

open Go.ChangeShapes Go.WideShapes Go.ChangeAt Go.Deep in
theorem substManies_lifted (os : Os) (started : os.Started) (H : Type) (enc : TypeId × Value → H) (F : Stop.Interp) :
    ReturnsInHanded {} Try.checked os 7 .any ((Rows.OpenSpec.upto Rows.substManiesSpec).pre6 enc Try.prog Try.f7 Rows.substManiesUptoRow.domain false) (((Rows.OpenSpec.upto Rows.substManiesSpec).at F).post enc Try.prog Try.f7 false true false false) := by
  refine returnsInHanded_of_cond (C := Try.checked) (s := Rows.OpenSpec.upto Rows.substManiesSpec) (k := Rows.uptoSmall) rfl smn_own started (by kernel_rfl) Try.func7
    (OpenSpec.witness (enc := enc) (C := Try.checked) (s := Rows.OpenSpec.upto Rows.substManiesSpec) (k := Rows.uptoSmall) rfl false ⟨#[], #[.agg #[.int .i64 0, .int .i64 0, .int .i64 0, .slice none 0 0], .slice none 0 0, .slice none 0 0], []⟩ 8 (by kernel_rfl) (by kernel_rfl) (by kernel_rfl)
      (x := ([.agg [.lit (.int .i64 0), .lit (.int .i64 0), .lit (.int .i64 0), .nil], .nil, .nil], [], [])) (by kernel_rfl) rfl (by kernel_rfl)) ?_
  intro W base args ds gs before hval0 hW _ hk _
  have hval : ∀ (j : Nat) t v, Try.f7.params[j]? = some t → args[j]? = some v → Value.okWide Try.prog W .any base t v := hval0
  have hW' := hW
  obtain ⟨p, q, hA0, hV, rfl, _, _⟩ := hW
  have hA : DataW.TrodAll enc Try.prog W 0 (fun _ => true) true Try.f7.params.toList args.toList ds p := hA0
  rw [Try.params7] at hA hval
  obtain ⟨v0, v1, v2, d0, d1, d2, p0, p1, p2, rfl, rfl, rfl, h0, h1, h2⟩ := trodAll_three hA
  obtain ⟨rfl, rfl⟩ := trodVars_none hV
  clear hA0 hval0
  simp only [List.append_nil] at hW' hk
  have hlt0 : ∀ x ∈ p0, x.block < W.heap.size := fun x hx => hW'.lt x (by simp [hx])
  have hlt1 : ∀ x ∈ p1, x.block < W.heap.size := fun x hx => hW'.lt x (by simp [hx])
  have hlt2 : ∀ x ∈ p2, x.block < W.heap.size := fun x hx => hW'.lt x (by simp [hx])
  have hk' : Rows.uptoBulkAll [d0, d1, d2] ≤ 1048576 := of_decide_eq_true hk
  simp only [Rows.uptoBulkAll] at hk'
  obtain ⟨o, h, n, v, l, rfl, ro, rh, rn, hv⟩ := open_term (hval 0 24 v0 rfl rfl) h0
  obtain ⟨ds, hds, hbk⟩ := open_listM (hval 1 22 v1 rfl rfl) h1
  obtain ⟨Ss, hS, hbk2⟩ := open_simplesM (hval 2 25 v2 rfl rfl) h2
  refine (substManies_walk (.mk o h n l) v v1 v2 ds Ss W hv hds hS ⟨ro, rh, rn⟩ (by omega) (by omega)).mono fun e W' ⟨he, hb⟩ => ?_
  subst he
  refine ⟨_, rfl, _, _, _, [], p0 ++ (p1 ++ p2), [], hW', ?_, ?_, rfl, hb.frame _, fun h => by cases h⟩
  · exact trodAll_mk1 (shut_bool Try.underlying4 true)
  · exact trodAll_mk3 (Below.trod smn_laidOut (by kernel_rfl) (of_decide_eq_true (by kernel_rfl)) h0 hb hlt0) (Below.trod smn_laidOut (by kernel_rfl) (of_decide_eq_true (by kernel_rfl)) h1 hb hlt1) (Below.trod smn_laidOut (by kernel_rfl) (of_decide_eq_true (by kernel_rfl)) h2 hb hlt2)

theorem substManies_all : Rows.SubstManiesUptoSaid :=
  OpenClaim.holds_of_cond 7 Try.f7 rfl rfl rfl rfl rfl rfl rfl ⟨rfl, rfl, rfl, rfl, rfl⟩ rfl rfl rfl rfl rfl (by kernel_rfl) Try.func7 (by kernel_rfl)
    (of_decide_eq_true (by kernel_rfl)) (by unfold Func.isWrapper; first | (rw [if_pos (by decide +kernel)]; kernel_rfl) | (rw [if_neg (by decide +kernel)]; exact ⟨rfl, rfl⟩))
    (fun os started H enc _ F => substManies_lifted os started H enc F)
end Go.Proofs.Ytieakippgeehgaa.Sb
namespace Go.Proofs.Ytieakippgeehgaa
theorem substManies_holds : Rows.SubstManiesUptoSaid := Sb.substManies_all
end Go.Proofs.Ytieakippgeehgaa
