/- The law SubstTyped: its mathematics, and its parameter opened. -/
import Derived.Test.YtieakippgeehgaaSbRt
import Derived.Test.YtieakippgeehgaaSbWo
import Derived.Test.YtieakippgeehgaaSbOpen
namespace Go.Proofs.Ytieakippgeehgaa.Sb
open Go.RowKit
set_option linter.unusedSimpArgs false
set_option linter.unusedVariables false
set_option maxRecDepth 100000

/-- the context at a variable -/
theorem ctx_split (G : List Sp.Tm) (n : Nat) (hn : n < G.length) :
    G.reverse = (G.drop (G.length - n)).reverse ++ G[G.length - 1 - n] :: (G.take (G.length - 1 - n)).reverse ∧ (G.drop (G.length - n)).reverse.length = n ∧
    (G.take (G.length - 1 - n) ++ G.drop (G.length - n)).reverse = (G.drop (G.length - n)).reverse ++ (G.take (G.length - 1 - n)).reverse := by
  refine ⟨?_, by simp; omega, by simp⟩
  have h1 : G = G.take (G.length - 1 - n) ++ G[G.length - 1 - n] :: G.drop (G.length - n) := by
    conv => lhs; rw [← List.take_append_drop (G.length - 1 - n) G]
    rw [List.drop_eq_getElem_cons (show G.length - 1 - n < G.length by omega), show G.length - 1 - n + 1 = G.length - n by omega]
  conv => lhs; rw [h1]
  simp
theorem rightB_parts {K G : List Sp.Tm} {t : Tm} {S : Sp.Tm} (h : rightB K G t S = true) :
    G.length ≤ 20 ∧ Tm.proper t = true ∧ (∀ A ∈ G, Sp.Tm.small A = true) ∧ fitb K t G.reverse S.args S.n = true := by
  simp only [rightB, Bool.and_eq_true, decide_eq_true_eq, List.all_eq_true] at h
  exact ⟨h.1.1.1.1.1.2, h.1.1.1.1.2, h.1.2, h.2⟩
/-- put in what fits: 0 and the same as the total function says, or 5 -/
theorem substOut_fit {K : List Sp.Tm} {t s : Tm} {S : Sp.Tm} {A B Ss : List Sp.Tm} {c : Int} (hA : A.length ≤ 9999) (hp : Tm.proper t = true) (hps : Tm.proper s = true) (hS : Sp.Tm.small S = true) (ht : Fit K t (A ++ S :: B) Ss c) (hs : Fit K s B S.args S.n) :
    ((substOut t A.length s S).2 = 0 ∧ (substOut t A.length s S).1 = putT S s A.length t ∧ Tm.proper (putT S s A.length t) = true ∧ Fit K (putT S s A.length t) (A ++ B) Ss c) ∨ (substOut t A.length s S).2 = 5 := by
  have h1 := put_fit s A B Ss c 0 ht hs
  have h2 := fit_putT s A B Ss c ht hs
  have h3 := put_good S s A.length t 0 (by omega) hp
  unfold substOut
  rw [hp, hps, hS, show isNum (A.length : Int) = true by simp [isNum]; omega]
  simp only [Bool.and_self, if_true]
  cases hq : put S s A.length t 0 with
  | ok x c' =>
    rw [hq] at h1 h3
    simp only [ErOk] at h1
    subst h1
    exact .inl ⟨rfl, rfl, h3.1, h2⟩
  | er e =>
    rw [hq] at h1
    exact .inr h1
theorem typed_math {K G : List Sp.Tm} {t s : Tm} {cn : Int} {Ss : List Sp.Tm} {n : Nat} (hn : n < G.length) (hR : rightB K G t (.mk cn Ss) = true) (hps : Tm.proper s = true)
    (hfs : fitb K s (G.take (G.length - 1 - n)).reverse G[G.length - 1 - n].args G[G.length - 1 - n].n = true) :
    ((substOut t n s G[G.length - 1 - n]).2 = 0 ∧ Tm.proper (substOut t n s G[G.length - 1 - n]).1 = true ∧ fitb K (substOut t n s G[G.length - 1 - n]).1 (G.take (G.length - 1 - n) ++ G.drop (G.length - n)).reverse Ss cn = true) ∨ (substOut t n s G[G.length - 1 - n]).2 = 5 := by
  obtain ⟨h20, hp, hsm, hf⟩ := rightB_parts hR
  obtain ⟨e1, e2, e3⟩ := ctx_split G n hn
  have hf1 := (fit_iff hp).1 hf
  rw [e1] at hf1
  have hs1 := (fit_iff hps).1 hfs
  have := substOut_fit (K := K) (t := t) (s := s) (by rw [e2]; omega) hp hps (hsm _ (List.getElem_mem (by omega))) hf1 hs1
  rw [e2] at this
  rcases this with ⟨h1, h2, h3, h4⟩ | h
  · refine .inl ⟨h1, by rw [h2]; exact h3, ?_⟩
    rw [h2, e3]
    exact (fit_iff h3).2 h4
  · exact .inr h

section
variable {H : Type} {enc : TypeId × Value → H} {w : World} {base : Nat} {spare : Nat → Bool} {held : Bool}
theorem typed_cells : Try.prog.cellsOf 59 = 8 := by kernel_rfl
theorem sps_cells : Try.prog.cellsOf 25 = 1 := by kernel_rfl
open Go.ChangeShapes Go.WideShapes in
/-- a parameter that is a typed term -/
theorem open_typed {r : Reach} {b0 : Nat} {v : Value} {d : DataW H} {p : List MemPlace} (hv : Value.okWide Try.prog w r b0 59 v) (h : DataW.Trod enc Try.prog w base spare held 59 v d p) :
    ∃ (t : Tm) (cn : Int) (K G Ss : List Sp.Tm) (Kv Gv tv Sv : Value), v = .agg #[Kv, Gv, .int .i64 t.op, .int .i64 t.hd, .int .i64 t.n, tv, Sv, .int .i64 cn] ∧ t.fit ∧ I64 cn ∧ Sp.Lies w (fun _ => True) Kv K ∧ Sp.Lies w (fun _ => True) Gv G ∧ Lies w (fun _ => True) tv t.args ∧ Sp.Lies w (fun _ => True) Sv Ss := by
  obtain ⟨cs, rfl, hsz⟩ := okWide_struct Try.underlying59 hv
  obtain ⟨fuel, hf⟩ := h
  rcases fuel with _ | fuel
  · simp [DataW.trod] at hf
  obtain ⟨xs, m, hn, hx, hl, hlen, hfl⟩ := DataW.trod_struct Try.underlying59 hf
  obtain rfl : fuel = m := by omega
  rw [typed_cells] at hl
  obtain ⟨cl⟩ := cs
  simp only [Value.cells, List.toList_toArray] at hl hfl
  match cl, hl with
  | [c0, c1, c2, c3, c4, c5, c6, c7], _ =>
    match xs, hlen with
    | [y0, y1, y2, y3], _ =>
      have h0 : DataW.trod enc Try.prog w base spare held fuel 25 [c0] = some y0 := by simpa [sps_cells] using hfl 0 _ rfl
      have h1 : DataW.trod enc Try.prog w base spare held fuel 25 [c1] = some y1 := by simpa [sps_cells] using hfl 1 _ rfl
      have h2 : DataW.trod enc Try.prog w base spare held fuel 24 [c2, c3, c4, c5] = some y2 := by simpa [tm_cells] using hfl 2 _ rfl
      have h3 : DataW.trod enc Try.prog w base spare held fuel 27 [c6, c7] = some y3 := by simpa [Sp.sm_cells] using hfl 3 _ rfl
      obtain ⟨vK, K, e0, LK, _⟩ := (Sp.openZ_both fuel).2 _ _ h0
      obtain ⟨vG, G, e1, LG, _⟩ := (Sp.openZ_both fuel).2 _ _ h1
      obtain ⟨o, h, n, s, l, e2, ro, rh, rn, L2⟩ := (open_both fuel).1 _ _ h2
      obtain ⟨cn, S, Ss, e3, rcn, L3, _⟩ := (Sp.openZ_both fuel).1 _ _ h3
      simp only [List.cons.injEq, and_true] at e0 e1 e2 e3
      obtain rfl := e0
      obtain rfl := e1
      obtain ⟨rfl, rfl, rfl, rfl⟩ := e2
      obtain ⟨rfl, rfl⟩ := e3
      exact ⟨.mk o h n l, cn, K, G, Ss, _, _, _, _, rfl, ⟨ro, rh, rn⟩, rcn, LK, LG, L2, L3⟩
end
end Go.Proofs.Ytieakippgeehgaa.Sb
