/- The law SubstCommutes: its mathematics, and its second parameter opened. -/
import Derived.Test.YtieakippgeehgaaSbTdW
namespace Go.Proofs.Ytieakippgeehgaa.Sb
open Go.RowKit
set_option linter.unusedSimpArgs false
set_option linter.unusedVariables false
set_option maxRecDepth 100000

/-- the context at two variables -/
theorem ctx_split2 {G : List Sp.Tm} {L n m : Nat} {A B : Sp.Tm} (hL : G.length = L) (hA : G[L - 1 - n]? = some A) (hB : G[L - 1 - m]? = some B) (hn : n < m) (hm : m < L) :
    ∃ G1 G2 G3 : List Sp.Tm, G1.length = n ∧ (G2.length : Int) = (m : Int) - n - 1 ∧ G.reverse = G1 ++ A :: (G2 ++ B :: G3) ∧ (G.take (L - 1 - n)).reverse = G2 ++ B :: G3 ∧ (G.take (L - 1 - m)).reverse = G3 := by
  subst hL
  obtain ⟨hn1, rfl⟩ := List.getElem?_eq_some_iff.1 hA
  obtain ⟨hm1, rfl⟩ := List.getElem?_eq_some_iff.1 hB
  obtain ⟨e1, e2, _⟩ := ctx_split G n (by omega)
  have h2 := ctx_split (G.take (G.length - 1 - n)) (m - n - 1) (by rw [List.length_take]; omega)
  have hl : (G.take (G.length - 1 - n)).length = G.length - 1 - n := by rw [List.length_take]; omega
  simp only [hl] at h2
  obtain ⟨f1, f2, _⟩ := h2
  have e : G.length - 1 - n - 1 - (m - n - 1) = G.length - 1 - m := by omega
  simp only [e, List.getElem_take, List.take_take] at f1 f2
  simp only [Nat.min_eq_left (show G.length - 1 - m ≤ G.length - 1 - n by omega)] at f1
  exact ⟨_, _, _, e2, by rw [f2]; omega, by rw [e1, f1], f1, rfl⟩

theorem commutes_math {K G : List Sp.Tm} {t s r : Tm} {cn : Int} {Ss : List Sp.Tm} {L n m : Nat} {A B : Sp.Tm} (hL : G.length = L) (hA : G[L - 1 - n]? = some A) (hB : G[L - 1 - m]? = some B) (hn : n < m) (hm : m < L) (hR : rightB K G t (.mk cn Ss) = true) (hps : Tm.proper s = true) (hpr : Tm.proper r = true)
    (hfs : fitb K s (G.take (L - 1 - n)).reverse A.args A.n = true) (hfr : fitb K r (G.take (L - 1 - m)).reverse B.args B.n = true) :
    (substOut t m r B).2 = 5 ∨ ((substOut t m r B).2 = 0 ∧ Tm.proper (substOut t m r B).1 = true ∧
    ((substOut s ((m : Int) - n - 1) r B).2 = 5 ∨ ((substOut s ((m : Int) - n - 1) r B).2 = 0 ∧ Tm.proper (substOut s ((m : Int) - n - 1) r B).1 = true ∧
    ((substOut t n s A).2 = 5 ∨ ((substOut t n s A).2 = 0 ∧ Tm.proper (substOut t n s A).1 = true ∧
    ((substOut (substOut t m r B).1 n (substOut s ((m : Int) - n - 1) r B).1 A).2 = 5 ∨ ((substOut (substOut t m r B).1 n (substOut s ((m : Int) - n - 1) r B).1 A).2 = 0 ∧
    ((substOut (substOut t n s A).1 ((m : Int) - 1) r B).2 = 5 ∨ ((substOut (substOut t n s A).1 ((m : Int) - 1) r B).2 = 0 ∧ (substOut (substOut t m r B).1 n (substOut s ((m : Int) - n - 1) r B).1 A).1 = (substOut (substOut t n s A).1 ((m : Int) - 1) r B).1)))))))))  := by
  obtain ⟨h20, hp, hsm, hf⟩ := rightB_parts hR
  simp only [Sp.Tm.args, Sp.Tm.n] at hf
  have hsA : Sp.Tm.small A = true := by obtain ⟨_, rfl⟩ := List.getElem?_eq_some_iff.1 hA; exact hsm _ (List.getElem_mem _)
  have hsB : Sp.Tm.small B = true := by obtain ⟨_, rfl⟩ := List.getElem?_eq_some_iff.1 hB; exact hsm _ (List.getElem_mem _)
  obtain ⟨G1, G2, G3, l1, l2, e1, e2, e3⟩ := ctx_split2 hL hA hB hn hm
  have ft := (fit_iff hp).1 hf
  have fs := (fit_iff hps).1 hfs
  have fr := (fit_iff hpr).1 hfr
  rw [e1] at ft
  rw [e2] at fs
  rw [e3] at fr
  have ft' : Fit K t ((G1 ++ A :: G2) ++ B :: G3) Ss cn := by simpa using ft
  have lm : ((G1 ++ A :: G2).length : Int) = (m : Int) := by simp; omega
  have lm1 : ((G1 ++ G2).length : Int) = (m : Int) - 1 := by simp; omega
  have ln : (G1.length : Int) = (n : Int) := by omega
  have o1 := substOut_fit (by simp; omega) hp hpr hsB ft' fr
  have o2 := substOut_fit (by omega) hps hpr hsB fs fr
  have o3 := substOut_fit (by omega) hp hps hsA ft fs
  rw [lm] at o1
  rw [l2] at o2
  rw [ln] at o3
  rcases o1 with ⟨a1, a2, a3, a4⟩ | h
  · refine .inr ⟨a1, by rw [a2]; exact a3, ?_⟩
    rcases o2 with ⟨b1, b2, b3, b4⟩ | h
    · refine .inr ⟨b1, by rw [b2]; exact b3, ?_⟩
      rcases o3 with ⟨c1, c2, c3, c4⟩ | h
      · refine .inr ⟨c1, by rw [c2]; exact c3, ?_⟩
        rw [a2, b2, c2]
        have a4' : Fit K (putT B r m t) (G1 ++ A :: (G2 ++ G3)) Ss cn := by simpa using a4
        have c4' : Fit K (putT A s n t) ((G1 ++ G2) ++ B :: G3) Ss cn := by simpa using c4
        have o4 := substOut_fit (by omega) a3 b3 hsA a4' b4
        have o5 := substOut_fit (by simp; omega) c3 hpr hsB c4' fr
        rw [ln] at o4
        rw [lm1] at o5
        rcases o4 with ⟨d1, d2, _, _⟩ | h
        · refine .inr ⟨d1, ?_⟩
          rcases o5 with ⟨g1, g2, _, _⟩ | h
          · refine .inr ⟨g1, ?_⟩
            rw [d2, g2]
            have hc := putT_comm (t := t) G1 G2 G3 s r Ss cn ft fs fr
            rw [l2, ln, show (n : Int) + 1 + ((m : Int) - n - 1) = m by omega, show (n : Int) + ((m : Int) - n - 1) = (m : Int) - 1 by omega] at hc
            exact hc
          · exact .inl h
        · exact .inl h
      · exact .inl h
    · exact .inl h
  · exact .inl h

/-- a number turned into the range -/
theorem mod_inI (n : Int) {L : Int} (h0 : 0 < L) (h1 : L ≤ 1000000) : ∃ m : Nat, wrap64 ((IntKind.u64.wrap n).tmod L) = (m : Int) ∧ (m : Int) < L := by
  obtain ⟨l, rfl⟩ : ∃ l : Nat, L = (l : Int) := ⟨L.toNat, by omega⟩
  obtain ⟨m, h, hm⟩ := mod_in n (L := l) (by omega) (by omega)
  exact ⟨m, h, by omega⟩

section
variable {H : Type} {enc : TypeId × Value → H} {w : World} {base : Nat} {spare : Nat → Bool} {held : Bool}
theorem two_cells : Try.prog.cellsOf 66 = 10 := by kernel_rfl
open Go.ChangeShapes Go.WideShapes in
/-- a parameter that is two terms and two variables -/
theorem open_two {r : Reach} {b0 : Nat} {v : Value} {d : DataW H} {p : List MemPlace} (hv : Value.okWide Try.prog w r b0 66 v) (h : DataW.Trod enc Try.prog w base spare held 66 v d p) :
    ∃ (t s : Tm) (n m : Int) (tv sv : Value), v = .agg #[.int .i64 n, .int .i64 m, .int .i64 t.op, .int .i64 t.hd, .int .i64 t.n, tv, .int .i64 s.op, .int .i64 s.hd, .int .i64 s.n, sv] ∧ t.fit ∧ s.fit ∧ Lies w (fun _ => True) tv t.args ∧ Lies w (fun _ => True) sv s.args := by
  obtain ⟨cs, rfl, hsz⟩ := okWide_struct Try.underlying66 hv
  obtain ⟨fuel, hf⟩ := h
  rcases fuel with _ | fuel
  · simp [DataW.trod] at hf
  obtain ⟨xs, m, hn, hx, hl, hlen, hfl⟩ := DataW.trod_struct Try.underlying66 hf
  obtain rfl : fuel = m := by omega
  rw [two_cells] at hl
  obtain ⟨cl⟩ := cs
  simp only [Value.cells, List.toList_toArray] at hl hfl
  match cl, hl with
  | [c0, c1, c2, c3, c4, c5, c6, c7, c8, c9], _ =>
    match xs, hlen with
    | [y0, y1, y2, y3], _ =>
      have h0 : DataW.trod enc Try.prog w base spare held fuel 3 [c0] = some y0 := by simpa [tm_cellsI] using hfl 0 _ rfl
      have h1 : DataW.trod enc Try.prog w base spare held fuel 3 [c1] = some y1 := by simpa [tm_cellsI] using hfl 1 _ rfl
      have h2 : DataW.trod enc Try.prog w base spare held fuel 24 [c2, c3, c4, c5] = some y2 := by simpa [tm_cells] using hfl 2 _ rfl
      have h3 : DataW.trod enc Try.prog w base spare held fuel 24 [c6, c7, c8, c9] = some y3 := by simpa [tm_cells] using hfl 3 _ rfl
      obtain ⟨k, rfl, rk⟩ := open_int_cell h0
      obtain ⟨k', rfl, rk'⟩ := open_int_cell h1
      obtain ⟨o, h, n, s, l, e0, ro, rh, rn, L0⟩ := (open_both fuel).1 _ _ h2
      obtain ⟨o', h', n', s', l', e2, ro', rh', rn', L2⟩ := (open_both fuel).1 _ _ h3
      simp only [List.cons.injEq, and_true] at e0 e2
      obtain ⟨rfl, rfl, rfl, rfl⟩ := e0
      obtain ⟨rfl, rfl, rfl, rfl⟩ := e2
      exact ⟨.mk o h n l, .mk o' h' n' l', k, k', _, _, rfl, ⟨ro, rh, rn⟩, ⟨ro', rh', rn'⟩, L0, L2⟩
end
end Go.Proofs.Ytieakippgeehgaa.Sb
