/- Contracts of the reference: what a class contains, families. -/
import Derived.Test.YteoheeddjddekaaSgN
import Derived.Test.YteoheeddjddekaaSgG
import Derived.Test.YteoheeddjddekaaTmCon
import Derived.Test.YteoheeddjddekaaTmSplitR
namespace Go.Proofs.Yteoheeddjddekaa
open Go.RowKit
set_option linter.unusedSimpArgs false
set_option linter.unusedVariables false

theorem closed_no1 {N : Int} {t : Tm} (h : Tm.insL [] (Tm.hds (rsel 1) 0 t) ≠ []) : Tm.closed N t = false := by
  unfold Tm.closed
  rw [List.isEmpty_eq_false_iff.2 h]; rfl
theorem closed_no3 {N : Int} {t : Tm} (h : Tm.insL [] (Tm.hds (rsel 3) 0 t) ≠ []) : Tm.closed N t = false := by
  unfold Tm.closed
  rw [List.isEmpty_eq_false_iff.2 h]; simp
theorem closed_nil {N : Int} {t : Tm} (h1 : Tm.insL [] (Tm.hds (rsel 1) 0 t) = []) (h3 : Tm.insL [] (Tm.hds (rsel 3) 0 t) = []) (h2 : Tm.insL [] (Tm.hds (rsel 2) 0 t) = []) : Tm.closed N t = true := by
  unfold Tm.closed
  rw [h1, h2, h3]; rfl
theorem closed_last {N : Int} {t : Tm} (h1 : Tm.insL [] (Tm.hds (rsel 1) 0 t) = []) (h3 : Tm.insL [] (Tm.hds (rsel 3) 0 t) = []) (h2 : Tm.insL [] (Tm.hds (rsel 2) 0 t) ≠ []) : Tm.closed N t = decide ((Tm.insL [] (Tm.hds (rsel 2) 0 t)).getLast h2 < N) := by
  have ha := Tm.asc_insL (Tm.hds (rsel 2) 0 t) [] List.Pairwise.nil
  have := Tm.asc_last _ h2 N ha
  unfold Tm.closed
  rw [h1, h3, Bool.eq_iff_iff, decide_eq_true_eq, this]
  simp
theorem contOut_yes {x : Int} {t : Tm} (h : Tm.proper t = true) : (contOut x t).1 = Tm.insL [] (Tm.hds (rsel x) 0 t) := by unfold contOut; rw [h]; rfl

theorem ints_opn {wx : World} {x : Value} {xs : List Int} {q : Nat} (hq : xs.length = q) (hi : IntsN wx x xs) : ∃ ao b off cap, x = .slice ao q cap ∧ q ≤ cap ∧ cap ≤ 9223372036854775807 ∧ (0 < q → ao = some ⟨b, off, none⟩) ∧ ∀ i (h : i < xs.length), wx.cell? ⟨b, off + i, none⟩ = some (.int .i64 xs[i]) := by
  obtain ⟨⟨ao, b, off, len, cap, I⟩, _⟩ := hi
  obtain rfl : len = q := by rw [← I.hlen]; exact hq
  exact ⟨ao, b, off, cap, I.hv, I.hl, I.hr, I.hao, I.cells⟩

set_option maxHeartbeats 4000000 in
set_option maxRecDepth 100000 in
theorem closedR_any (t : Tm) (N : Nat) (v : Value) (w : World) (hv : Lies w (fun _ => True) v t.args) (hp : Tm.proper t = true) (hN : N ≤ 9223372036854775807) :
    Calls Try.prog 55 #[.agg #[.int .i64 t.op, .int .i64 t.hd, .int .i64 t.n, v], .int .i64 N] w fun e w' => e = .returned (.bool (Tm.closed N t)) ∧ Below w.heap.size w w' := by
  obtain ⟨o, h, n, l⟩ := t
  obtain ⟨a2, n2, m2, rfl⟩ := hv.isSlice
  simp only [Tm.op, Tm.hd, Tm.n]
  have hbx := one_below w (.cells #[.int .i64 o, .int .i64 h, .int .i64 n, .slice a2 n2 m2] 25)
  have c2 := fun w1 (hb : Below w.heap.size w w1) => constsR_any o h n _ l w1 (hv.keep hb) hp
  have c1 := fun w1 (hb : Below w.heap.size w w1) => freeR_any o h n _ l w1 (hv.keep hb) hp
  have c3 := fun w1 (hb : Below w.heap.size w w1) => metasR_any o h n _ l w1 (hv.keep hb) hp
  simp only [contOut_yes hp] at c1 c2 c3
  have N1 := @closed_no1 N (.mk o h n l)
  have N3 := @closed_no3 N (.mk o h n l)
  have NN := @closed_nil N (.mk o h n l)
  have NL := @closed_last N (.mk o h n l)
  generalize Tm.closed N (.mk o h n l) = r at N1 N3 NN NL ⊢
  have hlen : (Tm.insL [] (Tm.hds (rsel 2) 0 (.mk o h n l))).length ≤ 600 := by
    have h1 := Tm.insL_length (Tm.hds (rsel 2) 0 (.mk o h n l)) []
    have h2 := Tm.hds_length (rsel 2) 0 (.mk o h n l)
    have h3 := Tm.proper_sz hp
    simp at h1; omega
  generalize Tm.insL [] (Tm.hds (rsel 1) 0 (.mk o h n l)) = fr at *
  generalize Tm.insL [] (Tm.hds (rsel 2) 0 (.mk o h n l)) = cs at *
  generalize Tm.insL [] (Tm.hds (rsel 3) 0 (.mk o h n l)) = ms at *
  have HB := Lib.hid hbx
  have H1 := Lib.hid N1
  have H3 := Lib.hid N3
  have HN := Lib.hid NN
  have HL := Lib.hid NL
  have HX := Lib.hid (heap_alloc_new w (.cells #[.int .i64 o, .int .i64 h, .int .i64 n, .slice a2 n2 m2] 25))
  clear N1 N3 NN NL hv hp hbx
  have hcs : ∃ q : Nat, cs.length = q := ⟨_, rfl⟩
  have hfs : ∃ q : Nat, fr.length = q := ⟨_, rfl⟩
  have hms : ∃ q : Nat, ms.length = q := ⟨_, rfl⟩
  obtain ⟨qc, hcs⟩ := hcs
  obtain ⟨qf, hfs⟩ := hfs
  obtain ⟨qm, hms⟩ := hms
  have HC := Lib.hid hcs
  have HF := Lib.hid hfs
  have HM := Lib.hid hms
  rw [hcs] at hlen
  clear hcs hfs hms
  by_cases k1 : qf = 0
  · by_cases k3 : qm = 0
    · by_cases k2 : qc = 0
      · subst k1 k2 k3
        go_enter Try.func55, Try.ntmps55
        go_wp2_with (first
          | (go_at_call 33; (with_reducible refine (c2 _ HB.out).mono ?_); rintro e w1 ⟨v1, rfl, hi1, hb1⟩; obtain ⟨ao1, b1, of1, cp1, rfl, hx1, hy1, ha1, hc1⟩ := ints_opn HC.out hi1; have HB1 := Lib.hid (below_next HB.out hb1); have HX1 := Lib.hid (heap_kept hb1 HX.out); obtain ⟨x0, x1, x2, x3⟩ := cells4_of HX1.out; clear hb1 hi1 ha1 hc1)
          | (go_at_call 77; (with_reducible refine (c1 _ HB1.out).mono ?_); rintro e w2 ⟨v2, rfl, hi2, hb2⟩; obtain ⟨ao2, b2, of2, cp2, rfl, hx2, hy2, ha2, hc2⟩ := ints_opn HF.out hi2; have HB2 := Lib.hid (below_next HB1.out hb2); have HX2 := Lib.hid (heap_kept hb2 HX1.out); clear x0 x1 x2 x3; obtain ⟨x0, x1, x2, x3⟩ := cells4_of HX2.out; clear hb2 hi2 ha2 hc2)
          | (go_at_call 78; (with_reducible refine (c3 _ HB2.out).mono ?_); rintro e w3 ⟨v3, rfl, hi3, hb3⟩; obtain ⟨ao3, b3, of3, cp3, rfl, hx3, hy3, ha3, hc3⟩ := ints_opn HM.out hi3; have HB3 := Lib.hid (below_next HB2.out hb3); clear hb3 hi3 ha3 hc3)
          | fail)
        go_ret
        exact ⟨ret_bool (a := true) (HN.out (List.length_eq_zero_iff.1 HF.out) (List.length_eq_zero_iff.1 HM.out) (List.length_eq_zero_iff.1 HC.out)).symm, HB3.out⟩
      · obtain ⟨q, rfl⟩ : ∃ q, qc = q + 1 := ⟨qc - 1, by omega⟩
        subst k1 k3
        have hne : cs ≠ [] := fun e => by have := HC.out; rw [e] at this; simp at this
        have hlast : cs.getLast hne = cs[q]'(by rw [HC.out]; omega) := by rw [List.getLast_eq_getElem]; congr 1; rw [HC.out]; omega
        have HR := Lib.hid (HL.out (List.length_eq_zero_iff.1 HF.out) (List.length_eq_zero_iff.1 HM.out) hne)
        have HLA := Lib.hid hlast
        clear hlast
        go_enter Try.func55, Try.ntmps55
        go_wp2_with (first
          | (go_at_call 33; (with_reducible refine (c2 _ HB.out).mono ?_); rintro e w1 ⟨v1, rfl, hi1, hb1⟩; obtain ⟨ao1, b1, of1, cp1, rfl, hx1, hy1, ha1, hc1⟩ := ints_opn HC.out hi1; obtain rfl := ha1 (by omega); have HCC := Lib.hid (hc1 q (by rw [HC.out]; omega)); have HB1 := Lib.hid (below_next HB.out hb1); have HX1 := Lib.hid (heap_kept hb1 HX.out); obtain ⟨x0, x1, x2, x3⟩ := cells4_of HX1.out; clear hb1 hi1 hc1)
          | (go_at_call 77; (with_reducible refine (c1 _ HB1.out).mono ?_); rintro e w2 ⟨v2, rfl, hi2, hb2⟩; obtain ⟨ao2, b2, of2, cp2, rfl, hx2, hy2, ha2, hc2⟩ := ints_opn HF.out hi2; have HB2 := Lib.hid (below_next HB1.out hb2); have HCD := Lib.hid (kept_cell hb2 HCC.out); have HX2 := Lib.hid (heap_kept hb2 HX1.out); clear x0 x1 x2 x3; obtain ⟨x0, x1, x2, x3⟩ := cells4_of HX2.out; clear hb2 hi2 ha2 hc2)
          | (go_at_call 78; (with_reducible refine (c3 _ HB2.out).mono ?_); rintro e w3 ⟨v3, rfl, hi3, hb3⟩; obtain ⟨ao3, b3, of3, cp3, rfl, hx3, hy3, ha3, hc3⟩ := ints_opn HM.out hi3; have HB3 := Lib.hid (below_next HB2.out hb3); have hcl := kept_cell hb3 HCD.out; clear hb3 hi3 ha3 hc3)
          | fail)
        go_ret
        refine ⟨?_, HB3.out⟩
        rw [HR.out, HLA.out]
        rfl
    · have HR := Lib.hid (H3.out (fun e => k3 (by rw [← HM.out, e]; rfl)))
      have k3' : ((qm : Int) == 0) = false := by simp; omega
      subst k1
      go_enter Try.func55, Try.ntmps55
      go_wp2_with (first
        | (go_at_call 33; (with_reducible refine (c2 _ HB.out).mono ?_); rintro e w1 ⟨v1, rfl, hi1, hb1⟩; obtain ⟨ao1, b1, of1, cp1, rfl, hx1, hy1, ha1, hc1⟩ := ints_opn HC.out hi1; have HB1 := Lib.hid (below_next HB.out hb1); have HX1 := Lib.hid (heap_kept hb1 HX.out); obtain ⟨x0, x1, x2, x3⟩ := cells4_of HX1.out; clear hb1 hi1 ha1 hc1)
        | (go_at_call 77; (with_reducible refine (c1 _ HB1.out).mono ?_); rintro e w2 ⟨v2, rfl, hi2, hb2⟩; obtain ⟨ao2, b2, of2, cp2, rfl, hx2, hy2, ha2, hc2⟩ := ints_opn HF.out hi2; have HB2 := Lib.hid (below_next HB1.out hb2); have HX2 := Lib.hid (heap_kept hb2 HX1.out); clear x0 x1 x2 x3; obtain ⟨x0, x1, x2, x3⟩ := cells4_of HX2.out; clear hb2 hi2 ha2 hc2)
        | (go_at_call 78; (with_reducible refine (c3 _ HB2.out).mono ?_); rintro e w3 ⟨v3, rfl, hi3, hb3⟩; obtain ⟨ao3, b3, of3, cp3, rfl, hx3, hy3, ha3, hc3⟩ := ints_opn HM.out hi3; have HB3 := Lib.hid (below_next HB2.out hb3); clear hb3 hi3 ha3 hc3)
        | fail)
      go_ret
      exact ⟨ret_bool (a := false) HR.out.symm, HB3.out⟩
  · have HR := Lib.hid (H1.out (fun e => k1 (by rw [← HF.out, e]; rfl)))
    have k1' : ((qf : Int) == 0) = false := by simp; omega
    go_enter Try.func55, Try.ntmps55
    go_wp2_with (first
      | (go_at_call 33; (with_reducible refine (c2 _ HB.out).mono ?_); rintro e w1 ⟨v1, rfl, hi1, hb1⟩; obtain ⟨ao1, b1, of1, cp1, rfl, hx1, hy1, ha1, hc1⟩ := ints_opn HC.out hi1; have HB1 := Lib.hid (below_next HB.out hb1); have HX1 := Lib.hid (heap_kept hb1 HX.out); obtain ⟨x0, x1, x2, x3⟩ := cells4_of HX1.out; clear hb1 hi1 ha1 hc1)
      | (go_at_call 77; (with_reducible refine (c1 _ HB1.out).mono ?_); rintro e w2 ⟨v2, rfl, hi2, hb2⟩; obtain ⟨ao2, b2, of2, cp2, rfl, hx2, hy2, ha2, hc2⟩ := ints_opn HF.out hi2; have HB2 := Lib.hid (below_next HB1.out hb2); clear hb2 hi2 ha2 hc2)
      | fail)
    go_ret
    exact ⟨ret_bool (a := false) HR.out.symm, HB2.out⟩
end Go.Proofs.Yteoheeddjddekaa
