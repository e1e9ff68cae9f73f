/- The contract of the reference's Level. -/
import Derived.Test.YteoheeddjddekaaSgS
namespace Go.Proofs.Yteoheeddjddekaa
open Go.RowKit
set_option linter.unusedSimpArgs false
set_option linter.unusedVariables false

theorem levOut_in {l : List Dc} {t : Tm} (hf : Sg.formed l = true) (hp : Tm.proper t = true) : levOut l t = if bigC l.length t = true then (0, 27) else if lvl l t = 0 then (0, 22) else (lvl l t, 0) := by
  unfold levOut; rw [if_pos ⟨hf, hp⟩]

set_option maxHeartbeats 4000000 in
set_option maxRecDepth 100000 in
theorem levelR_any (l : List Dc) (t : Tm) (sv v : Value) (w : World) (hl : DLies w (fun _ => True) sv l) (hv : Lies w (fun _ => True) v t.args) (hf : Sg.formed l = true) (hp : Tm.proper t = true) :
    Calls Try.prog 12 #[sv, .agg #[.int .i64 t.op, .int .i64 t.hd, .int .i64 t.n, v]] w fun e w' => e = .returned (.tuple #[.int .i64 (levOut l t).1, .int .i64 (levOut l t).2]) ∧ Below w.heap.size w w' := by
  have hbx := one_below w (.cells #[.int .i64 t.op, .int .i64 t.hd, .int .i64 t.n, v] 25)
  have HB := Lib.hid hbx
  have HX := Lib.hid (heap_alloc_new w (.cells #[.int .i64 t.op, .int .i64 t.hd, .int .i64 t.n, v] 25))
  have et : Tm.mk t.op t.hd t.n t.args = t := by cases t; rfl
  have cC := fun w1 (hb : Below w.heap.size w w1) => constsR_any t.op t.hd t.n v t.args w1 (hv.keep hb) (by rw [et]; exact hp)
  have cL := fun (hpl : ∀ x ∈ l, Tm.proper x.cl = true) (hp : Tm.proper t = true) (hc : ConsLt l.length t) w1 (hb : Below w.heap.size w w1) => levelR_calls _ l hpl sv _ t v w1 (Nat.le_refl _) hp hc (hl.keep hb) (hv.keep hb)
  rw [et] at cC
  obtain ⟨a2, n2, m2, rfl⟩ := hv.isSlice
  obtain ⟨asl, ms, rfl, hlen⟩ := hl.isSlice
  clear hv hl hbx
  have hco : (contOut 2 t).1 = consL t := by unfold contOut; rw [hp]; rfl
  rw [hco] at cC
  have hclen := consL_len hp
  have cL2 := fun hc => cL (formed_proper hf) hp hc
  have EB := fun (h : bigC l.length t = true) => (by rw [levOut_in hf hp, if_pos h] : levOut l t = (0, 27))
  have EZ := fun (h : bigC l.length t = false) (h0 : lvl l t = 0) => (by rw [levOut_in hf hp, if_neg (by rw [h]; simp), if_pos h0] : levOut l t = (0, 22))
  have EL := fun (h : bigC l.length t = false) (h0 : ¬ lvl l t = 0) => (by rw [levOut_in hf hp, if_neg (by rw [h]; simp), if_neg h0] : levOut l t = (lvl l t, 0))
  have BN := @bigC_no l.length t
  have B0 := @bigC_nil l.length t
  have BL := @bigC_last l.length t
  generalize levOut l t = out at *
  generalize lvl l t = z at *
  generalize bigC l.length t = bc at *
  generalize consL t = cs at *
  clear hf hp hco cL et
  by_cases hnil : cs = []
  · subst hnil
    have hb0 := B0 rfl
    have cL3 := cL2 (BN hb0)
    have HEZ := Lib.hid (EZ hb0)
    have HEL := Lib.hid (EL hb0)
    clear EB EZ EL BN B0 BL cL2 hb0
    by_cases hz : z = 0
    · subst hz
      go_enter Try.func12, Try.ntmps12
      go_wp2_with (first
      | (go_at_call 33; (with_reducible refine (cC _ HB.out).mono ?_); rintro e w2 ⟨v2, rfl, hi2, hb2⟩; obtain ⟨ao, b0, of0, cp0, rfl, hx1, hy1, ha1, hc1⟩ := ints_opn (q := 0) rfl hi2; clear ha1 hc1; have HB2 := Lib.hid (below_next HB.out hb2); have HX2 := Lib.hid (heap_kept hb2 HX.out); clear hb2 hi2; obtain ⟨x0, x1, x2, x3⟩ := cells4_of HX2.out)
      | (go_at_call 34; (with_reducible refine (cL3 _ HB2.out).mono ?_); rintro e w4 ⟨rfl, hb4⟩; have HB4 := Lib.hid (below_next HB2.out hb4); clear hb4)
      | fail)
      go_ret2
      rw [HEZ.out (by first | rfl | trivial)]
      exact ⟨rfl, HB4.out⟩
    · have hz' : (z == 0) = false := by simpa using hz
      go_enter Try.func12, Try.ntmps12
      go_wp2_with (first
      | (go_at_call 33; (with_reducible refine (cC _ HB.out).mono ?_); rintro e w2 ⟨v2, rfl, hi2, hb2⟩; obtain ⟨ao, b0, of0, cp0, rfl, hx1, hy1, ha1, hc1⟩ := ints_opn (q := 0) rfl hi2; clear ha1 hc1; have HB2 := Lib.hid (below_next HB.out hb2); have HX2 := Lib.hid (heap_kept hb2 HX.out); clear hb2 hi2; obtain ⟨x0, x1, x2, x3⟩ := cells4_of HX2.out)
      | (go_at_call 34; (with_reducible refine (cL3 _ HB2.out).mono ?_); rintro e w4 ⟨rfl, hb4⟩; have HB4 := Lib.hid (below_next HB2.out hb4); clear hb4)
      | fail)
      go_ret2
      rw [HEL.out hz]
      exact ⟨rfl, HB4.out⟩
  · have hne : cs ≠ [] := hnil
    obtain ⟨q, hq⟩ : ∃ q, cs.length = q + 1 := ⟨cs.length - 1, by have := List.length_pos_iff.2 hne; omega⟩
    have HQ := Lib.hid hq
    have hlast := BL hne
    have hq1 : (0 : Int) < ((q + 1 : Nat) : Int) := by omega
    have hlq : cs.getLast hne = cs[q]'(by omega) := by rw [List.getLast_eq_getElem]; congr 1; omega
    rw [hlq] at hlast
    obtain ⟨x, hx⟩ : ∃ x, x = cs[q]'(by omega) := ⟨_, rfl⟩
    rw [← hx] at hlast
    have HXL := Lib.hid hx
    by_cases hbig : (l.length : Int) ≤ x
    · rw [decide_eq_true hbig] at hlast
      have HEB := Lib.hid (EB hlast)
      clear EB EZ EL BN B0 BL cL2 hlast hlq hx
      go_enter Try.func12, Try.ntmps12
      go_wp2_with (first
      | (go_at_call 33; (with_reducible refine (cC _ HB.out).mono ?_); rintro e w2 ⟨v2, rfl, hi2, hb2⟩; obtain ⟨ao, b0, of0, cp0, rfl, hx1, hy1, ha1, hc1⟩ := ints_opn HQ.out hi2; obtain rfl := ha1 (by omega); have hcq := hc1 q (by rw [HQ.out]; omega); rw [← HXL.out] at hcq; clear hc1; have HB2 := Lib.hid (below_next HB.out hb2); have HX2 := Lib.hid (heap_kept hb2 HX.out); clear hb2 hi2; obtain ⟨x0, x1, x2, x3⟩ := cells4_of HX2.out)
      | (go_at_call 34; (with_reducible refine (cL3 _ HB2.out).mono ?_); rintro e w4 ⟨rfl, hb4⟩; have HB4 := Lib.hid (below_next HB2.out hb4); clear hb4)
      | fail)
      go_ret2
      rw [HEB.out]
      exact ⟨rfl, HB2.out⟩
    · rw [decide_eq_false hbig] at hlast
      have cL3 := cL2 (BN hlast)
      have HEZ := Lib.hid (EZ hlast)
      have HEL := Lib.hid (EL hlast)
      clear EB EZ EL BN B0 BL cL2 hlast hlq hx
      by_cases hz : z = 0
      · subst hz
        go_enter Try.func12, Try.ntmps12
        go_wp2_with (first
      | (go_at_call 33; (with_reducible refine (cC _ HB.out).mono ?_); rintro e w2 ⟨v2, rfl, hi2, hb2⟩; obtain ⟨ao, b0, of0, cp0, rfl, hx1, hy1, ha1, hc1⟩ := ints_opn HQ.out hi2; obtain rfl := ha1 (by omega); have hcq := hc1 q (by rw [HQ.out]; omega); rw [← HXL.out] at hcq; clear hc1; have HB2 := Lib.hid (below_next HB.out hb2); have HX2 := Lib.hid (heap_kept hb2 HX.out); clear hb2 hi2; obtain ⟨x0, x1, x2, x3⟩ := cells4_of HX2.out)
      | (go_at_call 34; (with_reducible refine (cL3 _ HB2.out).mono ?_); rintro e w4 ⟨rfl, hb4⟩; have HB4 := Lib.hid (below_next HB2.out hb4); clear hb4)
      | fail)
        go_ret2
        rw [HEZ.out (by first | rfl | trivial)]
        exact ⟨rfl, HB4.out⟩
      · have hz' : (z == 0) = false := by simpa using hz
        go_enter Try.func12, Try.ntmps12
        go_wp2_with (first
      | (go_at_call 33; (with_reducible refine (cC _ HB.out).mono ?_); rintro e w2 ⟨v2, rfl, hi2, hb2⟩; obtain ⟨ao, b0, of0, cp0, rfl, hx1, hy1, ha1, hc1⟩ := ints_opn HQ.out hi2; obtain rfl := ha1 (by omega); have hcq := hc1 q (by rw [HQ.out]; omega); rw [← HXL.out] at hcq; clear hc1; have HB2 := Lib.hid (below_next HB.out hb2); have HX2 := Lib.hid (heap_kept hb2 HX.out); clear hb2 hi2; obtain ⟨x0, x1, x2, x3⟩ := cells4_of HX2.out)
      | (go_at_call 34; (with_reducible refine (cL3 _ HB2.out).mono ?_); rintro e w4 ⟨rfl, hb4⟩; have HB4 := Lib.hid (below_next HB2.out hb4); clear hb4)
      | fail)
        go_ret2
        rw [HEL.out hz]
        exact ⟨rfl, HB4.out⟩
end Go.Proofs.Yteoheeddjddekaa
