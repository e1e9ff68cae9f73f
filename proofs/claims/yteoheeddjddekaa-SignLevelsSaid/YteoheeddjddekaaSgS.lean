/- The contract of sign.Level. -/
import Derived.Test.YteoheeddjddekaaSgQ
namespace Go.Proofs.Yteoheeddjddekaa
open Go.RowKit
set_option linter.unusedSimpArgs false
set_option linter.unusedVariables false

/-- the constants of a term, ascending -/
def consL (t : Tm) : List Int := Tm.insL [] (Tm.hds (rsel 2) 0 t)
theorem consL_asc (t : Tm) : (consL t).Pairwise (· < ·) := Tm.asc_insL _ _ List.Pairwise.nil
theorem consL_len {t : Tm} (h : Tm.proper t = true) : (consL t).length ≤ 600 := by
  have h1 := Tm.insL_length (Tm.hds (rsel 2) 0 t) []
  have h2 := Tm.hds_length (rsel 2) 0 t
  have h3 := (Tm.proper_formed' h).1
  unfold consL
  simp at h1; omega
theorem consLt_of {N : Nat} {t : Tm} (h : ∀ x ∈ consL t, x < (N : Int)) : ConsLt N t :=
  ⟨0, fun x hx => h x (by unfold consL; rw [Tm.mem_insL]; exact .inr hx)⟩
/-- is there a constant from N on? -/
def bigC (N : Nat) (t : Tm) : Bool := (consL t).any (fun x => decide ((N : Int) ≤ x))
theorem bigC_no {N : Nat} {t : Tm} (h : bigC N t = false) : ConsLt N t := by
  refine consLt_of fun x hx => ?_
  unfold bigC at h
  rw [List.any_eq_false] at h
  have := h x hx
  simp at this; omega
theorem bigC_nil {N : Nat} {t : Tm} (h : consL t = []) : bigC N t = false := by unfold bigC; rw [h]; rfl
theorem bigC_last {N : Nat} {t : Tm} (h : consL t ≠ []) : bigC N t = decide ((N : Int) ≤ (consL t).getLast h) := by
  have := Tm.asc_last (consL t) h N (consL_asc t)
  by_cases c : (N : Int) ≤ (consL t).getLast h
  · rw [decide_eq_true c]
    unfold bigC
    rw [List.any_eq_true]
    exact ⟨_, List.getLast_mem h, by simpa using c⟩
  · rw [decide_eq_false c]
    unfold bigC
    rw [List.any_eq_false]
    intro x hx
    have := this.1 (by omega) x hx
    simp; omega
/-- what Level returns -/
def levOut (l : List Dc) (t : Tm) : Int × Int :=
  if Sg.formed l = true ∧ Tm.proper t = true then (if bigC l.length t = true then (0, 27) else if lvl l t = 0 then (0, 22) else (lvl l t, 0)) else (0, 2)

set_option maxHeartbeats 4000000 in
set_option maxRecDepth 100000 in
theorem level_any (l : List Dc) (t : Tm) (sv v : Value) (w : World) (hl : DLies w (fun _ => True) sv l) (hv : Lies w (fun _ => True) v t.args) :
    Calls Try.prog 8 #[sv, .agg #[.int .i64 t.op, .int .i64 t.hd, .int .i64 t.n, v]] w fun e w' => e = .returned (.tuple #[.int .i64 (levOut l t).1, .int .i64 (levOut l t).2]) ∧ Below w.heap.size w w' := by
  have hbx := one_below w (.cells #[.int .i64 t.op, .int .i64 t.hd, .int .i64 t.n, v] 25)
  have HB := Lib.hid hbx
  have HX := Lib.hid (heap_alloc_new w (.cells #[.int .i64 t.op, .int .i64 t.hd, .int .i64 t.n, v] 25))
  have cF := sgFormed_any _ l sv _ (hl.keep hbx)
  have cC := fun w1 (hb : Below w.heap.size w w1) => consts_any t.op t.hd t.n v t.args w1 (hv.keep hb)
  have cL := fun (hpl : ∀ x ∈ l, Tm.proper x.cl = true) (hp : Tm.proper t = true) (hc : ConsLt l.length t) w1 (hb : Below w.heap.size w w1) => levelOf_calls _ l hpl sv _ t v w1 (Nat.le_refl _) hp hc (hl.keep hb) (hv.keep hb)
  have et : Tm.mk t.op t.hd t.n t.args = t := by cases t; rfl
  rw [et] at cC
  obtain ⟨a2, n2, m2, rfl⟩ := hv.isSlice
  obtain ⟨asl, ms, rfl, hlen⟩ := hl.isSlice
  clear hv hl hbx
  rcases hf : Sg.formed l with _ | _
  · have HE : Hid (levOut l t = (0, 2)) := Lib.hid (by unfold levOut; rw [hf]; rfl)
    rw [hf] at cF
    clear hf
    go_enter Try.func8, Try.ntmps8
    go_wp2_with (first | (go_at_call 24; (with_reducible refine cF.mono ?_); rintro e w1 ⟨rfl, hb1⟩; have HB1 := Lib.hid (below_next HB.out hb1); clear hb1) | fail)
    go_ret2
    rw [HE.out]
    exact ⟨rfl, HB1.out⟩
  rw [hf] at cF
  rcases hp : Tm.proper t with _ | _
  · have HE : Hid (levOut l t = (0, 2)) := Lib.hid (by unfold levOut; rw [hf, hp]; rfl)
    have hco : contOut 2 t = ([], 2) := by unfold contOut; rw [hp]; rfl
    rw [hco] at cC
    clear hf hp hco
    go_enter Try.func8, Try.ntmps8
    go_wp2_with (first
      | (go_at_call 24; (with_reducible refine cF.mono ?_); rintro e w1 ⟨rfl, hb1⟩; have HB1 := Lib.hid (below_next HB.out hb1); have HX1 := Lib.hid (heap_kept hb1 HX.out); clear hb1; obtain ⟨x0, x1, x2, x3⟩ := cells4_of HX1.out)
      | (go_at_call 25; (with_reducible refine (cC _ HB1.out).mono ?_); rintro e w2 ⟨v2, rfl, hi2, hb2⟩; have HB2 := Lib.hid (below_next HB1.out hb2); clear hb2)
      | fail)
    go_ret2
    rw [HE.out]
    exact ⟨rfl, HB2.out⟩
  have hco : contOut 2 t = (consL t, 0) := by unfold contOut; rw [hp]; rfl
  rw [hco] at cC
  have hclen := consL_len hp
  have hcas := consL_asc t
  have cL2 := fun hc => cL (formed_proper hf) hp hc
  have EB := fun (h : bigC l.length t = true) => (by unfold levOut; rw [if_pos ⟨hf, hp⟩, if_pos h] : levOut l t = (0, 27))
  have EZ := fun (h : bigC l.length t = false) (h0 : lvl l t = 0) => (by unfold levOut; rw [if_pos ⟨hf, hp⟩, if_neg (by rw [h]; simp), if_pos h0] : levOut l t = (0, 22))
  have EL := fun (h : bigC l.length t = false) (h0 : ¬ lvl l t = 0) => (by unfold levOut; rw [if_pos ⟨hf, hp⟩, if_neg (by rw [h]; simp), if_neg h0] : levOut l t = (lvl l t, 0))
  have BN := @bigC_no l.length t
  have B0 := @bigC_nil l.length t
  have BL := @bigC_last l.length t
  generalize levOut l t = out at *
  generalize lvl l t = z at *
  generalize bigC l.length t = bc at *
  generalize consL t = cs at *
  clear hf hp hco cL et
  have HA := Lib.hid hcas
  by_cases hnil : cs = []
  · subst hnil
    have hb0 := B0 rfl
    have cL3 := cL2 (BN hb0)
    have HBC := Lib.hid hb0
    have HEZ := Lib.hid (EZ hb0)
    have HEL := Lib.hid (EL hb0)
    clear EB EZ EL BN B0 BL cL2 hb0 hcas
    by_cases hz : z = 0
    · subst hz
      go_enter Try.func8, Try.ntmps8
      go_wp2_with (first
      | (go_at_call 24; (with_reducible refine cF.mono ?_); rintro e w1 ⟨rfl, hb1⟩; have HB1 := Lib.hid (below_next HB.out hb1); have HX1 := Lib.hid (heap_kept hb1 HX.out); clear hb1; obtain ⟨x0, x1, x2, x3⟩ := cells4_of HX1.out)
      | (go_at_call 25; (with_reducible refine (cC _ HB1.out).mono ?_); rintro e w2 ⟨v2, rfl, hi2, hb2⟩; have hi2' := hi2; obtain ⟨ao, b0, of0, len0, cp0, I⟩ := hi2'; obtain rfl := I.hv; obtain rfl : len0 = 0 := I.hlen.symm; clear I; have HI2 := Lib.hid hi2; have HB2 := Lib.hid (below_next HB1.out hb2); have HX2 := Lib.hid (heap_kept hb2 HX1.out); clear hb2 hi2 x0 x1 x2 x3; obtain ⟨x0, x1, x2, x3⟩ := cells4_of HX2.out)
      | (go_at_call 27; (with_reducible refine (cL3 _ HB2.out).mono ?_); rintro e w4 ⟨rfl, hb4⟩; have HB4 := Lib.hid (below_next HB2.out hb4); clear hb4)
      | fail)
      go_ret2
      rw [HEZ.out (by first | rfl | trivial)]
      exact ⟨rfl, HB4.out⟩
    · have hz' : (z == 0) = false := by simpa using hz
      go_enter Try.func8, Try.ntmps8
      go_wp2_with (first
      | (go_at_call 24; (with_reducible refine cF.mono ?_); rintro e w1 ⟨rfl, hb1⟩; have HB1 := Lib.hid (below_next HB.out hb1); have HX1 := Lib.hid (heap_kept hb1 HX.out); clear hb1; obtain ⟨x0, x1, x2, x3⟩ := cells4_of HX1.out)
      | (go_at_call 25; (with_reducible refine (cC _ HB1.out).mono ?_); rintro e w2 ⟨v2, rfl, hi2, hb2⟩; have hi2' := hi2; obtain ⟨ao, b0, of0, len0, cp0, I⟩ := hi2'; obtain rfl := I.hv; obtain rfl : len0 = 0 := I.hlen.symm; clear I; have HI2 := Lib.hid hi2; have HB2 := Lib.hid (below_next HB1.out hb2); have HX2 := Lib.hid (heap_kept hb2 HX1.out); clear hb2 hi2 x0 x1 x2 x3; obtain ⟨x0, x1, x2, x3⟩ := cells4_of HX2.out)
      | (go_at_call 27; (with_reducible refine (cL3 _ HB2.out).mono ?_); rintro e w4 ⟨rfl, hb4⟩; have HB4 := Lib.hid (below_next HB2.out hb4); clear hb4)
      | fail)
      go_ret2
      rw [HEL.out hz]
      exact ⟨rfl, HB4.out⟩
  · have hne : cs ≠ [] := hnil
    obtain ⟨q, hq⟩ : ∃ q, cs.length = q + 1 := ⟨cs.length - 1, by have := List.length_pos_iff.2 hne; omega⟩
    have HQ := Lib.hid hq
    have hlast := BL hne
    have hq1 : (0 : Int) < ((q + 1 : Nat) : Int) := by omega
    generalize hx : cs.getLast hne = x at hlast
    have HXL := Lib.hid hx
    by_cases hbig : (l.length : Int) ≤ x
    · rw [decide_eq_true hbig] at hlast
      have HEB := Lib.hid (EB hlast)
      clear EB EZ EL BN B0 BL cL2 hlast hcas hx hq
      go_enter Try.func8, Try.ntmps8
      go_wp2_with (first
      | (go_at_call 24; (with_reducible refine cF.mono ?_); rintro e w1 ⟨rfl, hb1⟩; have HB1 := Lib.hid (below_next HB.out hb1); have HX1 := Lib.hid (heap_kept hb1 HX.out); clear hb1; obtain ⟨x0, x1, x2, x3⟩ := cells4_of HX1.out)
      | (go_at_call 25; (with_reducible refine (cC _ HB1.out).mono ?_); rintro e w2 ⟨v2, rfl, hi2, hb2⟩; have hi2' := hi2; obtain ⟨ao, b0, of0, len0, cp0, I⟩ := hi2'; obtain rfl := I.hv; obtain rfl : len0 = q + 1 := I.hlen.symm.trans HQ.out; clear I; have HI2 := Lib.hid hi2; have HB2 := Lib.hid (below_next HB1.out hb2); have HX2 := Lib.hid (heap_kept hb2 HX1.out); clear hb2 hi2 x0 x1 x2 x3; obtain ⟨x0, x1, x2, x3⟩ := cells4_of HX2.out)
      | (go_at_call 26; (with_reducible refine (max_any cs hne (by omega) HA.out _ _ HI2.out).mono ?_); rintro e w3 ⟨rfl, rfl⟩; rw [HXL.out])
      | fail)
      go_ret2
      rw [HEB.out]
      exact ⟨rfl, HB2.out⟩
    · rw [decide_eq_false hbig] at hlast
      have cL3 := cL2 (BN hlast)
      have HEZ := Lib.hid (EZ hlast)
      have HEL := Lib.hid (EL hlast)
      clear EB EZ EL BN B0 BL cL2 hlast hcas hx hq
      by_cases hz : z = 0
      · subst hz
        go_enter Try.func8, Try.ntmps8
        go_wp2_with (first
      | (go_at_call 24; (with_reducible refine cF.mono ?_); rintro e w1 ⟨rfl, hb1⟩; have HB1 := Lib.hid (below_next HB.out hb1); have HX1 := Lib.hid (heap_kept hb1 HX.out); clear hb1; obtain ⟨x0, x1, x2, x3⟩ := cells4_of HX1.out)
      | (go_at_call 25; (with_reducible refine (cC _ HB1.out).mono ?_); rintro e w2 ⟨v2, rfl, hi2, hb2⟩; have hi2' := hi2; obtain ⟨ao, b0, of0, len0, cp0, I⟩ := hi2'; obtain rfl := I.hv; obtain rfl : len0 = q + 1 := I.hlen.symm.trans HQ.out; clear I; have HI2 := Lib.hid hi2; have HB2 := Lib.hid (below_next HB1.out hb2); have HX2 := Lib.hid (heap_kept hb2 HX1.out); clear hb2 hi2 x0 x1 x2 x3; obtain ⟨x0, x1, x2, x3⟩ := cells4_of HX2.out)
      | (go_at_call 26; (with_reducible refine (max_any cs hne (by omega) HA.out _ _ HI2.out).mono ?_); rintro e w3 ⟨rfl, rfl⟩; rw [HXL.out])
      | (go_at_call 27; (with_reducible refine (cL3 _ HB2.out).mono ?_); rintro e w4 ⟨rfl, hb4⟩; have HB4 := Lib.hid (below_next HB2.out hb4); clear hb4)
      | fail)
        go_ret2
        rw [HEZ.out (by first | rfl | trivial)]
        exact ⟨rfl, HB4.out⟩
      · have hz' : (z == 0) = false := by simpa using hz
        go_enter Try.func8, Try.ntmps8
        go_wp2_with (first
      | (go_at_call 24; (with_reducible refine cF.mono ?_); rintro e w1 ⟨rfl, hb1⟩; have HB1 := Lib.hid (below_next HB.out hb1); have HX1 := Lib.hid (heap_kept hb1 HX.out); clear hb1; obtain ⟨x0, x1, x2, x3⟩ := cells4_of HX1.out)
      | (go_at_call 25; (with_reducible refine (cC _ HB1.out).mono ?_); rintro e w2 ⟨v2, rfl, hi2, hb2⟩; have hi2' := hi2; obtain ⟨ao, b0, of0, len0, cp0, I⟩ := hi2'; obtain rfl := I.hv; obtain rfl : len0 = q + 1 := I.hlen.symm.trans HQ.out; clear I; have HI2 := Lib.hid hi2; have HB2 := Lib.hid (below_next HB1.out hb2); have HX2 := Lib.hid (heap_kept hb2 HX1.out); clear hb2 hi2 x0 x1 x2 x3; obtain ⟨x0, x1, x2, x3⟩ := cells4_of HX2.out)
      | (go_at_call 26; (with_reducible refine (max_any cs hne (by omega) HA.out _ _ HI2.out).mono ?_); rintro e w3 ⟨rfl, rfl⟩; rw [HXL.out])
      | (go_at_call 27; (with_reducible refine (cL3 _ HB2.out).mono ?_); rintro e w4 ⟨rfl, hb4⟩; have HB4 := Lib.hid (below_next HB2.out hb4); clear hb4)
      | fail)
        go_ret2
        rw [HEL.out hz]
        exact ⟨rfl, HB4.out⟩
end Go.Proofs.Yteoheeddjddekaa
