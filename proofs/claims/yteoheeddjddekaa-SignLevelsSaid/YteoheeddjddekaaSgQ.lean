/- Contracts: the reference's level; Level and the reference's Level. -/
import Derived.Test.YteoheeddjddekaaSgO
namespace Go.Proofs.Yteoheeddjddekaa
open Go.RowKit
set_option linter.unusedSimpArgs false
set_option linter.unusedVariables false

set_option maxHeartbeats 4000000 in
set_option maxRecDepth 100000 in
theorem levelR_calls (S : Nat → Prop) (l : List Dc) (hpl : ∀ x ∈ l, Tm.proper x.cl = true) (sv : Value) : ∀ (f : Nat) (t : Tm) (v : Value) (w : World), Tm.sz t ≤ f → Tm.proper t = true → ConsLt l.length t → DLies w S sv l → Lies w S v t.args →
    Calls Try.prog 34 #[sv, .agg #[.int .i64 t.op, .int .i64 t.hd, .int .i64 t.n, v]] w fun e w' => e = .returned (.int .i64 (lvl l t)) ∧ Below w.heap.size w w'
  | 0, t, _, _, h, _, _, _, _ => by have := Tm.sz_pos t; omega
  | f + 1, .mk o h n ar, v, w, hf, hp, hc, hl, hv => by
    have hbx := one_below w (.cells #[.int .i64 o, .int .i64 h, .int .i64 n, v] 25)
    have HB := Lib.hid hbx
    have hfo := (Tm.proper_formed' hp).2
    simp only [Tm.op, Tm.hd, Tm.n, Tm.args] at hv ⊢
    obtain ⟨ao, bb, off, len, cap, oo, hh, kk, sc, tt, rfl, R⟩ := hv.open
    have hrl := R.hl
    have hrc := R.hr
    have hRl := R.length
    have hok : Tm.headOk o h n ar.length = true := by simp only [Tm.formed, Bool.and_eq_true] at hfo; exact hfo.1.2
    rcases Tm.headOk_yes _ _ _ _ hok with ⟨rfl, h2, rfl, rfl⟩ | ⟨rfl, h2, rfl, rfl⟩ | ⟨rfl, h2, rfl, rfl⟩ | ⟨rfl, h2, h3, h4, h5⟩
    · rw [lvl_type]
      obtain ⟨a, m, rfl, hlen⟩ := hl.isSlice
      clear R hv hfo hok
      go_enter Try.func34, Try.ntmps34
      go_wp2
      go_ret
      exact ⟨rfl, HB.out⟩
    · obtain ⟨a, b, rfl, _, _, ha, hb⟩ := Tm.proper_pi hp
      obtain rfl : len = 2 := by rw [← hRl]; rfl
      obtain rfl := R.hao (by omega)
      have hg : b = .mk (oo 1) (hh 1) (kk 1) (tt 1) := R.get 1 (by omega)
      have cL := fun w1 (hb1 : Below w.heap.size w w1) => levelR_calls S l hpl sv f b (sc 1) w1 (by simp [Tm.sz, Tm.szL] at hf; omega) hb hc.arg2 (hl.keep hb1) (by rw [hg]; exact (R.sub 1 (by omega)).keep hb1)
      obtain ⟨d0, d1, d2, d3, hsub⟩ := R.at hbx 1 (by omega)
      simp only [Nat.one_mul] at d0 d1 d2 d3
      obtain ⟨a9, n9, m9, hsc⟩ := hsub.isSlice
      rw [hsc] at d3 cL
      rw [lvl_pi]
      have hbd := lvl_bd l (Tm.sz b) b
      have hbe : lvlN l (Tm.sz b) b = lvl l b := rfl
      rw [hbe] at hbd
      rw [hg] at cL hbd ⊢
      simp only [Tm.op, Tm.hd, Tm.n] at cL
      generalize lvl l (.mk (oo 1) (hh 1) (kk 1) (tt 1)) = z at *
      obtain ⟨asl, ms, rfl, hlen⟩ := hl.isSlice
      clear R hv hfo hok hg hb ha hp hc hpl hsub hl
      rcases (by omega : z = 0 ∨ z = 1 ∨ z = 2 ∨ z = 3) with rfl | rfl | rfl | rfl
      all_goals
        go_enter Try.func34, Try.ntmps34
        go_wp2_with (first | (go_at_call 34; (with_reducible refine (cL _ HB.out).mono ?_); rintro e w1 ⟨rfl, hb1⟩; have HB1 := Lib.hid (below_next HB.out hb1); clear hb1) | fail)
        go_ret
        exact ⟨rfl, HB1.out⟩
    · obtain ⟨b, rfl⟩ : ∃ b, ar = [b] := by
        match ar, h2 with
        | [b], _ => exact ⟨b, rfl⟩
      have hb : Tm.proper b = true := by
        have h1 := (Tm.proper_formed' hp).1
        simp only [Tm.formed, Tm.formedL, Bool.and_eq_true] at hfo
        exact Tm.proper_of (by simp [Tm.sz, Tm.szL] at h1; omega) (Tm.formed_down _ _ hfo.2.1)
      obtain rfl : len = 1 := by rw [← hRl]; rfl
      obtain rfl := R.hao (by omega)
      have hg : b = .mk (oo 0) (hh 0) (kk 0) (tt 0) := R.get 0 (by omega)
      have cL := fun w1 (hb1 : Below w.heap.size w w1) => levelR_calls S l hpl sv f b (sc 0) w1 (by simp [Tm.sz, Tm.szL] at hf; omega) hb hc.arg1 (hl.keep hb1) (by rw [hg]; exact (R.sub 0 (by omega)).keep hb1)
      obtain ⟨d0, d1, d2, d3, hsub⟩ := R.at hbx 0 (by omega)
      simp only [Nat.zero_mul, Nat.add_zero] at d0 d1 d2 d3
      obtain ⟨a9, n9, m9, hsc⟩ := hsub.isSlice
      rw [hsc] at d3 cL
      rw [lvl_lam]
      rw [hg] at cL ⊢
      simp only [Tm.op, Tm.hd, Tm.n] at cL
      generalize lvl l (.mk (oo 0) (hh 0) (kk 0) (tt 0)) = z at *
      obtain ⟨asl, ms, rfl, hlen⟩ := hl.isSlice
      clear R hv hfo hok hg hb hp hc hpl hsub hl
      by_cases hz : z = 3
      · subst hz
        go_enter Try.func34, Try.ntmps34
        go_wp2_with (first | (go_at_call 34; (with_reducible refine (cL _ HB.out).mono ?_); rintro e w1 ⟨rfl, hb1⟩; have HB1 := Lib.hid (below_next HB.out hb1); clear hb1) | fail)
        go_ret
        exact ⟨rfl, HB1.out⟩
      · have hz' : (z == 3) = false := by simpa using hz
        rw [if_neg hz]
        go_enter Try.func34, Try.ntmps34
        go_wp2_with (first | (go_at_call 34; (with_reducible refine (cL _ HB.out).mono ?_); rintro e w1 ⟨rfl, hb1⟩; have HB1 := Lib.hid (below_next HB.out hb1); clear hb1) | fail)
        go_ret
        exact ⟨rfl, HB1.out⟩
    · rw [lvl_app l 4 h n ar (by omega) (by omega) (by omega)]
      clear R hv hfo hok
      by_cases hh2 : h = 2
      · subst hh2
        have hn := hc.head
        obtain ⟨i, rfl⟩ : ∃ i : Nat, n = (i : Int) := ⟨n.toNat, by omega⟩
        have hi : i < l.length := by omega
        have cK := fun w1 (hb : Below w.heap.size w w1) => familyR_any S l i hi sv w1 (hl.keep hb) (hpl _ (List.getElem_mem hi))
        have HK : Hid (Tm.kind (clAt l (i : Int).toNat) = Tm.kind l[i].cl) := Lib.hid (by rw [Int.toNat_natCast, clAt_get hi])
        rw [HK.out]
        obtain ⟨asl, ms, rfl, hlen⟩ := hl.isSlice
        clear hc hpl hp
        rcases hk : Tm.kind l[i].cl with _ | _
        · simp only [hk] at cK
          rw [if_neg (by simp)]
          clear hk HK
          go_enter Try.func34, Try.ntmps34
          go_wp2_with (first | (go_at_call 57; (with_reducible refine (cK _ HB.out).mono ?_); rintro e w1 ⟨rfl, hb1⟩; have HB1 := Lib.hid (below_next HB.out hb1); clear hb1) | fail)
          go_ret
          exact ⟨rfl, HB1.out⟩
        · simp only [hk] at cK
          rw [if_pos (by simp)]
          clear hk HK
          go_enter Try.func34, Try.ntmps34
          go_wp2_with (first | (go_at_call 57; (with_reducible refine (cK _ HB.out).mono ?_); rintro e w1 ⟨rfl, hb1⟩; have HB1 := Lib.hid (below_next HB.out hb1); clear hb1) | fail)
          go_ret
          exact ⟨rfl, HB1.out⟩
      · have hh2' : (h == 2) = false := by simpa using hh2
        rw [if_neg (by simp [hh2])]
        obtain ⟨asl, ms, rfl, hlen⟩ := hl.isSlice
        go_enter Try.func34, Try.ntmps34
        go_wp2
        go_ret
        exact ⟨rfl, HB.out⟩
end Go.Proofs.Yteoheeddjddekaa
