/- The contract of sign.isNext: whether a constant may come behind others. -/
import Derived.Test.YteoheeddjddekaaSgD
namespace Go.Proofs.Yteoheeddjddekaa
open Go.RowKit
set_option linter.unusedSimpArgs false
set_option linter.unusedVariables false
namespace Tm
theorem res_proper : ∀ (f : Nat) (t : Tm), sz t ≤ f → proper t = true → proper (res t).1 = true ∧ (res t).1.op ≠ 2
  | 0, t, h, _ => by have := sz_pos t; omega
  | f + 1, .mk o h n l, hs, hp => by
    by_cases ho : o = 2
    · subst ho
      obtain ⟨a, b, rfl, rfl, rfl, ha, hb⟩ := proper_pi hp
      rw [res_pi]
      exact res_proper f b (by simp [sz, szL] at hs; omega) hb
    · rw [res_else (t := .mk o h n l) ho]; exact ⟨hp, ho⟩
theorem res_over (N : Int) : ∀ (f : Nat) (t : Tm) (b : Int), sz t ≤ f → proper t = true → over N b t = true → ∃ b', over N b' (res t).1 = true
  | 0, t, _, h, _, _ => by have := sz_pos t; omega
  | f + 1, .mk o h n l, b, hs, hp, hv => by
    by_cases ho : o = 2
    · subst ho
      obtain ⟨x, y, rfl, rfl, rfl, ha, hb⟩ := proper_pi hp
      rw [res_pi]
      simp only [over, overL, Bool.and_eq_true] at hv
      exact res_over N f y _ (by simp [sz, szL] at hs; omega) hb hv.2.2.1
    · rw [res_else (t := .mk o h n l) ho]; exact ⟨b, hv⟩
theorem over_hd {N b : Int} {t : Tm} (h : over N b t = true) (h2 : t.hd = 2) : t.n < N := by
  obtain ⟨o, h', n, l⟩ := t
  have h3 : h' = 2 := h2
  subst h3
  simp only [over, Bool.and_eq_true] at h
  simp at h
  exact h.1
theorem proper_n {t : Tm} (h : proper t = true) : 0 ≤ t.n ∧ t.n ≤ 9999 := by
  obtain ⟨o, hd, n, l⟩ := t
  have hf := (proper_formed' h).2
  simp only [formed, Bool.and_eq_true] at hf
  have := headOk_yes _ _ _ _ hf.1.2
  show 0 ≤ n ∧ n ≤ 9999
  omega
end Tm

theorem next_no1 {l : List Dc} {d : Dc} (h : Sg.nameOk d.nm = false) : Sg.next l d = false := by unfold Sg.next; rw [h]; rfl
theorem next_no2 {l : List Dc} {d : Dc} (h : Tm.proper d.cl = false) : Sg.next l d = false := by unfold Sg.next; rw [h]; simp
theorem next_no3 {l : List Dc} {d : Dc} (h : Tm.over l.length 0 d.cl = false) : Sg.next l d = false := by unfold Sg.next; rw [h]; simp
theorem next_no4 {l : List Dc} {d : Dc} (h : d.im < 0) : Sg.next l d = false := by unfold Sg.next; rw [decide_eq_false (show ¬ 0 ≤ d.im by omega)]; simp
theorem next_no5 {l : List Dc} {d : Dc} (h : ((Tm.res d.cl).2 : Int) < d.im) : Sg.next l d = false := by unfold Sg.next; rw [decide_eq_false (show ¬ d.im ≤ ((Tm.res d.cl).2 : Int) by omega)]; simp
theorem next_yes {l : List Dc} {d : Dc} (h1 : Sg.nameOk d.nm = true) (h2 : Tm.proper d.cl = true) (h3 : Tm.over l.length 0 d.cl = true) (h4 : ¬ d.im < 0) (h5 : ¬ ((Tm.res d.cl).2 : Int) < d.im) :
    Sg.next l d = ((Tm.res d.cl).1.op == 1 || ((Tm.res d.cl).1.hd == 2 && Tm.kind ((l.map Dc.cl).getD (Tm.res d.cl).1.n.toNat Tm.zero))) := by
  unfold Sg.next
  rw [h1, h2, h3, decide_eq_true (show 0 ≤ d.im by omega), decide_eq_true (show d.im ≤ ((Tm.res d.cl).2 : Int) by omega)]; rfl

theorem cells6_of' {w : World} {B : Nat} {x0 x1 x2 x3 x4 x5 : Value} {T : TypeId} (h : w.heap[B]? = some (.cells #[x0, x1, x2, x3, x4, x5] T (0, 0))) : w.cell? ⟨B, 0, none⟩ = some x0 ∧ w.cell? ⟨B, 1, none⟩ = some x1 ∧ w.cell? ⟨B, 2, none⟩ = some x2 ∧ w.cell? ⟨B, 3, none⟩ = some x3 ∧ w.cell? ⟨B, 4, none⟩ = some x4 ∧ w.cell? ⟨B, 5, none⟩ = some x5 :=
  ⟨cell_in h 0 _ rfl, cell_in h 1 _ rfl, cell_in h 2 _ rfl, cell_in h 3 _ rfl, cell_in h 4 _ rfl, cell_in h 5 _ rfl⟩

set_option maxHeartbeats 8000000 in
set_option maxRecDepth 100000 in
theorem next_any (S : Nat → Prop) (l : List Dc) (d : Dc) (sv dv : Value) (w : World) (hl : DLies w S sv l) (hpl : ∀ x ∈ l, Tm.proper x.cl = true) (hd : Lies w S dv d.cl.args) (hs : d.nm.size ≤ 140737488351232) (him : I64 d.im) :
    Calls Try.prog 44 #[sv, dcV d dv] w fun e w' => e = .returned (.bool (Sg.next l d)) ∧ Below w.heap.size w w' := by
  obtain ⟨ao, bb, off, len, cap, nm, oo, hh, kk, sc, tt, im, rfl, R⟩ := hl
  obtain ⟨nme, ⟨o, h, n, ar⟩, imp⟩ := d
  obtain ⟨a2, n2, m2, rfl⟩ := hd.isSlice
  have hrl := R.hl
  have hrc := R.hr
  have him1 := him.1
  have him2 := him.2
  have hbx := one_below w (.cells #[.string nme, .int .i64 o, .int .i64 h, .int .i64 n, .slice a2 n2 m2, .int .i64 imp] 40)
  have HB := Lib.hid hbx
  have cN := fun w1 => sgName_any nme w1 hs
  have cC := fun w1 (hb : Below w.heap.size w w1) => check_any o h n _ ar w1 ((hd.more fun _ _ _ => trivial).keep hb)
  have HLEN := Lib.hid R.length
  have HD := Lib.hid hd
  have HR := Lib.hid R
  have HPL := Lib.hid hpl
  unfold dcV
  simp only [Tm.op, Tm.hd, Tm.n] at *
  clear R hpl him hd hs
  rcases h1 : Sg.nameOk nme with _ | _
  · rw [next_no1 (d := ⟨nme, .mk o h n ar, imp⟩) h1]
    simp only [h1] at cN
    clear h1 cC
    go_enter Try.func44, Try.ntmps44
    go_wp2_with (go_at_call 51; (with_reducible refine (cN _).mono ?_); rintro e w1 ⟨rfl, rfl⟩)
    go_ret
    exact ⟨rfl, HB.out⟩
  rcases h2 : Tm.proper (.mk o h n ar) with _ | _
  · rw [next_no2 (d := ⟨nme, .mk o h n ar, imp⟩) h2]
    simp only [h1, h2] at cN cC
    clear h1 h2
    go_enter Try.func44, Try.ntmps44
    go_wp2_with (first
      | (go_at_call 51; (with_reducible refine (cN _).mono ?_); rintro e w1 ⟨rfl, rfl⟩)
      | (go_at_call 65; (with_reducible refine (cC _ HB.out).mono ?_); rintro e w2 ⟨rfl, hb2⟩))
    go_ret
    exact ⟨rfl, below_next HB.out hb2⟩
  have cO := fun w1 (hb : Below w.heap.size w w1) => over_any S ao len cap (by omega) (.mk o h n ar) _ w1 h2 (HD.out.keep hb)
  simp only [Tm.op, Tm.hd, Tm.n] at cO
  rcases h3 : Tm.over len 0 (.mk o h n ar) with _ | _
  · rw [next_no3 (d := ⟨nme, .mk o h n ar, imp⟩) (by rw [HLEN.out]; exact h3)]
    simp only [h1, h2, h3] at cN cC cO
    clear h1 h2 h3
    go_enter Try.func44, Try.ntmps44
    go_wp2_with (first
      | (go_at_call 51; (with_reducible refine (cN _).mono ?_); rintro e w1 ⟨rfl, rfl⟩)
      | (go_at_call 65; (with_reducible refine (cC _ HB.out).mono ?_); rintro e w2 ⟨rfl, hb2⟩; have HB2 := Lib.hid (below_next HB.out hb2); have x1 := cell_in (heap_kept hb2 (heap_alloc_new w _)) 1 _ rfl; have x2 := cell_in (heap_kept hb2 (heap_alloc_new w _)) 2 _ rfl; have x3 := cell_in (heap_kept hb2 (heap_alloc_new w _)) 3 _ rfl; have x4 := cell_in (heap_kept hb2 (heap_alloc_new w _)) 4 _ rfl; clear hb2)
      | (go_at_call 66; (with_reducible refine (cO _ HB2.out).mono ?_); rintro e w3 ⟨rfl, hb3⟩))
    go_ret
    exact ⟨rfl, below_next HB2.out hb3⟩
  have hres := (Tm.res_proper _ _ (Nat.le_refl _) h2)
  have hrsz := Tm.res_lt _ (.mk o h n ar) (Nat.le_refl _)
  have hsz6 := (Tm.proper_formed' h2).1
  have hrov : (Tm.res (.mk o h n ar)).1.hd = 2 → (Tm.res (.mk o h n ar)).1.n < (len : Int) := fun e => by
    obtain ⟨b', hb'⟩ := Tm.res_over _ _ _ _ (Nat.le_refl _) h2 h3
    exact Tm.over_hd hb' e
  have hrn := Tm.proper_n hres.1
  have cR := fun w1 (hb : Below w.heap.size w w1) => result_any S (.mk o h n ar) _ w1 (HD.out.keep hb) h2
  simp only [Tm.op, Tm.hd, Tm.n] at cR
  have E := fun h4 h5 => next_yes (l := l) (d := ⟨nme, .mk o h n ar, imp⟩) h1 h2 (by rw [HLEN.out]; exact h3) h4 h5
  have N4 := fun h4 => next_no4 (l := l) (d := ⟨nme, .mk o h n ar, imp⟩) h4
  have N5 := fun h5 => next_no5 (l := l) (d := ⟨nme, .mk o h n ar, imp⟩) h5
  generalize Sg.next l ⟨nme, .mk o h n ar, imp⟩ = r at E N4 N5 ⊢
  simp only at E N4 N5
  simp only [h1, h2, h3] at cN cC cO
  generalize Tm.res (.mk o h n ar) = rr at *
  obtain ⟨⟨uo, uh, un, ul⟩, cnt⟩ := rr
  simp only [Tm.op, Tm.hd, Tm.n] at *
  have hcnt : cnt ≤ 600 := by have := Tm.sz_pos (.mk uo uh un ul); omega
  have HRP := Lib.hid hres.1
  have HE := Lib.hid E
  have HN4 := Lib.hid N4
  have HN5 := Lib.hid N5
  have HOV := Lib.hid hrov
  clear hres hrsz hsz6 E N4 N5 hrov h1 h2 h3
  have cs : imp < 0 ∨ (¬ imp < 0 ∧ (cnt : Int) < imp) ∨ (¬ imp < 0 ∧ ¬ (cnt : Int) < imp ∧ (uo == 1) = true) ∨ (¬ imp < 0 ∧ ¬ (cnt : Int) < imp ∧ (uo == 1) = false ∧ (uh == 2) = false) ∨ (¬ imp < 0 ∧ ¬ (cnt : Int) < imp ∧ (uo == 1) = false ∧ (uh == 2) = true) := by
    rcases c1 : (uo == 1) with _ | _ <;> rcases c2 : (uh == 2) with _ | _ <;> simp <;> omega
  rcases cs with c4 | ⟨c4, c5⟩ | ⟨c4, c5, c6⟩ | ⟨c4, c5, c6, c7⟩ | ⟨c4, c5, c6, c7⟩
  all_goals
    go_enter Try.func44, Try.ntmps44
    go_wp2_with (first
      | (go_at_call 51; (with_reducible refine (cN _).mono ?_); rintro e w1 ⟨rfl, rfl⟩)
      | (go_at_call 65; (with_reducible refine (cC _ HB.out).mono ?_); rintro e w2 ⟨rfl, hb2⟩; have HB2 := Lib.hid (below_next HB.out hb2); have HX2 := Lib.hid (heap_kept hb2 (heap_alloc_new w _)); have x1 := cell_in HX2.out 1 _ rfl; have x2 := cell_in HX2.out 2 _ rfl; have x3 := cell_in HX2.out 3 _ rfl; have x4 := cell_in HX2.out 4 _ rfl; clear hb2)
      | (go_at_call 66; (with_reducible refine (cO _ HB2.out).mono ?_); rintro e w3 ⟨rfl, hb3⟩; have HB3 := Lib.hid (below_next HB2.out hb3); have HX3 := Lib.hid (heap_kept hb3 HX2.out); clear x1 x2 x3 x4 hb3; have x1 := cell_in HX3.out 1 _ rfl; have x2 := cell_in HX3.out 2 _ rfl; have x3 := cell_in HX3.out 3 _ rfl; have x4 := cell_in HX3.out 4 _ rfl)
      | fail)
    refine (cR _ HB3.out).mono ?_
    rintro e w4 ⟨b4, rfl, hb4, hl4⟩
    obtain ⟨a5, n5, m5, rfl⟩ := hl4.isSlice
    have HB4 := Lib.hid (below_next HB3.out hb4)
    have HX4 := Lib.hid (heap_kept hb4 HX3.out)
    clear x1 x2 x3 x4 hb4 hl4
    have x5 := cell_in HX4.out 5 _ rfl
    have hlt4 := lt_of_block HX4.out
    have HB5 := Lib.hid (HB4.out.trans ((one_below w4 (.cells #[.int .i64 uo, .int .i64 uh, .int .i64 un, .slice a5 n5 m5] 25)).mono HB4.out.size))
  · go_wp2_with fail
    go_ret
    exact ⟨ret_bool (a := false) (HN4.out c4).symm, HB5.out⟩
  · go_wp2_with fail
    go_ret
    exact ⟨ret_bool (a := false) (HN5.out c5).symm, HB5.out⟩
  · go_wp2_with fail
    go_ret
    exact ⟨ret_bool (a := true) (by rw [HE.out c4 c5, c6]; rfl), HB5.out⟩
  · go_wp2_with fail
    go_ret
    exact ⟨ret_bool (a := false) (by rw [HE.out c4 c5, c6, c7]; rfl), HB5.out⟩
  · obtain ⟨i, rfl⟩ : ∃ i : Nat, un = (i : Int) := ⟨un.toNat, by omega⟩
    have hil : i < len := by have := HOV.out (by simpa using c7); omega
    have hil' : i < l.length := by rw [HLEN.out]; exact hil
    obtain rfl := HR.out.hao (by omega)
    obtain ⟨d0, d1, d2, d3, d4, d5, hsub⟩ := HR.out.at HB5.out i hil
    have hget := HR.out.get i hil
    have hk := isKind_any S (.mk (oo i) (hh i) (kk i) (tt i)) (sc i) _ hsub (by have := HPL.out l[i] (List.getElem_mem _); rw [hget] at this; exact this)
    obtain ⟨a6, n6, m6, hsc⟩ := hsub.isSlice
    rw [hsc] at d4 hk
    have HG := Lib.hid hget
    simp only [Tm.op, Tm.hd, Tm.n] at hk
    clear hsub hget d0 d5
    go_wp2_with fail
    refine hk.mono ?_
    rintro e w6 ⟨rfl, hb6⟩
    go_wp2_with fail
    go_ret
    refine ⟨ret_bool ?_, below_next HB5.out hb6⟩
    rw [HE.out c4 c5, c6, c7]
    simp only [Bool.false_or, Bool.true_and, Int.toNat_natCast]
    rw [List.getD_eq_getElem?_getD, List.getElem?_map, List.getElem?_eq_getElem hil', Option.map_some, Option.getD_some, HG.out]
end Go.Proofs.Yteoheeddjddekaa
