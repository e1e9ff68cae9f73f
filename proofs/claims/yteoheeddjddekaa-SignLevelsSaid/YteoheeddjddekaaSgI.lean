/- Contracts of the reference: families; when a constant can stand behind others. -/
import Derived.Test.YteoheeddjddekaaSgH
namespace Go.Proofs.Yteoheeddjddekaa
open Go.RowKit
set_option linter.unusedSimpArgs false
set_option linter.unusedVariables false
namespace Tm
theorem split_res : ∀ (f : Nat) (t : Tm), sz t ≤ f → proper t = true → (splitOf t).2 = (res t).1 ∧ (splitOf t).1.length = (res t).2
  | 0, t, h, _ => by have := sz_pos t; omega
  | f + 1, .mk o h n l, hs, hp => by
    by_cases ho : o = 2
    · subst ho
      obtain ⟨a, b, rfl, rfl, rfl, ha, hb⟩ := proper_pi hp
      rw [res_pi, splitOf_pi]
      have := split_res f b (by simp [sz, szL] at hs; omega) hb
      exact ⟨this.1, by simp [this.2]⟩
    · rw [res_else (t := .mk o h n l) ho, splitOf_else (t := .mk o h n l) ho]; exact ⟨rfl, rfl⟩
end Tm

theorem splitR_res (t : Tm) (v : Value) (w : World) (hv : Lies w (fun _ => True) v t.args) (hp : Tm.proper t = true) :
    Calls Try.prog 56 #[.agg #[.int .i64 t.op, .int .i64 t.hd, .int .i64 t.n, v]] w fun e w' =>
      ∃ (a : Option Addr) (m : Nat) (b : Value), e = .returned (.tuple #[.slice a (Tm.res t).2 m, .agg #[.int .i64 (Tm.res t).1.op, .int .i64 (Tm.res t).1.hd, .int .i64 (Tm.res t).1.n, b]]) ∧ Below w.heap.size w w' ∧ (∃ a2 n2 m2, b = .slice a2 n2 m2) := by
  obtain ⟨h1, h2⟩ := Tm.split_res _ t (Nat.le_refl _) hp
  refine (splitR_any t v w hv hp).mono ?_
  rintro e w' ⟨a, b, rfl, hb, hla, hlb⟩
  obtain ⟨ao, bb, off, len, cap, oo, hh, kk, sv, ts, rfl, R⟩ := hla.open
  refine ⟨ao, cap, b, ?_, hb, hlb.isSlice⟩
  rw [← h2, ← h1, R.length]

set_option maxHeartbeats 2000000 in
set_option maxRecDepth 100000 in
theorem familyR_any (S : Nat → Prop) (l : List Dc) (i : Nat) (hi : i < l.length) (sv : Value) (w : World) (hl : DLies w S sv l) (hp : Tm.proper l[i].cl = true) :
    Calls Try.prog 57 #[sv, .int .i64 i] w fun e w' => e = .returned (.bool (Tm.kind l[i].cl)) ∧ Below w.heap.size w w' := by
  obtain ⟨ao, bb, off, len, cap, nm, oo, hh, kk, sc, tt, im, rfl, R⟩ := hl
  have hil : i < len := by rw [← R.length]; exact hi
  have hrl := R.hl
  have hrc := R.hr
  obtain rfl := R.hao (by omega)
  obtain ⟨d0, d1, d2, d3, d4, d5, hsub⟩ := R.at (Below.refl _ _) i hil
  have hg := R.get i hil
  rw [hg] at hp ⊢
  have cS := splitR_res (.mk (oo i) (hh i) (kk i) (tt i)) (sc i) w (hsub.more fun _ _ _ => trivial) hp
  obtain ⟨a9, n9, m9, hsc⟩ := hsub.isSlice
  rw [hsc] at d4 cS
  have HK : Hid (Tm.kind (.mk (oo i) (hh i) (kk i) (tt i)) = ((Tm.res (.mk (oo i) (hh i) (kk i) (tt i))).1.op == 1)) := Lib.hid rfl
  generalize Tm.res (.mk (oo i) (hh i) (kk i) (tt i)) = rr at *
  obtain ⟨⟨uo, uh, un, ul⟩, cnt⟩ := rr
  simp only [Tm.op, Tm.hd, Tm.n] at cS HK
  clear R hsub hg hp d0 d5
  go_enter Try.func57, Try.ntmps57
  go_wp2_with fail
  refine cS.mono ?_
  rintro e w1 ⟨a, m, b, rfl, hb1, ⟨a2, n2, m2, rfl⟩⟩
  have HB := Lib.hid hb1
  clear hb1
  go_wp2_with fail
  go_ret
  exact ⟨ret_bool HK.out.symm, HB.out.trans ((one_below w1 _).mono HB.out.size)⟩

/-- when a constant can stand behind others, with its name -/
def Sg.nextR (l : List Dc) (d : Dc) : Bool := Sg.next l d && l.all (fun x => !decide (x.nm = d.nm))
theorem nextR_no {l : List Dc} {d : Dc} (h : Sg.next l d = false) : Sg.nextR l d = false := by unfold Sg.nextR; rw [h]; rfl
theorem nextR_in {l : List Dc} {d : Dc} (i : Nat) (hi : i < l.length) (h : l[i].nm = d.nm) : Sg.nextR l d = false := by
  unfold Sg.nextR
  rw [Bool.and_eq_false_iff]
  right
  rw [Bool.eq_false_iff]
  intro e
  have := List.all_eq_true.1 e l[i] (List.getElem_mem hi)
  rw [decide_eq_true h] at this
  cases this
theorem nextR_out {l : List Dc} {d : Dc} (h : ∀ i (hi : i < l.length), ¬ l[i].nm = d.nm) : Sg.nextR l d = Sg.next l d := by
  unfold Sg.nextR
  have : l.all (fun x => !decide (x.nm = d.nm)) = true := by
    rw [List.all_eq_true]
    intro x hx
    obtain ⟨i, hi, rfl⟩ := List.getElem_of_mem hx
    rw [decide_eq_false (h i hi)]; rfl
  rw [this, Bool.and_true]
theorem bytes_beq {a b : ByteArray} (h : ¬ a = b) : (a.toList == b.toList) = false := by
  rw [beq_eq_false_iff_ne, bytes_toList, bytes_toList]
  intro e
  exact h (WideShapes.bytes_inj e)

set_option maxHeartbeats 8000000 in
set_option maxRecDepth 100000 in
theorem nextR_any (S : Nat → Prop) (l : List Dc) (d : Dc) (sv dv : Value) (w : World) (hl : DLies w S sv l) (hpl : ∀ x ∈ l, Tm.proper x.cl = true) (hd : Lies w S dv d.cl.args) (hs : d.nm.size ≤ 140737488351232) (him : I64 d.im) :
    Calls Try.prog 28 #[sv, dcV d dv] w fun e w' => e = .returned (.bool (Sg.nextR l d)) ∧ Below w.heap.size w w' := by
  have HDL := Lib.hid hl
  obtain ⟨ao, bb, off, len, cap, nm, oo, hh, kk, sc, tt, im, rfl, R⟩ := hl
  obtain ⟨nme, ⟨o, h, n, ar⟩, imp⟩ := d
  obtain ⟨a2, n2, m2, rfl⟩ := hd.isSlice
  have hrl := R.hl
  have hrc := R.hr
  have him1 := him.1
  have him2 := him.2
  have hbx := one_below w (.cells #[.string nme, .int .i64 o, .int .i64 h, .int .i64 n, .slice a2 n2 m2, .int .i64 imp] 40)
  have HB := Lib.hid hbx
  have HX := Lib.hid (heap_alloc_new w (.cells #[.string nme, .int .i64 o, .int .i64 h, .int .i64 n, .slice a2 n2 m2, .int .i64 imp] 40))
  have cN := fun w1 => sgNameR_any nme w1 hs
  have HLEN := Lib.hid R.length
  have HD := Lib.hid hd
  have HR := Lib.hid R
  have HPL := Lib.hid hpl
  have cC := fun w1 (hb : Below w.heap.size w w1) => proper_any (fun _ => True) o h n _ ar w1 ((HD.out.more fun _ _ _ => trivial).keep hb)
  unfold dcV
  simp only [Tm.op, Tm.hd, Tm.n] at *
  clear R hpl him hd hs hbx
  rcases h1 : Sg.nameOk nme with _ | _
  · rw [nextR_no (next_no1 (d := ⟨nme, .mk o h n ar, imp⟩) h1)]
    simp only [h1] at cN
    clear h1 cC
    go_enter Try.func28, Try.ntmps28
    go_wp2_with (go_at_call 54; (with_reducible refine (cN _).mono ?_); rintro e w1 ⟨rfl, rfl⟩)
    go_ret
    exact ⟨rfl, HB.out⟩
  rcases h2 : Tm.proper (.mk o h n ar) with _ | _
  · rw [nextR_no (next_no2 (d := ⟨nme, .mk o h n ar, imp⟩) h2)]
    simp only [h1, h2] at cN cC
    clear h1 h2
    go_enter Try.func28, Try.ntmps28
    go_wp2_with (first
      | (go_at_call 54; (with_reducible refine (cN _).mono ?_); rintro e w1 ⟨rfl, rfl⟩)
      | (go_at_call 10; (with_reducible refine (cC _ HB.out).mono ?_); rintro e w2 ⟨rfl, hb2⟩))
    go_ret
    exact ⟨rfl, below_next HB.out hb2⟩
  have cO := fun w1 (hb : Below w.heap.size w w1) => closedR_any (.mk o h n ar) len _ w1 ((HD.out.more fun _ _ _ => trivial).keep hb) h2 (by omega)
  rw [Tm.closed_over h2] at cO
  simp only [Tm.op, Tm.hd, Tm.n] at cO
  rcases h3 : Tm.over len 0 (.mk o h n ar) with _ | _
  · rw [nextR_no (next_no3 (d := ⟨nme, .mk o h n ar, imp⟩) (by rw [HLEN.out]; exact h3))]
    simp only [h1, h2, h3] at cN cC cO
    clear h1 h2 h3
    go_enter Try.func28, Try.ntmps28
    go_wp2_with (first
      | (go_at_call 54; (with_reducible refine (cN _).mono ?_); rintro e w1 ⟨rfl, rfl⟩)
      | (go_at_call 10; (with_reducible refine (cC _ HB.out).mono ?_); rintro e w2 ⟨rfl, hb2⟩; have HB2 := Lib.hid (below_next HB.out hb2); have HX2 := Lib.hid (heap_kept hb2 HX.out); have x1 := cell_in HX2.out 1 _ rfl; have x2 := cell_in HX2.out 2 _ rfl; have x3 := cell_in HX2.out 3 _ rfl; have x4 := cell_in HX2.out 4 _ rfl; clear hb2)
      | (go_at_call 55; (with_reducible refine (cO _ HB2.out).mono ?_); rintro e w3 ⟨rfl, hb3⟩; have HB3 := Lib.hid (below_next HB2.out hb3); have HX3 := Lib.hid (heap_kept hb3 HX2.out); clear x1 x2 x3 x4 hb3)
      | fail)
    go_ret
    exact ⟨rfl, HB3.out⟩
  have hres := (Tm.res_proper _ _ (Nat.le_refl _) h2)
  have hrsz := Tm.res_lt _ (.mk o h n ar) (Nat.le_refl _)
  have hsz6 := (Tm.proper_formed' h2).1
  have hrov : (Tm.res (.mk o h n ar)).1.hd = 2 → (Tm.res (.mk o h n ar)).1.n < (len : Int) := fun e => by
    obtain ⟨b', hb'⟩ := Tm.res_over _ _ _ _ (Nat.le_refl _) h2 h3
    exact Tm.over_hd hb' e
  have hrn := Tm.proper_n hres.1
  have cR := fun w1 (hb : Below w.heap.size w w1) => splitR_res (.mk o h n ar) _ w1 ((HD.out.more fun _ _ _ => trivial).keep hb) h2
  simp only [Tm.op, Tm.hd, Tm.n] at cR
  have E := fun h4 h5 => next_yes (l := l) (d := ⟨nme, .mk o h n ar, imp⟩) h1 h2 (by rw [HLEN.out]; exact h3) h4 h5
  have N4 := fun h4 => next_no4 (l := l) (d := ⟨nme, .mk o h n ar, imp⟩) h4
  have N5 := fun h5 => next_no5 (l := l) (d := ⟨nme, .mk o h n ar, imp⟩) h5
  have NI := fun i hi e => nextR_in (l := l) (d := ⟨nme, .mk o h n ar, imp⟩) i hi e
  have NO := fun e => nextR_out (l := l) (d := ⟨nme, .mk o h n ar, imp⟩) e
  generalize Sg.nextR l ⟨nme, .mk o h n ar, imp⟩ = r' at NI NO ⊢
  generalize Sg.next l ⟨nme, .mk o h n ar, imp⟩ = r at E N4 N5 NO
  simp only at E N4 N5 NI NO
  simp only [h1, h2, h3] at cN cC cO
  have hfo := (Tm.proper_formed' hres.1).2
  generalize Tm.res (.mk o h n ar) = rr at *
  obtain ⟨⟨uo, uh, un, ul⟩, cnt⟩ := rr
  simp only [Tm.op, Tm.hd, Tm.n] at *
  have hcnt : cnt ≤ 600 := by have := Tm.sz_pos (.mk uo uh un ul); omega
  have hop : (uo = 1 ∧ uh = 0) ∨ (uo = 3 ∧ uh = 0) ∨ (uo = 4 ∧ ¬ uh = 2) ∨ (uo = 4 ∧ uh = 2) := by
    simp only [Tm.formed, Bool.and_eq_true] at hfo
    have := Tm.headOk_yes _ _ _ _ hfo.1.2
    have := hres.2
    omega
  have HE := Lib.hid E
  have HN4 := Lib.hid N4
  have HN5 := Lib.hid N5
  have HNI := Lib.hid NI
  have HNO := Lib.hid NO
  have HOV := Lib.hid hrov
  clear hres hrsz hsz6 E N4 N5 NI NO hrov h1 h2 h3 hfo
  go_enter Try.func28, Try.ntmps28
  go_wp2_with (first
      | (go_at_call 54; (with_reducible refine (cN _).mono ?_); rintro e w1 ⟨rfl, rfl⟩)
      | (go_at_call 10; (with_reducible refine (cC _ HB.out).mono ?_); rintro e w2 ⟨rfl, hb2⟩; have HB2 := Lib.hid (below_next HB.out hb2); have HX2 := Lib.hid (heap_kept hb2 HX.out); have x1 := cell_in HX2.out 1 _ rfl; have x2 := cell_in HX2.out 2 _ rfl; have x3 := cell_in HX2.out 3 _ rfl; have x4 := cell_in HX2.out 4 _ rfl; clear hb2)
      | (go_at_call 55; (with_reducible refine (cO _ HB2.out).mono ?_); rintro e w3 ⟨rfl, hb3⟩; have HB3 := Lib.hid (below_next HB2.out hb3); have HX3 := Lib.hid (heap_kept hb3 HX2.out); clear x1 x2 x3 x4 hb3)
      | fail)
  go_loopw [29] (fun i wr => ∃ k : Nat, k ≤ len ∧ i = .int .i64 k ∧ Below w.heap.size w wr ∧ wr.heap[w.heap.size]? = some (.cells #[.string nme, .int .i64 o, .int .i64 h, .int .i64 n, .slice a2 n2 m2, .int .i64 imp] 40 (0, 0)) ∧ Hid (∀ j, j < k → ¬ nm j = nme)) (fun i _ => len - (RowKit.intOf i).toNat)
  case atStart => exact ⟨0, Nat.zero_le _, rfl, HB3.out, HX3.out, Lib.hid (by intro j hj; omega)⟩
  case round =>
    obtain ⟨k, hk, rfl, hbw, hbx, HNN⟩ := hrel
    have HBW := Lib.hid hbw
    have HBX := Lib.hid hbx
    have hlw := lt_of_block hbx
    obtain ⟨y0, y1, y2, y3, y4, y5⟩ := cells6_of' hbx
    clear hbx
    by_cases hlt : k < len
    · obtain rfl := HR.out.hao (by omega)
      obtain ⟨d0, d1, d2, d3, d4, d5, hsub⟩ := HR.out.at hbw k hlt
      obtain ⟨a9, n9, m9, hsc⟩ := hsub.isSlice
      rw [hsc] at d4
      have HB4 := Lib.hid (HBW.out.trans ((one_below wr (.cells #[.string (nm k), .int .i64 (oo k), .int .i64 (hh k), .int .i64 (kk k), .slice a9 n9 m9, .int .i64 (im k)] 40)).mono HBW.out.size))
      clear hsub hbw
      by_cases hq : nm k = nme
      · have hrr := HNI.out k (by rw [HLEN.out]; exact hlt) (by rw [HR.out.get k hlt]; exact hq)
        have HRR := Lib.hid hrr
        rw [hq] at d0 HB4
        clear hrr
        go_wp2_with fail
        go_ret
        exact ⟨ret_bool (a := false) HRR.out.symm, HB4.out⟩
      · have hqb := bytes_beq hq
        go_wp2_with fail
        go_roundw
        case rel =>
          refine ⟨k + 1, by omega, by go_num, HB4.out, heap_kept (one_below wr _) HBX.out, Lib.hid fun j hj => ?_⟩
          by_cases e : j = k
          · subst e; exact hq
          · exact HNN.out j (by omega)
        case measure => simp [RowKit.intOf]; omega
    · obtain rfl : k = len := by omega
      have HO := Lib.hid (HNO.out (by intro i hi; have hi' : i < k := by rw [← HLEN.out]; exact hi
                                      rw [HR.out.get i hi']; exact HNN.out i hi'))
      clear hbw
      go_wp2_with fail
      refine (cR _ HBW.out).mono ?_
      rintro e w4 ⟨ad, md, b4, rfl, hb4, a5, n5, m5, rfl⟩
      have HB4 := Lib.hid (below_next HBW.out hb4)
      have HX4 := Lib.hid (heap_kept hb4 HBX.out)
      clear y0 y1 y2 y3 y4 y5 hb4
      have x5 := cell_in HX4.out 5 _ rfl
      have hlt4 := lt_of_block HX4.out
      have HB5 := Lib.hid (HB4.out.trans ((one_below w4 (.cells #[.int .i64 uo, .int .i64 uh, .int .i64 un, .slice a5 n5 m5] 25)).mono HB4.out.size))
      have cs : imp < 0 ∨ (¬ imp < 0 ∧ (cnt : Int) < imp) ∨ (¬ imp < 0 ∧ ¬ (cnt : Int) < imp) := by omega
      rcases hop with ⟨rfl, rfl⟩ | ⟨rfl, rfl⟩ | ⟨rfl, k2⟩ | ⟨rfl, rfl⟩
      · rcases cs with c4 | ⟨c4, c5⟩ | ⟨c4, c5⟩
        · have hge : ¬ (0 : Int) ≤ imp := by omega
          go_wp2_with fail
          go_ret
          exact ⟨ret_bool (a := false) (by rw [HO.out, HN4.out c4]), HB5.out⟩
        · have hge : (0 : Int) ≤ imp := by omega
          have hle : ¬ imp ≤ (cnt : Int) := by omega
          go_wp2_with fail
          go_ret
          exact ⟨by rw [HO.out, HN5.out c5]; exact ret_bool (decide_eq_false (by omega)), HB5.out⟩
        · have hge : (0 : Int) ≤ imp := by omega
          have hle : imp ≤ (cnt : Int) := by omega
          go_wp2_with fail
          go_ret
          exact ⟨ret_bool (a := true) (by rw [HO.out, HE.out (by omega) (by omega)]; rfl), HB5.out⟩
      · have HF : Hid (r = false) := Lib.hid (by
          rcases cs with c4 | ⟨c4, c5⟩ | ⟨c4, c5⟩
          · exact HN4.out c4
          · exact HN5.out c5
          · rw [HE.out (by omega) (by omega)]; rfl)
        go_wp2_with fail
        go_ret
        exact ⟨ret_bool (a := false) (by rw [HO.out, HF.out]), HB5.out⟩
      · have k2' : (uh == 2) = false := by simpa using k2
        have HF : Hid (r = false) := Lib.hid (by
          rcases cs with c4 | ⟨c4, c5⟩ | ⟨c4, c5⟩
          · exact HN4.out c4
          · exact HN5.out c5
          · rw [HE.out (by omega) (by omega), k2']; rfl)
        go_wp2_with fail
        go_ret
        exact ⟨ret_bool (a := false) (by rw [HO.out, HF.out]), HB5.out⟩
      · obtain ⟨i, rfl⟩ : ∃ i : Nat, un = (i : Int) := ⟨un.toNat, by omega⟩
        have hil : i < k := by have := HOV.out rfl; omega
        have hil' : i < l.length := by rw [HLEN.out]; exact hil
        have cF := fun w1 (hb : Below w.heap.size w w1) => familyR_any S l i hil' (.slice ao k cap) w1 (HDL.out.keep hb) (HPL.out _ (List.getElem_mem hil'))
        have HKK : Hid (Tm.kind ((l.map Dc.cl).getD ((i : Int)).toNat Tm.zero) = Tm.kind l[i].cl) := Lib.hid (by
          simp only [Int.toNat_natCast]
          rw [List.getD_eq_getElem?_getD, List.getElem?_map, List.getElem?_eq_getElem hil', Option.map_some, Option.getD_some])
        rcases hkd : Tm.kind l[i].cl with _ | _
        · simp only [hkd] at cF
          have HF : Hid (r = false) := Lib.hid (by
            rcases cs with c4 | ⟨c4, c5⟩ | ⟨c4, c5⟩
            · exact HN4.out c4
            · exact HN5.out c5
            · rw [HE.out (by omega) (by omega), HKK.out, hkd]; rfl)
          clear hkd
          go_wp2_with (first | (go_at_call 57; (with_reducible refine (cF _ HB5.out).mono ?_); rintro e w6 ⟨rfl, hb6⟩; have HB6 := Lib.hid (below_next HB5.out hb6); clear hb6) | fail)
          go_ret
          exact ⟨ret_bool (a := false) (by rw [HO.out, HF.out]), HB6.out⟩
        · simp only [hkd] at cF
          have HX5 := Lib.hid (heap_kept (one_below w4 (.cells #[.int .i64 4, .int .i64 2, .int .i64 i, .slice a5 n5 m5] 25)) HX4.out)
          have HU5 := Lib.hid (heap_alloc_new w4 (.cells #[.int .i64 4, .int .i64 2, .int .i64 i, .slice a5 n5 m5] 25))
          have HEE := Lib.hid (fun (c4 : ¬ imp < 0) (c5 : ¬ (cnt : Int) < imp) => (HE.out (by omega) (by omega)).trans (by rw [HKK.out, hkd]; rfl : _ = true))
          clear hkd
          rcases cs with c4 | ⟨c4, c5⟩ | ⟨c4, c5⟩
          · have hge : ¬ (0 : Int) ≤ imp := by omega
            go_wp2_with (first | (go_at_call 57; (with_reducible refine (cF _ HB5.out).mono ?_); rintro e w6 ⟨rfl, hb6⟩; have HB6 := Lib.hid (below_next HB5.out hb6); clear x5; have x5 := cell_in (heap_kept hb6 HX5.out) 5 _ rfl; have z0 := cell_in (heap_kept hb6 HU5.out) 0 _ rfl; clear hb6) | fail)
            go_ret
            exact ⟨ret_bool (a := false) (by rw [HO.out, HN4.out c4]), HB6.out⟩
          · have hge : (0 : Int) ≤ imp := by omega
            have hle : ¬ imp ≤ (cnt : Int) := by omega
            go_wp2_with (first | (go_at_call 57; (with_reducible refine (cF _ HB5.out).mono ?_); rintro e w6 ⟨rfl, hb6⟩; have HB6 := Lib.hid (below_next HB5.out hb6); clear x5; have x5 := cell_in (heap_kept hb6 HX5.out) 5 _ rfl; have z0 := cell_in (heap_kept hb6 HU5.out) 0 _ rfl; clear hb6) | fail)
            go_ret
            exact ⟨by rw [HO.out, HN5.out c5]; exact ret_bool (decide_eq_false (by omega)), HB6.out⟩
          · have hge : (0 : Int) ≤ imp := by omega
            have hle : imp ≤ (cnt : Int) := by omega
            go_wp2_with (first | (go_at_call 57; (with_reducible refine (cF _ HB5.out).mono ?_); rintro e w6 ⟨rfl, hb6⟩; have HB6 := Lib.hid (below_next HB5.out hb6); clear x5; have x5 := cell_in (heap_kept hb6 HX5.out) 5 _ rfl; have z0 := cell_in (heap_kept hb6 HU5.out) 0 _ rfl; clear hb6) | fail)
            go_ret
            exact ⟨ret_bool (a := true) (by rw [HO.out, HEE.out (by omega) (by omega)]), HB6.out⟩
end Go.Proofs.Yteoheeddjddekaa
