/- The contract of sign.Of, whole. -/
import Derived.Test.YteoheeddjddekaaSgA2
namespace Go.Proofs.Yteoheeddjddekaa
open Go.RowKit Go.Shelf
set_option linter.unusedSimpArgs false
set_option linter.unusedVariables false

set_option maxHeartbeats 2000000 in
set_option maxRecDepth 100000 in
theorem of_any (ls : List Dc) (n : Int) (sv : Value) (w : World) (hl : DLies w (fun _ => True) sv ls) : Calls Try.prog 19 #[sv, .int .i64 n] w (NumE w (ofOut ls n)) := by
  have h1 := one_below w (.cells #[.int .i64 n] 3)
  have cC := ck_any (fun _ => True) ls n sv _ (hl.keep h1)
  have hc0 := cell_in (heap_alloc_new w (.cells #[.int .i64 n] 3)) 0 (.int .i64 n) rfl
  by_cases hc : ckOut ls n = 0
  · obtain ⟨hf, i, rfl, hi⟩ := ckOut_zero hc
    have hp := formed_proper hf
    have h100 := formed_len hf
    obtain ⟨ao, b, off, len, cap, nm, oo, hh, kk, sc, tt, im, rfl, R⟩ := hl
    have hil : i < len := by rw [← R.length]; exact hi
    have hg := R.get i hil
    have hcl : clAt ls ((i : Int)).toNat = .mk (oo i) (hh i) (kk i) (tt i) := by rw [Int.toNat_natCast, clAt_get hi, hg]
    rcases hk : Tm.kind (.mk (oo i) (hh i) (kk i) (tt i)) with _ | _
    · have HE : Hid (ofOut ls (i : Int) = ([], 22)) := Lib.hid (by unfold ofOut; rw [if_pos hc, hcl, hk]; rfl)
      rw [hc] at cC
      have hrl := R.hl
      have hrc := R.hr
      obtain rfl := R.hao (by omega)
      have hpi : Tm.proper (.mk (oo i) (hh i) (kk i) (tt i)) = true := by have := hp ls[i] (List.getElem_mem hi); rwa [hg] at this
      have cK := fun w1 (hb : Below w.heap.size w w1) => isKind_any (fun _ => True) (.mk (oo i) (hh i) (kk i) (tt i)) (sc i) w1 ((R.sub i hil).keep hb) hpi
      rw [hk] at cK
      obtain ⟨a9, n9, m9, hsc⟩ := (R.sub i hil).isSlice
      rw [hsc] at cK
      simp only [Tm.op, Tm.hd, Tm.n] at cK
      have HR := Lib.hid R
      have H1 := Lib.hid h1
      clear R hg hcl hpi hf hc hi hp hk h1
      go_enter Try.func19, Try.ntmps19
      go_wp2_with (first
        | (go_at_call 35; (with_reducible refine cC.mono ?_); rintro e w1 ⟨rfl, hb1⟩; have HB1 := Lib.hid (below_next H1.out hb1); obtain ⟨d0, d1, d2, d3, d4, d5, hsub⟩ := HR.out.at HB1.out i hil; rw [hsc] at d4; have hc1 := kept_cell hb1 hc0; clear hb1 hsub d0 d5)
        | (go_at_call 41; (with_reducible refine (cK _ HB1.out).mono ?_); rintro e w2 ⟨rfl, hb2⟩; have HB2 := Lib.hid (below_next HB1.out hb2); clear hb2)
        | fail)
      go_ret2
      rw [HE.out]
      exact ⟨_, rfl, Ints.nil _, HB2.out⟩
    · have HE : ofOut ls (i : Int) = (colL (fun i => (Tm.res (.mk (oo i) (hh i) (kk i) (tt i))).1.n) i (objUp len (fun i => (Tm.res (.mk (oo i) (hh i) (kk i) (tt i))).1.hd == 2) len), 0) := by
        unfold ofOut
        rw [if_pos hc, hcl, hk, if_pos rfl, colL_up _ _ _ len len (Nat.le_refl _)]
        unfold objL
        rw [R.length]
        congr 2
        refine List.filter_congr fun j hj => ?_
        have hj' := List.mem_range.1 hj
        rw [clAt_get (by rw [R.length]; exact hj'), R.get j hj']
      rw [HE]
      exact of_good ls i ao b off len cap nm oo hh kk sc tt im w R hp (by rw [← R.length]; exact h100) hil hc hk _ _ fun j hj => ⟨rfl, rfl⟩
  · have HE : Hid (ofOut ls n = ([], ckOut ls n)) := Lib.hid (by unfold ofOut; rw [if_neg hc])
    have hc' : (ckOut ls n == 0) = false := by simpa using hc
    obtain ⟨a, m, rfl, hlen⟩ := hl.isSlice
    have H1 := Lib.hid h1
    clear h1 hl
    generalize ckOut ls n = z at *
    go_enter Try.func19, Try.ntmps19
    go_wp2_with (go_at_call 35; (with_reducible refine cC.mono ?_); rintro e w1 ⟨rfl, hb1⟩; have HB1 := Lib.hid (below_next H1.out hb1))
    go_ret2
    rw [HE.out]
    exact ⟨_, rfl, Ints.nil _, HB1.out⟩
end Go.Proofs.Yteoheeddjddekaa
