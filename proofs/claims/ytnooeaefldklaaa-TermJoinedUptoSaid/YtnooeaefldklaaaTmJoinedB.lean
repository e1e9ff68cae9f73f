/- For any term and any list: joining what Split gives is the term again; splitting what Join gives are the list and the term. No conditions but the list's length. -/
import Derived.Test.YtnooeaefldklaaaRows
import Derived.Test.YtnooeaefldklaaaTmCopy
import Derived.Test.YtnooeaefldklaaaTmFreeW
import Derived.ProofKit
namespace Go.Proofs.Ytnooeaefldklaaa
open Go.RowKit
set_option linter.unusedSimpArgs false
set_option linter.unusedVariables false

theorem heap_new_at' {X : World} {ob : Obj} {k : Nat} (h : X.heap.size = k) : (X.alloc ob).heap[k]? = some ob := by
  subst h; exact heap_alloc_new X ob

set_option maxHeartbeats 16000000 in
set_option maxRecDepth 100000 in
theorem termJoined_good (t : Tm) (v vl : Value) (l : List Tm) (w : World) (hv : Lies w (fun _ => True) v t.args) (hl : Lies w (fun _ => True) vl l) (hlen : l.length ≤ 1048576) (hp : Tm.proper t = true) :
    Calls Try.prog 12 #[.agg #[.int .i64 t.op, .int .i64 t.hd, .int .i64 t.n, v], vl] w fun e w' => e = .returned (.bool true) ∧ Below w.heap.size w w' := by
  obtain ⟨a2, n2, m2, rfl⟩ := hv.isSlice
  obtain ⟨ad, bb, off, len, cap, oo, hh, kk, sv, ts, rfl, R⟩ := hl.open
  rw [R.length] at hlen
  obtain ⟨i0, hi0, hz0, hz1, hz2⟩ := info_parts tm_info
  have HI0 := Lib.hid hi0
  have HZ0 := Lib.hid hz0
  have HV := Lib.hid hv
  have HL := Lib.hid hl
  have HR := Lib.hid R
  have hB0 := one_below w (.cells #[.int .i64 t.op, .int .i64 t.hd, .int .i64 t.n, .slice a2 n2 m2] 24)
  have HT0 := Lib.hid (heap_alloc_new w (.cells #[.int .i64 t.op, .int .i64 t.hd, .int .i64 t.n, .slice a2 n2 m2] 24))
  have c1 := proper_t t _ _ (HV.out.keep hB0)
  clear hv hl R hi0 hz0
  go_enter Try.func12, Try.ntmps12
  go_wp2_with fail
  rw [hp] at c1
  have HP := Lib.hid hp
  clear hp
  refine c1.mono ?_
  rintro e w1 ⟨rfl, hb1⟩
  have HT1 := Lib.hid (heap_kept hb1 HT0.out)
  have B1 := below_next hB0 hb1
  obtain ⟨p0, p1, p2, p3⟩ := tBlock HT1.out
  have c2 := split_t t _ w1 (HV.out.keep B1)
  have hso : splitOut t = ((Tm.splitOf t).1, (Tm.splitOf t).2, 0) := by unfold splitOut; rw [if_pos HP.out]
  have hjo := Tm.joinOut_split HP.out
  obtain ⟨_, _, hb2, _⟩ := Tm.split_all _ t (Nat.le_refl _) HP.out
  rw [hso] at c2
  obtain ⟨⟨ds, bd⟩, hsp⟩ : ∃ r, r = Tm.splitOf t := ⟨_, rfl⟩
  rw [← hsp] at c2 hjo hb2
  have HJO := Lib.hid hjo
  have hbd : (bd.op == 2) = false := by simpa using hb2
  clear hso hjo hb2 hsp c1
  go_wp2_with fail
  refine c2.mono ?_
  rintro e w2 ⟨va, vb, rfl, hb2, hla2, hlb2⟩
  obtain ⟨a3, n3, m3, rfl⟩ := hla2.isSlice
  obtain ⟨a4, n4, m4, rfl⟩ := hlb2.isSlice
  have hba2 := one_below w2 (.cells #[.int .i64 bd.op, .int .i64 bd.hd, .int .i64 bd.n, .slice a4 n4 m4] 24)
  have B2 := below_next (below_next B1 hb2) hba2
  have HT2 := Lib.hid (heap_kept hba2 (heap_kept hb2 HT1.out))
  have HD2 := Lib.hid (heap_alloc_new w2 (.cells #[.int .i64 bd.op, .int .i64 bd.hd, .int .i64 bd.n, .slice a4 n4 m4] 24))
  obtain ⟨q0, q1, q2, q3⟩ := tBlock HD2.out
  have c3 := givesOne HJO.out (join_t bd _ _ ds _ ((hlb2.keep hba2).more fun _ _ _ => trivial) ((hla2.keep hba2).more fun _ _ _ => trivial))
  clear c2 p0 p1 p2 p3
  go_wp2_with fail
  refine c3.mono ?_
  rintro e w3 ⟨a5, n5, m5, rfl, hb3, hl3⟩
  have hba3 := one_below w3 (.cells #[.int .i64 t.op, .int .i64 t.hd, .int .i64 t.n, .slice a5 n5 m5] 24)
  have B3 := below_next (below_next B2 hb3) hba3
  have HT3 := Lib.hid (heap_kept hba3 (heap_kept hb3 HT2.out))
  have HD3 := Lib.hid (heap_kept hba3 (heap_kept hb3 HD2.out))
  obtain ⟨p0, p1, p2, p3⟩ := tBlock HT3.out
  obtain ⟨r0, r1, r2, r3⟩ := tBlock (heap_alloc_new w3 (.cells #[.int .i64 t.op, .int .i64 t.hd, .int .i64 t.n, .slice a5 n5 m5] 24))
  have c4 := same_t t (.slice a5 n5 m5) (.slice a2 n2 m2) _ (hl3.keep hba3) (HV.out.keep B3) (Tm.proper_fit HP.out) (by have := (Tm.proper_formed' HP.out).1; omega)
  clear c3 q0 q1 q2 q3
  go_wp2_with fail
  refine c4.mono ?_
  rintro e w4 ⟨rfl, hb4⟩
  have B4 := below_next B3 hb4
  have HT4 := Lib.hid (heap_kept hb4 HT3.out)
  obtain ⟨s0, s1, s2, s3⟩ := tBlock (heap_kept hb4 HD3.out)
  clear c4 p0 p1 p2 p3 r0 r1 r2 r3
  by_cases hop : t.op = 2
  · obtain ⟨t0, t1, t2, t3⟩ := tBlock HT4.out
    have hop' : (t.op == 2) = true := by simpa using hop
    go_wp2_with fail
    refine (awake_any _).mono ?_
    rintro e w3 ⟨rfl, hb3⟩
    go_wp2
    go_ret
    exact ⟨rfl, below_next B4 hb3⟩
  · have hop' : (t.op == 2) = false := by simpa using hop
    have hdr : Below w4.heap.size w4 w4.drew := (Below.refl _ _).drew
    obtain ⟨t0, t1, t2, t3⟩ := tBlock HT4.out
    have hx00 : Cells4 w4 w.heap.size (.int .i64 t.op) (.int .i64 t.hd) (.int .i64 t.n) (.slice a2 n2 m2) := ⟨t0, t1, t2, t3⟩
    have hx0 := keep4 hdr hx00
    have hlt8 := lt_of_block HT4.out
    have hs8 := B4.size
    obtain ⟨⟨T, er⟩, hT⟩ : ∃ r, r = joinOut l t := ⟨_, rfl⟩
    have hw0 := joinOut_three l t
    rw [← hT] at hw0
    have HW0 := Lib.hid hw0
    have HFT := Lib.hid (joined_args hw0)
    have cz := fun (vd : Value) (wx : World) (hb : Below w4.heap.size w4 wx) (hd : Lies wx (fun _ => True) vd l) => givesOne hT.symm (join_t t _ vd l wx (HV.out.keep (below_next B4 hb)) hd)
    clear hw0 hT
    go_upto_region 8 with fail
    go_cut [10, 11] (fun p e wx => ∃ B b n m, p = .pointer (some ⟨B, 0, none⟩) ∧ e = .int .i64 er ∧ wx.heap[B]? = some (.cells #[.int .i64 T.op, .int .i64 T.hd, .int .i64 T.n, .slice b n m] 24 (0, 0)) ∧ Lies wx (fun _ => True) (.slice b n m) T.args ∧ Below w.heap.size w wx ∧ Cells4 wx w.heap.size (.int .i64 t.op) (.int .i64 t.hd) (.int .i64 t.n) (.slice a2 n2 m2))
    case first =>
      clear t0 t1 t2 t3
      go_region_held3 (fun W => Cells4 W w.heap.size (.int .i64 t.op) (.int .i64 t.hd) (.int .i64 t.n) (.slice a2 n2 m2))
        (first | (with_reducible exact hx0) | (with_reducible exact keep4 (one_below _ _) hx0) | (with_reducible exact keep4 (one_below _ _) (keep4 (one_below _ _) hx0)) | (with_reducible exact keep4 hd9 hx00) | (with_reducible exact keep4 (one_below _ _) (keep4 hd9 hx00)) | (with_reducible exact keep4 hd10 hx00) | (with_reducible exact keep4 (one_below _ _) (keep4 hd10 hx00)) | (with_reducible exact keepH (heap_set4 _ _ _ _ hne hne hne hne) (keep4 hd10 hx00)) | (with_reducible exact keepH (heap_set4 _ _ _ _ hne1 hne1 hne1 hne1) (keep4 hd10 hx00)))
        (first | (go_at_call 33; (with_reducible refine (cz _ _ ?_ ?_).mono ?_); (first | exact hd9 | exact hd9.alloc hd9.size _); (first | exact hL9 | exact hL9.keep (one_below _ _)); rintro e w10 ⟨a10, n10, m10, rfl, hb10, hx10⟩; have hd10 : Below w4.heap.size w4 w10 := (by first | exact hd9.trans (hb10.mono hd9.size) | exact (hd9.alloc hd9.size _).trans (hb10.mono (hd9.alloc hd9.size _).size)); (first | (have hzz := Lib.hid (heap_kept hb10 (heap_alloc_new w9 (.cells #[.int .i64 0, .int .i64 0, .int .i64 0, .slice none 0 0] 24))); have hne : w.heap.size ≠ w9.heap.size := (by have := hd9.size; omega); obtain ⟨y0, y1, y2, y3⟩ := tBlock hzz.out; have f0 := free_in hzz.out 0; have f1 := free_in hzz.out 1; have f2 := free_in hzz.out 2; have f3 := free_in hzz.out 3) | (have hzz := Lib.hid (heap_kept hb10 hz9.out); have hne : w.heap.size ≠ w4.heap.size := (by omega); have hne1 : w.heap.size ≠ w4.heap.size + 1 := (by omega); obtain ⟨y0, y1, y2, y3⟩ := tBlock hzz.out; have f0 := free_in hzz.out 0; have f1 := free_in hzz.out 1; have f2 := free_in hzz.out 2; have f3 := free_in hzz.out 3) | skip)) | (refine step_append_any (by rfl) _ _ _ (by rfl) w4.heap.size 24 i0 _ 4 48 Try.underlying22 HI0.out HZ0.out hz1 hz2 rfl (by omega) (w4.heap.size) 0 0 [] (by rfl) (own_empty (heap_alloc_new w4.drew _) (Nat.le_refl _)) ad len cap (rowCells l sv len) (by rfl) HR.out.cellsLen HR.out.noAddr (HR.out.newsOf (below_next B4 (hdr.alloc hdr.size (.cells #[] 24)))) HR.out.ones (by unfold maxLen; omega) (by omega) ((hdr.alloc hdr.size (.cells #[] 24))).size ?_; intro g cap3 w9 hown9 hgrow9 hat9 hlt9; have hd9 : Below w4.heap.size w4 w9 := ((hdr.alloc hdr.size (.cells #[] 24))).grown hgrow9 ((hdr.alloc hdr.size (.cells #[] 24))).size (fun k hk => by cases hk; omega); have hL9 := HR.out.copied hown9 (below_next B4 hd9)) | (refine step_append_any (by rfl) _ _ _ (by rfl) w4.heap.size 24 i0 _ 4 48 Try.underlying22 HI0.out HZ0.out hz1 hz2 rfl (by omega) (w4.heap.size + 1) 0 0 [] (by rfl) (own_empty (heap_new_at' (X := w4.drew.alloc (.cells #[.int .i64 0, .int .i64 0, .int .i64 0, .slice none 0 0] 24)) (ob := .cells #[] 24) (by simp)) (Nat.le_succ _)) ad len cap (rowCells l sv len) (by rfl) HR.out.cellsLen HR.out.noAddr (HR.out.newsOf (below_next B4 ((hdr.alloc hdr.size (.cells #[.int .i64 0, .int .i64 0, .int .i64 0, .slice none 0 0] 24)).alloc (hdr.alloc hdr.size _).size (.cells #[] 24)))) HR.out.ones (by unfold maxLen; omega) (by omega) (((hdr.alloc hdr.size (.cells #[.int .i64 0, .int .i64 0, .int .i64 0, .slice none 0 0] 24)).alloc (hdr.alloc hdr.size _).size (.cells #[] 24))).size ?_; intro g cap3 w9 hown9 hgrow9 hat9 hlt9; have hd9 : Below w4.heap.size w4 w9 := (((hdr.alloc hdr.size (.cells #[.int .i64 0, .int .i64 0, .int .i64 0, .slice none 0 0] 24)).alloc (hdr.alloc hdr.size _).size (.cells #[] 24))).grown hgrow9 (((hdr.alloc hdr.size (.cells #[.int .i64 0, .int .i64 0, .int .i64 0, .slice none 0 0] 24)).alloc (hdr.alloc hdr.size _).size (.cells #[] 24))).size (fun k hk => by cases hk; omega); have hL9 := HR.out.copied hown9 (below_next B4 hd9); have hz9 := Lib.hid (show w9.heap[w4.heap.size]? = _ from (hgrow9.block w4.heap.size (by simp <;> omega) (by simp)).trans (heap_kept (one_below _ _) (heap_alloc_new w4.drew (.cells #[.int .i64 0, .int .i64 0, .int .i64 0, .slice none 0 0] 24))))) | (refine step_append_any (by rfl) _ _ _ (by rfl) w4.heap.size 24 i0 _ 4 48 Try.underlying22 HI0.out HZ0.out hz1 hz2 rfl (by omega) (w4.heap.size) 0 0 [] (by rfl) (own_empty (heap_kept (one_below _ _) (heap_alloc_new w4.drew (.cells #[] 24))) (Nat.le_refl _)) ad len cap (rowCells l sv len) (by rfl) HR.out.cellsLen HR.out.noAddr (HR.out.newsOf (below_next B4 ((hdr.alloc hdr.size (.cells #[] 24)).alloc (hdr.alloc hdr.size _).size (.cells #[.int .i64 0, .int .i64 0, .int .i64 0, .slice none 0 0] 24)))) HR.out.ones (by unfold maxLen; omega) (by omega) (((hdr.alloc hdr.size (.cells #[] 24)).alloc (hdr.alloc hdr.size _).size (.cells #[.int .i64 0, .int .i64 0, .int .i64 0, .slice none 0 0] 24))).size ?_; intro g cap3 w9 hown9 hgrow9 hat9 hlt9; have hd9 : Below w4.heap.size w4 w9 := (((hdr.alloc hdr.size (.cells #[] 24)).alloc (hdr.alloc hdr.size _).size (.cells #[.int .i64 0, .int .i64 0, .int .i64 0, .slice none 0 0] 24))).grown hgrow9 (((hdr.alloc hdr.size (.cells #[] 24)).alloc (hdr.alloc hdr.size _).size (.cells #[.int .i64 0, .int .i64 0, .int .i64 0, .slice none 0 0] 24))).size (fun k hk => by cases hk; omega); have hL9 := HR.out.copied hown9 (below_next B4 hd9); have hz9 := Lib.hid (show w9.heap[w4.heap.size + 1]? = _ from (hgrow9.block (w4.heap.size + 1) (by simp <;> omega) (by simp)).trans (heap_new_at' (X := w4.drew.alloc (.cells #[] 24)) (ob := .cells #[.int .i64 0, .int .i64 0, .int .i64 0, .slice none 0 0] 24) (by simp)))))
      all_goals
        go_wp2_with fail
        go_meet
        case rel =>
          first
            | exact ⟨_, _, _, _, rfl, rfl, heap_alloc_new w10 _, hx10.keep (one_below _ _), below_next (B4.trans (hd10.mono B4.size)) (one_below _ _), by assumption⟩
            | (have hs9 := hd9.size; exact ⟨_, _, _, _, rfl, rfl, set4_at hzz.out _ _ _ _, hx10.shun (zero_cells hzz.out) (fun b j u hb e => cell_set4 hb e) _ HFT.out, ((((B4.trans (hd10.mono B4.size)).setCell (by simp; omega) _).setCell (by simp; omega) _).setCell (by simp; omega) _).setCell (by simp; omega) _, by assumption⟩)
    case rest =>
      obtain ⟨B, ab, nb, mb, rfl, rfl, hB, hL, hBw, hC⟩ := hcut
      clear cz hdr hx0 hx00 t0 t1 t2 t3
      rcases HW0.out with ⟨hW, hpT, hpt⟩ | hW | hW
      · have hTe : T = joinL l t := (Prod.mk.inj hW).1
        obtain rfl : er = 0 := (Prod.mk.inj hW).2
        obtain ⟨z0, z1, z2, z3⟩ := tBlock hB
        have hso : splitOut T = (l, t, 0) := by rw [hTe]; exact splitOut_joined hpT hop
        have c5 := split_t T _ _ hL
        rw [hso] at c5
        have HPT := Lib.hid hpt
        clear hW hTe hpT hpt hso
        go_wp2_with fail
        refine c5.mono ?_
        rintro e w5 ⟨va, vb, rfl, hb5, hla, hlb⟩
        obtain ⟨a6, n6, m6, rfl⟩ := hla.isSlice
        obtain ⟨a7, n7, m7, rfl⟩ := hlb.isSlice
        have hba5 := one_below w5 (.cells #[.int .i64 t.op, .int .i64 t.hd, .int .i64 t.n, .slice a7 n7 m7] 24)
        have B5 := below_next (below_next hBw hb5) hba5
        have hC5 := keep4 hba5 (keep4 hb5 hC)
        have c6 := sameAll_true (.slice a6 n6 m6) (.slice ad len cap) l _ ((hla.keep hba5).more fun _ _ _ => trivial) (HL.out.keep B5)
        clear c5 z0 z1 z2 z3
        go_wp2_with fail
        refine c6.mono ?_
        rintro e w6 ⟨rfl, hb6⟩
        obtain ⟨x0, x1, x2, x3⟩ := keep4 hb6 hC5
        obtain ⟨r0, r1, r2, r3⟩ := tBlock (heap_kept hb6 (heap_alloc_new w5 (.cells #[.int .i64 t.op, .int .i64 t.hd, .int .i64 t.n, .slice a7 n7 m7] 24)))
        have B6 := below_next B5 hb6
        have c7 := same_t t (.slice a7 n7 m7) (.slice a2 n2 m2) w6 (((hlb.keep hba5).keep hb6).more fun _ _ _ => trivial) (HV.out.keep B6) (Tm.proper_fit HPT.out) (by have := (Tm.proper_formed' HPT.out).1; omega)
        clear c6
        go_wp2_with fail
        refine c7.mono ?_
        rintro e w7 ⟨rfl, hb7⟩
        go_wp2_with fail
        refine (awake_any _).mono ?_
        rintro e w8 ⟨rfl, hb8⟩
        go_wp2
        go_ret
        exact ⟨rfl, below_next (below_next B6 hb7) hb8⟩
      · obtain ⟨rfl, rfl⟩ := Prod.mk.inj hW
        go_wp2_with fail
        refine (awake_any _).mono ?_
        rintro e w3 ⟨rfl, hb3⟩
        go_wp2
        go_ret
        exact ⟨rfl, below_next hBw hb3⟩
      · obtain ⟨rfl, rfl⟩ := Prod.mk.inj hW
        go_wp2_with fail
        refine (awake_any _).mono ?_
        rintro e w3 ⟨rfl, hb3⟩
        go_wp2
        go_ret
        exact ⟨rfl, below_next hBw hb3⟩
end Go.Proofs.Ytnooeaefldklaaa
