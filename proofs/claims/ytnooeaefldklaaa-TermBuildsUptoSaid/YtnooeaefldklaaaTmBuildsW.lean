/- For any list and any two terms: Arrow, Join and Split give what the reference gives. No conditions but the list's length. -/
import Derived.Test.YtnooeaefldklaaaRows
import Derived.Test.YtnooeaefldklaaaTmCopy
import Derived.Test.YtnooeaefldklaaaTmSplitR
import Derived.Test.YtnooeaefldklaaaTmJoinR
import Derived.ProofKit
namespace Go.Proofs.Ytnooeaefldklaaa
open Go.RowKit
set_option linter.unusedSimpArgs false
set_option linter.unusedVariables false

theorem gives_t (T : Tm) (e : Int) (v v' : Value) (w : World) (hv : Lies w (fun _ => True) v T.args) (hv' : Lies w (fun _ => True) v' T.args) :
    Calls Try.prog 21 #[.agg #[.int .i64 T.op, .int .i64 T.hd, .int .i64 T.n, v], .int .i64 e, .agg #[.int .i64 T.op, .int .i64 T.hd, .int .i64 T.n, v'], .int .i64 e] w fun e' w' => e' = .returned (.bool true) ∧ Below w.heap.size w w' := by
  have c := gives_any _ _ T.op T.hd T.n T.op T.hd T.n e e v v' T.args T.args w hv hv'
  rw [(Tm.same_iff _ _).2 rfl] at c
  simpa using c
theorem sameR_t (T : Tm) (v v' : Value) (w : World) (hv : Lies w (fun _ => True) v T.args) (hv' : Lies w (fun _ => True) v' T.args) :
    Calls Try.prog 36 #[.agg #[.int .i64 T.op, .int .i64 T.hd, .int .i64 T.n, v], .agg #[.int .i64 T.op, .int .i64 T.hd, .int .i64 T.n, v']] w fun e' w' => e' = .returned (.bool true) ∧ Below w.heap.size w w' := by
  have c := same_any _ _ T.op T.hd T.n T.op T.hd T.n v v' T.args T.args w hv hv'
  rw [(Tm.same_iff _ _).2 rfl] at c
  exact c

set_option maxHeartbeats 16000000 in
set_option maxRecDepth 100000 in
theorem termBuilds_walk (a t : Tm) (va vt vl : Value) (l : List Tm) (w : World) (hva : Lies w (fun _ => True) va a.args) (hvt : Lies w (fun _ => True) vt t.args) (hl : Lies w (fun _ => True) vl l) (hlen : l.length ≤ 1048576) :
    Calls Try.prog 6 #[vl, .agg #[.int .i64 a.op, .int .i64 a.hd, .int .i64 a.n, va], .agg #[.int .i64 t.op, .int .i64 t.hd, .int .i64 t.n, vt]] w fun e w' => e = .returned (.bool true) ∧ Below w.heap.size w w' := by
  obtain ⟨a2, n2, m2, rfl⟩ := hva.isSlice
  obtain ⟨a3, n3, m3, rfl⟩ := hvt.isSlice
  obtain ⟨ad, bb, off, len, cap, oo, hh, kk, sv, ts, rfl, R⟩ := hl.open
  rw [R.length] at hlen
  obtain ⟨i0, hi0, hz0, hz1, hz2⟩ := info_parts tm_info
  have HI0 := Lib.hid hi0
  have HZ0 := Lib.hid hz0
  have HVA := Lib.hid hva
  have HVT := Lib.hid hvt
  have HL := Lib.hid hl
  have HR := Lib.hid R
  have HB := Lib.hid (two_blocks w #[.int .i64 a.op, .int .i64 a.hd, .int .i64 a.n, .slice a2 n2 m2] #[.int .i64 t.op, .int .i64 t.hd, .int .i64 t.n, .slice a3 n3 m3] 24 24)
  have H2 := Lib.hid (two_below w (.cells #[.int .i64 a.op, .int .i64 a.hd, .int .i64 a.n, .slice a2 n2 m2] 24) (.cells #[.int .i64 t.op, .int .i64 t.hd, .int .i64 t.n, .slice a3 n3 m3] 24))
  obtain ⟨⟨T1, e1⟩, hT1⟩ : ∃ r, r = arrowOut a t := ⟨_, rfl⟩
  have HT1 := Lib.hid hT1
  have c1 := arrow_any a.op a.hd a.n _ a.args t.op t.hd t.n _ t.args _ (HVA.out.keep H2.out) (HVT.out.keep H2.out)
  rw [Tm.eta, Tm.eta] at c1
  have c1 := givesOne hT1.symm c1
  clear hva hvt hl R hi0 hz0 hT1
  go_enter Try.func6, Try.ntmps6
  go_wp2_with fail
  refine c1.mono ?_
  rintro e w1 ⟨a5, n5, m5, rfl, hb1, hl1⟩
  have hba1 := one_below w1 (.cells #[.int .i64 T1.op, .int .i64 T1.hd, .int .i64 T1.n, .slice a5 n5 m5] 24)
  have B1 := below_next (below_next H2.out hb1) hba1
  have D1 := Lib.hid (heap_alloc_new w1 (.cells #[.int .i64 T1.op, .int .i64 T1.hd, .int .i64 T1.n, .slice a5 n5 m5] 24))
  have L1 := Lib.hid (hl1.keep hba1)
  have TB1 := Lib.hid (heap_kept hba1 (heap_kept hb1 HB.out.2))
  obtain ⟨p0, p1, p2, p3⟩ := tBlock (heap_kept hba1 (heap_kept hb1 HB.out.1))
  obtain ⟨q0, q1, q2, q3⟩ := tBlock TB1.out
  have c2 := arrowR_any a t _ _ _ (HVA.out.keep B1) (HVT.out.keep B1) T1 e1 HT1.out.symm
  clear hb1 hl1 hba1
  go_wp2_with fail
  refine c2.mono ?_
  rintro e w2 ⟨a6, n6, m6, rfl, hb2, hl2⟩
  have hba2 := one_below w2 (.cells #[.int .i64 T1.op, .int .i64 T1.hd, .int .i64 T1.n, .slice a6 n6 m6] 24)
  have B2 := below_next (below_next B1 hb2) hba2
  have D2 := Lib.hid (heap_alloc_new w2 (.cells #[.int .i64 T1.op, .int .i64 T1.hd, .int .i64 T1.n, .slice a6 n6 m6] 24))
  have D1 := Lib.hid (heap_kept hba2 (heap_kept hb2 D1.out))
  have L2 := Lib.hid (hl2.keep hba2)
  have L1 := Lib.hid ((L1.out.keep hb2).keep hba2)
  have TB2 := Lib.hid (heap_kept hba2 (heap_kept hb2 TB1.out))
  clear hb2 hl2 hba2 c2 p0 p1 p2 p3 q0 q1 q2 q3
  generalize hWW : w2.alloc (.cells #[.int .i64 T1.op, .int .i64 T1.hd, .int .i64 T1.n, .slice a6 n6 m6] 24) = W at B2 D2 D1 L2 L1 TB2 ⊢
  have hdr : Below W.heap.size W W.drew := (Below.refl _ _).drew
  obtain ⟨t0, t1, t2, t3⟩ := tBlock TB2.out
  have hx00 : Cells4 W (w.heap.size + 1) (.int .i64 t.op) (.int .i64 t.hd) (.int .i64 t.n) (.slice a3 n3 m3) := ⟨t0, t1, t2, t3⟩
  have hx0 := keep4 hdr hx00
  have hlt8 := lt_of_block TB2.out
  have hs8 := B2.size
  obtain ⟨⟨T, er⟩, hT⟩ : ∃ r, r = joinOut l t := ⟨_, rfl⟩
  have hw0 := joinOut_three l t
  rw [← hT] at hw0
  have HTJ := Lib.hid hT
  have HFT := Lib.hid (joined_args hw0)
  have cz := fun (vd : Value) (wx : World) (hb : Below W.heap.size W wx) (hd : Lies wx (fun _ => True) vd l) => givesOne hT.symm (join_t t _ vd l wx (HVT.out.keep (below_next B2 hb)) hd)
  clear hw0 hT
  go_upto_region 3 with fail
  go_cut [11, 12] (fun p e wx => ∃ B b n m, p = .pointer (some ⟨B, 0, none⟩) ∧ e = .int .i64 er ∧ wx.heap[B]? = some (.cells #[.int .i64 T.op, .int .i64 T.hd, .int .i64 T.n, .slice b n m] 24 (0, 0)) ∧ Lies wx (fun _ => True) (.slice b n m) T.args ∧ Below W.heap.size W wx)
  case first =>
    clear t0 t1 t2 t3
    go_region_held3 (fun W => Cells4 W (w.heap.size + 1) (.int .i64 t.op) (.int .i64 t.hd) (.int .i64 t.n) (.slice a3 n3 m3))
      (first | (with_reducible exact hx0) | (with_reducible exact keep4 (one_below _ _) hx0) | (with_reducible exact keep4 (one_below _ _) (keep4 (one_below _ _) hx0)) | (with_reducible exact keep4 hd9 hx00) | (with_reducible exact keep4 (one_below _ _) (keep4 hd9 hx00)) | (with_reducible exact keep4 hd10 hx00) | (with_reducible exact keep4 (one_below _ _) (keep4 hd10 hx00)) | (with_reducible exact keepH (heap_set4 _ _ _ _ hne hne hne hne) (keep4 hd10 hx00)) | (with_reducible exact keepH (heap_set4 _ _ _ _ hne1 hne1 hne1 hne1) (keep4 hd10 hx00)))
      (first | (go_at_call 33; (with_reducible refine (cz _ _ ?_ ?_).mono ?_); (first | exact hd9 | exact hd9.alloc hd9.size _); (first | exact hL9 | exact hL9.keep (one_below _ _)); rintro e w10 ⟨a10, n10, m10, rfl, hb10, hx10⟩; have hd10 : Below W.heap.size W w10 := (by first | exact hd9.trans (hb10.mono hd9.size) | exact (hd9.alloc hd9.size _).trans (hb10.mono (hd9.alloc hd9.size _).size)); (first | (have hzz := Lib.hid (heap_kept hb10 (heap_alloc_new w9 (.cells #[.int .i64 0, .int .i64 0, .int .i64 0, .slice none 0 0] 24))); have hne : (w.heap.size + 1) ≠ w9.heap.size := (by have := hd9.size; omega); obtain ⟨y0, y1, y2, y3⟩ := tBlock hzz.out; have f0 := free_in hzz.out 0; have f1 := free_in hzz.out 1; have f2 := free_in hzz.out 2; have f3 := free_in hzz.out 3) | (have hzz := Lib.hid (heap_kept hb10 hz9.out); have hne : (w.heap.size + 1) ≠ W.heap.size := (by omega); have hne1 : (w.heap.size + 1) ≠ W.heap.size + 1 := (by omega); obtain ⟨y0, y1, y2, y3⟩ := tBlock hzz.out; have f0 := free_in hzz.out 0; have f1 := free_in hzz.out 1; have f2 := free_in hzz.out 2; have f3 := free_in hzz.out 3) | skip)) | (refine step_append_any (by rfl) _ _ _ (by rfl) W.heap.size 24 i0 _ 4 48 Try.underlying22 HI0.out HZ0.out hz1 hz2 rfl (by omega) (W.heap.size) 0 0 [] (by rfl) (own_empty (heap_alloc_new W.drew _) (Nat.le_refl _)) ad len cap (rowCells l sv len) (by rfl) HR.out.cellsLen HR.out.noAddr (HR.out.newsOf (below_next B2 (hdr.alloc hdr.size (.cells #[] 24)))) HR.out.ones (by unfold maxLen; omega) (by omega) ((hdr.alloc hdr.size (.cells #[] 24))).size ?_; intro g cap3 w9 hown9 hgrow9 hat9 hlt9; have hd9 : Below W.heap.size W w9 := ((hdr.alloc hdr.size (.cells #[] 24))).grown hgrow9 ((hdr.alloc hdr.size (.cells #[] 24))).size (fun k hk => by cases hk; omega); have hL9 := HR.out.copied hown9 (below_next B2 hd9)) | (refine step_append_any (by rfl) _ _ _ (by rfl) W.heap.size 24 i0 _ 4 48 Try.underlying22 HI0.out HZ0.out hz1 hz2 rfl (by omega) (W.heap.size + 1) 0 0 [] (by rfl) (own_empty (heap_at (X := W.drew.alloc (.cells #[.int .i64 0, .int .i64 0, .int .i64 0, .slice none 0 0] 24)) (ob := .cells #[] 24) (by simp)) (Nat.le_succ _)) ad len cap (rowCells l sv len) (by rfl) HR.out.cellsLen HR.out.noAddr (HR.out.newsOf (below_next B2 ((hdr.alloc hdr.size (.cells #[.int .i64 0, .int .i64 0, .int .i64 0, .slice none 0 0] 24)).alloc (hdr.alloc hdr.size _).size (.cells #[] 24)))) HR.out.ones (by unfold maxLen; omega) (by omega) (((hdr.alloc hdr.size (.cells #[.int .i64 0, .int .i64 0, .int .i64 0, .slice none 0 0] 24)).alloc (hdr.alloc hdr.size _).size (.cells #[] 24))).size ?_; intro g cap3 w9 hown9 hgrow9 hat9 hlt9; have hd9 : Below W.heap.size W w9 := (((hdr.alloc hdr.size (.cells #[.int .i64 0, .int .i64 0, .int .i64 0, .slice none 0 0] 24)).alloc (hdr.alloc hdr.size _).size (.cells #[] 24))).grown hgrow9 (((hdr.alloc hdr.size (.cells #[.int .i64 0, .int .i64 0, .int .i64 0, .slice none 0 0] 24)).alloc (hdr.alloc hdr.size _).size (.cells #[] 24))).size (fun k hk => by cases hk; omega); have hL9 := HR.out.copied hown9 (below_next B2 hd9); have hz9 := Lib.hid (show w9.heap[W.heap.size]? = _ from (hgrow9.block W.heap.size (by simp <;> omega) (by simp)).trans (heap_kept (one_below _ _) (heap_alloc_new W.drew (.cells #[.int .i64 0, .int .i64 0, .int .i64 0, .slice none 0 0] 24))))) | (refine step_append_any (by rfl) _ _ _ (by rfl) W.heap.size 24 i0 _ 4 48 Try.underlying22 HI0.out HZ0.out hz1 hz2 rfl (by omega) (W.heap.size) 0 0 [] (by rfl) (own_empty (heap_kept (one_below _ _) (heap_alloc_new W.drew (.cells #[] 24))) (Nat.le_refl _)) ad len cap (rowCells l sv len) (by rfl) HR.out.cellsLen HR.out.noAddr (HR.out.newsOf (below_next B2 ((hdr.alloc hdr.size (.cells #[] 24)).alloc (hdr.alloc hdr.size _).size (.cells #[.int .i64 0, .int .i64 0, .int .i64 0, .slice none 0 0] 24)))) HR.out.ones (by unfold maxLen; omega) (by omega) (((hdr.alloc hdr.size (.cells #[] 24)).alloc (hdr.alloc hdr.size _).size (.cells #[.int .i64 0, .int .i64 0, .int .i64 0, .slice none 0 0] 24))).size ?_; intro g cap3 w9 hown9 hgrow9 hat9 hlt9; have hd9 : Below W.heap.size W w9 := (((hdr.alloc hdr.size (.cells #[] 24)).alloc (hdr.alloc hdr.size _).size (.cells #[.int .i64 0, .int .i64 0, .int .i64 0, .slice none 0 0] 24))).grown hgrow9 (((hdr.alloc hdr.size (.cells #[] 24)).alloc (hdr.alloc hdr.size _).size (.cells #[.int .i64 0, .int .i64 0, .int .i64 0, .slice none 0 0] 24))).size (fun k hk => by cases hk; omega); have hL9 := HR.out.copied hown9 (below_next B2 hd9); have hz9 := Lib.hid (show w9.heap[W.heap.size + 1]? = _ from (hgrow9.block (W.heap.size + 1) (by simp <;> omega) (by simp)).trans (heap_at (X := W.drew.alloc (.cells #[] 24)) (ob := .cells #[.int .i64 0, .int .i64 0, .int .i64 0, .slice none 0 0] 24) (by simp)))))
    all_goals
      go_wp2_with fail
      go_meet
      case rel =>
        first
          | exact ⟨_, _, _, _, rfl, rfl, heap_alloc_new w10 _, hx10.keep (one_below _ _), below_next hd10 (one_below _ _)⟩
          | (have hs9 := hd9.size; exact ⟨_, _, _, _, rfl, rfl, set4_at hzz.out _ _ _ _, hx10.shun (zero_cells hzz.out) (fun b j u hb e => cell_set4 hb e) _ HFT.out, (((hd10.setCell (by simp <;> omega) _).setCell (by simp <;> omega) _).setCell (by simp <;> omega) _).setCell (by simp <;> omega) _⟩)
  case rest =>
    obtain ⟨B, ab, nb, mb, rfl, rfl, hB, hL, hBw⟩ := hcut
    clear cz hdr hx0 hx00 t0 t1 t2 t3
    have B3 := below_next B2 hBw
    have D1 := Lib.hid (heap_kept hBw D1.out)
    have D2 := Lib.hid (heap_kept hBw D2.out)
    have D3 := Lib.hid hB
    have L1 := Lib.hid (L1.out.keep hBw)
    have L2 := Lib.hid (L2.out.keep hBw)
    have L3 := Lib.hid hL
    have TB3 := Lib.hid (heap_kept hBw TB2.out)
    obtain ⟨q0, q1, q2, q3⟩ := tBlock TB3.out
    have c4 := joinR_any t _ _ l _ (HVT.out.keep B3) (HL.out.keep B3) T er HTJ.out.symm
    clear hB hL
    go_wp2_with fail
    refine c4.mono ?_
    rintro e w4 ⟨a7, n7, m7, rfl, hb4, hl4⟩
    have hba4 := one_below w4 (.cells #[.int .i64 T.op, .int .i64 T.hd, .int .i64 T.n, .slice a7 n7 m7] 24)
    have hb4' := below_next hb4 hba4
    have B4 := below_next B3 hb4'
    obtain ⟨r0, r1, r2, r3⟩ := tBlock (heap_kept hb4' D1.out)
    obtain ⟨s0, s1, s2, s3⟩ := tBlock (heap_kept hb4' D2.out)
    obtain ⟨x0, x1, x2, x3⟩ := tBlock (heap_kept hb4' D3.out)
    obtain ⟨y0, y1, y2, y3⟩ := tBlock (heap_alloc_new w4 (.cells #[.int .i64 T.op, .int .i64 T.hd, .int .i64 T.n, .slice a7 n7 m7] 24))
    have TB4 := Lib.hid (heap_kept hb4' TB3.out)
    have L4 := Lib.hid (hl4.keep hba4)
    have L3 := Lib.hid (L3.out.keep hb4')
    have c5 := gives_t T1 e1 (.slice a5 n5 m5) (.slice a6 n6 m6) _ (L1.out.keep hb4') (L2.out.keep hb4')
    clear c4 hl4 q0 q1 q2 q3
    go_wp2_with fail
    refine c5.mono ?_
    rintro e w5 ⟨rfl, hb5⟩
    have B5 := below_next B4 hb5
    have TB5 := Lib.hid (heap_kept hb5 TB4.out)
    obtain ⟨q0, q1, q2, q3⟩ := keep4 hb5 ⟨x0, x1, x2, x3⟩
    obtain ⟨p0, p1, p2, p3⟩ := keep4 hb5 ⟨y0, y1, y2, y3⟩
    have c6 := gives_t T er (.slice ab nb mb) (.slice a7 n7 m7) w5 (L3.out.keep hb5) (L4.out.keep hb5)
    clear c5 r0 r1 r2 r3 s0 s1 s2 s3 x0 x1 x2 x3 y0 y1 y2 y3
    go_wp2_with fail
    refine c6.mono ?_
    rintro e w6 ⟨rfl, hb6⟩
    have B6 := below_next B5 hb6
    have TB6 := Lib.hid (heap_kept hb6 TB5.out)
    clear c6 p0 p1 p2 p3 q0 q1 q2 q3
    obtain ⟨q0, q1, q2, q3⟩ := tBlock TB6.out
    have c7 := split_t t (.slice a3 n3 m3) w6 (HVT.out.keep B6)
    rcases hp : Tm.proper t with _ | _
    · have hso : splitOut t = ([], Tm.zero, 2) := by unfold splitOut; rw [hp]; rfl
      rw [hso] at c7
      have HP := Lib.hid hp
      clear hso hp
      go_wp2_with fail
      refine Calls.mono c7 ?_
      rintro e w7 ⟨v7, v8, rfl, hb7, hl7, hl8⟩
      obtain ⟨a8, n8, m8, rfl⟩ := hl7.isSlice
      obtain ⟨a9, n9, m9, rfl⟩ := hl8.isSlice
      obtain rfl : 0 = n8 := hl7.lenF
      dsimp only [Tm.zero, Tm.op, Tm.hd, Tm.n, Tm.args] at hl8 ⊢
      have hba7 := one_below w7 (.cells #[.int .i64 0, .int .i64 0, .int .i64 0, .slice a9 n9 m9] 24)
      have B7 := below_next (below_next B6 hb7) hba7
      have D7 := Lib.hid (heap_alloc_new w7 (.cells #[.int .i64 0, .int .i64 0, .int .i64 0, .slice a9 n9 m9] 24))
      obtain ⟨p0, p1, p2, p3⟩ := tBlock (heap_kept hba7 (heap_kept hb7 TB6.out))
      have L7 := Lib.hid ((hl8.keep hba7).more (S' := fun _ => True) fun _ _ _ => trivial)
      have c8 := proper_t t (.slice a3 n3 m3) _ (HVT.out.keep B7)
      rw [HP.out] at c8
      clear q0 q1 q2 q3 hl7 hl8
      go_wp2_with fail
      refine c8.mono ?_
      rintro e w8 ⟨rfl, hb8⟩
      obtain ⟨r0, r1, r2, r3⟩ := tBlock (heap_kept hb8 D7.out)
      have c9 := sameR_t (.mk 0 0 0 []) (.slice a9 n9 m9) (.slice none 0 0) w8 (L7.out.keep hb8) (Lies.nil _ _)
      dsimp only [Tm.op, Tm.hd, Tm.n] at c9
      clear p0 p1 p2 p3
      go_wp2_with fail
      refine c9.mono ?_
      rintro e w9 ⟨rfl, hb9⟩
      go_wp2_with fail
      refine (awake_any _).mono ?_
      rintro e w10 ⟨rfl, hb10⟩
      go_wp2
      go_ret
      exact ⟨rfl, below_next (below_next (below_next B7 hb8) hb9) hb10⟩
    · have hso : splitOut t = ((Tm.splitOf t).1, (Tm.splitOf t).2, 0) := by unfold splitOut; rw [hp]; rfl
      rw [hso] at c7
      have cR := fun w1 (hb : Below w.heap.size w w1) => splitR_any t (.slice a3 n3 m3) w1 (HVT.out.keep hb) hp
      obtain ⟨⟨ds, bd⟩, hsp⟩ : ∃ r, r = Tm.splitOf t := ⟨_, rfl⟩
      rw [← hsp] at c7 cR
      have HP := Lib.hid hp
      clear hso hp hsp
      go_wp2_with fail
      refine Calls.mono c7 ?_
      rintro e w7 ⟨v7, v8, rfl, hb7, hl7, hl8⟩
      obtain ⟨a8, n8, m8, rfl⟩ := hl7.isSlice
      obtain ⟨a9, n9, m9, rfl⟩ := hl8.isSlice
      dsimp only at hl7 hl8 ⊢
      have hba7 := one_below w7 (.cells #[.int .i64 bd.op, .int .i64 bd.hd, .int .i64 bd.n, .slice a9 n9 m9] 24)
      have B7 := below_next (below_next B6 hb7) hba7
      have D7 := Lib.hid (heap_alloc_new w7 (.cells #[.int .i64 bd.op, .int .i64 bd.hd, .int .i64 bd.n, .slice a9 n9 m9] 24))
      have TB7 := Lib.hid (heap_kept hba7 (heap_kept hb7 TB6.out))
      obtain ⟨p0, p1, p2, p3⟩ := tBlock TB7.out
      have L7 := Lib.hid ((hl8.keep hba7).more (S' := fun _ => True) fun _ _ _ => trivial)
      have L6 := Lib.hid ((hl7.keep hba7).more (S' := fun _ => True) fun _ _ _ => trivial)
      have c8 := proper_t t (.slice a3 n3 m3) _ (HVT.out.keep B7)
      rw [HP.out] at c8
      clear q0 q1 q2 q3 hl7 hl8
      go_wp2_with fail
      refine c8.mono ?_
      rintro e w8 ⟨rfl, hb8⟩
      have B8 := below_next B7 hb8
      obtain ⟨q0, q1, q2, q3⟩ := tBlock (heap_kept hb8 TB7.out)
      clear p0 p1 p2 p3 c8
      go_wp2_with fail
      refine (cR _ B8).mono ?_
      rintro e w9 ⟨v9, v10, rfl, hb9, hl9, hl10⟩
      obtain ⟨a11, n11, m11, rfl⟩ := hl9.isSlice
      obtain ⟨a12, n12, m12, rfl⟩ := hl10.isSlice
      dsimp only at hl9 hl10 ⊢
      have hba9 := one_below w9 (.cells #[.int .i64 bd.op, .int .i64 bd.hd, .int .i64 bd.n, .slice a12 n12 m12] 24)
      have hb9' := below_next hb9 hba9
      have B9 := below_next B8 hb9'
      have c10 := sameAll_true (.slice a8 n8 m8) (.slice a11 n11 m11) ds _ ((L6.out.keep hb8).keep hb9') (hl9.keep hba9)
      have D9 := Lib.hid (heap_alloc_new w9 (.cells #[.int .i64 bd.op, .int .i64 bd.hd, .int .i64 bd.n, .slice a12 n12 m12] 24))
      clear q0 q1 q2 q3
      go_wp2_with fail
      refine c10.mono ?_
      rintro e w10 ⟨rfl, hb10⟩
      obtain ⟨p0, p1, p2, p3⟩ := tBlock (heap_kept hb10 (heap_kept hb9' (heap_kept hb8 D7.out)))
      obtain ⟨q0, q1, q2, q3⟩ := tBlock (heap_kept hb10 D9.out)
      have c11 := sameR_t bd (.slice a9 n9 m9) (.slice a12 n12 m12) w10 (((L7.out.keep hb8).keep hb9').keep hb10) ((hl10.keep hba9).keep hb10)
      clear c10
      go_wp2_with fail
      refine c11.mono ?_
      rintro e w11 ⟨rfl, hb11⟩
      go_wp2_with fail
      refine (awake_any _).mono ?_
      rintro e w12 ⟨rfl, hb12⟩
      go_wp2
      go_ret
      exact ⟨rfl, below_next (below_next (below_next B9 hb10) hb11) hb12⟩
end Go.Proofs.Ytnooeaefldklaaa
