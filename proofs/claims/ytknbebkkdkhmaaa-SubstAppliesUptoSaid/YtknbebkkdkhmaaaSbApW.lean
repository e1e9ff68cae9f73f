/- The law SubstApplies, walked, for a list of at most 1048576 terms. -/
import Derived.Test.YtknbebkkdkhmaaaSbAwake
import Derived.Test.YtknbebkkdkhmaaaSbApF
import Derived.Test.YtknbebkkdkhmaaaTmCpy
import Derived.BigRegion
import Derived.ProofKit
namespace Go.Proofs.Ytknbebkkdkhmaaa.Sb
open Go.RowKit
set_option linter.unusedSimpArgs false
set_option linter.unusedVariables false

theorem heap_newB {X : World} {ob : Obj} {k : Nat} (h : X.heap.size = k) : (X.alloc ob).heap[k]? = some ob := by
  subst h; exact heap_alloc_new X ob
theorem cellsAq_four {W : World} {B D k : Nat} {so sh sn cn : Int} {sv Sv a b c d : Value} (h : B ≠ k ∧ D ≠ k) (x : CellsAq W B D so sh sn sv Sv cn) : CellsAq ((((W.setCell ⟨k, 0, none⟩ a).setCell ⟨k, 1, none⟩ b).setCell ⟨k, 2, none⟩ c).setCell ⟨k, 3, none⟩ d) B D so sh sn sv Sv cn :=
  cellsAq_by (set4_other a b c d h.1) (set4_other a b c d h.2) x

set_option maxHeartbeats 16000000 in
set_option maxRecDepth 100000 in
theorem substApplies_walk (t : Tm) (v vl Sv : Value) (l : List Tm) (cn : Int) (Ss : List Sp.Tm) (w : World) (hv : Lies w (fun _ => True) v t.args) (hl : Lies w (fun _ => True) vl l) (hS : Sp.Lies w (fun _ => True) Sv Ss) (ft : t.fit) (hlen : l.length ≤ 1048576) :
    Calls Try.prog 4 #[.agg #[.int .i64 t.op, .int .i64 t.hd, .int .i64 t.n, v], vl, .agg #[Sv, .int .i64 cn]] w fun e w' => e = .returned (.bool true) ∧ Below w.heap.size w w' := by
  obtain ⟨a2, n2, m2, rfl⟩ := hv.isSlice
  obtain ⟨ad, bb, off, len, cap, oo, hh, kk, sv, ts, rfl, R⟩ := hl.open
  obtain ⟨a3, n3, m3, rfl⟩ := hS.isSlice
  rw [R.length] at hlen
  obtain ⟨i0, hi0, hz0, hz1, hz2⟩ := info_parts tm_info
  have HI0 := Lib.hid hi0
  have HZ0 := Lib.hid hz0
  have HR := Lib.hid R
  have h2 := two_blocks w #[.int .i64 t.op, .int .i64 t.hd, .int .i64 t.n, .slice a2 n2 m2] #[.slice a3 n3 m3, .int .i64 cn] 24 27
  have B1 := two_below w (.cells #[.int .i64 t.op, .int .i64 t.hd, .int .i64 t.n, .slice a2 n2 m2] 24) (.cells #[.slice a3 n3 m3, .int .i64 cn] 27)
  have hs8 : w.heap.size + 2 ≤ ((w.alloc (.cells #[.int .i64 t.op, .int .i64 t.hd, .int .i64 t.n, .slice a2 n2 m2] 24)).alloc (.cells #[.slice a3 n3 m3, .int .i64 cn] 27)).heap.size := by simp
  generalize hw0 : (w.alloc (.cells #[.int .i64 t.op, .int .i64 t.hd, .int .i64 t.n, .slice a2 n2 m2] 24)).alloc (.cells #[.slice a3 n3 m3, .int .i64 cn] 27) = w0 at h2 B1 hs8
  have hdr : Below w0.heap.size w0 w0.drew := (Below.refl _ _).drew
  have hx00 : CellsAq w0 w.heap.size (w.heap.size + 1) t.op t.hd t.n (.slice a2 n2 m2) (.slice a3 n3 m3) cn := by
    obtain ⟨x1, x2, x3, x4⟩ := c4_of h2.1
    obtain ⟨x5, x6⟩ := (cells2_of h2.2).1
    exact ⟨x1, x2, x3, x4, x5, x6⟩
  have hx0 := cellsAq_below hdr hx00
  have H2 := Lib.hid h2
  have cr := fun (wx : World) (hb : Below w.heap.size w wx) => applyRF_any t l cn Ss (.slice a2 n2 m2) (.slice ad len cap) (.slice a3 n3 m3) wx (hv.keep hb) (hl.keep hb) (hS.keep hb)
  have cz0 := fun (vd : Value) (wx : World) (hb : Below w0.heap.size w0 wx) (hd : Lies wx (fun _ => True) vd l) => applyF_any t l cn Ss (.slice a2 n2 m2) vd (.slice a3 n3 m3) wx (hv.keep (below_next B1 hb)) hd (hS.keep (below_next B1 hb)) ft
  generalize applyOut t l (.mk cn Ss) = r at cr cz0
  obtain ⟨T, er⟩ := r
  have cz : ∀ (vd : Value) (wx : World), Below w0.heap.size w0 wx → Lies wx (fun _ => True) vd l → Calls Try.prog 18 #[.agg #[.int .i64 t.op, .int .i64 t.hd, .int .i64 t.n, .slice a2 n2 m2], vd, .agg #[.slice a3 n3 m3, .int .i64 cn]] wx fun e w10 => ∃ a10 n10 m10, e = .returned (.tuple #[.agg #[.int .i64 T.op, .int .i64 T.hd, .int .i64 T.n, .slice a10 n10 m10], .int .i64 er]) ∧ Below wx.heap.size wx w10 ∧ Lies w10 (wx.heap.size ≤ ·) (.slice a10 n10 m10) T.args := fun vd wx hb hd =>
    (cz0 vd wx hb hd).mono fun e w10 ⟨v, he, hb, L⟩ => by
      obtain ⟨a10, n10, m10, rfl⟩ := L.isSlice
      exact ⟨a10, n10, m10, he, hb, L⟩
  have HNA : Hid ((w.heap.size ≠ w0.heap.size ∧ w.heap.size + 1 ≠ w0.heap.size) ∧ (w.heap.size ≠ w0.heap.size + 1 ∧ w.heap.size + 1 ≠ w0.heap.size + 1)) := Lib.hid (by omega)
  clear h2 hv hl hS R hi0 hz0 cz0 ft
  go_enter Try.func4, Try.ntmps4
  go_upto_region 1 with fail
  clear hw0
  go_cut [7, 8] (fun p e wx => ∃ B b n m, p = .pointer (some ⟨B, 0, none⟩) ∧ e = .int .i64 er ∧ wx.heap[B]? = some (.cells #[.int .i64 T.op, .int .i64 T.hd, .int .i64 T.n, .slice b n m] 24 (0, 0)) ∧ Lies wx (fun _ => True) (.slice b n m) T.args ∧ Below w0.heap.size w0 wx)
  case first =>
    go_region_held3 (fun W => CellsAq W w.heap.size (w.heap.size + 1) t.op t.hd t.n (.slice a2 n2 m2) (.slice a3 n3 m3) cn)
      (first | (with_reducible exact hx0) | (with_reducible exact cellsAq_below (one_below _ _) hx0) | (with_reducible exact cellsAq_below (one_below _ _) (cellsAq_below (one_below _ _) hx0)) | (with_reducible exact cellsAq_below hd9 hx00) | (with_reducible exact cellsAq_below (one_below _ _) (cellsAq_below hd9 hx00)) | (with_reducible exact cellsAq_below hd10 hx00) | (with_reducible exact cellsAq_below (one_below _ _) (cellsAq_below hd10 hx00)) | (with_reducible exact cellsAq_four HN9.out (cellsAq_below hd10 hx00)) | (with_reducible exact cellsAq_four HNA.out.1 (cellsAq_below hd10 hx00)) | (with_reducible exact cellsAq_four HNA.out.2 (cellsAq_below hd10 hx00)) | fail)
      (first | (go_at_call 18; (with_reducible refine (cz _ _ ?_ ?_).mono ?_); (first | exact hd9 | exact hd9.alloc hd9.size _); (first | exact hL9 | exact hL9.keep (one_below _ _)); rintro e w10 ⟨a10, n10, m10, rfl, hb10, hx10⟩; have hd10 : Below w0.heap.size w0 w10 := (by first | exact hd9.trans (hb10.mono hd9.size) | exact (hd9.alloc hd9.size _).trans (hb10.mono (hd9.alloc hd9.size _).size)); (first | (have hzz := Lib.hid (heap_kept hb10 (heap_alloc_new w9 (.cells #[.int .i64 0, .int .i64 0, .int .i64 0, .slice none 0 0] 24))); have HN9 : Hid (w.heap.size ≠ w9.heap.size ∧ w.heap.size + 1 ≠ w9.heap.size) := Lib.hid (by have := hd9.size; omega); obtain ⟨y0, y1, y2, y3⟩ := c4_of hzz.out; have f0 := free_in hzz.out 0; have f1 := free_in hzz.out 1; have f2 := free_in hzz.out 2; have f3 := free_in hzz.out 3) | (have hzz := Lib.hid (heap_kept hb10 hz9.out);  obtain ⟨y0, y1, y2, y3⟩ := c4_of hzz.out; have f0 := free_in hzz.out 0; have f1 := free_in hzz.out 1; have f2 := free_in hzz.out 2; have f3 := free_in hzz.out 3) | skip)) | (refine step_append_any (by rfl) _ _ _ (by rfl) w0.heap.size 24 i0 _ 4 48 Try.underlying22 HI0.out HZ0.out hz1 hz2 rfl (by omega) (w0.heap.size) 0 0 [] (by rfl) (own_empty (heap_alloc_new w0.drew _) (Nat.le_refl _)) ad len cap (rowCells l sv len) (by rfl) HR.out.cellsLen HR.out.noAddr (HR.out.newsOf (below_next B1 (hdr.alloc hdr.size (.cells #[] 24)))) HR.out.ones (by unfold maxLen; omega) (by omega) ((hdr.alloc hdr.size (.cells #[] 24))).size ?_; intro g cap3 w9 hown9 hgrow9 hat9 hlt9; have hd9 : Below w0.heap.size w0 w9 := ((hdr.alloc hdr.size (.cells #[] 24))).grown hgrow9 ((hdr.alloc hdr.size (.cells #[] 24))).size (fun k hk => by cases hk; omega); have hL9 := HR.out.copied hown9 (below_next B1 hd9)) | (refine step_append_any (by rfl) _ _ _ (by rfl) w0.heap.size 24 i0 _ 4 48 Try.underlying22 HI0.out HZ0.out hz1 hz2 rfl (by omega) (w0.heap.size + 1) 0 0 [] (by rfl) (own_empty (heap_newB (X := w0.drew.alloc (.cells #[.int .i64 0, .int .i64 0, .int .i64 0, .slice none 0 0] 24)) (ob := .cells #[] 24) (by simp)) (Nat.le_succ _)) ad len cap (rowCells l sv len) (by rfl) HR.out.cellsLen HR.out.noAddr (HR.out.newsOf (below_next B1 ((hdr.alloc hdr.size (.cells #[.int .i64 0, .int .i64 0, .int .i64 0, .slice none 0 0] 24)).alloc (hdr.alloc hdr.size _).size (.cells #[] 24)))) HR.out.ones (by unfold maxLen; omega) (by omega) (((hdr.alloc hdr.size (.cells #[.int .i64 0, .int .i64 0, .int .i64 0, .slice none 0 0] 24)).alloc (hdr.alloc hdr.size _).size (.cells #[] 24))).size ?_; intro g cap3 w9 hown9 hgrow9 hat9 hlt9; have hd9 : Below w0.heap.size w0 w9 := (((hdr.alloc hdr.size (.cells #[.int .i64 0, .int .i64 0, .int .i64 0, .slice none 0 0] 24)).alloc (hdr.alloc hdr.size _).size (.cells #[] 24))).grown hgrow9 (((hdr.alloc hdr.size (.cells #[.int .i64 0, .int .i64 0, .int .i64 0, .slice none 0 0] 24)).alloc (hdr.alloc hdr.size _).size (.cells #[] 24))).size (fun k hk => by cases hk; omega); have hL9 := HR.out.copied hown9 (below_next B1 hd9); have hz9 := Lib.hid (show w9.heap[w0.heap.size]? = _ from (hgrow9.block w0.heap.size (by simp <;> omega) (by simp)).trans (heap_kept (one_below _ _) (heap_alloc_new w0.drew (.cells #[.int .i64 0, .int .i64 0, .int .i64 0, .slice none 0 0] 24))))) | (refine step_append_any (by rfl) _ _ _ (by rfl) w0.heap.size 24 i0 _ 4 48 Try.underlying22 HI0.out HZ0.out hz1 hz2 rfl (by omega) (w0.heap.size) 0 0 [] (by rfl) (own_empty (heap_kept (one_below _ _) (heap_alloc_new w0.drew (.cells #[] 24))) (Nat.le_refl _)) ad len cap (rowCells l sv len) (by rfl) HR.out.cellsLen HR.out.noAddr (HR.out.newsOf (below_next B1 ((hdr.alloc hdr.size (.cells #[] 24)).alloc (hdr.alloc hdr.size _).size (.cells #[.int .i64 0, .int .i64 0, .int .i64 0, .slice none 0 0] 24)))) HR.out.ones (by unfold maxLen; omega) (by omega) (((hdr.alloc hdr.size (.cells #[] 24)).alloc (hdr.alloc hdr.size _).size (.cells #[.int .i64 0, .int .i64 0, .int .i64 0, .slice none 0 0] 24))).size ?_; intro g cap3 w9 hown9 hgrow9 hat9 hlt9; have hd9 : Below w0.heap.size w0 w9 := (((hdr.alloc hdr.size (.cells #[] 24)).alloc (hdr.alloc hdr.size _).size (.cells #[.int .i64 0, .int .i64 0, .int .i64 0, .slice none 0 0] 24))).grown hgrow9 (((hdr.alloc hdr.size (.cells #[] 24)).alloc (hdr.alloc hdr.size _).size (.cells #[.int .i64 0, .int .i64 0, .int .i64 0, .slice none 0 0] 24))).size (fun k hk => by cases hk; omega); have hL9 := HR.out.copied hown9 (below_next B1 hd9); have hz9 := Lib.hid (show w9.heap[w0.heap.size + 1]? = _ from (hgrow9.block (w0.heap.size + 1) (by simp <;> omega) (by simp)).trans (heap_newB (X := w0.drew.alloc (.cells #[] 24)) (ob := .cells #[.int .i64 0, .int .i64 0, .int .i64 0, .slice none 0 0] 24) (by simp)))))
    all_goals
      go_wp2_with fail
      go_meet
      case rel =>
        first
          | exact ⟨_, _, _, _, rfl, rfl, heap_alloc_new w10 _, (hx10.keep (one_below _ _)).more fun _ _ _ => trivial, below_next hd10 (one_below _ _)⟩
          | (have hs9 := hd9.size; exact ⟨_, _, _, _, rfl, rfl, set4_at hzz.out _ _ _ _, (hx10.still fun b hS _ => set4_other _ _ _ _ (by simp at hS; omega)).more fun _ _ _ => trivial, (((hd10.setCell (by simp <;> omega) _).setCell (by simp <;> omega) _).setCell (by simp <;> omega) _).setCell (by simp <;> omega) _⟩)
          | (have hs9 := hd9.size; have hs10 := lt_blk hz9.out; exact ⟨_, _, _, _, rfl, rfl, set4_at hzz.out _ _ _ _, (hx10.still fun b hS _ => set4_other _ _ _ _ (by have hS' : _ ≤ b := hS; omega)).more fun _ _ _ => trivial, (((hd10.setCell (by simp <;> omega) _).setCell (by simp <;> omega) _).setCell (by simp <;> omega) _).setCell (by simp <;> omega) _⟩)
          | (have hs9 := hd9.size
             have hs10 := lt_blk hz9.out
             refine ⟨_, _, _, _, rfl, rfl, set4_at hzz.out _ _ _ _, ?_, ?_⟩
             · refine (hx10.still fun b hS _ => set4_other _ _ _ _ ?_).more fun _ _ _ => trivial
               have hS' : _ ≤ b := hS
               omega
             · exact (((hd10.setCell (by simp <;> omega) _).setCell (by simp <;> omega) _).setCell (by simp <;> omega) _).setCell (by simp <;> omega) _)
  case rest =>
    obtain ⟨B, ab, nb, mb, rfl, rfl, hB, hL, hBw⟩ := hcut
    have hW := below_next B1 hBw
    have h2x := heap_kept hBw H2.out.1
    have h2y := heap_kept hBw H2.out.2
    have HL := Lib.hid (And.intro hB (And.intro hL hW))
    obtain ⟨x0, x1, x2, x3⟩ := c4_of h2x
    obtain ⟨⟨q0, q1⟩, _⟩ := cells2_of h2y
    clear cz hdr hx0 hx00 hB hL hBw hW h2x h2y
    go_wp2_with fail
    refine (cr _ HL.out.2.2).mono ?_
    rintro e w6 ⟨v6, rfl, hb6, L6⟩
    obtain ⟨a6, n6, m6, rfl⟩ := L6.isSlice
    have hba := one_below w6 (.cells #[.int .i64 T.op, .int .i64 T.hd, .int .i64 T.n, .slice a6 n6 m6] 24)
    have z5 := heap_kept hba (heap_kept hb6 HL.out.1)
    have z6 := heap_alloc_new w6 (.cells #[.int .i64 T.op, .int .i64 T.hd, .int .i64 T.n, .slice a6 n6 m6] 24)
    have c7 := gives_any (fun _ => True) (fun _ => True) T T er er (.slice ab nb mb) (.slice a6 n6 m6) _ ((HL.out.2.1.keep hb6).keep hba) (L6.keep hba)
    have hsm : (Tm.same T T && (er == er)) = true := by rw [(Tm.same_iff T T).2 rfl]; simp
    rw [hsm] at c7
    have HA6 := Lib.hid (below_next (below_next HL.out.2.2 hb6) hba)
    clear x0 x1 x2 x3 q0 q1 hb6 L6 hba HL cr hsm
    obtain ⟨x0, x1, x2, x3⟩ := c4_of z5
    obtain ⟨y0, y1, y2, y3⟩ := c4_of z6
    clear z5 z6
    go_wp2_with fail
    refine c7.mono ?_
    rintro e w7 ⟨rfl, hb7⟩
    have HA7 := Lib.hid (below_next HA6.out hb7)
    clear x0 x1 x2 x3 y0 y1 y2 y3 hb7 HA6 c7
    go_wp2_with fail
    refine (awake_any _).mono ?_
    rintro e w9 ⟨rfl, hb9⟩
    go_wp2_with fail
    go_ret
    exact ⟨rfl, below_next HA7.out hb9⟩
end Go.Proofs.Ytknbebkkdkhmaaa.Sb
