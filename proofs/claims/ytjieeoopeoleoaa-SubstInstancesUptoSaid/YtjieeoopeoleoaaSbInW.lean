/- The law SubstInstances, walked, for a list of at most 1048576 terms. -/
import Derived.Test.YtjieeoopeoleoaaSbAwake
import Derived.Test.YtjieeoopeoleoaaSbInF
import Derived.Test.YtjieeoopeoleoaaSbInG
import Derived.Test.YtjieeoopeoleoaaTmCpy
import Derived.BigRegion
import Derived.ProofKit
namespace Go.Proofs.Ytjieeoopeoleoaa.Sb
open Go.RowKit
set_option linter.unusedSimpArgs false
set_option linter.unusedVariables false

theorem heap_newB {X : World} {ob : Obj} {k : Nat} (h : X.heap.size = k) : (X.alloc ob).heap[k]? = some ob := by
  subst h; exact heap_alloc_new X ob
/-- a term's box -/
abbrev CellsT4 (W : World) (B : Nat) (so sh sn : Int) (sv : Value) : Prop :=
  W.cell? ⟨B, 0, none⟩ = some (.int .i64 so) ∧ W.cell? ⟨B, 1, none⟩ = some (.int .i64 sh) ∧ W.cell? ⟨B, 2, none⟩ = some (.int .i64 sn) ∧ W.cell? ⟨B, 3, none⟩ = some sv
theorem cellsT4_below {W W' : World} {B : Nat} {so sh sn : Int} {sv : Value} (hb : Below W.heap.size W W') (x : CellsT4 W B so sh sn sv) : CellsT4 W' B so sh sn sv := by
  obtain ⟨x1, x2, x3, x4⟩ := x
  exact ⟨kept_cell hb x1, kept_cell hb x2, kept_cell hb x3, kept_cell hb x4⟩
theorem cellsT4_four {W : World} {B k : Nat} {so sh sn : Int} {sv a b c d : Value} (h : B ≠ k) (x : CellsT4 W B so sh sn sv) : CellsT4 ((((W.setCell ⟨k, 0, none⟩ a).setCell ⟨k, 1, none⟩ b).setCell ⟨k, 2, none⟩ c).setCell ⟨k, 3, none⟩ d) B so sh sn sv := by
  have go : ∀ j u, W.cell? ⟨B, j, none⟩ = some u → ((((W.setCell ⟨k, 0, none⟩ a).setCell ⟨k, 1, none⟩ b).setCell ⟨k, 2, none⟩ c).setCell ⟨k, 3, none⟩ d).cell? ⟨B, j, none⟩ = some u := fun j u e => by rw [World.cell?_of_block (w := W) (set4_other a b c d h)]; exact e
  obtain ⟨x1, x2, x3, x4⟩ := x
  exact ⟨go _ _ x1, go _ _ x2, go _ _ x3, go _ _ x4⟩

set_option maxHeartbeats 16000000 in
set_option maxRecDepth 100000 in
theorem substInstances_walk (t : Tm) (v vl : Value) (l : List Tm) (w : World) (hv : Lies w (fun _ => True) v t.args) (hl : Lies w (fun _ => True) vl l) (ft : t.fit) (hlen : l.length ≤ 1048576) :
    Calls Try.prog 6 #[.agg #[.int .i64 t.op, .int .i64 t.hd, .int .i64 t.n, v], vl] w fun e w' => e = .returned (.bool true) ∧ Below w.heap.size w w' := by
  obtain ⟨a2, n2, m2, rfl⟩ := hv.isSlice
  obtain ⟨ad, bb, off, len, cap, oo, hh, kk, sv, ts, rfl, R⟩ := hl.open
  rw [R.length] at hlen
  obtain ⟨i0, hi0, hz0, hz1, hz2⟩ := info_parts tm_info
  have HI0 := Lib.hid hi0
  have HZ0 := Lib.hid hz0
  have HR := Lib.hid R
  have h2 := heap_alloc_new w (.cells #[.int .i64 t.op, .int .i64 t.hd, .int .i64 t.n, .slice a2 n2 m2] 24)
  have B1 := one_below w (.cells #[.int .i64 t.op, .int .i64 t.hd, .int .i64 t.n, .slice a2 n2 m2] 24)
  have hs8 : w.heap.size + 1 ≤ (w.alloc (.cells #[.int .i64 t.op, .int .i64 t.hd, .int .i64 t.n, .slice a2 n2 m2] 24)).heap.size := by simp
  generalize hw0 : w.alloc (.cells #[.int .i64 t.op, .int .i64 t.hd, .int .i64 t.n, .slice a2 n2 m2] 24) = w0 at h2 B1 hs8
  have hdr : Below w0.heap.size w0 w0.drew := (Below.refl _ _).drew
  have hx00 : CellsT4 w0 w.heap.size t.op t.hd t.n (.slice a2 n2 m2) := c4_of h2
  have hx0 := cellsT4_below hdr hx00
  have H2 := Lib.hid h2
  have cr := fun (wx : World) (hb : Below w.heap.size w wx) => instRF_any t l (.slice a2 n2 m2) (.slice ad len cap) wx (hv.keep hb) (hl.keep hb)
  have cz0 := fun (vd : Value) (wx : World) (hb : Below w0.heap.size w0 wx) (hd : Lies wx (fun _ => True) vd l) => instF_any t l (.slice a2 n2 m2) vd wx (hv.keep (below_next B1 hb)) hd ft
  generalize instOut t l = r at cr cz0
  obtain ⟨T, er⟩ := r
  have cz : ∀ (vd : Value) (wx : World), Below w0.heap.size w0 wx → Lies wx (fun _ => True) vd l → Calls Try.prog 23 #[.agg #[.int .i64 t.op, .int .i64 t.hd, .int .i64 t.n, .slice a2 n2 m2], vd] wx fun e w10 => ∃ a10 n10 m10, e = .returned (.tuple #[.agg #[.int .i64 T.op, .int .i64 T.hd, .int .i64 T.n, .slice a10 n10 m10], .int .i64 er]) ∧ Below wx.heap.size wx w10 ∧ Lies w10 (wx.heap.size ≤ ·) (.slice a10 n10 m10) T.args := fun vd wx hb hd =>
    (cz0 vd wx hb hd).mono fun e w10 ⟨v, he, hb, L⟩ => by
      obtain ⟨a10, n10, m10, rfl⟩ := L.isSlice
      exact ⟨a10, n10, m10, he, hb, L⟩
  have HNA : Hid (w.heap.size ≠ w0.heap.size ∧ w.heap.size ≠ w0.heap.size + 1) := Lib.hid (by omega)
  clear h2 hv hl R hi0 hz0 cz0 ft
  go_enter Try.func6, Try.ntmps6
  go_upto_region 1 with fail
  clear hw0
  go_cut [5, 6] (fun p e wx => ∃ B b n m, p = .pointer (some ⟨B, 0, none⟩) ∧ e = .int .i64 er ∧ wx.heap[B]? = some (.cells #[.int .i64 T.op, .int .i64 T.hd, .int .i64 T.n, .slice b n m] 24 (0, 0)) ∧ Lies wx (fun _ => True) (.slice b n m) T.args ∧ Below w0.heap.size w0 wx)
  case first =>
    go_region_held3 (fun W => CellsT4 W w.heap.size t.op t.hd t.n (.slice a2 n2 m2))
      (first | (with_reducible exact hx0) | (with_reducible exact cellsT4_below (one_below _ _) hx0) | (with_reducible exact cellsT4_below (one_below _ _) (cellsT4_below (one_below _ _) hx0)) | (with_reducible exact cellsT4_below hd9 hx00) | (with_reducible exact cellsT4_below (one_below _ _) (cellsT4_below hd9 hx00)) | (with_reducible exact cellsT4_below hd10 hx00) | (with_reducible exact cellsT4_below (one_below _ _) (cellsT4_below hd10 hx00)) | (with_reducible exact cellsT4_four HN9.out (cellsT4_below hd10 hx00)) | (with_reducible exact cellsT4_four HNA.out.1 (cellsT4_below hd10 hx00)) | (with_reducible exact cellsT4_four HNA.out.2 (cellsT4_below hd10 hx00)) | fail)
      (first | (go_at_call 23; (with_reducible refine (cz _ _ ?_ ?_).mono ?_); (first | exact hd9 | exact hd9.alloc hd9.size _); (first | exact hL9 | exact hL9.keep (one_below _ _)); rintro e w10 ⟨a10, n10, m10, rfl, hb10, hx10⟩; have hd10 : Below w0.heap.size w0 w10 := (by first | exact hd9.trans (hb10.mono hd9.size) | exact (hd9.alloc hd9.size _).trans (hb10.mono (hd9.alloc hd9.size _).size)); (first | (have hzz := Lib.hid (heap_kept hb10 (heap_alloc_new w9 (.cells #[.int .i64 0, .int .i64 0, .int .i64 0, .slice none 0 0] 24))); have HN9 : Hid (w.heap.size ≠ w9.heap.size) := Lib.hid (by have := hd9.size; omega); obtain ⟨y0, y1, y2, y3⟩ := c4_of hzz.out; have f0 := free_in hzz.out 0; have f1 := free_in hzz.out 1; have f2 := free_in hzz.out 2; have f3 := free_in hzz.out 3) | (have hzz := Lib.hid (heap_kept hb10 hz9.out);  obtain ⟨y0, y1, y2, y3⟩ := c4_of hzz.out; have f0 := free_in hzz.out 0; have f1 := free_in hzz.out 1; have f2 := free_in hzz.out 2; have f3 := free_in hzz.out 3) | skip)) | (refine step_append_any (by rfl) _ _ _ (by rfl) w0.heap.size 24 i0 _ 4 48 Try.underlying22 HI0.out HZ0.out hz1 hz2 rfl (by omega) (w0.heap.size) 0 0 [] (by rfl) (own_empty (heap_alloc_new w0.drew _) (Nat.le_refl _)) ad len cap (rowCells l sv len) (by rfl) HR.out.cellsLen HR.out.noAddr (HR.out.newsOf (below_next B1 (hdr.alloc hdr.size (.cells #[] 24)))) HR.out.ones (by unfold maxLen; omega) (by omega) ((hdr.alloc hdr.size (.cells #[] 24))).size ?_; intro g cap3 w9 hown9 hgrow9 hat9 hlt9; have hd9 : Below w0.heap.size w0 w9 := ((hdr.alloc hdr.size (.cells #[] 24))).grown hgrow9 ((hdr.alloc hdr.size (.cells #[] 24))).size (fun k hk => by cases hk; omega); have hL9 := HR.out.copied hown9 (below_next B1 hd9)) | (refine step_append_any (by rfl) _ _ _ (by rfl) w0.heap.size 24 i0 _ 4 48 Try.underlying22 HI0.out HZ0.out hz1 hz2 rfl (by omega) (w0.heap.size + 1) 0 0 [] (by rfl) (own_empty (heap_newB (X := w0.drew.alloc (.cells #[.int .i64 0, .int .i64 0, .int .i64 0, .slice none 0 0] 24)) (ob := .cells #[] 24) (by simp)) (Nat.le_succ _)) ad len cap (rowCells l sv len) (by rfl) HR.out.cellsLen HR.out.noAddr (HR.out.newsOf (below_next B1 ((hdr.alloc hdr.size (.cells #[.int .i64 0, .int .i64 0, .int .i64 0, .slice none 0 0] 24)).alloc (hdr.alloc hdr.size _).size (.cells #[] 24)))) HR.out.ones (by unfold maxLen; omega) (by omega) (((hdr.alloc hdr.size (.cells #[.int .i64 0, .int .i64 0, .int .i64 0, .slice none 0 0] 24)).alloc (hdr.alloc hdr.size _).size (.cells #[] 24))).size ?_; intro g cap3 w9 hown9 hgrow9 hat9 hlt9; have hd9 : Below w0.heap.size w0 w9 := (((hdr.alloc hdr.size (.cells #[.int .i64 0, .int .i64 0, .int .i64 0, .slice none 0 0] 24)).alloc (hdr.alloc hdr.size _).size (.cells #[] 24))).grown hgrow9 (((hdr.alloc hdr.size (.cells #[.int .i64 0, .int .i64 0, .int .i64 0, .slice none 0 0] 24)).alloc (hdr.alloc hdr.size _).size (.cells #[] 24))).size (fun k hk => by cases hk; omega); have hL9 := HR.out.copied hown9 (below_next B1 hd9); have hz9 := Lib.hid (show w9.heap[w0.heap.size]? = _ from (hgrow9.block w0.heap.size (by simp <;> omega) (by simp)).trans (heap_kept (one_below _ _) (heap_alloc_new w0.drew (.cells #[.int .i64 0, .int .i64 0, .int .i64 0, .slice none 0 0] 24))))) | (refine step_append_any (by rfl) _ _ _ (by rfl) w0.heap.size 24 i0 _ 4 48 Try.underlying22 HI0.out HZ0.out hz1 hz2 rfl (by omega) (w0.heap.size) 0 0 [] (by rfl) (own_empty (heap_kept (one_below _ _) (heap_alloc_new w0.drew (.cells #[] 24))) (Nat.le_refl _)) ad len cap (rowCells l sv len) (by rfl) HR.out.cellsLen HR.out.noAddr (HR.out.newsOf (below_next B1 ((hdr.alloc hdr.size (.cells #[] 24)).alloc (hdr.alloc hdr.size _).size (.cells #[.int .i64 0, .int .i64 0, .int .i64 0, .slice none 0 0] 24)))) HR.out.ones (by unfold maxLen; omega) (by omega) (((hdr.alloc hdr.size (.cells #[] 24)).alloc (hdr.alloc hdr.size _).size (.cells #[.int .i64 0, .int .i64 0, .int .i64 0, .slice none 0 0] 24))).size ?_; intro g cap3 w9 hown9 hgrow9 hat9 hlt9; have hd9 : Below w0.heap.size w0 w9 := (((hdr.alloc hdr.size (.cells #[] 24)).alloc (hdr.alloc hdr.size _).size (.cells #[.int .i64 0, .int .i64 0, .int .i64 0, .slice none 0 0] 24))).grown hgrow9 (((hdr.alloc hdr.size (.cells #[] 24)).alloc (hdr.alloc hdr.size _).size (.cells #[.int .i64 0, .int .i64 0, .int .i64 0, .slice none 0 0] 24))).size (fun k hk => by cases hk; omega); have hL9 := HR.out.copied hown9 (below_next B1 hd9); have hz9 := Lib.hid (show w9.heap[w0.heap.size + 1]? = _ from (hgrow9.block (w0.heap.size + 1) (by simp <;> omega) (by simp)).trans (heap_newB (X := w0.drew.alloc (.cells #[] 24)) (ob := .cells #[.int .i64 0, .int .i64 0, .int .i64 0, .slice none 0 0] 24) (by simp)))))
    all_goals
      go_wp2_with fail
      go_meet
      case rel =>
        first
          | exact ⟨_, _, _, _, rfl, rfl, heap_alloc_new w10 _, (hx10.keep (one_below _ _)).more fun _ _ _ => trivial, below_next hd10 (one_below _ _)⟩
          | (have hs9 := hd9.size; exact ⟨_, _, _, _, rfl, rfl, set4_at hzz.out _ _ _ _, (hx10.still fun b hS _ => set4_other _ _ _ _ (by simp at hS; omega)).more fun _ _ _ => trivial, (((hd10.setCell (by simp <;> omega) _).setCell (by simp <;> omega) _).setCell (by simp <;> omega) _).setCell (by simp <;> omega) _⟩)
          | (have hs9 := hd9.size; have hs10 := lt_blk hz9.out; exact ⟨_, _, _, _, rfl, rfl, set4_at hzz.out _ _ _ _, (hx10.still fun b hS _ => set4_other _ _ _ _ (by have hS' : _ ≤ b := hS; omega)).more fun _ _ _ => trivial, (((hd10.setCell (by simp <;> omega) _).setCell (by simp <;> omega) _).setCell (by simp <;> omega) _).setCell (by simp <;> omega) _⟩)
          | (have hs9 := hd9.size
             have hs10 := lt_blk hz9.out
             refine ⟨_, _, _, _, rfl, rfl, set4_at hzz.out _ _ _ _, ?_, ?_⟩
             · refine (hx10.still fun b hS _ => set4_other _ _ _ _ ?_).more fun _ _ _ => trivial
               have hS' : _ ≤ b := hS
               omega
             · exact (((hd10.setCell (by simp <;> omega) _).setCell (by simp <;> omega) _).setCell (by simp <;> omega) _).setCell (by simp <;> omega) _)
  case rest =>
    obtain ⟨B, ab, nb, mb, rfl, rfl, hB, hL, hBw⟩ := hcut
    have hW := below_next B1 hBw
    have h2x := heap_kept hBw H2.out
    have HL := Lib.hid (And.intro hB (And.intro hL hW))
    obtain ⟨x0, x1, x2, x3⟩ := c4_of h2x
    clear cz hdr hx0 hx00 hB hL hBw hW h2x
    go_wp2_with fail
    refine (cr _ HL.out.2.2).mono ?_
    rintro e w6 ⟨v6, rfl, hb6, L6⟩
    obtain ⟨a6, n6, m6, rfl⟩ := L6.isSlice
    have hba := one_below w6 (.cells #[.int .i64 T.op, .int .i64 T.hd, .int .i64 T.n, .slice a6 n6 m6] 24)
    have z5 := heap_kept hba (heap_kept hb6 HL.out.1)
    have z6 := heap_alloc_new w6 (.cells #[.int .i64 T.op, .int .i64 T.hd, .int .i64 T.n, .slice a6 n6 m6] 24)
    have c7 := gives_any (fun _ => True) (fun _ => True) T T er er (.slice ab nb mb) (.slice a6 n6 m6) _ ((HL.out.2.1.keep hb6).keep hba) (L6.keep hba)
    have hsm : (Tm.same T T && (er == er)) = true := by rw [(Tm.same_iff T T).2 rfl]; simp
    rw [hsm] at c7
    have HA6 := Lib.hid (below_next (below_next HL.out.2.2 hb6) hba)
    clear x0 x1 x2 x3 hb6 L6 hba HL cr hsm
    obtain ⟨x0, x1, x2, x3⟩ := c4_of z5
    obtain ⟨y0, y1, y2, y3⟩ := c4_of z6
    clear z5 z6
    go_wp2_with fail
    refine c7.mono ?_
    rintro e w7 ⟨rfl, hb7⟩
    have HA7 := Lib.hid (below_next HA6.out hb7)
    clear x0 x1 x2 x3 y0 y1 y2 y3 hb7 HA6 c7
    go_wp2_with fail
    refine (awake_any _).mono ?_
    rintro e w9 ⟨rfl, hb9⟩
    go_wp2_with fail
    go_ret
    exact ⟨rfl, below_next HA7.out hb9⟩
end Go.Proofs.Ytjieeoopeoleoaa.Sb
