/- The law SubstManies, walked, for lists of at most 1048576 members. -/
import Derived.Test.YtieakippgeehgaaSbAwake
import Derived.Test.YtieakippgeehgaaSbMnF
import Derived.Test.YtieakippgeehgaaSbMnG
import Derived.Test.YtieakippgeehgaaSmCp0
import Derived.BigRegion
import Derived.ProofKit
namespace Go.Proofs.Ytieakippgeehgaa.Sb
open Go.RowKit
set_option linter.unusedSimpArgs false
set_option linter.unusedVariables false

theorem zz_new {X w10 : World} {ob : Obj} (hb : Below (X.alloc ob).heap.size (X.alloc ob) w10) : w10.heap[X.heap.size]? = some ob ∧ X.heap.size < (X.alloc ob).heap.size :=
  ⟨heap_kept hb (heap_alloc_new _ _), lt_blk (heap_alloc_new X ob)⟩
theorem zz_old {X w10 : World} {ob : Obj} {k : Nat} (h : X.heap[k]? = some ob) (hb : Below X.heap.size X w10) : w10.heap[k]? = some ob ∧ k < X.heap.size :=
  ⟨heap_kept hb h, lt_blk h⟩
/-- a term's box -/
abbrev CellsT4 (W : World) (B : Nat) (so sh sn : Int) (sv : Value) : Prop :=
  W.cell? ⟨B, 0, none⟩ = some (.int .i64 so) ∧ W.cell? ⟨B, 1, none⟩ = some (.int .i64 sh) ∧ W.cell? ⟨B, 2, none⟩ = some (.int .i64 sn) ∧ W.cell? ⟨B, 3, none⟩ = some sv
theorem cellsT4_below {W W' : World} {B : Nat} {so sh sn : Int} {sv : Value} (hb : Below W.heap.size W W') (x : CellsT4 W B so sh sn sv) : CellsT4 W' B so sh sn sv := by
  obtain ⟨x1, x2, x3, x4⟩ := x
  exact ⟨kept_cell hb x1, kept_cell hb x2, kept_cell hb x3, kept_cell hb x4⟩
theorem cellsT4_four {W : World} {B k : Nat} {so sh sn : Int} {sv a b c d : Value} (h : B ≠ k) (x : CellsT4 W B so sh sn sv) : CellsT4 ((((W.setCell ⟨k, 0, none⟩ a).setCell ⟨k, 1, none⟩ b).setCell ⟨k, 2, none⟩ c).setCell ⟨k, 3, none⟩ d) B so sh sn sv := by
  have go : ∀ j u, W.cell? ⟨B, j, none⟩ = some u → ((((W.setCell ⟨k, 0, none⟩ a).setCell ⟨k, 1, none⟩ b).setCell ⟨k, 2, none⟩ c).setCell ⟨k, 3, none⟩ d).cell? ⟨B, j, none⟩ = some u := fun j u e => by rw [World.cell?_of_block (w := W) (set4_other a b c d h)]; exact e
  obtain ⟨x1, x2, x3, x4⟩ := x
  exact ⟨go _ _ x1, go _ _ x2, go _ _ x3, go _ _ x4⟩

set_option maxHeartbeats 64000000 in
set_option maxRecDepth 100000 in
theorem substManies_walk (t : Tm) (v vl vq : Value) (l : List Tm) (Ss : List Sp.Tm) (w : World) (hv : Lies w (fun _ => True) v t.args) (hl : Lies w (fun _ => True) vl l) (hq : Sp.Lies w (fun _ => True) vq Ss) (ft : t.fit) (hlen : l.length ≤ 1048576) (hlen2 : Ss.length ≤ 1048576) :
    Calls Try.prog 7 #[.agg #[.int .i64 t.op, .int .i64 t.hd, .int .i64 t.n, v], vl, vq] w fun e w' => e = .returned (.bool true) ∧ Below w.heap.size w w' := by
  obtain ⟨a2, n2, m2, rfl⟩ := hv.isSlice
  obtain ⟨ad, bb, off, len, cap, oo, hh, kk, sv, ts, rfl, R⟩ := hl.open
  obtain ⟨aq, bq, oq, lenq, capq, kq, sq, tq, rfl, RQ⟩ := hq.open
  rw [R.length] at hlen
  rw [RQ.length] at hlen2
  obtain ⟨i0, hi0, hz0, hz1, hz2⟩ := info_parts tm_info
  have HI0 := Lib.hid hi0
  have HZ0 := Lib.hid hz0
  obtain ⟨i1, hi1, hq0, hq1, hq2⟩ := info_parts Sp.sm_info
  have HI1 := Lib.hid hi1
  have HZ1 := Lib.hid hq0
  have h2 := heap_alloc_new w (.cells #[.int .i64 t.op, .int .i64 t.hd, .int .i64 t.n, .slice a2 n2 m2] 24)
  have B1 := one_below w (.cells #[.int .i64 t.op, .int .i64 t.hd, .int .i64 t.n, .slice a2 n2 m2] 24)
  have hs8 : w.heap.size + 1 ≤ (w.alloc (.cells #[.int .i64 t.op, .int .i64 t.hd, .int .i64 t.n, .slice a2 n2 m2] 24)).heap.size := by simp
  generalize hw0 : w.alloc (.cells #[.int .i64 t.op, .int .i64 t.hd, .int .i64 t.n, .slice a2 n2 m2] 24) = w0 at h2 B1 hs8
  have HR : Hid (RowAt w0 (fun _ => True) ad bb off len cap oo hh kk sv ts l) := Lib.hid (R.still fun b _ hlt => B1.block b hlt)
  have HRQ : Hid (Sp.RowAt w0 (fun _ => True) aq bq oq lenq capq kq sq tq Ss) := Lib.hid (RQ.still fun b _ hlt => B1.block b hlt)
  have hdr : Below w0.heap.size w0 w0.drew := (Below.refl _ _).drew
  have hx00 : CellsT4 w0 w.heap.size t.op t.hd t.n (.slice a2 n2 m2) := c4_of h2
  have hx0 := cellsT4_below hdr hx00
  have H2 := Lib.hid h2
  have cr := fun (wx : World) (hb : Below w.heap.size w wx) => manyRF_any t l Ss (.slice a2 n2 m2) (.slice ad len cap) (.slice aq lenq capq) wx (hv.keep hb) (hl.keep hb) (hq.keep hb)
  have cz0 := fun (vd ve : Value) (wx : World) (hb : Below w0.heap.size w0 wx) (hd : Lies wx (fun _ => True) vd l) (he : Sp.Lies wx (fun _ => True) ve Ss) => manyF_any t l Ss (.slice a2 n2 m2) vd ve wx (hv.keep (below_next B1 hb)) hd he ft
  generalize manyOut t l Ss = r at cr cz0
  obtain ⟨T, er⟩ := r
  have cz : ∀ (vd ve : Value) (wx : World), Below w0.heap.size w0 wx → Lies wx (fun _ => True) vd l → Sp.Lies wx (fun _ => True) ve Ss → Calls Try.prog 25 #[.agg #[.int .i64 t.op, .int .i64 t.hd, .int .i64 t.n, .slice a2 n2 m2], vd, ve] wx fun e w10 => ∃ a10 n10 m10, e = .returned (.tuple #[.agg #[.int .i64 T.op, .int .i64 T.hd, .int .i64 T.n, .slice a10 n10 m10], .int .i64 er]) ∧ Below wx.heap.size wx w10 ∧ Lies w10 (wx.heap.size ≤ ·) (.slice a10 n10 m10) T.args := fun vd ve wx hb hd he =>
    (cz0 vd ve wx hb hd he).mono fun e w10 ⟨v, he, hb, L⟩ => by
      obtain ⟨a10, n10, m10, rfl⟩ := L.isSlice
      exact ⟨a10, n10, m10, he, hb, L⟩
  have HS8 := Lib.hid hs8
  clear h2 hv hl hq R RQ hi0 hz0 hi1 hq0 cz0 ft hs8
  go_enter Try.func7, Try.ntmps7
  go_upto_region 1 with fail
  clear hw0
  go_cut [7, 8] (fun p e wx => ∃ B b n m, p = .pointer (some ⟨B, 0, none⟩) ∧ e = .int .i64 er ∧ wx.heap[B]? = some (.cells #[.int .i64 T.op, .int .i64 T.hd, .int .i64 T.n, .slice b n m] 24 (0, 0)) ∧ Lies wx (fun _ => True) (.slice b n m) T.args ∧ Below w0.heap.size w0 wx)
  case first =>
    go_region_held3 (fun W => CellsT4 W w.heap.size t.op t.hd t.n (.slice a2 n2 m2))
      (first | (with_reducible exact hx0) | (with_reducible exact hcn) | (with_reducible exact cellsT4_below (one_below _ _) (by assumption)) | (refine cellsT4_four ?_ hcn; (have h1 := HS8.out; (try have h2 := HS9.out); (try have h3 := HS11.out); omega)) | fail)
      (first | (refine step_copy (by rfl) _ _ (by rfl) i0 _ HI0.out HZ0.out hz1 hz2 rfl _ (by rfl) (by rfl) HR.out ?_ hlen ?_; (focus (repeat (first | (with_reducible assumption) | (with_reducible exact Below.refl _ _) | (with_reducible refine Below.drew ?_) | (with_reducible refine below_next ?_ (one_below _ _))))); intro g9 cap9 w9 hb9 hd9 hL9; (first | (have hzz := Lib.hid (heap_kept hb9 hzz.out)) | (have hzz := Lib.hid (heap_kept hb9 (heap_kept (one_below _ _) hzz.out))) | (have hzz := heap_kept hb9 (heap_alloc_new _ (.cells #[.int .i64 0, .int .i64 0, .int .i64 0, .slice none 0 0] 24)); (try simp only [World.size_alloc, World.size_drew] at hzz); have hzz := Lib.hid hzz) | (have hzz := heap_kept hb9 (heap_kept (one_below _ _) (heap_alloc_new _ (.cells #[.int .i64 0, .int .i64 0, .int .i64 0, .slice none 0 0] 24))); (try simp only [World.size_alloc, World.size_drew] at hzz); have hzz := Lib.hid hzz) | (have hzz := heap_kept hb9 (heap_kept (one_below _ _).drew (heap_alloc_new _ (.cells #[.int .i64 0, .int .i64 0, .int .i64 0, .slice none 0 0] 24))); (try simp only [World.size_alloc, World.size_drew] at hzz); have hzz := Lib.hid hzz) | (have hzz := heap_kept hb9 (heap_kept (one_below _ _) (heap_kept (one_below _ _) (heap_alloc_new _ (.cells #[.int .i64 0, .int .i64 0, .int .i64 0, .slice none 0 0] 24)))); (try simp only [World.size_alloc, World.size_drew] at hzz); have hzz := Lib.hid hzz) | (have hzz := heap_kept hb9 (heap_kept (one_below _ _).drew (heap_kept (one_below _ _) (heap_alloc_new _ (.cells #[.int .i64 0, .int .i64 0, .int .i64 0, .slice none 0 0] 24)))); (try simp only [World.size_alloc, World.size_drew] at hzz); have hzz := Lib.hid hzz) | skip); (first | (have hL11 := hL11.keep hb9) | (have hL11 := (hL11.keep (one_below _ _)).keep hb9) | (have hL11 := ((hL11.keep (one_below _ _)).keep (one_below _ _)).keep hb9) | skip); have hcn := cellsT4_below hd9 hx00; have HS9 := Lib.hid hd9.size) | (refine Sp.step_copy (by rfl) _ _ (by rfl) i1 _ HI1.out HZ1.out hq1 hq2 rfl _ (by rfl) (by rfl) HRQ.out ?_ hlen2 ?_; (focus (repeat (first | (with_reducible assumption) | (with_reducible exact Below.refl _ _) | (with_reducible refine Below.drew ?_) | (with_reducible refine below_next ?_ (one_below _ _))))); intro g11 cap11 w11 hb11 hd11 hL11; (first | (have hzz := Lib.hid (heap_kept hb11 hzz.out)) | (have hzz := Lib.hid (heap_kept hb11 (heap_kept (one_below _ _) hzz.out))) | (have hzz := heap_kept hb11 (heap_alloc_new _ (.cells #[.int .i64 0, .int .i64 0, .int .i64 0, .slice none 0 0] 24)); (try simp only [World.size_alloc, World.size_drew] at hzz); have hzz := Lib.hid hzz) | (have hzz := heap_kept hb11 (heap_kept (one_below _ _) (heap_alloc_new _ (.cells #[.int .i64 0, .int .i64 0, .int .i64 0, .slice none 0 0] 24))); (try simp only [World.size_alloc, World.size_drew] at hzz); have hzz := Lib.hid hzz) | (have hzz := heap_kept hb11 (heap_kept (one_below _ _).drew (heap_alloc_new _ (.cells #[.int .i64 0, .int .i64 0, .int .i64 0, .slice none 0 0] 24))); (try simp only [World.size_alloc, World.size_drew] at hzz); have hzz := Lib.hid hzz) | (have hzz := heap_kept hb11 (heap_kept (one_below _ _) (heap_kept (one_below _ _) (heap_alloc_new _ (.cells #[.int .i64 0, .int .i64 0, .int .i64 0, .slice none 0 0] 24)))); (try simp only [World.size_alloc, World.size_drew] at hzz); have hzz := Lib.hid hzz) | (have hzz := heap_kept hb11 (heap_kept (one_below _ _).drew (heap_kept (one_below _ _) (heap_alloc_new _ (.cells #[.int .i64 0, .int .i64 0, .int .i64 0, .slice none 0 0] 24)))); (try simp only [World.size_alloc, World.size_drew] at hzz); have hzz := Lib.hid hzz) | skip); (first | (have hL9 := hL9.keep hb11) | (have hL9 := (hL9.keep (one_below _ _)).keep hb11) | (have hL9 := ((hL9.keep (one_below _ _)).keep (one_below _ _)).keep hb11) | skip); have hcn := cellsT4_below hd11 hx00; have HS11 := Lib.hid hd11.size) | (go_at_call 25; (with_reducible refine (cz _ _ _ ?_ ?_ ?_).mono ?_); (focus (repeat (first | (with_reducible assumption) | (with_reducible exact Below.refl _ _) | (with_reducible refine Below.drew ?_) | (with_reducible refine below_next ?_ (one_below _ _))))); (first | exact hL9 | exact hL9.keep (one_below _ _)); (first | exact hL11 | exact hL11.keep (one_below _ _)); rintro e w10 ⟨a10, n10, m10, rfl, hb10, hx10⟩; have hd10 : Below w0.heap.size w0 w10 := below_next (by (focus (repeat (first | (with_reducible assumption) | (with_reducible exact Below.refl _ _) | (with_reducible refine Below.drew ?_) | (with_reducible refine below_next ?_ (one_below _ _)))))) hb10; have hcn := cellsT4_below hd10 hx00; (first | (have hz11 := zz_old hzz.out hb10; have hz10 := Lib.hid hz11.1; have hl10 := Lib.hid hz11.2; clear hz11; obtain ⟨y0, y1, y2, y3⟩ := c4_of hz10.out; have f0 := free_in hz10.out 0; have f1 := free_in hz10.out 1; have f2 := free_in hz10.out 2; have f3 := free_in hz10.out 3) | (have hz11 := zz_new hb10; have hz10 := Lib.hid hz11.1; have hl10 := Lib.hid hz11.2; clear hz11; obtain ⟨y0, y1, y2, y3⟩ := c4_of hz10.out; have f0 := free_in hz10.out 0; have f1 := free_in hz10.out 1; have f2 := free_in hz10.out 2; have f3 := free_in hz10.out 3) | skip)) | fail)
    all_goals
      go_wp2_with fail
      go_meet
      case rel =>
        first
          | exact ⟨_, _, _, _, rfl, rfl, heap_alloc_new w10 _, (hx10.keep (one_below _ _)).more fun _ _ _ => trivial, below_next hd10 (one_below _ _)⟩
          | (have hs9 := HS9.out
             have hs11 := HS11.out
             have hl := hl10.out
             refine ⟨_, _, _, _, rfl, rfl, set4_at hz10.out _ _ _ _, ?_, ?_⟩
             · refine (hx10.still fun b hS _ => set4_other _ _ _ _ ?_).more fun _ _ _ => trivial
               have hS' : _ ≤ b := hS
               omega
             · exact (((hd10.setCell (by simp <;> omega) _).setCell (by simp <;> omega) _).setCell (by simp <;> omega) _).setCell (by simp <;> omega) _)
  case rest =>
    obtain ⟨B, ab, nb, mb, rfl, rfl, hB, hL, hBw⟩ := hcut
    have hW := below_next B1 hBw
    have h2x := heap_kept hBw H2.out
    have HL := Lib.hid (And.intro hB (And.intro hL hW))
    obtain ⟨x0, x1, x2, x3⟩ := c4_of h2x
    clear cz hdr hx0 hx00 hB hL hBw hW h2x
    go_wp2_with fail
    refine (cr _ HL.out.2.2).mono ?_
    rintro e w6 ⟨v6, rfl, hb6, L6⟩
    obtain ⟨a6, n6, m6, rfl⟩ := L6.isSlice
    have hba := one_below w6 (.cells #[.int .i64 T.op, .int .i64 T.hd, .int .i64 T.n, .slice a6 n6 m6] 24)
    have z5 := heap_kept hba (heap_kept hb6 HL.out.1)
    have z6 := heap_alloc_new w6 (.cells #[.int .i64 T.op, .int .i64 T.hd, .int .i64 T.n, .slice a6 n6 m6] 24)
    have c7 := gives_any (fun _ => True) (fun _ => True) T T er er (.slice ab nb mb) (.slice a6 n6 m6) _ ((HL.out.2.1.keep hb6).keep hba) (L6.keep hba)
    have hsm : (Tm.same T T && (er == er)) = true := by rw [(Tm.same_iff T T).2 rfl]; simp
    rw [hsm] at c7
    have HA6 := Lib.hid (below_next (below_next HL.out.2.2 hb6) hba)
    clear x0 x1 x2 x3 hb6 L6 hba HL cr hsm
    obtain ⟨x0, x1, x2, x3⟩ := c4_of z5
    obtain ⟨y0, y1, y2, y3⟩ := c4_of z6
    clear z5 z6
    go_wp2_with fail
    refine c7.mono ?_
    rintro e w7 ⟨rfl, hb7⟩
    have HA7 := Lib.hid (below_next HA6.out hb7)
    clear x0 x1 x2 x3 y0 y1 y2 y3 hb7 HA6 c7
    go_wp2_with fail
    refine (awake_any _).mono ?_
    rintro e w9 ⟨rfl, hb9⟩
    go_wp2_with fail
    go_ret
    exact ⟨rfl, below_next HA7.out hb9⟩
end Go.Proofs.Ytieakippgeehgaa.Sb
