/- The walk of the law TermSame. -/
import Derived.Test.YtnooeaefldklaaaTmOrdC
import Derived.Test.YtnooeaefldklaaaSmSameT
import Derived.Test.YtnooeaefldklaaaTmAwake
namespace Go.Proofs.Ytnooeaefldklaaa
open Go.RowKit
set_option linter.unusedSimpArgs false
set_option linter.unusedVariables false

abbrev CellsF (W : World) (A B C D : Nat) (a b : Tm) (va vb vs vt : Value) (s t : Int) : Prop :=
  W.cell? ⟨A, 0, none⟩ = some (.int .i64 a.op) ∧ W.cell? ⟨A, 1, none⟩ = some (.int .i64 a.hd) ∧ W.cell? ⟨A, 2, none⟩ = some (.int .i64 a.n) ∧ W.cell? ⟨A, 3, none⟩ = some va ∧
  W.cell? ⟨B, 0, none⟩ = some (.int .i64 b.op) ∧ W.cell? ⟨B, 1, none⟩ = some (.int .i64 b.hd) ∧ W.cell? ⟨B, 2, none⟩ = some (.int .i64 b.n) ∧ W.cell? ⟨B, 3, none⟩ = some vb ∧
  W.cell? ⟨C, 0, none⟩ = some vs ∧ W.cell? ⟨C, 1, none⟩ = some (.int .i64 s) ∧ W.cell? ⟨D, 0, none⟩ = some vt ∧ W.cell? ⟨D, 1, none⟩ = some (.int .i64 t)
theorem cellsF_below {W W' : World} {A B C D : Nat} {a b : Tm} {va vb vs vt : Value} {s t : Int} (hb : Below W.heap.size W W') (x : CellsF W A B C D a b va vb vs vt s t) : CellsF W' A B C D a b va vb vs vt s t := by
  obtain ⟨x1, x2, x3, x4, x5, x6, x7, x8, x9, x10, x11, x12⟩ := x
  exact ⟨kept_cell hb x1, kept_cell hb x2, kept_cell hb x3, kept_cell hb x4, kept_cell hb x5, kept_cell hb x6, kept_cell hb x7, kept_cell hb x8, kept_cell hb x9, kept_cell hb x10, kept_cell hb x11, kept_cell hb x12⟩

abbrev CellsB (W : World) (A : Nat) (a b : Tm) (va vb vs vt : Value) (s t : Int) : Prop :=
  W.cell? ⟨A, 0, none⟩ = some (.int .i64 a.op) ∧ W.cell? ⟨A, 1, none⟩ = some (.int .i64 a.hd) ∧ W.cell? ⟨A, 2, none⟩ = some (.int .i64 a.n) ∧ W.cell? ⟨A, 3, none⟩ = some va ∧
  W.cell? ⟨A, 4, none⟩ = some (.int .i64 b.op) ∧ W.cell? ⟨A, 5, none⟩ = some (.int .i64 b.hd) ∧ W.cell? ⟨A, 6, none⟩ = some (.int .i64 b.n) ∧ W.cell? ⟨A, 7, none⟩ = some vb ∧
  W.cell? ⟨A, 8, none⟩ = some vs ∧ W.cell? ⟨A, 9, none⟩ = some (.int .i64 s) ∧ W.cell? ⟨A, 10, none⟩ = some vt ∧ W.cell? ⟨A, 11, none⟩ = some (.int .i64 t)
theorem cellsB_below {W W' : World} {A : Nat} {a b : Tm} {va vb vs vt : Value} {s t : Int} (hb : Below W.heap.size W W') (x : CellsB W A a b va vb vs vt s t) : CellsB W' A a b va vb vs vt s t := by
  obtain ⟨x1, x2, x3, x4, x5, x6, x7, x8, x9, x10, x11, x12⟩ := x
  exact ⟨kept_cell hb x1, kept_cell hb x2, kept_cell hb x3, kept_cell hb x4, kept_cell hb x5, kept_cell hb x6, kept_cell hb x7, kept_cell hb x8, kept_cell hb x9, kept_cell hb x10, kept_cell hb x11, kept_cell hb x12⟩
theorem three_below (w : World) (p q r : Obj) : Below w.heap.size w (((w.alloc p).alloc q).alloc r) := below_next (two_below w p q) (one_below _ r)
theorem four_below (w : World) (p q r s : Obj) : Below w.heap.size w ((((w.alloc p).alloc q).alloc r).alloc s) := below_next (three_below w p q r) (one_below _ s)

/-- the four variables of the law, in blocks of their own -/
structure FourVar (w wx : World) (A B C D : Nat) (a b : Tm) (va vb vs vt : Value) (s t : Int) : Prop where
  below : Below w.heap.size w wx
  ha : wx.heap[A]? = some (.cells #[.int .i64 a.op, .int .i64 a.hd, .int .i64 a.n, va] 24 (0, 0))
  hb : wx.heap[B]? = some (.cells #[.int .i64 b.op, .int .i64 b.hd, .int .i64 b.n, vb] 24 (0, 0))
  hc : wx.heap[C]? = some (.cells #[vs, .int .i64 s] 60 (0, 0))
  hd : wx.heap[D]? = some (.cells #[vt, .int .i64 t] 60 (0, 0))

set_option maxHeartbeats 2000000 in
set_option maxRecDepth 100000 in
theorem termSame_walk (a b : Tm) (va vb vs vt : Value) (s t : Int) (ls lt : List Sp.Tm) (w : World) (hva : Lies w (fun _ => True) va a.args) (hvb : Lies w (fun _ => True) vb b.args) (hvs : Sp.Lies w (fun _ => True) vs ls) (hvt : Sp.Lies w (fun _ => True) vt lt)
    (hfa : a.fit) (hfb : b.fit) (hfs : (Sp.Tm.mk s ls).fit) (hft : (Sp.Tm.mk t lt).fit) (hza : Tm.sz a ≤ 4194304) (hzb : Tm.sz b ≤ 4194304) (hzs : Sp.Tm.sz (.mk s ls) ≤ 4194304) (hzt : Sp.Tm.sz (.mk t lt) ≤ 4194304) :
    Calls Try.prog 8 #[.agg #[.int .i64 a.op, .int .i64 a.hd, .int .i64 a.n, va, .int .i64 b.op, .int .i64 b.hd, .int .i64 b.n, vb, vs, .int .i64 s, vt, .int .i64 t]] w
      fun e w' => e = .returned (.bool true) ∧ Below w.heap.size w w' := by
  obtain ⟨a1, n1, m1, rfl⟩ := hva.isSlice
  obtain ⟨a2, n2, m2, rfl⟩ := hvb.isSlice
  obtain ⟨a3, n3, m3, rfl⟩ := hvs.isSlice
  obtain ⟨a4, n4, m4, rfl⟩ := hvt.isSlice
  have cAB : ∀ w1, Below w.heap.size w w1 → Calls Try.prog 43 #[.agg #[.int .i64 a.op, .int .i64 a.hd, .int .i64 a.n, .slice a1 n1 m1], .agg #[.int .i64 b.op, .int .i64 b.hd, .int .i64 b.n, .slice a2 n2 m2]] w1 fun e w' => e = .returned (.bool (Tm.same a b)) ∧ Below w1.heap.size w1 w' := fun w1 h => by
    have := sameT_any a.op a.hd a.n b.op b.hd b.n _ _ a.args b.args w1 (hva.keep h) (hvb.keep h) (by rw [Tm.eta]; exact hfa) (by rw [Tm.eta]; exact hfb) (by rw [Tm.eta]; exact hza)
    rwa [Tm.eta, Tm.eta] at this
  have cBA : ∀ w1, Below w.heap.size w w1 → Calls Try.prog 43 #[.agg #[.int .i64 b.op, .int .i64 b.hd, .int .i64 b.n, .slice a2 n2 m2], .agg #[.int .i64 a.op, .int .i64 a.hd, .int .i64 a.n, .slice a1 n1 m1]] w1 fun e w' => e = .returned (.bool (Tm.same a b)) ∧ Below w1.heap.size w1 w' := fun w1 h => by
    have := sameT_any b.op b.hd b.n a.op a.hd a.n _ _ b.args a.args w1 (hvb.keep h) (hva.keep h) (by rw [Tm.eta]; exact hfb) (by rw [Tm.eta]; exact hfa) (by rw [Tm.eta]; exact hzb)
    rw [Tm.eta, Tm.eta] at this
    have e : Tm.same b a = Tm.same a b := by rw [Bool.eq_iff_iff, Tm.same_iff, Tm.same_iff]; exact eq_comm
    rwa [e] at this
  have cAA : ∀ w1, Below w.heap.size w w1 → Calls Try.prog 43 #[.agg #[.int .i64 a.op, .int .i64 a.hd, .int .i64 a.n, .slice a1 n1 m1], .agg #[.int .i64 a.op, .int .i64 a.hd, .int .i64 a.n, .slice a1 n1 m1]] w1 fun e w' => e = .returned (.bool true) ∧ Below w1.heap.size w1 w' := fun w1 h =>
    same_t a _ _ w1 (hva.keep h) (hva.keep h) hfa hza
  have rAB : ∀ w1, Below w.heap.size w w1 → Calls Try.prog 36 #[.agg #[.int .i64 a.op, .int .i64 a.hd, .int .i64 a.n, .slice a1 n1 m1], .agg #[.int .i64 b.op, .int .i64 b.hd, .int .i64 b.n, .slice a2 n2 m2]] w1 fun e w' => e = .returned (.bool (Tm.same a b)) ∧ Below w1.heap.size w1 w' := fun w1 h => by
    have := same_any (fun _ => True) (fun _ => True) a.op a.hd a.n b.op b.hd b.n _ _ a.args b.args w1 (hva.keep h) (hvb.keep h)
    rwa [Tm.eta, Tm.eta] at this
  have cST : ∀ w1, Below w.heap.size w w1 → Calls Try.prog 42 #[.agg #[.slice a3 n3 m3, .int .i64 s], .agg #[.slice a4 n4 m4, .int .i64 t]] w1 fun e w' => e = .returned (.bool (Sp.Tm.same (.mk s ls) (.mk t lt))) ∧ Below w1.heap.size w1 w' := fun w1 h =>
    Sp.sameS_any s t _ _ ls lt w1 (hvs.keep h) (hvt.keep h) hfs hft hzs
  have cTT : ∀ w1, Below w.heap.size w w1 → Calls Try.prog 42 #[.agg #[.slice a4 n4 m4, .int .i64 t], .agg #[.slice a4 n4 m4, .int .i64 t]] w1 fun e w' => e = .returned (.bool true) ∧ Below w1.heap.size w1 w' := fun w1 h => by
    have := Sp.sameS_any t t _ _ lt lt w1 (hvt.keep h) (hvt.keep h) hft hft hzt
    rwa [(Sp.Tm.same_iff _ _).2 rfl] at this
  have rST : ∀ w1, Below w.heap.size w w1 → Calls Try.prog 41 #[.agg #[.slice a3 n3 m3, .int .i64 s], .agg #[.slice a4 n4 m4, .int .i64 t]] w1 fun e w' => e = .returned (.bool (Sp.Tm.same (.mk s ls) (.mk t lt))) ∧ Below w1.heap.size w1 w' := fun w1 h =>
    Sp.same_any (fun _ => True) (fun _ => True) s t _ _ ls lt w1 (hvs.keep h) (hvt.keep h)
  obtain ⟨r, hr⟩ : ∃ r, r = Tm.same a b := ⟨_, rfl⟩
  obtain ⟨q, hq⟩ : ∃ r, r = Sp.Tm.same (.mk s ls) (.mk t lt) := ⟨_, rfl⟩
  rw [← hr] at cAB cBA rAB
  rw [← hq] at cST rST
  clear hva hvb hvs hvt hfa hfb hfs hft hza hzb hzs hzt hr hq
  go_enter Try.func8, Try.ntmps8
  go_upto_region 1 with fail
  go_cut [3, 4, 5, 6] (fun p3 p4 p5 p6 wx => ∃ A B C D, p3 = .pointer (some ⟨A, 0, none⟩) ∧ p4 = .pointer (some ⟨B, 0, none⟩) ∧ p5 = .pointer (some ⟨C, 0, none⟩) ∧ p6 = .pointer (some ⟨D, 0, none⟩) ∧ FourVar w wx A B C D a b (.slice a1 n1 m1) (.slice a2 n2 m2) (.slice a3 n3 m3) (.slice a4 n4 m4) s t)
  case first =>
    clear cAB cBA cAA rAB cST cTT rST
    have hb0 := one_below w (.cells #[.int .i64 a.op, .int .i64 a.hd, .int .i64 a.n, .slice a1 n1 m1, .int .i64 b.op, .int .i64 b.hd, .int .i64 b.n, .slice a2 n2 m2, .slice a3 n3 m3, .int .i64 s, .slice a4 n4 m4, .int .i64 t] 67)
    have hn := heap_alloc_new w (.cells #[.int .i64 a.op, .int .i64 a.hd, .int .i64 a.n, .slice a1 n1 m1, .int .i64 b.op, .int .i64 b.hd, .int .i64 b.n, .slice a2 n2 m2, .slice a3 n3 m3, .int .i64 s, .slice a4 n4 m4, .int .i64 t] 67)
    generalize w.alloc (.cells #[.int .i64 a.op, .int .i64 a.hd, .int .i64 a.n, .slice a1 n1 m1, .int .i64 b.op, .int .i64 b.hd, .int .i64 b.n, .slice a2 n2 m2, .slice a3 n3 m3, .int .i64 s, .slice a4 n4 m4, .int .i64 t] 67) = W0 at *
    have hS0 : CellsB W0 w.heap.size a b (.slice a1 n1 m1) (.slice a2 n2 m2) (.slice a3 n3 m3) (.slice a4 n4 m4) s t :=
      ⟨cell_in hn 0 _ rfl, cell_in hn 1 _ rfl, cell_in hn 2 _ rfl, cell_in hn 3 _ rfl, cell_in hn 4 _ rfl, cell_in hn 5 _ rfl, cell_in hn 6 _ rfl, cell_in hn 7 _ rfl, cell_in hn 8 _ rfl, cell_in hn 9 _ rfl, cell_in hn 10 _ rfl, cell_in hn 11 _ rfl⟩
    clear hn
    go_region_held3 (fun W => CellsB W w.heap.size a b (.slice a1 n1 m1) (.slice a2 n2 m2) (.slice a3 n3 m3) (.slice a4 n4 m4) s t)
      (first | (with_reducible exact cellsB_below (Below.refl _ _).drew hS0) | (with_reducible exact cellsB_below (one_below _ _).drew hS0) | (with_reducible exact cellsB_below (two_below _ _ _).drew hS0) | (with_reducible exact cellsB_below (three_below _ _ _ _).drew hS0) | (with_reducible exact cellsB_below (four_below _ _ _ _ _).drew hS0))
      (fail)
    all_goals
      go_wp2_with fail
      go_meet
      case rel =>
        refine ⟨_, _, _, _, rfl, rfl, rfl, rfl, (below_next hb0 (four_below _ _ _ _ _)).drew, ?_, ?_, ?_, ?_⟩
        all_goals first | exact (four_blocks _ _ _ _ _ _ _ _ _).1 | exact (four_blocks _ _ _ _ _ _ _ _ _).2.1 | exact (four_blocks _ _ _ _ _ _ _ _ _).2.2.1 | exact (four_blocks _ _ _ _ _ _ _ _ _).2.2.2.1
  case rest =>
    obtain ⟨A, B, C, D, rfl, rfl, rfl, rfl, hX⟩ := hcut
    have hb0 := hX.below
    have hS0 : CellsF wc.drew A B C D a b (.slice a1 n1 m1) (.slice a2 n2 m2) (.slice a3 n3 m3) (.slice a4 n4 m4) s t :=
      cellsF_below (Below.refl _ _).drew ⟨cell_in hX.ha 0 _ rfl, cell_in hX.ha 1 _ rfl, cell_in hX.ha 2 _ rfl, cell_in hX.ha 3 _ rfl, cell_in hX.hb 0 _ rfl, cell_in hX.hb 1 _ rfl, cell_in hX.hb 2 _ rfl, cell_in hX.hb 3 _ rfl, cell_in hX.hc 0 _ rfl, cell_in hX.hc 1 _ rfl, cell_in hX.hd 0 _ rfl, cell_in hX.hd 1 _ rfl⟩
    have B0 := hb0.drew
    clear hX hb0
    go_wp2_with fail
    go_region_held3 (fun W => CellsF W A B C D a b (.slice a1 n1 m1) (.slice a2 n2 m2) (.slice a3 n3 m3) (.slice a4 n4 m4) s t)
      (first | (with_reducible exact hS0) | (with_reducible exact hS1) | (with_reducible exact hS2) | (with_reducible exact hS3) | (with_reducible exact hS4) | (with_reducible exact hS5) | (with_reducible exact hS6) | (with_reducible exact hS7) | (with_reducible exact hS8) | (with_reducible exact hS9))
      (first
        | (go_at_call 43; (with_reducible refine (cAB _ B0).mono ?_); rintro e w1 ⟨rfl, hb1⟩; have B1 := below_next B0 hb1; have hS1 := cellsF_below hb1 hS0)
        | (go_at_call 36; (with_reducible refine (rAB _ B1).mono ?_); rintro e w2 ⟨rfl, hb2⟩; have B2 := below_next B1 hb2; have hS2 := cellsF_below hb2 hS1)
        | (go_at_call 43; (with_reducible refine (cBA _ B2).mono ?_); rintro e w3 ⟨rfl, hb3⟩; have B3 := below_next B2 hb3; have hS3 := cellsF_below hb3 hS2)
        | (go_at_call 36; (with_reducible refine (rAB _ B3).mono ?_); rintro e w4 ⟨rfl, hb4⟩; have B4 := below_next B3 hb4; have hS4 := cellsF_below hb4 hS3)
        | (go_at_call 43; (with_reducible refine (cAA _ B4).mono ?_); rintro e w5 ⟨rfl, hb5⟩; have B5 := below_next B4 hb5; have hS5 := cellsF_below hb5 hS4)
        | (go_at_call 42; (with_reducible refine (cST _ B5).mono ?_); rintro e w6 ⟨rfl, hb6⟩; have B6 := below_next B5 hb6; have hS6 := cellsF_below hb6 hS5)
        | (go_at_call 41; (with_reducible refine (rST _ B6).mono ?_); rintro e w7 ⟨rfl, hb7⟩; have B7 := below_next B6 hb7; have hS7 := cellsF_below hb7 hS6)
        | (go_at_call 42; (with_reducible refine (cTT _ B7).mono ?_); rintro e w8 ⟨rfl, hb8⟩; have B8 := below_next B7 hb8; have hS8 := cellsF_below hb8 hS7)
        | (go_at_call 17; (with_reducible refine (awake_any _).mono ?_); rintro e w9 ⟨rfl, hb9⟩; have B9 := below_next B8 hb9; have hS9 := cellsF_below hb9 hS8))
    go_wp2
    go_ret
    exact ⟨rfl, B9⟩

end Go.Proofs.Ytnooeaefldklaaa
