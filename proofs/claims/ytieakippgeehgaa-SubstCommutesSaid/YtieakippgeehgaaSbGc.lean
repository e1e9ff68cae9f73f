/- The contract of the closure of Subst. * A region that begins with recover, and walks on as any other. Nothing of the program is imported. * The closure that finish defers: its two contracts. * The contract of finish. * The contract of Subst. -/
import Derived.Test.YtieakippgeehgaaSbGb
import Derived.Deep.RegionHeld2
import Derived.BigRegion
import Derived.Deep.DeepCutAuto
import Derived.OwnWalk
import Derived.Recover
import Derived.Tactics
import Derived.Test.YtieakippgeehgaaSbGa
import Derived.Defers
import Derived.Tactics2
namespace Go.Proofs.Ytieakippgeehgaa.Sb
open Go.RowKit
set_option linter.unusedSimpArgs false
set_option linter.unusedVariables false

/-- the four boxes: an object, a simple type, a term, a number -/
abbrev CellsSu (W : World) (A B D E : Nat) (so sh sn : Int) (sv Sv : Value) (cn tq th tn : Int) (tv : Value) (n : Int) : Prop :=
  W.cell? ⟨A, 0, none⟩ = some (.int .i64 so) ∧ W.cell? ⟨A, 1, none⟩ = some (.int .i64 sh) ∧ W.cell? ⟨A, 2, none⟩ = some (.int .i64 sn) ∧ W.cell? ⟨A, 3, none⟩ = some sv ∧
  W.cell? ⟨B, 0, none⟩ = some Sv ∧ W.cell? ⟨B, 1, none⟩ = some (.int .i64 cn) ∧
  W.cell? ⟨D, 0, none⟩ = some (.int .i64 tq) ∧ W.cell? ⟨D, 1, none⟩ = some (.int .i64 th) ∧ W.cell? ⟨D, 2, none⟩ = some (.int .i64 tn) ∧ W.cell? ⟨D, 3, none⟩ = some tv ∧
  W.cell? ⟨E, 0, none⟩ = some (.int .i64 n)
theorem cellsSu_below {W W' : World} {A B D E : Nat} {so sh sn : Int} {sv Sv : Value} {cn tq th tn : Int} {tv : Value} {n : Int} (hb : Below W.heap.size W W') (x : CellsSu W A B D E so sh sn sv Sv cn tq th tn tv n) : CellsSu W' A B D E so sh sn sv Sv cn tq th tn tv n := by
  obtain ⟨x1, x2, x3, x4, x5, x6, x7, x8, x9, x10, x11⟩ := x
  exact ⟨kept_cell hb x1, kept_cell hb x2, kept_cell hb x3, kept_cell hb x4, kept_cell hb x5, kept_cell hb x6, kept_cell hb x7, kept_cell hb x8, kept_cell hb x9, kept_cell hb x10, kept_cell hb x11⟩

theorem cellsSu_by {W W' : World} {A B D E : Nat} {so sh sn : Int} {sv Sv : Value} {cn tq th tn : Int} {tv : Value} {n : Int} (hA : W'.heap[A]? = W.heap[A]?) (hB : W'.heap[B]? = W.heap[B]?) (hD : W'.heap[D]? = W.heap[D]?) (hE : W'.heap[E]? = W.heap[E]?) (x : CellsSu W A B D E so sh sn sv Sv cn tq th tn tv n) : CellsSu W' A B D E so sh sn sv Sv cn tq th tn tv n := by
  have go : ∀ b, W'.heap[b]? = W.heap[b]? → ∀ j u, W.cell? ⟨b, j, none⟩ = some u → W'.cell? ⟨b, j, none⟩ = some u := fun b hb j u e => by rw [World.cell?_of_block (w := W) hb]; exact e
  obtain ⟨x1, x2, x3, x4, x5, x6, x7, x8, x9, x10, x11⟩ := x
  exact ⟨go _ hA _ _ x1, go _ hA _ _ x2, go _ hA _ _ x3, go _ hA _ _ x4, go _ hB _ _ x5, go _ hB _ _ x6, go _ hD _ _ x7, go _ hD _ _ x8, go _ hD _ _ x9, go _ hD _ _ x10, go _ hE _ _ x11⟩
theorem cellsSu_six {W : World} {A B D E k : Nat} {so sh sn : Int} {sv Sv : Value} {cn tq th tn : Int} {tv : Value} {n : Int} {a b c d e f : Value} (h : A ≠ k ∧ B ≠ k ∧ D ≠ k ∧ E ≠ k) (x : CellsSu W A B D E so sh sn sv Sv cn tq th tn tv n) : CellsSu ((((((W.setCell ⟨k, 0, none⟩ a).setCell ⟨k, 1, none⟩ b).setCell ⟨k, 2, none⟩ c).setCell ⟨k, 3, none⟩ d).setCell ⟨k, 4, none⟩ e).setCell ⟨k, 5, none⟩ f) A B D E so sh sn sv Sv cn tq th tn tv n :=
  cellsSu_by (set6_other a b c d e f h.1) (set6_other a b c d e f h.2.1) (set6_other a b c d e f h.2.2.1) (set6_other a b c d e f h.2.2.2) x
theorem cellsSu_only {W W' : World} {C A B D E : Nat} {so sh sn : Int} {sv Sv : Value} {cn tq th tn : Int} {tv : Value} {n : Int} (h : A ≠ C ∧ B ≠ C ∧ D ≠ C ∧ E ≠ C) (l : A < W.heap.size ∧ B < W.heap.size ∧ D < W.heap.size ∧ E < W.heap.size) (ho : Only C W W') (x : CellsSu W A B D E so sh sn sv Sv cn tq th tn tv n) : CellsSu W' A B D E so sh sn sv Sv cn tq th tn tv n :=
  cellsSu_by (ho.block _ l.1 h.1) (ho.block _ l.2.1 h.2.1) (ho.block _ l.2.2.1 h.2.2.1) (ho.block _ l.2.2.2 h.2.2.2) x

/-- what lies in the four boxes -/
structure SuBox (w : World) (C A B D E : Nat) (s : Tm) (sv Sv : Value) (cn : Int) (Ss : List Sp.Tm) (t : Tm) (tv : Value) (n : Int) : Prop where
  hA : w.heap[A]? = some (.cells #[.int .i64 s.op, .int .i64 s.hd, .int .i64 s.n, sv] 24 (0, 0))
  hB : w.heap[B]? = some (.cells #[Sv, .int .i64 cn] 27 (0, 0))
  hD : w.heap[D]? = some (.cells #[.int .i64 t.op, .int .i64 t.hd, .int .i64 t.n, tv] 24 (0, 0))
  hE : w.heap[E]? = some (.cells #[.int .i64 n] 3 (0, 0))
  ls : Lies w (· ≠ C) sv s.args
  lS : Sp.Lies w (· ≠ C) Sv Ss
  lt : Lies w (· ≠ C) tv t.args
  ne : A ≠ C ∧ B ≠ C ∧ D ≠ C ∧ E ≠ C
theorem SuBox.cells {w : World} {C A B D E : Nat} {s : Tm} {sv Sv : Value} {cn : Int} {Ss : List Sp.Tm} {t : Tm} {tv : Value} {n : Int} (H : SuBox w C A B D E s sv Sv cn Ss t tv n) : CellsSu w A B D E s.op s.hd s.n sv Sv cn t.op t.hd t.n tv n := by
  obtain ⟨x1, x2, x3, x4⟩ := c4_of H.hA
  obtain ⟨x5, x6⟩ := (cells2_of H.hB).1
  obtain ⟨x7, x8, x9, x10⟩ := c4_of H.hD
  exact ⟨x1, x2, x3, x4, x5, x6, x7, x8, x9, x10, cell_in H.hE 0 _ rfl⟩
theorem SuBox.keep {w w' : World} {C A B D E : Nat} {s : Tm} {sv Sv : Value} {cn : Int} {Ss : List Sp.Tm} {t : Tm} {tv : Value} {n : Int} (H : SuBox w C A B D E s sv Sv cn Ss t tv n) (hb : Below w.heap.size w w') : SuBox w' C A B D E s sv Sv cn Ss t tv n :=
  ⟨heap_kept hb H.hA, heap_kept hb H.hB, heap_kept hb H.hD, heap_kept hb H.hE, H.ls.keep hb, H.lS.keep hb, H.lt.keep hb, H.ne⟩

set_option maxHeartbeats 4000000 in
set_option maxRecDepth 100000 in
theorem substC_ok (C A B D E : Nat) (so sh sn tq th tn n cn : Int) (sa ta : List Tm) (Ss : List Sp.Tm) (sv Sv tv : Value) (w : World) (x : Tm) (c : Nat) (H : SuBox w C A B D E (.mk so sh sn sa) sv Sv cn Ss (.mk tq th tn ta) tv n) (hC : cntAt C 0 w)
    (hps : Tm.proper (.mk so sh sn sa) = true) (hpt : Tm.proper (.mk tq th tn ta) = true) (hn0 : 0 ≤ n) (hn1 : n ≤ 9999) (hr : put (.mk cn Ss) (.mk so sh sn sa) n (.mk tq th tn ta) 0 = .ok x c) :
    Calls Try.prog 43 #[.pointer (some ⟨C, 0, none⟩), .pointer (some ⟨A, 0, none⟩), .pointer (some ⟨B, 0, none⟩), .pointer (some ⟨D, 0, none⟩), .pointer (some ⟨E, 0, none⟩)] w (GivesP w C (.ok x c)) := by
  obtain ⟨aq, ns, ms, rfl⟩ := H.ls.isSlice
  obtain ⟨aS, nS, mS, rfl⟩ := H.lS.isSlice
  obtain ⟨at', nt, mt, rfl⟩ := H.lt.isSlice
  obtain ⟨X, hX⟩ : ∃ X, X = Tm.sz (.mk so sh sn sa) := ⟨_, rfl⟩
  obtain ⟨Y, hY⟩ : ∃ Y, Y = Tm.depth (.mk so sh sn sa) := ⟨_, rfl⟩
  have hb0 := one_below w (.cells #[.int .i64 0, .int .i64 0, .int .i64 0, .slice none 0 0, .int .i64 0, .int .i64 0] 77)
  have hz0 := heap_alloc_new w (.cells #[.int .i64 0, .int .i64 0, .int .i64 0, .slice none 0 0, .int .i64 0, .int .i64 0] 77)
  have hs0 : (w.alloc (.cells #[.int .i64 0, .int .i64 0, .int .i64 0, .slice none 0 0, .int .i64 0, .int .i64 0] 77)).heap.size = w.heap.size + 1 := by simp
  generalize hw0 : w.alloc (.cells #[.int .i64 0, .int .i64 0, .int .i64 0, .slice none 0 0, .int .i64 0, .int .i64 0] 77) = w0 at hb0 hz0 hs0
  have call1 : ∀ w1, Below w0.heap.size w0 w1 → Calls Try.prog 44 #[.agg #[.int .i64 so, .int .i64 sh, .int .i64 sn, .slice aq ns ms]] w1 fun e w2 => e = .returned (.agg #[.int .i64 so, .int .i64 sh, .int .i64 sn, .slice aq ns ms, .int .i64 X, .int .i64 Y]) ∧ Below w0.heap.size w0 w2 := fun w1 hb => by
    have h := measured_any so sh sn (.slice aq ns ms) sa w1 ((H.ls.more (S' := fun _ => True) (fun _ _ _ => trivial)).keep (below_next hb0 hb)) hps
    rw [← hX, ← hY] at h
    exact h.mono fun e w2 hx => ⟨hx.1, below_next hb hx.2⟩
  have hcl := lt_blk hC
  have call2 : ∀ w1, Below w0.heap.size w0 w1 → Calls Try.prog 45 #[.agg #[.pointer (some ⟨C, 0, none⟩), .int .i64 so, .int .i64 sh, .int .i64 sn, .slice aq ns ms, .int .i64 X, .int .i64 Y, .slice aS nS mS, .int .i64 cn], .agg #[.int .i64 tq, .int .i64 th, .int .i64 tn, .slice at' nt mt], .int .i64 n] w1 fun e w2 => ∃ a3 n3 m3, e = .returned (.agg #[.int .i64 x.op, .int .i64 x.hd, .int .i64 x.n, .slice a3 n3 m3, .int .i64 (Tm.sz x : Nat), .int .i64 (Tm.depth x : Nat)]) ∧ Only C w0 w2 ∧ cntAt C c w2 ∧ Lies w2 (w0.heap.size ≤ ·) (.slice a3 n3 m3) x.args := fun w1 hb => by
    have hbw := below_next hb0 hb
    have h := in_any C cn Ss (.mk so sh sn sa) hps (.slice aq ns ms) (.slice aS nS mS) (.mk tq th tn ta) n 0 w1 (.slice at' nt mt) (H.lt.keep hbw) (H.ls.keep hbw) (H.lS.keep hbw) (heap_kept hbw hC) (by omega) hn0 (by have := (Tm.proper_two hpt).1; omega) hpt
    rw [hr] at h
    unfold subV at h
    simp only [Tm.op, Tm.hd, Tm.n, ← hX, ← hY] at h
    refine h.mono fun e w2 hx => ?_
    obtain ⟨v, rfl, ho, hc, L⟩ := hx
    obtain ⟨a3, n3, m3, rfl⟩ := L.isSlice
    exact ⟨a3, n3, m3, rfl, (Only.below hb C).trans ho, hc, L.more fun b _ hS => Nat.le_trans hb.size hS⟩
  have hS0 : CellsSu w0 A B D E so sh sn (.slice aq ns ms) (.slice aS nS mS) cn tq th tn (.slice at' nt mt) n := (H.keep hb0).cells
  have hd : Below w0.heap.size w0 w0.drew := (Below.refl _ _).drew
  have hlw : A < w.heap.size ∧ B < w.heap.size ∧ D < w.heap.size ∧ E < w.heap.size := ⟨lt_blk H.hA, lt_blk H.hB, lt_blk H.hD, lt_blk H.hE⟩
  have HL : Hid (A < w0.heap.size ∧ B < w0.heap.size ∧ D < w0.heap.size ∧ E < w0.heap.size) := Lib.hid (by omega)
  have HK : Hid (A ≠ w.heap.size ∧ B ≠ w.heap.size ∧ D ≠ w.heap.size ∧ E ≠ w.heap.size) := Lib.hid (by omega)
  have HE := Lib.hid H.ne
  have HCL := Lib.hid hcl
  have HD := Lib.hid hd
  have HB := Lib.hid hb0
  have HZ := Lib.hid hz0
  have HS0 := Lib.hid hs0
  have HW : Hid (w.heap.size < w0.heap.size ∧ w.heap.size ≠ C) := Lib.hid ⟨by omega, by omega⟩
  clear hX hY hb0 hz0 hs0 hC hps hpt hr H hd hcl hlw
  go_enter Try.func43, Try.ntmps43
  go_upto_region 1 with fail
  clear hw0
  go_region_held2 (fun W => CellsSu W A B D E so sh sn (.slice aq ns ms) (.slice aS nS mS) cn tq th tn (.slice at' nt mt) n)
    (first | (with_reducible exact cellsSu_six HK.out hcn) | (with_reducible exact hS0) | (with_reducible exact hcn) | (with_reducible exact cellsSu_below HD.out hS0) | fail)
    (first
      | (go_at_call 44; (with_reducible refine (call1 _ ?_).mono ?_); (first | (with_reducible exact HD.out) | fail); rintro e w1 ⟨rfl, hb1⟩; have hcn := cellsSu_below hb1 hS0)
      | (go_at_call 45; (with_reducible refine (call2 _ ?_).mono ?_); (with_reducible exact hb1); rintro e w2 ⟨a3, n3, m3, rfl, ho, hc, L⟩; have hcn := cellsSu_only HE.out HL.out ho hS0; have HO := Lib.hid (And.intro ho (And.intro hc L)); have hz2 := Only.keepBlock ho HZ.out HW.out.2; obtain ⟨⟨x0, x1, x2, x3, x4, x5⟩, f0, f1, f2, f3, f4, f5⟩ := cells6_of hz2; have HZ2 := Lib.hid hz2; (clear hz2 ho hc L))
      | fail)
  go_wp2_with fail
  have hz := set6_at HZ2.out (.int .i64 x.op) (.int .i64 x.hd) (.int .i64 x.n) (.slice a3 n3 m3) (.int .i64 (Tm.sz x : Nat)) (.int .i64 (Tm.depth x : Nat))
  obtain ⟨⟨v0, v1, v2, v3, v4, v5⟩, _⟩ := cells6_of hz
  unfold set6 at v0 v1 v2 v3 v4 v5
  refine bodyPost_ret (v := .agg #[.int .i64 x.op, .int .i64 x.hd, .int .i64 x.n, .slice a3 n3 m3, .int .i64 (Tm.sz x : Nat), .int .i64 (Tm.depth x : Nat)]) (by simp [results, Try.results43, go_sem, v0, v1, v2, v3, v4, v5]) rfl ?_
  obtain ⟨xo, xh, xk, xl⟩ := x
  exact givesP_stored (B := w.heap.size) ((Only.below HB.out C).trans HO.out.1) HO.out.2.1 HCL.out (Nat.le_refl _) (HO.out.2.2.more fun b _ hS => by have hS' : w0.heap.size ≤ b := hS; have := HW.out.1; omega) rfl rfl

set_option maxHeartbeats 4000000 in
set_option maxRecDepth 100000 in
theorem substC_er (C A B D E : Nat) (so sh sn tq th tn n cn : Int) (sa ta : List Tm) (Ss : List Sp.Tm) (sv Sv tv : Value) (w : World) (x : Int) (H : SuBox w C A B D E (.mk so sh sn sa) sv Sv cn Ss (.mk tq th tn ta) tv n) (hC : cntAt C 0 w)
    (hps : Tm.proper (.mk so sh sn sa) = true) (hpt : Tm.proper (.mk tq th tn ta) = true) (hn0 : 0 ≤ n) (hn1 : n ≤ 9999) (hr : put (.mk cn Ss) (.mk so sh sn sa) n (.mk tq th tn ta) 0 = .er x) :
    Calls Try.prog 43 #[.pointer (some ⟨C, 0, none⟩), .pointer (some ⟨A, 0, none⟩), .pointer (some ⟨B, 0, none⟩), .pointer (some ⟨D, 0, none⟩), .pointer (some ⟨E, 0, none⟩)] w (GivesP w C (.er x)) := by
  obtain ⟨aq, ns, ms, rfl⟩ := H.ls.isSlice
  obtain ⟨aS, nS, mS, rfl⟩ := H.lS.isSlice
  obtain ⟨at', nt, mt, rfl⟩ := H.lt.isSlice
  obtain ⟨X, hX⟩ : ∃ X, X = Tm.sz (.mk so sh sn sa) := ⟨_, rfl⟩
  obtain ⟨Y, hY⟩ : ∃ Y, Y = Tm.depth (.mk so sh sn sa) := ⟨_, rfl⟩
  have hb0 := one_below w (.cells #[.int .i64 0, .int .i64 0, .int .i64 0, .slice none 0 0, .int .i64 0, .int .i64 0] 77)
  have hz0 := heap_alloc_new w (.cells #[.int .i64 0, .int .i64 0, .int .i64 0, .slice none 0 0, .int .i64 0, .int .i64 0] 77)
  have hs0 : (w.alloc (.cells #[.int .i64 0, .int .i64 0, .int .i64 0, .slice none 0 0, .int .i64 0, .int .i64 0] 77)).heap.size = w.heap.size + 1 := by simp
  generalize hw0 : w.alloc (.cells #[.int .i64 0, .int .i64 0, .int .i64 0, .slice none 0 0, .int .i64 0, .int .i64 0] 77) = w0 at hb0 hz0 hs0
  have call1 : ∀ w1, Below w0.heap.size w0 w1 → Calls Try.prog 44 #[.agg #[.int .i64 so, .int .i64 sh, .int .i64 sn, .slice aq ns ms]] w1 fun e w2 => e = .returned (.agg #[.int .i64 so, .int .i64 sh, .int .i64 sn, .slice aq ns ms, .int .i64 X, .int .i64 Y]) ∧ Below w0.heap.size w0 w2 := fun w1 hb => by
    have h := measured_any so sh sn (.slice aq ns ms) sa w1 ((H.ls.more (S' := fun _ => True) (fun _ _ _ => trivial)).keep (below_next hb0 hb)) hps
    rw [← hX, ← hY] at h
    exact h.mono fun e w2 hx => ⟨hx.1, below_next hb hx.2⟩
  have hcl := lt_blk hC
  have call2 : ∀ w1, Below w0.heap.size w0 w1 → Calls Try.prog 45 #[.agg #[.pointer (some ⟨C, 0, none⟩), .int .i64 so, .int .i64 sh, .int .i64 sn, .slice aq ns ms, .int .i64 X, .int .i64 Y, .slice aS nS mS, .int .i64 cn], .agg #[.int .i64 tq, .int .i64 th, .int .i64 tn, .slice at' nt mt], .int .i64 n] w1 fun e w2 => e = .panicked (failure x) ∧ Only C w0 w2 := fun w1 hb => by
    have hbw := below_next hb0 hb
    have h := in_any C cn Ss (.mk so sh sn sa) hps (.slice aq ns ms) (.slice aS nS mS) (.mk tq th tn ta) n 0 w1 (.slice at' nt mt) (H.lt.keep hbw) (H.ls.keep hbw) (H.lS.keep hbw) (heap_kept hbw hC) (by omega) hn0 (by have := (Tm.proper_two hpt).1; omega) hpt
    rw [hr] at h
    unfold subV at h
    simp only [Tm.op, Tm.hd, Tm.n, ← hX, ← hY] at h
    exact h.mono fun e w2 hx => ⟨hx.1, (Only.below hb C).trans hx.2⟩
  have hS0 : CellsSu w0 A B D E so sh sn (.slice aq ns ms) (.slice aS nS mS) cn tq th tn (.slice at' nt mt) n := (H.keep hb0).cells
  have hd : Below w0.heap.size w0 w0.drew := (Below.refl _ _).drew
  have hlw : A < w.heap.size ∧ B < w.heap.size ∧ D < w.heap.size ∧ E < w.heap.size := ⟨lt_blk H.hA, lt_blk H.hB, lt_blk H.hD, lt_blk H.hE⟩
  have HL : Hid (A < w0.heap.size ∧ B < w0.heap.size ∧ D < w0.heap.size ∧ E < w0.heap.size) := Lib.hid (by omega)
  have HK : Hid (A ≠ w.heap.size ∧ B ≠ w.heap.size ∧ D ≠ w.heap.size ∧ E ≠ w.heap.size) := Lib.hid (by omega)
  have HE := Lib.hid H.ne
  have HCL := Lib.hid hcl
  have HD := Lib.hid hd
  have HB := Lib.hid hb0
  have HZ := Lib.hid hz0
  have HS0 := Lib.hid hs0
  have HW : Hid (w.heap.size < w0.heap.size ∧ w.heap.size ≠ C) := Lib.hid ⟨by omega, by omega⟩
  clear hX hY hb0 hz0 hs0 hC hps hpt hr H hd hcl hlw
  go_enter Try.func43, Try.ntmps43
  go_upto_region 1 with fail
  clear hw0
  go_region_held2 (fun W => CellsSu W A B D E so sh sn (.slice aq ns ms) (.slice aS nS mS) cn tq th tn (.slice at' nt mt) n)
    (first | (with_reducible exact cellsSu_six HK.out hcn) | (with_reducible exact hS0) | (with_reducible exact hcn) | (with_reducible exact cellsSu_below HD.out hS0) | fail)
    (first
      | (go_at_call 44; (with_reducible refine (call1 _ ?_).mono ?_); (first | (with_reducible exact HD.out) | fail); rintro e w1 ⟨rfl, hb1⟩; have hcn := cellsSu_below hb1 hS0)
      | (go_at_call 45; (with_reducible refine (call2 _ ?_).mono ?_); (with_reducible exact hb1); intro e w2 h1; cases e; rotate_left; (obtain ⟨h1, ho⟩ := h1; cases h1; exact ⟨rfl, rfl, (Only.below HB.out C).trans ho⟩); (exact absurd h1.1 (fun h => by cases h)); (obtain ⟨h1, ho⟩ := h1; have hF : Hid False := absurd h1 (fun h => by cases h)); (rename_i vv; obtain rfl : vv = Value.agg #[.int .i64 0, .int .i64 0, .int .i64 0, .slice none 0 0, .int .i64 0, .int .i64 0] := hF.out.elim); (clear h1); dsimp only; have hcn := cellsSu_only HE.out HL.out ho hS0; have hz2 := Only.keepBlock ho HZ.out HW.out.2; obtain ⟨⟨x0, x1, x2, x3, x4, x5⟩, f0, f1, f2, f3, f4, f5⟩ := cells6_of hz2; (clear hz2 ho))
      | fail)
  all_goals (exact hF.out.elim)

end Go.Proofs.Ytieakippgeehgaa.Sb

namespace Go.Proofs.Ytieakippgeehgaa.Sb
open Go

section
variable {P : Program} {Q : Exit → Act → List Frame → World → Prop} {a : Act} {cs cs' : List Frame} {w : World} {id : Nat} {o : Oper} {l : List Oper} {v : Value}

theorem wpS_region_rec (hw : Region.wanted o (yielded (o :: l).toArray a.tmps) = true) (hx : (execOp a.eval o).run P w = .ok .recover w) (hrec : recoverD cs = some (v, cs'))
    (h : wpList P (o :: l).toArray (fun e a' w' => Q e a' cs' w') l (a.put o.dst v) w) : (Code.region id (o :: l).toArray false).wpS P Q a cs w := by
  intro b k hb hro
  have hl : wpOps P (o :: l).toArray (fun e a' w' => Q e a' cs' w') (List.range' 1 l.length) (a.put o.dst v) w := by
    rw [wpOps_eq_wpList l 1 (fun j => by simp [Nat.add_comm 1 j])]; exact h
  obtain ⟨e, a', w', hq, harr⟩ := wp_ops _ _ _ hl b k cs'
  have e1 : List.range (o :: l).toArray.size = 0 :: List.range' 1 l.length := by simp [List.range_eq_range', List.range'_succ]
  have ho : (o :: l).toArray[0]? = some o := by simp
  have hg := stepG_op (P := P) (b := b) (k := k) (cs := cs) (w := w) (rest := List.range' 1 l.length) ho hw
  have hfin : (b.at a (.inRegion (o :: l).toArray (0 :: List.range' 1 l.length) :: k)).finish v = b.at (a.put o.dst v) (.inRegion (o :: l).toArray (List.range' 1 l.length) :: k) := by
    rw [Frame.finish_at, ho]; rfl
  have hk : (b.at a (.inRegion (o :: l).toArray (0 :: List.range' 1 l.length) :: k)).kind = .deferred := hb
  have htr := tryRecover_deferred hk cs
  refine ⟨e, a', cs', w', hq, .of_steps (.head step_region (.one (step_lone_go ?_))) harr⟩
  rw [e1, hg, ← hfin]
  simp only [Frame.at] at htr ⊢
  simp [stepG.apply, hx, htr, hrec]

theorem wpS_region_norec (hw : Region.wanted o (yielded (o :: l).toArray a.tmps) = true) (hx : (execOp a.eval o).run P w = .ok .recover w) (hrec : recoverD cs = none)
    (h : wpList P (o :: l).toArray (fun e a' w' => Q e a' cs w') l (a.put o.dst .nilIface) w) : (Code.region id (o :: l).toArray false).wpS P Q a cs w := by
  intro b k hb hro
  have hl : wpOps P (o :: l).toArray (fun e a' w' => Q e a' cs w') (List.range' 1 l.length) (a.put o.dst .nilIface) w := by
    rw [wpOps_eq_wpList l 1 (fun j => by simp [Nat.add_comm 1 j])]; exact h
  obtain ⟨e, a', w', hq, harr⟩ := wp_ops _ _ _ hl b k cs
  have e1 : List.range (o :: l).toArray.size = 0 :: List.range' 1 l.length := by simp [List.range_eq_range', List.range'_succ]
  have ho : (o :: l).toArray[0]? = some o := by simp
  have hg := stepG_op (P := P) (b := b) (k := k) (cs := cs) (w := w) (rest := List.range' 1 l.length) ho hw
  have hfin : (b.at a (.inRegion (o :: l).toArray (0 :: List.range' 1 l.length) :: k)).finish .nilIface = b.at (a.put o.dst .nilIface) (.inRegion (o :: l).toArray (List.range' 1 l.length) :: k) := by
    rw [Frame.finish_at, ho]; rfl
  have hk : (b.at a (.inRegion (o :: l).toArray (0 :: List.range' 1 l.length) :: k)).kind = .deferred := hb
  have htr := tryRecover_deferred hk cs
  refine ⟨e, a', cs, w', hq, .of_steps (.head step_region (.one (step_lone_go ?_))) harr⟩
  rw [e1, hg, ← hfin]
  simp only [Frame.at] at htr ⊢
  simp [stepG.apply, hx, htr, hrec]
end
end Go.Proofs.Ytieakippgeehgaa.Sb

namespace Go.Proofs.Ytieakippgeehgaa.Sb
open Go.RowKit
set_option linter.unusedSimpArgs false
set_option linter.unusedVariables false

theorem assert_yes (v : Value) (w : World) : (Instr.typeAssert (.iface 95 v) 20 95 true).run Try.prog w = .ok (.tuple #[v, .bool true]) w := by
  simp [Instr.typeAssert, Try.underlying95, go_sem]
theorem assert_no (w : World) : (Instr.typeAssert .nilIface 20 95 true).run Try.prog w = .ok (.tuple #[.agg #[.int .i64 0], .bool false]) w := by
  simp [Instr.typeAssert, Try.underlying95, go_sem]

/-- what the closure leaves of two boxes -/
structure FinSt (w w' : World) (r q : Nat) (x : Int) : Prop where
  below : ∀ B, B ≤ r → B ≤ q → B ≤ w.heap.size → Below B w w'
  hr : w'.heap[r]? = some (.cells #[.int .i64 0, .int .i64 0, .int .i64 0, .slice none 0 0] 24 (0, 0))
  hq : w'.heap[q]? = some (.cells #[.int .i64 x] 30 (0, 0))

/-- what is asked behind the closure, when the frame below has been dealt with -/
def FinQ (c₀ : Frame) (cs : List Frame) (u : FrameMode) (R : World → Prop) (cs' : List Frame) (e : Exit) (a : Act) (w : World) : Prop :=
  bodyPostS Try.prog Try.f77 c₀ cs (fun e u' w' => e = .returned (.tuple #[]) ∧ u' = u ∧ R w') e a cs' w
theorem finQ_end {c₀ : Frame} {cs : List Frame} {u : FrameMode} {R : World → Prop} {a : Act} {w : World} (hd : a.defers = []) (hR : R w) : FinQ c₀ cs u R ({ c₀ with mode := u } :: cs) .normal a w :=
  ⟨hd, u, rfl, _, by simp [results, Try.results77, go_sem], rfl, rfl, hR⟩

theorem finQ_idle {c₀ : Frame} {cs : List Frame} {u : FrameMode} {R : World → Prop} {a : Act} {w : World} (hu : c₀.mode = u) (hd : a.defers = []) (hR : R w) : FinQ c₀ cs u R (c₀ :: cs) .normal a w := by
  subst hu
  exact finQ_end (c₀ := c₀) hd hR

theorem finSt_of {w : World} {r q : Nat} {a b c d e0 : Value} {x : Int} {o : Obj} (hr : w.heap[r]? = some (.cells #[a, b, c, d] 24 (0, 0))) (hq : w.heap[q]? = some (.cells #[e0] 30 (0, 0))) (hne : r ≠ q) :
    FinSt w ((((((w.alloc o).setCell ⟨r, 0, none⟩ (.int .i64 0)).setCell ⟨r, 1, none⟩ (.int .i64 0)).setCell ⟨r, 2, none⟩ (.int .i64 0)).setCell ⟨r, 3, none⟩ (.slice none 0 0)).setCell ⟨q, 0, none⟩ (.int .i64 x)).drew r q x := by
  have lr := lt_blk hr
  have lq := lt_blk hq
  have e : ∀ X : World, X.drew.heap = X.heap := fun _ => rfl
  have h4 := set4_at (heap_kept (one_below w o) hr) (.int .i64 0) (.int .i64 0) (.int .i64 0) (.slice none 0 0)
  refine ⟨fun B h1 h2 h3 => ?_, ?_, ?_⟩
  · exact ((((((((Below.refl B w).alloc h3 o).setCell h1 _).setCell h1 _).setCell h1 _).setCell h1 _).setCell h2 _)).drew
  · rw [e, Below.heap_setCell _ _ _ _ (by simpa using hne)]; exact h4
  · have hq4 : ((((((w.alloc o).setCell ⟨r, 0, none⟩ (.int .i64 0)).setCell ⟨r, 1, none⟩ (.int .i64 0)).setCell ⟨r, 2, none⟩ (.int .i64 0)).setCell ⟨r, 3, none⟩ (.slice none 0 0))).heap[q]? = some (.cells #[e0] 30 (0, 0)) := by
      rw [Below.heap_setCell _ _ _ _ (by simpa using hne.symm), Below.heap_setCell _ _ _ _ (by simpa using hne.symm), Below.heap_setCell _ _ _ _ (by simpa using hne.symm), Below.heap_setCell _ _ _ _ (by simpa using hne.symm)]
      exact heap_kept (one_below w o) hq
    have := heap_set_at (j := 0) (.int .i64 x) hq4
    rw [e]
    simpa using this

set_option maxHeartbeats 1000000 in
set_option maxRecDepth 100000 in
theorem fin_catch (r q : Nat) (a b c d e0 : Value) (x : Int) (older : List PanicEntry) (w : World) (hr : w.heap[r]? = some (.cells #[a, b, c, d] 24 (0, 0))) (hq : w.heap[q]? = some (.cells #[e0] 30 (0, 0))) (hne : r ≠ q) :
    CallsD Try.prog 77 #[.pointer (some ⟨r, 0, none⟩), .pointer (some ⟨q, 0, none⟩)] (.panicking ({ v := .iface 95 (.agg #[.int .i64 x]), recovered := false } :: older)) w fun e u' w' =>
      e = .returned (.tuple #[]) ∧ u' = .panicking ({ v := .iface 95 (.agg #[.int .i64 x]), recovered := true } :: older) ∧ FinSt w w' r q x := by
  have hcc : Try.prog.concrete 95 = true := by kernel_rfl
  have hta := assert_yes
  have hba := one_below w (.cells #[.int .i64 x] 95)
  obtain ⟨y0, y1, y2, y3⟩ := c4_of (heap_kept hba hr)
  obtain ⟨z0, z1, z2⟩ := Sp.cells1_of (heap_kept hba hq)
  obtain ⟨v0, v1, v2⟩ := Sp.cells1_of (heap_alloc_new w (.cells #[.int .i64 x] 95))
  have f0 := free_in (heap_kept hba hr) 0
  have f1 := free_in (heap_kept hba hr) 1
  have f2 := free_in (heap_kept hba hr) 2
  have f3 := free_in (heap_kept hba hr) 3
  have hne' : q ≠ r := fun e => hne e.symm
  have HWR : Hid (r < w.heap.size ∧ q < w.heap.size) := Lib.hid ⟨lt_blk hr, lt_blk hq⟩
  have hwr : w.heap.size ≠ r := by have := HWR.out; omega
  have hwq : w.heap.size ≠ q := by have := HWR.out; omega
  have HR := Lib.hid hr
  have HQ := Lib.hid hq
  clear hr hq hba
  refine callsD_of_wpS Try.func77 rfl fun c₀ cs hu => ?_
  simp only [Try.ntmps77, List.size_toArray, List.length_cons, List.length_nil, Nat.reduceAdd, Nat.reduceSub, Array.replicate_succ, Array.replicate_zero, List.push_toArray, List.append_toArray, List.nil_append, List.cons_append]
  apply wpS_seq
  refine wpS_region_rec (v := .iface 95 (.agg #[.int .i64 x])) (cs' := { c₀ with mode := .panicking ({ v := .iface 95 (.agg #[.int .i64 x]), recovered := true } :: older) } :: cs) (by rfl) (by rfl) (by simp [recoverD, hu]) ?_
  dsimp only [Act.put]
  clear hu
  generalize hm : FrameMode.panicking ({ v := .iface 95 (.agg #[.int .i64 x]), recovered := true } :: older) = u
  generalize hcs : { c₀ with mode := u } :: cs = cs'
  go_wp2_with fail
  generalize hwE : w.alloc (.cells #[.int .i64 x] 95) = wE at *
  generalize hwB : w.heap.size = B at *
  have HWE := Lib.hid hwE
  have HWB := Lib.hid hwB
  clear hwE hwB
  simp only [Exit.thenS]
  refine wpS_of_wp ?_
  show Code.wp _ _ (FinQ c₀ cs u (fun w' => FinSt w w' r q x) cs') _ _
  go_wp2_with fail
  go_region
  subst hcs hm
  refine finQ_end rfl ?_
  have h1 := HWE.out
  have h2 := HWB.out
  subst h2
  subst h1
  exact finSt_of HR.out HQ.out hne

set_option maxHeartbeats 1000000 in
set_option maxRecDepth 100000 in
theorem fin_idle (r q : Nat) (w : World) :
    CallsD Try.prog 77 #[.pointer (some ⟨r, 0, none⟩), .pointer (some ⟨q, 0, none⟩)] .returning w fun e u' w' =>
      e = .returned (.tuple #[]) ∧ u' = .returning ∧ w' = w.alloc (.cells #[.int .i64 0] 95) := by
  have hta := assert_no
  refine callsD_of_wpS Try.func77 rfl fun c₀ cs hu => ?_
  simp only [Try.ntmps77, List.size_toArray, List.length_cons, List.length_nil, Nat.reduceAdd, Nat.reduceSub, Array.replicate_succ, Array.replicate_zero, List.push_toArray, List.append_toArray, List.nil_append, List.cons_append]
  apply wpS_seq
  refine wpS_region_norec (by rfl) (by rfl) (by simp [recoverD, hu]) ?_
  dsimp only [Act.put]
  generalize hcs : c₀ :: cs = cs'
  have HU := Lib.hid hu
  clear hu
  go_wp2_with fail
  simp only [Exit.thenS]
  refine wpS_of_wp ?_
  show Code.wp _ _ (FinQ c₀ cs .returning (fun w' => w' = w.alloc (.cells #[.int .i64 0] 95)) cs') _ _
  go_wp2_with fail
  subst hcs
  exact finQ_idle HU.out rfl rfl
end Go.Proofs.Ytieakippgeehgaa.Sb

namespace Go.Proofs.Ytieakippgeehgaa.Sb
open Go.RowKit
set_option linter.unusedSimpArgs false
set_option linter.unusedVariables false

/-- what a call returns: a term and an error -/
def outOf : Out Tm → Tm × Int
  | .ok t _ => (t, 0)
  | .er e => (Tm.zero, e)

theorem blocks3 (w : World) (c1 c2 c3 : Array Value) (t1 t2 t3 : TypeId) :
    (((w.alloc (.cells c1 t1)).alloc (.cells c2 t2)).alloc (.cells c3 t3)).heap[w.heap.size]? = some (.cells c1 t1 (0, 0)) ∧
    (((w.alloc (.cells c1 t1)).alloc (.cells c2 t2)).alloc (.cells c3 t3)).heap[w.heap.size + 1]? = some (.cells c2 t2 (0, 0)) ∧
    (((w.alloc (.cells c1 t1)).alloc (.cells c2 t2)).alloc (.cells c3 t3)).heap[w.heap.size + 1 + 1]? = some (.cells c3 t3 (0, 0)) ∧
    Below w.heap.size w (((w.alloc (.cells c1 t1)).alloc (.cells c2 t2)).alloc (.cells c3 t3)) := by
  have h2 := two_blocks w c1 c2 t1 t2
  have e2 : ((w.alloc (.cells c1 t1)).alloc (.cells c2 t2)).heap.size = w.heap.size + 1 + 1 := by simp
  have h3 := heap_alloc_new ((w.alloc (.cells c1 t1)).alloc (.cells c2 t2)) (.cells c3 t3)
  rw [e2] at h3
  have hb := one_below ((w.alloc (.cells c1 t1)).alloc (.cells c2 t2)) (.cells c3 t3)
  exact ⟨heap_kept hb h2.1, heap_kept hb h2.2, h3, below_next (two_below w _ _) hb⟩

theorem set4_other {w : World} {B k : Nat} (a b c d : Value) (h : k ≠ B) : ((((w.setCell ⟨B, 0, none⟩ a).setCell ⟨B, 1, none⟩ b).setCell ⟨B, 2, none⟩ c).setCell ⟨B, 3, none⟩ d).heap[k]? = w.heap[k]? := by
  rw [Below.heap_setCell _ _ _ _ (by simpa using h), Below.heap_setCell _ _ _ _ (by simpa using h), Below.heap_setCell _ _ _ _ (by simpa using h), Below.heap_setCell _ _ _ _ (by simpa using h)]
theorem piece_term (a b c d e f : Value) (w : World) : (Instr.field 77 (.agg #[a, b, c, d, e, f]) 0).run Try.prog w = .ok (.agg #[a, b, c, d]) w := by
  kernel_rfl

set_option maxHeartbeats 1000000 in
set_option maxRecDepth 100000 in
theorem finish_ok (F : Nat) (cap : Array Value) (t : Tm) (c : Nat) (w : World) (hF : ∀ args w, (callFunc F args).run Try.prog w = .ok (.enter F args) w)
    (call : ∀ w1, Below w.heap.size w w1 → cntAt (w.heap.size + 1 + 1) 0 w1 → Calls Try.prog F (#[.pointer (some ⟨w.heap.size + 1 + 1, 0, none⟩)] ++ cap) w1 (GivesP w1 (w.heap.size + 1 + 1) (.ok t c))) :
    Calls Try.prog 42 #[.func (.func F) #[] cap] w (GivesE w (t, 0)) := by
  have hmf : ∀ (fn : Fn) (first cap : Array Value) (w : World), (Instr.makeFunc fn first cap).run Try.prog w = .ok (.func fn first cap) w := fun _ _ _ _ => rfl
  have hpt := piece_term
  have h3 := blocks3 w #[.int .i64 0, .int .i64 0, .int .i64 0, .slice none 0 0] #[.int .i64 0] #[.int .i64 0] 24 30 111
  have c1 := call _ h3.2.2.2 h3.2.2.1
  have H3 := Lib.hid h3
  clear call h3
  go_enter_defers Try.func42, Try.ntmps42
  go_wp2_with fail
  refine c1.mono ?_
  rintro e w2 ⟨v, rfl, ho, hc, L⟩
  obtain ⟨a3, n3, m3, rfl⟩ := L.isSlice
  have hr := Only.keepBlock ho H3.out.1 (by omega)
  have hq := Only.keepBlock ho H3.out.2.1 (by omega)
  obtain ⟨y0, y1, y2, y3⟩ := c4_of hr
  obtain ⟨z0, z1, z2⟩ := Sp.cells1_of hq
  have f0 := free_in hr 0
  have f1 := free_in hr 1
  have f2 := free_in hr 2
  have f3 := free_in hr 3
  have HO := Lib.hid (And.intro hr (And.intro hq (And.intro ho L)))
  clear hr hq ho hc L c1
  unfold pcV
  go_wp2_with fail
  obtain ⟨hr, hq, ho, L⟩ := HO.out
  have hr4 := set4_at hr (.int .i64 t.op) (.int .i64 t.hd) (.int .i64 t.n) (.slice a3 n3 m3)
  have hq4 : ((((w2.setCell ⟨w.heap.size, 0, none⟩ (.int .i64 t.op)).setCell ⟨w.heap.size, 1, none⟩ (.int .i64 t.hd)).setCell ⟨w.heap.size, 2, none⟩ (.int .i64 t.n)).setCell ⟨w.heap.size, 3, none⟩ (.slice a3 n3 m3)).heap[w.heap.size + 1]? = _ :=
    (set4_other _ _ _ _ (by omega)).trans hq
  have hq5 := heap_set_at (j := 0) (.int .i64 0) hq4
  have hr5 := (Below.heap_setCell _ ⟨w.heap.size + 1, 0, none⟩ (.int .i64 0) w.heap.size (by simp)).trans hr4
  have hkk := fun k (h1 : k ≠ w.heap.size) (h2 : k ≠ w.heap.size + 1) => (Below.heap_setCell ((((w2.setCell ⟨w.heap.size, 0, none⟩ (.int .i64 t.op)).setCell ⟨w.heap.size, 1, none⟩ (.int .i64 t.hd)).setCell ⟨w.heap.size, 2, none⟩ (.int .i64 t.n)).setCell ⟨w.heap.size, 3, none⟩ (.slice a3 n3 m3)) ⟨w.heap.size + 1, 0, none⟩ (.int .i64 0) k (by simpa using h2)).trans (set4_other _ _ _ _ h1)
  have hbw : Below w.heap.size w ((((w2.setCell ⟨w.heap.size, 0, none⟩ (.int .i64 t.op)).setCell ⟨w.heap.size, 1, none⟩ (.int .i64 t.hd)).setCell ⟨w.heap.size, 2, none⟩ (.int .i64 t.n)).setCell ⟨w.heap.size, 3, none⟩ (.slice a3 n3 m3)) :=
    (((((ho.fresh H3.out.2.2.2 (by omega)).setCell (Nat.le_refl _) _).setCell (Nat.le_refl _) _).setCell (Nat.le_refl _) _).setCell (Nat.le_refl _) _)
  have hbw5 := hbw.setCell (p := ⟨w.heap.size + 1, 0, none⟩) (Nat.le_succ _) (.int .i64 0)
  have hs5 : (((((w2.setCell ⟨w.heap.size, 0, none⟩ (.int .i64 t.op)).setCell ⟨w.heap.size, 1, none⟩ (.int .i64 t.hd)).setCell ⟨w.heap.size, 2, none⟩ (.int .i64 t.n)).setCell ⟨w.heap.size, 3, none⟩ (.slice a3 n3 m3)).setCell ⟨w.heap.size + 1, 0, none⟩ (.int .i64 0)).heap.size = w2.heap.size := by simp [World.setCell]
  generalize ((((w2.setCell ⟨w.heap.size, 0, none⟩ (.int .i64 t.op)).setCell ⟨w.heap.size, 1, none⟩ (.int .i64 t.hd)).setCell ⟨w.heap.size, 2, none⟩ (.int .i64 t.n)).setCell ⟨w.heap.size, 3, none⟩ (.slice a3 n3 m3)).setCell ⟨w.heap.size + 1, 0, none⟩ (.int .i64 0) = w5 at *
  have hb5 := one_below w5 (.cells #[.int .i64 0] 95)
  refine leaves_cons (f := 77) (args := #[.pointer (some ⟨w.heap.size, 0, none⟩), .pointer (some ⟨w.heap.size + 1, 0, none⟩)]) (by simp) (by simp [go_sem]) ?_
  refine (fin_idle w.heap.size (w.heap.size + 1) _).mono ?_
  rintro e u' w'' ⟨rfl, rfl, rfl⟩
  obtain ⟨x0, x1, x2, x3⟩ := c4_of (heap_kept hb5 hr5)
  obtain ⟨x4, _, _⟩ := Sp.cells1_of (heap_kept hb5 (by simpa using hq5))
  refine ⟨.tuple #[.agg #[.int .i64 t.op, .int .i64 t.hd, .int .i64 t.n, .slice a3 n3 m3], .int .i64 0], by simp [results, Try.results42, go_sem, x0, x1, x2, x3, x4], _, rfl, below_next hbw5 hb5, ?_⟩
  refine ((L.more (S' := fun b => w.heap.size + 2 ≤ b) fun b _ hS => ?_).still fun b hS hlt => ?_).more fun b _ hS => ?_
  · simp at hS; omega
  · rw [hb5.block _ (by omega)]; exact hkk b (by omega) (by omega)
  · omega

set_option maxHeartbeats 1000000 in
set_option maxRecDepth 100000 in
theorem finish_er (F : Nat) (cap : Array Value) (x : Int) (w : World) (hF : ∀ args w, (callFunc F args).run Try.prog w = .ok (.enter F args) w)
    (call : ∀ w1, Below w.heap.size w w1 → cntAt (w.heap.size + 1 + 1) 0 w1 → Calls Try.prog F (#[.pointer (some ⟨w.heap.size + 1 + 1, 0, none⟩)] ++ cap) w1 (GivesP w1 (w.heap.size + 1 + 1) (.er x))) :
    Calls Try.prog 42 #[.func (.func F) #[] cap] w (GivesE w (Tm.zero, x)) := by
  have hmf : ∀ (fn : Fn) (first cap : Array Value) (w : World), (Instr.makeFunc fn first cap).run Try.prog w = .ok (.func fn first cap) w := fun _ _ _ _ => rfl
  have h3 := blocks3 w #[.int .i64 0, .int .i64 0, .int .i64 0, .slice none 0 0] #[.int .i64 0] #[.int .i64 0] 24 30 111
  have c1 := call _ h3.2.2.2 h3.2.2.1
  have H3 := Lib.hid h3
  clear call h3
  go_enter_defers Try.func42, Try.ntmps42
  go_wp2_with fail
  refine c1.mono ?_
  rintro e w2 ⟨rfl, ho⟩
  have hr := Only.keepBlock ho H3.out.1 (by omega)
  have hq := Only.keepBlock ho H3.out.2.1 (by omega)
  show bodyPostD _ _ _ (Exit.panic (failure x)) _ _
  unfold failure
  refine leaves_cons (f := 77) (args := #[.pointer (some ⟨w.heap.size, 0, none⟩), .pointer (some ⟨w.heap.size + 1, 0, none⟩)]) (by simp) (by simp [go_sem]) ?_
  refine (fin_catch w.heap.size (w.heap.size + 1) _ _ _ _ _ x [] _ hr hq (by omega)).mono ?_
  rintro e u' w'' ⟨rfl, rfl, K⟩
  obtain ⟨x0, x1, x2, x3⟩ := c4_of K.hr
  obtain ⟨x4, _, _⟩ := Sp.cells1_of K.hq
  show Leaves _ _ _ _ [] (settle _) _
  simp only [settle]
  refine ⟨.tuple #[.agg #[.int .i64 0, .int .i64 0, .int .i64 0, .slice none 0 0], .int .i64 x], by simp [results, Try.results42, go_sem, x0, x1, x2, x3, x4], ?_⟩
  exact givesE_zero rfl ((ho.fresh H3.out.2.2.2 (by omega)).trans (K.below _ (Nat.le_refl _) (Nat.le_succ _) (by have := ho.size; simp at this; omega)))
end Go.Proofs.Ytieakippgeehgaa.Sb

namespace Go.Proofs.Ytieakippgeehgaa.Sb
open Go.RowKit
set_option linter.unusedSimpArgs false
set_option linter.unusedVariables false

theorem lies_two {W : World} {S : Nat → Prop} {g : Nat} {a b : Tm} {va vb : Value} {e : TypeId} (hS : S g) (hg : W.heap[g]? = some (.cells #[.int .i64 a.op, .int .i64 a.hd, .int .i64 a.n, va, .int .i64 b.op, .int .i64 b.hd, .int .i64 b.n, vb] e (0, 0)))
    (fa : a.fit) (fb : b.fit) (la : Lies W S va a.args) (lb : Lies W S vb b.args) : Lies W S (.slice (some ⟨g, 0, none⟩) 2 2) [a, b] := by
  have row := Lies.row (w := W) (S := S) (some ⟨g, 0, none⟩) g 0 2 2 (fun i => if i = 0 then a.op else b.op) (fun i => if i = 0 then a.hd else b.hd) (fun i => if i = 0 then a.n else b.n) (fun i => if i = 0 then va else vb) (fun i => if i = 0 then a.args else b.args)
    (fun _ => rfl) (fun _ => hS) (Nat.le_refl _) (by omega)
    (fun i hi => by rcases (by omega : i = 0 ∨ i = 1) with rfl | rfl <;> exact cell_in hg _ _ rfl) (fun i hi => by rcases (by omega : i = 0 ∨ i = 1) with rfl | rfl <;> exact cell_in hg _ _ rfl)
    (fun i hi => by rcases (by omega : i = 0 ∨ i = 1) with rfl | rfl <;> exact cell_in hg _ _ rfl) (fun i hi => by rcases (by omega : i = 0 ∨ i = 1) with rfl | rfl <;> exact cell_in hg _ _ rfl)
    (fun i hi => by rcases (by omega : i = 0 ∨ i = 1) with rfl | rfl; exact fa.1; exact fb.1) (fun i hi => by rcases (by omega : i = 0 ∨ i = 1) with rfl | rfl; exact fa.2.1; exact fb.2.1) (fun i hi => by rcases (by omega : i = 0 ∨ i = 1) with rfl | rfl; exact fa.2.2; exact fb.2.2)
    (fun i hi => by rcases (by omega : i = 0 ∨ i = 1) with rfl | rfl; exact la; exact lb)
  have e2 : ((List.range 2).map fun i => Tm.mk (if i = 0 then a.op else b.op) (if i = 0 then a.hd else b.hd) (if i = 0 then a.n else b.n) (if i = 0 then a.args else b.args)) = [a, b] := by
    cases a; cases b; rfl
  rw [e2] at row
  exact row

/-- what Subst returns -/
def substOut (t : Tm) (n : Int) (s : Tm) (S : Sp.Tm) : Tm × Int :=
  if Tm.proper t && Tm.proper s && isNum n && Sp.Tm.small S then outOf (put S s n t 0) else (Tm.zero, 2)

theorem blocks5 (w : World) (c1 c2 c3 c4 c5 : Array Value) (t1 t2 t3 t4 t5 : TypeId) :
    (((((w.alloc (.cells c1 t1)).alloc (.cells c2 t2)).alloc (.cells c3 t3)).alloc (.cells c4 t4)).alloc (.cells c5 t5)).heap[w.heap.size]? = some (.cells c1 t1 (0, 0)) ∧
    (((((w.alloc (.cells c1 t1)).alloc (.cells c2 t2)).alloc (.cells c3 t3)).alloc (.cells c4 t4)).alloc (.cells c5 t5)).heap[w.heap.size + 1]? = some (.cells c2 t2 (0, 0)) ∧
    (((((w.alloc (.cells c1 t1)).alloc (.cells c2 t2)).alloc (.cells c3 t3)).alloc (.cells c4 t4)).alloc (.cells c5 t5)).heap[w.heap.size + 1 + 1]? = some (.cells c3 t3 (0, 0)) ∧
    (((((w.alloc (.cells c1 t1)).alloc (.cells c2 t2)).alloc (.cells c3 t3)).alloc (.cells c4 t4)).alloc (.cells c5 t5)).heap[w.heap.size + 1 + 1 + 1]? = some (.cells c4 t4 (0, 0)) ∧
    (((((w.alloc (.cells c1 t1)).alloc (.cells c2 t2)).alloc (.cells c3 t3)).alloc (.cells c4 t4)).alloc (.cells c5 t5)).heap[w.heap.size + 1 + 1 + 1 + 1]? = some (.cells c5 t5 (0, 0)) ∧
    Below w.heap.size w (((((w.alloc (.cells c1 t1)).alloc (.cells c2 t2)).alloc (.cells c3 t3)).alloc (.cells c4 t4)).alloc (.cells c5 t5)) ∧
    (((((w.alloc (.cells c1 t1)).alloc (.cells c2 t2)).alloc (.cells c3 t3)).alloc (.cells c4 t4)).alloc (.cells c5 t5)).heap.size = w.heap.size + 5 := by
  obtain ⟨h1, h2, h3, h4, h5, h6⟩ := four_blocks w c1 c2 c3 c4 t1 t2 t3 t4
  have hb := one_below ((((w.alloc (.cells c1 t1)).alloc (.cells c2 t2)).alloc (.cells c3 t3)).alloc (.cells c4 t4)) (.cells c5 t5)
  have hn := heap_alloc_new ((((w.alloc (.cells c1 t1)).alloc (.cells c2 t2)).alloc (.cells c3 t3)).alloc (.cells c4 t4)) (.cells c5 t5)
  rw [h6] at hn
  exact ⟨heap_kept hb h1, heap_kept hb h2, heap_kept hb h3, heap_kept hb h4, hn, below_next h5 hb, by simp⟩

/-- the boxes of Subst -/
structure SuVar (w wr : World) (t : Tm) (tv : Value) (n : Int) (s : Tm) (sv Sv : Value) (cn : Int) : Prop where
  ht : wr.heap[w.heap.size]? = some (.cells #[.int .i64 t.op, .int .i64 t.hd, .int .i64 t.n, tv] 24 (0, 0))
  hn : wr.heap[w.heap.size + 1]? = some (.cells #[.int .i64 n] 3 (0, 0))
  hs : wr.heap[w.heap.size + 1 + 1]? = some (.cells #[.int .i64 s.op, .int .i64 s.hd, .int .i64 s.n, sv] 24 (0, 0))
  hS : wr.heap[w.heap.size + 1 + 1 + 1]? = some (.cells #[Sv, .int .i64 cn] 27 (0, 0))
  hr : wr.heap[w.heap.size + 1 + 1 + 1 + 1]? = some (.cells #[.int .i64 0, .int .i64 0, .int .i64 0, .slice none 0 0] 24 (0, 0))
  below : Below w.heap.size w wr
theorem SuVar.keep {w wr wr' : World} {t : Tm} {tv : Value} {n : Int} {s : Tm} {sv Sv : Value} {cn : Int} (H : SuVar w wr t tv n s sv Sv cn) (hb : Below wr.heap.size wr wr') : SuVar w wr' t tv n s sv Sv cn :=
  ⟨heap_kept hb H.ht, heap_kept hb H.hn, heap_kept hb H.hs, heap_kept hb H.hS, heap_kept hb H.hr, below_next H.below hb⟩

theorem subst_zero {w wr : World} {t s : Tm} {tv sv Sv : Value} {n cn : Int} {a : Act} (H : SuVar w wr t tv n s sv Sv cn) (ha : a.tmps[8]? = some (.pointer (some ⟨w.heap.size + 1 + 1 + 1 + 1, 0, none⟩)) ∧ a.tmps[9]? = some (.int .i64 2) ∧ a.defers = []) :
    bodyPost Try.prog Try.f14 (GivesE w (Tm.zero, 2)) .ret a ((((wr.setCell ⟨w.heap.size + 1 + 1 + 1 + 1, 0, none⟩ (.int .i64 0)).setCell ⟨w.heap.size + 1 + 1 + 1 + 1, 1, none⟩ (.int .i64 0)).setCell ⟨w.heap.size + 1 + 1 + 1 + 1, 2, none⟩ (.int .i64 0)).setCell ⟨w.heap.size + 1 + 1 + 1 + 1, 3, none⟩ (.slice none 0 0)) := by
  obtain ⟨h8, h9, hd⟩ := ha
  obtain ⟨z0, z1, z2, z3⟩ := c4_of (set4_at H.hr (.int .i64 0) (.int .i64 0) (.int .i64 0) (.slice none 0 0))
  refine bodyPost_ret (v := .tuple #[.agg #[.int .i64 0, .int .i64 0, .int .i64 0, .slice none 0 0], .int .i64 2]) (by simp [results, Try.results14, go_sem, h8, h9, z0, z1, z2, z3]) hd ?_
  have h4 : w.heap.size ≤ w.heap.size + 1 + 1 + 1 + 1 := by omega
  exact givesE_zero rfl ((((H.below.setCell h4 _).setCell h4 _).setCell h4 _).setCell h4 _)

set_option maxHeartbeats 4000000 in
set_option maxRecDepth 100000 in
theorem subst_bad (tq th tk n so sh sk cn : Int) (ta sa : List Tm) (Ss : List Sp.Tm) (tv sv Sv : Value) (w : World) (lt : Lies w (fun _ => True) tv ta) (ls : Lies w (fun _ => True) sv sa) (lS : Sp.Lies w (fun _ => True) Sv Ss)
    (ft : (Tm.mk tq th tk ta).fit) (fs : (Tm.mk so sh sk sa).fit) (hbad : (Tm.proper (.mk tq th tk ta) && Tm.proper (.mk so sh sk sa) && isNum n && Sp.Tm.small (.mk cn Ss)) = false) :
    Calls Try.prog 14 #[.agg #[.int .i64 tq, .int .i64 th, .int .i64 tk, tv], .int .i64 n, .agg #[.int .i64 so, .int .i64 sh, .int .i64 sk, sv], .agg #[Sv, .int .i64 cn]] w (GivesE w (Tm.zero, 2)) := by
  obtain ⟨a1, n1, m1, rfl⟩ := lt.isSlice
  obtain ⟨a2, n2, m2, rfl⟩ := ls.isSlice
  obtain ⟨a3, n3, m3, rfl⟩ := lS.isSlice
  have h5 := blocks5 w #[.int .i64 tq, .int .i64 th, .int .i64 tk, .slice a1 n1 m1] #[.int .i64 n] #[.int .i64 so, .int .i64 sh, .int .i64 sk, .slice a2 n2 m2] #[.slice a3 n3 m3, .int .i64 cn] #[.int .i64 0, .int .i64 0, .int .i64 0, .slice none 0 0] 24 3 24 27 24
  have V0 : SuVar w _ (.mk tq th tk ta) (.slice a1 n1 m1) n (.mk so sh sk sa) (.slice a2 n2 m2) (.slice a3 n3 m3) cn := ⟨h5.1, h5.2.1, h5.2.2.1, h5.2.2.2.1, h5.2.2.2.2.1, h5.2.2.2.2.2.1⟩
  have V1 := V0.keep (one_below _ (.cells #[.int .i64 tq, .int .i64 th, .int .i64 tk, .slice a1 n1 m1, .int .i64 so, .int .i64 sh, .int .i64 sk, .slice a2 n2 m2] 24))
  have hnew := heap_alloc_new (((((w.alloc (.cells #[.int .i64 tq, .int .i64 th, .int .i64 tk, .slice a1 n1 m1] 24)).alloc (.cells #[.int .i64 n] 3)).alloc (.cells #[.int .i64 so, .int .i64 sh, .int .i64 sk, .slice a2 n2 m2] 24)).alloc (.cells #[.slice a3 n3 m3, .int .i64 cn] 27)).alloc (.cells #[.int .i64 0, .int .i64 0, .int .i64 0, .slice none 0 0] 24)) (.cells #[.int .i64 tq, .int .i64 th, .int .i64 tk, .slice a1 n1 m1, .int .i64 so, .int .i64 sh, .int .i64 sk, .slice a2 n2 m2] 24)
  rw [h5.2.2.2.2.2.2] at hnew
  have call1 := areProper_any (.slice (some ⟨w.heap.size + 1 + 1 + 1 + 1 + 1, 0, none⟩) 2 2) [.mk tq th tk ta, .mk so sh sk sa] _ (lies_two (S := fun _ => True) trivial hnew ft fs (lt.keep V1.below) (ls.keep V1.below))
  have call3 : ∀ w1, Below w.heap.size w w1 → _ := fun w1 hb => Sp.isSmall_any cn (.slice a3 n3 m3) Ss w1 (lS.keep hb)
  have HV := Lib.hid V1
  have ways : ((Tm.proper (.mk tq th tk ta) && (Tm.proper (.mk so sh sk sa) && true)) = false) ∨ ((Tm.proper (.mk tq th tk ta) && (Tm.proper (.mk so sh sk sa) && true)) = true ∧ isNum n = false) ∨ ((Tm.proper (.mk tq th tk ta) && (Tm.proper (.mk so sh sk sa) && true)) = true ∧ isNum n = true ∧ Sp.Tm.small (.mk cn Ss) = false) := by
    revert hbad
    cases Tm.proper (.mk tq th tk ta) <;> cases Tm.proper (.mk so sh sk sa) <;> cases isNum n <;> cases Sp.Tm.small (.mk cn Ss) <;> simp
  have call2 := fun W => isNumber_any n W
  simp only [List.all_cons, List.all_nil] at call1
  clear h5 hnew hbad V0 V1 lt ls lS ft fs
  rcases ways with hp | ⟨hp, hq⟩ | ⟨hp, hq, hS⟩
  all_goals
    rw [hp] at call1
    try simp only [hq] at call2
    try simp only [hS] at call3
    clear hp
    try clear hq
    try clear hS
    go_enter Try.func14, Try.ntmps14
    go_wp2_with fail
    refine call1.mono ?_
    rintro e w1 ⟨rfl, hb1⟩
    have V2 := HV.out.keep hb1
    have hcn := cell_in V2.hn 0 _ rfl
    obtain ⟨⟨q0, q1⟩, _⟩ := cells2_of V2.hS
    obtain ⟨y0, y1, y2, y3⟩ := c4_of V2.hr
    have f0 := free_in V2.hr 0
    have f1 := free_in V2.hr 1
    have f2 := free_in V2.hr 2
    have f3 := free_in V2.hr 3
    have HV2 := Lib.hid V2
    clear V2 hb1 call1
    go_wp2_with (first | (go_at_call 40; (with_reducible refine (call2 _).mono ?_); rintro e w2 ⟨rfl, rfl⟩) | fail)
  · refine subst_zero HV2.out ⟨rfl, rfl, rfl⟩
  · refine subst_zero HV2.out ⟨rfl, rfl, rfl⟩
  · refine (call3 _ HV2.out.below).mono ?_
    rintro e w2 ⟨rfl, hb2⟩
    have V3 := HV2.out.keep hb2
    clear y0 y1 y2 y3 f0 f1 f2 f3 hcn q0 q1 HV2
    obtain ⟨y0, y1, y2, y3⟩ := c4_of V3.hr
    have f0 := free_in V3.hr 0
    have f1 := free_in V3.hr 1
    have f2 := free_in V3.hr 2
    have f3 := free_in V3.hr 3
    have HV2 := Lib.hid V3
    clear V3 hb2 call3
    go_wp2_with fail
    refine subst_zero HV2.out ⟨rfl, rfl, rfl⟩
set_option maxHeartbeats 4000000 in
set_option maxRecDepth 100000 in
theorem subst_good (tq th tk n so sh sk cn : Int) (ta sa : List Tm) (Ss : List Sp.Tm) (tv sv Sv : Value) (w : World) (lt : Lies w (fun _ => True) tv ta) (ls : Lies w (fun _ => True) sv sa) (lS : Sp.Lies w (fun _ => True) Sv Ss)
    (ft : (Tm.mk tq th tk ta).fit) (fs : (Tm.mk so sh sk sa).fit) (hpt : Tm.proper (.mk tq th tk ta) = true) (hps : Tm.proper (.mk so sh sk sa) = true) (hq : isNum n = true) (hS : Sp.Tm.small (.mk cn Ss) = true) :
    Calls Try.prog 14 #[.agg #[.int .i64 tq, .int .i64 th, .int .i64 tk, tv], .int .i64 n, .agg #[.int .i64 so, .int .i64 sh, .int .i64 sk, sv], .agg #[Sv, .int .i64 cn]] w (GivesE w (outOf (put (.mk cn Ss) (.mk so sh sk sa) n (.mk tq th tk ta) 0))) := by
  obtain ⟨a1, n1, m1, rfl⟩ := lt.isSlice
  obtain ⟨a2, n2, m2, rfl⟩ := ls.isSlice
  obtain ⟨a3, n3, m3, rfl⟩ := lS.isSlice
  have h5 := blocks5 w #[.int .i64 tq, .int .i64 th, .int .i64 tk, .slice a1 n1 m1] #[.int .i64 n] #[.int .i64 so, .int .i64 sh, .int .i64 sk, .slice a2 n2 m2] #[.slice a3 n3 m3, .int .i64 cn] #[.int .i64 0, .int .i64 0, .int .i64 0, .slice none 0 0] 24 3 24 27 24
  have V0 : SuVar w _ (.mk tq th tk ta) (.slice a1 n1 m1) n (.mk so sh sk sa) (.slice a2 n2 m2) (.slice a3 n3 m3) cn := ⟨h5.1, h5.2.1, h5.2.2.1, h5.2.2.2.1, h5.2.2.2.2.1, h5.2.2.2.2.2.1⟩
  have V1 := V0.keep (one_below _ (.cells #[.int .i64 tq, .int .i64 th, .int .i64 tk, .slice a1 n1 m1, .int .i64 so, .int .i64 sh, .int .i64 sk, .slice a2 n2 m2] 24))
  have hnew := heap_alloc_new (((((w.alloc (.cells #[.int .i64 tq, .int .i64 th, .int .i64 tk, .slice a1 n1 m1] 24)).alloc (.cells #[.int .i64 n] 3)).alloc (.cells #[.int .i64 so, .int .i64 sh, .int .i64 sk, .slice a2 n2 m2] 24)).alloc (.cells #[.slice a3 n3 m3, .int .i64 cn] 27)).alloc (.cells #[.int .i64 0, .int .i64 0, .int .i64 0, .slice none 0 0] 24)) (.cells #[.int .i64 tq, .int .i64 th, .int .i64 tk, .slice a1 n1 m1, .int .i64 so, .int .i64 sh, .int .i64 sk, .slice a2 n2 m2] 24)
  rw [h5.2.2.2.2.2.2] at hnew
  have call1 := areProper_any (.slice (some ⟨w.heap.size + 1 + 1 + 1 + 1 + 1, 0, none⟩) 2 2) [.mk tq th tk ta, .mk so sh sk sa] _ (lies_two (S := fun _ => True) trivial hnew ft fs (lt.keep V1.below) (ls.keep V1.below))
  have call3 : ∀ w1, Below w.heap.size w w1 → _ := fun w1 hb => Sp.isSmall_any cn (.slice a3 n3 m3) Ss w1 (lS.keep hb)
  have HV := Lib.hid V1
  have call2 := fun W => isNumber_any n W
  have hn01 : 0 ≤ n ∧ n ≤ 9999 := by simpa [isNum] using hq
  have hF : ∀ args w, (callFunc 43 args).run Try.prog w = .ok (.enter 43 args) w := fun args w => by simp [go_sem]
  obtain ⟨r, hr⟩ : ∃ r, r = put (.mk cn Ss) (.mk so sh sk sa) n (.mk tq th tk ta) 0 := ⟨_, rfl⟩
  have call4 : ∀ w1, SuVar w w1 (.mk tq th tk ta) (.slice a1 n1 m1) n (.mk so sh sk sa) (.slice a2 n2 m2) (.slice a3 n3 m3) cn → Calls Try.prog 42 #[.func (.func 43) #[] #[.pointer (some ⟨w.heap.size + 1 + 1, 0, none⟩), .pointer (some ⟨w.heap.size + 1 + 1 + 1, 0, none⟩), .pointer (some ⟨w.heap.size, 0, none⟩), .pointer (some ⟨w.heap.size + 1, 0, none⟩)]] w1 (GivesE w1 (outOf r)) := fun w1 V => by
    have hsz := lt_blk V.hr
    have box : ∀ w2, Below w1.heap.size w1 w2 → SuBox w2 (w1.heap.size + 1 + 1) (w.heap.size + 1 + 1) (w.heap.size + 1 + 1 + 1) w.heap.size (w.heap.size + 1) (.mk so sh sk sa) (.slice a2 n2 m2) (.slice a3 n3 m3) cn Ss (.mk tq th tk ta) (.slice a1 n1 m1) n := fun w2 hb => by
      have V' := V.keep hb
      refine ⟨V'.hs, V'.hS, V'.ht, V'.hn, (ls.more (S' := (· ≠ w1.heap.size + 1 + 1)) fun b hlt _ => ?_).keep V'.below, (lS.more (S' := (· ≠ w1.heap.size + 1 + 1)) fun b hlt _ => ?_).keep V'.below, (lt.more (S' := (· ≠ w1.heap.size + 1 + 1)) fun b hlt _ => ?_).keep V'.below, by omega⟩
      all_goals
        have := V.below.size
        omega
    rcases hrr : r with ⟨x, c⟩ | x
    · exact finish_ok _ _ x c w1 hF fun w2 hb hc => substC_ok _ _ _ _ _ so sh sk tq th tk n cn sa ta Ss _ _ _ w2 x c (box w2 hb) hc hps hpt hn01.1 hn01.2 (by rw [← hr, hrr])
    · exact finish_er _ _ x w1 hF fun w2 hb hc => substC_er _ _ _ _ _ so sh sk tq th tk n cn sa ta Ss _ _ _ w2 x (box w2 hb) hc hps hpt hn01.1 hn01.2 (by rw [← hr, hrr])
  rw [← hr]
  generalize outOf r = R at call4 ⊢
  obtain ⟨x, xe⟩ := R
  simp only [List.all_cons, List.all_nil, hpt, hps, Bool.and_self] at call1
  simp only [hq] at call2
  simp only [hS] at call3
  have HF := Lib.hid hF
  clear h5 hnew V0 V1 lt ls lS ft fs hpt hps hq hS hn01 hr hF
  go_enter Try.func14, Try.ntmps14
  go_wp2_with fail
  refine call1.mono ?_
  rintro e w1 ⟨rfl, hb1⟩
  have V2 := HV.out.keep hb1
  have hcn := cell_in V2.hn 0 _ rfl
  obtain ⟨⟨q0, q1⟩, _⟩ := cells2_of V2.hS
  have HV2 := Lib.hid V2
  clear V2 hb1 call1
  go_wp2_with (first | (go_at_call 40; (with_reducible refine (call2 _).mono ?_); rintro e w2 ⟨rfl, rfl⟩) | fail)
  refine (call3 _ HV2.out.below).mono ?_
  rintro e w2 ⟨rfl, hb2⟩
  have V3 := HV2.out.keep hb2
  clear hcn q0 q1 HV2
  obtain ⟨y0, y1, y2, y3⟩ := c4_of V3.hr
  have f0 := free_in V3.hr 0
  have f1 := free_in V3.hr 1
  have f2 := free_in V3.hr 2
  have f3 := free_in V3.hr 3
  have HV3 := Lib.hid V3
  clear V3 hb2 call3 call2
  have hmf : ∀ (fn : Fn) (first cap : Array Value) (w : World), (Instr.makeFunc fn first cap).run Try.prog w = .ok (.func fn first cap) w := fun _ _ _ _ => rfl
  go_wp2_with fail
  refine (call4 _ HV3.out).mono ?_
  rintro e w3 ⟨v, rfl, hb3, L⟩
  obtain ⟨a4, n4, m4, rfl⟩ := L.isSlice
  dsimp only at L
  have V4 := HV3.out.keep hb3
  have hsz := lt_blk HV3.out.hr
  have hsw := HV3.out.below.size
  clear y0 y1 y2 y3 f0 f1 f2 f3 call4 HV3
  obtain ⟨y0, y1, y2, y3⟩ := c4_of V4.hr
  have f0 := free_in V4.hr 0
  have f1 := free_in V4.hr 1
  have f2 := free_in V4.hr 2
  have f3 := free_in V4.hr 3
  have HV4 := Lib.hid V4
  have HL := Lib.hid (And.intro L (And.intro hsz hsw))
  clear V4 hb3 L hsz hsw
  go_wp2_with fail
  have hz := set4_at HV4.out.hr (.int .i64 x.op) (.int .i64 x.hd) (.int .i64 x.n) (.slice a4 n4 m4)
  obtain ⟨z0, z1, z2, z3⟩ := c4_of hz
  refine bodyPost_ret (v := .tuple #[.agg #[.int .i64 x.op, .int .i64 x.hd, .int .i64 x.n, .slice a4 n4 m4], .int .i64 xe]) (by simp [results, Try.results14, go_sem, z0, z1, z2, z3]) rfl ?_
  have h4 : w.heap.size ≤ w.heap.size + 1 + 1 + 1 + 1 := by omega
  obtain ⟨L, hsz, hsw⟩ := HL.out
  refine ⟨_, rfl, ((((HV4.out.below.setCell h4 _).setCell h4 _).setCell h4 _).setCell h4 _), (L.still fun b hS hlt => set4_other _ _ _ _ ?_).more fun b _ hS => ?_⟩
  · omega
  · omega

/-- the contract of Subst -/
theorem subst_any (t s : Tm) (n cn : Int) (Ss : List Sp.Tm) (tv sv Sv : Value) (w : World) (lt : Lies w (fun _ => True) tv t.args) (ls : Lies w (fun _ => True) sv s.args) (lS : Sp.Lies w (fun _ => True) Sv Ss) (ft : t.fit) (fs : s.fit) :
    Calls Try.prog 14 #[.agg #[.int .i64 t.op, .int .i64 t.hd, .int .i64 t.n, tv], .int .i64 n, .agg #[.int .i64 s.op, .int .i64 s.hd, .int .i64 s.n, sv], .agg #[Sv, .int .i64 cn]] w (GivesE w (substOut t n s (.mk cn Ss))) := by
  obtain ⟨tq, th, tk, ta⟩ := t
  obtain ⟨so, sh, sk, sa⟩ := s
  unfold substOut
  rcases h : (Tm.proper (.mk tq th tk ta) && Tm.proper (.mk so sh sk sa) && isNum n && Sp.Tm.small (.mk cn Ss)) with _ | _
  · exact subst_bad tq th tk n so sh sk cn ta sa Ss tv sv Sv w lt ls lS ft fs h
  · simp only [Bool.and_eq_true] at h
    exact subst_good tq th tk n so sh sk cn ta sa Ss tv sv Sv w lt ls lS ft fs h.1.1.1 h.1.1.2 h.1.2 h.2
end Go.Proofs.Ytieakippgeehgaa.Sb
