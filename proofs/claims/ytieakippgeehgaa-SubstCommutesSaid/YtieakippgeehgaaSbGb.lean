/- apply: its boxes. * The contract of apply, given those of in. * The contract of apply, where the object cannot be moved. * The contracts of in and apply, closed. -/
import Derived.Test.YtieakippgeehgaaSbGa
import Derived.Deep.RegionHeld2
import Derived.BigRegion
import Derived.Deep.DeepCutAuto
import Derived.Deep.LoopGhost
import Derived.OwnWalk
namespace Go.Proofs.Ytieakippgeehgaa.Sb
open Go.RowKit
set_option linter.unusedSimpArgs false
set_option linter.unusedVariables false

abbrev Cells8 (W : World) (B : Nat) (o h k : Int) (sv : Value) (x y : Int) (Sv : Value) (cn : Int) : Prop :=
  W.cell? ⟨B, 1, none⟩ = some (.int .i64 o) ∧ W.cell? ⟨B, 2, none⟩ = some (.int .i64 h) ∧ W.cell? ⟨B, 3, none⟩ = some (.int .i64 k) ∧ W.cell? ⟨B, 4, none⟩ = some sv ∧ W.cell? ⟨B, 5, none⟩ = some (.int .i64 x) ∧ W.cell? ⟨B, 6, none⟩ = some (.int .i64 y) ∧ W.cell? ⟨B, 7, none⟩ = some Sv ∧ W.cell? ⟨B, 8, none⟩ = some (.int .i64 cn)
theorem cells8_below {W W' : World} {B : Nat} {o h k : Int} {sv : Value} {x y : Int} {Sv : Value} {cn : Int} (hb : Below W.heap.size W W') (c : Cells8 W B o h k sv x y Sv cn) : Cells8 W' B o h k sv x y Sv cn := by
  obtain ⟨x1, x2, x3, x4, x5, x6, x7, x8⟩ := c
  exact ⟨kept_cell hb x1, kept_cell hb x2, kept_cell hb x3, kept_cell hb x4, kept_cell hb x5, kept_cell hb x6, kept_cell hb x7, kept_cell hb x8⟩

theorem heap_new_at {X : World} {ob : Obj} {k : Nat} (h : X.heap.size = k) : (X.alloc ob).heap[k]? = some ob := by
  subst h; exact heap_alloc_new X ob
theorem cells8_set {W : World} {B k j : Nat} {o h n : Int} {sv : Value} {x y : Int} {Sv : Value} {cn : Int} {v : Value} (hne : B ≠ k) (c : Cells8 W B o h n sv x y Sv cn) : Cells8 (W.setCell ⟨k, j, none⟩ v) B o h n sv x y Sv cn := by
  have hb : (W.setCell ⟨k, j, none⟩ v).heap[B]? = W.heap[B]? := Below.heap_setCell _ _ _ _ (by simpa using hne)
  have go : ∀ j' u, W.cell? ⟨B, j', none⟩ = some u → (W.setCell ⟨k, j, none⟩ v).cell? ⟨B, j', none⟩ = some u := fun j' u e => by rw [World.cell?_of_block (w := W) hb]; exact e
  obtain ⟨x1, x2, x3, x4, x5, x6, x7, x8⟩ := c
  exact ⟨go _ _ x1, go _ _ x2, go _ _ x3, go _ _ x4, go _ _ x5, go _ _ x6, go _ _ x7, go _ _ x8⟩
theorem cells8_six {W : World} {B k : Nat} {o h n : Int} {sv : Value} {x y : Int} {Sv : Value} {cn : Int} {a b c d e f : Value} (hne : B ≠ k) (H : Cells8 W B o h n sv x y Sv cn) : Cells8 ((((((W.setCell ⟨k, 0, none⟩ a).setCell ⟨k, 1, none⟩ b).setCell ⟨k, 2, none⟩ c).setCell ⟨k, 3, none⟩ d).setCell ⟨k, 4, none⟩ e).setCell ⟨k, 5, none⟩ f) B o h n sv x y Sv cn :=
  cells8_set hne (cells8_set hne (cells8_set hne (cells8_set hne (cells8_set hne (cells8_set hne H)))))
theorem cells8_two {W : World} {B k : Nat} {o h n : Int} {sv : Value} {x y : Int} {Sv : Value} {cn : Int} {a b : Value} (hne : B ≠ k) (H : Cells8 W B o h n sv x y Sv cn) : Cells8 ((W.setCell ⟨k, 0, none⟩ a).setCell ⟨k, 1, none⟩ b) B o h n sv x y Sv cn :=
  cells8_set hne (cells8_set hne H)
theorem cells8_al {W : World} {B : Nat} {o h n : Int} {sv : Value} {x y : Int} {Sv : Value} {cn : Int} (ob : Obj) (c : Cells8 W B o h n sv x y Sv cn) : Cells8 (W.alloc ob) B o h n sv x y Sv cn := cells8_below (one_below _ _) c
theorem cells2_of {w : World} {B : Nat} {a b : Value} {t : TypeId} (h : w.heap[B]? = some (.cells #[a, b] t (0, 0))) :
    (w.cell? ⟨B, 0, none⟩ = some a ∧ w.cell? ⟨B, 1, none⟩ = some b) ∧ (w.frozen? ⟨B, 0, none⟩ = false ∧ w.frozen? ⟨B, 1, none⟩ = false) :=
  ⟨⟨cell_in h 0 _ rfl, cell_in h 1 _ rfl⟩, free_in h 0, free_in h 1⟩

theorem pre6 {w : World} {B : Nat} {a b c d e f : Value} {t : TypeId} (h : w.heap[B]? = some (.cells #[a, b, c, d, e, f] t (0, 0))) (hne : B ≠ w.heap.size) (t2 : TypeId) (a' b' c' d' e' f' : Value) :
    ((w.cell? ⟨B, 0, none⟩ = some a ∧ w.cell? ⟨B, 1, none⟩ = some b ∧ w.cell? ⟨B, 2, none⟩ = some c ∧ w.cell? ⟨B, 3, none⟩ = some d ∧ w.cell? ⟨B, 4, none⟩ = some e ∧ w.cell? ⟨B, 5, none⟩ = some f) ∧
    (w.frozen? ⟨B, 0, none⟩ = false ∧ w.frozen? ⟨B, 1, none⟩ = false ∧ w.frozen? ⟨B, 2, none⟩ = false ∧ w.frozen? ⟨B, 3, none⟩ = false ∧ w.frozen? ⟨B, 4, none⟩ = false ∧ w.frozen? ⟨B, 5, none⟩ = false)) ∧
    (((w.alloc (.cells #[.slice none 0 0, .int .i64 0] t2)).cell? ⟨B, 0, none⟩ = some a ∧ (w.alloc (.cells #[.slice none 0 0, .int .i64 0] t2)).cell? ⟨B, 1, none⟩ = some b ∧ (w.alloc (.cells #[.slice none 0 0, .int .i64 0] t2)).cell? ⟨B, 2, none⟩ = some c ∧ (w.alloc (.cells #[.slice none 0 0, .int .i64 0] t2)).cell? ⟨B, 3, none⟩ = some d ∧ (w.alloc (.cells #[.slice none 0 0, .int .i64 0] t2)).cell? ⟨B, 4, none⟩ = some e ∧ (w.alloc (.cells #[.slice none 0 0, .int .i64 0] t2)).cell? ⟨B, 5, none⟩ = some f) ∧
    ((w.alloc (.cells #[.slice none 0 0, .int .i64 0] t2)).frozen? ⟨B, 0, none⟩ = false ∧ (w.alloc (.cells #[.slice none 0 0, .int .i64 0] t2)).frozen? ⟨B, 1, none⟩ = false ∧ (w.alloc (.cells #[.slice none 0 0, .int .i64 0] t2)).frozen? ⟨B, 2, none⟩ = false ∧ (w.alloc (.cells #[.slice none 0 0, .int .i64 0] t2)).frozen? ⟨B, 3, none⟩ = false ∧ (w.alloc (.cells #[.slice none 0 0, .int .i64 0] t2)).frozen? ⟨B, 4, none⟩ = false ∧ (w.alloc (.cells #[.slice none 0 0, .int .i64 0] t2)).frozen? ⟨B, 5, none⟩ = false)) ∧
    (((((((((w.alloc (.cells #[.slice none 0 0, .int .i64 0] t2)).setCell ⟨B, 0, none⟩ a').setCell ⟨B, 1, none⟩ b').setCell ⟨B, 2, none⟩ c').setCell ⟨B, 3, none⟩ d').setCell ⟨B, 4, none⟩ e').setCell ⟨B, 5, none⟩ f').cell? ⟨w.heap.size, 0, none⟩ = some (.slice none 0 0) ∧ (((((((w.alloc (.cells #[.slice none 0 0, .int .i64 0] t2)).setCell ⟨B, 0, none⟩ a').setCell ⟨B, 1, none⟩ b').setCell ⟨B, 2, none⟩ c').setCell ⟨B, 3, none⟩ d').setCell ⟨B, 4, none⟩ e').setCell ⟨B, 5, none⟩ f').cell? ⟨w.heap.size, 1, none⟩ = some (.int .i64 0)) ∧
    (((((((w.alloc (.cells #[.slice none 0 0, .int .i64 0] t2)).setCell ⟨B, 0, none⟩ a').setCell ⟨B, 1, none⟩ b').setCell ⟨B, 2, none⟩ c').setCell ⟨B, 3, none⟩ d').setCell ⟨B, 4, none⟩ e').setCell ⟨B, 5, none⟩ f').frozen? ⟨w.heap.size, 0, none⟩ = false ∧ (((((((w.alloc (.cells #[.slice none 0 0, .int .i64 0] t2)).setCell ⟨B, 0, none⟩ a').setCell ⟨B, 1, none⟩ b').setCell ⟨B, 2, none⟩ c').setCell ⟨B, 3, none⟩ d').setCell ⟨B, 4, none⟩ e').setCell ⟨B, 5, none⟩ f').frozen? ⟨w.heap.size, 1, none⟩ = false) := by
  have h1 := heap_alloc_new w (.cells #[.slice none 0 0, .int .i64 0] t2)
  have h2 : (set6 (w.alloc (.cells #[.slice none 0 0, .int .i64 0] t2)) B a' b' c' d' e' f').heap[w.heap.size]? = _ := (set6_other a' b' c' d' e' f' (fun e => hne e.symm)).trans h1
  exact ⟨cells6_of h, cells6_of (heap_kept (one_below w _) h), cells2_of h2⟩

/-- the two boxes of apply -/
structure AppSt (w0 wx : World) (B D : Nat) (a b c v e f s1 s2 : Value) (ml : List Tm) : Prop where
  ne : B ≠ D
  hB : wx.heap[B]? = some (.cells #[a, b, c, v, e, f] 77 (0, 0))
  hD : wx.heap[D]? = some (.cells #[s1, s2] 27 (0, 0))
  bB : w0.heap.size ≤ B
  bD : w0.heap.size ≤ D
  lies : Lies wx (fun b => w0.heap.size ≤ b ∧ b ≠ B ∧ b ≠ D) v ml
  below : Below w0.heap.size w0 wx

section
variable {w0 wn wx : World} {B D nb : Nat} {a b c v e f s1 s2 : Value} {ml : List Tm}
theorem AppSt.of (hx : Below w0.heap.size w0 wx) (L : Lies wn (nb ≤ ·) v ml) (ne : B ≠ D) (hB : wx.heap[B]? = some (.cells #[a, b, c, v, e, f] 77 (0, 0))) (hD : wx.heap[D]? = some (.cells #[s1, s2] 27 (0, 0)))
    (h0 : w0.heap.size ≤ nb) (bB : w0.heap.size ≤ B) (bD : w0.heap.size ≤ D) (cB : B < nb ∨ wn.heap.size ≤ B) (cD : D < nb ∨ wn.heap.size ≤ D) (hk : ∀ b, nb ≤ b → b < wn.heap.size → wx.heap[b]? = wn.heap[b]?) : AppSt w0 wx B D a b c v e f s1 s2 ml :=
  ⟨ne, hB, hD, bB, bD, ((L.more (S' := fun b => nb ≤ b ∧ b ≠ B ∧ b ≠ D) (fun b hlt hS => ⟨hS, by have hS' : nb ≤ b := hS; omega, by have hS' : nb ≤ b := hS; omega⟩)).still (fun b hS hlt => hk b hS.1 hlt)).more (fun b _ hS => ⟨Nat.le_trans h0 hS.1, hS.2⟩), hx⟩
variable (hn : Below w0.heap.size w0 wn) (L : Lies wn (nb ≤ ·) v ml) (h0 : w0.heap.size ≤ nb)
include hn L h0
theorem AppSt.post1 : AppSt w0 ((wn.alloc (.cells #[a, b, c, v, e, f] 77)).alloc (.cells #[s1, s2] 27)) wn.heap.size (wn.heap.size + 1) a b c v e f s1 s2 ml := by
  have h2 := two_blocks wn #[a, b, c, v, e, f] #[s1, s2] 77 27
  have hs := hn.size
  exact AppSt.of (below_next hn (two_below _ _ _)) L (by omega) h2.1 h2.2 h0 hs (by omega) (.inr (Nat.le_refl _)) (.inr (Nat.le_succ _)) fun b _ hlt => (two_below _ _ _).block b hlt
theorem AppSt.post2 : AppSt w0 ((wn.alloc (.cells #[s1, s2] 27)).alloc (.cells #[a, b, c, v, e, f] 77)) (wn.heap.size + 1) wn.heap.size a b c v e f s1 s2 ml := by
  have h2 := two_blocks wn #[s1, s2] #[a, b, c, v, e, f] 27 77
  have hs := hn.size
  exact AppSt.of (below_next hn (two_below _ _ _)) L (by omega) h2.2 h2.1 h0 (by omega) hs (.inr (Nat.le_succ _)) (.inr (Nat.le_refl _)) fun b _ hlt => (two_below _ _ _).block b hlt
variable {a0 b0 c0 d0 e0 f0 x0 y0 : Value}
omit hn L h0 in
theorem set2_other2 {w : World} {B k : Nat} (a b : Value) (h : k ≠ B) : ((w.setCell ⟨B, 0, none⟩ a).setCell ⟨B, 1, none⟩ b).heap[k]? = w.heap[k]? := by
  rw [Below.heap_setCell _ _ _ _ (by simpa using h), Below.heap_setCell _ _ _ _ (by simpa using h)]
omit hn L h0 in
theorem set2_below {w w' : World} {B k : Nat} (h : Below B w w') (hB : B ≤ k) (a b : Value) : Below B w ((w'.setCell ⟨k, 0, none⟩ a).setCell ⟨k, 1, none⟩ b) := (h.setCell hB _).setCell hB _
/-- both boxes there ahead of the call -/
theorem AppSt.both (z : wn.heap[B]? = some (.cells #[a0, b0, c0, d0, e0, f0] 77 (0, 0))) (z2 : wn.heap[D]? = some (.cells #[x0, y0] 27 (0, 0))) (ne : B ≠ D) (bB : w0.heap.size ≤ B) (bD : w0.heap.size ≤ D) (cB : B < nb) (cD : D < nb) :
    AppSt w0 (((set6 wn B a b c v e f).setCell ⟨D, 0, none⟩ s1).setCell ⟨D, 1, none⟩ s2) B D a b c v e f s1 s2 ml := by
  have hb6 := set6_at z a b c v e f
  have hd6 : (set6 wn B a b c v e f).heap[D]? = _ := (set6_other a b c v e f (fun x => ne x.symm)).trans z2
  have hd2 := set2_at hd6 s1 s2
  exact AppSt.of (set2_below (set6_below hn bB _ _ _ _ _ _) bD _ _) L ne ((set2_other2 s1 s2 ne).trans hb6) hd2 h0 bB bD (.inl cB) (.inl cD) fun k hk _ => (set2_other2 s1 s2 (by omega)).trans (set6_other a b c v e f (by omega))
theorem AppSt.pre6 (z : wn.heap[B]? = some (.cells #[a0, b0, c0, d0, e0, f0] 77 (0, 0))) (bB : w0.heap.size ≤ B) (cB : B < nb) (cn : nb ≤ wn.heap.size) :
    AppSt w0 (((set6 (wn.alloc (.cells #[x0, y0] 27)) B a b c v e f).setCell ⟨wn.heap.size, 0, none⟩ s1).setCell ⟨wn.heap.size, 1, none⟩ s2) B wn.heap.size a b c v e f s1 s2 ml := by
  have hs := hn.size
  have hb6 := set6_at (heap_kept (one_below wn (.cells #[x0, y0] 27)) z) a b c v e f
  have hd6 : (set6 (wn.alloc (.cells #[x0, y0] 27)) B a b c v e f).heap[wn.heap.size]? = _ := (set6_other a b c v e f (by omega)).trans (heap_alloc_new wn _)
  have hd2 := set2_at hd6 s1 s2
  exact AppSt.of (set2_below (set6_below (below_al hn _) bB _ _ _ _ _ _) hs _ _) L (by omega) ((set2_other2 s1 s2 (by omega)).trans hb6) hd2 h0 bB hs (.inl cB) (.inr (Nat.le_refl _)) fun k hk hlt => ((set2_other2 s1 s2 (by omega)).trans (set6_other a b c v e f (by omega))).trans ((one_below _ _).block k hlt)
theorem AppSt.pre2 (z2 : wn.heap[D]? = some (.cells #[x0, y0] 27 (0, 0))) (bD : w0.heap.size ≤ D) (cD : D < nb) (cn : nb ≤ wn.heap.size) :
    AppSt w0 (((wn.alloc (.cells #[a, b, c, v, e, f] 77)).setCell ⟨D, 0, none⟩ s1).setCell ⟨D, 1, none⟩ s2) wn.heap.size D a b c v e f s1 s2 ml := by
  have hs := hn.size
  have hd2 := set2_at (heap_kept (one_below wn (.cells #[a, b, c, v, e, f] 77)) z2) s1 s2
  exact AppSt.of (set2_below (below_al hn _) bD _ _) L (by omega) ((set2_other2 s1 s2 (by omega)).trans (heap_alloc_new wn _)) hd2 h0 hs bD (.inr (Nat.le_refl _)) (.inl cD) fun k hk hlt => (set2_other2 s1 s2 (by omega)).trans ((one_below _ _).block k hlt)
end

end Go.Proofs.Ytieakippgeehgaa.Sb

namespace Go.Proofs.Ytieakippgeehgaa.Sb
open Go.RowKit
set_option linter.unusedSimpArgs false
set_option linter.unusedVariables false

theorem spTail {w : World} {S : Nat → Prop} {ao ao' : Option Addr} {b off len cap : Nat} {k : Nat → Int} {sv : Nat → Value} {ts : Nat → List Sp.Tm} {l : List Sp.Tm} (R : Sp.RowAt w S ao b off len cap k sv ts l) (h0 : 0 < len) (ha : 0 < len - 1 → ao' = some ⟨b, off + 2, none⟩) :
    Sp.Lies w S (.slice ao' (len - 1) (cap - 1)) l.tail := by
  obtain ⟨n, rfl⟩ : ∃ n, len = n + 1 := ⟨len - 1, by omega⟩
  have h := Sp.Lies.row (w := w) (S := S) ao' b (off + 2) n (cap - 1) (fun i => k (i + 1)) (fun i => sv (i + 1)) (fun i => ts (i + 1)) ha (fun _ => R.hS (by omega)) (by have := R.hl; omega) (by have := R.hr; omega)
    (fun i hi => by have := R.c0 (i + 1) (by omega); rwa [show off + (i + 1) * 2 = off + 2 + i * 2 by omega] at this)
    (fun i hi => by have := R.c1 (i + 1) (by omega); rwa [show off + (i + 1) * 2 + 1 = off + 2 + i * 2 + 1 by omega] at this)
    (fun i hi => R.r2 (i + 1) (by omega)) (fun i hi => R.sub (i + 1) (by omega))
  have e : l.tail = (List.range n).map fun i => .mk (k (i + 1)) (ts (i + 1)) := by
    rw [R.isRow, List.range_succ_eq_map]; simp
  rw [e]; exact h

/-- the loop of apply -/
structure ApL (w w0 wr : World) (C B D : Nat) (Ss : List Sp.Tm) (M : Tm) (sp : List Tm) (c : Nat) (cn : Int) (j : Nat) (f : Tm) (fv Sv : Value) (cj : Nat) : Prop where
  only : Only C w0 wr
  cnt : cntAt C cj wr
  bd : cj ≤ 20000
  hB : wr.heap[B]? = some (.cells #[.int .i64 f.op, .int .i64 f.hd, .int .i64 f.n, fv, .int .i64 (Tm.sz f : Nat), .int .i64 (Tm.depth f : Nat)] 77 (0, 0))
  hD : wr.heap[D]? = some (.cells #[Sv, .int .i64 cn] 27 (0, 0))
  lf : Lies wr (fun b => w0.heap.size ≤ b ∧ b ≠ B ∧ b ≠ D) fv f.args
  ls : Sp.Lies w (· ≠ C) Sv (Ss.drop j)
  pr : Tm.proper f = true
  sofar : app Ss M sp c = app (Ss.drop j) f (sp.drop j) cj

theorem ApL.next {w w0 wr w3 : World} {C B D : Nat} {Ss : List Sp.Tm} {M : Tm} {sp : List Tm} {c : Nat} {cn : Int} {j : Nat} {f : Tm} {fv Sv v Sv' : Value} {cj c' : Nat} {x : Tm} {o : Obj} (H : ApL w w0 wr C B D Ss M sp c cn j f fv Sv cj) (hne : B ≠ D) (bB : w0.heap.size ≤ B) (bD : w0.heap.size ≤ D) (hcw : C < w0.heap.size)
    (ho3 : Only C (wr.alloc o).drew w3) (hc3 : cntAt C c' w3) (hcb : c' ≤ 20000) (L3 : Lies w3 ((wr.alloc o).drew.heap.size ≤ ·) v x.args) (hpx : Tm.proper x = true) (hnx : app Ss M sp c = app (Ss.drop (j + 1)) x (sp.drop (j + 1)) c') (hls : Sp.Lies w (· ≠ C) Sv' (Ss.drop (j + 1))) :
    ApL w w0 ((set6 w3 B (.int .i64 x.op) (.int .i64 x.hd) (.int .i64 x.n) v (.int .i64 (Tm.sz x : Nat)) (.int .i64 (Tm.depth x : Nat))).setCell ⟨D, 0, none⟩ Sv') C B D Ss M sp c cn (j + 1) x v Sv' c' := by
  have lB := lt_blk H.hB
  have lD := lt_blk H.hD
  have hba := (one_below wr o).drew
  have hB3 := Only.keepBlock ho3 (heap_kept hba H.hB) (by omega)
  have hD3 := Only.keepBlock ho3 (heap_kept hba H.hD) (by omega)
  have hB6 := set6_at hB3 (.int .i64 x.op) (.int .i64 x.hd) (.int .i64 x.n) v (.int .i64 (Tm.sz x : Nat)) (.int .i64 (Tm.depth x : Nat))
  have ot := fun (k : Nat) (hk : k ≠ B) => set6_other (w := w3) (B := B) (.int .i64 x.op) (.int .i64 x.hd) (.int .i64 x.n) v (.int .i64 (Tm.sz x : Nat)) (.int .i64 (Tm.depth x : Nat)) hk
  have o2 : ∀ (W : World) (k : Nat), k ≠ D → (W.setCell ⟨D, 0, none⟩ Sv').heap[k]? = W.heap[k]? := fun W k hk => Below.heap_setCell _ _ _ _ (by simpa using hk)
  have ho6 := set6_only (.int .i64 x.op) (.int .i64 x.hd) (.int .i64 x.n) v (.int .i64 (Tm.sz x : Nat)) (.int .i64 (Tm.depth x : Nat)) ((H.only.trans (Only.below hba C)).trans ho3) bB
  have hs : Below w0.heap.size (set6 w3 B (.int .i64 x.op) (.int .i64 x.hd) (.int .i64 x.n) v (.int .i64 (Tm.sz x : Nat)) (.int .i64 (Tm.depth x : Nat))) ((set6 w3 B (.int .i64 x.op) (.int .i64 x.hd) (.int .i64 x.n) v (.int .i64 (Tm.sz x : Nat)) (.int .i64 (Tm.depth x : Nat))).setCell ⟨D, 0, none⟩ Sv') := (Below.refl _ _).setCell bD _
  refine ⟨⟨hs.os.trans ho6.out.os, hs.tape.trans ho6.out.tape, hs.output.trans ho6.out.output, Nat.le_trans ho6.size hs.size, fun k hk hne' => (hs.block k hk).trans (ho6.out.block k hk hne')⟩, ?_, hcb, (o2 _ _ hne).trans hB6, ?_, ?_, hls, hpx, hnx⟩
  · exact (o2 _ _ (by omega)).trans ((ot C (by omega)).trans hc3)
  · have := heap_set_at (j := 0) Sv' ((ot D (fun e => hne e.symm)).trans hD3)
    simpa using this
  · have sz := ho3.size
    refine ((L3.more (S' := fun b => (wr.alloc o).drew.heap.size ≤ b) (fun _ _ h => h)).still fun b hS hlt => ?_).more fun b _ hS => ?_
    · have hS' : wr.heap.size + 1 ≤ b := by simpa using hS
      rw [o2 _ _ (by omega), ot _ (by omega)]
    · have hS' : wr.heap.size + 1 ≤ b := by simpa using hS
      have := H.only.size
      exact ⟨by omega, by omega, by omega⟩

set_option maxHeartbeats 8000000 in
set_option maxRecDepth 100000 in
theorem app_any (C : Nat) (cn : Int) (Ss : List Sp.Tm) (so sh sn : Int) (sa : List Tm) (X Y : Nat) (hX : X = Tm.sz (.mk so sh sn sa)) (hY : Y = Tm.depth (.mk so sh sn sa)) (sv Sv spv : Value) (sp : List Tm) (n : Int) (c : Nat) (w : World) (hsv : Lies w (· ≠ C) sv sa) (hSv : Sp.Lies w (· ≠ C) Sv Ss) (hsp : PLies w (· ≠ C) spv sp) (hC : cntAt C c w) (hc : c ≤ 20000) (hn0 : 0 ≤ n) (hn1 : n ≤ 9999) (hps : Tm.proper (.mk so sh sn sa) = true) (hpp : ∀ t ∈ sp, Tm.proper t = true) (hl6 : sp.length ≤ 600) (hm : Tm.proper (Tm.moved n 0 (.mk so sh sn sa)) = true) (ih : ∀ cn1 Ss1, .mk cn1 Ss1 ∈ Ss → ∀ (a : Tm), Tm.proper a = true → ∀ (av S1v : Value) (t : Tm), InOk C a av S1v cn1 Ss1 t) :
    Calls Try.prog 53 #[.agg #[.pointer (some ⟨C, 0, none⟩), .int .i64 so, .int .i64 sh, .int .i64 sn, sv, .int .i64 X, .int .i64 Y, Sv, .int .i64 cn], .int .i64 n, spv] w (GivesP w C (app Ss (Tm.moved n 0 (.mk so sh sn sa)) sp c)) := by
  obtain ⟨aq, nq, mq, rfl⟩ := hsv.isSlice
  obtain ⟨aS, nS, mS, rfl⟩ := hSv.isSlice
  obtain ⟨ap, np, mp, rfl⟩ := hsp.isSlice
  have h2 := two_below w (.cells #[.pointer (some ⟨C, 0, none⟩), .int .i64 so, .int .i64 sh, .int .i64 sn, .slice aq nq mq, .int .i64 X, .int .i64 Y, .slice aS nS mS, .int .i64 cn] 80) (.cells #[.int .i64 0, .int .i64 0, .int .i64 0, .slice none 0 0, .int .i64 0, .int .i64 0] 77)
  have hk := two_blocks w #[.pointer (some ⟨C, 0, none⟩), .int .i64 so, .int .i64 sh, .int .i64 sn, .slice aq nq mq, .int .i64 X, .int .i64 Y, .slice aS nS mS, .int .i64 cn] #[.int .i64 0, .int .i64 0, .int .i64 0, .slice none 0 0, .int .i64 0, .int .i64 0] 80 77
  generalize hw0 : ((w.alloc (.cells #[.pointer (some ⟨C, 0, none⟩), .int .i64 so, .int .i64 sh, .int .i64 sn, .slice aq nq mq, .int .i64 X, .int .i64 Y, .slice aS nS mS, .int .i64 cn] 80)).alloc (.cells #[.int .i64 0, .int .i64 0, .int .i64 0, .slice none 0 0, .int .i64 0, .int .i64 0] 77)) = w0 at h2 hk
  obtain ⟨M, hM⟩ : ∃ M, M = Tm.moved n 0 (.mk so sh sn sa) := ⟨_, rfl⟩
  rw [← hM] at hm ⊢
  obtain ⟨mo, mh, mk, ml⟩ := M
  obtain ⟨X', hX'⟩ : ∃ X, X = Tm.sz (.mk mo mh mk ml) := ⟨_, rfl⟩
  obtain ⟨Y', hY'⟩ : ∃ Y, Y = Tm.depth (.mk mo mh mk ml) := ⟨_, rfl⟩
  have call : ∀ w1, Below w0.heap.size w0 w1 → Calls Try.prog 61 #[.agg #[.int .i64 so, .int .i64 sh, .int .i64 sn, .slice aq nq mq, .int .i64 X, .int .i64 Y], .int .i64 n] w1 (fun e w2 => ∃ a3 n3 m3, e = .returned (.agg #[.int .i64 mo, .int .i64 mh, .int .i64 mk, .slice a3 n3 m3, .int .i64 X', .int .i64 Y']) ∧ Below w0.heap.size w0 w2 ∧ Below w1.heap.size w1 w2 ∧ Lies w2 (w1.heap.size ≤ ·) (.slice a3 n3 m3) ml) := fun w1 hb => by
    have h := shifted_any so sh sn n (.slice aq nq mq) sa w1 ((hsv.more (S' := fun _ => True) (fun _ _ _ => trivial)).keep (below_next h2 hb)) hps hn0 hn1
    unfold GivesSh GivesPc at h
    simp only [← hM, hm, if_true, ← hX, ← hY] at h
    refine h.mono fun e w2 hx => ?_
    obtain ⟨v, rfl, hb2, L⟩ := hx
    obtain ⟨a3, n3, m3, rfl⟩ := L.isSlice
    exact ⟨a3, n3, m3, by rw [hX', hY']; rfl, below_next hb hb2, hb2, L⟩
  have hS0 : Cells8 w0 w.heap.size so sh sn (.slice aq nq mq) X Y (.slice aS nS mS) cn := ⟨cell_in hk.1 1 _ rfl, cell_in hk.1 2 _ rfl, cell_in hk.1 3 _ rfl, cell_in hk.1 4 _ rfl, cell_in hk.1 5 _ rfl, cell_in hk.1 6 _ rfl, cell_in hk.1 7 _ rfl, cell_in hk.1 8 _ rfl⟩
  have H2 := Lib.hid h2
  have HW2 : Hid (w0.heap.size = w.heap.size + 2) := Lib.hid (by rw [← hw0]; simp)
  have hws : w.heap.size < w0.heap.size := by rw [← hw0]; simp; omega
  have hn0x : w.heap.size ≠ w0.heap.size := by omega
  have hn1x : w.heap.size ≠ w0.heap.size + 1 := by omega
  have hd : Below w0.heap.size w0 w0.drew := (Below.refl _ _).drew
  have hdA : Below w0.heap.size w0 (w0.alloc (.cells #[.int .i64 0, .int .i64 0, .int .i64 0, .slice none 0 0, .int .i64 0, .int .i64 0] 77)).drew := (one_below _ _).drew
  have hdB : Below w0.heap.size w0 (w0.alloc (.cells #[.slice none 0 0, .int .i64 0] 27)).drew := (one_below _ _).drew
  have hdAB : Below w0.heap.size w0 ((w0.alloc (.cells #[.int .i64 0, .int .i64 0, .int .i64 0, .slice none 0 0, .int .i64 0, .int .i64 0] 77)).alloc (.cells #[.slice none 0 0, .int .i64 0] 27)).drew := (two_below _ _ _).drew
  have hdBA : Below w0.heap.size w0 ((w0.alloc (.cells #[.slice none 0 0, .int .i64 0] 27)).alloc (.cells #[.int .i64 0, .int .i64 0, .int .i64 0, .slice none 0 0, .int .i64 0, .int .i64 0] 77)).drew := (two_below _ _ _).drew
  have hzA : (w0.alloc (.cells #[.int .i64 0, .int .i64 0, .int .i64 0, .slice none 0 0, .int .i64 0, .int .i64 0] 77)).drew.heap[w0.heap.size]? = some (.cells #[.int .i64 0, .int .i64 0, .int .i64 0, .slice none 0 0, .int .i64 0, .int .i64 0] 77 (0, 0)) := heap_alloc_new w0 _
  have hzB : (w0.alloc (.cells #[.slice none 0 0, .int .i64 0] 27)).drew.heap[w0.heap.size]? = some (.cells #[.slice none 0 0, .int .i64 0] 27 (0, 0)) := heap_alloc_new w0 _
  have hzAB : ((w0.alloc (.cells #[.int .i64 0, .int .i64 0, .int .i64 0, .slice none 0 0, .int .i64 0, .int .i64 0] 77)).alloc (.cells #[.slice none 0 0, .int .i64 0] 27)).drew.heap[w0.heap.size]? = some (.cells #[.int .i64 0, .int .i64 0, .int .i64 0, .slice none 0 0, .int .i64 0, .int .i64 0] 77 (0, 0)) ∧ ((w0.alloc (.cells #[.int .i64 0, .int .i64 0, .int .i64 0, .slice none 0 0, .int .i64 0, .int .i64 0] 77)).alloc (.cells #[.slice none 0 0, .int .i64 0] 27)).drew.heap[w0.heap.size + 1]? = some (.cells #[.slice none 0 0, .int .i64 0] 27 (0, 0)) := two_blocks w0 _ _ _ _
  have hzBA : ((w0.alloc (.cells #[.slice none 0 0, .int .i64 0] 27)).alloc (.cells #[.int .i64 0, .int .i64 0, .int .i64 0, .slice none 0 0, .int .i64 0, .int .i64 0] 77)).drew.heap[w0.heap.size]? = some (.cells #[.slice none 0 0, .int .i64 0] 27 (0, 0)) ∧ ((w0.alloc (.cells #[.slice none 0 0, .int .i64 0] 27)).alloc (.cells #[.int .i64 0, .int .i64 0, .int .i64 0, .slice none 0 0, .int .i64 0, .int .i64 0] 77)).drew.heap[w0.heap.size + 1]? = some (.cells #[.int .i64 0, .int .i64 0, .int .i64 0, .slice none 0 0, .int .i64 0, .int .i64 0] 77 (0, 0)) := two_blocks w0 _ _ _ _
  have HZ := Lib.hid (And.intro hzA (And.intro hzB (And.intro hzAB hzBA)))
  have HD := Lib.hid (And.intro hd (And.intro hdA (And.intro hdB (And.intro hdAB hdBA))))
  clear hd hdA hdB hdAB hdBA hzA hzB hzAB hzBA
  have HK := Lib.hid hk
  have HXY := Lib.hid (And.intro hX' hY')
  have HM := Lib.hid hm
  have hcC := lt_blk hC
  have HC := Lib.hid (heap_kept h2 hC)
  have HS := Lib.hid hSv
  have HPP := Lib.hid hpp
  have HIH := Lib.hid ih
  obtain ⟨apo, pb, poff, plen, pcap, psv, hpe, hpa⟩ := hsp
  obtain ⟨rfl, rfl, rfl⟩ : ap = apo ∧ np = plen ∧ mp = pcap := by injection hpe with e1 e2 e3; exact ⟨e1, e2, e3⟩
  have HP := Lib.hid hpa
  have hpl := hpa.length
  have hpr := hpa.hr
  have hph := hpa.hl
  have hcc := fail_concrete
  have HLE := Lib.hid hpl
  clear h2 hk hsv hX hY hX' hY' hm hps hM hpe hpa hSv hpp ih hC
  go_enter Try.func53, Try.ntmps53
  go_upto_region 1 with fail
  clear hw0
  go_cut [7, 8] (fun p q wx => ∃ B D a n m, p = .pointer (some ⟨B, 0, none⟩) ∧ q = .pointer (some ⟨D, 0, none⟩) ∧ AppSt w0 wx B D (.int .i64 mo) (.int .i64 mh) (.int .i64 mk) (.slice a n m) (.int .i64 X') (.int .i64 Y') (.slice aS nS mS) (.int .i64 cn) ml)
  case first =>
    go_region_held2 (fun W => Cells8 W w.heap.size so sh sn (.slice aq nq mq) X Y (.slice aS nS mS) cn)
      (first | (with_reducible exact cells8_six hn0x (cells8_al _ hcn)) | (with_reducible exact cells8_six hn0x hcn) | (with_reducible exact cells8_six hn1x (cells8_al _ hcn)) | (with_reducible exact cells8_six hn1x hcn) | (with_reducible exact cells8_two hn0x (cells8_six hn0x (hcn))) | (with_reducible exact cells8_two hn1x (cells8_six hn0x (hcn))) | (with_reducible exact cells8_two hnnx (cells8_six hn0x (hcn))) | (with_reducible exact cells8_two hn0x (cells8_six hn0x (cells8_al _ hcn))) | (with_reducible exact cells8_two hn1x (cells8_six hn0x (cells8_al _ hcn))) | (with_reducible exact cells8_two hnnx (cells8_six hn0x (cells8_al _ hcn))) | (with_reducible exact cells8_two hn0x (cells8_six hn1x (hcn))) | (with_reducible exact cells8_two hn1x (cells8_six hn1x (hcn))) | (with_reducible exact cells8_two hnnx (cells8_six hn1x (hcn))) | (with_reducible exact cells8_two hn0x (cells8_six hn1x (cells8_al _ hcn))) | (with_reducible exact cells8_two hn1x (cells8_six hn1x (cells8_al _ hcn))) | (with_reducible exact cells8_two hnnx (cells8_six hn1x (cells8_al _ hcn))) | (with_reducible exact cells8_two hn0x (cells8_al _ hcn)) | (with_reducible exact cells8_two hn0x hcn) | (with_reducible exact cells8_two hn1x (cells8_al _ hcn)) | (with_reducible exact cells8_two hn1x hcn) | (with_reducible exact hS0) | (with_reducible exact hcn) | (with_reducible exact cells8_al _ hcn) | (with_reducible exact cells8_al _ (cells8_al _ hcn)) | (with_reducible exact cells8_below HD.out.1 hS0) | (with_reducible exact cells8_below HD.out.2.1 hS0) | (with_reducible exact cells8_below HD.out.2.2.1 hS0) | (with_reducible exact cells8_below HD.out.2.2.2.1 hS0) | (with_reducible exact cells8_below HD.out.2.2.2.2 hS0))
      (first
        | (go_at_call 61; (with_reducible refine (call _ ?_).mono ?_); (first | (with_reducible exact HD.out.1) | (with_reducible exact HD.out.2.1) | (with_reducible exact HD.out.2.2.1) | (with_reducible exact HD.out.2.2.2.1) | (with_reducible exact HD.out.2.2.2.2)); rintro e wn ⟨a3, n3, m3, rfl, hbn, hb1, L1⟩; have hcn := cells8_below hbn hS0; have hsn := hbn.size; have hnnx : w.heap.size ≠ wn.heap.size := (by omega); (first | (have zp := Lib.hid (show wn.heap[w0.heap.size]? = _ by with_reducible exact heap_kept hb1 HZ.out.2.2.1.1); have zq := Lib.hid (show wn.heap[w0.heap.size + 1]? = _ by with_reducible exact heap_kept hb1 HZ.out.2.2.1.2); obtain ⟨⟨p0, p1, p2, p3, p4, p5⟩, f0, f1, f2, f3, f4, f5⟩ := cells6_of zp.out; obtain ⟨⟨q0, q1⟩, g0, g1⟩ := cells2_of zq.out) | (have zq := Lib.hid (show wn.heap[w0.heap.size]? = _ by with_reducible exact heap_kept hb1 HZ.out.2.2.2.1); have zp := Lib.hid (show wn.heap[w0.heap.size + 1]? = _ by with_reducible exact heap_kept hb1 HZ.out.2.2.2.2); obtain ⟨⟨p0, p1, p2, p3, p4, p5⟩, f0, f1, f2, f3, f4, f5⟩ := cells6_of zp.out; obtain ⟨⟨q0, q1⟩, g0, g1⟩ := cells2_of zq.out) | (have zp := Lib.hid (show wn.heap[w0.heap.size]? = _ by with_reducible exact heap_kept hb1 HZ.out.1); have hne : w0.heap.size ≠ wn.heap.size := (by have := hb1.size; simp at this; omega); obtain ⟨⟨⟨p0, p1, p2, p3, p4, p5⟩, f0, f1, f2, f3, f4, f5⟩, ⟨⟨r0, r1, r2, r3, r4, r5⟩, k0, k1, k2, k3, k4, k5⟩, ⟨q0, q1⟩, g0, g1⟩ := pre6 zp.out hne 27 (.int .i64 mo) (.int .i64 mh) (.int .i64 mk) (.slice a3 n3 m3) (.int .i64 X') (.int .i64 Y')) | (have zq := Lib.hid (show wn.heap[w0.heap.size]? = _ by with_reducible exact heap_kept hb1 HZ.out.2.1); have hne : w0.heap.size ≠ wn.heap.size := (by have := hb1.size; simp at this; omega); obtain ⟨⟨q0, q1⟩, g0, g1⟩ := cells2_of zq.out; obtain ⟨⟨r0, r1⟩, k0, k1⟩ := cells2_of (heap_kept (one_below wn (.cells #[.int .i64 mo, .int .i64 mh, .int .i64 mk, .slice a3 n3 m3, .int .i64 X', .int .i64 Y'] 77)) zq.out)) | skip)))
    all_goals
      go_wp2_with fail
      go_meet
      case rel =>
        first
          | (have h := AppSt.both hbn L1 (by simp <;> omega) zp.out zq.out (by omega) (by omega) (by omega) (by simp <;> omega) (by simp <;> omega) (a := .int .i64 mo) (b := .int .i64 mh) (c := .int .i64 mk) (e := .int .i64 X') (f := .int .i64 Y') (s1 := .slice aS nS mS) (s2 := .int .i64 cn); unfold set6 at h; with_reducible exact ⟨_, _, _, _, _, rfl, rfl, h⟩)
          | (have h := AppSt.pre6 hbn L1 (by simp) zp.out (Nat.le_refl _) (by simp) hb1.size (a := .int .i64 mo) (b := .int .i64 mh) (c := .int .i64 mk) (e := .int .i64 X') (f := .int .i64 Y') (s1 := .slice aS nS mS) (s2 := .int .i64 cn) (x0 := .slice none 0 0) (y0 := .int .i64 0); unfold set6 at h; with_reducible exact ⟨_, _, _, _, _, rfl, rfl, h⟩)
          | (have h := AppSt.pre2 hbn L1 (by simp) zq.out (Nat.le_refl _) (by simp) hb1.size (a := .int .i64 mo) (b := .int .i64 mh) (c := .int .i64 mk) (e := .int .i64 X') (f := .int .i64 Y') (s1 := .slice aS nS mS) (s2 := .int .i64 cn); with_reducible exact ⟨_, _, _, _, _, rfl, rfl, h⟩)
          | with_reducible exact ⟨_, _, _, _, _, rfl, rfl, AppSt.post1 hbn L1 (by simp)⟩
          | with_reducible exact ⟨_, _, _, _, _, rfl, rfl, AppSt.post2 hbn L1 (by simp)⟩
          | fail
  case rest =>
    obtain ⟨B, D, am, nm, mm, rfl, rfl, A⟩ := hcut
    have hst : ApL w w0 _ C B D Ss (.mk mo mh mk ml) sp c cn 0 (.mk mo mh mk ml) (.slice am nm mm) (.slice aS nS mS) c :=
      ⟨Only.below A.below C, heap_kept A.below HC.out, hc, by rw [← HXY.out.1, ← HXY.out.2]; exact A.hB, A.hD, A.lies, HS.out, HM.out, rfl⟩
    have hne := A.ne
    have bB := A.bB
    have bD := A.bD
    have HST := Lib.hid hst
    clear A hst call hS0
    go_wp2_with fail
    go_loopw [19] (fun i wr => ∃ (j : Nat) (f : Tm) (fv Sv : Value) (cj : Nat), j ≤ np ∧ i = .int .i64 j ∧ ApL w w0 wr C B D Ss (.mk mo mh mk ml) sp c cn j f fv Sv cj) (fun i _ => np - (intOf i).toNat)
    case atStart => exact ⟨0, _, _, _, c, Nat.zero_le _, rfl, HST.out⟩
    case round =>
      obtain ⟨j, f, fv, Sv, cj, hj, rfl, H⟩ := hrel
      obtain ⟨fo, fh, fk, fl⟩ := f
      by_cases hlt : j < np
      · have hjl : j < sp.length := by omega
        have hap := HP.out.hao (by omega)
        subst hap
        have hoW := (Only.below H2.out C).trans H.only
        have PW := HP.out.still (w' := wr) (fun b hS hlt => hoW.block b hlt hS)
        obtain ⟨d0, d1, d2, d3, d4, d5, dl⟩ := PW.at (Below.refl _ wr) j hjl
        obtain ⟨av, hav⟩ : ∃ v, psv j = v := ⟨_, rfl⟩
        rw [hav] at d3 dl
        obtain ⟨a5, n5, m5, rfl⟩ := dl.isSlice
        have HH := Lib.hid H
        have HPW := Lib.hid dl
        obtain ⟨a6, n6, m6, rfl⟩ := H.lf.isSlice
        obtain ⟨a7, n7, m7, rfl⟩ := H.ls.isSlice
        obtain ⟨F1, hF1⟩ : ∃ x, x = Tm.sz (.mk fo fh fk fl) := ⟨_, rfl⟩
        obtain ⟨F2, hF2⟩ : ∃ x, x = Tm.depth (.mk fo fh fk fl) := ⟨_, rfl⟩
        have hB : wr.heap[B]? = some (.cells #[.int .i64 fo, .int .i64 fh, .int .i64 fk, .slice a6 n6 m6, .int .i64 F1, .int .i64 F2] 77 (0, 0)) := by rw [hF1, hF2]; exact H.hB
        have hba := one_below wr (.cells #[.int .i64 sp[j].op, .int .i64 sp[j].hd, .int .i64 sp[j].n, .slice a5 n5 m5, .int .i64 (Tm.sz sp[j] : Nat), .int .i64 (Tm.depth sp[j] : Nat)] 77)
        obtain ⟨⟨x0, x1, x2, x3, x4, x5⟩, y0, y1, y2, y3, y4, y5⟩ := cells6_of (heap_kept hba hB)
        obtain ⟨⟨z0, z1⟩, g0, g1⟩ := cells2_of (heap_kept hba H.hD)
        have HBB := Lib.hid hB
        clear hF1 hF2 hB hba
        rcases hop : (fo == 3) with _ | _
        · have HAP : Hid (app Ss (.mk mo mh mk ml) sp c = .er 23) := Lib.hid (by
            rw [H.sofar, List.drop_eq_getElem_cons hjl, app_shape _ _ _ _ _ (fun h => by simp [Tm.op] at h; simp [h] at hop)])
          have HOW := Lib.hid hoW
          clear H PW dl hoW
          go_wp2_with fail
          refine ⟨rfl, ?_⟩
          rw [HAP.out]
          exact ⟨rfl, HOW.out.trans (Only.below (one_below _ _) C)⟩
        · have h3 : fo = 3 := by simpa using hop
          subst h3
          obtain ⟨tb, rfl, rfl, rfl, hpb⟩ := Tm.proper_lam H.pr
          obtain ⟨az, sb, soff, slen, scap, sk, ssv, sts, hse, SR⟩ := H.ls.open
          obtain ⟨rfl, rfl, rfl⟩ : a7 = az ∧ n7 = slen ∧ m7 = scap := by injection hse with e1 e2 e3; exact ⟨e1, e2, e3⟩
          rcases hz7 : ((n7 : Int) == 0) with _ | _
          · have hp7 : 0 < n7 := by simp at hz7; omega
            have hcap7 := SR.hr
            have hlc7 := SR.hl
            have hap := SR.hao hp7
            subst hap
            obtain ⟨ab, bb, boff, blen, bcap, boo, bhh, bkk, bsv, btt, hbe, BR⟩ := H.lf.open
            obtain ⟨rfl, rfl, rfl⟩ : a6 = ab ∧ n6 = blen ∧ m6 = bcap := by injection hbe with e1 e2 e3; exact ⟨e1, e2, e3⟩
            have hl1 : n6 = 1 := by have := BR.length; simpa [Tm.args] using this.symm
            subst hl1
            have hab := BR.hao (by omega)
            subst hab
            have hbr := BR.hr
            have hbl := BR.hl
            have hba := one_below wr (.cells #[.int .i64 sp[j].op, .int .i64 sp[j].hd, .int .i64 sp[j].n, .slice a5 n5 m5, .int .i64 (Tm.sz sp[j] : Nat), .int .i64 (Tm.depth sp[j] : Nat)] 77)
            have hbaD := hba.drew
            have hbt : tb = .mk (boo 0) (bhh 0) (bkk 0) (btt 0) := by have := BR.get 0 (by omega); simpa [Tm.args] using this
            subst hbt
            obtain ⟨b0, b1, b2, b3, hsub⟩ := BR.at hba 0 (by omega)
            obtain ⟨bv, hbv⟩ : ∃ v, bsv 0 = v := ⟨_, rfl⟩
            rw [hbv] at b3 hsub
            obtain ⟨a8, n8, m8, rfl⟩ := hsub.isSlice
            have SW := SR.still (w' := wr.alloc (.cells #[.int .i64 sp[j].op, .int .i64 sp[j].hd, .int .i64 sp[j].n, .slice a5 n5 m5, .int .i64 (Tm.sz sp[j] : Nat), .int .i64 (Tm.depth sp[j] : Nat)] 77)) (fun k hS hlt => by rw [hba.block k (by have := hoW.size; omega)]; exact hoW.block k hlt hS)
            obtain ⟨s0, s1, hsl⟩ := SW.at (Below.refl _ _) 0 hp7
            obtain ⟨S1v, hS1v⟩ : ∃ v, ssv 0 = v := ⟨_, rfl⟩
            rw [hS1v] at s0 hsl
            obtain ⟨a9, n9, m9, rfl⟩ := hsl.isSlice
            have u0 := cell_in (heap_kept hba (Only.keepBlock H.only HK.out.1 (by omega))) 0 _ rfl
            obtain ⟨⟨t0, t1, t2, t3, t4, t5⟩, _⟩ := cells6_of (heap_alloc_new wr (.cells #[.int .i64 sp[j].op, .int .i64 sp[j].hd, .int .i64 sp[j].n, .slice a5 n5 m5, .int .i64 (Tm.sz sp[j] : Nat), .int .i64 (Tm.depth sp[j] : Nat)] 77))
            have hSsj : Ss.drop j = .mk (sk 0) (sts 0) :: Ss.drop (j + 1) := by
              have h1 : j < Ss.length := by have := SR.length; simp at this; omega
              have h2 := SR.get 0 hp7
              simp at h2
              rw [List.drop_eq_getElem_cons h1, h2]
            have call := HIH.out (sk 0) (sts 0) (List.mem_of_mem_drop (by rw [hSsj]; exact List.mem_cons_self)) sp[j] (HPP.out _ (List.getElem_mem hjl)) (.slice a5 n5 m5) (.slice a9 n9 m9) (.mk (boo 0) (bhh 0) (bkk 0) (btt 0)) 0 cj (wr.alloc (.cells #[.int .i64 sp[j].op, .int .i64 sp[j].hd, .int .i64 sp[j].n, .slice a5 n5 m5, .int .i64 (Tm.sz sp[j] : Nat), .int .i64 (Tm.depth sp[j] : Nat)] 77)).drew (.slice a8 n8 m8)
              ((hsub.more fun k hlt hS => by omega).keep (Below.refl _ _).drew) (HPW.out.keep hbaD) (hsl.keep (Below.refl _ _).drew) (heap_kept hbaD H.cnt) H.bd (by omega) (by have := (Tm.proper_two hpb).1; omega) hpb
            have hgood := put_good (.mk (sk 0) (sts 0)) sp[j] 0 (.mk (boo 0) (bhh 0) (bkk 0) (btt 0)) cj H.bd hpb
            have hsf := H.sofar
            rw [hSsj, List.drop_eq_getElem_cons hjl, app_cons] at hsf
            have HTL := Lib.hid (spTail (ao' := if m7 = 1 then some ⟨sb, soff, none⟩ else some ⟨sb, soff + 2, none⟩) SR hp7 (fun h => by rw [if_neg (by omega)]))
            rw [List.tail_drop] at HTL
            have HD0 := Lib.hid H.hD
            simp only [Nat.zero_mul, Nat.add_zero] at s0 s1 b0 b1 b2 b3
            have HBA := Lib.hid hba
            unfold GivesP at call
            rcases hres : put (.mk (sk 0) (sts 0)) sp[j] 0 (.mk (boo 0) (bhh 0) (bkk 0) (btt 0)) cj with ⟨x, c'⟩ | x
            · rw [hres] at call hsf hgood
              simp only at call hsf
              have HSF := Lib.hid hsf
              have HGD := Lib.hid hgood
              have HWE := Lib.hid hoW
              clear H PW dl hoW SW SR BR hsub hsl hba hbaD hres hsf hgood
              go_wp2_with fail
              generalize hwE : wr.alloc (.cells #[.int .i64 sp[j].op, .int .i64 sp[j].hd, .int .i64 sp[j].n, .slice a5 n5 m5, .int .i64 (Tm.sz sp[j] : Nat), .int .i64 (Tm.depth sp[j] : Nat)] 77) = wE at *
              go_still_tail 13, (by kernel_rfl)
              change wpList _ _ _ _ _ wE.drew
              go_wp2_with fail
              refine call.mono ?_
              rintro e w3 ⟨v3, rfl, ho3, hc3, L3⟩
              obtain ⟨a10, n10, m10, rfl⟩ := L3.isSlice
              have lB := lt_blk HBB.out
              have lD := lt_blk HD0.out
              have hB3 := Only.keepBlock ho3 (heap_kept HBA.out.drew HBB.out) (by omega)
              have hD3 := Only.keepBlock ho3 (heap_kept HBA.out.drew HD0.out) (by omega)
              clear x0 x1 x2 x3 x4 x5 y0 y1 y2 y3 y4 y5 z0 z1 g0 g1 s0 s1 b0 b1 b2 b3 t0 t1 t2 t3 t4 t5 u0 d0 d1 d2 d3 d4 d5
              obtain ⟨⟨x0, x1, x2, x3, x4, x5⟩, y0, y1, y2, y3, y4, y5⟩ := cells6_of hB3
              obtain ⟨⟨q0, q1⟩, g0, g1⟩ := cells2_of ((set6_other (w := w3) (B := B) (k := D) (.int .i64 x.op) (.int .i64 x.hd) (.int .i64 x.n) (.slice a10 n10 m10) (.int .i64 (Tm.sz x : Nat)) (.int .i64 (Tm.depth x : Nat)) (fun e => hne e.symm)).trans hD3)
              unfold set6 at q0 q1 g0 g1
              have h17 : (1 : Int) ≤ (n7 : Int) := by omega
              have h17m : (n7 : Int) ≤ (m7 : Int) := by omega
              have HL3 := Lib.hid L3
              clear L3 hB3 hD3
              go_wp2_with fail
              go_roundw
              case rel =>
                have h := ApL.next (o := (.cells #[.int .i64 sp[j].op, .int .i64 sp[j].hd, .int .i64 sp[j].n, .slice a5 n5 m5, .int .i64 (Tm.sz sp[j] : Nat), .int .i64 (Tm.depth sp[j] : Nat)] 77)) HH.out hne bB bD (by omega) (by rw [hwE]; exact ho3) hc3 HGD.out.2.2 (by rw [hwE]; exact HL3.out) HGD.out.1 HSF.out HTL.out
                unfold set6 at h
                clear call HPW HBA HBB HD0
                refine ⟨j + 1, x, .slice a10 n10 m10, .slice (if m7 = 1 then some ⟨sb, soff, none⟩ else some ⟨sb, soff + 2, none⟩) (n7 - 1) (m7 - 1), c', by omega, by go_num, ?_⟩
                with_reducible exact h
              case measure => simp [intOf]; omega
            · rw [hres] at call hsf
              simp only at call hsf
              have HSF := Lib.hid hsf
              have HWE := Lib.hid hoW
              clear H PW dl hoW SW SR BR hsub hsl hba hbaD hres hsf hgood
              go_wp2_with fail
              generalize hwE : wr.alloc (.cells #[.int .i64 sp[j].op, .int .i64 sp[j].hd, .int .i64 sp[j].n, .slice a5 n5 m5, .int .i64 (Tm.sz sp[j] : Nat), .int .i64 (Tm.depth sp[j] : Nat)] 77) = wE at *
              go_still_tail 13, (by kernel_rfl)
              change wpList _ _ _ _ _ wE.drew
              go_wp2_with fail
              refine call.mono ?_
              rintro e w3 ⟨rfl, ho3⟩
              refine ⟨rfl, ?_⟩
              rw [HSF.out]
              exact ⟨rfl, (HWE.out.trans (Only.below HBA.out.drew C)).trans ho3⟩
          · have hn7 : n7 = 0 := by simpa using hz7
            subst hn7
            have hnil : Ss.drop j = [] := List.eq_nil_of_length_eq_zero SR.length
            have HAP : Hid (app Ss (.mk mo mh mk ml) sp c = .er 23) := Lib.hid (by
              rw [H.sofar, List.drop_eq_getElem_cons hjl, app_shape _ _ _ _ _ (fun _ => hnil)])
            have HOW := Lib.hid hoW
            clear H PW dl hoW SR hnil
            go_wp2_with fail
            refine ⟨rfl, ?_⟩
            rw [HAP.out]
            exact ⟨rfl, HOW.out.trans (Only.below (one_below _ _) C)⟩
      · obtain rfl : j = np := by omega
        have hsf := H.sofar
        rw [List.drop_of_length_le (by omega : sp.length ≤ j), app_nil] at hsf
        have HH := Lib.hid H
        have HSF := Lib.hid hsf
        obtain ⟨F1, hF1⟩ : ∃ x, x = Tm.sz (.mk fo fh fk fl) := ⟨_, rfl⟩
        obtain ⟨F2, hF2⟩ : ∃ x, x = Tm.depth (.mk fo fh fk fl) := ⟨_, rfl⟩
        obtain ⟨a6, n6, m6, rfl⟩ := H.lf.isSlice
        have hB : wr.heap[B]? = some (.cells #[.int .i64 fo, .int .i64 fh, .int .i64 fk, .slice a6 n6 m6, .int .i64 F1, .int .i64 F2] 77 (0, 0)) := by rw [hF1, hF2]; exact H.hB
        obtain ⟨⟨x0, x1, x2, x3, x4, x5⟩, _⟩ := cells6_of hB
        have hR := Only.keepBlock H.only HK.out.2 (by omega)
        obtain ⟨⟨z0, z1, z2, z3, z4, z5⟩, g0, g1, g2, g3, g4, g5⟩ := cells6_of hR
        have HR := Lib.hid hR
        have HFF := Lib.hid (And.intro hF1 hF2)
        clear H hsf hF1 hF2 hB hR
        go_wp2_with fail
        have hz := set6_at HR.out (.int .i64 fo) (.int .i64 fh) (.int .i64 fk) (.slice a6 n6 m6) (.int .i64 F1) (.int .i64 F2)
        obtain ⟨⟨v0, v1, v2, v3, v4, v5⟩, _⟩ := cells6_of hz
        unfold set6 at v0 v1 v2 v3 v4 v5
        refine bodyPost_ret (v := .agg #[.int .i64 fo, .int .i64 fh, .int .i64 fk, .slice a6 n6 m6, .int .i64 F1, .int .i64 F2]) (by simp [results, Try.results53, go_sem, v0, v1, v2, v3, v4, v5]) rfl ?_
        rw [HSF.out]
        exact givesP_stored (B := w.heap.size + 1) ((Only.below H2.out C).trans HH.out.only) HH.out.cnt hcC (by omega) (HH.out.lf.more fun b _ hS => ⟨by have := hS.1; omega, by have := hS.1; have := HW2.out; omega⟩) (by rw [HFF.out.1]) (by rw [HFF.out.2])
end Go.Proofs.Ytieakippgeehgaa.Sb

namespace Go.Proofs.Ytieakippgeehgaa.Sb
open Go.RowKit
set_option linter.unusedSimpArgs false
set_option linter.unusedVariables false

set_option maxHeartbeats 8000000 in
set_option maxRecDepth 100000 in
theorem app_out (C : Nat) (cn : Int) (Ss : List Sp.Tm) (so sh sn : Int) (sa : List Tm) (X Y : Nat) (hX : X = Tm.sz (.mk so sh sn sa)) (hY : Y = Tm.depth (.mk so sh sn sa)) (sv Sv spv : Value) (sp : List Tm) (n : Int) (c : Nat) (w : World) (hsv : Lies w (· ≠ C) sv sa) (hSv : Sp.Lies w (· ≠ C) Sv Ss) (hsp : PLies w (· ≠ C) spv sp) (hC : cntAt C c w) (hc : c ≤ 20000) (hn0 : 0 ≤ n) (hn1 : n ≤ 9999) (hps : Tm.proper (.mk so sh sn sa) = true) (hpp : ∀ t ∈ sp, Tm.proper t = true) (hl6 : sp.length ≤ 600) (hm : Tm.proper (Tm.moved n 0 (.mk so sh sn sa)) = false) :
    Calls Try.prog 53 #[.agg #[.pointer (some ⟨C, 0, none⟩), .int .i64 so, .int .i64 sh, .int .i64 sn, sv, .int .i64 X, .int .i64 Y, Sv, .int .i64 cn], .int .i64 n, spv] w (GivesP w C (.er 5)) := by
  obtain ⟨aq, nq, mq, rfl⟩ := hsv.isSlice
  obtain ⟨aS, nS, mS, rfl⟩ := hSv.isSlice
  obtain ⟨ap, np, mp, rfl⟩ := hsp.isSlice
  have h2 := two_below w (.cells #[.pointer (some ⟨C, 0, none⟩), .int .i64 so, .int .i64 sh, .int .i64 sn, .slice aq nq mq, .int .i64 X, .int .i64 Y, .slice aS nS mS, .int .i64 cn] 80) (.cells #[.int .i64 0, .int .i64 0, .int .i64 0, .slice none 0 0, .int .i64 0, .int .i64 0] 77)
  have hk := two_blocks w #[.pointer (some ⟨C, 0, none⟩), .int .i64 so, .int .i64 sh, .int .i64 sn, .slice aq nq mq, .int .i64 X, .int .i64 Y, .slice aS nS mS, .int .i64 cn] #[.int .i64 0, .int .i64 0, .int .i64 0, .slice none 0 0, .int .i64 0, .int .i64 0] 80 77
  generalize hw0 : ((w.alloc (.cells #[.pointer (some ⟨C, 0, none⟩), .int .i64 so, .int .i64 sh, .int .i64 sn, .slice aq nq mq, .int .i64 X, .int .i64 Y, .slice aS nS mS, .int .i64 cn] 80)).alloc (.cells #[.int .i64 0, .int .i64 0, .int .i64 0, .slice none 0 0, .int .i64 0, .int .i64 0] 77)) = w0 at h2 hk
  have call : ∀ w1, Below w0.heap.size w0 w1 → Calls Try.prog 61 #[.agg #[.int .i64 so, .int .i64 sh, .int .i64 sn, .slice aq nq mq, .int .i64 X, .int .i64 Y], .int .i64 n] w1 (fun e w2 => e = .panicked (failure 5) ∧ Below w0.heap.size w0 w2 ∧ Below w1.heap.size w1 w2) := fun w1 hb => by
    have h := shifted_any so sh sn n (.slice aq nq mq) sa w1 ((hsv.more (S' := fun _ => True) (fun _ _ _ => trivial)).keep (below_next h2 hb)) hps hn0 hn1
    unfold GivesSh at h
    simp only [hm, if_false, Bool.false_eq_true, ← hX, ← hY] at h
    exact h.mono fun e w2 hx => ⟨hx.1, below_next hb hx.2, hx.2⟩
  have hS0 : Cells8 w0 w.heap.size so sh sn (.slice aq nq mq) X Y (.slice aS nS mS) cn := ⟨cell_in hk.1 1 _ rfl, cell_in hk.1 2 _ rfl, cell_in hk.1 3 _ rfl, cell_in hk.1 4 _ rfl, cell_in hk.1 5 _ rfl, cell_in hk.1 6 _ rfl, cell_in hk.1 7 _ rfl, cell_in hk.1 8 _ rfl⟩
  have H2 := Lib.hid h2
  have hws : w.heap.size < w0.heap.size := by rw [← hw0]; simp; omega
  have hn0x : w.heap.size ≠ w0.heap.size := by omega
  have hn1x : w.heap.size ≠ w0.heap.size + 1 := by omega
  have hd : Below w0.heap.size w0 w0.drew := (Below.refl _ _).drew
  have hdA : Below w0.heap.size w0 (w0.alloc (.cells #[.int .i64 0, .int .i64 0, .int .i64 0, .slice none 0 0, .int .i64 0, .int .i64 0] 77)).drew := (one_below _ _).drew
  have hdB : Below w0.heap.size w0 (w0.alloc (.cells #[.slice none 0 0, .int .i64 0] 27)).drew := (one_below _ _).drew
  have hdAB : Below w0.heap.size w0 ((w0.alloc (.cells #[.int .i64 0, .int .i64 0, .int .i64 0, .slice none 0 0, .int .i64 0, .int .i64 0] 77)).alloc (.cells #[.slice none 0 0, .int .i64 0] 27)).drew := (two_below _ _ _).drew
  have hdBA : Below w0.heap.size w0 ((w0.alloc (.cells #[.slice none 0 0, .int .i64 0] 27)).alloc (.cells #[.int .i64 0, .int .i64 0, .int .i64 0, .slice none 0 0, .int .i64 0, .int .i64 0] 77)).drew := (two_below _ _ _).drew
  have hzA : (w0.alloc (.cells #[.int .i64 0, .int .i64 0, .int .i64 0, .slice none 0 0, .int .i64 0, .int .i64 0] 77)).drew.heap[w0.heap.size]? = some (.cells #[.int .i64 0, .int .i64 0, .int .i64 0, .slice none 0 0, .int .i64 0, .int .i64 0] 77 (0, 0)) := heap_alloc_new w0 _
  have hzB : (w0.alloc (.cells #[.slice none 0 0, .int .i64 0] 27)).drew.heap[w0.heap.size]? = some (.cells #[.slice none 0 0, .int .i64 0] 27 (0, 0)) := heap_alloc_new w0 _
  have hzAB : ((w0.alloc (.cells #[.int .i64 0, .int .i64 0, .int .i64 0, .slice none 0 0, .int .i64 0, .int .i64 0] 77)).alloc (.cells #[.slice none 0 0, .int .i64 0] 27)).drew.heap[w0.heap.size]? = some (.cells #[.int .i64 0, .int .i64 0, .int .i64 0, .slice none 0 0, .int .i64 0, .int .i64 0] 77 (0, 0)) ∧ ((w0.alloc (.cells #[.int .i64 0, .int .i64 0, .int .i64 0, .slice none 0 0, .int .i64 0, .int .i64 0] 77)).alloc (.cells #[.slice none 0 0, .int .i64 0] 27)).drew.heap[w0.heap.size + 1]? = some (.cells #[.slice none 0 0, .int .i64 0] 27 (0, 0)) := two_blocks w0 _ _ _ _
  have hzBA : ((w0.alloc (.cells #[.slice none 0 0, .int .i64 0] 27)).alloc (.cells #[.int .i64 0, .int .i64 0, .int .i64 0, .slice none 0 0, .int .i64 0, .int .i64 0] 77)).drew.heap[w0.heap.size]? = some (.cells #[.slice none 0 0, .int .i64 0] 27 (0, 0)) ∧ ((w0.alloc (.cells #[.slice none 0 0, .int .i64 0] 27)).alloc (.cells #[.int .i64 0, .int .i64 0, .int .i64 0, .slice none 0 0, .int .i64 0, .int .i64 0] 77)).drew.heap[w0.heap.size + 1]? = some (.cells #[.int .i64 0, .int .i64 0, .int .i64 0, .slice none 0 0, .int .i64 0, .int .i64 0] 77 (0, 0)) := two_blocks w0 _ _ _ _
  have HZ := Lib.hid (And.intro hzA (And.intro hzB (And.intro hzAB hzBA)))
  have HD := Lib.hid (And.intro hd (And.intro hdA (And.intro hdB (And.intro hdAB hdBA))))
  clear hd hdA hdB hdAB hdBA hzA hzB hzAB hzBA
  clear h2 hk hsv hX hY hm hps
  go_enter Try.func53, Try.ntmps53
  go_upto_region 1 with fail
  clear hw0
  go_region_held2 (fun W => Cells8 W w.heap.size so sh sn (.slice aq nq mq) X Y (.slice aS nS mS) cn)
      (first | (with_reducible exact cells8_six hn0x (cells8_al _ hcn)) | (with_reducible exact cells8_six hn0x hcn) | (with_reducible exact cells8_six hn1x (cells8_al _ hcn)) | (with_reducible exact cells8_six hn1x hcn) | (with_reducible exact cells8_two hn0x (cells8_six hn0x (hcn))) | (with_reducible exact cells8_two hn1x (cells8_six hn0x (hcn))) | (with_reducible exact cells8_two hnnx (cells8_six hn0x (hcn))) | (with_reducible exact cells8_two hn0x (cells8_six hn0x (cells8_al _ hcn))) | (with_reducible exact cells8_two hn1x (cells8_six hn0x (cells8_al _ hcn))) | (with_reducible exact cells8_two hnnx (cells8_six hn0x (cells8_al _ hcn))) | (with_reducible exact cells8_two hn0x (cells8_six hn1x (hcn))) | (with_reducible exact cells8_two hn1x (cells8_six hn1x (hcn))) | (with_reducible exact cells8_two hnnx (cells8_six hn1x (hcn))) | (with_reducible exact cells8_two hn0x (cells8_six hn1x (cells8_al _ hcn))) | (with_reducible exact cells8_two hn1x (cells8_six hn1x (cells8_al _ hcn))) | (with_reducible exact cells8_two hnnx (cells8_six hn1x (cells8_al _ hcn))) | (with_reducible exact cells8_two hn0x (cells8_al _ hcn)) | (with_reducible exact cells8_two hn0x hcn) | (with_reducible exact cells8_two hn1x (cells8_al _ hcn)) | (with_reducible exact cells8_two hn1x hcn) | (with_reducible exact hS0) | (with_reducible exact hcn) | (with_reducible exact cells8_al _ hcn) | (with_reducible exact cells8_al _ (cells8_al _ hcn)) | (with_reducible exact cells8_below HD.out.1 hS0) | (with_reducible exact cells8_below HD.out.2.1 hS0) | (with_reducible exact cells8_below HD.out.2.2.1 hS0) | (with_reducible exact cells8_below HD.out.2.2.2.1 hS0) | (with_reducible exact cells8_below HD.out.2.2.2.2 hS0))
      (first
        | (go_at_call 61; (with_reducible refine (call _ ?_).mono ?_); (first | (with_reducible exact HD.out.1) | (with_reducible exact HD.out.2.1) | (with_reducible exact HD.out.2.2.1) | (with_reducible exact HD.out.2.2.2.1) | (with_reducible exact HD.out.2.2.2.2)); intro e wn h1; cases e; rotate_left; (obtain ⟨h1, hb1⟩ := h1; cases h1; exact ⟨rfl, rfl, Only.below (below_next H2.out hb1.1) C⟩); (exact absurd h1.1 (fun h => by cases h)); (obtain ⟨h1, hbn, hb1⟩ := h1; have hF : Hid False := absurd h1 (fun h => by cases h)); (rename_i vv; obtain rfl : vv = Value.agg #[.int .i64 0, .int .i64 0, .int .i64 0, .slice none 0 0, .int .i64 0, .int .i64 0] := hF.out.elim); (clear h1); dsimp only; have hcn := cells8_below hbn hS0; have hsn := hbn.size; have hnnx : w.heap.size ≠ wn.heap.size := (by omega); (first | (have zp := Lib.hid (show wn.heap[w0.heap.size]? = _ by with_reducible exact heap_kept hb1 HZ.out.2.2.1.1); have zq := Lib.hid (show wn.heap[w0.heap.size + 1]? = _ by with_reducible exact heap_kept hb1 HZ.out.2.2.1.2); obtain ⟨⟨p0, p1, p2, p3, p4, p5⟩, f0, f1, f2, f3, f4, f5⟩ := cells6_of zp.out; obtain ⟨⟨q0, q1⟩, g0, g1⟩ := cells2_of zq.out) | (have zq := Lib.hid (show wn.heap[w0.heap.size]? = _ by with_reducible exact heap_kept hb1 HZ.out.2.2.2.1); have zp := Lib.hid (show wn.heap[w0.heap.size + 1]? = _ by with_reducible exact heap_kept hb1 HZ.out.2.2.2.2); obtain ⟨⟨p0, p1, p2, p3, p4, p5⟩, f0, f1, f2, f3, f4, f5⟩ := cells6_of zp.out; obtain ⟨⟨q0, q1⟩, g0, g1⟩ := cells2_of zq.out) | (have zp := Lib.hid (show wn.heap[w0.heap.size]? = _ by with_reducible exact heap_kept hb1 HZ.out.1); have hne : w0.heap.size ≠ wn.heap.size := (by have := hb1.size; simp at this; omega); obtain ⟨⟨⟨p0, p1, p2, p3, p4, p5⟩, f0, f1, f2, f3, f4, f5⟩, ⟨⟨r0, r1, r2, r3, r4, r5⟩, k0, k1, k2, k3, k4, k5⟩, ⟨q0, q1⟩, g0, g1⟩ := pre6 zp.out hne 27 (.int .i64 0) (.int .i64 0) (.int .i64 0) (.slice none 0 0) (.int .i64 0) (.int .i64 0)) | (have zq := Lib.hid (show wn.heap[w0.heap.size]? = _ by with_reducible exact heap_kept hb1 HZ.out.2.1); have hne : w0.heap.size ≠ wn.heap.size := (by have := hb1.size; simp at this; omega); obtain ⟨⟨q0, q1⟩, g0, g1⟩ := cells2_of zq.out; obtain ⟨⟨r0, r1⟩, k0, k1⟩ := cells2_of (heap_kept (one_below wn (.cells #[.int .i64 0, .int .i64 0, .int .i64 0, .slice none 0 0, .int .i64 0, .int .i64 0] 77)) zq.out)) | skip)))
  all_goals (exact hF.out.elim)
end Go.Proofs.Ytieakippgeehgaa.Sb

namespace Go.Proofs.Ytieakippgeehgaa.Sb
open Go.RowKit

theorem appOk_of (C : Nat) (cn : Int) (Ss : List Sp.Tm) (ih : ∀ cn1 Ss1, .mk cn1 Ss1 ∈ Ss → ∀ (a : Tm), Tm.proper a = true → ∀ (av S1v : Value) (t : Tm), InOk C a av S1v cn1 Ss1 t) : AppOk C cn Ss := by
  intro s sv Sv spv sp n c w hsv hSv hsp hC hc hn0 hn1 hps hpp hl6
  obtain ⟨so, sh, sn, sa⟩ := s
  rcases hm : Tm.proper (Tm.moved n 0 (.mk so sh sn sa)) with _ | _
  · simp only [Bool.false_eq_true, if_false]
    exact app_out C cn Ss so sh sn sa _ _ rfl rfl sv Sv spv sp n c w hsv hSv hsp hC hc hn0 hn1 hps hpp hl6 hm
  · simp only [if_true]
    exact app_any C cn Ss so sh sn sa _ _ rfl rfl sv Sv spv sp n c w hsv hSv hsp hC hc hn0 hn1 hps hpp hl6 hm ih

theorem inOk_of (C : Nat) (s : Tm) (hps : Tm.proper s = true) (sv Sv : Value) (cn : Int) (Ss : List Sp.Tm) (ha : AppOk C cn Ss) : ∀ (M : Nat) (t : Tm), Tm.sz t ≤ M → InOk C s sv Sv cn Ss t
  | 0, t, h => by have := Tm.sz_pos t; omega
  | M + 1, .mk o h k l, hM => by
    intro n c w tv htv hsv hSv hC hc hn0 hn1 hp
    by_cases hc' : 20000 ≤ c
    · exact in_full C s sv Sv cn Ss o h k tv l n c w htv hsv hSv hC hc hc'
    · refine in_walk C s sv Sv cn Ss o h k tv l n c w (fun t ht => inOk_of C s hps sv Sv cn Ss ha M t ?_) ha htv hsv hSv hC (by omega) hn0 hn1 hp hps
      have := Tm.szL_le_of_mem ht
      simp only [Tm.sz] at hM; omega

theorem inOk_all (C : Nat) : ∀ (N : Nat) (cn : Int) (Ss : List Sp.Tm), Sp.Tm.sz (.mk cn Ss) ≤ N → ∀ (s : Tm), Tm.proper s = true → ∀ (sv Sv : Value) (t : Tm), InOk C s sv Sv cn Ss t
  | 0, cn, Ss, h => by have := Sp.Tm.sz_pos (.mk cn Ss); omega
  | N + 1, cn, Ss, hN => fun s hps sv Sv t => inOk_of C s hps sv Sv cn Ss (appOk_of C cn Ss fun cn1 Ss1 hm a hpa av S1v t1 => inOk_all C N cn1 Ss1 (by
      have := Sp.Tm.szL_le_of_mem hm
      simp only [Sp.Tm.sz] at hN this ⊢; omega) a hpa av S1v t1) _ t (Nat.le_refl _)

/-- the contract of in -/
theorem in_any (C : Nat) (cn : Int) (Ss : List Sp.Tm) (s : Tm) (hps : Tm.proper s = true) (sv Sv : Value) (t : Tm) : InOk C s sv Sv cn Ss t := inOk_all C _ cn Ss (Nat.le_refl _) s hps sv Sv t
/-- the contract of apply -/
theorem apply_any (C : Nat) (cn : Int) (Ss : List Sp.Tm) : AppOk C cn Ss := appOk_of C cn Ss fun cn1 Ss1 _ a hpa av S1v t => in_any C cn1 Ss1 a hpa av S1v t
end Go.Proofs.Ytieakippgeehgaa.Sb
