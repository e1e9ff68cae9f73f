/- The contract of awake. -/
import Derived.Test.YtieakippgeehgaaSbGd
import Derived.BigRegion
import Derived.Deep.DeepCutAuto
import Derived.Deep.RegionHeld3
import Derived.OwnWalk
namespace Go.Proofs.Ytieakippgeehgaa.Sb
open Go.RowKit
set_option linter.unusedSimpArgs false
set_option linter.unusedVariables false

theorem sp_one {W : World} {S : Nat → Prop} {b : Nat} {n : Int} {v : Value} {l : List Sp.Tm} {t : TypeId} (hb : W.heap[b]? = some (.cells #[v, .int .i64 n] t (0, 0))) (hS : S b) (hn : I64 n) (hv : Sp.Lies W S v l) : Sp.Lies W S (.slice (some ⟨b, 0, none⟩) 1 1) [.mk n l] := by
  have row := Sp.Lies.row (w := W) (S := S) (some ⟨b, 0, none⟩) b 0 1 1 (fun _ => n) (fun _ => v) (fun _ => l) (fun _ => rfl) (fun _ => hS) (Nat.le_refl _) (by omega)
    (fun i hi => by obtain rfl : i = 0 := by omega
                    exact cell_in hb 0 _ rfl) (fun i hi => by obtain rfl : i = 0 := by omega
                                                              exact cell_in hb 1 _ rfl)
    (fun _ _ => hn) (fun _ _ => hv)
  simpa using row

theorem small_i64 (n : Int) (h : n = 0 ∨ n = 1 ∨ n = 2 ∨ n = 3 ∨ n = 4) : I64 n := i64_small (by omega) (by omega)
/-- the first example's call -/
theorem awk_call1 {b c d B : Nat} {W V : World} (hv : V.heap[c]? = some (.cells #[.int .i64 4, .int .i64 2, .int .i64 2, .slice (some ⟨d, 0, none⟩) 1 1] 24 (0, 0))) (h13 : W.heap[b]? = some (.cells #[.int .i64 4, .int .i64 2, .int .i64 1, .slice none 0 0] 24 (0, 0))) (h18 : W.heap[c]? = some (.cells #[.int .i64 4, .int .i64 2, .int .i64 2, .slice (some ⟨d, 0, none⟩) 1 1] 24 (0, 0)))
    (h16 : W.heap[d]? = some (.cells #[.int .i64 4, .int .i64 1, .int .i64 0, .slice none 0 0] 24 (0, 0))) (hB : W.heap[B]? = some (.cells #[.slice none 0 0, .int .i64 0] 27 (0, 0))) :
    Calls Try.prog 14 #[.agg #[.int .i64 4, .int .i64 1, .int .i64 0, .slice (some ⟨b, 0, none⟩) 1 1], .int .i64 0, .agg #[.int .i64 3, .int .i64 0, .int .i64 0, .slice (some ⟨c, 0, none⟩) 1 1], .agg #[.slice (some ⟨B, 0, none⟩) 1 1, .int .i64 0]] W fun e W' =>
      ∃ a n m, e = .returned (.tuple #[.agg #[.int .i64 4, .int .i64 2, .int .i64 2, .slice a n m], .int .i64 0]) ∧ Below W.heap.size W W' ∧ Lies W' (W.heap.size ≤ ·) (.slice a n m) [.mk 4 2 1 []] := by
  have lt : Lies W (fun _ => True) (.slice (some ⟨b, 0, none⟩) 1 1) awkT.args := Lies.one h13 trivial (small_i64 _ (by omega)) (small_i64 _ (by omega)) (small_i64 _ (by omega)) (Lies.nil _ _)
  have ls : Lies W (fun _ => True) (.slice (some ⟨c, 0, none⟩) 1 1) awkS.args := Lies.one h18 trivial (small_i64 _ (by omega)) (small_i64 _ (by omega)) (small_i64 _ (by omega)) (Lies.one h16 trivial (small_i64 _ (by omega)) (small_i64 _ (by omega)) (small_i64 _ (by omega)) (Lies.nil _ _))
  have lS : Sp.Lies W (fun _ => True) (.slice (some ⟨B, 0, none⟩) 1 1) [.mk 0 []] := sp_one hB trivial (small_i64 _ (by omega)) (Sp.Lies.nil _ _)
  have h := subst_any awkT awkS 0 0 [.mk 0 []] _ _ _ W lt ls lS ⟨small_i64 _ (by simp [awkT, Tm.op]), small_i64 _ (by simp [awkT, Tm.hd]), small_i64 _ (by simp [awkT, Tm.n])⟩ ⟨small_i64 _ (by simp [awkS, Tm.op]), small_i64 _ (by simp [awkS, Tm.hd]), small_i64 _ (by simp [awkS, Tm.n])⟩
  rw [awk_subst] at h
  refine h.mono fun e W' hx => ?_
  obtain ⟨v, rfl, hb, L⟩ := hx
  obtain ⟨a, n, m, rfl⟩ := L.isSlice
  exact ⟨a, n, m, rfl, hb, L⟩
/-- the second example's call -/
theorem awk_call2 (b B : Nat) (W : World) (hb : W.heap[b]? = some (.cells #[.slice (some ⟨B, 0, none⟩) 1 1, .int .i64 0] 27 (0, 0))) (hB : W.heap[B]? = some (.cells #[.slice none 0 0, .int .i64 0] 27 (0, 0))) :
    Calls Try.prog 20 #[.int .i64 1, .int .i64 0, .agg #[.slice (some ⟨b, 0, none⟩) 1 1, .int .i64 0]] W fun e W' =>
      ∃ a n m, e = .returned (.tuple #[.agg #[.int .i64 3, .int .i64 0, .int .i64 0, .slice a n m], .int .i64 0]) ∧ Below W.heap.size W W' ∧ Lies W' (fun _ => True) (.slice a n m) awkL.args := by
  have lS : Sp.Lies W (fun _ => True) (.slice (some ⟨b, 0, none⟩) 1 1) [.mk 0 [.mk 0 []]] := sp_one hb trivial (small_i64 _ (by omega)) (sp_one hB trivial (small_i64 _ (by omega)) (Sp.Lies.nil _ _))
  have h := longF_any 1 0 0 [.mk 0 [.mk 0 []]] _ W lS
  rw [awk_long] at h
  refine h.mono fun e W' hx => ?_
  obtain ⟨v, rfl, hb, L⟩ := hx
  obtain ⟨a, n, m, rfl⟩ := L.isSlice
  exact ⟨a, n, m, rfl, hb, L.more fun _ _ _ => trivial⟩
/-- the comparisons -/
theorem awk_same1 (b : Nat) (v : Value) (W : World) (L : Lies W (fun _ => True) v [.mk 4 2 1 []]) (hb : W.heap[b]? = some (.cells #[.int .i64 4, .int .i64 2, .int .i64 1, .slice none 0 0] 24 (0, 0))) :
    Calls Try.prog 16 #[.agg #[.int .i64 4, .int .i64 2, .int .i64 2, v], .int .i64 0, .agg #[.int .i64 4, .int .i64 2, .int .i64 2, .slice (some ⟨b, 0, none⟩) 1 1], .int .i64 0] W fun e W' => e = .returned (.bool true) ∧ Below W.heap.size W W' := by
  have L2 : Lies W (fun _ => True) (.slice (some ⟨b, 0, none⟩) 1 1) awkR.args := Lies.one hb trivial (small_i64 _ (by omega)) (small_i64 _ (by omega)) (small_i64 _ (by omega)) (Lies.nil _ _)
  have h := gives_any _ _ awkR awkR 0 0 v _ W L L2
  have e : (Tm.same awkR awkR && ((0 : Int) == 0)) = true := by decide +kernel
  rw [e] at h
  exact h
theorem awk_same2 {b c d e0 : Nat} {v : Value} {W U V : World} (hv : V.heap[b]? = some (.cells #[.int .i64 4, .int .i64 1, .int .i64 1, .slice (some ⟨c, 0, none⟩) 1 1] 24 (0, 0))) (hu : U.heap[d]? = some (.cells #[.int .i64 4, .int .i64 1, .int .i64 1, .slice (some ⟨e0, 0, none⟩) 1 1] 24 (0, 0))) (L : Lies W (fun _ => True) v awkL.args) (hb : W.heap[b]? = some (.cells #[.int .i64 4, .int .i64 1, .int .i64 1, .slice (some ⟨c, 0, none⟩) 1 1] 24 (0, 0)))
    (hc : W.heap[c]? = some (.cells #[.int .i64 3, .int .i64 0, .int .i64 0, .slice (some ⟨d, 0, none⟩) 1 1] 24 (0, 0))) (hd : W.heap[d]? = some (.cells #[.int .i64 4, .int .i64 1, .int .i64 1, .slice (some ⟨e0, 0, none⟩) 1 1] 24 (0, 0))) (he : W.heap[e0]? = some (.cells #[.int .i64 4, .int .i64 1, .int .i64 0, .slice none 0 0] 24 (0, 0))) :
    Calls Try.prog 16 #[.agg #[.int .i64 3, .int .i64 0, .int .i64 0, v], .int .i64 0, .agg #[.int .i64 3, .int .i64 0, .int .i64 0, .slice (some ⟨b, 0, none⟩) 1 1], .int .i64 0] W fun e W' => e = .returned (.bool true) ∧ Below W.heap.size W W' := by
  have sm := small_i64
  have L2 : Lies W (fun _ => True) (.slice (some ⟨b, 0, none⟩) 1 1) awkL.args :=
    Lies.one hb trivial (sm _ (by omega)) (sm _ (by omega)) (sm _ (by omega)) (Lies.one hc trivial (sm _ (by omega)) (sm _ (by omega)) (sm _ (by omega)) (Lies.one hd trivial (sm _ (by omega)) (sm _ (by omega)) (sm _ (by omega)) (Lies.one he trivial (sm _ (by omega)) (sm _ (by omega)) (sm _ (by omega)) (Lies.nil _ _))))
  have h := gives_any _ _ awkL awkL 0 0 v _ W L L2
  have e : (Tm.same awkL awkL && ((0 : Int) == 0)) = true := by decide +kernel
  rw [e] at h
  exact h

theorem ne_of_cells {w : World} {B D : Nat} {u v : Value} (h1 : w.cell? ⟨B, 0, none⟩ = some u) (h2 : w.cell? ⟨D, 0, none⟩ = some v) (h : u ≠ v) : B ≠ D := fun e => by
  subst e
  rw [h1] at h2
  exact h (by injection h2)
theorem keep2_by {W W' : World} {B : Nat} {u v : Value} (hb : W'.heap[B]? = W.heap[B]?) (x : W.cell? ⟨B, 0, none⟩ = some u ∧ W.cell? ⟨B, 1, none⟩ = some v) : W'.cell? ⟨B, 0, none⟩ = some u ∧ W'.cell? ⟨B, 1, none⟩ = some v := by
  have go : ∀ j u, W.cell? ⟨B, j, none⟩ = some u → W'.cell? ⟨B, j, none⟩ = some u := fun j u e => by rw [World.cell?_of_block (w := W) hb]; exact e
  exact ⟨go _ _ x.1, go _ _ x.2⟩
theorem keep2_four {w : World} {B D : Nat} {u v a b c d : Value} (hne : B ≠ D) (x : w.cell? ⟨B, 0, none⟩ = some u ∧ w.cell? ⟨B, 1, none⟩ = some v) :
    ((((w.setCell ⟨D, 0, none⟩ a).setCell ⟨D, 1, none⟩ b).setCell ⟨D, 2, none⟩ c).setCell ⟨D, 3, none⟩ d).cell? ⟨B, 0, none⟩ = some u ∧ ((((w.setCell ⟨D, 0, none⟩ a).setCell ⟨D, 1, none⟩ b).setCell ⟨D, 2, none⟩ c).setCell ⟨D, 3, none⟩ d).cell? ⟨B, 1, none⟩ = some v :=
  keep2_by (set4_other a b c d hne) x
/-- the box of a result -/
structure AwkD (w0 wx : World) (D : Nat) (o h k : Int) (v : Value) (l : List Tm) : Prop where
  below : Below w0.heap.size w0 wx
  hD : wx.heap[D]? = some (.cells #[.int .i64 o, .int .i64 h, .int .i64 k, v] 24 (0, 0))
  lies : Lies wx (fun _ => True) v l
theorem AwkD.keep {w0 wx wy : World} {D : Nat} {o h k : Int} {v : Value} {l : List Tm} (H : AwkD w0 wx D o h k v l) (hb : Below wx.heap.size wx wy) : AwkD w0 wy D o h k v l := ⟨below_next H.below hb, heap_kept hb H.hD, H.lies.keep hb⟩
theorem AwkD.new {w0 w6 : World} {o h k : Int} {v : Value} {l : List Tm} (hb : Below w0.heap.size w0 w6) (L : Lies w6 (fun _ => True) v l) : AwkD w0 (w6.alloc (.cells #[.int .i64 o, .int .i64 h, .int .i64 k, v] 24)) w6.heap.size o h k v l :=
  ⟨below_al hb _, heap_alloc_new _ _, L.keep (one_below _ _)⟩
theorem AwkD.set {w0 w6 : World} {D : Nat} {o h k : Int} {a n m} {l : List Tm} (z : w6.heap[D]? = some (.cells #[.int .i64 0, .int .i64 0, .int .i64 0, .slice none 0 0] 24 (0, 0))) (hb : Below w0.heap.size w0 w6) (hD : w0.heap.size ≤ D) (L : Lies w6 (fun b => b ≠ D) (.slice a n m) l) :
    AwkD w0 ((((w6.setCell ⟨D, 0, none⟩ (.int .i64 o)).setCell ⟨D, 1, none⟩ (.int .i64 h)).setCell ⟨D, 2, none⟩ (.int .i64 k)).setCell ⟨D, 3, none⟩ (.slice a n m)) D o h k (.slice a n m) l :=
  ⟨(((hb.setCell hD _).setCell hD _).setCell hD _).setCell hD _, set4_at z _ _ _ _, (L.still fun b hS _ => set4_other _ _ _ _ hS).more fun _ _ _ => trivial⟩
abbrev CellsA (W : World) (D E : Nat) (a b c d e f g h : Value) : Prop :=
  (W.cell? ⟨D, 0, none⟩ = some a ∧ W.cell? ⟨D, 1, none⟩ = some b ∧ W.cell? ⟨D, 2, none⟩ = some c ∧ W.cell? ⟨D, 3, none⟩ = some d) ∧ (W.cell? ⟨E, 0, none⟩ = some e ∧ W.cell? ⟨E, 1, none⟩ = some f ∧ W.cell? ⟨E, 2, none⟩ = some g ∧ W.cell? ⟨E, 3, none⟩ = some h)
theorem cellsA_below {W W' : World} {D E : Nat} {a b c d e f g h : Value} (hb : Below W.heap.size W W') (x : CellsA W D E a b c d e f g h) : CellsA W' D E a b c d e f g h :=
  ⟨⟨kept_cell hb x.1.1, kept_cell hb x.1.2.1, kept_cell hb x.1.2.2.1, kept_cell hb x.1.2.2.2⟩, ⟨kept_cell hb x.2.1, kept_cell hb x.2.2.1, kept_cell hb x.2.2.2.1, kept_cell hb x.2.2.2.2⟩⟩
theorem lies_keep {w w' : World} {S : Nat → Prop} {v : Value} {l : List Tm} (hb : Below w.heap.size w w') (h : Lies w S v l) : Lies w' S v l := h.keep hb
theorem use_fact {p q : Prop} (h : p) (f : p → q) : q := f h
theorem heap_alloc_new1 (w : World) (o o' : Obj) : ((w.alloc o').alloc o).heap[w.heap.size + 1]? = some o := heap_new_at (by simp)
theorem keep2b {W W' : World} {B : Nat} {u v : Value} (hb : Below W.heap.size W W') (x : W.cell? ⟨B, 0, none⟩ = some u ∧ W.cell? ⟨B, 1, none⟩ = some v) : W'.cell? ⟨B, 0, none⟩ = some u ∧ W'.cell? ⟨B, 1, none⟩ = some v := ⟨kept_cell hb x.1, kept_cell hb x.2⟩

set_option maxHeartbeats 4000000 in
set_option maxRecDepth 100000 in
theorem awake_any (w : World) : Calls Try.prog 17 #[] w fun e w' => e = .returned (.bool true) ∧ Below w.heap.size w w' := by
  have h3 := blocks3 w #[.slice none 0 0, .int .i64 0] #[.slice none 0 0, .int .i64 0] #[.slice (some ⟨w.heap.size + 1, 0, none⟩) 1 1, .int .i64 0] 27 27 27
  have HB0 := Lib.hid h3.2.2.2
  have HBB := Lib.hid (And.intro h3.2.1 (And.intro h3.2.2.1 h3.2.2.2))
  have hS0 := (cells2_of h3.2.2.1).1
  clear h3
  go_enter Try.func17, Try.ntmps17
  go_upto_region 3 with fail
  generalize hw0 : ((w.alloc (.cells #[.slice none 0 0, .int .i64 0] 27)).alloc (.cells #[.slice none 0 0, .int .i64 0] 27)).alloc (.cells #[.slice (some ⟨w.heap.size + 1, 0, none⟩) 1 1, .int .i64 0] 27) = w0 at *
  clear hw0
  go_cut [3, 4] (fun p e wx => ∃ D a n m, p = .pointer (some ⟨D, 0, none⟩) ∧ e = .int .i64 0 ∧ AwkD w0 wx D 4 2 2 (.slice a n m) [.mk 4 2 1 []])
  case rest =>
    obtain ⟨D, a, n, m, rfl, rfl, A⟩ := hcut
    have hB1 := heap_kept A.below HBB.out.1
    obtain ⟨⟨q0, q1⟩, _⟩ := cells2_of (heap_kept A.below HBB.out.2.1)
    have hba := one_below wc (.cells #[.slice (some ⟨w.heap.size + 1, 0, none⟩) 1 1, .int .i64 0] 27)
    have call := awk_call2 wc.heap.size (w.heap.size + 1) _ (heap_alloc_new wc (.cells #[.slice (some ⟨w.heap.size + 1, 0, none⟩) 1 1, .int .i64 0] 27)) (heap_kept hba hB1)
    have HA := Lib.hid (A.keep hba)
    clear hB1 hba A
    go_wp2_with fail
    refine call.mono ?_
    rintro e w7 ⟨a7, n7, m7, rfl, hb7, L7⟩
    have hb8 := one_below w7 (.cells #[.int .i64 3, .int .i64 0, .int .i64 0, .slice a7 n7 m7] 24)
    have A8 := (HA.out.keep hb7).keep hb8
    have D8 := heap_alloc_new w7 (.cells #[.int .i64 3, .int .i64 0, .int .i64 0, .slice a7 n7 m7] 24)
    have hS8 : CellsA (w7.alloc (.cells #[.int .i64 3, .int .i64 0, .int .i64 0, .slice a7 n7 m7] 24)) D w7.heap.size (.int .i64 4) (.int .i64 2) (.int .i64 2) (.slice a n m) (.int .i64 3) (.int .i64 0) (.int .i64 0) (.slice a7 n7 m7) := ⟨c4_of A8.hD, c4_of D8⟩
    have HL := Lib.hid (And.intro A8 (L7.keep hb8))
    clear hb7 L7 hb8 A8 D8 HA call q0 q1
    go_wp2_with fail
    generalize hw8 : w7.alloc (.cells #[.int .i64 3, .int .i64 0, .int .i64 0, .slice a7 n7 m7] 24) = w8 at *
    clear hw8
    go_region_held3 (fun W => CellsA W D w7.heap.size (.int .i64 4) (.int .i64 2) (.int .i64 2) (.slice a n m) (.int .i64 3) (.int .i64 0) (.int .i64 0) (.slice a7 n7 m7))
      (first | (with_reducible exact hS8) | (with_reducible exact hcn) | (with_reducible exact cellsA_below (one_below _ _) hcn) | (with_reducible exact cellsA_below (Below.refl _ _).drew hS8) | (with_reducible exact cellsA_below (one_below _ _) (by assumption)) | fail)
      (first
      | (go_at_call 49; (with_reducible refine (con_any 1 none 0 0 _).mono ?_); rintro e w1 ⟨rfl, hb1⟩; have hcn := cellsA_below hb1 (by assumption))
      | (go_at_call 49; (with_reducible refine (con_any 2 (some _) 1 1 _).mono ?_); rintro e w2 ⟨rfl, hb2⟩; have hcn := cellsA_below hb2 (by assumption))
      | (go_at_call 16; (with_reducible refine (awk_same1 _ _ _ ?_ ?_).mono ?_); (focus ((repeat (first | (with_reducible exact HL.out.1.lies) | (with_reducible exact HL.out.2) | (with_reducible refine lies_keep hb2 ?_) | (with_reducible refine lies_keep hb1 ?_) | (with_reducible refine lies_keep (one_below _ _) ?_) | (with_reducible refine lies_keep (Below.refl _ _).drew ?_))); done)); (focus ((repeat (first | (with_reducible exact heap_alloc_new _ _) | (with_reducible exact HH15.out) | (with_reducible exact HH12.out) | (with_reducible refine heap_kept hb2 ?_) | (with_reducible refine heap_kept hb1 ?_) | (with_reducible refine heap_kept (one_below _ _) ?_) | (with_reducible refine heap_kept (Below.refl _ _).drew ?_))); done)); rintro e w3 ⟨rfl, hb3⟩; have hcn := cellsA_below hb3 (by assumption))
      | (go_at_call 48; (with_reducible refine (vr_any 0 none 0 0 _).mono ?_); rintro e w10 ⟨rfl, hb10⟩; have hcn := cellsA_below hb10 (by assumption))
      | (go_at_call 50; (with_reducible refine (lam_any 4 1 1 _ 1 1 w11).mono ?_); rintro e w12 ⟨b12, rfl, hb12, hh12⟩; have HH12 := Lib.hid hh12; (clear hh12); have hcn := cellsA_below hb12 (by assumption))
      | (go_at_call 50; (with_reducible refine (lam_any 4 1 1 _ 1 1 w14).mono ?_); rintro e w15 ⟨b15, rfl, hb15, hh15⟩; have HH15 := Lib.hid hh15; (clear hh15); have hcn := cellsA_below hb15 (by assumption))
      | (go_at_call 16; (with_reducible refine (awk_same2 HH15.out HH12.out ?_ ?_ ?_ ?_ ?_).mono ?_); (focus ((repeat (first | (with_reducible exact HL.out.1.lies) | (with_reducible exact HL.out.2) | (with_reducible refine lies_keep hb15 ?_) | (with_reducible refine lies_keep hb14 ?_) | (with_reducible refine lies_keep hb13 ?_) | (with_reducible refine lies_keep hb12 ?_) | (with_reducible refine lies_keep hb11 ?_) | (with_reducible refine lies_keep hb10 ?_) | (with_reducible refine lies_keep hb3 ?_) | (with_reducible refine lies_keep hb2 ?_) | (with_reducible refine lies_keep hb1 ?_) | (with_reducible refine lies_keep (one_below _ _) ?_) | (with_reducible refine lies_keep (Below.refl _ _).drew ?_))); done)); (focus ((repeat (first | (with_reducible exact heap_alloc_new _ _) | (with_reducible exact HH15.out) | (with_reducible exact HH12.out) | (with_reducible refine heap_kept hb15 ?_) | (with_reducible refine heap_kept hb14 ?_) | (with_reducible refine heap_kept hb13 ?_) | (with_reducible refine heap_kept hb12 ?_) | (with_reducible refine heap_kept hb11 ?_) | (with_reducible refine heap_kept hb10 ?_) | (with_reducible refine heap_kept hb3 ?_) | (with_reducible refine heap_kept hb2 ?_) | (with_reducible refine heap_kept hb1 ?_) | (with_reducible refine heap_kept (one_below _ _) ?_) | (with_reducible refine heap_kept (Below.refl _ _).drew ?_))); done)); (focus ((repeat (first | (with_reducible exact heap_alloc_new _ _) | (with_reducible exact HH15.out) | (with_reducible exact HH12.out) | (with_reducible refine heap_kept hb15 ?_) | (with_reducible refine heap_kept hb14 ?_) | (with_reducible refine heap_kept hb13 ?_) | (with_reducible refine heap_kept hb12 ?_) | (with_reducible refine heap_kept hb11 ?_) | (with_reducible refine heap_kept hb10 ?_) | (with_reducible refine heap_kept hb3 ?_) | (with_reducible refine heap_kept hb2 ?_) | (with_reducible refine heap_kept hb1 ?_) | (with_reducible refine heap_kept (one_below _ _) ?_) | (with_reducible refine heap_kept (Below.refl _ _).drew ?_))); done)); (focus ((repeat (first | (with_reducible exact heap_alloc_new _ _) | (with_reducible exact HH15.out) | (with_reducible exact HH12.out) | (with_reducible refine heap_kept hb15 ?_) | (with_reducible refine heap_kept hb14 ?_) | (with_reducible refine heap_kept hb13 ?_) | (with_reducible refine heap_kept hb12 ?_) | (with_reducible refine heap_kept hb11 ?_) | (with_reducible refine heap_kept hb10 ?_) | (with_reducible refine heap_kept hb3 ?_) | (with_reducible refine heap_kept hb2 ?_) | (with_reducible refine heap_kept hb1 ?_) | (with_reducible refine heap_kept (one_below _ _) ?_) | (with_reducible refine heap_kept (Below.refl _ _).drew ?_))); done)); (focus ((repeat (first | (with_reducible exact heap_alloc_new _ _) | (with_reducible exact HH15.out) | (with_reducible exact HH12.out) | (with_reducible refine heap_kept hb15 ?_) | (with_reducible refine heap_kept hb14 ?_) | (with_reducible refine heap_kept hb13 ?_) | (with_reducible refine heap_kept hb12 ?_) | (with_reducible refine heap_kept hb11 ?_) | (with_reducible refine heap_kept hb10 ?_) | (with_reducible refine heap_kept hb3 ?_) | (with_reducible refine heap_kept hb2 ?_) | (with_reducible refine heap_kept hb1 ?_) | (with_reducible refine heap_kept (one_below _ _) ?_) | (with_reducible refine heap_kept (Below.refl _ _).drew ?_))); done)); rintro e w16 ⟨rfl, hb16⟩; have hcn := cellsA_below hb16 (by assumption))
      | (go_at_call 48; (refine use_fact HH12.out (fun _ => ?_)); (with_reducible refine (vr_any 1 (some _) 1 1 _).mono ?_); rintro e w14 ⟨rfl, hb14⟩; have hcn := cellsA_below hb14 (by assumption))
      | (go_at_call 48; (with_reducible refine (vr_any 1 (some _) 1 1 _).mono ?_); rintro e w11 ⟨rfl, hb11⟩; have hcn := cellsA_below hb11 (by assumption))
      | fail)
    go_wp2_with fail
    go_ret
    refine ⟨rfl, ?_⟩
    repeat (first | (with_reducible refine below_next ?_ hb16) | (with_reducible refine below_next ?_ hb15) | (with_reducible refine below_next ?_ hb14) | (with_reducible refine below_next ?_ hb12) | (with_reducible refine below_next ?_ hb11) | (with_reducible refine below_next ?_ hb10) | (with_reducible refine below_next ?_ hb3) | (with_reducible refine below_next ?_ hb2) | (with_reducible refine below_next ?_ hb1) | (with_reducible refine below_al ?_ _) | (with_reducible refine Below.drew ?_))
    exact below_next HB0.out HL.out.1.below
  go_region_held3 (fun W => W.cell? ⟨w.heap.size + 1 + 1, 0, none⟩ = some (.slice (some ⟨w.heap.size + 1, 0, none⟩) 1 1) ∧ W.cell? ⟨w.heap.size + 1 + 1, 1, none⟩ = some (.int .i64 0))
    (first | (with_reducible exact keep2_four hneD hcn) | (with_reducible exact hS0) | (with_reducible exact hcn) | (with_reducible exact keep2b (one_below _ _) hcn) | (with_reducible exact keep2b (one_below _ _) hS0) | (with_reducible exact keep2b (Below.refl _ _).drew hS0) | (with_reducible exact keep2b (one_below _ _) (by assumption)) | fail)
    (first
      | (go_at_call 49; (with_reducible refine (con_any 1 none 0 0 _).mono ?_); rintro e w1 ⟨rfl, hb1⟩; have hcn := keep2b hb1 (by assumption))
      | (go_at_call 48; (with_reducible refine (vr_any 0 (some _) 1 1 _).mono ?_); rintro e w2 ⟨rfl, hb2⟩; have hcn := keep2b hb2 (by assumption))
      | (go_at_call 48; (with_reducible refine (vr_any 0 none 0 0 _).mono ?_); rintro e w3 ⟨rfl, hb3⟩; have hcn := keep2b hb3 (by assumption))
      | (go_at_call 49; (with_reducible refine (con_any 2 (some _) 1 1 _).mono ?_); rintro e w4 ⟨rfl, hb4⟩; have hcn := keep2b hb4 (by assumption))
      | (go_at_call 50; (with_reducible refine (lam_any 4 2 2 _ 1 1 _).mono ?_); rintro e w5 ⟨b5, rfl, hb5, hh5⟩; have HH5 := Lib.hid hh5; clear hh5; have hcn := keep2b hb5 (by assumption))
      | (go_at_call 14; (with_reducible refine (awk_call1 HH5.out ?_ ?_ ?_ ?_).mono ?_); (repeat (first | (with_reducible exact heap_new_at (by simp; done)) | (with_reducible exact HH5.out) | (with_reducible exact HBB.out.2.1) | (with_reducible exact HBB.out.1) | (with_reducible refine heap_kept hb5 ?_) | (with_reducible refine heap_kept hb4 ?_) | (with_reducible refine heap_kept hb3 ?_) | (with_reducible refine heap_kept hb2 ?_) | (with_reducible refine heap_kept hb1 ?_) | (with_reducible refine heap_kept (one_below _ _) ?_) | (with_reducible refine heap_kept (Below.refl _ _).drew ?_))); (repeat (first | (with_reducible exact heap_new_at (by simp; done)) | (with_reducible exact HH5.out) | (with_reducible exact HBB.out.2.1) | (with_reducible exact HBB.out.1) | (with_reducible refine heap_kept hb5 ?_) | (with_reducible refine heap_kept hb4 ?_) | (with_reducible refine heap_kept hb3 ?_) | (with_reducible refine heap_kept hb2 ?_) | (with_reducible refine heap_kept hb1 ?_) | (with_reducible refine heap_kept (one_below _ _) ?_) | (with_reducible refine heap_kept (Below.refl _ _).drew ?_))); (repeat (first | (with_reducible exact heap_new_at (by simp; done)) | (with_reducible exact HH5.out) | (with_reducible exact HBB.out.2.1) | (with_reducible exact HBB.out.1) | (with_reducible refine heap_kept hb5 ?_) | (with_reducible refine heap_kept hb4 ?_) | (with_reducible refine heap_kept hb3 ?_) | (with_reducible refine heap_kept hb2 ?_) | (with_reducible refine heap_kept hb1 ?_) | (with_reducible refine heap_kept (one_below _ _) ?_) | (with_reducible refine heap_kept (Below.refl _ _).drew ?_))); (repeat (first | (with_reducible exact heap_new_at (by simp; done)) | (with_reducible exact HH5.out) | (with_reducible exact HBB.out.2.1) | (with_reducible exact HBB.out.1) | (with_reducible refine heap_kept hb5 ?_) | (with_reducible refine heap_kept hb4 ?_) | (with_reducible refine heap_kept hb3 ?_) | (with_reducible refine heap_kept hb2 ?_) | (with_reducible refine heap_kept hb1 ?_) | (with_reducible refine heap_kept (one_below _ _) ?_) | (with_reducible refine heap_kept (Below.refl _ _).drew ?_))); rintro e w6 ⟨a6, n6, m6, rfl, hb6, L6⟩; have hcn := keep2b hb6 (by assumption); have HL6 := Lib.hid L6; (clear L6); (first | ((refine use_fact (p := w6.heap[w0.heap.size]? = some (.cells #[.int .i64 0, .int .i64 0, .int .i64 0, .slice none 0 0] 24 (0, 0))) ?_ (fun zD => ?_)); (focus ((repeat (first | (with_reducible exact heap_alloc_new _ _) | (with_reducible exact heap_alloc_new1 _ _ _) | (with_reducible refine heap_kept hb6 ?_) | (with_reducible refine heap_kept hb5 ?_) | (with_reducible refine heap_kept hb4 ?_) | (with_reducible refine heap_kept hb3 ?_) | (with_reducible refine heap_kept hb2 ?_) | (with_reducible refine heap_kept hb1 ?_) | (with_reducible refine heap_kept (one_below _ _) ?_) | (with_reducible refine heap_kept (Below.refl _ _).drew ?_))); done)); obtain ⟨z0, z1, z2, z3⟩ := c4_of zD; have g0 := free_in zD 0; have g1 := free_in zD 1; have g2 := free_in zD 2; have g3 := free_in zD 3; have hneD := ne_of_cells hcn.1 z0 (fun h => by cases h); have HZD := Lib.hid zD; (clear zD)) | ((refine use_fact (p := w6.heap[w1.heap.size]? = some (.cells #[.int .i64 0, .int .i64 0, .int .i64 0, .slice none 0 0] 24 (0, 0))) ?_ (fun zD => ?_)); (focus ((repeat (first | (with_reducible exact heap_alloc_new _ _) | (with_reducible exact heap_alloc_new1 _ _ _) | (with_reducible refine heap_kept hb6 ?_) | (with_reducible refine heap_kept hb5 ?_) | (with_reducible refine heap_kept hb4 ?_) | (with_reducible refine heap_kept hb3 ?_) | (with_reducible refine heap_kept hb2 ?_) | (with_reducible refine heap_kept hb1 ?_) | (with_reducible refine heap_kept (one_below _ _) ?_) | (with_reducible refine heap_kept (Below.refl _ _).drew ?_))); done)); obtain ⟨z0, z1, z2, z3⟩ := c4_of zD; have g0 := free_in zD 0; have g1 := free_in zD 1; have g2 := free_in zD 2; have g3 := free_in zD 3; have hneD := ne_of_cells hcn.1 z0 (fun h => by cases h); have HZD := Lib.hid zD; (clear zD)) | ((refine use_fact (p := w6.heap[w1.heap.size + 1]? = some (.cells #[.int .i64 0, .int .i64 0, .int .i64 0, .slice none 0 0] 24 (0, 0))) ?_ (fun zD => ?_)); (focus ((repeat (first | (with_reducible exact heap_alloc_new _ _) | (with_reducible exact heap_alloc_new1 _ _ _) | (with_reducible refine heap_kept hb6 ?_) | (with_reducible refine heap_kept hb5 ?_) | (with_reducible refine heap_kept hb4 ?_) | (with_reducible refine heap_kept hb3 ?_) | (with_reducible refine heap_kept hb2 ?_) | (with_reducible refine heap_kept hb1 ?_) | (with_reducible refine heap_kept (one_below _ _) ?_) | (with_reducible refine heap_kept (Below.refl _ _).drew ?_))); done)); obtain ⟨z0, z1, z2, z3⟩ := c4_of zD; have g0 := free_in zD 0; have g1 := free_in zD 1; have g2 := free_in zD 2; have g3 := free_in zD 3; have hneD := ne_of_cells hcn.1 z0 (fun h => by cases h); have HZD := Lib.hid zD; (clear zD)) | ((refine use_fact (p := w6.heap[w2.heap.size]? = some (.cells #[.int .i64 0, .int .i64 0, .int .i64 0, .slice none 0 0] 24 (0, 0))) ?_ (fun zD => ?_)); (focus ((repeat (first | (with_reducible exact heap_alloc_new _ _) | (with_reducible exact heap_alloc_new1 _ _ _) | (with_reducible refine heap_kept hb6 ?_) | (with_reducible refine heap_kept hb5 ?_) | (with_reducible refine heap_kept hb4 ?_) | (with_reducible refine heap_kept hb3 ?_) | (with_reducible refine heap_kept hb2 ?_) | (with_reducible refine heap_kept hb1 ?_) | (with_reducible refine heap_kept (one_below _ _) ?_) | (with_reducible refine heap_kept (Below.refl _ _).drew ?_))); done)); obtain ⟨z0, z1, z2, z3⟩ := c4_of zD; have g0 := free_in zD 0; have g1 := free_in zD 1; have g2 := free_in zD 2; have g3 := free_in zD 3; have hneD := ne_of_cells hcn.1 z0 (fun h => by cases h); have HZD := Lib.hid zD; (clear zD)) | ((refine use_fact (p := w6.heap[w3.heap.size]? = some (.cells #[.int .i64 0, .int .i64 0, .int .i64 0, .slice none 0 0] 24 (0, 0))) ?_ (fun zD => ?_)); (focus ((repeat (first | (with_reducible exact heap_alloc_new _ _) | (with_reducible exact heap_alloc_new1 _ _ _) | (with_reducible refine heap_kept hb6 ?_) | (with_reducible refine heap_kept hb5 ?_) | (with_reducible refine heap_kept hb4 ?_) | (with_reducible refine heap_kept hb3 ?_) | (with_reducible refine heap_kept hb2 ?_) | (with_reducible refine heap_kept hb1 ?_) | (with_reducible refine heap_kept (one_below _ _) ?_) | (with_reducible refine heap_kept (Below.refl _ _).drew ?_))); done)); obtain ⟨z0, z1, z2, z3⟩ := c4_of zD; have g0 := free_in zD 0; have g1 := free_in zD 1; have g2 := free_in zD 2; have g3 := free_in zD 3; have hneD := ne_of_cells hcn.1 z0 (fun h => by cases h); have HZD := Lib.hid zD; (clear zD)) | ((refine use_fact (p := w6.heap[w3.heap.size + 1]? = some (.cells #[.int .i64 0, .int .i64 0, .int .i64 0, .slice none 0 0] 24 (0, 0))) ?_ (fun zD => ?_)); (focus ((repeat (first | (with_reducible exact heap_alloc_new _ _) | (with_reducible exact heap_alloc_new1 _ _ _) | (with_reducible refine heap_kept hb6 ?_) | (with_reducible refine heap_kept hb5 ?_) | (with_reducible refine heap_kept hb4 ?_) | (with_reducible refine heap_kept hb3 ?_) | (with_reducible refine heap_kept hb2 ?_) | (with_reducible refine heap_kept hb1 ?_) | (with_reducible refine heap_kept (one_below _ _) ?_) | (with_reducible refine heap_kept (Below.refl _ _).drew ?_))); done)); obtain ⟨z0, z1, z2, z3⟩ := c4_of zD; have g0 := free_in zD 0; have g1 := free_in zD 1; have g2 := free_in zD 2; have g3 := free_in zD 3; have hneD := ne_of_cells hcn.1 z0 (fun h => by cases h); have HZD := Lib.hid zD; (clear zD)) | ((refine use_fact (p := w6.heap[w4.heap.size]? = some (.cells #[.int .i64 0, .int .i64 0, .int .i64 0, .slice none 0 0] 24 (0, 0))) ?_ (fun zD => ?_)); (focus ((repeat (first | (with_reducible exact heap_alloc_new _ _) | (with_reducible exact heap_alloc_new1 _ _ _) | (with_reducible refine heap_kept hb6 ?_) | (with_reducible refine heap_kept hb5 ?_) | (with_reducible refine heap_kept hb4 ?_) | (with_reducible refine heap_kept hb3 ?_) | (with_reducible refine heap_kept hb2 ?_) | (with_reducible refine heap_kept hb1 ?_) | (with_reducible refine heap_kept (one_below _ _) ?_) | (with_reducible refine heap_kept (Below.refl _ _).drew ?_))); done)); obtain ⟨z0, z1, z2, z3⟩ := c4_of zD; have g0 := free_in zD 0; have g1 := free_in zD 1; have g2 := free_in zD 2; have g3 := free_in zD 3; have hneD := ne_of_cells hcn.1 z0 (fun h => by cases h); have HZD := Lib.hid zD; (clear zD)) | ((refine use_fact (p := w6.heap[w5.heap.size]? = some (.cells #[.int .i64 0, .int .i64 0, .int .i64 0, .slice none 0 0] 24 (0, 0))) ?_ (fun zD => ?_)); (focus ((repeat (first | (with_reducible exact heap_alloc_new _ _) | (with_reducible exact heap_alloc_new1 _ _ _) | (with_reducible refine heap_kept hb6 ?_) | (with_reducible refine heap_kept hb5 ?_) | (with_reducible refine heap_kept hb4 ?_) | (with_reducible refine heap_kept hb3 ?_) | (with_reducible refine heap_kept hb2 ?_) | (with_reducible refine heap_kept hb1 ?_) | (with_reducible refine heap_kept (one_below _ _) ?_) | (with_reducible refine heap_kept (Below.refl _ _).drew ?_))); done)); obtain ⟨z0, z1, z2, z3⟩ := c4_of zD; have g0 := free_in zD 0; have g1 := free_in zD 1; have g2 := free_in zD 2; have g3 := free_in zD 3; have hneD := ne_of_cells hcn.1 z0 (fun h => by cases h); have HZD := Lib.hid zD; (clear zD)) | skip))
      | fail)
  all_goals
    go_wp2_with fail
    go_meet
    case rel =>
      first
        | (refine ⟨_, _, _, _, rfl, rfl, AwkD.set HZD.out ?_ ?_ ?_⟩; (focus ((repeat (first | (with_reducible refine below_next ?_ hb6) | (with_reducible refine below_next ?_ hb5) | (with_reducible refine below_next ?_ hb4) | (with_reducible refine below_next ?_ hb3) | (with_reducible refine below_next ?_ hb2) | (with_reducible refine below_next ?_ hb1) | (with_reducible refine below_al ?_ _) | (with_reducible refine Below.drew ?_))); (with_reducible exact Below.refl _ _))); (focus (have s1 := hb1.size; have s2 := hb2.size; have s3 := hb3.size; have s4 := hb4.size; have s5 := hb5.size; simp at s1 s2 s3 s4 s5; omega)); (focus (refine HL6.out.more fun b hlt hS => ?_; have s1 := hb1.size; have s2 := hb2.size; have s3 := hb3.size; have s4 := hb4.size; have s5 := hb5.size; simp at s1 s2 s3 s4 s5 hS; omega)); done)
        | (refine ⟨_, _, _, _, rfl, rfl, AwkD.new ?_ (HL6.out.more fun _ _ _ => trivial)⟩; (focus ((repeat (first | (with_reducible refine below_next ?_ hb6) | (with_reducible refine below_next ?_ hb5) | (with_reducible refine below_next ?_ hb4) | (with_reducible refine below_next ?_ hb3) | (with_reducible refine below_next ?_ hb2) | (with_reducible refine below_next ?_ hb1) | (with_reducible refine below_al ?_ _) | (with_reducible refine Below.drew ?_))); (with_reducible exact Below.refl _ _))); done)
        | fail
end Go.Proofs.Ytieakippgeehgaa.Sb
