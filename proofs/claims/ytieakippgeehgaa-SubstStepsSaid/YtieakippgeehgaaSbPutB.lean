/- The contract of the reference's apply where it ends at once. -/
import Derived.Test.YtieakippgeehgaaSbPutP
import Derived.Deep.DeepCutAuto
import Derived.BigRegion
import Derived.OwnWalk
namespace Go.Proofs.Ytieakippgeehgaa.Sb
open Go.RowKit
set_option linter.unusedSimpArgs false
set_option linter.unusedVariables false

set_option maxHeartbeats 4000000 in
set_option maxRecDepth 100000 in
theorem appR_nil (C : Nat) (cn : Int) (Ss : List Sp.Tm) (Sf : Nat → Prop) (fo fh fk : Int) (fl : List Tm) (fv lv Sv : Value) (c : Nat) (w : World) (hfC : ¬ Sf C) (hf : Lies w Sf fv fl) (hl : Lies w (· ≠ C) lv []) (hS : Sp.Lies w (· ≠ C) Sv Ss) (hC : cntR C c w) (hp : Tm.proper (.mk fo fh fk fl) = true) :
    Calls Try.prog 55 #[.pointer (some ⟨C, 0, none⟩), .agg #[.int .i64 fo, .int .i64 fh, .int .i64 fk, fv], lv, .agg #[Sv, .int .i64 cn]] w (GivesR Sf w C (app Ss (.mk fo fh fk fl) [] c)) := by
  have happ : app Ss (.mk fo fh fk fl) [] c = whole (.mk fo fh fk fl) c := by rw [app_nil, whole_ok hp]
  obtain ⟨a1, n1, m1, rfl⟩ := hf.isSlice
  obtain ⟨ao, b, off, len, cap, oo, hh, kk, sv, tt, rfl, R⟩ := hl.open
  have hlen : len = 0 := by have := R.length; simpa using this.symm
  subst hlen
  obtain ⟨a3, n3, m3, rfl⟩ := hS.isSlice
  have h3 := three_all w #[.int .i64 fo, .int .i64 fh, .int .i64 fk, .slice a1 n1 m1] #[.slice a3 n3 m3, .int .i64 cn] #[.int .i64 0, .int .i64 0, .int .i64 0, .slice none 0 0] 24 27 24
  obtain ⟨x0, x1, x2, x3⟩ := c4_of h3.1
  have hClt := lt_blk hC
  have HC := Lib.hid (heap_kept h3.2.2.2 hC)
  have HF := Lib.hid ((hf.more (S' := fun b => Sf b ∧ b ≠ w.heap.size + 1 + 1) fun b hlt hS => ⟨hS, by omega⟩).keep h3.2.2.2)
  have H3 := Lib.hid h3
  have HAP := Lib.hid happ
  clear hf hl hS hC h3 R happ
  go_enter Try.func55, Try.ntmps55
  go_wp2_with fail
  refine (wholeR_gives (.mk fo fh fk fl) (.slice a1 n1 m1) _ (fun b => Sf b ∧ b ≠ w.heap.size + 1 + 1) C c HF.out HC.out).mono ?_
  intro e w2 hG
  obtain ⟨u, u', u'', up, uq, um, ux, rfl, ho⟩ := hG.form
  have hr := Only.keepBlock ho H3.out.2.2.1 (by omega)
  obtain ⟨y0, y1, y2, y3⟩ := c4_of hr
  have f0 := free_in hr 0
  have f1 := free_in hr 1
  have f2 := free_in hr 2
  have f3 := free_in hr 3
  have HG2 := Lib.hid hG
  have HRB := Lib.hid hr
  clear hr hG ho x0 x1 x2 x3
  go_wp2_with fail
  obtain ⟨z0, z1, z2, z3⟩ := c4_of (set4_at HRB.out (.int .i64 u) (.int .i64 u') (.int .i64 u'') (.slice up uq um))
  refine bodyPost_ret (v := .tuple #[.agg #[.int .i64 u, .int .i64 u', .int .i64 u'', .slice up uq um], .int .i64 ux]) (by simp [results, Try.results55, go_sem, z0, z1, z2, z3]) rfl ?_
  rw [HAP.out]
  exact HG2.out.stored (by omega) hClt (Only.below H3.out.2.2.2 C) _ _ _ _

set_option maxHeartbeats 4000000 in
set_option maxRecDepth 100000 in
theorem appR_bad (C : Nat) (cn : Int) (Ss : List Sp.Tm) (Sf : Nat → Prop) (fo fh fk : Int) (fl : List Tm) (fv lv Sv : Value) (a : Tm) (sp : List Tm) (c : Nat) (w : World) (hf : Lies w Sf fv fl) (hl : Lies w (· ≠ C) lv (a :: sp)) (hS : Sp.Lies w (· ≠ C) Sv Ss) (hC : cntR C c w) (hsp : sp.length ≤ 600) (hbad : fo = 3 → Ss = []) :
    Calls Try.prog 55 #[.pointer (some ⟨C, 0, none⟩), .agg #[.int .i64 fo, .int .i64 fh, .int .i64 fk, fv], lv, .agg #[Sv, .int .i64 cn]] w (GivesR Sf w C (app Ss (.mk fo fh fk fl) (a :: sp) c)) := by
  have happ : app Ss (.mk fo fh fk fl) (a :: sp) c = .er 23 := app_shape _ _ _ _ _ hbad
  obtain ⟨a1, n1, m1, rfl⟩ := hf.isSlice
  obtain ⟨ao, b, off, len, cap, oo, hh, kk, sv, tt, rfl, R⟩ := hl.open
  have hlen : len = sp.length + 1 := by have := R.length; simpa using this.symm
  have hlne : ((len : Int) == 0) = false := by simp; omega
  obtain ⟨a3, b3, off3, n3, m3, sk, ssv, sts, rfl, SR⟩ := hS.open
  have h3 := three_all w #[.int .i64 fo, .int .i64 fh, .int .i64 fk, .slice a1 n1 m1] #[.slice a3 n3 m3, .int .i64 cn] #[.int .i64 0, .int .i64 0, .int .i64 0, .slice none 0 0] 24 27 24
  obtain ⟨x0, x1, x2, x3⟩ := c4_of h3.1
  have s0 := cell_in h3.2.1 0 _ rfl
  obtain ⟨y0, y1, y2, y3⟩ := c4_of h3.2.2.1
  have f0 := free_in h3.2.2.1 0
  have f1 := free_in h3.2.2.1 1
  have f2 := free_in h3.2.2.1 2
  have f3 := free_in h3.2.2.1 3
  have H3 := Lib.hid h3
  have HAP := Lib.hid happ
  have hway : ((fo != 3) = true) ∨ ((fo != 3) = false ∧ n3 = 0) := by
    by_cases h3 : fo = 3
    · have h0 : n3 = 0 := by have h1 := SR.length; rw [hbad h3] at h1; simpa using h1.symm
      exact .inr ⟨by simp [h3], h0⟩
    · exact .inl (by simp [h3])
  clear hf hl hS hC h3 R happ SR hbad hlen hsp
  rcases hway with e1 | ⟨e1, rfl⟩
  all_goals
    go_enter Try.func55, Try.ntmps55
    go_wp2_with fail
    refine bodyPost_ret (v := .tuple #[.agg #[.int .i64 0, .int .i64 0, .int .i64 0, .slice none 0 0], .int .i64 23]) (by simp [results, Try.results55, go_sem, y0, y1, y2, y3]) rfl ?_
    unfold GivesR
    rw [HAP.out]
    exact ⟨rfl, Only.below H3.out.2.2.2 C⟩
end Go.Proofs.Ytieakippgeehgaa.Sb
