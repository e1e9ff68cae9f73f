/- The contract of the reference's raised. -/
import Derived.Test.YtieakippgeehgaaSbMov4
namespace Go.Proofs.Ytieakippgeehgaa.Sb
open Go.RowKit
set_option linter.unusedSimpArgs false
set_option linter.unusedVariables false

set_option maxHeartbeats 1000000 in
set_option maxRecDepth 100000 in
/-- the contract of raised -/
theorem raised_any (t : Tm) (d : Int) (v : Value) (w : World) (hp : Tm.proper t = true) (hd0 : 0 ≤ d) (hd1 : d ≤ 9999) (hv : Lies w (fun _ => True) v t.args) :
    Calls Try.prog 67 #[.agg #[.int .i64 t.op, .int .i64 t.hd, .int .i64 t.n, v], .int .i64 d] w (GivesT w (Tm.moved d 0 t)) := by
  obtain ⟨o, h, n, l⟩ := t
  obtain ⟨a1, n1, m1, rfl⟩ := hv.isSlice
  have h2 := two_blocks w #[.int .i64 o, .int .i64 h, .int .i64 n, .slice a1 n1 m1] #[.int .i64 0, .int .i64 0, .int .i64 0, .slice none 0 0] 24 24
  have hb2 := two_below w (.cells #[.int .i64 o, .int .i64 h, .int .i64 n, .slice a1 n1 m1] 24) (.cells #[.int .i64 0, .int .i64 0, .int .i64 0, .slice none 0 0] 24)
  have hsz := (Tm.proper_two hp).1
  have call := moved4_calls d (by omega) hd1 _ o h n 0 (.slice a1 n1 m1) l _ (Nat.le_refl _) hsz (Tm.nums_of_formed _ 1 (Tm.proper_two hp).2) (by omega) (by omega) (hv.keep hb2)
  generalize Tm.moved d 0 (.mk o h n l) = T at call ⊢
  have HB := Lib.hid (And.intro hb2 h2.2)
  simp only [Tm.op, Tm.hd, Tm.n]
  clear h2 hb2 hv hp hsz
  go_enter Try.func67, Try.ntmps67
  go_wp2_with fail
  refine call.mono ?_
  rintro e w2 ⟨v2, rfl, hb2, L2⟩
  obtain ⟨a5, n5, m5, rfl⟩ := L2.isSlice
  have hr := heap_kept hb2 HB.out.2
  obtain ⟨y0, y1, y2, y3⟩ := c4_of hr
  have f0 := free_in hr 0
  have f1 := free_in hr 1
  have f2 := free_in hr 2
  have f3 := free_in hr 3
  have HR := Lib.hid (And.intro hr (And.intro (below_next HB.out.1 hb2) L2))
  clear hr hb2 L2 call
  go_wp2_with fail
  obtain ⟨hr, hbw, L2⟩ := HR.out
  obtain ⟨z0, z1, z2, z3⟩ := c4_of (set4_at hr (.int .i64 T.op) (.int .i64 T.hd) (.int .i64 T.n) (.slice a5 n5 m5))
  have h4 : w.heap.size ≤ w.heap.size + 1 := by omega
  refine bodyPost_ret (v := .agg #[.int .i64 T.op, .int .i64 T.hd, .int .i64 T.n, .slice a5 n5 m5]) (by simp [results, Try.results67, go_sem, z0, z1, z2, z3]) rfl ⟨_, rfl, (((hbw.setCell h4 _).setCell h4 _).setCell h4 _).setCell h4 _, (L2.still fun b hS _ => heap_set4 _ _ _ _ ?_ ?_ ?_ ?_).more fun b _ hS => ?_⟩
  all_goals (simp at hS ⊢; omega)
end Go.Proofs.Ytieakippgeehgaa.Sb
