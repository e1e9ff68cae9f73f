/- The contract of the reference's Size. -/
import Derived.Test.YtnooeaefldklaaaTmSize
namespace Go.Proofs.Ytnooeaefldklaaa
open Go.RowKit
set_option linter.unusedSimpArgs false
set_option linter.unusedVariables false

theorem last5 {a b c d e : Prop} (x : a ∧ b ∧ c ∧ d ∧ e) : e := x.2.2.2.2
theorem keep5 {w w1 w2 : World} {p1 p2 p3 p4 : Addr} {u1 u2 u3 u4 : Value} (hb : Below w1.heap.size w1 w2)
    (x : w1.cell? p1 = some u1 ∧ w1.cell? p2 = some u2 ∧ w1.cell? p3 = some u3 ∧ w1.cell? p4 = some u4 ∧ Below w.heap.size w w1) :
    w2.cell? p1 = some u1 ∧ w2.cell? p2 = some u2 ∧ w2.cell? p3 = some u3 ∧ w2.cell? p4 = some u4 ∧ Below w.heap.size w w2 := by
  obtain ⟨x1, x2, x3, x4, x5⟩ := x
  exact ⟨kept_cell hb x1, kept_cell hb x2, kept_cell hb x3, kept_cell hb x4, x5.trans (hb.mono x5.size)⟩

set_option maxHeartbeats 1000000 in
set_option maxRecDepth 100000 in
theorem sizeR_any (o h n : Int) (v : Value) (l : List Tm) (w : World) (hv : Lies w (fun _ => True) v l) (h6 : Tm.sz (.mk o h n l) ≤ 600) :
    Calls Try.prog 18 #[.agg #[.int .i64 o, .int .i64 h, .int .i64 n, v]] w fun e w' => e = .returned (.tuple #[.int .i64 (Tm.sz (.mk o h n l) : Nat), .int .i64 (Tm.depth (.mk o h n l) : Nat)]) ∧ Below w.heap.size w w' := by
  obtain ⟨a2, n2, m2, rfl⟩ := hv.isSlice
  have hb0 := one_below w (.cells #[.int .i64 o, .int .i64 h, .int .i64 n, .slice a2 n2 m2] 24)
  have c1 := fun w1 hb => nodes_calls _ _ o h n 600 _ l w1 (Nat.le_refl _) (hv.keep (w' := w1) hb) (by omega) (by omega)
  have c2 := fun w1 hb => depth_calls _ _ o h n _ l w1 (Nat.le_refl _) (hv.keep (w' := w1) hb) h6
  have hc : Tm.cnt (.mk o h n l) 600 = (Tm.sz (.mk o h n l) : Nat) := by unfold Tm.cnt; rw [if_pos (by omega)]
  rw [hc] at c1
  obtain ⟨s, hs⟩ : ∃ s, s = Tm.sz (.mk o h n l) := ⟨_, rfl⟩
  obtain ⟨d, hd⟩ : ∃ s, s = Tm.depth (.mk o h n l) := ⟨_, rfl⟩
  rw [← hs] at c1
  rw [← hd] at c2
  rw [← hs, ← hd]
  clear hv hs hd hc h6
  go_enter Try.func18, Try.ntmps18
  go_wp2
  go_region_held3 (fun w' => w'.cell? ⟨w.heap.size, 0, none⟩ = some (.int .i64 o) ∧ w'.cell? ⟨w.heap.size, 1, none⟩ = some (.int .i64 h) ∧ w'.cell? ⟨w.heap.size, 2, none⟩ = some (.int .i64 n) ∧ w'.cell? ⟨w.heap.size, 3, none⟩ = some (.slice a2 n2 m2) ∧ Below w.heap.size w w')
    (first | exact keep5 (by assumption) (by assumption) | (refine ⟨?_, ?_, ?_, ?_, ?_⟩ <;> first | exact hb0.drew | go_keep))
    (first | (go_at_call 49; (with_reducible refine (c1 _ ?_).mono ?_); (exact last5 (by assumption)); rintro e w1 ⟨rfl, hb1⟩) | (go_at_call 53; (with_reducible refine (c2 _ ?_).mono ?_); (exact last5 (by assumption)); rintro e w1 ⟨rfl, hb1⟩))
  all_goals (go_wp2; go_ret2; exact ⟨rfl, last5 (by assumption)⟩)

end Go.Proofs.Ytnooeaefldklaaa
