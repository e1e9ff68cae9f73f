/- The reference's Same of two signatures that are equal. -/
import Derived.Test.YteoheeddjddekaaL5f
import Derived.Test.YteoheeddjddekaaL5e
namespace Go.Proofs.Yteoheeddjddekaa
open Go.RowKit
set_option linter.unusedSimpArgs false
set_option linter.unusedVariables false

abbrev CellsDD (W : World) (B b o : Nat) (x0 x1 x2 x3 x4 x5 y0 y1 y2 y3 y4 y5 : Value) : Prop :=
  W.cell? ⟨B, 0, none⟩ = some x0 ∧ W.cell? ⟨B, 1, none⟩ = some x1 ∧ W.cell? ⟨B, 2, none⟩ = some x2 ∧ W.cell? ⟨B, 3, none⟩ = some x3 ∧ W.cell? ⟨B, 4, none⟩ = some x4 ∧ W.cell? ⟨B, 5, none⟩ = some x5 ∧
  W.cell? ⟨b, o, none⟩ = some y0 ∧ W.cell? ⟨b, o + 1, none⟩ = some y1 ∧ W.cell? ⟨b, o + 2, none⟩ = some y2 ∧ W.cell? ⟨b, o + 3, none⟩ = some y3 ∧ W.cell? ⟨b, o + 4, none⟩ = some y4 ∧ W.cell? ⟨b, o + 5, none⟩ = some y5
theorem cellsDD_below {W W' : World} {B b o : Nat} {x0 x1 x2 x3 x4 x5 y0 y1 y2 y3 y4 y5 : Value} (hb : Below W.heap.size W W') (x : CellsDD W B b o x0 x1 x2 x3 x4 x5 y0 y1 y2 y3 y4 y5) : CellsDD W' B b o x0 x1 x2 x3 x4 x5 y0 y1 y2 y3 y4 y5 := by
  obtain ⟨a0, a1, a2, a3, a4, a5, b0, b1, b2, b3, b4, b5⟩ := x
  exact ⟨kept_cell hb a0, kept_cell hb a1, kept_cell hb a2, kept_cell hb a3, kept_cell hb a4, kept_cell hb a5, kept_cell hb b0, kept_cell hb b1, kept_cell hb b2, kept_cell hb b3, kept_cell hb b4, kept_cell hb b5⟩

set_option maxHeartbeats 4000000 in
set_option maxRecDepth 100000 in
theorem sameD_any (S S' : Nat → Prop) (l : List Dc) (va vb : Value) (w : World) (ha : DLies w S va l) (hb : DLies w S' vb l) :
    Calls Try.prog 14 #[va, vb] w fun e w' => e = .returned (.bool true) ∧ Below w.heap.size w w' := by
  obtain ⟨ao, b, off, len, cap, nm, oo, hh, kk, sc, tt, im, rfl, R⟩ := ha
  obtain ⟨ao', b', off', len', cap', nm', oo', hh', kk', sc', tt', im', rfl, R'⟩ := hb
  have hlen := R.length
  have hlen' := R'.length
  obtain rfl : len' = len := by omega
  have hl1 := R.hl
  have hr1 := R.hr
  have hl2 := R'.hl
  have hr2 := R'.hr
  have HR := Lib.hid R
  have HR' := Lib.hid R'
  have HB0 := Lib.hid (Below.refl w.heap.size w)
  have HLEN := Lib.hid hlen
  clear R R' hlen hlen'
  go_enter Try.func14, Try.ntmps14
  go_wp2_with fail
  go_loopw [14] (fun i wr => ∃ j : Nat, j ≤ len' ∧ i = .int .i64 j ∧ Below w.heap.size w wr) (fun i _ => len' - (RowKit.intOf i).toNat)
  case atStart => exact ⟨0, Nat.zero_le _, rfl, HB0.out⟩
  case round =>
    obtain ⟨j, hj, rfl, hbw⟩ := hrel
    by_cases hlt : j < len'
    · obtain rfl := HR.out.hao (by omega)
      obtain rfl := HR'.out.hao (by omega)
      obtain ⟨d0, d1, d2, d3, d4, d5, hsub⟩ := HR.out.at hbw j hlt
      obtain ⟨a5, n5, m5, hs5⟩ := hsub.isSlice
      rw [hs5] at d4 hsub
      have hba := one_below wr (.cells #[.string (nm j), .int .i64 (oo j), .int .i64 (hh j), .int .i64 (kk j), .slice a5 n5 m5, .int .i64 (im j)] 40)
      have hg := (HR.out.get j hlt).symm.trans (HR'.out.get j hlt)
      simp only [Dc.mk.injEq, Tm.mk.injEq] at hg
      obtain ⟨e0, ⟨e1, e2, e3, e4⟩, e5⟩ := hg
      obtain ⟨q0, q1, q2, q3, q4, q5, hsub'⟩ := HR'.out.at (hbw.trans (hba.mono hbw.size)) j hlt
      rw [← e0] at q0
      rw [← e1] at q1
      rw [← e2] at q2
      rw [← e3] at q3
      rw [← e4] at hsub'
      rw [← e5] at q5
      obtain ⟨a6, n6, m6, hs6⟩ := hsub'.isSlice
      rw [hs6] at q4 hsub'
      have cS := fun w1 (hb : Below (wr.alloc (.cells #[.string (nm j), .int .i64 (oo j), .int .i64 (hh j), .int .i64 (kk j), .slice a5 n5 m5, .int .i64 (im j)] 40)).heap.size (wr.alloc (.cells #[.string (nm j), .int .i64 (oo j), .int .i64 (hh j), .int .i64 (kk j), .slice a5 n5 m5, .int .i64 (im j)] 40)) w1) => same_any _ _ (oo j) (hh j) (kk j) (oo j) (hh j) (kk j) (.slice a5 n5 m5) (.slice a6 n6 m6) (tt j) (tt j) w1 ((hsub.keep hba).keep hb) (hsub'.keep hb)
      rw [(Tm.same_iff _ _).2 rfl] at cS
      have hS0 : CellsDD (wr.alloc (.cells #[.string (nm j), .int .i64 (oo j), .int .i64 (hh j), .int .i64 (kk j), .slice a5 n5 m5, .int .i64 (im j)] 40)) wr.heap.size b' (off' + j * 6) (.string (nm j)) (.int .i64 (oo j)) (.int .i64 (hh j)) (.int .i64 (kk j)) (.slice a5 n5 m5) (.int .i64 (im j)) (.string (nm j)) (.int .i64 (oo j)) (.int .i64 (hh j)) (.int .i64 (kk j)) (.slice a6 n6 m6) (.int .i64 (im j)) := by
        obtain ⟨z0, z1, z2, z3, z4, z5⟩ := cells6_of' (heap_alloc_new wr (.cells #[.string (nm j), .int .i64 (oo j), .int .i64 (hh j), .int .i64 (kk j), .slice a5 n5 m5, .int .i64 (im j)] 40))
        exact ⟨z0, z1, z2, z3, z4, z5, q0, q1, q2, q3, q4, q5⟩
      have hj0 : (0 : Int) ≤ (j : Int) := by omega
      have hj1 : (j : Int) < (len' : Int) := by omega
      have HBA := Lib.hid (hbw.trans (hba.mono hbw.size))
      have HD := Lib.hid (Below.refl (wr.alloc (.cells #[.string (nm j), .int .i64 (oo j), .int .i64 (hh j), .int .i64 (kk j), .slice a5 n5 m5, .int .i64 (im j)] 40)).heap.size (wr.alloc (.cells #[.string (nm j), .int .i64 (oo j), .int .i64 (hh j), .int .i64 (kk j), .slice a5 n5 m5, .int .i64 (im j)] 40))).drew
      have CS := Lib.hid cS
      clear cS q0 q1 q2 q3 q4 q5 e0 e1 e2 e3 e4 e5 hsub hsub' hba hbw
      go_upto_region 6 with fail
      clear d0 d1 d2 d3 d4 d5
      go_region_held3 (fun X => CellsDD X wr.heap.size b' (off' + j * 6) (.string (nm j)) (.int .i64 (oo j)) (.int .i64 (hh j)) (.int .i64 (kk j)) (.slice a5 n5 m5) (.int .i64 (im j)) (.string (nm j)) (.int .i64 (oo j)) (.int .i64 (hh j)) (.int .i64 (kk j)) (.slice a6 n6 m6) (.int .i64 (im j)))
        (first | (with_reducible exact cellsDD_below (Below.refl _ _).drew hS0) | (with_reducible exact hcn) | fail)
        (first | (go_at_call 39; (with_reducible refine (CS.out _ HD.out).mono ?_); rintro e w4 ⟨rfl, hb4⟩; have hcn := cellsDD_below hb4 (cellsDD_below (Below.refl _ _).drew hS0); have HB4 := Lib.hid (below_next HD.out hb4); clear hb4 hS0) | fail)
      go_wp2_with fail
      go_roundw
      case rel => exact ⟨j + 1, by omega, by go_num, below_next HBA.out HB4.out⟩
      case measure => simp [RowKit.intOf]; omega
    · obtain rfl : j = len' := by omega
      have HBW := Lib.hid hbw
      clear hbw
      go_wp2_with fail
      go_ret
      exact ⟨rfl, HBW.out⟩
end Go.Proofs.Yteoheeddjddekaa
