/- The contracts of sign.isFormed, Check, checkConstant. -/
import Derived.Test.YteoheeddjddekaaSgF
import Derived.Deep.RegionHeld3
namespace Go.Proofs.Yteoheeddjddekaa
open Go.RowKit Go.Maps
set_option linter.unusedSimpArgs false
set_option linter.unusedVariables false

theorem next_proper {l : List Dc} {d : Dc} (h : Sg.next l d = true) : Tm.proper d.cl = true := by
  unfold Sg.next at h
  simp only [Bool.and_eq_true] at h
  exact h.1.1.1.1.2
theorem nextTo_proper (l : List Dc) : ∀ k, k ≤ l.length → Sg.nextTo l k = true → ∀ x ∈ l.take k, Tm.proper x.cl = true
  | 0, _, _, x, hx => by simp at hx
  | k + 1, h, e, x, hx => by
    rw [Sg.nextTo_step l k (by omega), Bool.and_eq_true] at e
    rw [List.take_succ_eq_append_getElem (show k < l.length by omega)] at hx
    rcases List.mem_append.1 hx with hx | hx
    · exact nextTo_proper l k (by omega) e.1 x hx
    · rw [List.mem_singleton.1 hx]; exact next_proper e.2
theorem formed_long {l : List Dc} (h : 100 < l.length) : Sg.formed l = false := by unfold Sg.formed; rw [decide_eq_false (by omega)]; rfl
theorem formed_not {l : List Dc} {k : Nat} (hk : k < l.length) (e : Sg.next (l.take k) l[k] = false) : Sg.formed l = false := by
  unfold Sg.formed
  have : Sg.nextTo l l.length = false := by
    rw [Bool.eq_false_iff]
    intro h
    have := Sg.nextTo_of_le l (show k + 1 ≤ l.length by omega) h
    rw [Sg.nextTo_step l k hk, e, Bool.and_false] at this
    cases this
  rw [this]; simp
theorem formed_end {l : List Dc} (h : ¬ 100 < l.length) (e : Sg.nextTo l l.length = true) : Sg.formed l = ((Maps.size (Sg.posD l l.length : DataW Unit) : Int) == (l.length : Int)) := by
  unfold Sg.formed
  rw [decide_eq_true (by omega), e, Bool.eq_iff_iff]
  unfold Sg.once
  have := Sg.size_posD (H := Unit) l l.length (Nat.le_refl _)
  rw [List.take_length] at this
  simp only [Bool.true_and, decide_eq_true_eq, beq_iff_eq, Bool.and_self]
  rw [← this]; omega

abbrev CellsD (W : World) (B : Nat) (x0 x1 x2 x3 x4 x5 : Value) : Prop :=
  W.cell? ⟨B, 0, none⟩ = some x0 ∧ W.cell? ⟨B, 1, none⟩ = some x1 ∧ W.cell? ⟨B, 2, none⟩ = some x2 ∧ W.cell? ⟨B, 3, none⟩ = some x3 ∧ W.cell? ⟨B, 4, none⟩ = some x4 ∧ W.cell? ⟨B, 5, none⟩ = some x5
theorem cellsD_below {W W' : World} {B : Nat} {x0 x1 x2 x3 x4 x5 : Value} (hb : Below W.heap.size W W') (x : CellsD W B x0 x1 x2 x3 x4 x5) : CellsD W' B x0 x1 x2 x3 x4 x5 := by
  obtain ⟨y0, y1, y2, y3, y4, y5⟩ := x
  exact ⟨kept_cell hb y0, kept_cell hb y1, kept_cell hb y2, kept_cell hb y3, kept_cell hb y4, kept_cell hb y5⟩

set_option maxHeartbeats 4000000 in
set_option maxRecDepth 100000 in
theorem sgFormed_any (S : Nat → Prop) (l : List Dc) (sv : Value) (w : World) (hl : DLies w S sv l) :
    Calls Try.prog 24 #[sv] w fun e w' => e = .returned (.bool (Sg.formed l)) ∧ Below w.heap.size w w' := by
  have HDL := Lib.hid hl
  obtain ⟨ao, bb, off, len, cap, nm, oo, hh, kk, sc, tt, im, rfl, R⟩ := hl
  have hrl := R.hl
  have hrc := R.hr
  have HLEN := Lib.hid R.length
  have HR := Lib.hid R
  have HB0 := Lib.hid (Below.refl w.heap.size w)
  clear R
  by_cases hbig : 100 < len
  · have hn : (100 : Int) < (len : Int) := by omega
    rw [formed_long (by rw [HLEN.out]; exact hbig)]
    go_enter Try.func24, Try.ntmps24
    go_wp2
    go_ret
    exact ⟨rfl, HB0.out⟩
  · have hn : ¬ (100 : Int) < (len : Int) := by omega
    have HE := Lib.hid (formed_end (l := l) (by rw [HLEN.out]; exact hbig))
    go_enter Try.func24, Try.ntmps24
    go_wp2
    go_loopw [10] (fun i wr => ∃ k : Nat, k ≤ len ∧ i = .int .i64 k ∧ Below w.heap.size w wr ∧ Hid (Sg.nextTo l k = true)) (fun i _ => len - (RowKit.intOf i).toNat)
    case atStart => exact ⟨0, Nat.zero_le _, rfl, HB0.out, Lib.hid (Sg.nextTo_zero l)⟩
    case round =>
      obtain ⟨k, hk, rfl, hbw, HN⟩ := hrel
      have HBW := Lib.hid hbw
      by_cases hlt : k < len
      · obtain rfl := HR.out.hao (by omega)
        obtain ⟨d0, d1, d2, d3, d4, d5, hsub⟩ := HR.out.at hbw k hlt
        have hkl : k < l.length := by rw [HLEN.out]; exact hlt
        have HG := Lib.hid (HR.out.get k hlt)
        obtain ⟨a9, n9, m9, hsc⟩ := hsub.isSlice
        rw [hsc] at d4 hsub
        have cN := fun (w1 : World) (hb : Below w.heap.size w w1) => next_any S (l.take k) ⟨nm k, .mk (oo k) (hh k) (kk k) (tt k), im k⟩ (.slice (some ⟨bb, off, none⟩) k cap) (.slice a9 n9 m9) w1
          ⟨_, _, _, _, _, _, _, _, _, _, _, _, rfl, (HR.out.take k hk).keep hb⟩ (nextTo_proper l k (by omega) HN.out) (by rw [← hsc]; exact (HR.out.sub k hlt).keep hb) (HR.out.rn k hlt) (HR.out.r3 k hlt)
        unfold dcV at cN
        simp only [Tm.op, Tm.hd, Tm.n] at cN
        have HB1 := Lib.hid (one_below wr (.cells #[.string (nm k), .int .i64 (oo k), .int .i64 (hh k), .int .i64 (kk k), .slice a9 n9 m9, .int .i64 (im k)] 40))
        have hS0 : CellsD (wr.alloc (.cells #[.string (nm k), .int .i64 (oo k), .int .i64 (hh k), .int .i64 (kk k), .slice a9 n9 m9, .int .i64 (im k)] 40)) wr.heap.size (.string (nm k)) (.int .i64 (oo k)) (.int .i64 (hh k)) (.int .i64 (kk k)) (.slice a9 n9 m9) (.int .i64 (im k)) := cells6_of' (heap_alloc_new wr _)
        have HD := Lib.hid (HBW.out.trans (((one_below wr (.cells #[.string (nm k), .int .i64 (oo k), .int .i64 (hh k), .int .i64 (kk k), .slice a9 n9 m9, .int .i64 (im k)] 40)).drew).mono HBW.out.size))
        have HT := Lib.hid (Sg.nextTo_step l k hkl)
        have HF := Lib.hid (formed_not hkl)
        have hkc : (k : Int) ≤ (cap : Int) := by omega
        rcases hr : Sg.next (l.take k) ⟨nm k, .mk (oo k) (hh k) (kk k) (tt k), im k⟩ with _ | _
        · have HFF := Lib.hid (HF.out (by rw [HG.out]; exact hr))
          simp only [hr] at cN
          clear hr hsub hbw
          go_upto_region 6 with fail
          go_region_held3 (fun X => CellsD X wr.heap.size (.string (nm k)) (.int .i64 (oo k)) (.int .i64 (hh k)) (.int .i64 (kk k)) (.slice a9 n9 m9) (.int .i64 (im k)))
            (first | (with_reducible exact cellsD_below (Below.refl _ _).drew hS0) | (with_reducible exact hcn) | fail)
            (first | (go_at_call 44; (with_reducible refine (cN _ HD.out).mono ?_); rintro e w4 ⟨rfl, hb4⟩; have hcn := cellsD_below hb4 (cellsD_below (Below.refl _ _).drew hS0); have HB4 := Lib.hid (below_next HD.out hb4); clear hb4) | fail)
          go_wp2_with fail
          go_ret
          exact ⟨ret_bool (a := false) HFF.out.symm, HB4.out⟩
        · have HTT := Lib.hid (by rw [HT.out, HN.out, HG.out, hr]; rfl : Sg.nextTo l (k + 1) = true)
          simp only [hr] at cN
          clear hr hsub hbw
          go_upto_region 6 with fail
          go_region_held3 (fun X => CellsD X wr.heap.size (.string (nm k)) (.int .i64 (oo k)) (.int .i64 (hh k)) (.int .i64 (kk k)) (.slice a9 n9 m9) (.int .i64 (im k)))
            (first | (with_reducible exact cellsD_below (Below.refl _ _).drew hS0) | (with_reducible exact hcn) | fail)
            (first | (go_at_call 44; (with_reducible refine (cN _ HD.out).mono ?_); rintro e w4 ⟨rfl, hb4⟩; have hcn := cellsD_below hb4 (cellsD_below (Below.refl _ _).drew hS0); have HB4 := Lib.hid (below_next HD.out hb4); clear hb4) | fail)
          go_wp2_with fail
          go_roundw
          case rel => exact ⟨k + 1, by omega, by go_num, HB4.out, HTT⟩
          case measure => simp [RowKit.intOf]; omega
      · obtain rfl : k = len := by omega
        have cP := positions_any (H := Unit) S l (.slice ao k cap) wr (HDL.out.keep HBW.out) (by rw [HLEN.out]; omega)
        rw [HLEN.out] at cP
        have HEE := Lib.hid (HE.out (by rw [HLEN.out]; exact HN.out))
        clear hbw
        go_wp2_with (first
          | (go_at_call 40; (with_reducible refine cP.mono ?_); rintro e w4 ⟨B, rfl, hB, hown, hb4⟩; have HO := Lib.hid hown; have HB4 := Lib.hid hb4; clear hown hb4)
          | (at_len; refine wpList_len_own _ rfl _ 73 rfl 9 3 Try.underlying73 _ B k _ rfl HO.out ?_)
          | fail)
        go_ret
        refine ⟨ret_bool ?_, below_next HBW.out HB4.out⟩
        rw [HEE.out, HLEN.out]
end Go.Proofs.Yteoheeddjddekaa
