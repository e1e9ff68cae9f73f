/- The contract of the reference's Formed. -/
import Derived.Test.YteoheeddjddekaaSgI
import Derived.Deep.RegionHeld3
namespace Go.Proofs.Yteoheeddjddekaa
open Go.RowKit
set_option linter.unusedSimpArgs false
set_option linter.unusedVariables false

theorem nextR_iff {l : List Dc} {d : Dc} : Sg.nextR l d = true ↔ Sg.next l d = true ∧ ¬ d.nm ∈ l.map Dc.nm := by
  unfold Sg.nextR
  rw [Bool.and_eq_true]
  refine and_congr Iff.rfl ?_
  rw [List.all_eq_true]
  constructor
  · intro h hm
    obtain ⟨x, hx, e⟩ := List.mem_map.1 hm
    have := h x hx
    rw [decide_eq_true e] at this
    cases this
  · intro h x hx
    rw [decide_eq_false (fun e => h (List.mem_map.2 ⟨x, hx, e⟩))]; rfl
theorem nodup_snoc {l : List Dc} {k : Nat} (hk : k < l.length) : ((l.take (k + 1)).map Dc.nm).Nodup ↔ ((l.take k).map Dc.nm).Nodup ∧ ¬ l[k].nm ∈ (l.take k).map Dc.nm := by
  rw [List.take_succ_eq_append_getElem hk, List.map_append, List.nodup_append]
  constructor
  · rintro ⟨h1, _, h2⟩
    exact ⟨h1, fun hm => h2 _ hm l[k].nm (by simp) rfl⟩
  · rintro ⟨h1, h2⟩
    refine ⟨h1, by simp, ?_⟩
    intro a ha b hb hab
    simp only [List.map_cons, List.map_nil, List.mem_singleton] at hb
    subst hab hb
    exact h2 ha
theorem formedR_not {l : List Dc} {k : Nat} (hk : k < l.length) (e : Sg.nextR (l.take k) l[k] = false) : Sg.formed l = false := by
  rw [Bool.eq_false_iff]
  intro h
  unfold Sg.formed Sg.once at h
  simp only [Bool.and_eq_true, decide_eq_true_eq] at h
  have h1 := Sg.nextTo_of_le l (show k + 1 ≤ l.length by omega) h.1.2
  rw [Sg.nextTo_step l k hk, Bool.and_eq_true] at h1
  have h2 : ((l.take (k + 1)).map Dc.nm).Nodup := by
    rw [List.map_take]
    exact h.2.sublist (List.take_sublist _ _)
  have h3 := nextR_iff.2 ⟨h1.2, ((nodup_snoc hk).1 h2).2⟩
  rw [e] at h3
  cases h3
theorem formedR_end {l : List Dc} (h : l.length ≤ 100) (e : Sg.nextTo l l.length = true) (hn : ((l.take l.length).map Dc.nm).Nodup) : Sg.formed l = true := by
  rw [List.take_length] at hn
  unfold Sg.formed Sg.once
  rw [decide_eq_true h, e, decide_eq_true hn]; rfl
/-- six cells -/
abbrev CellsDA (W : World) (B j : Nat) (x0 x1 x2 x3 x4 x5 : Value) : Prop :=
  W.cell? ⟨B, j, none⟩ = some x0 ∧ W.cell? ⟨B, j + 1, none⟩ = some x1 ∧ W.cell? ⟨B, j + 2, none⟩ = some x2 ∧ W.cell? ⟨B, j + 3, none⟩ = some x3 ∧ W.cell? ⟨B, j + 4, none⟩ = some x4 ∧ W.cell? ⟨B, j + 5, none⟩ = some x5
theorem cellsDA_below {W W' : World} {B j : Nat} {x0 x1 x2 x3 x4 x5 : Value} (hb : Below W.heap.size W W') (x : CellsDA W B j x0 x1 x2 x3 x4 x5) : CellsDA W' B j x0 x1 x2 x3 x4 x5 := by
  obtain ⟨y0, y1, y2, y3, y4, y5⟩ := x
  exact ⟨kept_cell hb y0, kept_cell hb y1, kept_cell hb y2, kept_cell hb y3, kept_cell hb y4, kept_cell hb y5⟩

set_option maxHeartbeats 4000000 in
set_option maxRecDepth 100000 in
theorem sgFormedR_any (S : Nat → Prop) (l : List Dc) (sv : Value) (w : World) (hl : DLies w S sv l) :
    Calls Try.prog 9 #[sv] w fun e w' => e = .returned (.bool (Sg.formed l)) ∧ Below w.heap.size w w' := by
  obtain ⟨ao, bb, off, len, cap, nm, oo, hh, kk, sc, tt, im, rfl, R⟩ := hl
  have hrl := R.hl
  have hrc := R.hr
  have HLEN := Lib.hid R.length
  have HR := Lib.hid R
  have HB0 := Lib.hid (Below.refl w.heap.size w)
  clear R
  by_cases hbig : 100 < len
  · have hn : ¬ (len : Int) ≤ 100 := by omega
    have hpos : (0 : Int) < (len : Int) := by omega
    rw [formed_long (by rw [HLEN.out]; exact hbig)]
    go_enter Try.func9, Try.ntmps9
    go_wp2
    go_loopw [3] (fun i wr => i = .int .i64 0 ∧ wr = w) (fun _ _ => 0)
    case atStart => exact ⟨rfl, rfl⟩
    case round =>
      obtain ⟨rfl, rfl⟩ := hrel
      go_wp2
      go_ret
      exact ⟨by first | rfl | simp [hn], HB0.out⟩
  · have hn : (len : Int) ≤ 100 := by omega
    go_enter Try.func9, Try.ntmps9
    go_wp2
    go_loopw [3] (fun i wr => ∃ k : Nat, k ≤ len ∧ i = .int .i64 k ∧ Below w.heap.size w wr ∧ Hid (Sg.nextTo l k = true ∧ ((l.take k).map Dc.nm).Nodup)) (fun i _ => len - (RowKit.intOf i).toNat)
    case atStart => exact ⟨0, Nat.zero_le _, rfl, HB0.out, Lib.hid ⟨Sg.nextTo_zero l, by simp⟩⟩
    case round =>
      obtain ⟨k, hk, rfl, hbw, HN⟩ := hrel
      have HBW := Lib.hid hbw
      by_cases hlt : k < len
      · have hlt' : (k : Int) < (len : Int) := by omega
        obtain rfl := HR.out.hao (by omega)
        obtain ⟨d0, d1, d2, d3, d4, d5, hsub⟩ := HR.out.at hbw k hlt
        have hkl : k < l.length := by rw [HLEN.out]; exact hlt
        have HG := Lib.hid (HR.out.get k hlt)
        obtain ⟨a9, n9, m9, hsc⟩ := hsub.isSlice
        rw [hsc] at d4 hsub
        have cN := fun (w1 : World) (hb : Below w.heap.size w w1) => nextR_any S (l.take k) ⟨nm k, .mk (oo k) (hh k) (kk k) (tt k), im k⟩ (.slice (some ⟨bb, off, none⟩) k cap) (.slice a9 n9 m9) w1
          ⟨_, _, _, _, _, _, _, _, _, _, _, _, rfl, (HR.out.take k hk).keep hb⟩ (nextTo_proper l k (by omega) HN.out.1) (by rw [← hsc]; exact (HR.out.sub k hlt).keep hb) (HR.out.rn k hlt) (HR.out.r3 k hlt)
        unfold dcV at cN
        simp only [Tm.op, Tm.hd, Tm.n] at cN
        have hS0 : CellsDA wr bb (off + k * 6) (.string (nm k)) (.int .i64 (oo k)) (.int .i64 (hh k)) (.int .i64 (kk k)) (.slice a9 n9 m9) (.int .i64 (im k)) := ⟨d0, d1, d2, d3, d4, d5⟩
        have HD := Lib.hid HBW.out.drew
        have HT := Lib.hid (Sg.nextTo_step l k hkl)
        have HF := Lib.hid (@formedR_not l k hkl)
        have HND := Lib.hid (nodup_snoc hkl)
        have hkc : (k : Int) ≤ (cap : Int) := by omega
        clear d0 d1 d2 d3 d4 d5 hsub hbw
        rcases hr : Sg.nextR (l.take k) ⟨nm k, .mk (oo k) (hh k) (kk k) (tt k), im k⟩ with _ | _
        · have HFF := Lib.hid (HF.out (by rw [HG.out]; exact hr))
          simp only [hr] at cN
          clear hr
          go_upto_region 4 with fail
          go_region_held3 (fun X => CellsDA X bb (off + k * 6) (.string (nm k)) (.int .i64 (oo k)) (.int .i64 (hh k)) (.int .i64 (kk k)) (.slice a9 n9 m9) (.int .i64 (im k)))
            (first | (with_reducible exact cellsDA_below (Below.refl _ _).drew hS0) | (with_reducible exact hcn) | fail)
            (first | (go_at_call 28; (with_reducible refine (cN _ HD.out).mono ?_); rintro e w4 ⟨rfl, hb4⟩; have hcn := cellsDA_below hb4 (cellsDA_below (Below.refl _ _).drew hS0); have HB4 := Lib.hid (below_next HD.out hb4); clear hb4) | fail)
          go_wp2_with fail
          go_ret
          exact ⟨ret_bool (a := false) HFF.out.symm, HB4.out⟩
        · have HTT : Hid (Sg.nextTo l (k + 1) = true ∧ ((l.take (k + 1)).map Dc.nm).Nodup) := Lib.hid (by
            have h1 := nextR_iff.1 hr
            refine ⟨by rw [HT.out, HN.out.1, HG.out, h1.1]; rfl, HND.out.2 ⟨HN.out.2, ?_⟩⟩
            rw [HG.out]; exact h1.2)
          simp only [hr] at cN
          clear hr
          go_upto_region 4 with fail
          go_region_held3 (fun X => CellsDA X bb (off + k * 6) (.string (nm k)) (.int .i64 (oo k)) (.int .i64 (hh k)) (.int .i64 (kk k)) (.slice a9 n9 m9) (.int .i64 (im k)))
            (first | (with_reducible exact cellsDA_below (Below.refl _ _).drew hS0) | (with_reducible exact hcn) | fail)
            (first | (go_at_call 28; (with_reducible refine (cN _ HD.out).mono ?_); rintro e w4 ⟨rfl, hb4⟩; have hcn := cellsDA_below hb4 (cellsDA_below (Below.refl _ _).drew hS0); have HB4 := Lib.hid (below_next HD.out hb4); clear hb4) | fail)
          go_wp2_with fail
          go_roundw
          case rel => exact ⟨k + 1, by omega, by go_num, HB4.out, HTT⟩
          case measure => simp [RowKit.intOf]; omega
      · obtain rfl : k = len := by omega
        have hnl : ¬ (k : Int) < (k : Int) := by omega
        have HEE := Lib.hid (formedR_end (l := l) (by rw [HLEN.out]; omega) (by rw [HLEN.out]; exact HN.out.1) (by rw [HLEN.out]; exact HN.out.2))
        clear hbw
        go_wp2_with fail
        go_ret
        exact ⟨by rw [HEE.out]; first | rfl | simp [hn], HBW.out⟩
end Go.Proofs.Yteoheeddjddekaa
