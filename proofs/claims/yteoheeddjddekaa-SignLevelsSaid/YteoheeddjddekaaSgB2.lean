/- The contract of sign.Swap: the case without an error. -/
import Derived.Test.YteoheeddjddekaaSgB0
namespace Go.Proofs.Yteoheeddjddekaa
open Go.RowKit
set_option linter.unusedSimpArgs false
set_option linter.unusedVariables false

set_option maxHeartbeats 4000000 in
set_option maxRecDepth 100000 in
theorem swap_good (ls : List Dc) (i : Nat) (sv : Value) (w : World) (hl : DLies w (fun _ => True) sv ls) (hc : ckOut ls i = 0) (he : ¬ (i : Int) = (ls.length : Int) - 1) (hno : ¬ (i : Int) ∈ consL (clAt ls (i + 1))) :
    Calls Try.prog 13 #[sv, .int .i64 i] w (GivesSE w (exch (ls.map (Dc.num (swp i))) i, 0)) := by
  have h1 := one_below w (.cells #[.int .i64 (i : Int)] 3)
  have cC := ck_any (fun _ => True) ls i sv _ (hl.keep h1)
  have hn0 := heap_alloc_new w (.cells #[.int .i64 (i : Int)] 3)
  have hc0 := cell_in hn0 0 (.int .i64 (i : Int)) rfl
  obtain ⟨hf, i', hi', hi⟩ := ckOut_zero hc
  obtain rfl : i' = i := by omega
  have hp := formed_proper hf
  have h100 := formed_len hf
  have cR := fun w1 (hb : Below w.heap.size w w1) (hn : w1.heap[w.heap.size]? = _) => renum_any 38 #[.pointer (some ⟨w.heap.size, 0, none⟩)] (swp i') ls sv w1 (hl.keep hb) hp (by omega) (swap_num w1 w.heap.size i' hn (by omega) (by omega))
  have hmf : ∀ (fn : Fn) (first cap : Array Value) (w : World), (Instr.makeFunc fn first cap).run Try.prog w = .ok (.func fn first cap) w := fun _ _ _ _ => rfl
  have H1 := Lib.hid h1
  have HN0 := Lib.hid hn0
  clear h1 hn0
  rw [hc] at cC
  obtain ⟨ao, b, off, len, cap, nm, oo, hh, kk, sc, tt, im, rfl, R⟩ := hl
  have hlen := R.length
  have hil : i' < len := by rw [← hlen]; exact hi
  have hrl := R.hl
  have hrc := R.hr
  rw [hlen] at h100 he
  obtain rfl := R.hao (by omega)
  have hj : i' + 1 < len := by omega
  rw [clAt_get (by rw [hlen]; exact hj), R.get (i' + 1) hj] at hno
  have he' : ((i' : Int) == (len : Int) - 1) = false := by simpa using he
  have hdf : IntKind.i64.wrap ((len : Int) - 1) = (len : Int) - 1 := IntWalk.i64_in _ (by omega)
  have hsu : IntKind.i64.wrap ((i' : Int) + 1) = (i' : Int) + 1 := IntWalk.i64_in _ (by omega)
  have hj0 : (0 : Int) ≤ (i' : Int) + 1 := by omega
  have hj1 : (i' : Int) + 1 < (len : Int) := by omega
  have hil0 : (0 : Int) ≤ (i' : Int) := by omega
  have hil1 : (i' : Int) < (len : Int) := by omega
  have hpi : Tm.proper (.mk (oo (i' + 1)) (hh (i' + 1)) (kk (i' + 1)) (tt (i' + 1))) = true := by have := hp _ (List.getElem_mem (by rw [hlen]; exact hj)); rwa [R.get (i' + 1) hj] at this
  have cN := fun w1 (hb : Below w.heap.size w w1) => sgContains_any (.mk (oo (i' + 1)) (hh (i' + 1)) (kk (i' + 1)) (tt (i' + 1))) i' (sc (i' + 1)) w1 ((R.sub (i' + 1) hj).keep hb) hpi
  rw [decide_eq_false hno] at cN
  obtain ⟨a9, n9, m9, hsc⟩ := (R.sub (i' + 1) hj).isSlice
  rw [hsc] at cN
  simp only [Tm.op, Tm.hd, Tm.n] at cN
  have HR := Lib.hid R
  have CN := Lib.hid cN
  have CR := Lib.hid cR
  have HLM : Hid ((ls.map (Dc.num (swp i'))).length = len) := Lib.hid (by rw [List.length_map, hlen])
  clear hf hp hc R hno hpi cN he cR hi hi' hlen
  generalize ls.map (Dc.num (swp i')) = ms at *
  go_enter Try.func13, Try.ntmps13
  go_upto_region 6 with (go_at_call 35; (with_reducible refine cC.mono ?_); rintro e w1 ⟨rfl, hb1⟩; have HB1 := Lib.hid (And.intro (below_next H1.out hb1) (heap_kept hb1 HN0.out)); have hc1 := kept_cell hb1 hc0; clear hb1)
  have HD := Lib.hid (HB1.out.1.trans ((Below.refl _ _).drew.mono HB1.out.1.size))
  obtain ⟨d0, d1, d2, d3, d4, d5, hsub⟩ := HR.out.at HB1.out.1 (i' + 1) hj
  rw [hsc] at d4
  have hS0 : CellsC w1 ⟨w.heap.size, 0, none⟩ ⟨b, off + (i' + 1) * 6 + 1, none⟩ ⟨b, off + (i' + 1) * 6 + 2, none⟩ ⟨b, off + (i' + 1) * 6 + 3, none⟩ ⟨b, off + (i' + 1) * 6 + 4, none⟩ (.int .i64 (i' : Int)) (.int .i64 (oo (i' + 1))) (.int .i64 (hh (i' + 1))) (.int .i64 (kk (i' + 1))) (.slice a9 n9 m9) := ⟨hc1, d1, d2, d3, d4⟩
  clear cC hsub d0 d1 d2 d3 d4 d5 hc1 hc0
  go_region_held3 (fun X => CellsC X ⟨w.heap.size, 0, none⟩ ⟨b, off + (i' + 1) * 6 + 1, none⟩ ⟨b, off + (i' + 1) * 6 + 2, none⟩ ⟨b, off + (i' + 1) * 6 + 3, none⟩ ⟨b, off + (i' + 1) * 6 + 4, none⟩ (.int .i64 (i' : Int)) (.int .i64 (oo (i' + 1))) (.int .i64 (hh (i' + 1))) (.int .i64 (kk (i' + 1))) (.slice a9 n9 m9))
    (first | (with_reducible exact cellsC_below (Below.refl _ _).drew hS0) | (with_reducible exact hcn) | fail)
    (first | (go_at_call 36; (with_reducible refine (CN.out _ HD.out).mono ?_); rintro e w4 ⟨rfl, hb4⟩; have hcn := cellsC_below hb4 (cellsC_below (Below.refl _ _).drew hS0); have HB4 := Lib.hid (And.intro (below_next HD.out hb4) (heap_kept hb4 (heap_kept (Below.refl _ _).drew HB1.out.2))); clear hb4 hS0) | fail)
  go_wp2_with fail
  refine (CR.out _ HB4.out.1 HB4.out.2).mono ?_
  rintro e w5 ⟨v5, rfl, hb5, M⟩
  have hlm := HLM.out
  obtain ⟨rfl, hnil⟩ | ⟨g, cap5, vs, hvl, rfl, hg, hcp, hcm, cells, hsub⟩ := M.cells
  · rw [hnil] at hlm; simp at hlm; omega
  obtain ⟨cur, hcur⟩ : ∃ cur, w5.heap[g]? = some (.cells cur 40 (0, 0)) := by
    obtain ⟨vs', _, hown, _⟩ := M.has
    rcases hown.2 with ⟨h, _⟩ | ⟨g', cap', cur, hv, _, hh', _⟩
    · cases h
    · cases hv; exact ⟨cur, hh'⟩
  rw [hlm] at hcp
  have hi5 : i' < ms.length := by omega
  have hj5 : i' + 1 < ms.length := by omega
  obtain ⟨x0, x1, x2, x3, x4, x5⟩ := cells i' hi5 (by omega)
  obtain ⟨y0, y1, y2, y3, y4, y5⟩ := cells (i' + 1) hj5 (by omega)
  simp only [Nat.zero_add] at x0 x1 x2 x3 x4 x5 y0 y1 y2 y3 y4 y5
  have hF := fun k => free_in hcur k
  have f0 := hF (i' * 6)
  have f1 := hF (i' * 6 + 1)
  have f2 := hF (i' * 6 + 2)
  have f3 := hF (i' * 6 + 3)
  have f4 := hF (i' * 6 + 4)
  have f5 := hF (i' * 6 + 5)
  have g0 := hF ((i' + 1) * 6)
  have g1 := hF ((i' + 1) * 6 + 1)
  have g2 := hF ((i' + 1) * 6 + 2)
  have g3 := hF ((i' + 1) * 6 + 3)
  have g4 := hF ((i' + 1) * 6 + 4)
  have g5 := hF ((i' + 1) * 6 + 5)
  have hfam := cell_in (heap_kept hb5 HB4.out.2) 0 (.int .i64 (i' : Int)) rfl
  obtain ⟨px, hpx⟩ : ∃ px, px = ms[i'] := ⟨_, rfl⟩
  obtain ⟨py, hpy⟩ : ∃ py, py = ms[i' + 1] := ⟨_, rfl⟩
  obtain ⟨vx, hvx⟩ : ∃ vx, vx = vs[i']'(by omega) := ⟨_, rfl⟩
  obtain ⟨vy, hvy⟩ : ∃ vy, vy = vs[i' + 1]'(by omega) := ⟨_, rfl⟩
  rw [← hpx] at x0 x1 x2 x3 x5
  rw [← hpy] at y0 y1 y2 y3 y5
  rw [← hvx] at x4
  rw [← hvy] at y4
  obtain ⟨pnx, ⟨pox, phx, pkx, plx⟩, pix⟩ := px
  obtain ⟨pny, ⟨poy, phy, pky, ply⟩, piy⟩ := py
  have hsx := hsub i' hi5 (by omega)
  have hsy := hsub (i' + 1) hj5 (by omega)
  rw [← hvx] at hsx
  rw [← hvy] at hsy
  obtain ⟨ax, nx, mx, rfl⟩ := hsx.isSlice
  obtain ⟨ay, ny, my, rfl⟩ := hsy.isSlice
  simp only [Tm.op, Tm.hd, Tm.n] at x0 x1 x2 x3 x5 y0 y1 y2 y3 y5
  have HM := Lib.hid M
  have HX := Lib.hid (And.intro hb5 (And.intro hcur (And.intro cells hsub)))
  have HPX := Lib.hid (And.intro hpx hpy)
  have HVX := Lib.hid (And.intro hvx hvy)
  have hm0 : (i' : Int) < (ms.length : Int) := by omega
  have hm1 : (i' : Int) + 1 < (ms.length : Int) := by omega
  rw [hlm]
  clear hb5 hcur cells hsub M hpx hpy hvx hvy hsx hsy hcn hF
  have hb4s := HB4.out.1.size
  have hx4 := lt_of_block HB4.out.2
  have hne1 : ¬ g = w.heap.size := by omega
  have hne2 : ¬ w.heap.size = g := by omega
  have HG := Lib.hid hg
  clear hg hb4s hx4
  go_wp2_with fail
  go_region
  have hbase := HB4.out.1.size
  have hgw : w.heap.size ≤ g := by have := HG.out; omega
  have hX := (heap_set_at (j := (i' + 1) * 6 + 5) (.int .i64 pix) (heap_set_at (j := (i' + 1) * 6 + 4) (.slice ax nx mx) (heap_set_at (j := (i' + 1) * 6 + 3) (.int .i64 pkx) (heap_set_at (j := (i' + 1) * 6 + 2) (.int .i64 phx) (heap_set_at (j := (i' + 1) * 6 + 1) (.int .i64 pox) (heap_set_at (j := (i' + 1) * 6) (.string pnx) (heap_set_at (j := i' * 6 + 5) (.int .i64 piy) (heap_set_at (j := i' * 6 + 4) (.slice ay ny my) (heap_set_at (j := i' * 6 + 3) (.int .i64 pky) (heap_set_at (j := i' * 6 + 2) (.int .i64 phy) (heap_set_at (j := i' * 6 + 1) (.int .i64 poy) (heap_set_at (j := i' * 6) (.string pny) HX.out.2.1))))))))))))
  have hXb := (((((((((((((below_next HB4.out.1 HX.out.1).setCell (p := ⟨g, i' * 6, none⟩) hgw (.string pny)).setCell (p := ⟨g, i' * 6 + 1, none⟩) hgw (.int .i64 poy)).setCell (p := ⟨g, i' * 6 + 2, none⟩) hgw (.int .i64 phy)).setCell (p := ⟨g, i' * 6 + 3, none⟩) hgw (.int .i64 pky)).setCell (p := ⟨g, i' * 6 + 4, none⟩) hgw (.slice ay ny my)).setCell (p := ⟨g, i' * 6 + 5, none⟩) hgw (.int .i64 piy)).setCell (p := ⟨g, (i' + 1) * 6, none⟩) hgw (.string pnx)).setCell (p := ⟨g, (i' + 1) * 6 + 1, none⟩) hgw (.int .i64 pox)).setCell (p := ⟨g, (i' + 1) * 6 + 2, none⟩) hgw (.int .i64 phx)).setCell (p := ⟨g, (i' + 1) * 6 + 3, none⟩) hgw (.int .i64 pkx)).setCell (p := ⟨g, (i' + 1) * 6 + 4, none⟩) hgw (.slice ax nx mx)).setCell (p := ⟨g, (i' + 1) * 6 + 5, none⟩) hgw (.int .i64 pix))
  have hXo : ∀ k, k ≠ g → ((((((((((((w5.setCell ⟨g, i' * 6, none⟩ (.string pny)).setCell ⟨g, i' * 6 + 1, none⟩ (.int .i64 poy)).setCell ⟨g, i' * 6 + 2, none⟩ (.int .i64 phy)).setCell ⟨g, i' * 6 + 3, none⟩ (.int .i64 pky)).setCell ⟨g, i' * 6 + 4, none⟩ (.slice ay ny my)).setCell ⟨g, i' * 6 + 5, none⟩ (.int .i64 piy)).setCell ⟨g, (i' + 1) * 6, none⟩ (.string pnx)).setCell ⟨g, (i' + 1) * 6 + 1, none⟩ (.int .i64 pox)).setCell ⟨g, (i' + 1) * 6 + 2, none⟩ (.int .i64 phx)).setCell ⟨g, (i' + 1) * 6 + 3, none⟩ (.int .i64 pkx)).setCell ⟨g, (i' + 1) * 6 + 4, none⟩ (.slice ax nx mx)).setCell ⟨g, (i' + 1) * 6 + 5, none⟩ (.int .i64 pix)).heap[k]? = w5.heap[k]? := fun k hk => by
    rw [Below.heap_setCell _ _ _ _ (by simpa using hk)]; rw [Below.heap_setCell _ _ _ _ (by simpa using hk)]; rw [Below.heap_setCell _ _ _ _ (by simpa using hk)]; rw [Below.heap_setCell _ _ _ _ (by simpa using hk)]; rw [Below.heap_setCell _ _ _ _ (by simpa using hk)]; rw [Below.heap_setCell _ _ _ _ (by simpa using hk)]; rw [Below.heap_setCell _ _ _ _ (by simpa using hk)]; rw [Below.heap_setCell _ _ _ _ (by simpa using hk)]; rw [Below.heap_setCell _ _ _ _ (by simpa using hk)]; rw [Below.heap_setCell _ _ _ _ (by simpa using hk)]; rw [Below.heap_setCell _ _ _ _ (by simpa using hk)]; rw [Below.heap_setCell _ _ _ _ (by simpa using hk)]
  generalize ((((((((((((w5.setCell ⟨g, i' * 6, none⟩ (.string pny)).setCell ⟨g, i' * 6 + 1, none⟩ (.int .i64 poy)).setCell ⟨g, i' * 6 + 2, none⟩ (.int .i64 phy)).setCell ⟨g, i' * 6 + 3, none⟩ (.int .i64 pky)).setCell ⟨g, i' * 6 + 4, none⟩ (.slice ay ny my)).setCell ⟨g, i' * 6 + 5, none⟩ (.int .i64 piy)).setCell ⟨g, (i' + 1) * 6, none⟩ (.string pnx)).setCell ⟨g, (i' + 1) * 6 + 1, none⟩ (.int .i64 pox)).setCell ⟨g, (i' + 1) * 6 + 2, none⟩ (.int .i64 phx)).setCell ⟨g, (i' + 1) * 6 + 3, none⟩ (.int .i64 pkx)).setCell ⟨g, (i' + 1) * 6 + 4, none⟩ (.slice ax nx mx)).setCell ⟨g, (i' + 1) * 6 + 5, none⟩ (.int .i64 pix)) = X at hX hXb hXo ⊢
  have hD := exch_lies (X := X) (base := w.heap.size) hvl hj5 HX.out.2.1 HX.out.2.2.1 (fun k h h' => (HX.out.2.2.2 k h h').more fun b _ hS => ⟨by have := hS.1; omega, hS.2⟩) hgw HM.out.fit (by rw [HLM.out]; exact hcp) hcm (by rw [← HPX.out.1, ← HPX.out.2, ← HVX.out.1, ← HVX.out.2]; exact hX) hXo
  rw [HLM.out] at hD
  have HD9 := Lib.hid (hD.keep (Below.refl _ _).drew)
  have HB9 := Lib.hid (hXb.trans ((Below.refl _ _).drew.mono hXb.size))
  clear hX hXo hXb hD
  go_wp2_with fail
  go_ret2
  exact ⟨_, rfl, HB9.out, HD9.out⟩
end Go.Proofs.Yteoheeddjddekaa
