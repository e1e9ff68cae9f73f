/- The walk of SignUndone. -/
import Derived.Test.YteoheeddjddekaaSgUm
import Derived.Test.YteoheeddjddekaaSgSm
import Derived.Deep.RegionHeld3
namespace Go.Proofs.Yteoheeddjddekaa
open Go.RowKit Go.Shelf
set_option linter.unusedSimpArgs false
set_option linter.unusedVariables false

theorem dlies_more {w : World} {S S' : Nat → Prop} {v : Value} {l : List Dc} (hv : DLies w S v l) (hs : ∀ b, b < w.heap.size → S b → S' b) : DLies w S' v l := by
  obtain ⟨ao, b, off, len, cap, nm, o, h, k, sv, ts, im, rfl, R⟩ := hv
  exact ⟨ao, b, off, len, cap, nm, o, h, k, sv, ts, im, rfl, R.isRow, R.hao, fun h0 => hs b (World.block_lt_of_cell? w _ (R.c0 0 h0)) (R.hS h0), R.hl, R.hr, R.c0, R.c1, R.c2, R.c3, R.c4, R.c5, R.rn, R.r0, R.r1, R.r2, R.r3, fun i hi => (R.sub i hi).more hs⟩
abbrev CellsN (W : World) (B b o : Nat) (s : ByteArray) : Prop := W.cell? ⟨B, 0, none⟩ = some (.string s) ∧ W.cell? ⟨b, o, none⟩ = some (.string s)
theorem cellsN_below {W W' : World} {B b o : Nat} {s : ByteArray} (hb : Below W.heap.size W W') (x : CellsN W B b o s) : CellsN W' B b o s := ⟨kept_cell hb x.1, kept_cell hb x.2⟩
theorem sgMod_in (n : Int) {L : Nat} (h0 : 0 < L) (h1 : L ≤ 1000000) : ∃ m : Nat, wrap64 ((IntKind.u64.wrap n).tmod (L : Int)) = (m : Int) ∧ m < L := by
  have h : 0 ≤ IntKind.u64.wrap n := by
    unfold IntKind.wrap
    simp only [IntKind.bits, IntKind.signed]
    first | (split <;> omega) | omega | exact Int.emod_nonneg _ (by decide)
  have e := Int.tmod_eq_emod_of_nonneg (b := (L : Int)) h
  have l0 := Int.emod_nonneg (IntKind.u64.wrap n) (b := (L : Int)) (by omega)
  have l1 := Int.emod_lt_of_pos (IntKind.u64.wrap n) (b := (L : Int)) (by omega)
  rw [e]
  refine ⟨((IntKind.u64.wrap n) % (L : Int)).toNat, ?_, by omega⟩
  rw [Int.toNat_of_nonneg l0]
  generalize IntKind.u64.wrap n % (L : Int) = x at *
  unfold wrap64
  omega

set_option maxHeartbeats 8000000 in
set_option maxRecDepth 100000 in
theorem signUndone_walk (w : World) (l : List Dc) (sv : Value) (hl : DLies w (fun _ => True) sv l) (d : Dc) (dv : Value) (hfit : d.fit) (hd : Lies w (fun _ => True) dv d.cl.args) (n : Int) (hn : I64 n) :
    Calls Try.prog 6 #[sv, dcV d dv, .int .i64 n] w fun e w' => e = .returned (.bool true) ∧ Below w.heap.size w w' := by
  obtain ⟨nme, ⟨o, h, k, ar⟩, imp⟩ := d
  obtain ⟨a2, n2, m2, rfl⟩ := hd.isSlice
  have hbx := one_below w (.cells #[.string nme, .int .i64 o, .int .i64 h, .int .i64 k, .slice a2 n2 m2, .int .i64 imp] 40)
  have HBL := Lib.hid hbx
  have HXL := Lib.hid (heap_alloc_new w (.cells #[.string nme, .int .i64 o, .int .i64 h, .int .i64 k, .slice a2 n2 m2, .int .i64 imp] 40))
  have cK := sgCheck_any (fun _ => True) l sv _ (hl.keep hbx)
  have HL := Lib.hid hl
  have HD := Lib.hid hd
  have HFT := Lib.hid hfit
  have hs := hfit.1
  have hX := cells6_of' HXL.out
  rcases hf : Sg.formed l with _ | _
  · rw [hf] at cK
    obtain ⟨a, m, rfl, -⟩ := hl.isSlice
    unfold dcV
    simp only [Tm.op, Tm.hd, Tm.n, Tm.args] at *
    clear hl hd hfit hf hbx hX
    go_enter Try.func6, Try.ntmps6
    go_wp2_with (first
      | (go_at_call 15; (with_reducible refine cK.mono ?_); rintro e w1 ⟨rfl, hb⟩; have HBL := Lib.hid (below_next HBL.out hb); clear hb)
      | (go_at_call 11; (with_reducible refine (awake_any _).mono ?_); rintro e w9 ⟨rfl, hb⟩; have HBL := Lib.hid (below_next HBL.out hb); clear hb)
      | fail)
    go_ret
    exact ⟨rfl, HBL.out⟩
  rw [hf] at cK
  have h100 := formed_len hf
  have hsum : IntKind.i64.wrap ((l.length : Int) + 1) = (l.length : Int) + 1 := IntWalk.i64_in _ (by omega)
  obtain ⟨a, m, rfl, -⟩ := hl.isSlice
  unfold dcV
  simp only [Tm.op, Tm.hd, Tm.n, Tm.args] at *
  clear hl hd hfit hbx
  go_enter Try.func6, Try.ntmps6
  go_wp2_with fail
  refine cK.mono ?_
  rintro e w1 ⟨rfl, hb⟩
  have HBL := Lib.hid (below_next HBL.out hb)
  have HXL := Lib.hid (heap_kept hb HXL.out)
  clear hX cK
  have hX := cells6_of' HXL.out
  clear hb
  have cA := add_any l ⟨nme, .mk o h k ar, imp⟩ _ _ w1 (HL.out.keep HBL.out) (HD.out.keep HBL.out) HFT.out
  unfold dcV at cA
  simp only [Tm.op, Tm.hd, Tm.n, Tm.args] at cA
  go_wp2_with fail
  refine cA.mono ?_
  rintro e w2 ⟨x, rfl, hb, hx⟩
  have HBL := Lib.hid (below_next HBL.out hb)
  have HXL := Lib.hid (heap_kept hb HXL.out)
  clear hX cA
  have hX := cells6_of' HXL.out
  clear hb
  have hx2 : DLies w2 (fun _ => True) x _ := dlies_more hx (fun _ _ _ => trivial)
  -- the first half: what was added is taken away
  by_cases hz : (addOut l ⟨nme, .mk o h k ar, imp⟩).2 = 0
  · obtain ⟨e1, e2, e3, e4⟩ := add_ok hf hz
    have hff := added_formed hf e2 e3 e4
    rw [e1] at hx hx2 ⊢
    obtain ⟨a3, m3, rfl, -⟩ := hx.isSlice
    have cW := without_any _ (l.length : Int) _ _ hx2
    rw [without_added hff] at cW
    simp only [List.length_append, List.length_singleton] at *
    have HX2 := Lib.hid hx2
    clear hx hx2 e1 e2 e3 hff hz
    go_wp2_with fail
    refine cW.mono ?_
    rintro e w3 ⟨y, rfl, hb, hy⟩
    have HBL := Lib.hid (below_next HBL.out hb)
    have HXL := Lib.hid (heap_kept hb HXL.out)
    have HX3 := Lib.hid (HX2.out.keep hb)
    clear hX cW
    have hX := cells6_of' HXL.out
    have hdr : Below w3.heap.size w3 w3.drew := (Below.refl _ _).drew
    have cS := sameD_any _ _ l y _ _ (hy.keep hdr) (HL.out.keep (below_next HBL.out hdr))
    obtain ⟨a4, m4, rfl, -⟩ := hy.isSlice
    have hx3 := HX3.out
    clear hb hy
    obtain ⟨xo, xb, xf, xl, xc, xn, xoo, xh, xk, xs, xt, xi, hxv, RX⟩ := hx3
    have hxl := RX.length
    simp at hxl
    cases hxv
    have hao := RX.hao (by omega)
    subst hao
    obtain ⟨q0, -, -, -, -, -, -⟩ := RX.at (Below.refl _ _) l.length (by omega)
    have hxg := RX.get l.length (by omega)
    rw [List.getElem_append_right (Nat.le_refl _)] at hxg
    simp at hxg
    rw [← hxg.1] at q0
    have hxc := RX.hl
    have hxr := RX.hr
    clear RX hxg hxl
    have hS0 : CellsN w3 w.heap.size xb (xf + l.length * 6) nme := ⟨hX.1, q0⟩
    have hS1 := cellsN_below hdr hS0
    have hlq0 : (0 : Int) ≤ (l.length : Int) := by omega
    have hlq1 : (l.length : Int) < ((l.length + 1 : Nat) : Int) := by omega
    clear q0 hX
    obtain ⟨N, hN⟩ : ∃ N : Nat, N = l.length + 1 := ⟨_, rfl⟩
    have hsum' : IntKind.i64.wrap ((l.length : Int) + 1) = (N : Int) := by rw [hsum]; omega
    have hlq3 : (l.length : Int) < (N : Int) := by omega
    rw [← hN]
    clear hlq1 hN hsum
    go_upto_region 6 with fail
    go_region_held3 (fun X => CellsN X w.heap.size xb (xf + l.length * 6) nme)
      (first | (with_reducible exact hS1) | (with_reducible exact hS0) | (with_reducible exact hcn) | fail)
      (first | (go_at_call 14; (with_reducible refine cS.mono ?_); rintro e w4 ⟨rfl, hb⟩; have hcn := cellsN_below hb hS1; have HB4 := Lib.hid (below_next hdr hb); clear hb) | fail)
    have HBL := Lib.hid (below_next HBL.out HB4.out)
    have HXL := Lib.hid (heap_kept HB4.out HXL.out)
    have hX := cells6_of' HXL.out
    clear hcn HB4 hS0 hS1 hlq0 hlq3 cS hdr hxc hxr HX2 HX3
    by_cases h0 : l.length = 0
    · have hz0 : ((l.length : Int) == 0) = true := by simpa using h0
      clear h0
      go_wp2_with (first
        | (go_at_call 11; (with_reducible refine (awake_any _).mono ?_); rintro e w9 ⟨rfl, hb⟩; have HBL := Lib.hid (below_next HBL.out hb); clear hb)
        | fail)
      go_ret
      exact ⟨rfl, HBL.out⟩
    obtain ⟨q, hq, hql⟩ := sgMod_in n (L := l.length) (by omega) (by omega)
    have hz0 : ((l.length : Int) == 0) = false := by simpa using h0
    have hz1 : ¬ (l.length : Int) = 0 := by omega
    have hwl : IntKind.u64.wrap (l.length : Int) = (l.length : Int) := by
      unfold IntKind.wrap
      simp only [IntKind.bits, IntKind.signed, Bool.false_and]
      have := Int.emod_eq_of_lt (a := (l.length : Int)) (b := 2 ^ 64) (by omega) (by omega)
      simpa using this
    have cR := rename_any l (q : Int) nme hs _ _ (HL.out.keep HBL.out)
    go_wp2_with fail
    refine cR.mono ?_
    rintro e w5 ⟨u, rfl, hb, hu⟩
    have HBL := Lib.hid (below_next HBL.out hb)
    have HXL := Lib.hid (heap_kept hb HXL.out)
    clear hX cR
    have hX := cells6_of' HXL.out
    clear hb
    rcases ren_ok (s := nme) hf hql with ⟨e1, s1, s2⟩ | e1 | e1
    rotate_left
    · rw [e1] at hu ⊢
      obtain ⟨a6, m6, rfl, -⟩ := hu.isSlice
      clear hu e1
      go_wp2_with (first
        | (go_at_call 11; (with_reducible refine (awake_any _).mono ?_); rintro e w9 ⟨rfl, hb⟩; have HBL := Lib.hid (below_next HBL.out hb); clear hb)
        | fail)
      go_ret
      exact ⟨rfl, HBL.out⟩
    · rw [e1] at hu ⊢
      obtain ⟨a6, m6, rfl, -⟩ := hu.isSlice
      clear hu e1
      go_wp2_with (first
        | (go_at_call 11; (with_reducible refine (awake_any _).mono ?_); rintro e w9 ⟨rfl, hb⟩; have HBL := Lib.hid (below_next HBL.out hb); clear hb)
        | fail)
      go_ret
      exact ⟨rfl, HBL.out⟩
    rw [e1] at hu ⊢
    have HU := Lib.hid (dlies_more (S' := fun _ => True) hu (fun _ _ _ => trivial))
    have hback := ren_back hf hql s1 s2
    have hfind := ren_find hf hql s1 s2
    have hsz := (HL.out.fits l[q] (List.getElem_mem hql)).1
    have cB := rename_any (renL l q nme) (q : Int) l[q].nm hsz _ _ HU.out
    rw [hback] at cB
    have HLW := HL.out.keep HBL.out
    obtain ⟨so, sb, sf, sl, sc, sn, soo, sh, sk, ss, st, si, hsv, RS⟩ := HLW
    have hsl := RS.length
    cases hsv
    have hao := RS.hao (by omega)
    obtain ⟨p0, -, -, -, -, -, -⟩ := RS.at (Below.refl _ _) q hql
    have hsg := RS.get q hql
    have hnm : l[q].nm = sn q := by rw [hsg]
    rw [← hnm] at p0
    clear RS hsg hnm
    subst hao
    obtain ⟨a6, m6, rfl, -⟩ := hu.isSlice
    rw [renL_length] at *
    have hq0 : (0 : Int) ≤ (q : Int) := by omega
    have hq1 : (q : Int) < (l.length : Int) := by omega
    clear hu e1 hback
    go_wp2_with fail
    refine cB.mono ?_
    rintro e w6 ⟨v, rfl, hb, hv⟩
    have HBL := Lib.hid (below_next HBL.out hb)
    have HXL := Lib.hid (heap_kept hb HXL.out)
    have HU6 := Lib.hid (HU.out.keep hb)
    clear hX cB
    have hX := cells6_of' HXL.out
    clear hb p0
    have HV := Lib.hid (dlies_more (S' := fun _ => True) hv (fun _ _ _ => trivial))
    obtain ⟨a7, m7, rfl, -⟩ := hv.isSlice
    have cFd := find_any (fun _ => True) (renL l q nme) nme hs _ _ HU6.out
    rw [hfind] at cFd
    clear hv hfind
    go_wp2_with fail
    refine cFd.mono ?_
    rintro e w7 ⟨rfl, hb⟩
    have HBL := Lib.hid (below_next HBL.out hb)
    have HV7 := Lib.hid (HV.out.keep hb)
    clear hb cFd hX
    have cSm := sameD_any _ _ l _ _ _ HV7.out (HL.out.keep HBL.out)
    go_wp2_with (first
      | (go_at_call 14; (with_reducible refine cSm.mono ?_); rintro e w8 ⟨rfl, hb⟩; have HBL := Lib.hid (below_next HBL.out hb); clear hb)
      | (go_at_call 11; (with_reducible refine (awake_any _).mono ?_); rintro e w9 ⟨rfl, hb⟩; have HBL := Lib.hid (below_next HBL.out hb); clear hb)
      | fail)
    go_ret
    exact ⟨rfl, HBL.out⟩
  · have hz' : ((addOut l ⟨nme, .mk o h k ar, imp⟩).2 == 0) = false := by simpa using hz
    obtain ⟨a3, m3, rfl, -⟩ := hx.isSlice
    clear hx hx2 hz
    generalize addOut l ⟨nme, .mk o h k ar, imp⟩ = z at *
    by_cases h0 : l.length = 0
    · have hz0 : ((l.length : Int) == 0) = true := by simpa using h0
      clear h0
      go_wp2_with (first
        | (go_at_call 11; (with_reducible refine (awake_any _).mono ?_); rintro e w9 ⟨rfl, hb⟩; have HBL := Lib.hid (below_next HBL.out hb); clear hb)
        | fail)
      go_ret
      exact ⟨rfl, HBL.out⟩
    obtain ⟨q, hq, hql⟩ := sgMod_in n (L := l.length) (by omega) (by omega)
    have hz0 : ((l.length : Int) == 0) = false := by simpa using h0
    have hz1 : ¬ (l.length : Int) = 0 := by omega
    have hwl : IntKind.u64.wrap (l.length : Int) = (l.length : Int) := by
      unfold IntKind.wrap
      simp only [IntKind.bits, IntKind.signed, Bool.false_and]
      have := Int.emod_eq_of_lt (a := (l.length : Int)) (b := 2 ^ 64) (by omega) (by omega)
      simpa using this
    have cR := rename_any l (q : Int) nme hs _ _ (HL.out.keep HBL.out)
    go_wp2_with fail
    refine cR.mono ?_
    rintro e w5 ⟨u, rfl, hb, hu⟩
    have HBL := Lib.hid (below_next HBL.out hb)
    have HXL := Lib.hid (heap_kept hb HXL.out)
    clear hX cR
    have hX := cells6_of' HXL.out
    clear hb
    rcases ren_ok (s := nme) hf hql with ⟨e1, s1, s2⟩ | e1 | e1
    rotate_left
    · rw [e1] at hu ⊢
      obtain ⟨a6, m6, rfl, -⟩ := hu.isSlice
      clear hu e1
      go_wp2_with (first
        | (go_at_call 11; (with_reducible refine (awake_any _).mono ?_); rintro e w9 ⟨rfl, hb⟩; have HBL := Lib.hid (below_next HBL.out hb); clear hb)
        | fail)
      go_ret
      exact ⟨rfl, HBL.out⟩
    · rw [e1] at hu ⊢
      obtain ⟨a6, m6, rfl, -⟩ := hu.isSlice
      clear hu e1
      go_wp2_with (first
        | (go_at_call 11; (with_reducible refine (awake_any _).mono ?_); rintro e w9 ⟨rfl, hb⟩; have HBL := Lib.hid (below_next HBL.out hb); clear hb)
        | fail)
      go_ret
      exact ⟨rfl, HBL.out⟩
    rw [e1] at hu ⊢
    have HU := Lib.hid (dlies_more (S' := fun _ => True) hu (fun _ _ _ => trivial))
    have hback := ren_back hf hql s1 s2
    have hfind := ren_find hf hql s1 s2
    have hsz := (HL.out.fits l[q] (List.getElem_mem hql)).1
    have cB := rename_any (renL l q nme) (q : Int) l[q].nm hsz _ _ HU.out
    rw [hback] at cB
    have HLW := HL.out.keep HBL.out
    obtain ⟨so, sb, sf, sl, sc, sn, soo, sh, sk, ss, st, si, hsv, RS⟩ := HLW
    have hsl := RS.length
    cases hsv
    have hao := RS.hao (by omega)
    obtain ⟨p0, -, -, -, -, -, -⟩ := RS.at (Below.refl _ _) q hql
    have hsg := RS.get q hql
    have hnm : l[q].nm = sn q := by rw [hsg]
    rw [← hnm] at p0
    clear RS hsg hnm
    subst hao
    obtain ⟨a6, m6, rfl, -⟩ := hu.isSlice
    rw [renL_length] at *
    have hq0 : (0 : Int) ≤ (q : Int) := by omega
    have hq1 : (q : Int) < (l.length : Int) := by omega
    clear hu e1 hback
    go_wp2_with fail
    refine cB.mono ?_
    rintro e w6 ⟨v, rfl, hb, hv⟩
    have HBL := Lib.hid (below_next HBL.out hb)
    have HXL := Lib.hid (heap_kept hb HXL.out)
    have HU6 := Lib.hid (HU.out.keep hb)
    clear hX cB
    have hX := cells6_of' HXL.out
    clear hb p0
    have HV := Lib.hid (dlies_more (S' := fun _ => True) hv (fun _ _ _ => trivial))
    obtain ⟨a7, m7, rfl, -⟩ := hv.isSlice
    have cFd := find_any (fun _ => True) (renL l q nme) nme hs _ _ HU6.out
    rw [hfind] at cFd
    clear hv hfind
    go_wp2_with fail
    refine cFd.mono ?_
    rintro e w7 ⟨rfl, hb⟩
    have HBL := Lib.hid (below_next HBL.out hb)
    have HV7 := Lib.hid (HV.out.keep hb)
    clear hb cFd hX
    have cSm := sameD_any _ _ l _ _ _ HV7.out (HL.out.keep HBL.out)
    go_wp2_with (first
      | (go_at_call 14; (with_reducible refine cSm.mono ?_); rintro e w8 ⟨rfl, hb⟩; have HBL := Lib.hid (below_next HBL.out hb); clear hb)
      | (go_at_call 11; (with_reducible refine (awake_any _).mono ?_); rintro e w9 ⟨rfl, hb⟩; have HBL := Lib.hid (below_next HBL.out hb); clear hb)
      | fail)
    go_ret
    exact ⟨rfl, HBL.out⟩
end Go.Proofs.Yteoheeddjddekaa
