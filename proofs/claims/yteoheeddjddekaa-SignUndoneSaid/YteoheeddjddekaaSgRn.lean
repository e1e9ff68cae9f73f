/- The contract of sign.Rename. -/
import Derived.Test.YteoheeddjddekaaSgMa
namespace Go.Proofs.Yteoheeddjddekaa
open Go.RowKit Go.Maps Go.WideMaps
set_option linter.unusedSimpArgs false
set_option linter.unusedVariables false

/-- the constant with the number i has another name -/
def renL (l : List Dc) (i : Nat) (s : ByteArray) : List Dc := (List.range l.length).map fun k => if k = i then ⟨s, (l.getD k ⟨⟨#[]⟩, Tm.zero, 0⟩).cl, (l.getD k ⟨⟨#[]⟩, Tm.zero, 0⟩).im⟩ else l.getD k ⟨⟨#[]⟩, Tm.zero, 0⟩
theorem renL_length (l : List Dc) (i : Nat) (s : ByteArray) : (renL l i s).length = l.length := by simp [renL]
theorem renL_get {l : List Dc} {i k : Nat} {s : ByteArray} (hk : k < l.length) : (renL l i s)[k]'(by rw [renL_length]; exact hk) = if k = i then ⟨s, l[k].cl, l[k].im⟩ else l[k] := by
  simp only [renL, List.getElem_map, List.getElem_range]
  rw [List.getD_eq_getElem?_getD, List.getElem?_eq_getElem hk]; rfl
/-- does another constant have the name? -/
def twiceB (l : List Dc) (i : Nat) (s : ByteArray) : Bool := !decide (s = (l.getD i ⟨⟨#[]⟩, Tm.zero, 0⟩).nm) && l.any (fun d => decide (d.nm = s))
theorem any_nm {l : List Dc} {s : ByteArray} : l.any (fun d => decide (d.nm = s)) = true ↔ s ∈ l.map Dc.nm := by
  rw [List.any_eq_true, List.mem_map]
  exact ⟨fun ⟨x, h1, h2⟩ => ⟨x, h1, of_decide_eq_true h2⟩, fun ⟨x, h1, h2⟩ => ⟨x, h1, decide_eq_true h2⟩⟩
/-- what Rename returns -/
def renOut (l : List Dc) (n : Int) (s : ByteArray) : List Dc × Int :=
  if ckOut l n = 0 then (if twiceB l n.toNat s = true then ([], 21) else if Sg.nameOk s = false then ([], 2) else (renL l n.toNat s, 0)) else ([], ckOut l n)

theorem ren_lies {W : World} {g cap i base : Nat} {l : List Dc} {vs : List Value} {cur : Array Value} {s : ByteArray} (hvl : l.length = vs.length) (hcur : W.heap[g]? = some (.cells cur 40 (0, 0)))
    (cells : ∀ k (h : k < l.length) (h' : k < vs.length), W.cell? ⟨g, 0 + k * 6, none⟩ = some (.string l[k].nm) ∧ W.cell? ⟨g, 0 + k * 6 + 1, none⟩ = some (.int .i64 l[k].cl.op) ∧ W.cell? ⟨g, 0 + k * 6 + 2, none⟩ = some (.int .i64 l[k].cl.hd) ∧
      W.cell? ⟨g, 0 + k * 6 + 3, none⟩ = some (.int .i64 l[k].cl.n) ∧ W.cell? ⟨g, 0 + k * 6 + 4, none⟩ = some vs[k] ∧ W.cell? ⟨g, 0 + k * 6 + 5, none⟩ = some (.int .i64 l[k].im))
    (hsub : ∀ k (h : k < l.length) (h' : k < vs.length), Lies W (fun b => base ≤ b ∧ b ≠ g) vs[k] l[k].cl.args) (hg : base ≤ g) (hf : ∀ d ∈ l, d.fit) (hs : s.size ≤ 140737488351232) (hcp : l.length ≤ cap) (hcm : cap ≤ 9223372036854775807) :
    DLies (W.setCell ⟨g, i * 6, none⟩ (.string s)) (base ≤ ·) (.slice (some ⟨g, 0, none⟩) l.length cap) (renL l i s) := by
  have hX := heap_set_at (j := i * 6) (.string s) hcur
  have go : ∀ j u, j ≠ i * 6 → W.cell? ⟨g, j, none⟩ = some u → (W.setCell ⟨g, i * 6, none⟩ (.string s)).cell? ⟨g, j, none⟩ = some u := fun j u hj h => by
    refine cell_in hX j u ?_
    rw [Array.getElem?_setIfInBounds_ne (Ne.symm hj)]
    exact cell_of hcur h
  refine DLies.of (S := (base ≤ ·)) (g := g) (off := 0) (renL l i s) vs (by rw [renL_length]; exact hvl) (renL_length _ _ _) (fun _ => hg) hcp hcm (fun k hk hk' => ?_) (fun d hd => ?_) (fun k hk hk' => ?_)
  · have hk2 : k < l.length := by rw [renL_length] at hk; exact hk
    obtain ⟨c0, c1, c2, c3, c4, c5⟩ := cells k hk2 hk'
    rw [renL_get hk2]
    have q0 : (W.setCell ⟨g, i * 6, none⟩ (.string s)).cell? ⟨g, 0 + k * 6, none⟩ = some (.string (if k = i then ⟨s, l[k].cl, l[k].im⟩ else l[k] : Dc).nm) := by
      by_cases e : k = i
      · subst e
        rw [if_pos rfl]
        refine cell_in hX _ _ ?_
        have := cell_of hcur c0
        rw [Nat.zero_add] at this ⊢
        rw [Array.getElem?_setIfInBounds_self_of_lt (Array.getElem?_eq_some_iff.1 this).1]
      · rw [if_neg e]; exact go _ _ (by omega) c0
    have ecl : (if k = i then ⟨s, l[k].cl, l[k].im⟩ else l[k] : Dc).cl = l[k].cl := by split <;> rfl
    have eim : (if k = i then ⟨s, l[k].cl, l[k].im⟩ else l[k] : Dc).im = l[k].im := by split <;> rfl
    rw [ecl, eim]
    exact ⟨q0, go _ _ (by omega) c1, go _ _ (by omega) c2, go _ _ (by omega) c3, go _ _ (by omega) c4, go _ _ (by omega) c5⟩
  · obtain ⟨k, hk, rfl⟩ := List.getElem_of_mem hd
    have hk2 : k < l.length := by rw [renL_length] at hk; exact hk
    rw [renL_get hk2]
    have hh := hf _ (List.getElem_mem hk2)
    split
    · exact ⟨hs, hh.2⟩
    · exact hh
  · have hk2 : k < l.length := by rw [renL_length] at hk; exact hk
    have ecl : (if k = i then ⟨s, l[k].cl, l[k].im⟩ else l[k] : Dc).cl = l[k].cl := by split <;> rfl
    rw [renL_get hk2, ecl]
    exact ((hsub k hk2 hk').still fun b hS _ => Below.heap_setCell _ _ _ _ hS.2).more fun b _ hS => hS.1

theorem DBuilt.cur {w : World} {base g n cap : Nat} {l : List Dc} (M : DBuilt w base (.slice (some ⟨g, 0, none⟩) n cap) l) : ∃ cur, w.heap[g]? = some (.cells cur 40 (0, 0)) := by
  obtain ⟨vs', _, hown, _⟩ := M.has
  rcases hown.2 with ⟨h, _⟩ | ⟨g', cap', cur, hv, _, hh', _⟩
  · cases h
  · cases hv; exact ⟨cur, hh'⟩
theorem below_turned {B b : Nat} {w w' : World} (h : w.mapTurned w' b) (hb : B ≤ b) : Below B w w' := by
  have hg := h.grown
  obtain ⟨es, clock, es', clock', h1, h2⟩ := h
  have := (Array.getElem?_eq_some_iff.1 h1).1
  exact (Below.refl B w).grown hg (by omega) (fun k e => by cases e; exact hb)

set_option maxHeartbeats 4000000 in
set_option maxRecDepth 100000 in
theorem rename_any (l : List Dc) (n : Int) (s : ByteArray) (hs : s.size ≤ 140737488351232) (sv : Value) (w : World) (hl : DLies w (fun _ => True) sv l) :
    Calls Try.prog 22 #[sv, .int .i64 n, .string s] w (GivesSE w (renOut l n s)) := by
  have cC := ck_any (fun _ => True) l n sv w hl
  by_cases hc : ckOut l n = 0
  · obtain ⟨hf, i, rfl, hi⟩ := ckOut_zero hc
    have hp := formed_proper hf
    have h100 := formed_len hf
    have hnd := formed_nodup hf
    have cP := fun w1 (hb : Below w.heap.size w w1) => positions_any (H := Unit) (fun _ => True) l sv w1 (hl.keep hb) (by omega)
    have cS := fun w1 (hb : Below w.heap.size w w1) => sig_any l sv w1 (hl.keep hb) hp (by omega)
    have cN := fun w1 => sgName_any s w1 hs
    have hfits := hl.fits
    rw [hc] at cC
    have HO : Hid (renOut l (i : Int) s = if twiceB l i s = true then ([], 21) else if Sg.nameOk s = false then ([], 2) else (renL l i s, 0)) := Lib.hid (by unfold renOut; rw [if_pos hc, Int.toNat_natCast])
    obtain ⟨ao, b, off, len, cap, nm, oo, hh, kk, sc, tt, im, rfl, R⟩ := hl
    have hlen := R.length
    have hil : i < len := by rw [← hlen]; exact hi
    have hrl := R.hl
    have hrc := R.hr
    obtain rfl := R.hao (by omega)
    have hg := R.get i hil
    have HKEY : Hid (keyOf Try.prog 9 (.string s) = some (.string s.data.toList)) := Lib.hid (keyOf_string_mk Try.underlying9 (by unfold maxLen; omega))
    have HKEY2 : Hid (keyOf Try.prog 9 (.string (nm i)) = some (.string (nm i).data.toList)) := Lib.hid (keyOf_string_mk Try.underlying9 (by have := R.rn i hil; unfold maxLen; omega))
    have HH : Hid (Maps.has ((Sg.posD l l.length : DataW Unit).del (.string (nm i).data.toList)) (.string s.data.toList) = twiceB l i s) := Lib.hid (by
      have e1 : (l.getD i ⟨⟨#[]⟩, Tm.zero, 0⟩).nm = nm i := by rw [List.getD_eq_getElem?_getD, List.getElem?_eq_getElem hi, hg]; rfl
      unfold twiceB
      rw [e1]
      by_cases e : s = nm i
      · rw [decide_eq_true e, Bool.not_true, Bool.false_and]
        subst e
        exact has_del_same
      · rw [decide_eq_false e, Bool.not_false, Bool.true_and, has_del_other (Sg.str_ne e), Bool.eq_iff_iff, Sg.has_posD l s l.length (Nat.le_refl _), List.take_length, any_nm])
    have HR := Lib.hid R
    have HLEN := Lib.hid hlen
    have HFT := Lib.hid hfits
    have hi0 : (0 : Int) ≤ (i : Int) := by omega
    have hi1 : (i : Int) < (len : Int) := by omega
    clear hf hp hnd hc R hg hi hlen hfits
    generalize twiceB l i s = tw at *
    have arm := True.intro
    rcases tw with _ | _
    · rcases hno : Sg.nameOk s with _ | _
      · rw [hno] at cN HO
        clear hno
        have HE : Hid (renOut l (i : Int) s = ([], 2)) := Lib.hid (by rw [HO.out]; rfl)
        clear HO
        go_enter Try.func22, Try.ntmps22
        go_wp2_with (first
          | (go_at_call 35; (with_reducible refine cC.mono ?_); rintro e w1 ⟨rfl, hb1⟩; have HB1 := Lib.hid hb1; clear hb1)
          | (go_at_call 40; (with_reducible refine (cP _ HB1.out).mono ?_); rintro e w4 ⟨B, rfl, hB, hown, hb4⟩; have HOW := Lib.hid (And.intro hown hB); have HB4 := Lib.hid (below_next HB1.out hb4); obtain ⟨d0, -, -, -, -, -, -⟩ := HR.out.at HB4.out i hil; clear hown hb4 hB)
          | (at_delete; refine wpList_delete_own _ rfl _ _ 73 9 rfl 3 sgMap_law Try.underlying73 _ B l.length _ rfl HOW.out.1 _ _ rfl HKEY2.out ?_; intro w5 hown5 hturn5; have HO5 := Lib.hid hown5; have HB5 := Lib.hid (HB4.out.trans (below_turned hturn5 (Nat.le_trans HB1.out.size HOW.out.2))); clear hown5 hturn5 d0)
          | (at_lookup; refine wpList_lookup_own_ok_int _ rfl _ _ 73 rfl 9 3 .i64 sgMap_law Try.underlying73 Try.underlying3 (zeroInt _) B l.length _ rfl HO5.out _ _ rfl HKEY.out ?_; intro c hat hwc; rw [HH.out]; clear hat hwc)
          | (go_at_call 51; (with_reducible refine (cN _).mono ?_); rintro e w6 ⟨rfl, rfl⟩)
          | fail)
        go_ret2
        exact givesSE_nil HE.out HB5.out
      · rw [hno] at cN HO
        clear hno
        have HE : Hid (renOut l (i : Int) s = (renL l i s, 0)) := Lib.hid (by rw [HO.out]; rfl)
        clear HO
        go_enter Try.func22, Try.ntmps22
        go_wp2_with (first
          | (go_at_call 35; (with_reducible refine cC.mono ?_); rintro e w1 ⟨rfl, hb1⟩; have HB1 := Lib.hid hb1; clear hb1)
          | (go_at_call 40; (with_reducible refine (cP _ HB1.out).mono ?_); rintro e w4 ⟨B, rfl, hB, hown, hb4⟩; have HOW := Lib.hid (And.intro hown hB); have HB4 := Lib.hid (below_next HB1.out hb4); obtain ⟨d0, -, -, -, -, -, -⟩ := HR.out.at HB4.out i hil; clear hown hb4 hB)
          | (at_delete; refine wpList_delete_own _ rfl _ _ 73 9 rfl 3 sgMap_law Try.underlying73 _ B l.length _ rfl HOW.out.1 _ _ rfl HKEY2.out ?_; intro w5 hown5 hturn5; have HO5 := Lib.hid hown5; have HB5 := Lib.hid (HB4.out.trans (below_turned hturn5 (Nat.le_trans HB1.out.size HOW.out.2))); clear hown5 hturn5 d0)
          | (at_lookup; refine wpList_lookup_own_ok_int _ rfl _ _ 73 rfl 9 3 .i64 sgMap_law Try.underlying73 Try.underlying3 (zeroInt _) B l.length _ rfl HO5.out _ _ rfl HKEY.out ?_; intro c hat hwc; rw [HH.out]; clear hat hwc)
          | (go_at_call 51; (with_reducible refine (cN _).mono ?_); rintro e w6 ⟨rfl, rfl⟩)
          | (go_at_call 45; (with_reducible refine (cS _ HB5.out).mono ?_); rintro e w7 ⟨v7, rfl, hb7, M⟩; have hlm := HLEN.out; obtain ⟨rfl, hnil⟩ | ⟨g, cap5, vs, hvl, rfl, hg, hcp, hcm, cells, hsub⟩ := M.cells; (rw [hnil] at hlm; simp at hlm; omega); have hcur : ∃ cur, w7.heap[g]? = some (.cells cur 40 (0, 0)) := DBuilt.cur M; obtain ⟨cur, hcur⟩ := hcur; rw [hlm] at hcp; have x0 := (cells i (by omega) (by omega)).1; (rw [Nat.zero_add] at x0); have f0 := free_in hcur (i * 6); rw [hlm]; have HX := Lib.hid (And.intro hb7 (And.intro hcur (And.intro cells hsub))); have HG := Lib.hid (Nat.le_trans HB5.out.size hg); clear hb7 hcur cells hsub M hg cS)
          | fail)
        go_ret2
        have hD := ren_lies (i := i) (base := w.heap.size) hvl HX.out.2.1 HX.out.2.2.1 (fun k h h' => (HX.out.2.2.2 k h h').more fun b _ hS => ⟨by have := hS.1; have := HB5.out.size; omega, hS.2⟩) HG.out HFT.out hs (by rw [HLEN.out]; exact hcp) hcm
        rw [HLEN.out] at hD
        rw [HE.out]
        exact ⟨_, rfl, (below_next HB5.out HX.out.1).setCell HG.out _, hD⟩
    · have HE : Hid (renOut l (i : Int) s = ([], 21)) := Lib.hid (by rw [HO.out]; rfl)
      clear HO cS
      go_enter Try.func22, Try.ntmps22
      go_wp2_with (first
        | (go_at_call 35; (with_reducible refine cC.mono ?_); rintro e w1 ⟨rfl, hb1⟩; have HB1 := Lib.hid hb1; clear hb1)
        | (go_at_call 40; (with_reducible refine (cP _ HB1.out).mono ?_); rintro e w4 ⟨B, rfl, hB, hown, hb4⟩; have HOW := Lib.hid (And.intro hown hB); have HB4 := Lib.hid (below_next HB1.out hb4); obtain ⟨d0, -, -, -, -, -, -⟩ := HR.out.at HB4.out i hil; clear hown hb4 hB)
        | (at_delete; refine wpList_delete_own _ rfl _ _ 73 9 rfl 3 sgMap_law Try.underlying73 _ B l.length _ rfl HOW.out.1 _ _ rfl HKEY2.out ?_; intro w5 hown5 hturn5; have HO5 := Lib.hid hown5; have HB5 := Lib.hid (HB4.out.trans (below_turned hturn5 (Nat.le_trans HB1.out.size HOW.out.2))); clear hown5 hturn5 d0)
        | (at_lookup; refine wpList_lookup_own_ok_int _ rfl _ _ 73 rfl 9 3 .i64 sgMap_law Try.underlying73 Try.underlying3 (zeroInt _) B l.length _ rfl HO5.out _ _ rfl HKEY.out ?_; intro c hat hwc; rw [HH.out]; clear hat hwc)
        | (go_at_call 51; (with_reducible refine (cN _).mono ?_); rintro e w6 ⟨rfl, rfl⟩)
        | fail)
      go_ret2
      exact givesSE_nil HE.out HB5.out
  · have HE := Lib.hid (by unfold renOut; rw [if_neg hc] : renOut l n s = ([], ckOut l n))
    have hc' : (ckOut l n == 0) = false := by simpa using hc
    obtain ⟨a, m, rfl, hlen⟩ := hl.isSlice
    clear hl
    generalize ckOut l n = z at *
    go_enter Try.func22, Try.ntmps22
    go_wp2_with (go_at_call 35; (with_reducible refine cC.mono ?_); rintro e w1 ⟨rfl, hb1⟩; have HB1 := Lib.hid hb1)
    go_ret2
    exact givesSE_nil HE.out HB1.out
end Go.Proofs.Yteoheeddjddekaa
