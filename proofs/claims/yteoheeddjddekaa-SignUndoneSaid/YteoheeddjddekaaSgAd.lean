/- The contract of sign.Add. -/
import Derived.Test.YteoheeddjddekaaSgRn
import Derived.Test.YteoheeddjddekaaL5f
import Derived.ArgAppend
import Derived.Deep.RegionHeld3
namespace Go.Proofs.Yteoheeddjddekaa
open Go.RowKit Go.Maps Go.WideMaps
set_option linter.unusedSimpArgs false
set_option linter.unusedVariables false

/-- what Add returns -/
def addOut (l : List Dc) (d : Dc) : List Dc × Int :=
  if Sg.formed l = false then ([], 2) else if l.any (fun x => decide (x.nm = d.nm)) = true then ([], 21) else if l.length = 100 then ([], 5) else if Sg.next l d = false then ([], 2) else (l ++ [d], 0)

theorem DRow.flat {w : World} {S : Nat → Prop} {ao : Option Addr} {b off len cap : Nat} {nm : Nat → ByteArray} {o h k : Nat → Int} {sc : Nat → Value} {ts : Nat → List Tm} {im : Nat → Int} {l : List Dc} (R : DRow w S ao b off len cap nm o h k sc ts im l) :
    ∀ j u, (dflat l ((List.range len).map sc))[j]? = some u → w.cell? ⟨b, off + j, none⟩ = some u := by
  intro j u hu
  have hL := R.length
  have hlen : (dflat l ((List.range len).map sc)).length = len * 6 := by rw [dflat_length _ _ (by simp [hL]), hL]
  have hj : j < len * 6 := by rw [← hlen]; exact (List.getElem?_eq_some_iff.1 hu).1
  obtain ⟨i, r, hr, rfl⟩ : ∃ i r, r < 6 ∧ j = i * 6 + r := ⟨j / 6, j % 6, by omega, by omega⟩
  have hi : i < len := by omega
  have hg := dflat_get l ((List.range len).map sc) i (by omega) (by simp; omega)
  have ev : ((List.range len).map sc)[i]'(by simp; omega) = sc i := by simp
  have e := R.get i hi
  rw [e, ev] at hg
  obtain ⟨g0, g1, g2, g3, g4, g5⟩ := hg
  match r, hr with
  | 0, _ => rw [Nat.add_zero] at hu ⊢; rw [g0] at hu; cases hu; exact R.c0 i hi
  | 1, _ => rw [g1] at hu; cases hu; exact R.c1 i hi
  | 2, _ => rw [g2] at hu; cases hu; exact R.c2 i hi
  | 3, _ => rw [g3] at hu; cases hu; exact R.c3 i hi
  | 4, _ => rw [g4] at hu; cases hu; exact R.c4 i hi
  | 5, _ => rw [g5] at hu; cases hu; exact R.c5 i hi

set_option maxRecDepth 100000 in
theorem append_one {w : World} {l : List Dc} {ao : Option Addr} {m0 : Nat} (hl : DLies w (fun _ => True) (.slice ao l.length m0) l) (h100 : l.length ≤ 100) (ad : Addr) (d : Dc) (v : Value) (c : Nat)
    (hnews : ∀ j u, (dcells d v)[j]? = some u → w.cell? (ad.add j) = some u) (hv : Lies w (fun _ => True) v d.cl.args) (hfit : d.fit) (ty : TypeId) (hnil : ao = none → l.length = 0) :
    ∃ a' n' m' w', (Builtin.append_ #[22, 22] ty #[.slice ao l.length l.length, .slice (some ad) 1 c]).run Try.prog w = .ok (.slice a' n' m') w' ∧ DLies w' (fun _ => True) (.slice a' n' m') (l ++ [d]) ∧ Below w.heap.size w w' := by
  obtain ⟨i0, hi0, hz0, hz1, hz2⟩ := info_parts dc_info
  have hfits := hl.fits
  obtain ⟨ao', b, off, len, cap, nm, oo, hh, kk, sc, tt, im, hv0, R⟩ := hl
  have hL := R.length
  cases hv0
  obtain ⟨a2, n2, m2, rfl⟩ := hv.isSlice
  have hone : ∀ u ∈ dcells d (.slice a2 n2 m2), u.oneCell' = true := by
    intro u hu
    simp only [dcells, List.mem_cons, List.not_mem_nil, or_false] at hu
    rcases hu with rfl | rfl | rfl | rfl | rfl | rfl <;> rfl
  have hvl : l.length = ((List.range l.length).map sc).length := by simp
  have hfl : (dflat l ((List.range l.length).map sc)).length = l.length * 6 := dflat_length _ _ hvl
  have hX : ∃ v' w', (Builtin.append_ #[22, 22] ty #[.slice ao l.length l.length, .slice (some ad) 1 c]).run Try.prog w = .ok v' w' ∧ w'.ownsRow w.heap.size 40 6 v' (l.length + 1) (dflat l ((List.range l.length).map sc) ++ dcells d (.slice a2 n2 m2)) ∧ w.grownBy w' none := by
    cases ao with
    | some bq =>
      refine run_append_arg_grows (P := Try.prog) w 22 ty 40 i0 _ 6 72 Try.underlying22 hi0 hz0 hz1 hz2 rfl (by omega) bq l.length l.length _ hfl (fun j u hj => ?_) ad 1 c _ rfl hnews (by omega) (by unfold maxLen; omega) (by omega)
      by_cases h0 : 0 < l.length
      · have := R.hao h0
        cases this
        rw [Addr.add_lit]
        exact R.flat j u hj
      · have e : dflat l ((List.range l.length).map sc) = [] := List.eq_nil_of_length_eq_zero (by omega)
        rw [e] at hj
        simp at hj
    | none =>
      have h0 := hnil rfl
      have e : dflat l ((List.range l.length).map sc) = [] := List.eq_nil_of_length_eq_zero (by omega)
      rw [e, h0]
      obtain ⟨v', w', hrun, r1, r2, _⟩ := run_append_own (P := Try.prog) w w.heap.size 22 ty 40 i0 _ 6 72 Try.underlying22 hi0 hz0 hz1 hz2 rfl (by omega) (.slice none 0 0) 0 [] (World.ownsRow_nil w _ 40 6) ad 1 c _ rfl hnews hone (by unfold maxLen; omega) (by omega) (Nat.le_refl _)
      exact ⟨v', w', hrun, r1, r2⟩
  obtain ⟨v', w', hrun, hown, hgrow⟩ := hX
  have hb : Below w.heap.size w w' := (Below.refl _ _).grown hgrow (Nat.le_refl _) (fun j hj => by cases hj)
  rw [← dflat_snoc _ _ _ _ hvl] at hown
  have hcells := @World.ownsRow.cells w' w.heap.size 40 6 v' _ _ hown
  have hvl' : (l ++ [d]).length = ((List.range l.length).map sc ++ [Value.slice a2 n2 m2]).length := by simp
  rcases hown.2 with ⟨rfl, h0⟩ | ⟨g, cap', cur, rfl, hg, hh', hle, hmx, _⟩
  · omega
  · have hc : ∀ j u, (dflat (l ++ [d]) ((List.range l.length).map sc ++ [.slice a2 n2 m2]))[j]? = some u → w'.cell? ⟨g, 0 + j, none⟩ = some u := fun j u hu => by
      have := hcells (g := g) (by simp [Value.ownBlock]) j u hu
      rwa [Addr.add_lit] at this
    refine ⟨_, _, _, w', hrun, DLies.of (l ++ [d]) ((List.range l.length).map sc ++ [.slice a2 n2 m2]) hvl' (by simp) (fun _ => trivial) hle (by unfold maxLen at hmx; exact hmx) (fun i hi hi' => ?_) (fun x hx => ?_) (fun i hi hi' => ?_), hb⟩
    · have hf := dflat_get (l ++ [d]) _ i hi hi'
      refine ⟨hc _ _ hf.1, ?_, ?_, ?_, ?_, ?_⟩
      · have := hc _ _ hf.2.1; rwa [← Nat.add_assoc] at this
      · have := hc _ _ hf.2.2.1; rwa [← Nat.add_assoc] at this
      · have := hc _ _ hf.2.2.2.1; rwa [← Nat.add_assoc] at this
      · have := hc _ _ hf.2.2.2.2.1; rwa [← Nat.add_assoc] at this
      · have := hc _ _ hf.2.2.2.2.2; rwa [← Nat.add_assoc] at this
    · rcases List.mem_append.1 hx with hx | hx
      · exact hfits x hx
      · simp at hx; subst hx; exact hfit
    · by_cases hil : i < l.length
      · have e1 : (l ++ [d])[i] = l[i] := List.getElem_append_left hil
        have e2 : ((List.range l.length).map sc ++ [Value.slice a2 n2 m2])[i] = sc i := by rw [List.getElem_append_left (by simpa using hil)]; simp
        rw [e1, e2, R.get i hil]
        exact (R.sub i hil).keep hb
      · have hie : i = l.length := by simp at hi; omega
        subst hie
        have e1 : (l ++ [d])[l.length] = d := by simp
        have e2 : ((List.range l.length).map sc ++ [Value.slice a2 n2 m2])[l.length] = .slice a2 n2 m2 := by
          rw [List.getElem_append_right (by simp)]; simp
        rw [e1, e2]
        exact hv.keep hb

theorem step_append_run {P : Program} {w : World} {ops : Array Oper} {o : Oper} {a : Act} {K : Act → World → Prop} {Q : Exit → Act → World → Prop} {E : Prop} (hgd : o.guard = none) (s x : Operand) (t : TypeId)
    (ho : o.op = .call { callee := .builtin .append, args := #[s, x], argTypes := #[t, t] }) (v1 v2 : Value) (hs : a.eval s = v1) (hx : a.eval x = v2) {v' : Value} {w' : World} (hr : (Builtin.append_ #[t, t] o.type #[v1, v2]).run P w = .ok v' w')
    (h : K (a.put o.dst v') w') : if Region.wanted o (yielded ops a.tmps) = true then Oper.wp P o a w K Q else E := by
  have hw : Region.wanted o (yielded ops a.tmps) = true := by simp [Region.wanted, hgd]
  rw [if_pos hw]
  unfold Oper.wp execOp
  simp only [ho, resolve, invoke, builtin, Sem.run_bind, Sem.run_pure, Result.andThen_ok, List.map_toArray, List.map_cons, List.map_nil, hs, hx, hr]
  exact h

set_option maxHeartbeats 1000000 in
theorem clip_any (a : Option Addr) (n m : Nat) (w : World) (h : n ≤ m) (h1 : m ≤ 9223372036854775807) (hnil : a = none → n = 0) :
    Calls Try.prog 46 #[.slice a n m] w fun e w' => e = .returned (.slice a n n) ∧ w' = w := by
  rcases a with _ | ⟨b, off, pt⟩
  · obtain rfl := hnil rfl
    go_enter Try.func46, Try.ntmps46
    go_wp2_with fail
    go_ret
    exact ⟨rfl, rfl⟩
  · go_enter Try.func46, Try.ntmps46
    go_wp2_with fail
    go_ret
    exact ⟨rfl, rfl⟩

set_option maxHeartbeats 4000000 in
set_option maxRecDepth 100000 in
theorem add_any (l : List Dc) (d : Dc) (sv dv : Value) (w : World) (hl : DLies w (fun _ => True) sv l) (hd : Lies w (fun _ => True) dv d.cl.args) (hfit : d.fit) :
    Calls Try.prog 20 #[sv, dcV d dv] w (GivesSE w (addOut l d)) := by
  obtain ⟨nme, ⟨o, h, n, ar⟩, imp⟩ := d
  have HFT := Lib.hid hfit
  obtain ⟨hs, ⟨hfo, hfh, hfn⟩, him⟩ := hfit
  obtain ⟨a2, n2, m2, rfl⟩ := hd.isSlice
  unfold dcV
  simp only [Tm.op, Tm.hd, Tm.n, Tm.args] at *
  have hbx := one_below w (.cells #[.string nme, .int .i64 o, .int .i64 h, .int .i64 n, .slice a2 n2 m2, .int .i64 imp] 40)
  have HB := Lib.hid hbx
  have HX := Lib.hid (heap_alloc_new w (.cells #[.string nme, .int .i64 o, .int .i64 h, .int .i64 n, .slice a2 n2 m2, .int .i64 imp] 40))
  have cF := fun w1 (hb : Below w.heap.size w w1) => sgFormed_any (fun _ => True) l sv w1 (hl.keep hb)
  rcases hf : Sg.formed l with _ | _
  · have HE : Hid (addOut l ⟨nme, .mk o h n ar, imp⟩ = ([], 2)) := Lib.hid (by unfold addOut; rw [hf]; rfl)
    obtain ⟨a, m, rfl, hlen⟩ := hl.isSlice
    rw [hf] at cF
    clear hf hl hd hbx
    go_enter Try.func20, Try.ntmps20
    go_wp2_with (go_at_call 24; (with_reducible refine (cF _ HB.out).mono ?_); rintro e w1 ⟨rfl, hb1⟩; have HB1 := Lib.hid (below_next HB.out hb1); clear hb1)
    go_ret2
    exact givesSE_nil HE.out HB1.out
  have hl100 := formed_len hf
  have hnd := formed_nodup hf
  have hp := formed_proper hf
  rw [hf] at cF
  have cP := fun w1 (hb : Below w.heap.size w w1) => positions_any (H := Unit) (fun _ => True) l sv w1 (hl.keep hb) (by omega)
  have HKEY : Hid (keyOf Try.prog 9 (.string nme) = some (.string nme.data.toList)) := Lib.hid (keyOf_string_mk Try.underlying9 (by unfold maxLen; omega))
  have HO : Hid (addOut l ⟨nme, .mk o h n ar, imp⟩ = if l.any (fun x => decide (x.nm = nme)) = true then ([], 21) else if l.length = 100 then ([], 5) else if Sg.next l ⟨nme, .mk o h n ar, imp⟩ = false then ([], 2) else (l ++ [⟨nme, .mk o h n ar, imp⟩], 0)) := Lib.hid (by unfold addOut; rw [hf]; rfl)
  have HH : Hid (∀ (B : Nat) w1, w1.ownsMap Try.prog 9 (plainElem (H := Unit) Try.prog 3) B l.length (Sg.posD l l.length) → ∃ c : Int, (Instr.lookup 73 (.map (some B)) (.string nme) true).run Try.prog w1 = .ok (.tuple #[.int .i64 c, .bool (l.any (fun x => decide (x.nm = nme)))]) w1) := Lib.hid (fun B w1 hown => by
    obtain ⟨v, ps, hrun, hv⟩ := hown.look_ok sgMap_law Try.underlying73 (zeroInt w1) (plainElem_int Try.underlying3 (by decide)) HKEY.out
    obtain ⟨c, rfl, hc, hwc⟩ := plainElem_int_inv Try.underlying3 hv
    refine ⟨c, ?_⟩
    rw [hrun]
    have e : Maps.has (Sg.posD l l.length : DataW Unit) (.string nme.data.toList) = l.any (fun x => decide (x.nm = nme)) := by
      rw [Bool.eq_iff_iff, Sg.has_posD l nme l.length (Nat.le_refl _), List.take_length, any_nm]
    rw [e])
  have HL := Lib.hid hl
  have HD := Lib.hid hd
  have hfull : ∃ a m, sv = .slice a l.length m ∧ l.length ≤ m ∧ m ≤ 9223372036854775807 ∧ (a = none → l.length = 0) := by
    obtain ⟨ao, b, off, len, cap, nm, oo, hh, kk, sc, tt, im, rfl, R⟩ := hl
    refine ⟨ao, cap, by rw [R.length], by rw [R.length]; exact R.hl, R.hr, fun h => ?_⟩
    rw [R.length]
    by_cases h0 : 0 < len
    · have := R.hao h0; rw [this] at h; cases h
    · omega
  obtain ⟨a, m, rfl, hlm1, hlm2, hnil0⟩ := hfull
  have hlen : l.length ≤ 9223372036854775807 := by omega
  have HLM := Lib.hid (And.intro hlm1 hlm2)
  have HNIL := Lib.hid hnil0
  clear hlm1 hlm2 hnil0
  have HPA : Hid (∀ x ∈ l ++ [⟨nme, .mk o h n ar, imp⟩], Tm.proper x.cl = true ∨ Sg.next l ⟨nme, .mk o h n ar, imp⟩ = false) := Lib.hid (fun x hx => by
    rcases List.mem_append.1 hx with hx | hx
    · exact .inl (hp x hx)
    · simp at hx; subst hx
      rcases hq : Sg.next l ⟨nme, .mk o h n ar, imp⟩ with _ | _
      · exact .inr rfl
      · exact .inl (next_proper hq))
  clear hf hnd hl hd hbx
  rcases ht : l.any (fun x => decide (x.nm = nme)) with _ | _
  · simp only [ht] at HH
    have HO2 := Lib.hid (by rw [HO.out, ht]; rfl : addOut l ⟨nme, .mk o h n ar, imp⟩ = if l.length = 100 then ([], 5) else if Sg.next l ⟨nme, .mk o h n ar, imp⟩ = false then ([], 2) else (l ++ [⟨nme, .mk o h n ar, imp⟩], 0))
    clear ht HO
    by_cases h100 : l.length = 100
    · have HE : Hid (addOut l ⟨nme, .mk o h n ar, imp⟩ = ([], 5)) := Lib.hid (by rw [HO2.out, if_pos h100])
      have h100' : ((l.length : Int) == 100) = true := by simpa using (by omega : (l.length : Int) = 100)
      clear HO2 h100
      go_enter Try.func20, Try.ntmps20
      go_upto_region 3 with (first
        | (go_at_call 24; (with_reducible refine (cF _ HB.out).mono ?_); rintro e w1 ⟨rfl, hb1⟩; have HB1 := Lib.hid (below_next HB.out hb1); have hX1 := cells6_of' (heap_kept hb1 HX.out); have HX1 := Lib.hid (heap_kept hb1 HX.out); clear hb1)
        | fail)
      go_region_held3 (fun X => CellsD X w.heap.size (.string nme) (.int .i64 o) (.int .i64 h) (.int .i64 n) (.slice a2 n2 m2) (.int .i64 imp))
        (first | (with_reducible exact cellsD_below (Below.refl _ _).drew hX1) | (with_reducible exact hcn) | fail)
        (first | (go_at_call 40; (with_reducible refine (cP _ (below_next HB1.out (Below.refl _ _).drew)).mono ?_); rintro e w4 ⟨B, rfl, hB, hown, hb4⟩; obtain ⟨c, hlook⟩ := HH.out B _ hown; have hcn := cellsD_below hb4 (cellsD_below (Below.refl _ _).drew hX1); have HB4 := Lib.hid (below_next (below_next HB1.out (Below.refl _ _).drew) hb4); have HX4 := Lib.hid (heap_kept hb4 (heap_kept (Below.refl w1.heap.size w1).drew HX1.out)); clear hown hb4 hB) | fail)
      clear hlook
      go_wp2_with fail
      go_ret2
      exact givesSE_nil HE.out HB4.out
    have h100' : ((l.length : Int) == 100) = false := by simpa using (by omega : ¬ (l.length : Int) = 100)
    have cN := fun w1 (hb : Below w.heap.size w w1) => next_any (fun _ => True) l ⟨nme, .mk o h n ar, imp⟩ (.slice a l.length m) (.slice a2 n2 m2) w1 (HL.out.keep hb) hp (HD.out.keep hb) hs him
    unfold dcV at cN
    simp only [Tm.op, Tm.hd, Tm.n] at cN
    rcases hn : Sg.next l ⟨nme, .mk o h n ar, imp⟩ with _ | _
    · have HE : Hid (addOut l ⟨nme, .mk o h n ar, imp⟩ = ([], 2)) := Lib.hid (by rw [HO2.out, if_neg h100, hn]; rfl)
      rw [hn] at cN
      clear HO2 hn h100
      go_enter Try.func20, Try.ntmps20
      go_upto_region 3 with (first
        | (go_at_call 24; (with_reducible refine (cF _ HB.out).mono ?_); rintro e w1 ⟨rfl, hb1⟩; have HB1 := Lib.hid (below_next HB.out hb1); have hX1 := cells6_of' (heap_kept hb1 HX.out); have HX1 := Lib.hid (heap_kept hb1 HX.out); clear hb1)
        | fail)
      go_region_held3 (fun X => CellsD X w.heap.size (.string nme) (.int .i64 o) (.int .i64 h) (.int .i64 n) (.slice a2 n2 m2) (.int .i64 imp))
        (first | (with_reducible exact cellsD_below (Below.refl _ _).drew hX1) | (with_reducible exact hcn) | fail)
        (first | (go_at_call 40; (with_reducible refine (cP _ (below_next HB1.out (Below.refl _ _).drew)).mono ?_); rintro e w4 ⟨B, rfl, hB, hown, hb4⟩; obtain ⟨c, hlook⟩ := HH.out B _ hown; have hcn := cellsD_below hb4 (cellsD_below (Below.refl _ _).drew hX1); have HB4 := Lib.hid (below_next (below_next HB1.out (Below.refl _ _).drew) hb4); have HX4 := Lib.hid (heap_kept hb4 (heap_kept (Below.refl w1.heap.size w1).drew HX1.out)); clear hown hb4 hB) | fail)
      clear hlook
      go_wp2_with (first
        | (go_at_call 44; (with_reducible refine (cN _ HB4.out).mono ?_); rintro e w5 ⟨rfl, hb5⟩; have HB5 := Lib.hid (below_next HB4.out hb5); clear hb5)
        | fail)
      go_ret2
      exact givesSE_nil HE.out HB5.out
    · have HE : Hid (addOut l ⟨nme, .mk o h n ar, imp⟩ = (l ++ [⟨nme, .mk o h n ar, imp⟩], 0)) := Lib.hid (by rw [HO2.out, if_neg h100, hn]; rfl)
      rw [hn] at cN
      have HPA : Hid (∀ x ∈ l ++ [⟨nme, .mk o h n ar, imp⟩], Tm.proper x.cl = true) := Lib.hid (fun x hx => (HPA.out x hx).resolve_right (by rw [hn]; simp))
      have HLT : Hid (l.length < 100) := Lib.hid (by omega)
      clear HO2 hn h100
      go_enter Try.func20, Try.ntmps20
      go_upto_region 3 with (first
        | (go_at_call 24; (with_reducible refine (cF _ HB.out).mono ?_); rintro e w1 ⟨rfl, hb1⟩; have HB1 := Lib.hid (below_next HB.out hb1); have hX1 := cells6_of' (heap_kept hb1 HX.out); have HX1 := Lib.hid (heap_kept hb1 HX.out); clear hb1)
        | fail)
      go_region_held3 (fun X => CellsD X w.heap.size (.string nme) (.int .i64 o) (.int .i64 h) (.int .i64 n) (.slice a2 n2 m2) (.int .i64 imp))
        (first | (with_reducible exact cellsD_below (Below.refl _ _).drew hX1) | (with_reducible exact hcn) | fail)
        (first | (go_at_call 40; (with_reducible refine (cP _ (below_next HB1.out (Below.refl _ _).drew)).mono ?_); rintro e w4 ⟨B, rfl, hB, hown, hb4⟩; obtain ⟨c, hlook⟩ := HH.out B _ hown; have hcn := cellsD_below hb4 (cellsD_below (Below.refl _ _).drew hX1); have HB4 := Lib.hid (below_next (below_next HB1.out (Below.refl _ _).drew) hb4); have HX4 := Lib.hid (heap_kept hb4 (heap_kept (Below.refl w1.heap.size w1).drew HX1.out)); clear hown hb4 hB) | fail)
      clear hlook
      go_upto_region 10 with (first
        | (go_at_call 44; (with_reducible refine (cN _ HB4.out).mono ?_); rintro e w5 ⟨rfl, hb5⟩; have HB5 := Lib.hid (below_next HB4.out hb5); have hX5 := cells6_of' (heap_kept hb5 HX4.out); have HX5 := Lib.hid (heap_kept hb5 HX4.out); clear hb5)
        | fail)
      have hdr : Below w5.heap.size w5 w5.drew := (Below.refl _ _).drew
      have hnil : a = none → l.length = 0 := HNIL.out
      have cC := fun w1 => clip_any a l.length m w1 HLM.out.1 HLM.out.2 hnil
      have hcb := (one_below w5 (.cells #[.string nme, .int .i64 o, .int .i64 h, .int .i64 n, .slice a2 n2 m2, .int .i64 imp] 40)).drew
      have hbw := below_next HB5.out hcb
      obtain ⟨a9, n9, m9, w9, hr9, hD9, hb9⟩ := append_one (w := (w5.alloc (.cells #[.string nme, .int .i64 o, .int .i64 h, .int .i64 n, .slice a2 n2 m2, .int .i64 imp] 40)).drew) (HL.out.keep hbw) (by have := HLT.out; omega) ⟨w5.heap.size, 0, none⟩ ⟨nme, .mk o h n ar, imp⟩ (.slice a2 n2 m2) 1
        (fun j u hu => by
          have h9 := cell_in (heap_alloc_new w5 (.cells #[.string nme, .int .i64 o, .int .i64 h, .int .i64 n, .slice a2 n2 m2, .int .i64 imp] 40)) j u (by simpa [dcells, Tm.op, Tm.hd, Tm.n] using hu)
          rw [Addr.add_lit, Nat.zero_add]
          exact h9) (HD.out.keep hbw) HFT.out 22 hnil
      have hb9' := below_next hcb hb9
      have cS := sig_any (l ++ [⟨nme, .mk o h n ar, imp⟩]) (.slice a9 n9 m9) w9 hD9 HPA.out (by have := HLT.out; simp; omega)
      have hX6 := cellsD_below hcb hX5
      have hX9 := cellsD_below hb9' hX5
      have HS := Lib.hid (And.intro hr9 (And.intro hb9' hX9))
      clear hr9 hD9 hb9 hb9' hX9 hbw hcb
      go_region_held3 (fun X => CellsD X w.heap.size (.string nme) (.int .i64 o) (.int .i64 h) (.int .i64 n) (.slice a2 n2 m2) (.int .i64 imp))
        (first | (with_reducible exact cellsD_below hdr hX5) | (with_reducible exact hX6) | (with_reducible exact HS.out.2.2) | (with_reducible exact hcn) | fail)
        (first
          | (go_at_call 46; (with_reducible refine (cC _).mono ?_); rintro e w6 ⟨rfl, rfl⟩)
          | (refine step_append_run (by rfl) _ _ _ (by rfl) _ _ (by rfl) (by rfl) HS.out.1 ?_)
          | (go_at_call 45; (with_reducible refine cS.mono ?_); rintro e w7 ⟨v7, rfl, hb7, M⟩; have hcn := cellsD_below hb7 HS.out.2.2; have HM := Lib.hid M; have HB7 := Lib.hid (below_next HB5.out (below_next HS.out.2.1 hb7)); clear hb7 M)
          | fail)
      all_goals
        go_wp2_with fail
        go_ret2
        rw [HE.out]
        exact ⟨_, rfl, HB7.out, (HM.out.low (Nat.le_trans HB5.out.size HS.out.2.1.size)).lies⟩
  · have HE : Hid (addOut l ⟨nme, .mk o h n ar, imp⟩ = ([], 21)) := Lib.hid (by rw [HO.out, ht]; rfl)
    simp only [ht] at HH
    clear ht HO
    go_enter Try.func20, Try.ntmps20
    go_upto_region 3 with (first
      | (go_at_call 24; (with_reducible refine (cF _ HB.out).mono ?_); rintro e w1 ⟨rfl, hb1⟩; have HB1 := Lib.hid (below_next HB.out hb1); have hX1 := cells6_of' (heap_kept hb1 HX.out); have HX1 := Lib.hid (heap_kept hb1 HX.out); clear hb1)
      | fail)
    go_region_held3 (fun X => CellsD X w.heap.size (.string nme) (.int .i64 o) (.int .i64 h) (.int .i64 n) (.slice a2 n2 m2) (.int .i64 imp))
      (first | (with_reducible exact cellsD_below (Below.refl _ _).drew hX1) | (with_reducible exact hcn) | fail)
      (first | (go_at_call 40; (with_reducible refine (cP _ (below_next HB1.out (Below.refl _ _).drew)).mono ?_); rintro e w4 ⟨B, rfl, hB, hown, hb4⟩; obtain ⟨c, hlook⟩ := HH.out B _ hown; have hcn := cellsD_below hb4 (cellsD_below (Below.refl _ _).drew hX1); have HB4 := Lib.hid (below_next (below_next HB1.out (Below.refl _ _).drew) hb4); clear hown hb4 hB) | fail)
    go_wp2_with fail
    go_ret2
    exact givesSE_nil HE.out HB4.out
end Go.Proofs.Yteoheeddjddekaa
