/- The contract of the reference's Add. -/
import Derived.Test.YteoheeddjddekaaGreatSgAd
import Derived.Test.YteoheeddjddekaaGreatSgLk
namespace Go.Proofs.YteoheeddjddekaaGreat
open Go.RowKit Go.Shelf
set_option linter.unusedSimpArgs false
set_option linter.unusedVariables false

theorem wpList_append_run {P : Program} {w : World} {ops : Array Oper} {rest : List Oper} {o : Oper} {a : Act} {Q : Exit → Act → World → Prop} (hgd : o.guard = none) (s x : Operand) (t : TypeId)
    (ho : o.op = .call { callee := .builtin .append, args := #[s, x], argTypes := #[t, t] }) (v1 v2 : Value) (hs : a.eval s = v1) (hx : a.eval x = v2) {v' : Value} {w' : World} (hr : (Builtin.append_ #[t, t] o.type #[v1, v2]).run P w = .ok v' w')
    (h : wpList P ops Q rest (a.put o.dst v') w') : wpList P ops Q (o :: rest) a w := by
  refine wpList_plain hgd fun K hK => ?_
  unfold Oper.wp execOp
  simp only [ho, resolve, invoke, builtin, Sem.run_bind, Sem.run_pure, Result.andThen_ok, List.map_toArray, List.map_cons, List.map_nil, hs, hx, hr]
  exact hK _ _ h
theorem dflat_ones : ∀ (l : List Dc) (vs : List Value), (∀ v ∈ vs, ∃ a n m, v = .slice a n m) → ∀ u ∈ dflat l vs, u.oneCell' = true
  | [], _, _, u, hu => by simp [dflat] at hu
  | _ :: _, [], _, u, hu => by simp [dflat] at hu
  | d :: l, v :: vs, h, u, hu => by
    simp only [dflat, List.mem_cons] at hu
    rcases hu with rfl | rfl | rfl | rfl | rfl | rfl | hu
    · rfl
    · rfl
    · rfl
    · rfl
    · obtain ⟨a, n, m, rfl⟩ := h u (by simp); rfl
    · rfl
    · exact dflat_ones l vs (fun x hx => h x (by simp [hx])) u hu

theorem append_nil_all {w : World} {l : List Dc} {ao : Option Addr} {m0 : Nat} (hl : DLies w (fun _ => True) (.slice ao l.length m0) l) (h100 : l.length ≤ 100) (ty : TypeId) (hnil : ao = none → l.length = 0 ∧ m0 = 0) :
    ∃ v' w' vs, (Builtin.append_ #[22, 22] ty #[.slice none 0 0, .slice ao l.length m0]).run Tryz.prog w = .ok v' w' ∧ l.length = vs.length ∧ w'.ownsRow w.heap.size 45 6 v' l.length (dflat l vs) ∧ Below w.heap.size w w' ∧
      ∀ w2, Below w.heap.size w w2 → ∀ i (h : i < l.length) (h' : i < vs.length), Lies w2 (fun _ => True) vs[i] l[i].cl.args := by
  obtain ⟨i0, hi0, hz0, hz1, hz2⟩ := info_parts dc_info
  obtain ⟨ao', b, off, len, cap, nm, oo, hh, kk, sc, tt, im, hv0, R⟩ := hl
  cases hv0
  have hvl : l.length = ((List.range l.length).map sc).length := by simp
  have hfl : (dflat l ((List.range l.length).map sc)).length = l.length * 6 := dflat_length _ _ hvl
  have hsub : ∀ w2, Below w.heap.size w w2 → ∀ i (h : i < l.length) (h' : i < ((List.range l.length).map sc).length), Lies w2 (fun _ => True) ((List.range l.length).map sc)[i] l[i].cl.args := fun w2 hb i h h' => by
    have e : ((List.range l.length).map sc)[i]'h' = sc i := by simp
    rw [e, R.get i h]
    exact (R.sub i h).keep hb
  have hone : ∀ u ∈ dflat l ((List.range l.length).map sc), u.oneCell' = true := dflat_ones _ _ (fun v hv => by
    obtain ⟨i, hi, rfl⟩ := List.mem_map.1 hv
    exact (R.sub i (List.mem_range.1 hi)).isSlice)
  cases ao with
  | some bq =>
    obtain ⟨v', w', hrun, r1, r2, _⟩ := run_append_own (P := Tryz.prog) w w.heap.size 22 ty 45 i0 _ 6 72 Tryz.underlying22 hi0 hz0 hz1 hz2 rfl (by omega) (.slice none 0 0) 0 [] (World.ownsRow_nil w _ 45 6) bq l.length m0 _ hfl (fun j u hj => by
      by_cases h0 : 0 < l.length
      · have := R.hao h0
        cases this
        rw [Addr.add_lit]
        exact R.flat j u hj
      · have e : dflat l ((List.range l.length).map sc) = [] := List.eq_nil_of_length_eq_zero (by omega)
        rw [e] at hj
        simp at hj) hone (by unfold maxLen; omega) (by omega) (Nat.le_refl _)
    rw [Nat.zero_add, List.nil_append] at r1
    exact ⟨v', w', _, hrun, hvl, r1, (Below.refl _ _).grown r2 (Nat.le_refl _) (fun j hj => by cases hj), hsub⟩
  | none =>
    obtain ⟨h0, rfl⟩ := hnil rfl
    have e : dflat l ((List.range l.length).map sc) = [] := List.eq_nil_of_length_eq_zero (by omega)
    refine ⟨.slice none 0 0, w, _, ?_, hvl, ?_, Below.refl _ _, hsub⟩
    · rw [h0]
      exact run_append_owned_none w w.heap.size 22 ty 45 i0 6 Tryz.underlying22 hi0 (.slice none 0 0) 0 [] (World.ownsRow_nil w _ 45 6)
    · rw [e, h0]; exact World.ownsRow_nil w _ 45 6

theorem append_row_one {w : World} {base : Nat} {v : Value} {l : List Dc} {vs : List Value} (hvl : l.length = vs.length) (hown : w.ownsRow base 45 6 v l.length (dflat l vs)) (h100 : l.length ≤ 100) (ad : Addr) (d : Dc) (a2 : Option Addr) (n2 m2 : Nat) (c : Nat)
    (hnews : ∀ j u, (dcells d (.slice a2 n2 m2))[j]? = some u → w.cell? (ad.add j) = some u) (hbase : base ≤ w.heap.size) (ty : TypeId) :
    ∃ v' w', (Builtin.append_ #[22, 22] ty #[v, .slice (some ad) 1 c]).run Tryz.prog w = .ok v' w' ∧ w'.ownsRow base 45 6 v' (l ++ [d]).length (dflat (l ++ [d]) (vs ++ [.slice a2 n2 m2])) ∧ Below base w w' := by
  obtain ⟨i0, hi0, hz0, hz1, hz2⟩ := info_parts dc_info
  have hone : ∀ u ∈ dcells d (.slice a2 n2 m2), u.oneCell' = true := by
    intro u hu
    simp only [dcells, List.mem_cons, List.not_mem_nil, or_false] at hu
    rcases hu with rfl | rfl | rfl | rfl | rfl | rfl <;> rfl
  obtain ⟨v', w', hrun, r1, r2, _⟩ := run_append_own (P := Tryz.prog) w base 22 ty 45 i0 _ 6 72 Tryz.underlying22 hi0 hz0 hz1 hz2 rfl (by omega) v l.length _ hown ad 1 c _ rfl hnews hone (by unfold maxLen; omega) (by omega) hbase
  refine ⟨v', w', hrun, ?_, (Below.refl base w).grown r2 hbase (fun j hj => (hown.lt j hj).1)⟩
  rw [dflat_snoc _ _ _ _ hvl, List.length_append]
  exact r1

theorem dlies_row {w : World} {base : Nat} {v : Value} {l : List Dc} {vs : List Value} (hvl : l.length = vs.length) (hown : w.ownsRow base 45 6 v l.length (dflat l vs)) (hf : ∀ d ∈ l, d.fit) (hsub : ∀ i (h : i < l.length) (h' : i < vs.length), Lies w (fun _ => True) vs[i] l[i].cl.args) :
    ∃ a m, v = .slice a l.length m ∧ DLies w (fun _ => True) v l := by
  have hcells := @World.ownsRow.cells w base 45 6 v _ _ hown
  rcases hown.2 with ⟨rfl, h0⟩ | ⟨g, cap', cur, rfl, hg, hh', hle, hmx, _⟩
  · obtain rfl : l = [] := List.eq_nil_of_length_eq_zero h0
    exact ⟨_, _, rfl, DLies.nil _ _⟩
  · have hc : ∀ j u, (dflat l vs)[j]? = some u → w.cell? ⟨g, 0 + j, none⟩ = some u := fun j u hu => by
      have := hcells (g := g) (by simp [Value.ownBlock]) j u hu
      rwa [Addr.add_lit] at this
    refine ⟨_, _, rfl, DLies.of l vs hvl rfl (fun _ => trivial) hle (by unfold maxLen at hmx; exact hmx) (fun i hi hi' => ?_) hf hsub⟩
    have hf := dflat_get l vs i hi hi'
    refine ⟨hc _ _ hf.1, ?_, ?_, ?_, ?_, ?_⟩
    · have := hc _ _ hf.2.1; rwa [← Nat.add_assoc] at this
    · have := hc _ _ hf.2.2.1; rwa [← Nat.add_assoc] at this
    · have := hc _ _ hf.2.2.2.1; rwa [← Nat.add_assoc] at this
    · have := hc _ _ hf.2.2.2.2.1; rwa [← Nat.add_assoc] at this
    · have := hc _ _ hf.2.2.2.2.2; rwa [← Nat.add_assoc] at this

/-- a list and an error that are handed back, wherever the list lies -/
def GivesLE (w : World) (x : List Dc × Int) (e : Ending) (w' : World) : Prop := ∃ a, e = .returned (.tuple #[a, .int .i64 x.2]) ∧ Below w.heap.size w w' ∧ DLies w' (fun _ => True) a x.1
theorem givesLE_nil {w w' : World} {x : List Dc × Int} {c : Int} (h : x = ([], c)) (hb : Below w.heap.size w w') : GivesLE w x (.returned (.tuple #[.slice none 0 0, .int .i64 c])) w' := by
  subst h; exact ⟨_, rfl, hb, DLies.nil _ _⟩
theorem find_any_nm {l : List Dc} (s : ByteArray) : (l.any (fun x => decide (x.nm = s)) = true ∧ 0 ≤ findR l s) ∨ (l.any (fun x => decide (x.nm = s)) = false ∧ findR l s = -1) := by
  unfold findR
  rcases h : posOf l s with _ | i
  · refine .inr ⟨?_, rfl⟩
    rw [Bool.eq_false_iff]
    intro e
    exact posOf_none h (any_nm.1 e)
  · obtain ⟨hi, e⟩ := posOf_some h
    exact .inl ⟨any_nm.2 (List.mem_map.2 ⟨l[i], List.getElem_mem hi, e⟩), Int.natCast_nonneg _⟩
theorem nextR_any_no {l : List Dc} {d : Dc} (h : l.any (fun x => decide (x.nm = d.nm)) = false) : Sg.nextR l d = Sg.next l d := by
  refine nextR_out fun i hi e => ?_
  have : l.any (fun x => decide (x.nm = d.nm)) = true := any_nm.2 (List.mem_map.2 ⟨l[i], List.getElem_mem hi, e⟩)
  rw [h] at this; cases this

set_option maxHeartbeats 4000000 in
set_option maxRecDepth 100000 in
theorem addR_any (l : List Dc) (d : Dc) (sv dv : Value) (w : World) (hl : DLies w (fun _ => True) sv l) (hd : Lies w (fun _ => True) dv d.cl.args) (hfit : d.fit) (hf : Sg.formed l = true) (hnilv : ∃ a m, sv = .slice a l.length m ∧ (a = none → l.length = 0 ∧ m = 0)) :
    Calls Tryz.prog 20 #[sv, dcV d dv] w (GivesLE w (addOut l d)) := by
  obtain ⟨nme, ⟨o, h, n, ar⟩, imp⟩ := d
  have HFT := Lib.hid hfit
  obtain ⟨hs, ⟨hfo, hfh, hfn⟩, him⟩ := hfit
  obtain ⟨a2, n2, m2, rfl⟩ := hd.isSlice
  unfold dcV
  simp only [Tm.op, Tm.hd, Tm.n, Tm.args] at *
  have hbx := one_below w (.cells #[.string nme, .int .i64 o, .int .i64 h, .int .i64 n, .slice a2 n2 m2, .int .i64 imp] 45)
  have HB := Lib.hid hbx
  have HX := Lib.hid (heap_alloc_new w (.cells #[.string nme, .int .i64 o, .int .i64 h, .int .i64 n, .slice a2 n2 m2, .int .i64 imp] 45))
  have cF := fun w1 (hb : Below w.heap.size w w1) => findR_any (fun _ => True) l nme sv w1 (hl.keep hb)
  have hp := formed_proper hf
  have h100 := formed_len hf
  have cN := fun w1 (hb : Below w.heap.size w w1) => nextR_any (fun _ => True) l ⟨nme, .mk o h n ar, imp⟩ sv (.slice a2 n2 m2) w1 (hl.keep hb) hp (hd.keep hb) hs him
  unfold dcV at cN
  simp only [Tm.op, Tm.hd, Tm.n] at cN
  have HL := Lib.hid hl
  have HD := Lib.hid hd
  have hfull : ∃ a m, sv = .slice a l.length m ∧ (a = none → l.length = 0 ∧ m = 0) := hnilv
  obtain ⟨a, m, rfl, hnil0⟩ := hfull
  have hlen : l.length ≤ 9223372036854775807 := by omega
  have HNIL := Lib.hid hnil0
  clear hnil0
  have hX1 := cells6_of' HX.out
  have hao : a = none → l.length = 0 ∧ m = 0 := HNIL.out
  clear hl hd hbx
  have HO : Hid (addOut l ⟨nme, .mk o h n ar, imp⟩ = if l.any (fun x => decide (x.nm = nme)) = true then ([], 21) else if l.length = 100 then ([], 5) else if Sg.next l ⟨nme, .mk o h n ar, imp⟩ = false then ([], 2) else (l ++ [⟨nme, .mk o h n ar, imp⟩], 0)) := Lib.hid (by unfold addOut; rw [hf]; rfl)
  have HFIT := Lib.hid (fun (x : Dc) (hx : x ∈ l) => HL.out.fits x hx)
  rcases find_any_nm (l := l) nme with ⟨t1, t2⟩ | ⟨t1, t2⟩
  · have HE : Hid (addOut l ⟨nme, .mk o h n ar, imp⟩ = ([], 21)) := Lib.hid (by rw [HO.out, t1]; rfl)
    generalize findR l nme = fr at *
    clear HO t1 hao
    go_enter Tryz.func20, Tryz.ntmps20
    go_wp2_with (first
      | (go_at_call 13; (with_reducible refine (cF _ HB.out).mono ?_); rintro e w1 ⟨rfl, hb1⟩; have HB1 := Lib.hid (below_next HB.out hb1); have hX2 := cells6_of' (heap_kept hb1 HX.out); have HX1 := Lib.hid (heap_kept hb1 HX.out); clear hb1)
      | (go_at_call 34; (with_reducible refine (cN _ HB1.out).mono ?_); rintro e w2 ⟨rfl, hb2⟩; have HB2 := Lib.hid (below_next HB1.out hb2); have hX3 := cells6_of' (heap_kept hb2 HX1.out); have HX2 := Lib.hid (heap_kept hb2 HX1.out); clear hb2)
      | fail)
    go_ret2
    exact givesLE_nil HE.out HB1.out
  have HN := nextR_any_no (l := l) (d := ⟨nme, .mk o h n ar, imp⟩) t1
  have HO2 : Hid (addOut l ⟨nme, .mk o h n ar, imp⟩ = if l.length = 100 then ([], 5) else if Sg.next l ⟨nme, .mk o h n ar, imp⟩ = false then ([], 2) else (l ++ [⟨nme, .mk o h n ar, imp⟩], 0)) := Lib.hid (by rw [HO.out, t1]; rfl)
  rw [t2] at cF
  rw [HN] at cN
  clear HN HO t1 t2
  by_cases hle : 100 ≤ l.length
  · have HE : Hid (addOut l ⟨nme, .mk o h n ar, imp⟩ = ([], 5)) := Lib.hid (by rw [HO2.out, if_pos (by omega)])
    have hle' : (100 : Int) ≤ (l.length : Int) := by omega
    clear HO2 hao hle h100
    go_enter Tryz.func20, Tryz.ntmps20
    go_wp2_with (first
      | (go_at_call 13; (with_reducible refine (cF _ HB.out).mono ?_); rintro e w1 ⟨rfl, hb1⟩; have HB1 := Lib.hid (below_next HB.out hb1); have hX2 := cells6_of' (heap_kept hb1 HX.out); have HX1 := Lib.hid (heap_kept hb1 HX.out); clear hb1)
      | (go_at_call 34; (with_reducible refine (cN _ HB1.out).mono ?_); rintro e w2 ⟨rfl, hb2⟩; have HB2 := Lib.hid (below_next HB1.out hb2); have hX3 := cells6_of' (heap_kept hb2 HX1.out); have HX2 := Lib.hid (heap_kept hb2 HX1.out); clear hb2)
      | fail)
    go_ret2
    exact givesLE_nil HE.out HB1.out
  have hle' : ¬ (100 : Int) ≤ (l.length : Int) := by omega
  have HLE := Lib.hid hle
  rcases hn : Sg.next l ⟨nme, .mk o h n ar, imp⟩ with _ | _
  · have HE : Hid (addOut l ⟨nme, .mk o h n ar, imp⟩ = ([], 2)) := Lib.hid (by rw [HO2.out, if_neg (by omega), hn]; rfl)
    rw [hn] at cN
    clear HO2 hao hle h100 hn
    go_enter Tryz.func20, Tryz.ntmps20
    go_wp2_with (first
      | (go_at_call 13; (with_reducible refine (cF _ HB.out).mono ?_); rintro e w1 ⟨rfl, hb1⟩; have HB1 := Lib.hid (below_next HB.out hb1); have hX2 := cells6_of' (heap_kept hb1 HX.out); have HX1 := Lib.hid (heap_kept hb1 HX.out); clear hb1)
      | (go_at_call 34; (with_reducible refine (cN _ HB1.out).mono ?_); rintro e w2 ⟨rfl, hb2⟩; have HB2 := Lib.hid (below_next HB1.out hb2); have hX3 := cells6_of' (heap_kept hb2 HX1.out); have HX2 := Lib.hid (heap_kept hb2 HX1.out); clear hb2)
      | fail)
    go_ret2
    exact givesLE_nil HE.out HB2.out
  · have HE : Hid (addOut l ⟨nme, .mk o h n ar, imp⟩ = (l ++ [⟨nme, .mk o h n ar, imp⟩], 0)) := Lib.hid (by rw [HO2.out, if_neg (by omega), hn]; rfl)
    rw [hn] at cN
    have HAO := Lib.hid hao
    clear HO2 hle h100 hn hao
    go_enter Tryz.func20, Tryz.ntmps20
    go_wp2_with (first
      | (go_at_call 13; (with_reducible refine (cF _ HB.out).mono ?_); rintro e w1 ⟨rfl, hb1⟩; have HB1 := Lib.hid (below_next HB.out hb1); have hX2 := cells6_of' (heap_kept hb1 HX.out); have HX1 := Lib.hid (heap_kept hb1 HX.out); clear hb1)
      | (go_at_call 34; (with_reducible refine (cN _ HB1.out).mono ?_); rintro e w2 ⟨rfl, hb2⟩; have HB2 := Lib.hid (below_next HB1.out hb2); have hX3 := cells6_of' (heap_kept hb2 HX1.out); have HX2 := Lib.hid (heap_kept hb2 HX1.out); clear hb2)
      | (at_builtin; obtain ⟨v3, w3, vs, hr3, hvl, hown3, hb3, hsub3⟩ := append_nil_all (HL.out.keep HB2.out) (by have := HLE.out; omega) 22 HAO.out; refine wpList_append_run rfl _ _ _ rfl _ _ rfl rfl hr3 ?_; have HO3 := Lib.hid (And.intro hown3 (And.intro hb3 hsub3)); have HVL := Lib.hid hvl; have HB3 := Lib.hid (below_next HB2.out hb3); have hX4 := cells6_of' (heap_kept hb3 HX2.out); have HX3 := Lib.hid (heap_kept hb3 HX2.out); clear hr3 hown3 hb3 hsub3 hvl)
      | (at_builtin; obtain ⟨v4, w4, hr4, hown4, hb4⟩ := append_row_one HVL.out (HO3.out.1.alloc (.cells #[.string nme, .int .i64 o, .int .i64 h, .int .i64 n, .slice a2 n2 m2, .int .i64 imp] 45)) (by have := HLE.out; omega) ⟨w3.heap.size, 0, none⟩ ⟨nme, .mk o h n ar, imp⟩ a2 n2 m2 1 (fun j u hu => by
          have h9 := cell_in (heap_alloc_new w3 (.cells #[.string nme, .int .i64 o, .int .i64 h, .int .i64 n, .slice a2 n2 m2, .int .i64 imp] 45)) j u (by simpa [dcells, Tm.op, Tm.hd, Tm.n] using hu)
          rw [Addr.add_lit, Nat.zero_add]
          exact h9) (by have := HO3.out.2.1.size; simp; omega) 22; refine wpList_append_run rfl _ _ _ rfl _ _ rfl rfl hr4 ?_; have HO4 := Lib.hid (And.intro hown4 hb4); clear hr4 hown4 hb4)
      | fail)
    go_ret2
    have hb34 : Below w2.heap.size w2 w4 := (HO3.out.2.1.trans ((one_below w3 (.cells #[.string nme, .int .i64 o, .int .i64 h, .int .i64 n, .slice a2 n2 m2, .int .i64 imp] 45)).mono HO3.out.2.1.size)).trans HO4.out.2
    have hsub4 := HO3.out.2.2 w4 hb34
    have hvl := HVL.out
    have hd4 := HD.out.keep (below_next HB2.out hb34)
    obtain ⟨a9, m9, rfl, hD⟩ := dlies_row (l := l ++ [⟨nme, .mk o h n ar, imp⟩]) (vs := vs ++ [.slice a2 n2 m2]) (by simp [hvl]) HO4.out.1 (fun x hx => by
        rcases List.mem_append.1 hx with hx | hx
        · exact HFIT.out x hx
        · simp at hx; subst hx; exact HFT.out) (fun i hi hi' => by
        by_cases hil : i < l.length
        · have e1 : (l ++ [⟨nme, .mk o h n ar, imp⟩])[i] = l[i] := List.getElem_append_left hil
          have e2 : (vs ++ [Value.slice a2 n2 m2])[i] = vs[i]'(by omega) := List.getElem_append_left (by omega)
          rw [e1, e2]
          exact hsub4 i hil (by omega)
        · have hie : i = vs.length := by simp at hi; omega
          subst hie
          have e1 : (l ++ [(⟨nme, .mk o h n ar, imp⟩ : Dc)])[vs.length] = ⟨nme, .mk o h n ar, imp⟩ := by
            rw [List.getElem_append_right (by omega)]; simp [hvl]
          have e2 : (vs ++ [Value.slice a2 n2 m2])[vs.length] = .slice a2 n2 m2 := by
            rw [List.getElem_append_right (by simp)]; simp
          rw [e1, e2]
          exact hd4)
    rw [HE.out]
    exact ⟨_, rfl, below_next HB2.out hb34, hD⟩
end Go.Proofs.YteoheeddjddekaaGreat
