/- The contract of the reference's Split. -/
import Derived.Test.YteoheeddjddekaaTmSplitW
namespace Go.Proofs.Yteoheeddjddekaa
open Go.RowKit
set_option linter.unusedSimpArgs false
set_option linter.unusedVariables false

/-- a row of the call's own whose terms' spines lie in an older world -/
structure Laid (w wr : World) (base : Nat) (v : Value) (ts : List Tm) : Prop where
  has : ∃ vs : List Value, ts.length = vs.length ∧ wr.ownsRow base 25 4 v ts.length (flat ts vs) ∧ ∀ i (h : i < ts.length) (h' : i < vs.length), Lies w (fun _ => True) vs[i] ts[i].args
  fit : ∀ t ∈ ts, t.fit
theorem Laid.nil (w wr : World) (base : Nat) : Laid w wr base (.slice none 0 0) [] := ⟨⟨[], rfl, World.ownsRow_nil _ _ _ _, fun i h => by simp at h⟩, by simp⟩
theorem Laid.keep {w wr w' : World} {base : Nat} {v : Value} {ts : List Tm} (h : Laid w wr base v ts) (hb : ∀ b, base ≤ b → b < wr.heap.size → w'.heap[b]? = wr.heap[b]?) : Laid w w' base v ts := by
  obtain ⟨⟨vs, hl, hown, hsub⟩, hfit⟩ := h
  refine ⟨⟨vs, hl, ⟨hown.1, ?_⟩, hsub⟩, hfit⟩
  rcases hown.2 with hn | ⟨g, cap, cur, rfl, hg, hh, rest⟩
  · exact .inl hn
  · exact .inr ⟨g, cap, cur, rfl, hg, (hb g hg (Array.getElem?_eq_some_iff.1 hh).1).trans hh, rest⟩
theorem Laid.setCell {w wr : World} {base : Nat} {v : Value} {ts : List Tm} (h : Laid w wr base v ts) {p : Addr} (hp : p.block < base) (u : Value) : Laid w (wr.setCell p u) base v ts :=
  h.keep fun b hb _ => Below.heap_setCell _ _ _ _ (by omega)
theorem Laid.lt {w wr : World} {base : Nat} {v : Value} {ts : List Tm} (h : Laid w wr base v ts) : ∀ k, v.ownBlock = some k → base ≤ k ∧ k < wr.heap.size := by
  obtain ⟨vs, _, hown, _⟩ := h.has; exact hown.lt
theorem Laid.len {w wr : World} {base : Nat} {v : Value} {ts : List Tm} (h : Laid w wr base v ts) : rowLenOf v = ts.length := by
  obtain ⟨vs, _, hown, _⟩ := h.has
  rcases hown.2 with ⟨rfl, h0⟩ | ⟨g, cap, cur, rfl, _⟩
  · simp [rowLenOf, h0]
  · rfl
theorem Laid.lies {w wr : World} {base : Nat} {v : Value} {ts : List Tm} (h : Laid w wr base v ts) (hbl : Below w.heap.size w wr) : Lies wr (fun _ => True) v ts := by
  obtain ⟨⟨vs, hl, hown, hsub⟩, hfit⟩ := h
  have hcells := @World.ownsRow.cells wr base 25 4 v ts.length (flat ts vs) hown
  rcases hown.2 with ⟨rfl, h0⟩ | ⟨g, cap, cur, rfl, hg, hh, hle, hmx, _⟩
  · obtain rfl : ts = [] := List.eq_nil_of_length_eq_zero h0
    exact Lies.nil _ _
  · have hc : ∀ j u, (flat ts vs)[j]? = some u → wr.cell? ⟨g, 0 + j, none⟩ = some u := fun j u hu => by
      have := hcells (g := g) (by simp [Value.ownBlock]) j u hu
      rwa [Addr.add_lit] at this
    have hts : ts = (List.range ts.length).map fun i => Tm.mk (ts[i]?.getD (.mk 0 0 0 [])).op (ts[i]?.getD (.mk 0 0 0 [])).hd (ts[i]?.getD (.mk 0 0 0 [])).n (ts[i]?.getD (.mk 0 0 0 [])).args := by
      apply List.ext_getElem
      · simp
      · intro i h1 h2
        simp only [List.getElem_map, List.getElem_range, List.getElem?_eq_getElem h1, Option.getD_some]
        cases ts[i]; rfl
    have hget : ∀ i (h : i < ts.length), ts[i]?.getD (.mk 0 0 0 []) = ts[i] := fun i h => by rw [List.getElem?_eq_getElem h]; rfl
    have hvs : ∀ i (h : i < vs.length), vs[i]?.getD (.slice none 0 0) = vs[i] := fun i h => by rw [List.getElem?_eq_getElem h]; rfl
    have hf := fun i (h : i < ts.length) => flat_get ts vs i h (by omega)
    have hm : cap ≤ 9223372036854775807 := by unfold maxLen at hmx; exact hmx
    have row := Lies.row (w := wr) (S := fun _ => True) (some ⟨g, 0, none⟩) g 0 ts.length cap (fun i => (ts[i]?.getD (.mk 0 0 0 [])).op) (fun i => (ts[i]?.getD (.mk 0 0 0 [])).hd) (fun i => (ts[i]?.getD (.mk 0 0 0 [])).n)
      (fun i => vs[i]?.getD (.slice none 0 0)) (fun i => (ts[i]?.getD (.mk 0 0 0 [])).args) (fun _ => rfl) (fun _ => trivial) hle hm
      (fun i hi => by rw [hget i hi]; exact hc _ _ (hf i hi).1) (fun i hi => by rw [hget i hi]; have := hc _ _ (hf i hi).2.1; rwa [← Nat.add_assoc] at this)
      (fun i hi => by rw [hget i hi]; have := hc _ _ (hf i hi).2.2.1; rwa [← Nat.add_assoc] at this) (fun i hi => by rw [hvs i (by omega)]; have := hc _ _ (hf i hi).2.2.2; rwa [← Nat.add_assoc] at this)
      (fun i hi => by rw [hget i hi]; exact (hfit _ (List.getElem_mem hi)).1) (fun i hi => by rw [hget i hi]; exact (hfit _ (List.getElem_mem hi)).2.1) (fun i hi => by rw [hget i hi]; exact (hfit _ (List.getElem_mem hi)).2.2)
      (fun i hi => by rw [hget i hi, hvs i (by omega)]; exact (hsub i hi (by omega)).keep hbl)
    rw [← hts] at row
    exact row

/-- the loop -/
structure SplitStR (w : World) (t : Tm) (v : Value) (ts : List Tm) (u : Tm) (uv : Value) (wr : World) : Prop where
  row : Laid w wr (w.heap.size + 2) v ts
  box : wr.heap[w.heap.size]? = some (.cells #[.int .i64 u.op, .int .i64 u.hd, .int .i64 u.n, uv] 25 (0, 0))
  res : wr.heap[w.heap.size + 1]? = some (.cells #[.int .i64 0, .int .i64 0, .int .i64 0, .slice none 0 0] 25 (0, 0))
  arg : Lies w (fun _ => True) uv u.args
  below : Below w.heap.size w wr
  spl : SplitTo t ts u
theorem SplitStR.next {w w3 : World} {t : Tm} {v v' : Value} {ts : List Tm} {u a b : Tm} {uv bv : Value} {wr : World} (H : SplitStR w t v ts u uv wr) (hb : Below (w.heap.size + 2) wr w3) (hrow : Laid w w3 (w.heap.size + 2) v' (ts ++ [a]))
    (e : u = .mk 2 0 0 [a, b]) (ha : Tm.proper a = true) (hpb : Tm.proper b = true) (hl : Lies w (fun _ => True) bv b.args) :
    SplitStR w t v' (ts ++ [a]) b bv ((((w3.setCell ⟨w.heap.size, 0, none⟩ (.int .i64 b.op)).setCell ⟨w.heap.size, 1, none⟩ (.int .i64 b.hd)).setCell ⟨w.heap.size, 2, none⟩ (.int .i64 b.n)).setCell ⟨w.heap.size, 3, none⟩ bv) := by
  have hbox : w3.heap[w.heap.size]? = _ := (hb.block w.heap.size (by omega)).trans H.box
  have hres : w3.heap[w.heap.size + 1]? = _ := (hb.block (w.heap.size + 1) (by omega)).trans H.res
  refine ⟨(((hrow.setCell (by simp) _).setCell (by simp) _).setCell (by simp) _).setCell (by simp) _, set4_at hbox _ _ _ _, ?_, hl, ((((H.below.trans (hb.mono (by omega))).setCell (by simp) _).setCell (by simp) _).setCell (by simp) _).setCell (by simp) _, H.spl.step e ha hpb⟩
  exact (heap_set4 _ _ _ _ (by simp) (by simp) (by simp) (by simp)).trans hres

set_option maxHeartbeats 4000000 in
set_option maxRecDepth 100000 in
theorem splitR_any (t : Tm) (v : Value) (w : World) (hv : Lies w (fun _ => True) v t.args) (hp : Tm.proper t = true) :
    Calls Try.prog 56 #[.agg #[.int .i64 t.op, .int .i64 t.hd, .int .i64 t.n, v]] w fun e w' =>
      ∃ a b, e = .returned (.tuple #[a, .agg #[.int .i64 (Tm.splitOf t).2.op, .int .i64 (Tm.splitOf t).2.hd, .int .i64 (Tm.splitOf t).2.n, b]]) ∧ Below w.heap.size w w' ∧ Lies w' (fun _ => True) a (Tm.splitOf t).1 ∧ Lies w' (fun _ => True) b (Tm.splitOf t).2.args := by
  obtain ⟨a2, n2, m2, rfl⟩ := hv.isSlice
  obtain ⟨i0, hi0, hz0, hz1, hz2⟩ := info_parts tm_info
  have h2 := two_below w (.cells #[.int .i64 t.op, .int .i64 t.hd, .int .i64 t.n, .slice a2 n2 m2] 25) (.cells #[.int .i64 0, .int .i64 0, .int .i64 0, .slice none 0 0] 25)
  have hk2 := two_blocks w #[.int .i64 t.op, .int .i64 t.hd, .int .i64 t.n, .slice a2 n2 m2] #[.int .i64 0, .int .i64 0, .int .i64 0, .slice none 0 0] 25 25
  have HST := Lib.hid (show SplitStR w t (.slice none 0 0) [] t (.slice a2 n2 m2) _ from ⟨Laid.nil _ _ _, hk2.1, hk2.2, hv, h2, SplitTo.start hp⟩)
  have HI0 := Lib.hid hi0
  have HZ0 := Lib.hid hz0
  clear h2 hk2 hv hp hi0 hz0
  go_enter Try.func56, Try.ntmps56
  go_wp2_with fail
  go_loopw [4] (fun v wr => ∃ ts u uv, SplitStR w t v ts u uv wr) (fun v _ => 600 - rowLenOf v)
  case atStart => exact ⟨_, _, _, HST.out⟩
  case round =>
    obtain ⟨ts, u, uv, H⟩ := hrel
    obtain ⟨x0, x1, x2, x3⟩ := cells4_of H.box
    obtain ⟨a4, n4, m4, rfl⟩ := H.arg.isSlice
    by_cases hop : u.op = 2
    · obtain ⟨uo, uh, un, ul⟩ := u
      simp only [Tm.op] at hop
      subst hop
      obtain ⟨a, b, rfl, rfl, rfl, ha, hpb⟩ := Tm.proper_pi H.spl.ok
      obtain ⟨ad, bb, off, len, cap, oo, hh, kk, sv, tt, hed, R⟩ := H.arg.open
      simp only [Value.slice.injEq] at hed
      obtain ⟨rfl, rfl, rfl⟩ := hed
      obtain rfl : 2 = n4 := R.length
      obtain rfl := R.hao (by omega)
      have ea : a = .mk (oo 0) (hh 0) (kk 0) (tt 0) := R.get 0 (by omega)
      have eb : b = .mk (oo 1) (hh 1) (kk 1) (tt 1) := R.get 1 (by omega)
      obtain ⟨d0, d1, d2, d3, hs0⟩ := R.at H.below 0 (by omega)
      simp only [Nat.zero_mul, Nat.add_zero] at d0 d1 d2 d3
      obtain ⟨a5, n5, m5, hsv0⟩ := (R.sub 0 (by omega)).isSlice
      obtain ⟨a6, n6, m6, hsv1⟩ := (R.sub 1 (by omega)).isSlice
      rw [hsv0] at d3
      have hfa : (Tm.mk (oo 0) (hh 0) (kk 0) (tt 0)).fit := by rw [← ea]; exact Tm.proper_fit ha
      have hsz := H.spl.sz
      have hlen := H.row.len
      have hbsz := H.below.size
      have hbl := lt_of_block H.res
      have hrl := H.row.lt
      obtain ⟨vs, hvl, hown, hsub⟩ := H.row.has
      have HVL := Lib.hid hvl
      have HSB := Lib.hid hsub
      have HOW := Lib.hid hown
      have HH := Lib.hid H
      have HR := Lib.hid R
      have HA := Lib.hid ea
      have HB := Lib.hid eb
      have HPA := Lib.hid ha
      have HPB := Lib.hid hpb
      clear H R ea eb ha hpb hs0 hvl hsub hown
      go_wp2_with (at_builtin; refine wpList_append_lies _ (by rfl) _ _ _ (by rfl) (w.heap.size + 2) 25 i0 _ 4 48 Try.underlying23 HI0.out HZ0.out hz1 hz2 rfl (by omega) u4 _ _ (by rfl) (HOW.out.alloc _) ⟨wr.heap.size, 0, none⟩ 1 1 [.int .i64 (oo 0), .int .i64 (hh 0), .int .i64 (kk 0), .slice a5 n5 m5] (by rfl) (by rfl) (World.news_of_block (cs := #[.int .i64 (oo 0), .int .i64 (hh 0), .int .i64 (kk 0), .slice a5 n5 m5]) (t := 25) (fr := (0, 0)) (heap_alloc_new _ _)) (by intro u hu; simp at hu; rcases hu with rfl | rfl | rfl | rfl <;> rfl) (by omega) (by unfold maxLen; omega) (by omega) (by simp; omega) _ rfl ?_; intro g cap3 w3 hown3 hgrow3 hat3 hlt3; have hb3 : Below (w.heap.size + 2) wr w3 := (((Below.refl (w.heap.size + 2) wr).alloc (by omega) _).grown hgrow3 (by simp; omega) (fun k hk => (hrl k hk).1)); have hbox3 := (hb3.block w.heap.size (by omega)).trans HH.out.box; obtain ⟨y0, y1, y2, y3⟩ := cells4_of hbox3; have f0 := free_in hbox3 0; have f1 := free_in hbox3 1; have f2 := free_in hbox3 2; have f3 := free_in hbox3 3; obtain ⟨g0, g1, g2, g3, _⟩ := HR.out.at (HH.out.below.trans (hb3.mono (by omega))) 1 (by omega); rw [hsv1] at g3)
      go_roundw
      case rel =>
        have hl0 := HR.out.sub 0 (by omega)
        rw [hsv0] at hl0
        have hrow : Laid w w3 (w.heap.size + 2) (.slice (some ⟨g, 0, none⟩) (ts.length + 1) cap3) (ts ++ [.mk (oo 0) (hh 0) (kk 0) (tt 0)]) := by
          refine ⟨⟨vs ++ [.slice a5 n5 m5], by simp [HVL.out], by rw [flat_snoc ts vs _ _ HVL.out]; simpa [Tm.op, Tm.hd, Tm.n] using hown3, ?_⟩, ?_⟩
          · intro i h h'
            by_cases hi : i < ts.length
            · rw [List.getElem_append_left hi, List.getElem_append_left (by have := HVL.out; omega)]
              exact HSB.out i hi (by have := HVL.out; omega)
            · obtain rfl : i = ts.length := by simp at h; omega
              have e1 : (vs ++ [Value.slice a5 n5 m5])[ts.length]'h' = .slice a5 n5 m5 := by
                rw [List.getElem_append_right (by have := HVL.out; omega)]; simp
              rw [e1]
              simp only [List.getElem_append_right (Nat.le_refl _), Nat.sub_self, List.getElem_cons_zero]
              exact hl0
          · intro x hx
            rcases List.mem_append.1 hx with hx | hx
            · exact HH.out.row.fit x hx
            · rw [List.mem_singleton.1 hx]; exact hfa
        rw [← HA.out] at hrow
        have hl := HR.out.sub 1 (by omega)
        rw [hsv1] at hl
        exact ⟨_, _, _, SplitStR.next (b := .mk (oo 1) (hh 1) (kk 1) (tt 1)) HH.out hb3 hrow (by rw [HB.out]) HPA.out (by rw [← HB.out]; exact HPB.out) hl⟩
      case measure =>
        have := Tm.sz_pos (.mk 2 0 0 [a, b])
        have e : rowLenOf (.slice (some ⟨g, 0, none⟩) (ts.length + 1) cap3) = ts.length + 1 := rfl
        simp only [e, hlen]; omega
    · have hbsz := H.below.size
      have hbl := lt_of_block H.res
      obtain ⟨a7, n7, m7, rfl⟩ := (H.row.lies H.below).isSlice
      have HH := Lib.hid H
      have HE := Lib.hid (H.spl.stop hop)
      have hop' : (u.op == 2) = false := by simpa using hop
      obtain ⟨y0, y1, y2, y3⟩ := cells4_of H.res
      have f0 := free_in H.res 0
      have f1 := free_in H.res 1
      have f2 := free_in H.res 2
      have f3 := free_in H.res 3
      clear H
      go_upto_region 5 with fail
      go_region
      all_goals
        go_wp2_with fail
        have hz := set4_at HH.out.res (.int .i64 u.op) (.int .i64 u.hd) (.int .i64 u.n) (.slice a4 n4 m4)
        have B2 := (((HH.out.below.setCell (p := ⟨w.heap.size + 1, 0, none⟩) (by simp) (.int .i64 u.op)).setCell (p := ⟨w.heap.size + 1, 1, none⟩) (by simp) (.int .i64 u.hd)).setCell (p := ⟨w.heap.size + 1, 2, none⟩) (by simp) (.int .i64 u.n)).setCell (p := ⟨w.heap.size + 1, 3, none⟩) (by simp) (.slice a4 n4 m4)
        have L2 := (((HH.out.row.setCell (p := ⟨w.heap.size + 1, 0, none⟩) (by simp) (.int .i64 u.op)).setCell (p := ⟨w.heap.size + 1, 1, none⟩) (by simp) (.int .i64 u.hd)).setCell (p := ⟨w.heap.size + 1, 2, none⟩) (by simp) (.int .i64 u.n)).setCell (p := ⟨w.heap.size + 1, 3, none⟩) (by simp) (.slice a4 n4 m4)
        generalize (((wr.setCell ⟨w.heap.size + 1, 0, none⟩ (.int .i64 u.op)).setCell ⟨w.heap.size + 1, 1, none⟩ (.int .i64 u.hd)).setCell ⟨w.heap.size + 1, 2, none⟩ (.int .i64 u.n)).setCell ⟨w.heap.size + 1, 3, none⟩ (.slice a4 n4 m4) = Z at hz B2 L2 ⊢
        obtain ⟨z0, z1, z2, z3⟩ := cells4_of hz
        refine bodyPost_ret (v := .tuple #[.slice a7 n7 m7, .agg #[.int .i64 u.op, .int .i64 u.hd, .int .i64 u.n, .slice a4 n4 m4]]) (by simp [results, Try.results56, go_sem, z0, z1, z2, z3]) rfl ?_
        rw [HE.out]
        have L3 : Laid w Z.drew (w.heap.size + 2) (.slice a7 n7 m7) ts := L2.keep fun _ _ _ => rfl
        exact ⟨_, _, rfl, B2.drew, L3.lies B2.drew, HH.out.arg.keep B2.drew⟩
end Go.Proofs.Yteoheeddjddekaa
