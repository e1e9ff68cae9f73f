/- The contract of term.Split. -/
import Derived.Test.YtnooeaefldklaaaTmSplitP
namespace Go.Proofs.Ytnooeaefldklaaa
open Go.RowKit
set_option linter.unusedSimpArgs false
set_option linter.unusedVariables false

/-- the number of a slice's elements -/
def rowLenOf : Value → Nat | .slice _ n _ => n | _ => 0

/-- what Split gives -/
def GivesSplit (w : World) (x : List Tm × Tm × Int) (e : Ending) (w' : World) : Prop :=
  ∃ a b, e = .returned (.tuple #[a, .agg #[.int .i64 x.2.1.op, .int .i64 x.2.1.hd, .int .i64 x.2.1.n, b], .int .i64 x.2.2]) ∧ Below w.heap.size w w' ∧ Lies w' (w.heap.size ≤ ·) a x.1 ∧ Lies w' (w.heap.size ≤ ·) b x.2.1.args

/-- the loop: the domains' row, the parameter's box with what is left, the result's box -/
structure SplitSt (w : World) (t : Tm) (v : Value) (ts : List Tm) (u : Tm) (uv : Value) (wr : World) : Prop where
  row : Built wr (w.heap.size + 2) 24 v ts
  box : wr.heap[w.heap.size]? = some (.cells #[.int .i64 u.op, .int .i64 u.hd, .int .i64 u.n, uv] 24 (0, 0))
  res : wr.heap[w.heap.size + 1]? = some (.cells #[.int .i64 0, .int .i64 0, .int .i64 0, .slice none 0 0] 24 (0, 0))
  arg : Lies w (fun _ => True) uv u.args
  below : Below w.heap.size w wr
  spl : SplitTo t ts u

theorem Built.len {w : World} {base : Nat} {e : TypeId} {v : Value} {ts : List Tm} (h : Built w base e v ts) : rowLenOf v = ts.length := by
  obtain ⟨vs, _, hown, _⟩ := h.has
  rcases hown.2 with ⟨rfl, h0⟩ | ⟨g, cap, cur, rfl, _⟩
  · simp [rowLenOf, h0]
  · rfl

theorem SplitSt.next {w w3 : World} {t : Tm} {v v' : Value} {ts : List Tm} {u a b : Tm} {uv bv : Value} {wr : World} (H : SplitSt w t v ts u uv wr) (hb : Below (w.heap.size + 2) wr w3) (hrow : Built w3 (w.heap.size + 2) 24 v' (ts ++ [a]))
    (e : u = .mk 2 0 0 [a, b]) (ha : Tm.proper a = true) (hpb : Tm.proper b = true) (hl : Lies w (fun _ => True) bv b.args) :
    SplitSt w t v' (ts ++ [a]) b bv ((((w3.setCell ⟨w.heap.size, 0, none⟩ (.int .i64 b.op)).setCell ⟨w.heap.size, 1, none⟩ (.int .i64 b.hd)).setCell ⟨w.heap.size, 2, none⟩ (.int .i64 b.n)).setCell ⟨w.heap.size, 3, none⟩ bv) := by
  have hbox : w3.heap[w.heap.size]? = _ := (hb.block w.heap.size (by omega)).trans H.box
  have hres : w3.heap[w.heap.size + 1]? = _ := (hb.block (w.heap.size + 1) (by omega)).trans H.res
  refine ⟨(((hrow.setCell (by simp) _).setCell (by simp) _).setCell (by simp) _).setCell (by simp) _, set4_at hbox _ _ _ _, ?_, hl, ((((H.below.trans (hb.mono (by omega))).setCell (by simp) _).setCell (by simp) _).setCell (by simp) _).setCell (by simp) _, H.spl.step e ha hpb⟩
  exact (heap_set4 _ _ _ _ (by simp) (by simp) (by simp) (by simp)).trans hres

set_option maxHeartbeats 4000000 in
set_option maxRecDepth 100000 in
theorem split_good (o h n : Int) (v : Value) (l : List Tm) (w : World) (hv : Lies w (fun _ => True) v l) (hp : Tm.proper (.mk o h n l) = true) :
    Calls Try.prog 35 #[.agg #[.int .i64 o, .int .i64 h, .int .i64 n, v]] w (GivesSplit w ((Tm.splitOf (.mk o h n l)).1, (Tm.splitOf (.mk o h n l)).2, 0)) := by
  obtain ⟨a2, n2, m2, rfl⟩ := hv.isSlice
  obtain ⟨i0, hi0, hz0, hz1, hz2⟩ := info_parts tm_info
  obtain ⟨t, ht⟩ : ∃ t, t = Tm.mk o h n l := ⟨_, rfl⟩
  have h2 := two_below w (.cells #[.int .i64 o, .int .i64 h, .int .i64 n, .slice a2 n2 m2] 24) (.cells #[.int .i64 0, .int .i64 0, .int .i64 0, .slice none 0 0] 24)
  have hk2 := two_blocks w #[.int .i64 o, .int .i64 h, .int .i64 n, .slice a2 n2 m2] #[.int .i64 0, .int .i64 0, .int .i64 0, .slice none 0 0] 24 24
  have c1 := isProper_any o h n _ l _ (hv.keep h2)
  rw [hp] at c1
  have hst : ∀ w1, Below ((w.alloc (.cells #[.int .i64 o, .int .i64 h, .int .i64 n, .slice a2 n2 m2] 24)).alloc (.cells #[.int .i64 0, .int .i64 0, .int .i64 0, .slice none 0 0] 24)).heap.size ((w.alloc (.cells #[.int .i64 o, .int .i64 h, .int .i64 n, .slice a2 n2 m2] 24)).alloc (.cells #[.int .i64 0, .int .i64 0, .int .i64 0, .slice none 0 0] 24)) w1 → SplitSt w t (.slice none 0 0) [] t (.slice a2 n2 m2) w1 := fun w1 hb => by
    subst ht
    exact ⟨Built.nil _ _ _, heap_kept hb hk2.1, heap_kept hb hk2.2, hv, h2.trans (hb.mono h2.size), SplitTo.start hp⟩
  rw [← ht]
  have HST := Lib.hid hst
  have HI0 := Lib.hid hi0
  have HZ0 := Lib.hid hz0
  clear h2 hk2 hv hp hst hi0 hz0
  go_enter Try.func35, Try.ntmps35
  go_wp2_with (go_at_call 47; (with_reducible refine c1.mono ?_); rintro e w1 ⟨rfl, hb1⟩)
  go_loopw [5] (fun v wr => ∃ ts u uv, SplitSt w t v ts u uv wr) (fun v _ => 600 - rowLenOf v)
  case atStart => exact ⟨_, _, _, HST.out _ hb1⟩
  case round =>
    obtain ⟨ts, u, uv, H⟩ := hrel
    obtain ⟨x0, x1, x2, x3⟩ := cells4_of H.box
    obtain ⟨a4, n4, m4, rfl⟩ := H.arg.isSlice
    by_cases hop : u.op = 2
    · obtain ⟨uo, uh, un, ul⟩ := u
      simp only [Tm.op] at hop
      subst hop
      obtain ⟨a, b, rfl, rfl, rfl, ha, hpb⟩ := Tm.proper_pi H.spl.ok
      obtain ⟨ad, bb, off, len, cap, oo, hh, kk, sv, tt, hed, R⟩ := H.arg.open
      simp only [Value.slice.injEq] at hed
      obtain ⟨rfl, rfl, rfl⟩ := hed
      obtain rfl : 2 = n4 := R.length
      obtain rfl := R.hao (by omega)
      have ea : a = .mk (oo 0) (hh 0) (kk 0) (tt 0) := R.get 0 (by omega)
      have eb : b = .mk (oo 1) (hh 1) (kk 1) (tt 1) := R.get 1 (by omega)
      obtain ⟨d0, d1, d2, d3, hs0⟩ := R.at H.below 0 (by omega)
      simp only [Nat.zero_mul, Nat.add_zero] at d0 d1 d2 d3
      have c2 := fun w1 (hb : Below wr.heap.size wr w1) => clone_any _ _ _ _ _ w1 (hs0.keep hb) (by rw [← ea]; exact ha)
      unfold GivesT at c2
      simp only [Tm.op, Tm.hd, Tm.n, Tm.args] at c2
      obtain ⟨a6, n6, m6, hsv1⟩ := (R.sub 1 (by omega)).isSlice
      have hfa : (Tm.mk (oo 0) (hh 0) (kk 0) (tt 0)).fit := by rw [← ea]; exact Tm.proper_fit ha
      have hsz := H.spl.sz
      have hlen := H.row.len
      have hbsz := H.below.size
      have hbl := lt_of_block H.res
      have hrl := H.row.lt
      have HH := Lib.hid H
      have HR := Lib.hid R
      have HA := Lib.hid ea
      have HB := Lib.hid eb
      have HPA := Lib.hid ha
      have HPB := Lib.hid hpb
      clear H R ea eb ha hpb hs0
      go_wp2_with (first
        | (go_at_call 66; (with_reducible refine (c2 _ (Below.refl _ _)).mono ?_); rintro e w2 ⟨v2, rfl, hb2, hx2⟩; obtain ⟨a5, n5, m5, rfl⟩ := hx2.isSlice; obtain ⟨vs, hvl, hown2, hsub2⟩ := (HH.out.row.below hb2).own; have hs2 := hb2.size; have HVL := Lib.hid hvl; have HSB := Lib.hid hsub2; have HOW := Lib.hid hown2; clear hvl hsub2 hown2)
        | (at_builtin; refine wpList_append_lies _ (by rfl) _ _ _ (by rfl) (w.heap.size + 2) 24 i0 _ 4 48 Try.underlying22 HI0.out HZ0.out hz1 hz2 rfl (by omega) u5 _ _ (by rfl) (HOW.out.alloc _) ⟨w2.heap.size, 0, none⟩ 1 1 [.int .i64 (oo 0), .int .i64 (hh 0), .int .i64 (kk 0), .slice a5 n5 m5] (by rfl) (by rfl) (World.news_of_block (cs := #[.int .i64 (oo 0), .int .i64 (hh 0), .int .i64 (kk 0), .slice a5 n5 m5]) (t := 24) (fr := (0, 0)) (heap_alloc_new _ _)) (by intro u hu; simp at hu; rcases hu with rfl | rfl | rfl | rfl <;> rfl) (by omega) (by unfold maxLen; omega) (by omega) (by simp; omega) _ rfl ?_; intro g cap3 w3 hown3 hgrow3 hat3 hlt3; have hb3 : Below (w.heap.size + 2) wr w3 := (((hb2.mono (by omega)).alloc (by omega) _).grown hgrow3 (by simp; omega) (fun k hk => (hrl k hk).1)); have hbox3 := (hb3.block w.heap.size (by omega)).trans HH.out.box; obtain ⟨y0, y1, y2, y3⟩ := cells4_of hbox3; have f0 := free_in hbox3 0; have f1 := free_in hbox3 1; have f2 := free_in hbox3 2; have f3 := free_in hbox3 3; obtain ⟨g0, g1, g2, g3, _⟩ := HR.out.at (HH.out.below.trans (hb3.mono (by omega))) 1 (by omega); rw [hsv1] at g3))
      go_roundw
      case rel =>
        have hrow := Built.push (w := w2.alloc (.cells #[.int .i64 (oo 0), .int .i64 (hh 0), .int .i64 (kk 0), .slice a5 n5 m5] 24)) (t := .mk (oo 0) (hh 0) (kk 0) (tt 0)) (s := .slice a5 n5 m5) HVL.out (fun i h h' => (HSB.out i h h').keep ((Below.refl _ _).alloc (Nat.le_refl _) _)) HH.out.row.fit hfa
          ((hx2.keep ((Below.refl _ _).alloc (Nat.le_refl _) _)).more fun k hk hS => ⟨by omega, fun e => by have := (hrl k e).2; omega⟩) hown3 hgrow3 hat3
        rw [← HA.out] at hrow
        have hl := HR.out.sub 1 (by omega)
        rw [hsv1] at hl
        exact ⟨_, _, _, SplitSt.next (b := .mk (oo 1) (hh 1) (kk 1) (tt 1)) HH.out hb3 hrow (by rw [HB.out]) HPA.out (by rw [← HB.out]; exact HPB.out) hl⟩
      case measure =>
        have := Tm.sz_pos (.mk 2 0 0 [a, b])
        have e : rowLenOf (.slice (some ⟨g, 0, none⟩) (ts.length + 1) cap3) = ts.length + 1 := rfl
        simp only [e, hlen]; omega
    · have hbsz := H.below.size
      have hbl := lt_of_block H.res
      have c3 := clone_any u.op u.hd u.n _ u.args wr (H.arg.keep H.below) (by rw [Tm.eta]; exact H.spl.ok)
      rw [Tm.eta] at c3
      obtain ⟨a7, n7, m7, rfl⟩ := H.row.lies.isSlice
      have HH := Lib.hid H
      have HE := Lib.hid (H.spl.stop hop)
      have hop' : (u.op == 2) = false := by simpa using hop
      clear H
      go_wp2_with (go_at_call 66; (with_reducible refine c3.mono ?_); rintro e w2 ⟨v2, rfl, hb2, hx2⟩; obtain ⟨a5, n5, m5, rfl⟩ := hx2.isSlice; have hr := heap_kept hb2 HH.out.res; obtain ⟨y0, y1, y2, y3⟩ := cells4_of hr; have f0 := free_in hr 0; have f1 := free_in hr 1; have f2 := free_in hr 2; have f3 := free_in hr 3)
      have hz := set4_at hr (.int .i64 u.op) (.int .i64 u.hd) (.int .i64 u.n) (.slice a5 n5 m5)
      obtain ⟨z0, z1, z2, z3⟩ := cells4_of hz
      refine bodyPost_ret (v := .tuple #[.slice a7 n7 m7, .agg #[.int .i64 u.op, .int .i64 u.hd, .int .i64 u.n, .slice a5 n5 m5], .int .i64 0]) (by simp [results, Try.results35, go_sem, z0, z1, z2, z3]) rfl ?_
      rw [HE.out]
      have B2 := HH.out.below.trans (hb2.mono hbsz)
      refine ⟨_, _, rfl, (((B2.setCell (by simp) _).setCell (by simp) _).setCell (by simp) _).setCell (by simp) _, ?_, ?_⟩
      · exact (((((HH.out.row.below hb2).setCell (by simp) _).setCell (by simp) _).setCell (by simp) _).setCell (by simp) _).lies.more fun b _ hS => by omega
      · exact (hx2.still fun j hS _ => heap_set4 _ _ _ _ (by simp; omega) (by simp; omega) (by simp; omega) (by simp; omega)).more fun j _ hS => by omega

set_option maxHeartbeats 2000000 in
set_option maxRecDepth 100000 in
theorem split_any (o h n : Int) (v : Value) (l : List Tm) (w : World) (hv : Lies w (fun _ => True) v l) :
    Calls Try.prog 35 #[.agg #[.int .i64 o, .int .i64 h, .int .i64 n, v]] w (GivesSplit w (splitOut (.mk o h n l))) := by
  unfold splitOut
  rcases hp : Tm.proper (.mk o h n l) with _ | _
  · obtain ⟨a2, n2, m2, rfl⟩ := hv.isSlice
    have h2 := two_below w (.cells #[.int .i64 o, .int .i64 h, .int .i64 n, .slice a2 n2 m2] 24) (.cells #[.int .i64 0, .int .i64 0, .int .i64 0, .slice none 0 0] 24)
    have hk2 := Lib.hid (two_blocks w #[.int .i64 o, .int .i64 h, .int .i64 n, .slice a2 n2 m2] #[.int .i64 0, .int .i64 0, .int .i64 0, .slice none 0 0] 24 24)
    have c1 := isProper_any o h n _ l _ (hv.keep h2)
    rw [hp] at c1
    have H2 := Lib.hid h2
    simp only [if_false, Bool.false_eq_true]
    clear h2 hv hp
    go_enter Try.func35, Try.ntmps35
    go_wp2_with (go_at_call 47; (with_reducible refine c1.mono ?_); rintro e w1 ⟨rfl, hb1⟩; have hr := heap_kept hb1 hk2.out.2; obtain ⟨y0, y1, y2, y3⟩ := cells4_of hr; have f0 := free_in hr 0; have f1 := free_in hr 1; have f2 := free_in hr 2; have f3 := free_in hr 3)
    have hz := set4_at hr (.int .i64 0) (.int .i64 0) (.int .i64 0) (.slice none 0 0)
    obtain ⟨z0, z1, z2, z3⟩ := cells4_of hz
    refine bodyPost_ret (v := .tuple #[.slice none 0 0, .agg #[.int .i64 0, .int .i64 0, .int .i64 0, .slice none 0 0], .int .i64 2]) (by simp [results, Try.results35, go_sem, z0, z1, z2, z3]) rfl ?_
    have B2 := H2.out.trans (hb1.mono H2.out.size)
    exact ⟨_, _, rfl, (((B2.setCell (by simp) _).setCell (by simp) _).setCell (by simp) _).setCell (by simp) _, Lies.nil _ _, Lies.nil _ _⟩
  · exact split_good o h n v l w hv hp
end Go.Proofs.Ytnooeaefldklaaa
