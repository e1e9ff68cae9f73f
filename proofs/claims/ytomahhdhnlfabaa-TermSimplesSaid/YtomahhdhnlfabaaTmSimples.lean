/- The walk of the law TermSimples. -/
import Derived.Test.YtomahhdhnlfabaaTmSimU
import Derived.Test.YtomahhdhnlfabaaTmAwake
import Derived.BigQuiet
import Derived.Deep.RegionHeld3
import Derived.BigRegion
import Derived.OwnWalk
namespace Go.Proofs.Ytomahhdhnlfabaa
open Go.RowKit
set_option linter.unusedSimpArgs false
set_option linter.unusedVariables false

theorem Tm.eta2 (t : Tm) : Tm.mk t.op t.hd t.n t.args = t := by cases t; rfl
theorem proper_t (t : Tm) (S : Nat → Prop) (v : Value) (w : World) (hv : Lies w S v t.args) : Calls Try.prog 16 #[.agg #[.int .i64 t.op, .int .i64 t.hd, .int .i64 t.n, v]] w fun e w' => e = .returned (.bool (Tm.proper t)) ∧ Below w.heap.size w w' := by
  have := proper_any S t.op t.hd t.n v t.args w hv
  rwa [Tm.eta2] at this
theorem simple_t (t : Tm) (v : Value) (w : World) (hv : Lies w (fun _ => True) v t.args) : Calls Try.prog 15 #[.agg #[.int .i64 t.op, .int .i64 t.hd, .int .i64 t.n, v]] w (GivesSE w (simpleOut t)) := by
  have := simple_any t.op t.hd t.n v t.args w hv
  rwa [Tm.eta2] at this
theorem simR_t (t : Tm) (S : Nat → Prop) (v : Value) (w : World) (hv : Lies w S v t.args) (hp : Tm.proper t = true) : Calls Try.prog 17 #[.agg #[.int .i64 t.op, .int .i64 t.hd, .int .i64 t.n, v]] w (GivesS w (Tm.simp t)) := by
  have := simR_any S t.op t.hd t.n v t.args w hv (by rw [Tm.eta2]; exact hp)
  rwa [Tm.eta2] at this

/-- the variables of the law behind the calls of Simple: two boxes, the row of both terms -/
structure SimSt (w wr : World) (A B G : Nat) (t u : Tm) (vt vu v1 v2 : Value) (n1 n2 : Int) (l1 l2 : List Sp.Tm) : Prop where
  below : Below w.heap.size w wr
  hA : wr.heap[A]? = some (.cells #[v1, .int .i64 n1] 27 (0, 0))
  hB : wr.heap[B]? = some (.cells #[v2, .int .i64 n2] 27 (0, 0))
  hG : wr.heap[G]? = some (.cells #[.int .i64 t.op, .int .i64 t.hd, .int .i64 t.n, vt, .int .i64 u.op, .int .i64 u.hd, .int .i64 u.n, vu] 24 (0, 0))
  h1 : Sp.Lies wr (fun _ => True) v1 l1
  h2 : Sp.Lies wr (fun _ => True) v2 l2
theorem SimSt.keep {w wr w1 : World} {A B G : Nat} {t u : Tm} {vt vu v1 v2 : Value} {n1 n2 : Int} {l1 l2 : List Sp.Tm} (H : SimSt w wr A B G t u vt vu v1 v2 n1 n2 l1 l2) (hb : Below wr.heap.size wr w1) : SimSt w w1 A B G t u vt vu v1 v2 n1 n2 l1 l2 :=
  ⟨below_next H.below hb, heap_kept hb H.hA, heap_kept hb H.hB, heap_kept hb H.hG, H.h1.keep hb, H.h2.keep hb⟩

/-- what the loop compares: what Simple gave, and what it should give -/
theorem simpleOut_bad {t : Tm} (h : Tm.proper t = false) : simpleOut t = (.mk 0 [], 2) := by unfold simpleOut; rw [h]; rfl
theorem simpleOut_none {t : Tm} (h : Tm.proper t = true) (hs : Tm.simp t = none) : simpleOut t = (.mk 0 [], 22) := by unfold simpleOut; rw [h, hs]; rfl
theorem simpleOut_some {t : Tm} {s : Sp.Tm} (h : Tm.proper t = true) (hs : Tm.simp t = some s) : simpleOut t = (s, 0) := by unfold simpleOut; rw [h, hs]; rfl

theorem simpleOut_fit (t : Tm) : (simpleOut t).1.fit ∧ Sp.Tm.sz (simpleOut t).1 ≤ 600 := by
  unfold simpleOut
  rcases hp : Tm.proper t with _ | _
  · exact ⟨⟨by simp [Sp.Tm.n], by simp [Sp.Tm.n]⟩, by simp [Sp.Tm.sz, Sp.Tm.szL]⟩
  · simp only [if_true]
    rcases hs : Tm.simp t with _ | s
    · exact ⟨⟨by simp [Sp.Tm.n], by simp [Sp.Tm.n]⟩, by simp [Sp.Tm.sz, Sp.Tm.szL]⟩
    · simp only [Tm.proper, Bool.and_eq_true, decide_eq_true_eq] at hp
      obtain ⟨h1, h2, h3⟩ := Tm.simp_fit t 1 hp.2 s hs
      exact ⟨⟨by show _ ≤ s.n; omega, by show s.n ≤ _; omega⟩, by show Sp.Tm.sz s ≤ _; omega⟩
abbrev CellsAB (W : World) (A B : Nat) (v1 v2 : Value) (n1 n2 : Int) : Prop :=
  W.cell? ⟨A, 0, none⟩ = some v1 ∧ W.cell? ⟨A, 1, none⟩ = some (.int .i64 n1) ∧ W.cell? ⟨B, 0, none⟩ = some v2 ∧ W.cell? ⟨B, 1, none⟩ = some (.int .i64 n2)
theorem cellsAB_below {W W' : World} {A B : Nat} {v1 v2 : Value} {n1 n2 : Int} (hb : Below W.heap.size W W') (x : CellsAB W A B v1 v2 n1 n2) : CellsAB W' A B v1 v2 n1 n2 := by
  obtain ⟨x1, x2, x3, x4⟩ := x
  exact ⟨kept_cell hb x1, kept_cell hb x2, kept_cell hb x3, kept_cell hb x4⟩

set_option maxHeartbeats 8000000 in
set_option maxRecDepth 100000 in
theorem simples_walk (t u : Tm) (vt vu : Value) (w : World) (hvt : Lies w (fun _ => True) vt t.args) (hvu : Lies w (fun _ => True) vu u.args) :
    Calls Try.prog 3 #[.agg #[.int .i64 t.op, .int .i64 t.hd, .int .i64 t.n, vt], .agg #[.int .i64 u.op, .int .i64 u.hd, .int .i64 u.n, vu]] w fun e w' => e = .returned (.bool true) ∧ Below w.heap.size w w' := by
  obtain ⟨a1, m1, k1, rfl⟩ := hvt.isSlice
  obtain ⟨a2, m2, k2, rfl⟩ := hvu.isSlice
  have H2 := Lib.hid (two_below w (.cells #[.int .i64 t.op, .int .i64 t.hd, .int .i64 t.n, .slice a1 m1 k1] 24) (.cells #[.int .i64 u.op, .int .i64 u.hd, .int .i64 u.n, .slice a2 m2 k2] 24))
  have HK2 := Lib.hid (two_blocks w #[.int .i64 t.op, .int .i64 t.hd, .int .i64 t.n, .slice a1 m1 k1] #[.int .i64 u.op, .int .i64 u.hd, .int .i64 u.n, .slice a2 m2 k2] 24 24)
  have cT := fun w1 (hb : Below w.heap.size w w1) => simple_t t _ w1 (hvt.keep hb)
  have cU := fun w1 (hb : Below w.heap.size w w1) => simple_t u _ w1 (hvu.keep hb)
  have pT := fun w1 (hb : Below w.heap.size w w1) => proper_t t _ _ w1 (hvt.keep hb)
  have pU := fun w1 (hb : Below w.heap.size w w1) => proper_t u _ _ w1 (hvu.keep hb)
  have rT := fun w1 (hb : Below w.heap.size w w1) => simR_t t _ _ w1 (hvt.keep hb)
  have rU := fun w1 (hb : Below w.heap.size w w1) => simR_t u _ _ w1 (hvu.keep hb)
  obtain ⟨⟨n1, l1⟩, g1, e1⟩ : ∃ s g, simpleOut t = (s, g) := ⟨_, _, rfl⟩
  obtain ⟨⟨n2, l2⟩, g2, e2⟩ : ∃ s g, simpleOut u = (s, g) := ⟨_, _, rfl⟩
  rw [e1] at cT
  rw [e2] at cU
  unfold GivesSE at cT cU
  simp only [Sp.Tm.n, Sp.Tm.args] at cT cU
  have E1 := Lib.hid e1
  have E2 := Lib.hid e2
  have PT := Lib.hid pT
  have PU := Lib.hid pU
  have RT := Lib.hid rT
  have RU := Lib.hid rU
  clear e1 e2 hvt hvu pT pU rT rU
  go_enter Try.func3, Try.ntmps3
  go_wp2_with fail
  refine (cT _ H2.out).mono ?_
  rintro e w2 ⟨v1, rfl, hb1, L1⟩
  obtain ⟨a8, n8, m8, rfl⟩ := L1.isSlice
  have hA2 := heap_alloc_new w2 (.cells #[.slice a8 n8 m8, .int .i64 n1] 27)
  have B2 := (below_next H2.out hb1)
  have B2' := below_al B2 (.cells #[.slice a8 n8 m8, .int .i64 n1] 27)
  obtain ⟨q0, q1, q2, q3⟩ := c4_of (heap_kept (one_below w2 (.cells #[.slice a8 n8 m8, .int .i64 n1] 27)) (heap_kept hb1 HK2.out.2))
  go_wp2_with fail
  refine (cU _ B2').mono ?_
  rintro e w3 ⟨v2, rfl, hb2, L2⟩
  obtain ⟨a9, n9, m9, rfl⟩ := L2.isSlice
  have B3 := below_next B2' hb2
  have hK := one_below w3 (.cells #[.slice a9 n9 m9, .int .i64 n2] 27)
  obtain ⟨x0, x1, x2, x3⟩ := c4_of (heap_kept hK (heap_kept hb2 (heap_kept (one_below w2 (.cells #[.slice a8 n8 m8, .int .i64 n1] 27)) (heap_kept hb1 HK2.out.1))))
  obtain ⟨y0, y1, y2, y3⟩ := c4_of (heap_kept hK (heap_kept hb2 (heap_kept (one_below w2 (.cells #[.slice a8 n8 m8, .int .i64 n1] 27)) (heap_kept hb1 HK2.out.2))))
  have HST : Hid (SimSt w ((w3.alloc (.cells #[.slice a9 n9 m9, .int .i64 n2] 27)).alloc (.cells #[.int .i64 t.op, .int .i64 t.hd, .int .i64 t.n, .slice a1 m1 k1, .int .i64 u.op, .int .i64 u.hd, .int .i64 u.n, .slice a2 m2 k2] 24)) w2.heap.size w3.heap.size (w3.heap.size + 1) t u (.slice a1 m1 k1) (.slice a2 m2 k2) (.slice a8 n8 m8) (.slice a9 n9 m9) n1 n2 l1 l2) := by
    have h2 := two_below w3 (.cells #[.slice a9 n9 m9, .int .i64 n2] 27) (.cells #[.int .i64 t.op, .int .i64 t.hd, .int .i64 t.n, .slice a1 m1 k1, .int .i64 u.op, .int .i64 u.hd, .int .i64 u.n, .slice a2 m2 k2] 24)
    have hk := two_blocks w3 #[.slice a9 n9 m9, .int .i64 n2] #[.int .i64 t.op, .int .i64 t.hd, .int .i64 t.n, .slice a1 m1 k1, .int .i64 u.op, .int .i64 u.hd, .int .i64 u.n, .slice a2 m2 k2] 27 24
    exact Lib.hid ⟨below_next B3 h2, heap_kept h2 (heap_kept hb2 hA2), hk.1, hk.2, (((L1.keep (one_below _ _)).keep hb2).keep h2).more fun _ _ _ => trivial, (L2.keep h2).more fun _ _ _ => trivial⟩
  have s1 := H2.out.size
  have s2 := hb1.size
  have s3 := hb2.size
  simp at s2 s3
  clear hA2 L1 L2 cT cU hK
  go_wp2_with fail
  go_loopw [30] (fun i wr => ∃ k : Nat, k ≤ 2 ∧ i = .int .i64 k ∧ SimSt w wr w2.heap.size w3.heap.size (w3.heap.size + 1) t u (.slice a1 m1 k1) (.slice a2 m2 k2) (.slice a8 n8 m8) (.slice a9 n9 m9) n1 n2 l1 l2) (fun i _ => 2 - (intOf i).toNat)
  case atStart => exact ⟨0, by omega, rfl, HST.out⟩
  case round =>
    obtain ⟨k, hk, rfl, H⟩ := hrel
    have hk3 : k = 0 ∨ k = 1 ∨ k = 2 := by omega
    clear q0 q1 q2 q3 x0 x1 x2 x3 y0 y1 y2 y3 hb1 hb2 hk
    rcases hk3 with rfl | rfl | rfl
    · have d0 := cell_in H.hG 0 _ rfl
      have d1 := cell_in H.hG 1 _ rfl
      have d2 := cell_in H.hG 2 _ rfl
      have d3 := cell_in H.hG 3 _ rfl
      have hi1 : ((((0 : Nat) : Int)) == 1) = false := rfl
      have hw2 := two_below wr (.cells #[.int .i64 t.op, .int .i64 t.hd, .int .i64 t.n, .slice a1 m1 k1] 24) (.cells #[.slice none 0 0, .int .i64 0] 27)
      have hk := two_blocks wr #[.int .i64 t.op, .int .i64 t.hd, .int .i64 t.n, .slice a1 m1 k1] #[.slice none 0 0, .int .i64 0] 24 27
      have HH := Lib.hid H
      have HW2 := Lib.hid hw2
      have HKK := Lib.hid hk
      have hAlt := lt_blk H.hA
      have hA0lt := lt_blk H.hA
      have hne1 : ¬ (w2.heap.size = wr.heap.size + 1) := by omega
      have hne2 : ¬ (w2.heap.size = wr.heap.size + 1) := by omega
      have c1 := PT.out _ (below_next H.below hw2)
      clear H hk hw2
      rcases hp : Tm.proper t with _ | _
      · have c2 := fun w1 hb => PT.out w1 hb
        rw [hp] at c1 c2
        have HE := simpleOut_bad hp
        rw [E1.out] at HE
        simp only [Prod.mk.injEq, Sp.Tm.mk.injEq] at HE
        obtain ⟨⟨rfl, rfl⟩, rfl⟩ := HE
        clear hp
        go_wp2_with fail
        refine c1.mono ?_
        rintro e w4 ⟨rfl, hb4⟩
        have s4 := hb4.size
        simp at s4
        have hB4 := HW2.out.trans (hb4.mono HW2.out.size)
        have H4 := HH.out.keep hB4
        obtain ⟨a0, a1', _, _⟩ := cells2_of H4.hA
        have hkx := one_below w4 (.cells #[.slice a8 n8 m8, .int .i64 0] 27)
        obtain ⟨p0, p1, p2, p3⟩ := c4_of (heap_kept hkx (heap_kept hb4 HKK.out.1))
        have hS := heap_kept hkx (heap_kept hb4 HKK.out.2)
        obtain ⟨s0, s1, sf0, sf1⟩ := cells2_of hS
        have hB5 : Below wr.heap.size wr (((w4.alloc (.cells #[.slice a8 n8 m8, .int .i64 0] 27)).setCell ⟨wr.heap.size + 1, 0, none⟩ (.slice none 0 0)).setCell ⟨wr.heap.size + 1, 1, none⟩ (.int .i64 0)) := ((hB4.alloc hB4.size _).setCell (by simp) _).setCell (by simp) _
        have HS5 := Lib.hid (set2_at hS (.slice none 0 0) (.int .i64 0))
        have HG5 := Lib.hid ((heap_set2 (.slice none 0 0) (.int .i64 0) 0 1 (B := wr.heap.size + 1) (by omega : w4.heap.size ≠ wr.heap.size + 1)).trans (heap_alloc_new w4 (.cells #[.slice a8 n8 m8, .int .i64 0] 27)))
        have HH5 := Lib.hid (HH.out.keep hB5)
        have HB5 := Lib.hid hB5
        clear H4 hB4 hB5 hS hkx
        go_wp2_with fail
        refine (c2 _ HH5.out.below).mono ?_
        rintro e w6 ⟨rfl, hb6⟩
        obtain ⟨r0, r1, _, _⟩ := cells2_of (heap_kept hb6 HS5.out)
        obtain ⟨z0, z1, _, _⟩ := cells2_of (heap_kept hb6 HG5.out)
        have c3 := Sp.same_any (fun _ => True) (fun _ => True) 0 0 _ _ [] [] w6 ((HH5.out.keep hb6).h1) (Sp.Lies.nil _ _)
        rw [(Sp.Tm.same_iff _ _).2 rfl] at c3
        go_wp2_with fail
        refine c3.mono ?_
        rintro e w7 ⟨rfl, hb7⟩
        have HR := Lib.hid ((HH5.out.keep hb6).keep hb7)
        go_wp2_with fail
        go_roundw
        case rel => exact ⟨1, by omega, by go_num, HR.out⟩
        case measure => simp [intOf]
      · have c2 := fun w1 hb => PT.out w1 hb
        have c4 := fun w1 hb => RT.out w1 hb hp
        rw [hp] at c1 c2
        rcases hs : Tm.simp t with _ | ⟨sn, sl⟩
        · have HE := simpleOut_none hp hs
          rw [E1.out] at HE
          simp only [Prod.mk.injEq, Sp.Tm.mk.injEq] at HE
          obtain ⟨⟨rfl, rfl⟩, rfl⟩ := HE
          rw [hs] at c4
          unfold GivesS at c4
          simp only [spOf, Option.isSome, Sp.Tm.n, Sp.Tm.args] at c4
          clear hp hs
          go_wp2_with fail
          refine c1.mono ?_
          rintro e w4 ⟨rfl, hb4⟩
          have s4 := hb4.size
          simp at s4
          have hB4 := HW2.out.trans (hb4.mono HW2.out.size)
          obtain ⟨p0, p1, p2, p3⟩ := c4_of (heap_kept hb4 HKK.out.1)
          have H4 := HH.out.keep hB4
          go_wp2_with fail
          refine (c4 _ H4.below).mono ?_
          rintro e w5 ⟨v5, rfl, hb5, l5⟩
          obtain ⟨a5, n5, m5, rfl⟩ := l5.isSlice
          have s5 := hb5.size
          have hlt5 : wr.heap.size + 1 < w5.heap.size := by omega
          have hlt50 : wr.heap.size < w5.heap.size := by omega
          have hB5 := hB4.trans (hb5.mono hB4.size)
          have H5 := HH.out.keep hB5
          obtain ⟨a0, a1', _, _⟩ := cells2_of H5.hA
          obtain ⟨p0', p1', p2', p3'⟩ := c4_of (heap_kept hb5 (heap_kept hb4 HKK.out.1))
          have hS := heap_kept hb5 (heap_kept hb4 HKK.out.2)
          obtain ⟨s0, s1, sf0, sf1⟩ := cells2_of hS
          have HS := Lib.hid hS
          have HB5 := Lib.hid hB5
          clear H4 H5 hB4 hB5 hS
          have hB6 : Below wr.heap.size wr ((((w5.setCell ⟨wr.heap.size + 1, 0, none⟩ (.slice a5 n5 m5)).setCell ⟨wr.heap.size + 1, 1, none⟩ (.int .i64 0)).setCell ⟨wr.heap.size + 1, 0, none⟩ (.slice none 0 0)).setCell ⟨wr.heap.size + 1, 1, none⟩ (.int .i64 0)) :=
            (((HB5.out.setCell (by simp) _).setCell (by simp) _).setCell (by simp) _).setCell (by simp) _
          have hS6 := set2_at (set2_at HS.out (.slice a5 n5 m5) (.int .i64 0)) (.slice none 0 0) (.int .i64 0)
          have he6 : ((((w5.setCell ⟨wr.heap.size + 1, 0, none⟩ (.slice a5 n5 m5)).setCell ⟨wr.heap.size + 1, 1, none⟩ (.int .i64 0)).setCell ⟨wr.heap.size + 1, 0, none⟩ (.slice none 0 0)).setCell ⟨wr.heap.size + 1, 1, none⟩ (.int .i64 0)).heap.size = w5.heap.size := by simp [World.setCell]
          have hG6 := heap_alloc_new ((((w5.setCell ⟨wr.heap.size + 1, 0, none⟩ (.slice a5 n5 m5)).setCell ⟨wr.heap.size + 1, 1, none⟩ (.int .i64 0)).setCell ⟨wr.heap.size + 1, 0, none⟩ (.slice none 0 0)).setCell ⟨wr.heap.size + 1, 1, none⟩ (.int .i64 0)) (.cells #[.slice a8 n8 m8, .int .i64 0] 27)
          rw [he6] at hG6
          have HG6 := Lib.hid hG6
          have HS6 := Lib.hid (heap_kept (one_below _ (.cells #[.slice a8 n8 m8, .int .i64 0] 27)) hS6)
          have HH6 := Lib.hid (HH.out.keep (hB6.alloc hB6.size (.cells #[.slice a8 n8 m8, .int .i64 0] 27)))
          clear hB6 hS6 he6 hG6
          go_wp2_with fail
          refine (c2 _ HH6.out.below).mono ?_
          rintro e w6 ⟨rfl, hb6⟩
          obtain ⟨r0, r1, _, _⟩ := cells2_of (heap_kept hb6 HS6.out)
          obtain ⟨z0, z1, _, _⟩ := cells2_of (heap_kept hb6 HG6.out)
          have c3 := Sp.same_any (fun _ => True) (fun _ => True) 0 0 _ _ [] [] w6 ((HH6.out.keep hb6).h1) (Sp.Lies.nil _ _)
          rw [(Sp.Tm.same_iff _ _).2 rfl] at c3
          go_wp2_with fail
          refine c3.mono ?_
          rintro e w7 ⟨rfl, hb7⟩
          have HR := Lib.hid ((HH6.out.keep hb6).keep hb7)
          go_wp2_with fail
          go_roundw
          case rel => exact ⟨1, by omega, by go_num, HR.out⟩
          case measure => simp [intOf]
        · have HE := simpleOut_some hp hs
          rw [E1.out] at HE
          simp only [Prod.mk.injEq, Sp.Tm.mk.injEq] at HE
          obtain ⟨⟨rfl, rfl⟩, rfl⟩ := HE
          rw [hs] at c4
          unfold GivesS at c4
          simp only [spOf, Option.isSome, Sp.Tm.n, Sp.Tm.args] at c4
          clear hp hs
          go_wp2_with fail
          refine c1.mono ?_
          rintro e w4 ⟨rfl, hb4⟩
          have s4 := hb4.size
          simp at s4
          have hB4 := HW2.out.trans (hb4.mono HW2.out.size)
          obtain ⟨p0, p1, p2, p3⟩ := c4_of (heap_kept hb4 HKK.out.1)
          have H4 := HH.out.keep hB4
          go_wp2_with fail
          refine (c4 _ H4.below).mono ?_
          rintro e w5 ⟨v5, rfl, hb5, l5⟩
          obtain ⟨a5, n5, m5, rfl⟩ := l5.isSlice
          have s5 := hb5.size
          have hlt5 : wr.heap.size + 1 < w5.heap.size := by omega
          have hlt50 : wr.heap.size < w5.heap.size := by omega
          have hB5 := hB4.trans (hb5.mono hB4.size)
          have H5 := HH.out.keep hB5
          obtain ⟨a0, a1', _, _⟩ := cells2_of H5.hA
          obtain ⟨p0', p1', p2', p3'⟩ := c4_of (heap_kept hb5 (heap_kept hb4 HKK.out.1))
          have hS := heap_kept hb5 (heap_kept hb4 HKK.out.2)
          obtain ⟨s0, s1, sf0, sf1⟩ := cells2_of hS
          have L5 := Lib.hid ((l5.more (S' := fun b => b ≠ wr.heap.size + 1) fun b _ hS => by omega).still (w' := (w5.setCell ⟨wr.heap.size + 1, 0, none⟩ (.slice a5 n5 m5)).setCell ⟨wr.heap.size + 1, 1, none⟩ (.int .i64 n1)) fun b hS _ => heap_set2 _ _ _ _ hS)
          have hB6 : Below wr.heap.size wr ((w5.setCell ⟨wr.heap.size + 1, 0, none⟩ (.slice a5 n5 m5)).setCell ⟨wr.heap.size + 1, 1, none⟩ (.int .i64 n1)) := (hB5.setCell (by simp) _).setCell (by simp) _
          have hS6 := set2_at hS (.slice a5 n5 m5) (.int .i64 n1)
          have he6 : ((w5.setCell ⟨wr.heap.size + 1, 0, none⟩ (.slice a5 n5 m5)).setCell ⟨wr.heap.size + 1, 1, none⟩ (.int .i64 n1)).heap.size = w5.heap.size := by simp [World.setCell]
          have hG6 := heap_alloc_new ((w5.setCell ⟨wr.heap.size + 1, 0, none⟩ (.slice a5 n5 m5)).setCell ⟨wr.heap.size + 1, 1, none⟩ (.int .i64 n1)) (.cells #[.slice a8 n8 m8, .int .i64 n1] 27)
          rw [he6] at hG6
          have HG6 := Lib.hid hG6
          have HS6 := Lib.hid (heap_kept (one_below _ (.cells #[.slice a8 n8 m8, .int .i64 n1] 27)) hS6)
          have HH6 := Lib.hid (HH.out.keep (hB6.alloc hB6.size (.cells #[.slice a8 n8 m8, .int .i64 n1] 27)))
          clear H4 H5 hB4 hB5 hB6 hS6 he6 hG6 l5 hS
          go_wp2_with fail
          refine (c2 _ HH6.out.below).mono ?_
          rintro e w6 ⟨rfl, hb6⟩
          obtain ⟨r0, r1, _, _⟩ := cells2_of (heap_kept hb6 HS6.out)
          obtain ⟨z0, z1, _, _⟩ := cells2_of (heap_kept hb6 HG6.out)
          have c3 := Sp.same_any (fun _ => True) _ n1 n1 _ _ l1 l1 w6 ((HH6.out.keep hb6).h1) ((L5.out.keep (one_below _ _)).keep hb6)
          rw [(Sp.Tm.same_iff _ _).2 rfl] at c3
          go_wp2_with fail
          refine c3.mono ?_
          rintro e w7 ⟨rfl, hb7⟩
          have HR := Lib.hid ((HH6.out.keep hb6).keep hb7)
          go_wp2_with fail
          go_roundw
          case rel => exact ⟨1, by omega, by go_num, HR.out⟩
          case measure => simp [intOf]

    · have d0 := cell_in H.hG 4 _ rfl
      have d1 := cell_in H.hG 5 _ rfl
      have d2 := cell_in H.hG 6 _ rfl
      have d3 := cell_in H.hG 7 _ rfl
      have hi1 : ((((1 : Nat) : Int)) == 1) = true := rfl
      have hw2 := two_below wr (.cells #[.int .i64 u.op, .int .i64 u.hd, .int .i64 u.n, .slice a2 m2 k2] 24) (.cells #[.slice none 0 0, .int .i64 0] 27)
      have hk := two_blocks wr #[.int .i64 u.op, .int .i64 u.hd, .int .i64 u.n, .slice a2 m2 k2] #[.slice none 0 0, .int .i64 0] 24 27
      have HH := Lib.hid H
      have HW2 := Lib.hid hw2
      have HKK := Lib.hid hk
      have hAlt := lt_blk H.hB
      have hA0lt := lt_blk H.hA
      have hne1 : ¬ (w3.heap.size = wr.heap.size + 1) := by omega
      have hne2 : ¬ (w2.heap.size = wr.heap.size + 1) := by omega
      have c1 := PU.out _ (below_next H.below hw2)
      clear H hk hw2
      rcases hp : Tm.proper u with _ | _
      · have c2 := fun w1 hb => PU.out w1 hb
        rw [hp] at c1 c2
        have HE := simpleOut_bad hp
        rw [E2.out] at HE
        simp only [Prod.mk.injEq, Sp.Tm.mk.injEq] at HE
        obtain ⟨⟨rfl, rfl⟩, rfl⟩ := HE
        clear hp
        go_wp2_with fail
        refine c1.mono ?_
        rintro e w4 ⟨rfl, hb4⟩
        have s4 := hb4.size
        simp at s4
        have hB4 := HW2.out.trans (hb4.mono HW2.out.size)
        have H4 := HH.out.keep hB4
        obtain ⟨a0, a1', _, _⟩ := cells2_of H4.hA
        obtain ⟨b0, b1', _, _⟩ := cells2_of (heap_kept (one_below w4 (.cells #[.slice a8 n8 m8, .int .i64 n1] 27)) H4.hB)
        have hkx := one_below w4 (.cells #[.slice a9 n9 m9, .int .i64 0] 27)
        obtain ⟨p0, p1, p2, p3⟩ := c4_of (heap_kept hkx (heap_kept hb4 HKK.out.1))
        have hS := heap_kept hkx (heap_kept hb4 HKK.out.2)
        obtain ⟨s0, s1, sf0, sf1⟩ := cells2_of hS
        have hB5 : Below wr.heap.size wr (((w4.alloc (.cells #[.slice a9 n9 m9, .int .i64 0] 27)).setCell ⟨wr.heap.size + 1, 0, none⟩ (.slice none 0 0)).setCell ⟨wr.heap.size + 1, 1, none⟩ (.int .i64 0)) := ((hB4.alloc hB4.size _).setCell (by simp) _).setCell (by simp) _
        have HS5 := Lib.hid (set2_at hS (.slice none 0 0) (.int .i64 0))
        have HG5 := Lib.hid ((heap_set2 (.slice none 0 0) (.int .i64 0) 0 1 (B := wr.heap.size + 1) (by omega : w4.heap.size ≠ wr.heap.size + 1)).trans (heap_alloc_new w4 (.cells #[.slice a9 n9 m9, .int .i64 0] 27)))
        have HH5 := Lib.hid (HH.out.keep hB5)
        have HB5 := Lib.hid hB5
        clear H4 hB4 hB5 hS hkx
        go_wp2_with fail
        refine (c2 _ HH5.out.below).mono ?_
        rintro e w6 ⟨rfl, hb6⟩
        obtain ⟨r0, r1, _, _⟩ := cells2_of (heap_kept hb6 HS5.out)
        obtain ⟨z0, z1, _, _⟩ := cells2_of (heap_kept hb6 HG5.out)
        have c3 := Sp.same_any (fun _ => True) (fun _ => True) 0 0 _ _ [] [] w6 ((HH5.out.keep hb6).h2) (Sp.Lies.nil _ _)
        rw [(Sp.Tm.same_iff _ _).2 rfl] at c3
        go_wp2_with fail
        refine c3.mono ?_
        rintro e w7 ⟨rfl, hb7⟩
        have HR := Lib.hid ((HH5.out.keep hb6).keep hb7)
        go_wp2_with fail
        go_roundw
        case rel => exact ⟨2, by omega, by go_num, HR.out⟩
        case measure => simp [intOf]
      · have c2 := fun w1 hb => PU.out w1 hb
        have c4 := fun w1 hb => RU.out w1 hb hp
        rw [hp] at c1 c2
        rcases hs : Tm.simp u with _ | ⟨sn, sl⟩
        · have HE := simpleOut_none hp hs
          rw [E2.out] at HE
          simp only [Prod.mk.injEq, Sp.Tm.mk.injEq] at HE
          obtain ⟨⟨rfl, rfl⟩, rfl⟩ := HE
          rw [hs] at c4
          unfold GivesS at c4
          simp only [spOf, Option.isSome, Sp.Tm.n, Sp.Tm.args] at c4
          clear hp hs
          go_wp2_with fail
          refine c1.mono ?_
          rintro e w4 ⟨rfl, hb4⟩
          have s4 := hb4.size
          simp at s4
          have hB4 := HW2.out.trans (hb4.mono HW2.out.size)
          obtain ⟨p0, p1, p2, p3⟩ := c4_of (heap_kept hb4 HKK.out.1)
          have H4 := HH.out.keep hB4
          go_wp2_with fail
          refine (c4 _ H4.below).mono ?_
          rintro e w5 ⟨v5, rfl, hb5, l5⟩
          obtain ⟨a5, n5, m5, rfl⟩ := l5.isSlice
          have s5 := hb5.size
          have hlt5 : wr.heap.size + 1 < w5.heap.size := by omega
          have hlt50 : wr.heap.size < w5.heap.size := by omega
          have hB5 := hB4.trans (hb5.mono hB4.size)
          have H5 := HH.out.keep hB5
          obtain ⟨a0, a1', _, _⟩ := cells2_of H5.hA
          obtain ⟨b0, b1', _, _⟩ := cells2_of H5.hB
          have hltb : w3.heap.size < w5.heap.size := by omega
          obtain ⟨p0', p1', p2', p3'⟩ := c4_of (heap_kept hb5 (heap_kept hb4 HKK.out.1))
          have hS := heap_kept hb5 (heap_kept hb4 HKK.out.2)
          obtain ⟨s0, s1, sf0, sf1⟩ := cells2_of hS
          have HS := Lib.hid hS
          have HB5 := Lib.hid hB5
          clear H4 H5 hB4 hB5 hS
          have hB6 : Below wr.heap.size wr ((((w5.setCell ⟨wr.heap.size + 1, 0, none⟩ (.slice a5 n5 m5)).setCell ⟨wr.heap.size + 1, 1, none⟩ (.int .i64 0)).setCell ⟨wr.heap.size + 1, 0, none⟩ (.slice none 0 0)).setCell ⟨wr.heap.size + 1, 1, none⟩ (.int .i64 0)) :=
            (((HB5.out.setCell (by simp) _).setCell (by simp) _).setCell (by simp) _).setCell (by simp) _
          have hS6 := set2_at (set2_at HS.out (.slice a5 n5 m5) (.int .i64 0)) (.slice none 0 0) (.int .i64 0)
          have he6 : ((((w5.setCell ⟨wr.heap.size + 1, 0, none⟩ (.slice a5 n5 m5)).setCell ⟨wr.heap.size + 1, 1, none⟩ (.int .i64 0)).setCell ⟨wr.heap.size + 1, 0, none⟩ (.slice none 0 0)).setCell ⟨wr.heap.size + 1, 1, none⟩ (.int .i64 0)).heap.size = w5.heap.size := by simp [World.setCell]
          have hG6 := heap_alloc_new ((((w5.setCell ⟨wr.heap.size + 1, 0, none⟩ (.slice a5 n5 m5)).setCell ⟨wr.heap.size + 1, 1, none⟩ (.int .i64 0)).setCell ⟨wr.heap.size + 1, 0, none⟩ (.slice none 0 0)).setCell ⟨wr.heap.size + 1, 1, none⟩ (.int .i64 0)) (.cells #[.slice a9 n9 m9, .int .i64 0] 27)
          rw [he6] at hG6
          have HG6 := Lib.hid hG6
          have HS6 := Lib.hid (heap_kept (one_below _ (.cells #[.slice a9 n9 m9, .int .i64 0] 27)) hS6)
          have HH6 := Lib.hid (HH.out.keep (hB6.alloc hB6.size (.cells #[.slice a9 n9 m9, .int .i64 0] 27)))
          clear hB6 hS6 he6 hG6
          go_wp2_with fail
          refine (c2 _ HH6.out.below).mono ?_
          rintro e w6 ⟨rfl, hb6⟩
          obtain ⟨r0, r1, _, _⟩ := cells2_of (heap_kept hb6 HS6.out)
          obtain ⟨z0, z1, _, _⟩ := cells2_of (heap_kept hb6 HG6.out)
          have c3 := Sp.same_any (fun _ => True) (fun _ => True) 0 0 _ _ [] [] w6 ((HH6.out.keep hb6).h2) (Sp.Lies.nil _ _)
          rw [(Sp.Tm.same_iff _ _).2 rfl] at c3
          go_wp2_with fail
          refine c3.mono ?_
          rintro e w7 ⟨rfl, hb7⟩
          have HR := Lib.hid ((HH6.out.keep hb6).keep hb7)
          go_wp2_with fail
          go_roundw
          case rel => exact ⟨2, by omega, by go_num, HR.out⟩
          case measure => simp [intOf]
        · have HE := simpleOut_some hp hs
          rw [E2.out] at HE
          simp only [Prod.mk.injEq, Sp.Tm.mk.injEq] at HE
          obtain ⟨⟨rfl, rfl⟩, rfl⟩ := HE
          rw [hs] at c4
          unfold GivesS at c4
          simp only [spOf, Option.isSome, Sp.Tm.n, Sp.Tm.args] at c4
          clear hp hs
          go_wp2_with fail
          refine c1.mono ?_
          rintro e w4 ⟨rfl, hb4⟩
          have s4 := hb4.size
          simp at s4
          have hB4 := HW2.out.trans (hb4.mono HW2.out.size)
          obtain ⟨p0, p1, p2, p3⟩ := c4_of (heap_kept hb4 HKK.out.1)
          have H4 := HH.out.keep hB4
          go_wp2_with fail
          refine (c4 _ H4.below).mono ?_
          rintro e w5 ⟨v5, rfl, hb5, l5⟩
          obtain ⟨a5, n5, m5, rfl⟩ := l5.isSlice
          have s5 := hb5.size
          have hlt5 : wr.heap.size + 1 < w5.heap.size := by omega
          have hlt50 : wr.heap.size < w5.heap.size := by omega
          have hB5 := hB4.trans (hb5.mono hB4.size)
          have H5 := HH.out.keep hB5
          obtain ⟨a0, a1', _, _⟩ := cells2_of H5.hA
          obtain ⟨b0, b1', _, _⟩ := cells2_of H5.hB
          have hltb : w3.heap.size < w5.heap.size := by omega
          obtain ⟨p0', p1', p2', p3'⟩ := c4_of (heap_kept hb5 (heap_kept hb4 HKK.out.1))
          have hS := heap_kept hb5 (heap_kept hb4 HKK.out.2)
          obtain ⟨s0, s1, sf0, sf1⟩ := cells2_of hS
          have L5 := Lib.hid ((l5.more (S' := fun b => b ≠ wr.heap.size + 1) fun b _ hS => by omega).still (w' := (w5.setCell ⟨wr.heap.size + 1, 0, none⟩ (.slice a5 n5 m5)).setCell ⟨wr.heap.size + 1, 1, none⟩ (.int .i64 n2)) fun b hS _ => heap_set2 _ _ _ _ hS)
          have hB6 : Below wr.heap.size wr ((w5.setCell ⟨wr.heap.size + 1, 0, none⟩ (.slice a5 n5 m5)).setCell ⟨wr.heap.size + 1, 1, none⟩ (.int .i64 n2)) := (hB5.setCell (by simp) _).setCell (by simp) _
          have hS6 := set2_at hS (.slice a5 n5 m5) (.int .i64 n2)
          have he6 : ((w5.setCell ⟨wr.heap.size + 1, 0, none⟩ (.slice a5 n5 m5)).setCell ⟨wr.heap.size + 1, 1, none⟩ (.int .i64 n2)).heap.size = w5.heap.size := by simp [World.setCell]
          have hG6 := heap_alloc_new ((w5.setCell ⟨wr.heap.size + 1, 0, none⟩ (.slice a5 n5 m5)).setCell ⟨wr.heap.size + 1, 1, none⟩ (.int .i64 n2)) (.cells #[.slice a9 n9 m9, .int .i64 n2] 27)
          rw [he6] at hG6
          have HG6 := Lib.hid hG6
          have HS6 := Lib.hid (heap_kept (one_below _ (.cells #[.slice a9 n9 m9, .int .i64 n2] 27)) hS6)
          have HH6 := Lib.hid (HH.out.keep (hB6.alloc hB6.size (.cells #[.slice a9 n9 m9, .int .i64 n2] 27)))
          clear H4 H5 hB4 hB5 hB6 hS6 he6 hG6 l5 hS
          go_wp2_with fail
          refine (c2 _ HH6.out.below).mono ?_
          rintro e w6 ⟨rfl, hb6⟩
          obtain ⟨r0, r1, _, _⟩ := cells2_of (heap_kept hb6 HS6.out)
          obtain ⟨z0, z1, _, _⟩ := cells2_of (heap_kept hb6 HG6.out)
          have c3 := Sp.same_any (fun _ => True) _ n2 n2 _ _ l2 l2 w6 ((HH6.out.keep hb6).h2) ((L5.out.keep (one_below _ _)).keep hb6)
          rw [(Sp.Tm.same_iff _ _).2 rfl] at c3
          go_wp2_with fail
          refine c3.mono ?_
          rintro e w7 ⟨rfl, hb7⟩
          have HR := Lib.hid ((HH6.out.keep hb6).keep hb7)
          go_wp2_with fail
          go_roundw
          case rel => exact ⟨2, by omega, by go_num, HR.out⟩
          case measure => simp [intOf]

    · have B0 := H.below.drew
      have hS0 : CellsAB wr.drew w2.heap.size w3.heap.size (.slice a8 n8 m8) (.slice a9 n9 m9) n1 n2 := cellsAB_below (Below.refl _ _).drew ⟨cell_in H.hA 0 _ rfl, cell_in H.hA 1 _ rfl, cell_in H.hB 0 _ rfl, cell_in H.hB 1 _ rfl⟩
      have f1 := simpleOut_fit t
      have f2 := simpleOut_fit u
      rw [E1.out] at f1
      rw [E2.out] at f2
      have f1z : Sp.Tm.sz (.mk n1 l1) ≤ 600 := f1.2
      have L1 := H.h1
      have L2 := H.h2
      have cST : ∀ w1, Below wr.heap.size wr w1 → Calls Try.prog 19 #[.agg #[.slice a8 n8 m8, .int .i64 n1], .agg #[.slice a9 n9 m9, .int .i64 n2]] w1 fun e w' => e = .returned (.bool (Sp.Tm.same (.mk n1 l1) (.mk n2 l2))) ∧ Below w1.heap.size w1 w' := fun w1 h =>
        Sp.sameS_any n1 n2 _ _ l1 l2 w1 (L1.keep h) (L2.keep h) f1.1 f2.1 (by omega)
      have cSS : ∀ w1, Below wr.heap.size wr w1 → Calls Try.prog 19 #[.agg #[.slice a8 n8 m8, .int .i64 n1], .agg #[.slice a8 n8 m8, .int .i64 n1]] w1 fun e w' => e = .returned (.bool true) ∧ Below w1.heap.size w1 w' := fun w1 h => by
        have := Sp.sameS_any n1 n1 _ _ l1 l1 w1 (L1.keep h) (L1.keep h) f1.1 f1.1 (by omega)
        rwa [(Sp.Tm.same_iff _ _).2 rfl] at this
      have rST : ∀ w1, Below wr.heap.size wr w1 → Calls Try.prog 18 #[.agg #[.slice a8 n8 m8, .int .i64 n1], .agg #[.slice a9 n9 m9, .int .i64 n2]] w1 fun e w' => e = .returned (.bool (Sp.Tm.same (.mk n1 l1) (.mk n2 l2))) ∧ Below w1.heap.size w1 w' := fun w1 h =>
        Sp.same_any (fun _ => True) (fun _ => True) n1 n2 _ _ l1 l2 w1 (L1.keep h) (L2.keep h)
      obtain ⟨r, hr⟩ : ∃ r, r = Sp.Tm.same (.mk n1 l1) (.mk n2 l2) := ⟨_, rfl⟩
      rw [← hr] at cST rST
      have hR0 : Below wr.heap.size wr wr.drew := (Below.refl _ _).drew
      have HB := Lib.hid H.below
      clear L1 L2 f1 f2 hr H f1z
      go_wp2_with fail
      go_region_held3 (fun W => CellsAB W w2.heap.size w3.heap.size (.slice a8 n8 m8) (.slice a9 n9 m9) n1 n2)
        (first | (with_reducible exact hS0) | (with_reducible exact hS1) | (with_reducible exact hS2) | (with_reducible exact hS3) | (with_reducible exact hS4))
        (first
          | (go_at_call 19; (with_reducible refine (cST _ hR0).mono ?_); rintro e w4 ⟨rfl, hb4⟩; have hR1 := below_next hR0 hb4; have hS1 := cellsAB_below hb4 hS0)
          | (go_at_call 18; (with_reducible refine (rST _ hR1).mono ?_); rintro e w5 ⟨rfl, hb5⟩; have hR2 := below_next hR1 hb5; have hS2 := cellsAB_below hb5 hS1)
          | (go_at_call 19; (with_reducible refine (cSS _ hR2).mono ?_); rintro e w6 ⟨rfl, hb6⟩; have hR3 := below_next hR2 hb6; have hS3 := cellsAB_below hb6 hS2)
          | (go_at_call 20; (with_reducible refine (awake_any _).mono ?_); rintro e w7 ⟨rfl, hb7⟩; have hR4 := below_next hR3 hb7; have hS4 := cellsAB_below hb7 hS3))
      go_wp2
      go_ret
      exact ⟨rfl, below_next HB.out hR4⟩

end Go.Proofs.Ytomahhdhnlfabaa
