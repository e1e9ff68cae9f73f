/- The contract of the reference's Instance. -/
import Derived.Test.YtieakippgeehgaaSbInR
import Derived.Test.YtieakippgeehgaaSbApR
import Derived.Deep.DeepCutAuto
import Derived.BigRegion
import Derived.OwnWalk
namespace Go.Proofs.Ytieakippgeehgaa.Sb
open Go.RowKit
set_option linter.unusedSimpArgs false
set_option linter.unusedVariables false

theorem step_er {t m : Tm} {c : Nat} {e : Int} (hp : Tm.proper t = true) (hc : c ≤ 20000) (h : stepO t m c = .er e) : e = 5 ∨ e = 23 ∨ e = 22 := by
  obtain ⟨o, hd, k, l⟩ := t
  by_cases ho : o = 2
  · subst ho
    obtain ⟨a, b, rfl, rfl, rfl, ha, hb⟩ := Tm.proper_pi hp
    cases hs : Tm.simp a with
    | none => rw [stepO_level hs] at h; cases h; exact .inr (.inr rfl)
    | some S =>
      rw [stepO_pi hs] at h
      have := put_good S m 0 b c hc hb
      rw [h] at this
      rcases this with h5 | h5
      · exact .inl h5
      · exact .inr (.inl h5)
  · rw [stepO_shape (by simpa [Tm.op] using ho)] at h; cases h; exact .inr (.inl rfl)

/-- the loop of the reference's Instance -/
structure IRL (w wr : World) (C : Nat) (t0 : Tm) (l : List Tm) (j : Nat) (f : Tm) (fv : Value) (cj : Nat) : Prop where
  below : Below w.heap.size w wr
  hf : wr.heap[w.heap.size]? = some (.cells #[.int .i64 f.op, .int .i64 f.hd, .int .i64 f.n, fv] 24 (0, 0))
  hr : wr.heap[w.heap.size + 1]? = some (.cells #[.int .i64 0, .int .i64 0, .int .i64 0, .slice none 0 0] 24 (0, 0))
  cnt : cntR C cj wr
  bC : w.heap.size + 1 < C
  bd : cj ≤ 20000
  lf : Lies wr (fun b => b ≠ C ∧ b ≠ w.heap.size ∧ b ≠ w.heap.size + 1) fv f.args
  pr : Tm.proper f = true
  sofar : instO l t0 0 = instO (l.drop j) f cj

theorem IRL.next {w wr wx : World} {C X : Nat} {t0 : Tm} {l : List Tm} {j : Nat} {f x : Tm} {fv v : Value} {cj c' : Nat} (H : IRL w wr C t0 l j f fv cj) (P : PX wr wx C X x v c') (hcb : c' ≤ 20000) (hpx : Tm.proper x = true) (hnx : instO l t0 0 = instO (l.drop (j + 1)) x c') :
    IRL w ((((wx.setCell ⟨w.heap.size, 0, none⟩ (.int .i64 x.op)).setCell ⟨w.heap.size, 1, none⟩ (.int .i64 x.hd)).setCell ⟨w.heap.size, 2, none⟩ (.int .i64 x.n)).setCell ⟨w.heap.size, 3, none⟩ v) C t0 l (j + 1) x v c' := by
  have lC := lt_blk H.cnt
  have bC := H.bC
  have hb : Below w.heap.size w wx := Only.fresh P.only H.below (by omega)
  have h0 : w.heap.size ≤ w.heap.size := Nat.le_refl _
  refine ⟨(((hb.setCell h0 _).setCell h0 _).setCell h0 _).setCell h0 _, set4_at (Only.keepBlock P.only H.hf (by omega)) _ _ _ _, (set4_other _ _ _ _ (by omega)).trans (Only.keepBlock P.only H.hr (by omega)), (set4_other _ _ _ _ (by omega)).trans P.cnt, bC, hcb, ?_, hpx, hnx⟩
  refine (P.lies.still fun b hS _ => set4_other _ _ _ _ ?_).more fun b _ hS => ?_
  · have hS' : wr.heap.size ≤ b := hS; omega
  · have hS' : wr.heap.size ≤ b := hS; exact ⟨by omega, by omega, by omega⟩

/-- what the region of step's call reads -/
abbrev CellsG (W : World) (A b bo : Nat) (a0 a1 a2 a3 e0 e1 e2 e3 : Value) : Prop :=
  W.cell? ⟨A, 0, none⟩ = some a0 ∧ W.cell? ⟨A, 1, none⟩ = some a1 ∧ W.cell? ⟨A, 2, none⟩ = some a2 ∧ W.cell? ⟨A, 3, none⟩ = some a3 ∧ W.cell? ⟨b, bo, none⟩ = some e0 ∧ W.cell? ⟨b, bo + 1, none⟩ = some e1 ∧ W.cell? ⟨b, bo + 2, none⟩ = some e2 ∧ W.cell? ⟨b, bo + 3, none⟩ = some e3
section
variable {W W' : World} {A b bo C R : Nat} {a0 a1 a2 a3 e0 e1 e2 e3 u0 u1 u2 u3 : Value}
theorem cellsG_below (hb : Below W.heap.size W W') (x : CellsG W A b bo a0 a1 a2 a3 e0 e1 e2 e3) : CellsG W' A b bo a0 a1 a2 a3 e0 e1 e2 e3 := by
  obtain ⟨x1, x2, x3, x4, x5, x6, x7, x8⟩ := x
  exact ⟨kept_cell hb x1, kept_cell hb x2, kept_cell hb x3, kept_cell hb x4, kept_cell hb x5, kept_cell hb x6, kept_cell hb x7, kept_cell hb x8⟩
theorem cellsG_by (hA : W'.heap[A]? = W.heap[A]?) (hb : W'.heap[b]? = W.heap[b]?) (x : CellsG W A b bo a0 a1 a2 a3 e0 e1 e2 e3) : CellsG W' A b bo a0 a1 a2 a3 e0 e1 e2 e3 := by
  have go : ∀ b, W'.heap[b]? = W.heap[b]? → ∀ j u, W.cell? ⟨b, j, none⟩ = some u → W'.cell? ⟨b, j, none⟩ = some u := fun b hb j u e => by rw [World.cell?_of_block (w := W) hb]; exact e
  obtain ⟨x1, x2, x3, x4, x5, x6, x7, x8⟩ := x
  exact ⟨go _ hA _ _ x1, go _ hA _ _ x2, go _ hA _ _ x3, go _ hA _ _ x4, go _ hb _ _ x5, go _ hb _ _ x6, go _ hb _ _ x7, go _ hb _ _ x8⟩
theorem cellsG_only (h : A ≠ C ∧ b ≠ C) (l : A < W.heap.size ∧ b < W.heap.size) (ho : Only C W W') (x : CellsG W A b bo a0 a1 a2 a3 e0 e1 e2 e3) : CellsG W' A b bo a0 a1 a2 a3 e0 e1 e2 e3 :=
  cellsG_by (ho.block _ l.1 h.1) (ho.block _ l.2 h.2) x
theorem cellsG_four (h : A ≠ R ∧ b ≠ R) (x : CellsG W A b bo a0 a1 a2 a3 e0 e1 e2 e3) : CellsG ((((W.setCell ⟨R, 0, none⟩ u0).setCell ⟨R, 1, none⟩ u1).setCell ⟨R, 2, none⟩ u2).setCell ⟨R, 3, none⟩ u3) A b bo a0 a1 a2 a3 e0 e1 e2 e3 :=
  cellsG_by (set4_other _ _ _ _ h.1) (set4_other _ _ _ _ h.2) x
end

/-- a result in new memory, wherever its parts lie -/
theorem givesEA_of {w w' : World} {p : Tm × Int} {v : Value} {e : Ending} (he : e = .returned (.tuple #[.agg #[.int .i64 p.1.op, .int .i64 p.1.hd, .int .i64 p.1.n, v], .int .i64 p.2])) (hb : Below w.heap.size w w') (L : Lies w' (fun _ => True) v p.1.args) : GivesEA w p e w' := ⟨v, he, hb, L⟩

theorem instR_zero {w wr : World} {e : Int} {a : Act} (hr : wr.heap[w.heap.size + 1]? = some (.cells #[.int .i64 0, .int .i64 0, .int .i64 0, .slice none 0 0] 24 (0, 0))) (hb : Below w.heap.size w wr) (ha : a.tmps[4]? = some (.pointer (some ⟨w.heap.size + 1, 0, none⟩)) ∧ a.tmps[5]? = some (.int .i64 e) ∧ a.defers = []) :
    bodyPost Try.prog Try.f24 (GivesEA w (Tm.zero, e)) .ret a ((((wr.setCell ⟨w.heap.size + 1, 0, none⟩ (.int .i64 0)).setCell ⟨w.heap.size + 1, 1, none⟩ (.int .i64 0)).setCell ⟨w.heap.size + 1, 2, none⟩ (.int .i64 0)).setCell ⟨w.heap.size + 1, 3, none⟩ (.slice none 0 0)) := by
  obtain ⟨h8, h9, hd⟩ := ha
  obtain ⟨z0, z1, z2, z3⟩ := c4_of (set4_at hr (.int .i64 0) (.int .i64 0) (.int .i64 0) (.slice none 0 0))
  refine bodyPost_ret (v := .tuple #[.agg #[.int .i64 0, .int .i64 0, .int .i64 0, .slice none 0 0], .int .i64 e]) (by simp [results, Try.results24, go_sem, h8, h9, z0, z1, z2, z3]) hd ?_
  have h4 : w.heap.size ≤ w.heap.size + 1 := by omega
  obtain ⟨v, e1, e2, e3⟩ := givesE_zero (w := w) (x := e) rfl ((((hb.setCell h4 (p := ⟨w.heap.size + 1, 0, none⟩) (.int .i64 0)).setCell h4 (p := ⟨w.heap.size + 1, 1, none⟩) (.int .i64 0)).setCell h4 (p := ⟨w.heap.size + 1, 2, none⟩) (.int .i64 0)).setCell h4 (p := ⟨w.heap.size + 1, 3, none⟩) (.slice none 0 0))
  exact ⟨v, e1, e2, e3.more fun _ _ _ => trivial⟩

set_option maxHeartbeats 4000000 in
set_option maxRecDepth 100000 in
theorem instRF_bad (t : Tm) (l : List Tm) (tv lv : Value) (w : World) (lt : Lies w (fun _ => True) tv t.args) (ll : Lies w (fun _ => True) lv l)
    (hbad : (Tm.proper t && okList l) = false) :
    Calls Try.prog 24 #[.agg #[.int .i64 t.op, .int .i64 t.hd, .int .i64 t.n, tv], lv] w (GivesEA w (Tm.zero, 2)) := by
  obtain ⟨a1, n1, m1, rfl⟩ := lt.isSlice
  obtain ⟨a2, n2, m2, rfl⟩ := ll.isSlice
  have h2 := two_blocks w #[.int .i64 t.op, .int .i64 t.hd, .int .i64 t.n, .slice a1 n1 m1] #[.int .i64 0, .int .i64 0, .int .i64 0, .slice none 0 0] 24 24
  have hb2 := two_below w (.cells #[.int .i64 t.op, .int .i64 t.hd, .int .i64 t.n, .slice a1 n1 m1] 24) (.cells #[.int .i64 0, .int .i64 0, .int .i64 0, .slice none 0 0] 24)
  have c1 : ∀ w1, Below w.heap.size w w1 → _ := fun w1 hb => proper_t t (fun _ => True) (.slice a1 n1 m1) w1 (lt.keep hb)
  have c3 : ∀ w1, Below w.heap.size w w1 → _ := fun w1 hb => listR_any (.slice a2 n2 m2) l w1 (ll.keep hb)
  have HV := Lib.hid (And.intro h2.2 hb2)
  obtain ⟨x0, x1, x2, x3⟩ := c4_of h2.1
  have ways : Tm.proper t = false ∨ (Tm.proper t = true ∧ okList l = false) := by
    revert hbad
    cases Tm.proper t <;> cases okList l <;> simp
  clear h2 hbad hb2 lt ll
  rcases ways with k1 | ⟨k1, k3⟩
  all_goals
    simp only [k1] at c1
    try simp only [k3] at c3
    clear k1
    try clear k3
    go_enter Try.func24, Try.ntmps24
    go_wp2_with fail
    refine (c1 _ HV.out.2).mono ?_
    rintro e w1 ⟨rfl, hb1⟩
    have HV1 := Lib.hid (And.intro (heap_kept hb1 HV.out.1) (below_next HV.out.2 hb1))
    clear x0 x1 x2 x3 hb1 HV c1
    obtain ⟨y0, y1, y2, y3⟩ := c4_of HV1.out.1
    have f0 := free_in HV1.out.1 0
    have f1 := free_in HV1.out.1 1
    have f2 := free_in HV1.out.1 2
    have f3 := free_in HV1.out.1 3
    go_wp2_with fail
  · exact instR_zero HV1.out.1 HV1.out.2 ⟨rfl, rfl, rfl⟩
  · refine (c3 _ HV1.out.2).mono ?_
    rintro e w2 ⟨rfl, hb2⟩
    have HV2 := Lib.hid (And.intro (heap_kept hb2 HV1.out.1) (below_next HV1.out.2 hb2))
    clear y0 y1 y2 y3 f0 f1 f2 f3 hb2 HV1 c3
    obtain ⟨y0, y1, y2, y3⟩ := c4_of HV2.out.1
    have f0 := free_in HV2.out.1 0
    have f1 := free_in HV2.out.1 1
    have f2 := free_in HV2.out.1 2
    have f3 := free_in HV2.out.1 3
    go_wp2_with fail
    exact instR_zero HV2.out.1 HV2.out.2 ⟨rfl, rfl, rfl⟩

set_option maxHeartbeats 8000000 in
set_option maxRecDepth 100000 in
theorem instRF_good (t : Tm) (l : List Tm) (tv lv : Value) (w : World) (lt : Lies w (fun _ => True) tv t.args) (ll : Lies w (fun _ => True) lv l)
    (k1 : Tm.proper t = true) (k3 : okList l = true) :
    Calls Try.prog 24 #[.agg #[.int .i64 t.op, .int .i64 t.hd, .int .i64 t.n, tv], lv] w (GivesEA w (outOf (instO l t 0))) := by
  obtain ⟨a1, n1, m1, rfl⟩ := lt.isSlice
  obtain ⟨ao, b, off, len, cap, oo, hh, kk, sv, tt, rfl, R⟩ := ll.open
  have h2 := two_blocks w #[.int .i64 t.op, .int .i64 t.hd, .int .i64 t.n, .slice a1 n1 m1] #[.int .i64 0, .int .i64 0, .int .i64 0, .slice none 0 0] 24 24
  have hb2 := two_below w (.cells #[.int .i64 t.op, .int .i64 t.hd, .int .i64 t.n, .slice a1 n1 m1] 24) (.cells #[.int .i64 0, .int .i64 0, .int .i64 0, .slice none 0 0] 24)
  have c1 : ∀ w1, Below w.heap.size w w1 → _ := fun w1 hb => proper_t t (fun _ => True) (.slice a1 n1 m1) w1 (lt.keep hb)
  have c3 : ∀ w1, Below w.heap.size w w1 → _ := fun w1 hb => listR_any (.slice ao len cap) l w1 (ll.keep hb)
  have hk : l.length ≤ 600 ∧ ∀ x ∈ l, Tm.proper x = true := by
    have h := k3
    simp only [okList, Bool.and_eq_true, decide_eq_true_eq, List.all_eq_true] at h
    exact h
  have hlen : len ≤ 600 := by rw [← R.length]; exact hk.1
  have hlc := R.hl
  have hcap := R.hr
  have hs2 : ((w.alloc (.cells #[.int .i64 t.op, .int .i64 t.hd, .int .i64 t.n, .slice a1 n1 m1] 24)).alloc (.cells #[.int .i64 0, .int .i64 0, .int .i64 0, .slice none 0 0] 24)).heap.size = w.heap.size + 2 := by simp
  have HV := Lib.hid (And.intro h2 (And.intro hb2 hs2))
  obtain ⟨x0, x1, x2, x3⟩ := c4_of h2.1
  have HR := Lib.hid R
  have HP := Lib.hid (And.intro k1 hk.2)
  have HLT := Lib.hid lt
  simp only [k1] at c1
  simp only [k3] at c3
  clear h2 hb2 hs2 lt ll R hk k1 k3
  go_enter Try.func24, Try.ntmps24
  go_wp2_with fail
  refine (c1 _ HV.out.2.1).mono ?_
  rintro e w1 ⟨rfl, hb1⟩
  have HV1 := Lib.hid hb1
  clear x0 x1 x2 x3 hb1 c1
  go_wp2_with fail
  refine (c3 _ (below_next HV.out.2.1 HV1.out)).mono ?_
  rintro e w2 ⟨rfl, hb2⟩
  have hbC := one_below w2 (.cells #[.int .i64 0] 85)
  have hb3 := below_next (below_next HV1.out hb2) hbC
  have hbw := below_next HV.out.2.1 (below_next HV1.out hb2)
  have hsz2 : w.heap.size + 2 ≤ w2.heap.size := by have := HV1.out.size; have := hb2.size; have := HV.out.2.2; omega
  have hst : IRL w (w2.alloc (.cells #[.int .i64 0] 85)) w2.heap.size t l 0 t (.slice a1 n1 m1) 0 :=
    ⟨below_next hbw hbC, heap_kept hb3 HV.out.1.1, heap_kept hb3 HV.out.1.2, heap_alloc_new _ _, by omega, by omega, (HLT.out.more fun b hlt _ => by omega).keep (below_next hbw hbC), HP.out.1, rfl⟩
  have HST := Lib.hid hst
  clear hst hbC hb3 hbw hsz2 hb2 c3
  go_wp2_with fail
  generalize w2.heap.size = C at *
  go_loopw [7] (fun i wr => ∃ (j : Nat) (f : Tm) (fv : Value) (cj : Nat), j ≤ len ∧ i = .int .i64 j ∧ IRL w wr C t l j f fv cj) (fun i _ => len - (intOf i).toNat)
  case atStart => exact ⟨0, _, _, 0, Nat.zero_le _, rfl, HST.out⟩
  case round =>
    obtain ⟨j, f, fv, cj, hj, rfl, K⟩ := hrel
    obtain ⟨a6, n6, m6, rfl⟩ := K.lf.isSlice
    by_cases hlt : j < len
    · have hjl : j < l.length := by rw [HR.out.length]; exact hlt
      have hj0 : (0 : Int) ≤ (j : Int) := by omega
      have hj1 : (j : Int) < (len : Int) := by omega
      obtain rfl := HR.out.hao (by omega)
      obtain ⟨d0, d1, d2, d3, hsub⟩ := HR.out.at K.below j hlt
      obtain ⟨a5, n5, m5, hs5⟩ := hsub.isSlice
      rw [hs5] at d3 hsub
      have hg : l[j]'hjl = .mk (oo j) (hh j) (kk j) (tt j) := HR.out.get j hlt
      have hpj := HP.out.2 _ (List.getElem_mem hjl)
      rw [hg] at hpj
      have hsf := instO_drop hjl K.sofar
      rw [hg] at hsf
      have hbl : b < w.heap.size := World.block_lt_of_cell? _ _ (HR.out.c0 j hlt)
      have bC := K.bC
      have lC := lt_blk K.cnt
      obtain ⟨x0, x1, x2, x3⟩ := c4_of K.hf
      have hS0 : CellsG wr w.heap.size b (off + j * 4) (.int .i64 f.op) (.int .i64 f.hd) (.int .i64 f.n) (.slice a6 n6 m6) (.int .i64 (oo j)) (.int .i64 (hh j)) (.int .i64 (kk j)) (.slice a5 n5 m5) := ⟨x0, x1, x2, x3, d0, d1, d2, d3⟩
      have hsub' : Lies wr (· ≠ C) (.slice a5 n5 m5) (tt j) := by
        have h1 := ((HR.out.sub j hlt).more (S' := (· ≠ C)) fun b hlt _ => by omega).keep K.below
        rw [hs5] at h1
        exact h1
      have call : ∀ w1, Below wr.heap.size wr w1 → Calls Try.prog 63 #[.pointer (some ⟨C, 0, none⟩), .agg #[.int .i64 f.op, .int .i64 f.hd, .int .i64 f.n, .slice a6 n6 m6], .agg #[.int .i64 (oo j), .int .i64 (hh j), .int .i64 (kk j), .slice a5 n5 m5]] w1 (GivesR (w1.heap.size ≤ ·) w1 C (stepO f (.mk (oo j) (hh j) (kk j) (tt j)) cj)) := fun w1 hb =>
        stepR_any C f (.mk (oo j) (hh j) (kk j) (tt j)) (.slice a6 n6 m6) (.slice a5 n5 m5) cj w1 ((K.lf.more fun _ _ hS => hS.1).keep hb) (hsub'.keep hb) (heap_kept hb K.cnt) K.bd K.pr hpj
      have HD : Hid (Below wr.heap.size wr wr.drew ∧ Below wr.heap.size wr (wr.alloc (.cells #[.int .i64 0, .int .i64 0, .int .i64 0, .slice none 0 0] 24)).drew ∧ (wr.alloc (.cells #[.int .i64 0, .int .i64 0, .int .i64 0, .slice none 0 0] 24)).drew.heap[wr.heap.size]? = some (.cells #[.int .i64 0, .int .i64 0, .int .i64 0, .slice none 0 0] 24 (0, 0)) ∧ wr.heap.size ≠ C) := Lib.hid ⟨(Below.refl _ _).drew, (one_below _ _).drew, heap_alloc_new wr _, by omega⟩
      have hwr : w.heap.size + 1 < wr.heap.size := lt_blk K.hr
      have HXX : Hid (w.heap.size ≠ wr.heap.size ∧ b ≠ wr.heap.size) := Lib.hid (by omega)
      have HNE : Hid ((w.heap.size ≠ C ∧ b ≠ C) ∧ (w.heap.size < wr.heap.size ∧ b < wr.heap.size)) := Lib.hid (by omega)
      have HCL : Hid (C < wr.heap.size) := Lib.hid lC
      have HK := Lib.hid K
      have HWR := Lib.hid hwr
      rcases hres : stepO f (.mk (oo j) (hh j) (kk j) (tt j)) cj with ⟨x, c'⟩ | x
      · have hfine := step_fine (m := .mk (oo j) (hh j) (kk j) (tt j)) K.pr K.bd
        rw [hres] at hsf hfine
        have call2 : ∀ w1, Below wr.heap.size wr w1 → Calls Try.prog 63 #[.pointer (some ⟨C, 0, none⟩), .agg #[.int .i64 f.op, .int .i64 f.hd, .int .i64 f.n, .slice a6 n6 m6], .agg #[.int .i64 (oo j), .int .i64 (hh j), .int .i64 (kk j), .slice a5 n5 m5]] w1 fun e w2 => ∃ a8 n8 m8, e = .returned (.tuple #[.agg #[.int .i64 x.op, .int .i64 x.hd, .int .i64 x.n, .slice a8 n8 m8], .int .i64 0]) ∧ Only C w1 w2 ∧ Only C wr w2 ∧ cntR C c' w2 ∧ Lies w2 (w1.heap.size ≤ ·) (.slice a8 n8 m8) x.args := fun w1 hb => by
          have h := call w1 hb
          unfold GivesR at h
          rw [hres] at h
          refine h.mono fun e w2 hx => ?_
          obtain ⟨v6, rfl, ho, hc, L⟩ := hx
          obtain ⟨a8, n8, m8, rfl⟩ := L.isSlice
          exact ⟨a8, n8, m8, rfl, ho, (Only.below hb C).trans ho, hc, L⟩
        have HSF := Lib.hid (And.intro hsf hfine)
        clear hres call hsf hfine x0 x1 x2 x3 d0 d1 d2 d3 K hsub hsub' hs5 hg hpj hbl bC lC hwr
        go_upto_region 7 with fail
        go_cut [8, 9] (fun p e wx => ∃ X a8 n8 m8, p = .pointer (some ⟨X, 0, none⟩) ∧ e = .int .i64 0 ∧ PX wr wx C X x (.slice a8 n8 m8) c')
        case first =>
          go_region_held3 (fun W => CellsG W w.heap.size b (off + j * 4) (.int .i64 f.op) (.int .i64 f.hd) (.int .i64 f.n) (.slice a6 n6 m6) (.int .i64 (oo j)) (.int .i64 (hh j)) (.int .i64 (kk j)) (.slice a5 n5 m5))
            (first | (with_reducible exact cellsG_four HXX.out hcn) | (with_reducible exact hS0) | (with_reducible exact hcn) | (with_reducible exact cellsG_below HD.out.1 hS0) | (with_reducible exact cellsG_below HD.out.2.1 hS0) | (with_reducible exact cellsG_below (one_below _ _) hcn) | (with_reducible exact cellsG_below (one_below _ _) (by assumption)) | fail)
            (first
              | (go_at_call 63; (with_reducible refine (call2 _ ?_).mono ?_); (first | (with_reducible exact HD.out.1) | (with_reducible exact HD.out.2.1) | fail); rintro e w2 ⟨a8, n8, m8, rfl, ho2, ho3, hc2, L2⟩; have hcn := cellsG_only HNE.out.1 HNE.out.2 ho3 hS0; have HPO := Lib.hid (And.intro ho3 (And.intro hc2 L2)); (clear hc2 L2); (first | ((refine use_fact (p := w2.heap[wr.heap.size]? = some (.cells #[.int .i64 0, .int .i64 0, .int .i64 0, .slice none 0 0] 24 (0, 0))) ?_ (fun zX => ?_)); (focus (with_reducible exact Only.keepBlock ho2 HD.out.2.2.1 HD.out.2.2.2)); obtain ⟨y0, y1, y2, y3⟩ := c4_of zX; have g0 := free_in zX 0; have g1 := free_in zX 1; have g2 := free_in zX 2; have g3 := free_in zX 3; have HZX := Lib.hid zX; (clear zX)) | skip))
              | fail)
          all_goals
            go_wp2_with fail
            go_meet
            case rel =>
              first
                | (refine ⟨_, _, _, _, rfl, rfl, PX.set HCL.out HPO.out.1 HPO.out.2.1 HZX.out (Nat.le_refl _) ?_⟩; exact HPO.out.2.2.more fun b hlt hS => ⟨by simp at hS; omega, by simp at hS; omega⟩)
                | (refine ⟨_, _, _, _, rfl, rfl, PX.new HCL.out HPO.out.1 HPO.out.2.1 ?_⟩; exact HPO.out.2.2)
                | fail
        case rest =>
          obtain ⟨X, a8, n8, m8, rfl, rfl, P⟩ := hcut
          obtain ⟨y0, y1, y2, y3⟩ := c4_of P.hX
          have hf := Only.keepBlock P.only HK.out.hf HNE.out.1.1
          have z := c4_of hf
          obtain ⟨z0, z1, z2, z3⟩ := z
          have f0 := free_in hf 0
          have f1 := free_in hf 1
          have f2 := free_in hf 2
          have f3 := free_in hf 3
          have hnx := HK.out.next P HSF.out.2.2.2 HSF.out.2.1 HSF.out.1
          have HNX := Lib.hid hnx
          clear hnx hf P call2 hS0
          go_wp2_with fail
          go_roundw
          case rel => exact ⟨j + 1, x, .slice a8 n8 m8, c', by omega, by go_num, HNX.out⟩
          case measure => simp [intOf]; omega
      · have her := step_er K.pr K.bd hres
        rw [hres] at hsf
        have call2 : ∀ w1, Below wr.heap.size wr w1 → Calls Try.prog 63 #[.pointer (some ⟨C, 0, none⟩), .agg #[.int .i64 f.op, .int .i64 f.hd, .int .i64 f.n, .slice a6 n6 m6], .agg #[.int .i64 (oo j), .int .i64 (hh j), .int .i64 (kk j), .slice a5 n5 m5]] w1 fun e w2 => e = .returned (.tuple #[.agg #[.int .i64 0, .int .i64 0, .int .i64 0, .slice none 0 0], .int .i64 x]) ∧ Only C w1 w2 ∧ Only C wr w2 := fun w1 hb => by
          have h := call w1 hb
          unfold GivesR at h
          rw [hres] at h
          refine h.mono fun e w2 hx => ?_
          obtain ⟨rfl, ho⟩ := hx
          exact ⟨rfl, ho, (Only.below hb C).trans ho⟩
        have HSF := Lib.hid (And.intro hsf her)
        clear hres call hsf her x0 x1 x2 x3 d0 d1 d2 d3 K hsub hsub' hs5 hg hpj hbl bC lC hwr
        go_upto_region 7 with fail
        go_cut [8, 9] (fun p e wx => ∃ X, p = .pointer (some ⟨X, 0, none⟩) ∧ e = .int .i64 x ∧ Only C wr wx)
        case first =>
          go_region_held3 (fun W => CellsG W w.heap.size b (off + j * 4) (.int .i64 f.op) (.int .i64 f.hd) (.int .i64 f.n) (.slice a6 n6 m6) (.int .i64 (oo j)) (.int .i64 (hh j)) (.int .i64 (kk j)) (.slice a5 n5 m5))
            (first | (with_reducible exact cellsG_four HXX.out hcn) | (with_reducible exact hS0) | (with_reducible exact hcn) | (with_reducible exact cellsG_below HD.out.1 hS0) | (with_reducible exact cellsG_below HD.out.2.1 hS0) | (with_reducible exact cellsG_below (one_below _ _) hcn) | (with_reducible exact cellsG_below (one_below _ _) (by assumption)) | fail)
            (first
              | (go_at_call 63; (with_reducible refine (call2 _ ?_).mono ?_); (first | (with_reducible exact HD.out.1) | (with_reducible exact HD.out.2.1) | fail); rintro e w2 ⟨rfl, ho2, ho3⟩; have hcn := cellsG_only HNE.out.1 HNE.out.2 ho3 hS0; have HPO := Lib.hid ho3; (first | ((refine use_fact (p := w2.heap[wr.heap.size]? = some (.cells #[.int .i64 0, .int .i64 0, .int .i64 0, .slice none 0 0] 24 (0, 0))) ?_ (fun zX => ?_)); (focus (with_reducible exact Only.keepBlock ho2 HD.out.2.2.1 HD.out.2.2.2)); obtain ⟨y0, y1, y2, y3⟩ := c4_of zX; have g0 := free_in zX 0; have g1 := free_in zX 1; have g2 := free_in zX 2; have g3 := free_in zX 3; have HZX := Lib.hid zX; (clear zX)) | skip))
              | fail)
          all_goals
            go_wp2_with fail
            go_meet
            case rel =>
              first
                | exact ⟨_, rfl, rfl, PXE.set HPO.out⟩
                | exact ⟨_, rfl, rfl, HPO.out.alloc _⟩
                | fail
        case rest =>
          obtain ⟨X, rfl, rfl, P⟩ := hcut
          have hr := Only.keepBlock P HK.out.hr (by have := HK.out.bC; omega)
          obtain ⟨y0, y1, y2, y3⟩ := c4_of hr
          have f0 := free_in hr 0
          have f1 := free_in hr 1
          have f2 := free_in hr 2
          have f3 := free_in hr 3
          have hx0 : ¬ x = 0 := by rcases HSF.out.2 with h5 | h5 | h5 <;> omega
          have hne0 : (x != 0) = true := by simp [hx0]
          have HRB := Lib.hid (And.intro hr (Only.fresh P HK.out.below (by have := HK.out.bC; omega)))
          clear hr P call2 hS0
          go_wp2_with fail
          rw [HSF.out.1]
          exact instR_zero HRB.out.1 HRB.out.2 ⟨rfl, rfl, rfl⟩
    · obtain rfl : j = len := by omega
      have hsf := K.sofar
      rw [List.drop_of_length_le (by rw [HR.out.length]; exact Nat.le_refl _)] at hsf
      have hj1 : ¬ (j : Int) < (j : Int) := by omega
      obtain ⟨x0, x1, x2, x3⟩ := c4_of K.hf
      obtain ⟨y0, y1, y2, y3⟩ := c4_of K.hr
      have f0 := free_in K.hr 0
      have f1 := free_in K.hr 1
      have f2 := free_in K.hr 2
      have f3 := free_in K.hr 3
      have HK := Lib.hid K
      have HSF := Lib.hid hsf
      clear K hsf
      go_wp2_with fail
      rw [HSF.out]
      have hz := set4_at HK.out.hr (.int .i64 f.op) (.int .i64 f.hd) (.int .i64 f.n) (.slice a6 n6 m6)
      obtain ⟨z0, z1, z2, z3⟩ := c4_of hz
      refine bodyPost_ret (v := .tuple #[.agg #[.int .i64 f.op, .int .i64 f.hd, .int .i64 f.n, .slice a6 n6 m6], .int .i64 0]) (by simp [results, Try.results24, go_sem, z0, z1, z2, z3]) rfl ?_
      have h4 : w.heap.size ≤ w.heap.size + 1 := by omega
      exact ⟨_, rfl, (((HK.out.below.setCell h4 _).setCell h4 _).setCell h4 _).setCell h4 _, (HK.out.lf.still fun b hS _ => set4_other _ _ _ _ hS.2.2).more fun _ _ _ => trivial⟩

/-- the contract of the reference's Instance -/
theorem instRF_any (t : Tm) (l : List Tm) (tv lv : Value) (w : World) (lt : Lies w (fun _ => True) tv t.args) (ll : Lies w (fun _ => True) lv l) :
    Calls Try.prog 24 #[.agg #[.int .i64 t.op, .int .i64 t.hd, .int .i64 t.n, tv], lv] w (GivesEA w (instOut t l)) := by
  unfold instOut
  rcases h : (Tm.proper t && okList l) with _ | _
  · exact instRF_bad t l tv lv w lt ll h
  · simp only [Bool.and_eq_true] at h
    exact instRF_good t l tv lv w lt ll h.1 h.2
end Go.Proofs.Ytieakippgeehgaa.Sb
