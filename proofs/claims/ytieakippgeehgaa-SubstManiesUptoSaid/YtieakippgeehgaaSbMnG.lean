/- The contract of the reference's Many. -/
import Derived.Test.YtieakippgeehgaaSbInG
import Derived.Test.YtieakippgeehgaaSbMnA
namespace Go.Proofs.Ytieakippgeehgaa.Sb
open Go.RowKit
set_option linter.unusedSimpArgs false
set_option linter.unusedVariables false

/-- the two boxes of the reference's Many -/
structure MRV (w wr : World) (t : Tm) (tv : Value) : Prop where
  below : Below w.heap.size w wr
  hf : wr.heap[w.heap.size]? = some (.cells #[.int .i64 t.op, .int .i64 t.hd, .int .i64 t.n, tv] 24 (0, 0))
  hr : wr.heap[w.heap.size + 1]? = some (.cells #[.int .i64 0, .int .i64 0, .int .i64 0, .slice none 0 0] 24 (0, 0))
theorem MRV.keep {w wr wy : World} {t : Tm} {tv : Value} (H : MRV w wr t tv) (hb : Below wr.heap.size wr wy) : MRV w wy t tv := ⟨below_next H.below hb, heap_kept hb H.hf, heap_kept hb H.hr⟩

/-- the second loop of the reference's Many -/
structure MRL (w wr : World) (C : Nat) (G : Out Tm) (F : Nat → Tm → Nat → Out Tm) (j : Nat) (f : Tm) (fv : Value) (cj : Nat) : Prop where
  v : MRV w wr f fv
  cnt : cntR C cj wr
  bC : w.heap.size + 1 < C
  bd : cj ≤ 20000
  lf : Lies wr (fun b => b ≠ C ∧ b ≠ w.heap.size ∧ b ≠ w.heap.size + 1) fv f.args
  pr : Tm.proper f = true
  sofar : G = F j f cj
theorem MRL.keep {w wr wy : World} {C : Nat} {G : Out Tm} {F : Nat → Tm → Nat → Out Tm} {j : Nat} {f : Tm} {fv : Value} {cj : Nat} (H : MRL w wr C G F j f fv cj) (hb : Below wr.heap.size wr wy) : MRL w wy C G F j f fv cj :=
  ⟨H.v.keep hb, heap_kept hb H.cnt, H.bC, H.bd, H.lf.keep hb, H.pr, H.sofar⟩
theorem MRL.next {w wr wx : World} {C X : Nat} {G : Out Tm} {F : Nat → Tm → Nat → Out Tm} {j : Nat} {f x : Tm} {fv v : Value} {cj c' : Nat} (H : MRL w wr C G F j f fv cj) (P : PX wr wx C X x v c') (hcb : c' ≤ 20000) (hpx : Tm.proper x = true) (hnx : G = F (j + 1) x c') :
    MRL w ((((wx.setCell ⟨w.heap.size, 0, none⟩ (.int .i64 x.op)).setCell ⟨w.heap.size, 1, none⟩ (.int .i64 x.hd)).setCell ⟨w.heap.size, 2, none⟩ (.int .i64 x.n)).setCell ⟨w.heap.size, 3, none⟩ v) C G F (j + 1) x v c' := by
  have lC := lt_blk H.cnt
  have bC := H.bC
  have hb : Below w.heap.size w wx := Only.fresh P.only H.v.below (by omega)
  have h0 : w.heap.size ≤ w.heap.size := Nat.le_refl _
  refine ⟨⟨(((hb.setCell h0 _).setCell h0 _).setCell h0 _).setCell h0 _, set4_at (Only.keepBlock P.only H.v.hf (by omega)) _ _ _ _, (set4_other _ _ _ _ (by omega)).trans (Only.keepBlock P.only H.v.hr (by omega))⟩, (set4_other _ _ _ _ (by omega)).trans P.cnt, bC, hcb, ?_, hpx, hnx⟩
  refine (P.lies.still fun b hS _ => set4_other _ _ _ _ ?_).more fun b _ hS => ?_
  · have hS' : wr.heap.size ≤ b := hS; have := lt_blk H.v.hr; omega
  · have hS' : wr.heap.size ≤ b := hS; have := lt_blk H.v.hr; exact ⟨by omega, by omega, by omega⟩

/-- what the region of put's call reads -/
abbrev CellsH (W : World) (A X b bo : Nat) (a0 a1 a2 a3 x0 x1 x2 x3 e0 e1 : Value) : Prop :=
  W.cell? ⟨A, 0, none⟩ = some a0 ∧ W.cell? ⟨A, 1, none⟩ = some a1 ∧ W.cell? ⟨A, 2, none⟩ = some a2 ∧ W.cell? ⟨A, 3, none⟩ = some a3 ∧ W.cell? ⟨X, 0, none⟩ = some x0 ∧ W.cell? ⟨X, 1, none⟩ = some x1 ∧ W.cell? ⟨X, 2, none⟩ = some x2 ∧ W.cell? ⟨X, 3, none⟩ = some x3 ∧ W.cell? ⟨b, bo, none⟩ = some e0 ∧ W.cell? ⟨b, bo + 1, none⟩ = some e1
section
variable {W W' : World} {A X b bo C R : Nat} {a0 a1 a2 a3 x0 x1 x2 x3 e0 e1 u0 u1 u2 u3 : Value}
theorem cellsH_below (hb : Below W.heap.size W W') (x : CellsH W A X b bo a0 a1 a2 a3 x0 x1 x2 x3 e0 e1) : CellsH W' A X b bo a0 a1 a2 a3 x0 x1 x2 x3 e0 e1 := by
  obtain ⟨x1, x2, x3, x4, x5, x6, x7, x8, x9, x10⟩ := x
  exact ⟨kept_cell hb x1, kept_cell hb x2, kept_cell hb x3, kept_cell hb x4, kept_cell hb x5, kept_cell hb x6, kept_cell hb x7, kept_cell hb x8, kept_cell hb x9, kept_cell hb x10⟩
theorem cellsH_by (hA : W'.heap[A]? = W.heap[A]?) (hX : W'.heap[X]? = W.heap[X]?) (hb : W'.heap[b]? = W.heap[b]?) (x : CellsH W A X b bo a0 a1 a2 a3 x0 x1 x2 x3 e0 e1) : CellsH W' A X b bo a0 a1 a2 a3 x0 x1 x2 x3 e0 e1 := by
  have go : ∀ b, W'.heap[b]? = W.heap[b]? → ∀ j u, W.cell? ⟨b, j, none⟩ = some u → W'.cell? ⟨b, j, none⟩ = some u := fun b hb j u e => by rw [World.cell?_of_block (w := W) hb]; exact e
  obtain ⟨x1, x2, x3, x4, x5, x6, x7, x8, x9, x10⟩ := x
  exact ⟨go _ hA _ _ x1, go _ hA _ _ x2, go _ hA _ _ x3, go _ hA _ _ x4, go _ hX _ _ x5, go _ hX _ _ x6, go _ hX _ _ x7, go _ hX _ _ x8, go _ hb _ _ x9, go _ hb _ _ x10⟩
theorem cellsH_only (h : A ≠ C ∧ X ≠ C ∧ b ≠ C) (l : A < W.heap.size ∧ X < W.heap.size ∧ b < W.heap.size) (ho : Only C W W') (x : CellsH W A X b bo a0 a1 a2 a3 x0 x1 x2 x3 e0 e1) : CellsH W' A X b bo a0 a1 a2 a3 x0 x1 x2 x3 e0 e1 :=
  cellsH_by (ho.block _ l.1 h.1) (ho.block _ l.2.1 h.2.1) (ho.block _ l.2.2 h.2.2) x
theorem cellsH_four (h : A ≠ R ∧ X ≠ R ∧ b ≠ R) (x : CellsH W A X b bo a0 a1 a2 a3 x0 x1 x2 x3 e0 e1) : CellsH ((((W.setCell ⟨R, 0, none⟩ u0).setCell ⟨R, 1, none⟩ u1).setCell ⟨R, 2, none⟩ u2).setCell ⟨R, 3, none⟩ u3) A X b bo a0 a1 a2 a3 x0 x1 x2 x3 e0 e1 :=
  cellsH_by (set4_other _ _ _ _ h.1) (set4_other _ _ _ _ h.2.1) (set4_other _ _ _ _ h.2.2) x
end

theorem manyR_zero {w wr : World} {t : Tm} {tv : Value} {e : Int} {a : Act} (H : MRV w wr t tv) (ha : a.tmps[6]? = some (.pointer (some ⟨w.heap.size + 1, 0, none⟩)) ∧ a.tmps[7]? = some (.int .i64 e) ∧ a.defers = []) :
    bodyPost Try.prog Try.f26 (GivesEA w (Tm.zero, e)) .ret a ((((wr.setCell ⟨w.heap.size + 1, 0, none⟩ (.int .i64 0)).setCell ⟨w.heap.size + 1, 1, none⟩ (.int .i64 0)).setCell ⟨w.heap.size + 1, 2, none⟩ (.int .i64 0)).setCell ⟨w.heap.size + 1, 3, none⟩ (.slice none 0 0)) := by
  obtain ⟨h8, h9, hd⟩ := ha
  obtain ⟨z0, z1, z2, z3⟩ := c4_of (set4_at H.hr (.int .i64 0) (.int .i64 0) (.int .i64 0) (.slice none 0 0))
  refine bodyPost_ret (v := .tuple #[.agg #[.int .i64 0, .int .i64 0, .int .i64 0, .slice none 0 0], .int .i64 e]) (by simp [results, Try.results26, go_sem, h8, h9, z0, z1, z2, z3]) hd ?_
  have h4 : w.heap.size ≤ w.heap.size + 1 := by omega
  obtain ⟨v, e1, e2, e3⟩ := givesE_zero (w := w) (x := e) rfl ((((H.below.setCell h4 (p := ⟨w.heap.size + 1, 0, none⟩) (.int .i64 0)).setCell h4 (p := ⟨w.heap.size + 1, 1, none⟩) (.int .i64 0)).setCell h4 (p := ⟨w.heap.size + 1, 2, none⟩) (.int .i64 0)).setCell h4 (p := ⟨w.heap.size + 1, 3, none⟩) (.slice none 0 0))
  exact ⟨v, e1, e2, e3.more fun _ _ _ => trivial⟩

set_option maxHeartbeats 4000000 in
set_option maxRecDepth 100000 in
theorem manyRF_bad (t : Tm) (l : List Tm) (Ss : List Sp.Tm) (tv lv qv : Value) (w : World) (lt : Lies w (fun _ => True) tv t.args) (ll : Lies w (fun _ => True) lv l) (lq : Sp.Lies w (fun _ => True) qv Ss)
    (hbad : (Tm.proper t && okList l && decide (Ss.length = l.length)) = false) :
    Calls Try.prog 26 #[.agg #[.int .i64 t.op, .int .i64 t.hd, .int .i64 t.n, tv], lv, qv] w (GivesEA w (Tm.zero, 2)) := by
  obtain ⟨a1, n1, m1, rfl⟩ := lt.isSlice
  obtain ⟨ao, b, off, len, cap, oo, hh, kk, sv, tt, rfl, R⟩ := ll.open
  obtain ⟨aq, bq, oq, lenq, capq, kq, sq, tq2, rfl, RQ⟩ := lq.open
  have h2 := two_blocks w #[.int .i64 t.op, .int .i64 t.hd, .int .i64 t.n, .slice a1 n1 m1] #[.int .i64 0, .int .i64 0, .int .i64 0, .slice none 0 0] 24 24
  have hb2 := two_below w (.cells #[.int .i64 t.op, .int .i64 t.hd, .int .i64 t.n, .slice a1 n1 m1] 24) (.cells #[.int .i64 0, .int .i64 0, .int .i64 0, .slice none 0 0] 24)
  have c1 : ∀ w1, Below w.heap.size w w1 → _ := fun w1 hb => proper_t t (fun _ => True) (.slice a1 n1 m1) w1 (lt.keep hb)
  have c3 : ∀ w1, Below w.heap.size w w1 → _ := fun w1 hb => listR_any (.slice ao len cap) l w1 (ll.keep hb)
  have hn2 := R.length
  have hn3 := RQ.length
  have HV : Hid (MRV w ((w.alloc (.cells #[.int .i64 t.op, .int .i64 t.hd, .int .i64 t.n, .slice a1 n1 m1] 24)).alloc (.cells #[.int .i64 0, .int .i64 0, .int .i64 0, .slice none 0 0] 24)) t (.slice a1 n1 m1)) := Lib.hid ⟨hb2, h2.1, h2.2⟩
  obtain ⟨x0, x1, x2, x3⟩ := c4_of h2.1
  have ways : Tm.proper t = false ∨ (Tm.proper t = true ∧ okList l = false) ∨ (Tm.proper t = true ∧ okList l = true ∧ len ≠ lenq) := by
    revert hbad
    rw [hn2, hn3]
    cases Tm.proper t <;> cases okList l <;> by_cases h : lenq = len <;> simp [h] <;> omega
  clear h2 hbad hb2 lt ll lq R RQ hn2 hn3
  rcases ways with k1 | ⟨k1, k3⟩ | ⟨k1, k3, k4⟩
  · simp only [k1] at c1
    clear k1 c3
    go_enter Try.func26, Try.ntmps26
    go_wp2_with fail
    refine (c1 _ HV.out.below).mono ?_
    rintro e w1 ⟨rfl, hb1⟩
    have HV1 := Lib.hid (HV.out.keep hb1)
    clear x0 x1 x2 x3 hb1 HV c1
    obtain ⟨y0, y1, y2, y3⟩ := c4_of HV1.out.hr
    have f0 := free_in HV1.out.hr 0
    have f1 := free_in HV1.out.hr 1
    have f2 := free_in HV1.out.hr 2
    have f3 := free_in HV1.out.hr 3
    go_wp2_with fail
    exact manyR_zero HV1.out ⟨rfl, rfl, rfl⟩
  · simp only [k1] at c1
    simp only [k3] at c3
    clear k1 k3
    go_enter Try.func26, Try.ntmps26
    go_wp2_with fail
    refine (c1 _ HV.out.below).mono ?_
    rintro e w1 ⟨rfl, hb1⟩
    have HV1 := Lib.hid (HV.out.keep hb1)
    clear x0 x1 x2 x3 hb1 HV c1
    go_wp2_with fail
    refine (c3 _ HV1.out.below).mono ?_
    rintro e w2 ⟨rfl, hb2⟩
    have HV2 := Lib.hid (HV1.out.keep hb2)
    clear hb2 HV1 c3
    obtain ⟨y0, y1, y2, y3⟩ := c4_of HV2.out.hr
    have f0 := free_in HV2.out.hr 0
    have f1 := free_in HV2.out.hr 1
    have f2 := free_in HV2.out.hr 2
    have f3 := free_in HV2.out.hr 3
    go_wp2_with fail
    exact manyR_zero HV2.out ⟨rfl, rfl, rfl⟩
  · simp only [k1] at c1
    simp only [k3] at c3
    clear k1 k3
    have hne2 : ¬ ((lenq : Int) = (len : Int)) := by omega
    have hne3 : ((lenq : Int) != (len : Int)) = true := by simp; omega
    clear k4
    go_enter Try.func26, Try.ntmps26
    go_wp2_with fail
    refine (c1 _ HV.out.below).mono ?_
    rintro e w1 ⟨rfl, hb1⟩
    have HV1 := Lib.hid (HV.out.keep hb1)
    clear x0 x1 x2 x3 hb1 HV c1
    go_wp2_with fail
    refine (c3 _ HV1.out.below).mono ?_
    rintro e w2 ⟨rfl, hb2⟩
    have HV2 := Lib.hid (HV1.out.keep hb2)
    clear hb2 HV1 c3
    obtain ⟨y0, y1, y2, y3⟩ := c4_of HV2.out.hr
    have f0 := free_in HV2.out.hr 0
    have f1 := free_in HV2.out.hr 1
    have f2 := free_in HV2.out.hr 2
    have f3 := free_in HV2.out.hr 3
    go_wp2_with fail
    exact manyR_zero HV2.out ⟨rfl, rfl, rfl⟩

set_option maxHeartbeats 16000000 in
set_option maxRecDepth 100000 in
theorem manyRF_rest (t : Tm) (l : List Tm) (Ss : List Sp.Tm) (tv lv qv : Value) (w : World) (lt : Lies w (fun _ => True) tv t.args) (ll : Lies w (fun _ => True) lv l) (lq : Sp.Lies w (fun _ => True) qv Ss)
    (k1 : Tm.proper t = true) (k3 : okList l = true) (k4 : Ss.length = l.length) :
    Calls Try.prog 26 #[.agg #[.int .i64 t.op, .int .i64 t.hd, .int .i64 t.n, tv], lv, qv] w (GivesEA w (if Ss.all Sp.Tm.small then outOf (manyO l Ss t 0) else (Tm.zero, 2))) := by
  obtain ⟨a1, n1, m1, rfl⟩ := lt.isSlice
  obtain ⟨ao, b, off, len, cap, oo, hh, kk, sv, tt, rfl, R⟩ := ll.open
  obtain ⟨aq, bq, oq, lenq, capq, kq, sq, tq2, rfl, RQ⟩ := lq.open
  have h2 := two_blocks w #[.int .i64 t.op, .int .i64 t.hd, .int .i64 t.n, .slice a1 n1 m1] #[.int .i64 0, .int .i64 0, .int .i64 0, .slice none 0 0] 24 24
  have hb2 := two_below w (.cells #[.int .i64 t.op, .int .i64 t.hd, .int .i64 t.n, .slice a1 n1 m1] 24) (.cells #[.int .i64 0, .int .i64 0, .int .i64 0, .slice none 0 0] 24)
  have c1 : ∀ w1, Below w.heap.size w w1 → _ := fun w1 hb => proper_t t (fun _ => True) (.slice a1 n1 m1) w1 (lt.keep hb)
  have c3 : ∀ w1, Below w.heap.size w w1 → _ := fun w1 hb => listR_any (.slice ao len cap) l w1 (ll.keep hb)
  have hn2 := R.length
  have hn3 := RQ.length
  have HV : Hid (MRV w ((w.alloc (.cells #[.int .i64 t.op, .int .i64 t.hd, .int .i64 t.n, .slice a1 n1 m1] 24)).alloc (.cells #[.int .i64 0, .int .i64 0, .int .i64 0, .slice none 0 0] 24)) t (.slice a1 n1 m1)) := Lib.hid ⟨hb2, h2.1, h2.2⟩
  obtain ⟨x0, x1, x2, x3⟩ := c4_of h2.1
  obtain rfl : lenq = len := by rw [← hn2, ← hn3, k4]
  have hk : l.length ≤ 600 ∧ ∀ x ∈ l, Tm.proper x = true := by
    have h := k3
    simp only [okList, Bool.and_eq_true, decide_eq_true_eq, List.all_eq_true] at h
    exact h
  have hlen : lenq ≤ 600 := by rw [← hn2]; exact hk.1
  have hlc := R.hl
  have hcap := R.hr
  have hlcq := RQ.hl
  have hcapq := RQ.hr
  have HR := Lib.hid R
  have HRQ := Lib.hid RQ
  have HP := Lib.hid (And.intro k1 hk.2)
  have HLT := Lib.hid lt
  have HLQ := Lib.hid lq
  obtain ⟨Gz, hGz⟩ : ∃ G, G = (if Ss.all Sp.Tm.small then outOf (manyO l Ss t 0) else (Tm.zero, 2)) := ⟨_, rfl⟩
  have HG := Lib.hid hGz
  rw [← hGz]
  simp only [k1] at c1
  simp only [k3] at c3
  clear h2 hb2 lt ll lq R RQ hk k1 k3 k4 hn2 hn3 hGz
  go_enter Try.func26, Try.ntmps26
  go_wp2_with fail
  refine (c1 _ HV.out.below).mono ?_
  rintro e w1 ⟨rfl, hb1⟩
  have HV1 := Lib.hid (HV.out.keep hb1)
  clear x0 x1 x2 x3 hb1 c1 HV
  go_wp2_with fail
  refine (c3 _ HV1.out.below).mono ?_
  rintro e w2 ⟨rfl, hb2⟩
  have HV2 := Lib.hid (HV1.out.keep hb2)
  clear hb2 c3 HV1
  go_wp2_with fail
  go_loopw [8] (fun i wr => ∃ k : Nat, k ≤ lenq ∧ i = .int .i64 k ∧ SmTo Ss k ∧ MRV w wr t (.slice a1 n1 m1)) (fun i _ => lenq - (intOf i).toNat)
  case atStart => exact ⟨0, Nat.zero_le _, rfl, SmTo.zero _, HV2.out⟩
  case round =>
    obtain ⟨k, hk, rfl, hno, V⟩ := hrel
    have HNO := Lib.hid hno
    have HVK := Lib.hid V
    clear hno V
    by_cases hlt : k < lenq
    · obtain rfl := HRQ.out.hao (by omega)
      obtain ⟨d0, d1, hsub⟩ := HRQ.out.at HVK.out.below k hlt
      obtain ⟨a2, n2, m2, hs2⟩ := hsub.isSlice
      rw [hs2] at d0 hsub
      clear hs2
      have hkl : k < Ss.length := by rw [HRQ.out.length]; exact hlt
      have call := smallR_any (kq k) (.slice a2 n2 m2) (tq2 k) wr hsub
      have hk0 : (0 : Int) ≤ (k : Int) := by omega
      have hk1 : (k : Int) < (lenq : Int) := by omega
      have hg : Ss[k]'hkl = .mk (kq k) (tq2 k) := HRQ.out.get k hlt
      rcases hp : Sp.Tm.small (.mk (kq k) (tq2 k)) with _ | _
      · have hna := SmTo.not hkl (by rw [hg]; exact hp)
        have HN : Hid (Gz = (Tm.zero, 2)) := Lib.hid (by rw [HG.out, hna]; rfl)
        rw [hp] at call
        clear hp hg hna
        go_wp2_with fail
        refine call.mono ?_
        rintro e w3 ⟨rfl, hb3⟩
        have HV3 := Lib.hid (HVK.out.keep hb3)
        clear hb3 call d0 d1 hsub
        obtain ⟨y0, y1, y2, y3⟩ := c4_of HV3.out.hr
        have f0 := free_in HV3.out.hr 0
        have f1 := free_in HV3.out.hr 1
        have f2 := free_in HV3.out.hr 2
        have f3 := free_in HV3.out.hr 3
        go_wp2_with fail
        rw [HN.out]
        exact manyR_zero HV3.out ⟨rfl, rfl, rfl⟩
      · have HN := Lib.hid (HNO.out.step hkl (by rw [hg]; exact hp))
        rw [hp] at call
        clear hp hg
        go_wp2_with fail
        refine call.mono ?_
        rintro e w3 ⟨rfl, hb3⟩
        have HV3 := Lib.hid (HVK.out.keep hb3)
        clear hb3 call d0 d1 hsub
        go_wp2_with fail
        go_roundw
        case rel => exact ⟨k + 1, by omega, by go_num, HN.out, HV3.out⟩
        case measure => simp [intOf]; omega
    · obtain rfl : k = lenq := by omega
      have hall := HNO.out.all (by rw [HRQ.out.length]; exact Nat.le_refl _)
      have hkn : ¬ (k : Int) < (k : Int) := by omega
      have HN : Hid (Gz = outOf (manyO l Ss t 0)) := Lib.hid (by rw [HG.out, hall]; rfl)
      clear hall
      have hbC := one_below wr (.cells #[.int .i64 0] 85)
      have hst : MRL w (wr.alloc (.cells #[.int .i64 0] 85)) wr.heap.size (manyO l Ss t 0) (fun j f c => manyO (l.drop j) (Ss.drop j) f c) 0 t (.slice a1 n1 m1) 0 :=
        ⟨HVK.out.keep hbC, heap_alloc_new _ _, lt_blk HVK.out.hr, by omega, (HLT.out.more fun b hlt _ => by have := lt_blk HVK.out.hr; omega).keep (below_next HVK.out.below hbC), HP.out.1, rfl⟩
      have HST := Lib.hid hst
      clear hst hbC
      go_wp2_with fail
      generalize wr.heap.size = C at *
      generalize wr.alloc (.cells #[.int .i64 0] 85) = w3 at *
      go_loopw [10] (fun i wr => ∃ (j : Nat) (f : Tm) (fv : Value) (cj : Nat), j ≤ k ∧ i = .int .i64 j ∧ MRL w wr C (manyO l Ss t 0) (fun j f c => manyO (l.drop j) (Ss.drop j) f c) j f fv cj) (fun i _ => k - (intOf i).toNat)
      case atStart => exact ⟨0, _, _, 0, Nat.zero_le _, rfl, HST.out⟩
      case round =>
        obtain ⟨j, f, fv, cj, hj, rfl, K⟩ := hrel
        obtain ⟨a6, n6, m6, rfl⟩ := K.lf.isSlice
        by_cases hlt : j < k
        · have hjl : j < l.length := by rw [HR.out.length]; exact hlt
          have hjq : j < Ss.length := by rw [HRQ.out.length]; exact hlt
          have hj0 : (0 : Int) ≤ (j : Int) := by omega
          have hj1 : (j : Int) < (k : Int) := by omega
          obtain rfl := HR.out.hao (by omega)
          obtain rfl := HRQ.out.hao (by omega)
          obtain ⟨d0, d1, d2, d3, hsub⟩ := HR.out.at K.v.below j hlt
          obtain ⟨a5, n5, m5, hs5⟩ := hsub.isSlice
          rw [hs5] at d3 hsub
          obtain ⟨a7, n7, m7, hs7⟩ := (HRQ.out.sub j hlt).isSlice
          have hg : l[j]'hjl = .mk (oo j) (hh j) (kk j) (tt j) := HR.out.get j hlt
          have hgq : Ss[j]'hjq = .mk (kq j) (tq2 j) := HRQ.out.get j hlt
          have hpj := HP.out.2 _ (List.getElem_mem hjl)
          rw [hg] at hpj
          have hsf := manyO_drop hjl hjq K.sofar
          have hleft : ((l.length - 1 - j : Nat) : Int) = (k : Int) - 1 - (j : Int) := by rw [HR.out.length]; omega
          rw [hg, hgq, hleft] at hsf
          obtain ⟨mo, mh, mk, ml, hmv⟩ : ∃ a b c d, Tm.moved ((k : Int) - 1 - (j : Int)) 0 (.mk (oo j) (hh j) (kk j) (tt j)) = .mk a b c d := ⟨_, _, _, _, (tm_eq _).symm⟩
          rw [hmv] at hsf
          have call1 := raised_any (.mk (oo j) (hh j) (kk j) (tt j)) ((k : Int) - 1 - (j : Int)) (.slice a5 n5 m5) wr hpj (by omega) (by omega) hsub
          unfold GivesT at call1
          rw [hmv] at call1
          simp only [Tm.op, Tm.hd, Tm.n, Tm.args] at call1
          have HK := Lib.hid K
          clear hg hgq hleft hmv hs5 hpj K
          rcases hpm : Tm.proper (.mk mo mh mk ml) with _ | _
          · simp only [hpm, Bool.false_eq_true, if_false] at hsf
            have HSF := Lib.hid hsf
            have call2 := fun (v : Value) (w1 : World) (hv : Lies w1 (wr.heap.size ≤ ·) v ml) => wholeR_any (.mk mo mh mk ml) v w1 (wr.heap.size ≤ ·) hv
            simp only [hpm, Bool.false_eq_true, if_false, Tm.op, Tm.hd, Tm.n] at call2
            clear hpm hsf
            go_wp2_with fail
            refine call1.mono ?_
            rintro e w4 ⟨v4, rfl, hb4, L4⟩
            obtain ⟨a9, n9, m9, rfl⟩ := L4.isSlice
            go_wp2_with fail
            refine (call2 _ _ L4).mono ?_
            rintro e w5 ⟨rfl, hb5⟩
            have HV5 := Lib.hid ((HK.out.v.keep hb4).keep hb5)
            have HV6 := Lib.hid (HV5.out.keep (one_below w5 (.cells #[.int .i64 0, .int .i64 0, .int .i64 0, .slice none 0 0] 24)))
            clear hb4 hb5 L4 call1 call2 d0 d1 d2 d3 hsub
            obtain ⟨y0, y1, y2, y3⟩ := c4_of HV6.out.hr
            have f0 := free_in HV6.out.hr 0
            have f1 := free_in HV6.out.hr 1
            have f2 := free_in HV6.out.hr 2
            have f3 := free_in HV6.out.hr 3
            go_wp2_with fail
            rw [HN.out, HSF.out]
            exact manyR_zero HV6.out ⟨rfl, rfl, rfl⟩
          · simp only [hpm, if_true] at hsf
            have call2 := fun (v : Value) (w1 : World) (hv : Lies w1 (wr.heap.size ≤ ·) v ml) => wholeR_any (.mk mo mh mk ml) v w1 (wr.heap.size ≤ ·) hv
            simp only [hpm, if_true, Tm.op, Tm.hd, Tm.n] at call2
            have hgood := put_good (.mk (kq j) (tq2 j)) (.mk mo mh mk ml) 0 f cj HK.out.bd HK.out.pr
            have HSF := Lib.hid hsf
            have HPM := Lib.hid hpm
            clear hpm hsf
            go_wp2_with fail
            refine call1.mono ?_
            rintro e w4 ⟨v4, rfl, hb4, L4⟩
            obtain ⟨a9, n9, m9, rfl⟩ := L4.isSlice
            go_wp2_with fail
            refine (call2 _ _ L4).mono ?_
            rintro e w5 ⟨rfl, hb5⟩
            have hbX := one_below w5 (.cells #[.int .i64 mo, .int .i64 mh, .int .i64 mk, .slice a9 n9 m9] 24)
            have hX1 := heap_alloc_new w5 (.cells #[.int .i64 mo, .int .i64 mh, .int .i64 mk, .slice a9 n9 m9] 24)
            have hbw := below_next (below_next hb4 hb5) hbX
            have HCR := Lib.hid (lt_blk HK.out.cnt)
            have KW := HK.out.keep hbw
            have LX := (L4.keep hb5).keep hbX
            have hszw := (below_next hb4 hb5).size
            clear hb4 hb5 call1 call2 d0 d1 d2 d3 hsub L4 hbX HK
            go_upto_region 15 with fail
            generalize w5.heap.size = X1 at *
            generalize w5.alloc (.cells #[.int .i64 mo, .int .i64 mh, .int .i64 mk, .slice a9 n9 m9] 24) = wy at *
            obtain ⟨e0, e1, hsq⟩ := HRQ.out.at KW.v.below j hlt
            rw [hs7] at e0 hsq
            have hsq' : Sp.Lies wy (· ≠ C) (.slice a7 n7 m7) (tq2 j) := by
              have h1 := ((HRQ.out.sub j hlt).more (S' := (· ≠ C)) fun b hlt _ => by have := KW.bC; omega).keep KW.v.below
              rw [hs7] at h1
              exact h1
            have hbl : bq < w.heap.size := World.block_lt_of_cell? _ _ (HRQ.out.c0 j hlt)
            have bC := KW.bC
            have lC := lt_blk KW.cnt
            have hlx := lt_blk hX1
            obtain ⟨x0, x1, x2, x3⟩ := c4_of KW.v.hf
            have hS0 : CellsH wy w.heap.size X1 bq (oq + j * 2) (.int .i64 f.op) (.int .i64 f.hd) (.int .i64 f.n) (.slice a6 n6 m6) (.int .i64 mo) (.int .i64 mh) (.int .i64 mk) (.slice a9 n9 m9) (.slice a7 n7 m7) (.int .i64 (kq j)) := ⟨x0, x1, x2, x3, c4_of hX1 |>.1, c4_of hX1 |>.2.1, c4_of hX1 |>.2.2.1, c4_of hX1 |>.2.2.2, e0, e1⟩
            have lCr : C < wr.heap.size := HCR.out
            have call : ∀ w1, Below wy.heap.size wy w1 → Calls Try.prog 47 #[.pointer (some ⟨C, 0, none⟩), .agg #[.int .i64 f.op, .int .i64 f.hd, .int .i64 f.n, .slice a6 n6 m6], .int .i64 0, .agg #[.int .i64 mo, .int .i64 mh, .int .i64 mk, .slice a9 n9 m9], .agg #[.slice a7 n7 m7, .int .i64 (kq j)]] w1 (GivesR (w1.heap.size ≤ ·) w1 C (put (.mk (kq j) (tq2 j)) (.mk mo mh mk ml) 0 f cj)) := fun w1 hb =>
              putR_any C (kq j) (tq2 j) (.mk mo mh mk ml) HPM.out (.slice a9 n9 m9) (.slice a7 n7 m7) f 0 cj w1 (.slice a6 n6 m6) ((KW.lf.more fun _ _ hS => hS.1).keep hb) ((LX.more fun b _ hS => by have hS' : wr.heap.size ≤ b := hS; omega).keep hb) (hsq'.keep hb) (heap_kept hb KW.cnt) KW.bd (by omega) (by have := (Tm.proper_two KW.pr).1; omega) KW.pr
            have HD : Hid (Below wy.heap.size wy wy.drew ∧ Below wy.heap.size wy (wy.alloc (.cells #[.int .i64 0, .int .i64 0, .int .i64 0, .slice none 0 0] 24)).drew ∧ (wy.alloc (.cells #[.int .i64 0, .int .i64 0, .int .i64 0, .slice none 0 0] 24)).drew.heap[wy.heap.size]? = some (.cells #[.int .i64 0, .int .i64 0, .int .i64 0, .slice none 0 0] 24 (0, 0)) ∧ wy.heap.size ≠ C) := Lib.hid ⟨(Below.refl _ _).drew, (one_below _ _).drew, heap_alloc_new wy _, by omega⟩
            have hwr : w.heap.size + 1 < wy.heap.size := lt_blk KW.v.hr
            have HXX : Hid (w.heap.size ≠ wy.heap.size ∧ X1 ≠ wy.heap.size ∧ bq ≠ wy.heap.size) := Lib.hid (by omega)
            have HNE : Hid ((w.heap.size ≠ C ∧ X1 ≠ C ∧ bq ≠ C) ∧ (w.heap.size < wy.heap.size ∧ X1 < wy.heap.size ∧ bq < wy.heap.size)) := Lib.hid (by omega)
            have HCL : Hid (C < wy.heap.size) := Lib.hid lC
            have HKW := Lib.hid KW
            have HWR := Lib.hid hwr
            obtain ⟨r, hr⟩ : ∃ r, r = put (.mk (kq j) (tq2 j)) (.mk mo mh mk ml) 0 f cj := ⟨_, rfl⟩
            have hsf2 := HSF.out
            rw [← hr] at hsf2 call hgood
            have HSF2 := Lib.hid hsf2
            clear hsf2
            clear hr HSF x0 x1 x2 x3 e0 e1 KW LX hX1 hsq hsq' hs7 hbl bC lC hwr lCr hlx hszw hbw
            rcases r with ⟨x, c'⟩ | x
            · have call2 : ∀ w1, Below wy.heap.size wy w1 → Calls Try.prog 47 #[.pointer (some ⟨C, 0, none⟩), .agg #[.int .i64 f.op, .int .i64 f.hd, .int .i64 f.n, .slice a6 n6 m6], .int .i64 0, .agg #[.int .i64 mo, .int .i64 mh, .int .i64 mk, .slice a9 n9 m9], .agg #[.slice a7 n7 m7, .int .i64 (kq j)]] w1 fun e w2 => ∃ a8 n8 m8, e = .returned (.tuple #[.agg #[.int .i64 x.op, .int .i64 x.hd, .int .i64 x.n, .slice a8 n8 m8], .int .i64 0]) ∧ Only C w1 w2 ∧ Only C wy w2 ∧ cntR C c' w2 ∧ Lies w2 (w1.heap.size ≤ ·) (.slice a8 n8 m8) x.args := fun w1 hb => by
                have h := call w1 hb
                unfold GivesR at h
                refine h.mono fun e w2 hx => ?_
                obtain ⟨v6, rfl, ho, hc, L⟩ := hx
                obtain ⟨a8, n8, m8, rfl⟩ := L.isSlice
                exact ⟨a8, n8, m8, rfl, ho, (Only.below hb C).trans ho, hc, L⟩
              have HSF := Lib.hid (And.intro HSF2.out hgood)
              clear call hgood HSF2
              go_cut [13, 14] (fun p e wx => ∃ X a8 n8 m8, p = .pointer (some ⟨X, 0, none⟩) ∧ e = .int .i64 0 ∧ PX wy wx C X x (.slice a8 n8 m8) c')
              case first =>
                go_region_held3 (fun W => CellsH W w.heap.size X1 bq (oq + j * 2) (.int .i64 f.op) (.int .i64 f.hd) (.int .i64 f.n) (.slice a6 n6 m6) (.int .i64 mo) (.int .i64 mh) (.int .i64 mk) (.slice a9 n9 m9) (.slice a7 n7 m7) (.int .i64 (kq j)))
                  (first | (with_reducible exact cellsH_four HXX.out hcn) | (with_reducible exact hS0) | (with_reducible exact hcn) | (with_reducible exact cellsH_below HD.out.1 hS0) | (with_reducible exact cellsH_below HD.out.2.1 hS0) | (with_reducible exact cellsH_below (one_below _ _) hcn) | (with_reducible exact cellsH_below (one_below _ _) (by assumption)) | fail)
                  (first
                    | (go_at_call 47; (with_reducible refine (call2 _ ?_).mono ?_); (first | (with_reducible exact HD.out.1) | (with_reducible exact HD.out.2.1) | fail); rintro e w2 ⟨a8, n8, m8, rfl, ho2, ho3, hc2, L2⟩; have hcn := cellsH_only HNE.out.1 HNE.out.2 ho3 hS0; have HPO := Lib.hid (And.intro ho3 (And.intro hc2 L2)); (clear hc2 L2); (first | ((refine use_fact (p := w2.heap[wy.heap.size]? = some (.cells #[.int .i64 0, .int .i64 0, .int .i64 0, .slice none 0 0] 24 (0, 0))) ?_ (fun zX => ?_)); (focus (with_reducible exact Only.keepBlock ho2 HD.out.2.2.1 HD.out.2.2.2)); obtain ⟨y0, y1, y2, y3⟩ := c4_of zX; have g0 := free_in zX 0; have g1 := free_in zX 1; have g2 := free_in zX 2; have g3 := free_in zX 3; have HZX := Lib.hid zX; (clear zX)) | skip))
                    | fail)
                all_goals
                  go_wp2_with fail
                  go_meet
                  case rel =>
                    first
                      | (refine ⟨_, _, _, _, rfl, rfl, PX.set HCL.out HPO.out.1 HPO.out.2.1 HZX.out (Nat.le_refl _) ?_⟩; exact HPO.out.2.2.more fun b hlt hS => ⟨by simp at hS; omega, by simp at hS; omega⟩)
                      | (refine ⟨_, _, _, _, rfl, rfl, PX.new HCL.out HPO.out.1 HPO.out.2.1 ?_⟩; exact HPO.out.2.2)
                      | fail
              case rest =>
                obtain ⟨X, a8, n8, m8, rfl, rfl, P⟩ := hcut
                obtain ⟨y0, y1, y2, y3⟩ := c4_of P.hX
                have hf := Only.keepBlock P.only HKW.out.v.hf HNE.out.1.1
                have z := c4_of hf
                obtain ⟨z0, z1, z2, z3⟩ := z
                have f0 := free_in hf 0
                have f1 := free_in hf 1
                have f2 := free_in hf 2
                have f3 := free_in hf 3
                have hnx := HKW.out.next P HSF.out.2.2.2 HSF.out.2.1 HSF.out.1
                have HNX := Lib.hid hnx
                clear hnx hf P call2 hS0
                go_wp2_with fail
                go_roundw
                case rel => exact ⟨j + 1, x, .slice a8 n8 m8, c', by omega, by go_num, HNX.out⟩
                case measure => simp [intOf]; omega
            · have call2 : ∀ w1, Below wy.heap.size wy w1 → Calls Try.prog 47 #[.pointer (some ⟨C, 0, none⟩), .agg #[.int .i64 f.op, .int .i64 f.hd, .int .i64 f.n, .slice a6 n6 m6], .int .i64 0, .agg #[.int .i64 mo, .int .i64 mh, .int .i64 mk, .slice a9 n9 m9], .agg #[.slice a7 n7 m7, .int .i64 (kq j)]] w1 fun e w2 => e = .returned (.tuple #[.agg #[.int .i64 0, .int .i64 0, .int .i64 0, .slice none 0 0], .int .i64 x]) ∧ Only C w1 w2 ∧ Only C wy w2 := fun w1 hb => by
                have h := call w1 hb
                unfold GivesR at h
                refine h.mono fun e w2 hx => ?_
                obtain ⟨rfl, ho⟩ := hx
                exact ⟨rfl, ho, (Only.below hb C).trans ho⟩
              have HSF := Lib.hid (And.intro HSF2.out hgood)
              clear call hgood HSF2
              go_cut [13, 14] (fun p e wx => ∃ X, p = .pointer (some ⟨X, 0, none⟩) ∧ e = .int .i64 x ∧ Only C wy wx)
              case first =>
                go_region_held3 (fun W => CellsH W w.heap.size X1 bq (oq + j * 2) (.int .i64 f.op) (.int .i64 f.hd) (.int .i64 f.n) (.slice a6 n6 m6) (.int .i64 mo) (.int .i64 mh) (.int .i64 mk) (.slice a9 n9 m9) (.slice a7 n7 m7) (.int .i64 (kq j)))
                  (first | (with_reducible exact cellsH_four HXX.out hcn) | (with_reducible exact hS0) | (with_reducible exact hcn) | (with_reducible exact cellsH_below HD.out.1 hS0) | (with_reducible exact cellsH_below HD.out.2.1 hS0) | (with_reducible exact cellsH_below (one_below _ _) hcn) | (with_reducible exact cellsH_below (one_below _ _) (by assumption)) | fail)
                  (first
                    | (go_at_call 47; (with_reducible refine (call2 _ ?_).mono ?_); (first | (with_reducible exact HD.out.1) | (with_reducible exact HD.out.2.1) | fail); rintro e w2 ⟨rfl, ho2, ho3⟩; have hcn := cellsH_only HNE.out.1 HNE.out.2 ho3 hS0; have HPO := Lib.hid ho3; (first | ((refine use_fact (p := w2.heap[wy.heap.size]? = some (.cells #[.int .i64 0, .int .i64 0, .int .i64 0, .slice none 0 0] 24 (0, 0))) ?_ (fun zX => ?_)); (focus (with_reducible exact Only.keepBlock ho2 HD.out.2.2.1 HD.out.2.2.2)); obtain ⟨y0, y1, y2, y3⟩ := c4_of zX; have g0 := free_in zX 0; have g1 := free_in zX 1; have g2 := free_in zX 2; have g3 := free_in zX 3; have HZX := Lib.hid zX; (clear zX)) | skip))
                    | fail)
                all_goals
                  go_wp2_with fail
                  go_meet
                  case rel =>
                    first
                      | exact ⟨_, rfl, rfl, PXE.set HPO.out⟩
                      | exact ⟨_, rfl, rfl, HPO.out.alloc _⟩
                      | fail
              case rest =>
                obtain ⟨X, rfl, rfl, P⟩ := hcut
                have V7 : MRV w _ f (.slice a6 n6 m6) := ⟨Only.fresh P HKW.out.v.below (by have := HKW.out.bC; omega), Only.keepBlock P HKW.out.v.hf HNE.out.1.1, Only.keepBlock P HKW.out.v.hr (by have := HKW.out.bC; omega)⟩
                have HV7 := Lib.hid V7
                clear V7 P
                obtain ⟨y0, y1, y2, y3⟩ := c4_of HV7.out.hr
                have f0 := free_in HV7.out.hr 0
                have f1 := free_in HV7.out.hr 1
                have f2 := free_in HV7.out.hr 2
                have f3 := free_in HV7.out.hr 3
                have hx0 : ¬ x = 0 := by rcases HSF.out.2 with h5 | h5 <;> omega
                have hne0 : (x != 0) = true := by simp [hx0]
                clear call2 hS0
                go_wp2_with fail
                rw [HN.out, HSF.out.1]
                exact manyR_zero HV7.out ⟨rfl, rfl, rfl⟩
        · obtain rfl : j = k := by omega
          have hsf := K.sofar
          simp only [List.drop_of_length_le (show l.length ≤ j by rw [HR.out.length]; exact Nat.le_refl _), manyO] at hsf
          have hj1 : ¬ (j : Int) < (j : Int) := by omega
          obtain ⟨x0, x1, x2, x3⟩ := c4_of K.v.hf
          have HK := Lib.hid K
          have HSF := Lib.hid hsf
          clear K hsf
          obtain ⟨y0, y1, y2, y3⟩ := c4_of HK.out.v.hr
          have f0 := free_in HK.out.v.hr 0
          have f1 := free_in HK.out.v.hr 1
          have f2 := free_in HK.out.v.hr 2
          have f3 := free_in HK.out.v.hr 3
          go_wp2_with fail
          rw [HN.out, HSF.out]
          have hz := set4_at HK.out.v.hr (.int .i64 f.op) (.int .i64 f.hd) (.int .i64 f.n) (.slice a6 n6 m6)
          obtain ⟨z0, z1, z2, z3⟩ := c4_of hz
          refine bodyPost_ret (v := .tuple #[.agg #[.int .i64 f.op, .int .i64 f.hd, .int .i64 f.n, .slice a6 n6 m6], .int .i64 0]) (by simp [results, Try.results26, go_sem, z0, z1, z2, z3]) rfl ?_
          have h4 : w.heap.size ≤ w.heap.size + 1 := by omega
          exact ⟨_, rfl, (((HK.out.v.below.setCell h4 _).setCell h4 _).setCell h4 _).setCell h4 _, (HK.out.lf.still fun b hS _ => set4_other _ _ _ _ hS.2.2).more fun _ _ _ => trivial⟩

/-- the contract of the reference's Many -/
theorem manyRF_any (t : Tm) (l : List Tm) (Ss : List Sp.Tm) (tv lv qv : Value) (w : World) (lt : Lies w (fun _ => True) tv t.args) (ll : Lies w (fun _ => True) lv l) (lq : Sp.Lies w (fun _ => True) qv Ss) :
    Calls Try.prog 26 #[.agg #[.int .i64 t.op, .int .i64 t.hd, .int .i64 t.n, tv], lv, qv] w (GivesEA w (manyOut t l Ss)) := by
  unfold manyOut
  rcases h : (Tm.proper t && okList l && decide (Ss.length = l.length)) with _ | _
  · rw [Bool.false_and]; exact manyRF_bad t l Ss tv lv qv w lt ll lq h
  · rw [Bool.true_and]
    simp only [Bool.and_eq_true, decide_eq_true_eq] at h
    exact manyRF_rest t l Ss tv lv qv w lt ll lq h.1.1 h.1.2 h.2
end Go.Proofs.Ytieakippgeehgaa.Sb
