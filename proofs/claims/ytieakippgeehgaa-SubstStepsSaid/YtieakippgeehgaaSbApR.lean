/- The contract of the reference's Apply. -/
import Derived.Test.YtieakippgeehgaaSbPutD
import Derived.Test.YtieakippgeehgaaSbLst
namespace Go.Proofs.Ytieakippgeehgaa.Sb
open Go.RowKit
set_option linter.unusedSimpArgs false
set_option linter.unusedVariables false

/-- a term and an error, the term's parts wherever they lie -/
def GivesEA (w : World) (p : Tm × Int) (e : Ending) (w' : World) : Prop :=
  ∃ v, e = .returned (.tuple #[.agg #[.int .i64 p.1.op, .int .i64 p.1.hd, .int .i64 p.1.n, v], .int .i64 p.2]) ∧ Below w.heap.size w w' ∧ Lies w' (fun _ => True) v p.1.args
/-- what Apply gives -/
def applyOut (f : Tm) (sp : List Tm) (S : Sp.Tm) : Tm × Int :=
  if Tm.proper f && okList sp && Sp.Tm.small S then outOf (app S.args f sp 0) else (Tm.zero, 2)

/-- the boxes of the reference's Apply -/
structure ARVar (w wr : World) (t : Tm) (tv Sv : Value) (cn : Int) : Prop where
  ht : wr.heap[w.heap.size]? = some (.cells #[.int .i64 t.op, .int .i64 t.hd, .int .i64 t.n, tv] 24 (0, 0))
  hS : wr.heap[w.heap.size + 1]? = some (.cells #[Sv, .int .i64 cn] 27 (0, 0))
  hr : wr.heap[w.heap.size + 1 + 1]? = some (.cells #[.int .i64 0, .int .i64 0, .int .i64 0, .slice none 0 0] 24 (0, 0))
  below : Below w.heap.size w wr
theorem ARVar.keep {w wr wr' : World} {t : Tm} {tv Sv : Value} {cn : Int} (H : ARVar w wr t tv Sv cn) (hb : Below wr.heap.size wr wr') : ARVar w wr' t tv Sv cn :=
  ⟨heap_kept hb H.ht, heap_kept hb H.hS, heap_kept hb H.hr, below_next H.below hb⟩

theorem applyR_zero {w wr : World} {t : Tm} {tv Sv : Value} {cn e : Int} {a : Act} (H : ARVar w wr t tv Sv cn) (ha : a.tmps[6]? = some (.pointer (some ⟨w.heap.size + 1 + 1, 0, none⟩)) ∧ a.tmps[7]? = some (.int .i64 e) ∧ a.defers = []) :
    bodyPost Try.prog Try.f19 (GivesEA w (Tm.zero, e)) .ret a ((((wr.setCell ⟨w.heap.size + 1 + 1, 0, none⟩ (.int .i64 0)).setCell ⟨w.heap.size + 1 + 1, 1, none⟩ (.int .i64 0)).setCell ⟨w.heap.size + 1 + 1, 2, none⟩ (.int .i64 0)).setCell ⟨w.heap.size + 1 + 1, 3, none⟩ (.slice none 0 0)) := by
  obtain ⟨h8, h9, hd⟩ := ha
  obtain ⟨z0, z1, z2, z3⟩ := c4_of (set4_at H.hr (.int .i64 0) (.int .i64 0) (.int .i64 0) (.slice none 0 0))
  refine bodyPost_ret (v := .tuple #[.agg #[.int .i64 0, .int .i64 0, .int .i64 0, .slice none 0 0], .int .i64 e]) (by simp [results, Try.results19, go_sem, h8, h9, z0, z1, z2, z3]) hd ?_
  have h4 : w.heap.size ≤ w.heap.size + 1 + 1 := by omega
  obtain ⟨v, e1, e2, e3⟩ := givesE_zero (w := w) (x := e) rfl ((((H.below.setCell h4 (p := ⟨w.heap.size + 1 + 1, 0, none⟩) (.int .i64 0)).setCell h4 (p := ⟨w.heap.size + 1 + 1, 1, none⟩) (.int .i64 0)).setCell h4 (p := ⟨w.heap.size + 1 + 1, 2, none⟩) (.int .i64 0)).setCell h4 (p := ⟨w.heap.size + 1 + 1, 3, none⟩) (.slice none 0 0))
  exact ⟨v, e1, e2, e3.more fun _ _ _ => trivial⟩

set_option maxHeartbeats 4000000 in
set_option maxRecDepth 100000 in
theorem applyRF_bad (t : Tm) (sp : List Tm) (cn : Int) (Ss : List Sp.Tm) (tv lv Sv : Value) (w : World) (lt : Lies w (fun _ => True) tv t.args) (ls : Lies w (fun _ => True) lv sp) (lS : Sp.Lies w (fun _ => True) Sv Ss)
    (hbad : (Tm.proper t && okList sp && Sp.Tm.small (.mk cn Ss)) = false) :
    Calls Try.prog 19 #[.agg #[.int .i64 t.op, .int .i64 t.hd, .int .i64 t.n, tv], lv, .agg #[Sv, .int .i64 cn]] w (GivesEA w (Tm.zero, 2)) := by
  obtain ⟨a1, n1, m1, rfl⟩ := lt.isSlice
  obtain ⟨a2, n2, m2, rfl⟩ := ls.isSlice
  obtain ⟨a3, n3, m3, rfl⟩ := lS.isSlice
  have h4 := three_all w #[.int .i64 t.op, .int .i64 t.hd, .int .i64 t.n, .slice a1 n1 m1] #[.slice a3 n3 m3, .int .i64 cn] #[.int .i64 0, .int .i64 0, .int .i64 0, .slice none 0 0] 24 27 24
  have V1 : ARVar w _ t (.slice a1 n1 m1) (.slice a3 n3 m3) cn := ⟨h4.1, h4.2.1, h4.2.2.1, h4.2.2.2⟩
  have HV := Lib.hid V1
  have c1 : ∀ w1, Below w.heap.size w w1 → _ := fun w1 hb => proper_t t (fun _ => True) (.slice a1 n1 m1) w1 (lt.keep hb)
  have c3 : ∀ w1, Below w.heap.size w w1 → _ := fun w1 hb => listR_any (.slice a2 n2 m2) sp w1 (ls.keep hb)
  have c4 : ∀ w1, Below w.heap.size w w1 → _ := fun w1 hb => smallR_any cn (.slice a3 n3 m3) Ss w1 (lS.keep hb)
  obtain ⟨x0, x1, x2, x3⟩ := c4_of V1.ht
  have ways : Tm.proper t = false ∨ (Tm.proper t = true ∧ okList sp = false) ∨ (Tm.proper t = true ∧ okList sp = true ∧ Sp.Tm.small (.mk cn Ss) = false) := by
    revert hbad
    cases Tm.proper t <;> cases okList sp <;> cases Sp.Tm.small (.mk cn Ss) <;> simp
  clear h4 hbad V1 lt ls lS
  rcases ways with k1 | ⟨k1, k3⟩ | ⟨k1, k3, k4⟩
  all_goals
    simp only [k1] at c1
    try simp only [k3] at c3
    try simp only [k4] at c4
    clear k1
    try clear k3
    try clear k4
    go_enter Try.func19, Try.ntmps19
    go_wp2_with fail
    refine (c1 _ HV.out.below).mono ?_
    rintro e w1 ⟨rfl, hb1⟩
    have HV1 := Lib.hid (HV.out.keep hb1)
    clear x0 x1 x2 x3 hb1 HV c1
    obtain ⟨y0, y1, y2, y3⟩ := c4_of HV1.out.hr
    have f0 := free_in HV1.out.hr 0
    have f1 := free_in HV1.out.hr 1
    have f2 := free_in HV1.out.hr 2
    have f3 := free_in HV1.out.hr 3
    go_wp2_with fail
  · exact applyR_zero HV1.out ⟨rfl, rfl, rfl⟩
  · refine (c3 _ HV1.out.below).mono ?_
    rintro e w2 ⟨rfl, hb2⟩
    have HV2 := Lib.hid (HV1.out.keep hb2)
    clear y0 y1 y2 y3 f0 f1 f2 f3 hb2 HV1 c3
    obtain ⟨y0, y1, y2, y3⟩ := c4_of HV2.out.hr
    have f0 := free_in HV2.out.hr 0
    have f1 := free_in HV2.out.hr 1
    have f2 := free_in HV2.out.hr 2
    have f3 := free_in HV2.out.hr 3
    go_wp2_with fail
    exact applyR_zero HV2.out ⟨rfl, rfl, rfl⟩
  · refine (c3 _ HV1.out.below).mono ?_
    rintro e w2 ⟨rfl, hb2⟩
    have HV2 := Lib.hid (HV1.out.keep hb2)
    clear y0 y1 y2 y3 f0 f1 f2 f3 hb2 HV1 c3
    obtain ⟨⟨q0, q1⟩, _⟩ := cells2_of HV2.out.hS
    go_wp2_with fail
    refine (c4 _ HV2.out.below).mono ?_
    rintro e w3 ⟨rfl, hb3⟩
    have HV3 := Lib.hid (HV2.out.keep hb3)
    clear q0 q1 hb3 HV2 c4
    obtain ⟨y0, y1, y2, y3⟩ := c4_of HV3.out.hr
    have f0 := free_in HV3.out.hr 0
    have f1 := free_in HV3.out.hr 1
    have f2 := free_in HV3.out.hr 2
    have f3 := free_in HV3.out.hr 3
    go_wp2_with fail
    exact applyR_zero HV3.out ⟨rfl, rfl, rfl⟩

/-- what apply leaves, stored as Apply's result -/
theorem applyR_end {w w5 w6 : World} {t : Tm} {tv Sv : Value} {cn : Int} {C : Nat} {r : Out Tm} {e : Ending} (V : ARVar w w5 t tv Sv cn) (hC : C = w5.heap.size) (c0 : Value) (hG : GivesR (fun b => b ≠ C ∧ b ≠ w.heap.size + 1 + 1) (w5.alloc (.cells #[c0] 85)) C r e w6) (u0 u1 u2 u3 : Value) :
    GivesEA w (outOf r) e ((((w6.setCell ⟨w.heap.size + 1 + 1, 0, none⟩ u0).setCell ⟨w.heap.size + 1 + 1, 1, none⟩ u1).setCell ⟨w.heap.size + 1 + 1, 2, none⟩ u2).setCell ⟨w.heap.size + 1 + 1, 3, none⟩ u3) := by
  subst hC
  have hs5 := lt_blk V.hr
  have h4 : w.heap.size ≤ w.heap.size + 1 + 1 := by omega
  have hb : ∀ w6, Only w5.heap.size (w5.alloc (.cells #[c0] 85)) w6 → Below w.heap.size w w6 := fun w6 ho => by
    have h := Only.fresh ho (V.below.trans ((one_below w5 (.cells #[c0] 85)).mono V.below.size)) V.below.size
    exact h
  have hst : ∀ w6, Below w.heap.size w w6 → Below w.heap.size w ((((w6.setCell ⟨w.heap.size + 1 + 1, 0, none⟩ u0).setCell ⟨w.heap.size + 1 + 1, 1, none⟩ u1).setCell ⟨w.heap.size + 1 + 1, 2, none⟩ u2).setCell ⟨w.heap.size + 1 + 1, 3, none⟩ u3) := fun w6 h => (((h.setCell h4 _).setCell h4 _).setCell h4 _).setCell h4 _
  unfold GivesR at hG
  rcases r with ⟨x, c⟩ | x
  · obtain ⟨v, rfl, ho, _, L⟩ := hG
    exact ⟨v, rfl, hst _ (hb _ ho), (L.still fun b hS _ => set4_other _ _ _ _ hS.2).more fun b _ hS => trivial⟩
  · obtain ⟨rfl, ho⟩ := hG
    obtain ⟨v, e1, e2, e3⟩ := givesE_zero (w := w) (x := x) rfl (hst _ (hb _ ho))
    exact ⟨v, e1, e2, e3.more fun _ _ _ => trivial⟩

set_option maxHeartbeats 4000000 in
set_option maxRecDepth 100000 in
theorem applyRF_good (t : Tm) (sp : List Tm) (cn : Int) (Ss : List Sp.Tm) (tv lv Sv : Value) (w : World) (lt : Lies w (fun _ => True) tv t.args) (ls : Lies w (fun _ => True) lv sp) (lS : Sp.Lies w (fun _ => True) Sv Ss)
    (k1 : Tm.proper t = true) (k3 : okList sp = true) (k4 : Sp.Tm.small (.mk cn Ss) = true) :
    Calls Try.prog 19 #[.agg #[.int .i64 t.op, .int .i64 t.hd, .int .i64 t.n, tv], lv, .agg #[Sv, .int .i64 cn]] w (GivesEA w (outOf (app Ss t sp 0))) := by
  obtain ⟨a1, n1, m1, rfl⟩ := lt.isSlice
  obtain ⟨a2, n2, m2, rfl⟩ := ls.isSlice
  obtain ⟨a3, n3, m3, rfl⟩ := lS.isSlice
  have h4 := three_all w #[.int .i64 t.op, .int .i64 t.hd, .int .i64 t.n, .slice a1 n1 m1] #[.slice a3 n3 m3, .int .i64 cn] #[.int .i64 0, .int .i64 0, .int .i64 0, .slice none 0 0] 24 27 24
  have V1 : ARVar w _ t (.slice a1 n1 m1) (.slice a3 n3 m3) cn := ⟨h4.1, h4.2.1, h4.2.2.1, h4.2.2.2⟩
  have HV := Lib.hid V1
  have c1 : ∀ w1, Below w.heap.size w w1 → _ := fun w1 hb => proper_t t (fun _ => True) (.slice a1 n1 m1) w1 (lt.keep hb)
  have c3 : ∀ w1, Below w.heap.size w w1 → _ := fun w1 hb => listR_any (.slice a2 n2 m2) sp w1 (ls.keep hb)
  have c4 : ∀ w1, Below w.heap.size w w1 → _ := fun w1 hb => smallR_any cn (.slice a3 n3 m3) Ss w1 (lS.keep hb)
  have hk : sp.length ≤ 600 ∧ ∀ x ∈ sp, Tm.proper x = true := by
    have h := k3
    simp only [okList, Bool.and_eq_true, decide_eq_true_eq, List.all_eq_true] at h
    exact h
  have c5 : ∀ w5, ARVar w w5 t (.slice a1 n1 m1) (.slice a3 n3 m3) cn → _ := fun w5 V =>
    appR_any w5.heap.size cn Ss (fun b => b ≠ w5.heap.size ∧ b ≠ w.heap.size + 1 + 1) t (.slice a1 n1 m1) (.slice a2 n2 m2) (.slice a3 n3 m3) sp 0 (w5.alloc (.cells #[.int .i64 0] 85))
      (fun b hb => by have := lt_blk V.hr; simp at hb; omega) (fun h => h.1 rfl)
      (((lt.more (S' := fun b => b ≠ w5.heap.size ∧ b ≠ w.heap.size + 1 + 1) fun b hlt _ => by have := lt_blk V.hr; omega).keep V.below).keep (one_below _ _)) (((ls.keep V.below).more (S' := (· ≠ w5.heap.size)) fun b hlt _ => by show b ≠ _; omega).keep (one_below _ _)) (((lS.keep V.below).more (S' := (· ≠ w5.heap.size)) fun b hlt _ => by show b ≠ _; omega).keep (one_below _ _)) (heap_alloc_new _ _) (by omega) k1 hk.2 hk.1
  obtain ⟨x0, x1, x2, x3⟩ := c4_of V1.ht
  simp only [k1] at c1
  simp only [k3] at c3
  simp only [k4] at c4
  clear h4 V1 lt ls lS k1 k3 k4 hk
  go_enter Try.func19, Try.ntmps19
  go_wp2_with fail
  refine (c1 _ HV.out.below).mono ?_
  rintro e w1 ⟨rfl, hb1⟩
  have HV1 := Lib.hid (HV.out.keep hb1)
  clear x0 x1 x2 x3 hb1 HV c1
  go_wp2_with fail
  refine (c3 _ HV1.out.below).mono ?_
  rintro e w2 ⟨rfl, hb2⟩
  have HV2 := Lib.hid (HV1.out.keep hb2)
  clear hb2 HV1 c3
  obtain ⟨⟨q0, q1⟩, _⟩ := cells2_of HV2.out.hS
  go_wp2_with fail
  refine (c4 _ HV2.out.below).mono ?_
  rintro e w3 ⟨rfl, hb3⟩
  have HV3 := Lib.hid (HV2.out.keep hb3)
  clear q0 q1 hb3 HV2 c4
  have hba := one_below w3 (.cells #[.int .i64 0] 85)
  have V4 := HV3.out.keep hba
  obtain ⟨x0, x1, x2, x3⟩ := c4_of V4.ht
  obtain ⟨⟨q0, q1⟩, _⟩ := cells2_of V4.hS
  have HV4 := Lib.hid V4
  clear V4 hba
  go_wp2_with fail
  refine (c5 _ HV3.out).mono ?_
  intro e w6 hG
  obtain ⟨u, u', u'', up, uq, um, ux, rfl, ho⟩ := hG.form
  have hr := Only.keepBlock ho HV4.out.hr (by have := lt_blk HV3.out.hr; omega)
  clear x0 x1 x2 x3 q0 q1 c5
  obtain ⟨y0, y1, y2, y3⟩ := c4_of hr
  have f0 := free_in hr 0
  have f1 := free_in hr 1
  have f2 := free_in hr 2
  have f3 := free_in hr 3
  have HG2 := Lib.hid hG
  have HRB := Lib.hid hr
  clear hr hG ho
  go_wp2_with fail
  obtain ⟨z0, z1, z2, z3⟩ := c4_of (set4_at HRB.out (.int .i64 u) (.int .i64 u') (.int .i64 u'') (.slice up uq um))
  refine bodyPost_ret (v := .tuple #[.agg #[.int .i64 u, .int .i64 u', .int .i64 u'', .slice up uq um], .int .i64 ux]) (by simp [results, Try.results19, go_sem, z0, z1, z2, z3]) rfl ?_
  exact applyR_end HV3.out rfl _ HG2.out _ _ _ _

/-- the contract of the reference's Apply -/
theorem applyRF_any (t : Tm) (sp : List Tm) (cn : Int) (Ss : List Sp.Tm) (tv lv Sv : Value) (w : World) (lt : Lies w (fun _ => True) tv t.args) (ls : Lies w (fun _ => True) lv sp) (lS : Sp.Lies w (fun _ => True) Sv Ss) :
    Calls Try.prog 19 #[.agg #[.int .i64 t.op, .int .i64 t.hd, .int .i64 t.n, tv], lv, .agg #[Sv, .int .i64 cn]] w (GivesEA w (applyOut t sp (.mk cn Ss))) := by
  unfold applyOut
  rcases h : (Tm.proper t && okList sp && Sp.Tm.small (.mk cn Ss)) with _ | _
  · exact applyRF_bad t sp cn Ss tv lv Sv w lt ls lS h
  · simp only [Bool.and_eq_true] at h
    exact applyRF_good t sp cn Ss tv lv Sv w lt ls lS h.1.1 h.1.2 h.2
end Go.Proofs.Ytieakippgeehgaa.Sb
