/- The contract of Many. -/
import Derived.Test.YtieakippgeehgaaSbMnC
import Derived.Test.YtieakippgeehgaaSbApF
namespace Go.Proofs.Ytieakippgeehgaa.Sb
open Go.RowKit
set_option linter.unusedSimpArgs false
set_option linter.unusedVariables false

theorem four_all (w : World) (c1 c2 c3 c4 : Array Value) (t1 t2 t3 t4 : TypeId) :
    ((((w.alloc (.cells c1 t1)).alloc (.cells c2 t2)).alloc (.cells c3 t3)).alloc (.cells c4 t4)).heap[w.heap.size]? = some (.cells c1 t1 (0, 0)) ∧ ((((w.alloc (.cells c1 t1)).alloc (.cells c2 t2)).alloc (.cells c3 t3)).alloc (.cells c4 t4)).heap[w.heap.size + 1]? = some (.cells c2 t2 (0, 0)) ∧
    ((((w.alloc (.cells c1 t1)).alloc (.cells c2 t2)).alloc (.cells c3 t3)).alloc (.cells c4 t4)).heap[w.heap.size + 1 + 1]? = some (.cells c3 t3 (0, 0)) ∧ ((((w.alloc (.cells c1 t1)).alloc (.cells c2 t2)).alloc (.cells c3 t3)).alloc (.cells c4 t4)).heap[w.heap.size + 1 + 1 + 1]? = some (.cells c4 t4 (0, 0)) ∧
    Below w.heap.size w ((((w.alloc (.cells c1 t1)).alloc (.cells c2 t2)).alloc (.cells c3 t3)).alloc (.cells c4 t4)) := by
  have h := three_all w c1 c2 c3 t1 t2 t3
  have h9 := heap_alloc_new (((w.alloc (.cells c1 t1)).alloc (.cells c2 t2)).alloc (.cells c3 t3)) (.cells c4 t4)
  rw [show (((w.alloc (.cells c1 t1)).alloc (.cells c2 t2)).alloc (.cells c3 t3)).heap.size = w.heap.size + 1 + 1 + 1 by simp] at h9
  have hb := one_below (((w.alloc (.cells c1 t1)).alloc (.cells c2 t2)).alloc (.cells c3 t3)) (.cells c4 t4)
  exact ⟨heap_kept hb h.1, heap_kept hb h.2.1, heap_kept hb h.2.2.1, h9, below_next h.2.2.2 hb⟩

theorem tl_len {w : World} {S : Nat → Prop} {a : Option Addr} {n m : Nat} {l : List Tm} (h : Lies w S (.slice a n m) l) : l.length = n := by
  obtain ⟨ao, b, off, len, cap, o, h, k, sv, ts, hv, R⟩ := h.open
  cases hv
  exact R.length

/-- the boxes of Many -/
structure MFVar (w wr : World) (t : Tm) (tv lv qv : Value) : Prop where
  ht : wr.heap[w.heap.size]? = some (.cells #[.int .i64 t.op, .int .i64 t.hd, .int .i64 t.n, tv] 24 (0, 0))
  hl : wr.heap[w.heap.size + 1]? = some (.cells #[lv] 22 (0, 0))
  hq : wr.heap[w.heap.size + 1 + 1]? = some (.cells #[qv] 25 (0, 0))
  hr : wr.heap[w.heap.size + 1 + 1 + 1]? = some (.cells #[.int .i64 0, .int .i64 0, .int .i64 0, .slice none 0 0] 24 (0, 0))
  below : Below w.heap.size w wr
theorem MFVar.keep {w wr wr' : World} {t : Tm} {tv lv qv : Value} (H : MFVar w wr t tv lv qv) (hb : Below wr.heap.size wr wr') : MFVar w wr' t tv lv qv :=
  ⟨heap_kept hb H.ht, heap_kept hb H.hl, heap_kept hb H.hq, heap_kept hb H.hr, below_next H.below hb⟩

theorem manyF_zero {w wr : World} {t : Tm} {tv lv qv : Value} {a : Act} (H : MFVar w wr t tv lv qv) (ha : a.tmps[6]? = some (.pointer (some ⟨w.heap.size + 1 + 1 + 1, 0, none⟩)) ∧ a.tmps[7]? = some (.int .i64 2) ∧ a.defers = []) :
    bodyPost Try.prog Try.f25 (GivesE w (Tm.zero, 2)) .ret a ((((wr.setCell ⟨w.heap.size + 1 + 1 + 1, 0, none⟩ (.int .i64 0)).setCell ⟨w.heap.size + 1 + 1 + 1, 1, none⟩ (.int .i64 0)).setCell ⟨w.heap.size + 1 + 1 + 1, 2, none⟩ (.int .i64 0)).setCell ⟨w.heap.size + 1 + 1 + 1, 3, none⟩ (.slice none 0 0)) := by
  obtain ⟨h8, h9, hd⟩ := ha
  obtain ⟨z0, z1, z2, z3⟩ := c4_of (set4_at H.hr (.int .i64 0) (.int .i64 0) (.int .i64 0) (.slice none 0 0))
  refine bodyPost_ret (v := .tuple #[.agg #[.int .i64 0, .int .i64 0, .int .i64 0, .slice none 0 0], .int .i64 2]) (by simp [results, Try.results25, go_sem, h8, h9, z0, z1, z2, z3]) hd ?_
  have h4 : w.heap.size ≤ w.heap.size + 1 + 1 + 1 := by omega
  exact givesE_zero rfl ((((H.below.setCell h4 _).setCell h4 _).setCell h4 _).setCell h4 _)

set_option maxHeartbeats 4000000 in
set_option maxRecDepth 100000 in
theorem manyF_bad (t : Tm) (l : List Tm) (Ss : List Sp.Tm) (tv lv qv : Value) (w : World) (lt : Lies w (fun _ => True) tv t.args) (ll : Lies w (fun _ => True) lv l) (lq : Sp.Lies w (fun _ => True) qv Ss) (ft : t.fit)
    (hbad : (Tm.proper t && okList l && decide (Ss.length = l.length) && Ss.all Sp.Tm.small) = false) :
    Calls Try.prog 25 #[.agg #[.int .i64 t.op, .int .i64 t.hd, .int .i64 t.n, tv], lv, qv] w (GivesE w (Tm.zero, 2)) := by
  obtain ⟨a1, n1, m1, rfl⟩ := lt.isSlice
  obtain ⟨a2, n2, m2, rfl⟩ := ll.isSlice
  obtain ⟨a3, n3, m3, rfl⟩ := lq.isSlice
  have h5 := four_all w #[.int .i64 t.op, .int .i64 t.hd, .int .i64 t.n, .slice a1 n1 m1] #[.slice a2 n2 m2] #[.slice a3 n3 m3] #[.int .i64 0, .int .i64 0, .int .i64 0, .slice none 0 0] 24 22 25 24
  have V0 : MFVar w _ t (.slice a1 n1 m1) (.slice a2 n2 m2) (.slice a3 n3 m3) := ⟨h5.1, h5.2.1, h5.2.2.1, h5.2.2.2.1, h5.2.2.2.2⟩
  have V1 := V0.keep (one_below _ (.cells #[.int .i64 t.op, .int .i64 t.hd, .int .i64 t.n, .slice a1 n1 m1] 24))
  have hnew := heap_alloc_new ((((w.alloc (.cells #[.int .i64 t.op, .int .i64 t.hd, .int .i64 t.n, .slice a1 n1 m1] 24)).alloc (.cells #[.slice a2 n2 m2] 22)).alloc (.cells #[.slice a3 n3 m3] 25)).alloc (.cells #[.int .i64 0, .int .i64 0, .int .i64 0, .slice none 0 0] 24)) (.cells #[.int .i64 t.op, .int .i64 t.hd, .int .i64 t.n, .slice a1 n1 m1] 24)
  rw [show ((((w.alloc (.cells #[.int .i64 t.op, .int .i64 t.hd, .int .i64 t.n, .slice a1 n1 m1] 24)).alloc (.cells #[.slice a2 n2 m2] 22)).alloc (.cells #[.slice a3 n3 m3] 25)).alloc (.cells #[.int .i64 0, .int .i64 0, .int .i64 0, .slice none 0 0] 24)).heap.size = w.heap.size + 1 + 1 + 1 + 1 by simp] at hnew
  have call1 := areProper_any (.slice (some ⟨w.heap.size + 1 + 1 + 1 + 1, 0, none⟩) 1 1) [t] _ (lies_single (S := fun _ => True) trivial hnew ft (lt.keep V1.below))
  have call2 : ∀ w1, Below w.heap.size w w1 → _ := fun w1 hb => isList_any (.slice a2 n2 m2) l w1 (ll.keep hb)
  have call3 : ∀ w1, Below w.heap.size w w1 → _ := fun w1 hb => containsLarge_any (.slice a3 n3 m3) Ss w1 (lq.keep hb)
  have hn2 : l.length = n2 := tl_len ll
  have hn3 : Ss.length = n3 := lq.len
  have HV := Lib.hid V1
  have hn2i : (n2 : Int) = (n2 : Int) ∧ (0 : Int) ≤ (n2 : Int) := ⟨rfl, by omega⟩
  have ways : Tm.proper t = false ∨ (Tm.proper t = true ∧ okList l = false) ∨ (Tm.proper t = true ∧ okList l = true ∧ n2 ≠ n3) ∨ (Tm.proper t = true ∧ okList l = true ∧ n2 = n3 ∧ Ss.all Sp.Tm.small = false) := by
    revert hbad
    rw [hn2, hn3]
    cases Tm.proper t <;> cases okList l <;> by_cases h : n3 = n2 <;> cases Ss.all Sp.Tm.small <;> simp [h] <;> omega
  clear h5 hbad V0 V1 lt ll lq ft hnew hn2 hn3 hn2i
  rcases ways with k1 | ⟨k1, k2⟩ | ⟨k1, k2, k3⟩ | ⟨k1, k2, k3, k4⟩
  all_goals
    simp only [List.all_cons, List.all_nil, k1, Bool.and_self, Bool.and_true] at call1
    try simp only [k2] at call2
    try simp only [k4] at call3
    try (have hne : decide ((n2 : Int) = (n3 : Int)) = false := by (simp; omega))
    clear k1
    try clear k2
    try clear k4
  · try clear call2 call3
    go_enter Try.func25, Try.ntmps25
    go_wp2_with fail
    refine call1.mono ?_
    rintro e w1 ⟨rfl, hb1⟩
    have V2 := HV.out.keep hb1
    obtain ⟨y0, y1, y2, y3⟩ := c4_of V2.hr
    have f0 := free_in V2.hr 0
    have f1 := free_in V2.hr 1
    have f2 := free_in V2.hr 2
    have f3 := free_in V2.hr 3
    have HV2 := Lib.hid V2
    clear V2 hb1 call1
    go_wp2_with fail
    exact manyF_zero HV2.out ⟨rfl, rfl, rfl⟩
  · go_enter Try.func25, Try.ntmps25
    go_wp2_with fail
    refine call1.mono ?_
    rintro e w1 ⟨rfl, hb1⟩
    have V2 := HV.out.keep hb1
    have hcn := cell_in V2.hl 0 _ rfl
    have hcq := cell_in V2.hq 0 _ rfl
    have HV2 := Lib.hid V2
    clear V2 hb1 call1
    go_wp2_with fail
    refine (call2 _ HV2.out.below).mono ?_
    rintro e w2 ⟨rfl, hb2⟩
    have V3 := HV2.out.keep hb2
    clear hcn hcq HV2 hb2 call2
    try clear y0 y1 y2 y3 f0 f1 f2 f3
    obtain ⟨y0, y1, y2, y3⟩ := c4_of V3.hr
    have f0 := free_in V3.hr 0
    have f1 := free_in V3.hr 1
    have f2 := free_in V3.hr 2
    have f3 := free_in V3.hr 3
    have hcn := cell_in V3.hl 0 _ rfl
    have hcq := cell_in V3.hq 0 _ rfl
    have HV2 := Lib.hid V3
    clear V3
    go_wp2_with fail
    exact manyF_zero HV2.out ⟨rfl, rfl, rfl⟩
  · have hne2 : ¬ ((n2 : Int) = (n3 : Int)) := by omega
    have hne3 : ((n2 : Int) != (n3 : Int)) = true := by simp; omega
    go_enter Try.func25, Try.ntmps25
    go_wp2_with fail
    refine call1.mono ?_
    rintro e w1 ⟨rfl, hb1⟩
    have V2 := HV.out.keep hb1
    have hcn := cell_in V2.hl 0 _ rfl
    have hcq := cell_in V2.hq 0 _ rfl
    have HV2 := Lib.hid V2
    clear V2 hb1 call1
    go_wp2_with fail
    refine (call2 _ HV2.out.below).mono ?_
    rintro e w2 ⟨rfl, hb2⟩
    have V3 := HV2.out.keep hb2
    clear hcn hcq HV2 hb2 call2
    try clear y0 y1 y2 y3 f0 f1 f2 f3
    obtain ⟨y0, y1, y2, y3⟩ := c4_of V3.hr
    have f0 := free_in V3.hr 0
    have f1 := free_in V3.hr 1
    have f2 := free_in V3.hr 2
    have f3 := free_in V3.hr 3
    have hcn := cell_in V3.hl 0 _ rfl
    have hcq := cell_in V3.hq 0 _ rfl
    have HV2 := Lib.hid V3
    clear V3
    go_wp2_with fail
    exact manyF_zero HV2.out ⟨rfl, rfl, rfl⟩
  · obtain rfl := k3
    go_enter Try.func25, Try.ntmps25
    go_wp2_with fail
    refine call1.mono ?_
    rintro e w1 ⟨rfl, hb1⟩
    have V2 := HV.out.keep hb1
    have hcn := cell_in V2.hl 0 _ rfl
    have hcq := cell_in V2.hq 0 _ rfl
    have HV2 := Lib.hid V2
    clear V2 hb1 call1
    go_wp2_with fail
    refine (call2 _ HV2.out.below).mono ?_
    rintro e w2 ⟨rfl, hb2⟩
    have V3 := HV2.out.keep hb2
    clear hcn hcq HV2 hb2 call2
    try clear y0 y1 y2 y3 f0 f1 f2 f3
    obtain ⟨y0, y1, y2, y3⟩ := c4_of V3.hr
    have f0 := free_in V3.hr 0
    have f1 := free_in V3.hr 1
    have f2 := free_in V3.hr 2
    have f3 := free_in V3.hr 3
    have hcn := cell_in V3.hl 0 _ rfl
    have hcq := cell_in V3.hq 0 _ rfl
    have HV2 := Lib.hid V3
    clear V3
    go_wp2_with fail
    refine (call3 _ HV2.out.below).mono ?_
    rintro e w3 ⟨rfl, hb3⟩
    have V3 := HV2.out.keep hb3
    clear hcn hcq HV2 hb3 call3 y0 y1 y2 y3 f0 f1 f2 f3
    obtain ⟨y0, y1, y2, y3⟩ := c4_of V3.hr
    have f0 := free_in V3.hr 0
    have f1 := free_in V3.hr 1
    have f2 := free_in V3.hr 2
    have f3 := free_in V3.hr 3
    have HV2 := Lib.hid V3
    clear V3
    go_wp2_with fail
    exact manyF_zero HV2.out ⟨rfl, rfl, rfl⟩

set_option maxHeartbeats 4000000 in
set_option maxRecDepth 100000 in
theorem manyF_good (t : Tm) (l : List Tm) (Ss : List Sp.Tm) (tv lv qv : Value) (w : World) (lt : Lies w (fun _ => True) tv t.args) (ll : Lies w (fun _ => True) lv l) (lq : Sp.Lies w (fun _ => True) qv Ss) (ft : t.fit)
    (k1 : Tm.proper t = true) (k2 : okList l = true) (k3 : Ss.length = l.length) (k4 : Ss.all Sp.Tm.small = true) :
    Calls Try.prog 25 #[.agg #[.int .i64 t.op, .int .i64 t.hd, .int .i64 t.n, tv], lv, qv] w (GivesE w (outOf (manyO l Ss t 0))) := by
  obtain ⟨a1, n1, m1, rfl⟩ := lt.isSlice
  obtain ⟨a2, n2, m2, rfl⟩ := ll.isSlice
  obtain ⟨a3, n3, m3, rfl⟩ := lq.isSlice
  have h5 := four_all w #[.int .i64 t.op, .int .i64 t.hd, .int .i64 t.n, .slice a1 n1 m1] #[.slice a2 n2 m2] #[.slice a3 n3 m3] #[.int .i64 0, .int .i64 0, .int .i64 0, .slice none 0 0] 24 22 25 24
  have V0 : MFVar w _ t (.slice a1 n1 m1) (.slice a2 n2 m2) (.slice a3 n3 m3) := ⟨h5.1, h5.2.1, h5.2.2.1, h5.2.2.2.1, h5.2.2.2.2⟩
  have V1 := V0.keep (one_below _ (.cells #[.int .i64 t.op, .int .i64 t.hd, .int .i64 t.n, .slice a1 n1 m1] 24))
  have hnew := heap_alloc_new ((((w.alloc (.cells #[.int .i64 t.op, .int .i64 t.hd, .int .i64 t.n, .slice a1 n1 m1] 24)).alloc (.cells #[.slice a2 n2 m2] 22)).alloc (.cells #[.slice a3 n3 m3] 25)).alloc (.cells #[.int .i64 0, .int .i64 0, .int .i64 0, .slice none 0 0] 24)) (.cells #[.int .i64 t.op, .int .i64 t.hd, .int .i64 t.n, .slice a1 n1 m1] 24)
  rw [show ((((w.alloc (.cells #[.int .i64 t.op, .int .i64 t.hd, .int .i64 t.n, .slice a1 n1 m1] 24)).alloc (.cells #[.slice a2 n2 m2] 22)).alloc (.cells #[.slice a3 n3 m3] 25)).alloc (.cells #[.int .i64 0, .int .i64 0, .int .i64 0, .slice none 0 0] 24)).heap.size = w.heap.size + 1 + 1 + 1 + 1 by simp] at hnew
  have call1 := areProper_any (.slice (some ⟨w.heap.size + 1 + 1 + 1 + 1, 0, none⟩) 1 1) [t] _ (lies_single (S := fun _ => True) trivial hnew ft (lt.keep V1.below))
  have call2 : ∀ w1, Below w.heap.size w w1 → _ := fun w1 hb => isList_any (.slice a2 n2 m2) l w1 (ll.keep hb)
  have call3 : ∀ w1, Below w.heap.size w w1 → _ := fun w1 hb => containsLarge_any (.slice a3 n3 m3) Ss w1 (lq.keep hb)
  have hn2 : l.length = n2 := tl_len ll
  have hn3 : Ss.length = n3 := lq.len
  have HV := Lib.hid V1
  obtain rfl : n2 = n3 := by rw [← hn2, ← hn3, k3]
  have hk : l.length ≤ 600 ∧ ∀ x ∈ l, Tm.proper x = true := by
    have h := k2
    simp only [okList, Bool.and_eq_true, decide_eq_true_eq, List.all_eq_true] at h
    exact h
  have hF : ∀ args w, (callFunc 66 args).run Try.prog w = .ok (.enter 66 args) w := fun args w => by simp [go_sem]
  obtain ⟨r, hr⟩ : ∃ r, r = manyO l Ss t 0 := ⟨_, rfl⟩
  have call4 : ∀ w1, MFVar w w1 t (.slice a1 n1 m1) (.slice a2 n2 m2) (.slice a3 n2 m3) → Calls Try.prog 42 #[.func (.func 66) #[] #[.pointer (some ⟨w.heap.size, 0, none⟩), .pointer (some ⟨w.heap.size + 1, 0, none⟩), .pointer (some ⟨w.heap.size + 1 + 1, 0, none⟩)]] w1 (GivesE w1 (outOf r)) := fun w1 V => by
    obtain ⟨so, sh, sk, sa⟩ := t
    have hsz := lt_blk V.hr
    have box : ∀ w2, Below w1.heap.size w1 w2 → MnBox w2 (w1.heap.size + 1 + 1) w.heap.size (w.heap.size + 1) (w.heap.size + 1 + 1) (.mk so sh sk sa) (.slice a1 n1 m1) l (.slice a2 n2 m2) Ss (.slice a3 n2 m3) := fun w2 hb => by
      have V' := V.keep hb
      refine ⟨V'.ht, V'.hl, V'.hq, (lt.more (S' := (· ≠ w1.heap.size + 1 + 1)) fun b hlt _ => ?_).keep V'.below, (ll.more (S' := (· ≠ w1.heap.size + 1 + 1)) fun b hlt _ => ?_).keep V'.below, (lq.more (S' := (· ≠ w1.heap.size + 1 + 1)) fun b hlt _ => ?_).keep V'.below, by omega⟩
      all_goals
        have := V.below.size
        omega
    rcases hrr : r with ⟨x, c⟩ | x
    · refine finish_ok _ _ x c w1 hF fun w2 hb hc => ?_
      have h := manyC_any _ _ _ _ so sh sk sa l Ss _ _ _ w2 (box w2 hb) hc k1 hk.2 hk.1 k3
      rw [← hr, hrr] at h
      exact h
    · refine finish_er _ _ x w1 hF fun w2 hb hc => ?_
      have h := manyC_any _ _ _ _ so sh sk sa l Ss _ _ _ w2 (box w2 hb) hc k1 hk.2 hk.1 k3
      rw [← hr, hrr] at h
      exact h
  rw [← hr]
  generalize outOf r = R at call4 ⊢
  obtain ⟨x, xe⟩ := R
  simp only [List.all_cons, List.all_nil, k1, Bool.and_self] at call1
  simp only [k2] at call2
  simp only [k4] at call3
  have HF := Lib.hid hF
  clear h5 hnew V0 V1 lt ll lq ft k1 k2 k3 k4 hk hr hF hn2 hn3
  go_enter Try.func25, Try.ntmps25
  go_wp2_with fail
  refine call1.mono ?_
  rintro e w1 ⟨rfl, hb1⟩
  have V2 := HV.out.keep hb1
  have hcn := cell_in V2.hl 0 _ rfl
  have hcq := cell_in V2.hq 0 _ rfl
  have HV2 := Lib.hid V2
  clear V2 hb1 call1
  go_wp2_with fail
  refine (call2 _ HV2.out.below).mono ?_
  rintro e w2 ⟨rfl, hb2⟩
  have V3 := HV2.out.keep hb2
  clear hcn hcq HV2
  have hcn := cell_in V3.hl 0 _ rfl
  have hcq := cell_in V3.hq 0 _ rfl
  have HV4 := Lib.hid V3
  clear V3 hb2 call2
  go_wp2_with fail
  refine (call3 _ HV4.out.below).mono ?_
  rintro e w3 ⟨rfl, hb3⟩
  have V3 := HV4.out.keep hb3
  clear hcn hcq HV4
  have HV4 := Lib.hid V3
  clear V3 hb3 call3
  have hmf : ∀ (fn : Fn) (first cap : Array Value) (w : World), (Instr.makeFunc fn first cap).run Try.prog w = .ok (.func fn first cap) w := fun _ _ _ _ => rfl
  go_wp2_with fail
  refine (call4 _ HV4.out).mono ?_
  rintro e w5 ⟨v, rfl, hb5, L⟩
  obtain ⟨a4, n4, m4, rfl⟩ := L.isSlice
  dsimp only at L
  have V5 := HV4.out.keep hb5
  have hsz := lt_blk HV4.out.hr
  have hsw := HV4.out.below.size
  clear call4 HV4
  obtain ⟨y0, y1, y2, y3⟩ := c4_of V5.hr
  have f0 := free_in V5.hr 0
  have f1 := free_in V5.hr 1
  have f2 := free_in V5.hr 2
  have f3 := free_in V5.hr 3
  have HV5 := Lib.hid V5
  have HL := Lib.hid (And.intro L (And.intro hsz hsw))
  clear V5 hb5 L hsz hsw
  go_wp2_with fail
  have hz := set4_at HV5.out.hr (.int .i64 x.op) (.int .i64 x.hd) (.int .i64 x.n) (.slice a4 n4 m4)
  obtain ⟨z0, z1, z2, z3⟩ := c4_of hz
  refine bodyPost_ret (v := .tuple #[.agg #[.int .i64 x.op, .int .i64 x.hd, .int .i64 x.n, .slice a4 n4 m4], .int .i64 xe]) (by simp [results, Try.results25, go_sem, z0, z1, z2, z3]) rfl ?_
  have h4 : w.heap.size ≤ w.heap.size + 1 + 1 + 1 := by omega
  obtain ⟨L, hsz, hsw⟩ := HL.out
  refine ⟨_, rfl, ((((HV5.out.below.setCell h4 _).setCell h4 _).setCell h4 _).setCell h4 _), (L.still fun b hS hlt => set4_other _ _ _ _ ?_).more fun b _ hS => ?_⟩
  · omega
  · omega

/-- the contract of Many -/
theorem manyF_any (t : Tm) (l : List Tm) (Ss : List Sp.Tm) (tv lv qv : Value) (w : World) (lt : Lies w (fun _ => True) tv t.args) (ll : Lies w (fun _ => True) lv l) (lq : Sp.Lies w (fun _ => True) qv Ss) (ft : t.fit) :
    Calls Try.prog 25 #[.agg #[.int .i64 t.op, .int .i64 t.hd, .int .i64 t.n, tv], lv, qv] w (GivesE w (manyOut t l Ss)) := by
  unfold manyOut
  rcases h : (Tm.proper t && okList l && decide (Ss.length = l.length) && Ss.all Sp.Tm.small) with _ | _
  · exact manyF_bad t l Ss tv lv qv w lt ll lq ft h
  · simp only [Bool.and_eq_true, decide_eq_true_eq] at h
    exact manyF_good t l Ss tv lv qv w lt ll lq ft h.1.1.1 h.1.1.2 h.1.2 h.2
end Go.Proofs.Ytieakippgeehgaa.Sb
