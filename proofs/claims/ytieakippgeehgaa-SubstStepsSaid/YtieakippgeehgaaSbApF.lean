/- The contract of Apply. -/
import Derived.Test.YtieakippgeehgaaSbApC
import Derived.Test.YtieakippgeehgaaSbApR
namespace Go.Proofs.Ytieakippgeehgaa.Sb
open Go.RowKit
set_option linter.unusedSimpArgs false
set_option linter.unusedVariables false

theorem lies_single {W : World} {S : Nat → Prop} {g : Nat} {a : Tm} {va : Value} {e : TypeId} (hS : S g) (hg : W.heap[g]? = some (.cells #[.int .i64 a.op, .int .i64 a.hd, .int .i64 a.n, va] e (0, 0)))
    (fa : a.fit) (la : Lies W S va a.args) : Lies W S (.slice (some ⟨g, 0, none⟩) 1 1) [a] := by
  have row := Lies.row (w := W) (S := S) (some ⟨g, 0, none⟩) g 0 1 1 (fun _ => a.op) (fun _ => a.hd) (fun _ => a.n) (fun _ => va) (fun _ => a.args)
    (fun _ => rfl) (fun _ => hS) (Nat.le_refl _) (by omega)
    (fun i hi => by obtain rfl : i = 0 := by omega
                    exact cell_in hg _ _ rfl) (fun i hi => by obtain rfl : i = 0 := by omega
                                                              exact cell_in hg _ _ rfl)
    (fun i hi => by obtain rfl : i = 0 := by omega
                    exact cell_in hg _ _ rfl) (fun i hi => by obtain rfl : i = 0 := by omega
                                                              exact cell_in hg _ _ rfl)
    (fun i hi => fa.1) (fun i hi => fa.2.1) (fun i hi => fa.2.2) (fun i hi => la)
  have e2 : ((List.range 1).map fun i => Tm.mk a.op a.hd a.n a.args) = [a] := by cases a; rfl
  rw [e2] at row
  exact row

/-- the boxes of Apply -/
structure AFVar (w wr : World) (t : Tm) (tv lv Sv : Value) (cn : Int) : Prop where
  ht : wr.heap[w.heap.size]? = some (.cells #[.int .i64 t.op, .int .i64 t.hd, .int .i64 t.n, tv] 24 (0, 0))
  hl : wr.heap[w.heap.size + 1]? = some (.cells #[lv] 22 (0, 0))
  hS : wr.heap[w.heap.size + 1 + 1]? = some (.cells #[Sv, .int .i64 cn] 27 (0, 0))
  hr : wr.heap[w.heap.size + 1 + 1 + 1]? = some (.cells #[.int .i64 0, .int .i64 0, .int .i64 0, .slice none 0 0] 24 (0, 0))
  below : Below w.heap.size w wr
theorem AFVar.keep {w wr wr' : World} {t : Tm} {tv lv Sv : Value} {cn : Int} (H : AFVar w wr t tv lv Sv cn) (hb : Below wr.heap.size wr wr') : AFVar w wr' t tv lv Sv cn :=
  ⟨heap_kept hb H.ht, heap_kept hb H.hl, heap_kept hb H.hS, heap_kept hb H.hr, below_next H.below hb⟩

theorem applyF_zero {w wr : World} {t : Tm} {tv lv Sv : Value} {cn : Int} {a : Act} (H : AFVar w wr t tv lv Sv cn) (ha : a.tmps[6]? = some (.pointer (some ⟨w.heap.size + 1 + 1 + 1, 0, none⟩)) ∧ a.tmps[7]? = some (.int .i64 2) ∧ a.defers = []) :
    bodyPost Try.prog Try.f18 (GivesE w (Tm.zero, 2)) .ret a ((((wr.setCell ⟨w.heap.size + 1 + 1 + 1, 0, none⟩ (.int .i64 0)).setCell ⟨w.heap.size + 1 + 1 + 1, 1, none⟩ (.int .i64 0)).setCell ⟨w.heap.size + 1 + 1 + 1, 2, none⟩ (.int .i64 0)).setCell ⟨w.heap.size + 1 + 1 + 1, 3, none⟩ (.slice none 0 0)) := by
  obtain ⟨h8, h9, hd⟩ := ha
  obtain ⟨z0, z1, z2, z3⟩ := c4_of (set4_at H.hr (.int .i64 0) (.int .i64 0) (.int .i64 0) (.slice none 0 0))
  refine bodyPost_ret (v := .tuple #[.agg #[.int .i64 0, .int .i64 0, .int .i64 0, .slice none 0 0], .int .i64 2]) (by simp [results, Try.results18, go_sem, h8, h9, z0, z1, z2, z3]) hd ?_
  have h4 : w.heap.size ≤ w.heap.size + 1 + 1 + 1 := by omega
  exact givesE_zero rfl ((((H.below.setCell h4 _).setCell h4 _).setCell h4 _).setCell h4 _)

theorem blocks4 (w : World) (c1 c2 c3 c4 : Array Value) (t1 t2 t3 t4 : TypeId) :
    ((((w.alloc (.cells c1 t1)).alloc (.cells c2 t2)).alloc (.cells c3 t3)).alloc (.cells c4 t4)).heap.size = w.heap.size + 1 + 1 + 1 + 1 := by simp

set_option maxHeartbeats 4000000 in
set_option maxRecDepth 100000 in
theorem applyF_bad (t : Tm) (l : List Tm) (cn : Int) (Ss : List Sp.Tm) (tv lv Sv : Value) (w : World) (lt : Lies w (fun _ => True) tv t.args) (ll : Lies w (fun _ => True) lv l) (lS : Sp.Lies w (fun _ => True) Sv Ss) (ft : t.fit)
    (hbad : (Tm.proper t && okList l && Sp.Tm.small (.mk cn Ss)) = false) :
    Calls Try.prog 18 #[.agg #[.int .i64 t.op, .int .i64 t.hd, .int .i64 t.n, tv], lv, .agg #[Sv, .int .i64 cn]] w (GivesE w (Tm.zero, 2)) := by
  obtain ⟨a1, n1, m1, rfl⟩ := lt.isSlice
  obtain ⟨a2, n2, m2, rfl⟩ := ll.isSlice
  obtain ⟨a3, n3, m3, rfl⟩ := lS.isSlice
  have h5 := four_blocks w #[.int .i64 t.op, .int .i64 t.hd, .int .i64 t.n, .slice a1 n1 m1] #[.slice a2 n2 m2] #[.slice a3 n3 m3, .int .i64 cn] #[.int .i64 0, .int .i64 0, .int .i64 0, .slice none 0 0] 24 22 27 24
  have V0 : AFVar w _ t (.slice a1 n1 m1) (.slice a2 n2 m2) (.slice a3 n3 m3) cn := ⟨h5.1, h5.2.1, h5.2.2.1, h5.2.2.2.1, h5.2.2.2.2.1⟩
  have V1 := V0.keep (one_below _ (.cells #[.int .i64 t.op, .int .i64 t.hd, .int .i64 t.n, .slice a1 n1 m1] 24))
  have hnew := heap_alloc_new ((((w.alloc (.cells #[.int .i64 t.op, .int .i64 t.hd, .int .i64 t.n, .slice a1 n1 m1] 24)).alloc (.cells #[.slice a2 n2 m2] 22)).alloc (.cells #[.slice a3 n3 m3, .int .i64 cn] 27)).alloc (.cells #[.int .i64 0, .int .i64 0, .int .i64 0, .slice none 0 0] 24)) (.cells #[.int .i64 t.op, .int .i64 t.hd, .int .i64 t.n, .slice a1 n1 m1] 24)
  rw [blocks4] at hnew
  have call1 := areProper_any (.slice (some ⟨w.heap.size + 1 + 1 + 1 + 1, 0, none⟩) 1 1) [t] _ (lies_single (S := fun _ => True) trivial hnew ft (lt.keep V1.below))
  have call2 : ∀ w1, Below w.heap.size w w1 → _ := fun w1 hb => isList_any (.slice a2 n2 m2) l w1 (ll.keep hb)
  have call3 : ∀ w1, Below w.heap.size w w1 → _ := fun w1 hb => Sp.isSmall_any cn (.slice a3 n3 m3) Ss w1 (lS.keep hb)
  have HV := Lib.hid V1
  have ways : Tm.proper t = false ∨ (Tm.proper t = true ∧ okList l = false) ∨ (Tm.proper t = true ∧ okList l = true ∧ Sp.Tm.small (.mk cn Ss) = false) := by
    revert hbad
    cases Tm.proper t <;> cases okList l <;> cases Sp.Tm.small (.mk cn Ss) <;> simp
  clear h5 hbad V0 V1 lt ll lS ft hnew
  rcases ways with k1 | ⟨k1, k2⟩ | ⟨k1, k2, k3⟩
  all_goals
    simp only [List.all_cons, List.all_nil, k1, Bool.and_self, Bool.and_true] at call1
    try simp only [k2] at call2
    try simp only [k3] at call3
    clear k1
    try clear k2
    try clear k3
    go_enter Try.func18, Try.ntmps18
    go_wp2_with fail
    refine call1.mono ?_
    rintro e w1 ⟨rfl, hb1⟩
    have V2 := HV.out.keep hb1
    have hcn := cell_in V2.hl 0 _ rfl
    obtain ⟨y0, y1, y2, y3⟩ := c4_of V2.hr
    have f0 := free_in V2.hr 0
    have f1 := free_in V2.hr 1
    have f2 := free_in V2.hr 2
    have f3 := free_in V2.hr 3
    have HV2 := Lib.hid V2
    clear V2 hb1 call1
    go_wp2_with fail
  · exact applyF_zero HV2.out ⟨rfl, rfl, rfl⟩
  · refine (call2 _ HV2.out.below).mono ?_
    rintro e w2 ⟨rfl, hb2⟩
    have V3 := HV2.out.keep hb2
    clear y0 y1 y2 y3 f0 f1 f2 f3 hcn HV2
    obtain ⟨y0, y1, y2, y3⟩ := c4_of V3.hr
    have f0 := free_in V3.hr 0
    have f1 := free_in V3.hr 1
    have f2 := free_in V3.hr 2
    have f3 := free_in V3.hr 3
    have HV2 := Lib.hid V3
    clear V3 hb2 call2
    go_wp2_with fail
    exact applyF_zero HV2.out ⟨rfl, rfl, rfl⟩
  · refine (call2 _ HV2.out.below).mono ?_
    rintro e w2 ⟨rfl, hb2⟩
    have V3 := HV2.out.keep hb2
    clear y0 y1 y2 y3 f0 f1 f2 f3 hcn HV2
    obtain ⟨⟨q0, q1⟩, _⟩ := cells2_of V3.hS
    have HV3 := Lib.hid V3
    clear V3 hb2 call2
    go_wp2_with fail
    refine (call3 _ HV3.out.below).mono ?_
    rintro e w3 ⟨rfl, hb3⟩
    have V4 := HV3.out.keep hb3
    clear q0 q1 HV3
    obtain ⟨y0, y1, y2, y3⟩ := c4_of V4.hr
    have f0 := free_in V4.hr 0
    have f1 := free_in V4.hr 1
    have f2 := free_in V4.hr 2
    have f3 := free_in V4.hr 3
    have HV4 := Lib.hid V4
    clear V4 hb3 call3
    go_wp2_with fail
    exact applyF_zero HV4.out ⟨rfl, rfl, rfl⟩

set_option maxHeartbeats 4000000 in
set_option maxRecDepth 100000 in
theorem applyF_good (t : Tm) (l : List Tm) (cn : Int) (Ss : List Sp.Tm) (tv lv Sv : Value) (w : World) (lt : Lies w (fun _ => True) tv t.args) (ll : Lies w (fun _ => True) lv l) (lS : Sp.Lies w (fun _ => True) Sv Ss) (ft : t.fit)
    (k1 : Tm.proper t = true) (k2 : okList l = true) (k3 : Sp.Tm.small (.mk cn Ss) = true) :
    Calls Try.prog 18 #[.agg #[.int .i64 t.op, .int .i64 t.hd, .int .i64 t.n, tv], lv, .agg #[Sv, .int .i64 cn]] w (GivesE w (outOf (app Ss t l 0))) := by
  obtain ⟨a1, n1, m1, rfl⟩ := lt.isSlice
  obtain ⟨a2, n2, m2, rfl⟩ := ll.isSlice
  obtain ⟨a3, n3, m3, rfl⟩ := lS.isSlice
  have h5 := four_blocks w #[.int .i64 t.op, .int .i64 t.hd, .int .i64 t.n, .slice a1 n1 m1] #[.slice a2 n2 m2] #[.slice a3 n3 m3, .int .i64 cn] #[.int .i64 0, .int .i64 0, .int .i64 0, .slice none 0 0] 24 22 27 24
  have V0 : AFVar w _ t (.slice a1 n1 m1) (.slice a2 n2 m2) (.slice a3 n3 m3) cn := ⟨h5.1, h5.2.1, h5.2.2.1, h5.2.2.2.1, h5.2.2.2.2.1⟩
  have V1 := V0.keep (one_below _ (.cells #[.int .i64 t.op, .int .i64 t.hd, .int .i64 t.n, .slice a1 n1 m1] 24))
  have hnew := heap_alloc_new ((((w.alloc (.cells #[.int .i64 t.op, .int .i64 t.hd, .int .i64 t.n, .slice a1 n1 m1] 24)).alloc (.cells #[.slice a2 n2 m2] 22)).alloc (.cells #[.slice a3 n3 m3, .int .i64 cn] 27)).alloc (.cells #[.int .i64 0, .int .i64 0, .int .i64 0, .slice none 0 0] 24)) (.cells #[.int .i64 t.op, .int .i64 t.hd, .int .i64 t.n, .slice a1 n1 m1] 24)
  rw [blocks4] at hnew
  have call1 := areProper_any (.slice (some ⟨w.heap.size + 1 + 1 + 1 + 1, 0, none⟩) 1 1) [t] _ (lies_single (S := fun _ => True) trivial hnew ft (lt.keep V1.below))
  have call2 : ∀ w1, Below w.heap.size w w1 → _ := fun w1 hb => isList_any (.slice a2 n2 m2) l w1 (ll.keep hb)
  have call3 : ∀ w1, Below w.heap.size w w1 → _ := fun w1 hb => Sp.isSmall_any cn (.slice a3 n3 m3) Ss w1 (lS.keep hb)
  have HV := Lib.hid V1
  have hk : l.length ≤ 600 ∧ ∀ x ∈ l, Tm.proper x = true := by
    have h := k2
    simp only [okList, Bool.and_eq_true, decide_eq_true_eq, List.all_eq_true] at h
    exact h
  have hF : ∀ args w, (callFunc 52 args).run Try.prog w = .ok (.enter 52 args) w := fun args w => by simp [go_sem]
  obtain ⟨r, hr⟩ : ∃ r, r = app Ss t l 0 := ⟨_, rfl⟩
  have call4 : ∀ w1, AFVar w w1 t (.slice a1 n1 m1) (.slice a2 n2 m2) (.slice a3 n3 m3) cn → Calls Try.prog 42 #[.func (.func 52) #[] #[.pointer (some ⟨w.heap.size + 1, 0, none⟩), .pointer (some ⟨w.heap.size, 0, none⟩), .pointer (some ⟨w.heap.size + 1 + 1, 0, none⟩)]] w1 (GivesE w1 (outOf r)) := fun w1 V => by
    obtain ⟨so, sh, sk, sa⟩ := t
    have hsz := lt_blk V.hr
    have box : ∀ w2, Below w1.heap.size w1 w2 → ApBox w2 (w1.heap.size + 1 + 1) (w.heap.size + 1) w.heap.size (w.heap.size + 1 + 1) l (.slice a2 n2 m2) (.mk so sh sk sa) (.slice a1 n1 m1) (.slice a3 n3 m3) cn Ss := fun w2 hb => by
      have V' := V.keep hb
      refine ⟨V'.hl, V'.ht, V'.hS, (ll.more (S' := (· ≠ w1.heap.size + 1 + 1)) fun b hlt _ => ?_).keep V'.below, (lt.more (S' := (· ≠ w1.heap.size + 1 + 1)) fun b hlt _ => ?_).keep V'.below, (lS.more (S' := (· ≠ w1.heap.size + 1 + 1)) fun b hlt _ => ?_).keep V'.below, by omega⟩
      all_goals
        have := V.below.size
        omega
    rcases hrr : r with ⟨x, c⟩ | x
    · refine finish_ok _ _ x c w1 hF fun w2 hb hc => ?_
      have h := applyC_any _ _ _ _ so sh sk cn sa l Ss _ _ _ w2 (box w2 hb) hc k1 hk.2 hk.1
      rw [Tm.moved_zero, ← hr, hrr] at h
      exact h
    · refine finish_er _ _ x w1 hF fun w2 hb hc => ?_
      have h := applyC_any _ _ _ _ so sh sk cn sa l Ss _ _ _ w2 (box w2 hb) hc k1 hk.2 hk.1
      rw [Tm.moved_zero, ← hr, hrr] at h
      exact h
  rw [← hr]
  generalize outOf r = R at call4 ⊢
  obtain ⟨x, xe⟩ := R
  simp only [List.all_cons, List.all_nil, k1, Bool.and_self] at call1
  simp only [k2] at call2
  simp only [k3] at call3
  have HF := Lib.hid hF
  clear h5 hnew V0 V1 lt ll lS ft k1 k2 k3 hk hr hF
  go_enter Try.func18, Try.ntmps18
  go_wp2_with fail
  refine call1.mono ?_
  rintro e w1 ⟨rfl, hb1⟩
  have V2 := HV.out.keep hb1
  have hcn := cell_in V2.hl 0 _ rfl
  have HV2 := Lib.hid V2
  clear V2 hb1 call1
  go_wp2_with fail
  refine (call2 _ HV2.out.below).mono ?_
  rintro e w2 ⟨rfl, hb2⟩
  have V3 := HV2.out.keep hb2
  clear hcn HV2
  obtain ⟨⟨q0, q1⟩, _⟩ := cells2_of V3.hS
  have HV3 := Lib.hid V3
  clear V3 hb2 call2
  go_wp2_with fail
  refine (call3 _ HV3.out.below).mono ?_
  rintro e w3 ⟨rfl, hb3⟩
  have V4 := HV3.out.keep hb3
  clear q0 q1 HV3
  have HV4 := Lib.hid V4
  clear V4 hb3 call3
  have hmf : ∀ (fn : Fn) (first cap : Array Value) (w : World), (Instr.makeFunc fn first cap).run Try.prog w = .ok (.func fn first cap) w := fun _ _ _ _ => rfl
  go_wp2_with fail
  refine (call4 _ HV4.out).mono ?_
  rintro e w5 ⟨v, rfl, hb5, L⟩
  obtain ⟨a4, n4, m4, rfl⟩ := L.isSlice
  dsimp only at L
  have V5 := HV4.out.keep hb5
  have hsz := lt_blk HV4.out.hr
  have hsw := HV4.out.below.size
  clear call4 HV4
  obtain ⟨y0, y1, y2, y3⟩ := c4_of V5.hr
  have f0 := free_in V5.hr 0
  have f1 := free_in V5.hr 1
  have f2 := free_in V5.hr 2
  have f3 := free_in V5.hr 3
  have HV5 := Lib.hid V5
  have HL := Lib.hid (And.intro L (And.intro hsz hsw))
  clear V5 hb5 L hsz hsw
  go_wp2_with fail
  have hz := set4_at HV5.out.hr (.int .i64 x.op) (.int .i64 x.hd) (.int .i64 x.n) (.slice a4 n4 m4)
  obtain ⟨z0, z1, z2, z3⟩ := c4_of hz
  refine bodyPost_ret (v := .tuple #[.agg #[.int .i64 x.op, .int .i64 x.hd, .int .i64 x.n, .slice a4 n4 m4], .int .i64 xe]) (by simp [results, Try.results18, go_sem, z0, z1, z2, z3]) rfl ?_
  have h4 : w.heap.size ≤ w.heap.size + 1 + 1 + 1 := by omega
  obtain ⟨L, hsz, hsw⟩ := HL.out
  refine ⟨_, rfl, ((((HV5.out.below.setCell h4 _).setCell h4 _).setCell h4 _).setCell h4 _), (L.still fun b hS hlt => set4_other _ _ _ _ ?_).more fun b _ hS => ?_⟩
  · omega
  · omega

/-- the contract of Apply -/
theorem applyF_any (t : Tm) (l : List Tm) (cn : Int) (Ss : List Sp.Tm) (tv lv Sv : Value) (w : World) (lt : Lies w (fun _ => True) tv t.args) (ll : Lies w (fun _ => True) lv l) (lS : Sp.Lies w (fun _ => True) Sv Ss) (ft : t.fit) :
    Calls Try.prog 18 #[.agg #[.int .i64 t.op, .int .i64 t.hd, .int .i64 t.n, tv], lv, .agg #[Sv, .int .i64 cn]] w (GivesE w (applyOut t l (.mk cn Ss))) := by
  unfold applyOut
  rcases h : (Tm.proper t && okList l && Sp.Tm.small (.mk cn Ss)) with _ | _
  · exact applyF_bad t l cn Ss tv lv Sv w lt ll lS ft h
  · simp only [Bool.and_eq_true] at h
    exact applyF_good t l cn Ss tv lv Sv w lt ll lS ft h.1.1 h.1.2 h.2
end Go.Proofs.Ytieakippgeehgaa.Sb
