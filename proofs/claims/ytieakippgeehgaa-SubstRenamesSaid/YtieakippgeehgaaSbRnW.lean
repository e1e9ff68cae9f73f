/- The law SubstRenames, walked. -/
import Derived.Test.YtieakippgeehgaaSbRnC
import Derived.Test.YtieakippgeehgaaSbTdW
namespace Go.Proofs.Ytieakippgeehgaa.Sb
open Go.RowKit
set_option linter.unusedSimpArgs false
set_option linter.unusedVariables false

/-- what the region of the comparison reads -/
abbrev CRa (W : World) (X A b bo : Nat) (Gv a0 a1 e0 e1 : Value) : Prop :=
  W.cell? ⟨X, 1, none⟩ = some Gv ∧ W.cell? ⟨A, 0, none⟩ = some a0 ∧ W.cell? ⟨A, 1, none⟩ = some a1 ∧ W.cell? ⟨b, bo, none⟩ = some e0 ∧ W.cell? ⟨b, bo + 1, none⟩ = some e1
theorem cra_below {W W' : World} {X A b bo : Nat} {Gv a0 a1 e0 e1 : Value} (hb : Below W.heap.size W W') (x : CRa W X A b bo Gv a0 a1 e0 e1) : CRa W' X A b bo Gv a0 a1 e0 e1 := by
  obtain ⟨x1, x2, x3, x4, x5⟩ := x
  exact ⟨kept_cell hb x1, kept_cell hb x2, kept_cell hb x3, kept_cell hb x4, kept_cell hb x5⟩
/-- what the last region reads -/
abbrev CRb (W : World) (X T : Nat) (q0 q1 q2 q3 t0 t1 t2 t3 : Value) : Prop :=
  W.cell? ⟨X, 2, none⟩ = some q0 ∧ W.cell? ⟨X, 3, none⟩ = some q1 ∧ W.cell? ⟨X, 4, none⟩ = some q2 ∧ W.cell? ⟨X, 5, none⟩ = some q3 ∧ W.cell? ⟨T, 0, none⟩ = some t0 ∧ W.cell? ⟨T, 1, none⟩ = some t1 ∧ W.cell? ⟨T, 2, none⟩ = some t2 ∧ W.cell? ⟨T, 3, none⟩ = some t3
theorem crb_below {W W' : World} {X T : Nat} {q0 q1 q2 q3 t0 t1 t2 t3 : Value} (hb : Below W.heap.size W W') (x : CRb W X T q0 q1 q2 q3 t0 t1 t2 t3) : CRb W' X T q0 q1 q2 q3 t0 t1 t2 t3 := by
  obtain ⟨x1, x2, x3, x4, x5, x6, x7, x8⟩ := x
  exact ⟨kept_cell hb x1, kept_cell hb x2, kept_cell hb x3, kept_cell hb x4, kept_cell hb x5, kept_cell hb x6, kept_cell hb x7, kept_cell hb x8⟩
theorem same_trueR (T : Tm) (v v' : Value) (w : World) (hv : Lies w (fun _ => True) v T.args) (hv' : Lies w (fun _ => True) v' T.args) :
    Calls Try.prog 36 #[.agg #[.int .i64 T.op, .int .i64 T.hd, .int .i64 T.n, v], .agg #[.int .i64 T.op, .int .i64 T.hd, .int .i64 T.n, v']] w fun e' w' => e' = .returned (.bool true) ∧ Below w.heap.size w w' := by
  have c := same_any _ _ T.op T.hd T.n T.op T.hd T.n v v' T.args T.args w hv hv'
  rw [(Tm.same_iff _ _).2 rfl] at c
  exact c

set_option maxHeartbeats 16000000 in
set_option maxRecDepth 100000 in
theorem substRenames_walk (t : Tm) (N M cn : Int) (K G Ss : List Sp.Tm) (Kv Gv tv Sv : Value) (w : World) (ft : t.fit) (lK : Sp.Lies w (fun _ => True) Kv K) (lG : Sp.Lies w (fun _ => True) Gv G) (lt : Lies w (fun _ => True) tv t.args) (lS : Sp.Lies w (fun _ => True) Sv Ss) :
    Calls Try.prog 12 #[.agg #[Kv, Gv, .int .i64 t.op, .int .i64 t.hd, .int .i64 t.n, tv, Sv, .int .i64 cn], .int .i64 N, .int .i64 M] w fun e w' => e = .returned (.bool true) ∧ Below w.heap.size w w' := by
  obtain ⟨a1, n1, m1, rfl⟩ := lt.isSlice
  obtain ⟨a2, n2, m2, rfl⟩ := lS.isSlice
  obtain ⟨a4, n4, m4, rfl⟩ := lK.isSlice
  obtain ⟨aG, bG, oG, lG', cG, kG, sG, tG, rfl, GR⟩ := lG.open
  have h2 := heap_alloc_new w (.cells #[.slice a4 n4 m4, .slice aG lG' cG, .int .i64 t.op, .int .i64 t.hd, .int .i64 t.n, .slice a1 n1 m1, .slice a2 n2 m2, .int .i64 cn] 59)
  have hb2 := one_below w (.cells #[.slice a4 n4 m4, .slice aG lG' cG, .int .i64 t.op, .int .i64 t.hd, .int .i64 t.n, .slice a1 n1 m1, .slice a2 n2 m2, .int .i64 cn] 59)
  obtain ⟨x0, x1, x2, x3, x4, x5, x6, x7⟩ := cells8v h2
  have cR := right_any K G Ss t cn (.slice a4 n4 m4) (.slice aG lG' cG) (.slice a1 n1 m1) (.slice a2 n2 m2) _ (lK.keep hb2) (lG.keep hb2) (lt.keep hb2) (lS.keep hb2)
  have hGl := GR.length
  have hGc := GR.hl
  have hGr := GR.hr
  have HB := Lib.hid (And.intro hb2 h2)
  have HG := Lib.hid GR
  have HL := Lib.hid (And.intro lK (And.intro lG (And.intro lt lS)))
  have HF := Lib.hid ft
  clear h2 hb2 lK lG lt lS GR ft
  rcases hR : rightB K G t (.mk cn Ss) with _ | _
  · rw [hR] at cR
    clear hGl hGc hGr hR
    go_enter Try.func12, Try.ntmps12
    go_wp2_with fail
    refine cR.mono ?_
    rintro e w1 ⟨rfl, hb1⟩
    have HA1 := Lib.hid (below_next HB.out.1 hb1)
    clear x0 x1 x2 x3 x4 x5 x6 x7 hb1 cR
    go_wp2_with fail
    refine (awake_any _).mono ?_
    rintro e w9 ⟨rfl, hb9⟩
    go_wp2_with fail
    go_ret
    exact ⟨rfl, below_next HA1.out hb9⟩
  · rw [hR] at cR
    by_cases hz : lG' < 2
    · have hz1 : (lG' : Int) < 2 := by omega
      clear hGl hGc hGr hR hz
      go_enter Try.func12, Try.ntmps12
      go_wp2_with fail
      refine cR.mono ?_
      rintro e w1 ⟨rfl, hb1⟩
      have HA1 := Lib.hid (And.intro (below_next HB.out.1 hb1) (heap_kept hb1 HB.out.2))
      clear x0 x1 x2 x3 x4 x5 x6 x7 hb1 cR
      obtain ⟨x0, x1, x2, x3, x4, x5, x6, x7⟩ := cells8v HA1.out.2
      go_wp2_with fail
      refine (awake_any _).mono ?_
      rintro e w9 ⟨rfl, hb9⟩
      go_wp2_with fail
      go_ret
      exact ⟨rfl, below_next HA1.out.1 hb9⟩
    · have hz1 : ¬ (lG' : Int) < 2 := by omega
      obtain rfl := HG.out.hao (by omega)
      have HX := Lib.hid (And.intro hR (And.intro hGl (And.intro hGc hGr)))
      have hl20 := (rightB_parts hR).1
      rw [hGl] at hl20
      clear hR hGl hGc hGr
      go_enter Try.func12, Try.ntmps12
      go_wp2_with fail
      refine cR.mono ?_
      rintro e w1 ⟨rfl, hb1⟩
      have HA1 := Lib.hid (And.intro (below_next HB.out.1 hb1) (heap_kept hb1 HB.out.2))
      clear x0 x1 x2 x3 x4 x5 x6 x7 hb1 cR
      obtain ⟨x0, x1, x2, x3, x4, x5, x6, x7⟩ := cells8v HA1.out.2
      obtain ⟨m0, hm0, hm0l⟩ := mod_inI M (L := (lG' : Int) - 1) (by omega) (by omega)
      have hm1 : (1 : Int) + (m0 : Int) = ((m0 + 1 : Nat) : Int) := by omega
      have hm2 : m0 + 1 < lG' := by omega
      generalize m0 + 1 = m at hm1 hm2
      have hm3 : 0 < m := by omega
      go_upto_region 4 with fail
      obtain ⟨n, hn0, hn1⟩ := mod_inI N (L := (m : Int)) (by omega) (by omega)
      have hn2 : n < lG' := by omega
      go_upto_region 5 with fail
      try rw [hn0]
      obtain ⟨pa0, pa1, pas⟩ := HG.out.at HA1.out.1 (lG' - 1 - n) (by omega)
      obtain ⟨a7, n7, m7, hs7⟩ := pas.isSlice
      rw [hs7] at pa0 pas
      obtain ⟨pb0, pb1, pbs⟩ := HG.out.at HA1.out.1 (lG' - 1 - m) (by omega)
      obtain ⟨a8, n8, m8, hs8⟩ := pbs.isSlice
      rw [hs8] at pb0 pbs
      have i0 : (0 : Int) ≤ (lG' : Int) - 1 - n := by omega
      have i1 : (lG' : Int) - 1 - n < (lG' : Int) := by omega
      have j0 : (0 : Int) ≤ (lG' : Int) - 1 - m := by omega
      have j1 : (lG' : Int) - 1 - m < (lG' : Int) := by omega
      have HGA : Hid (G[lG' - 1 - n]? = some (.mk (kG (lG' - 1 - n)) (tG (lG' - 1 - n))) ∧ G[lG' - 1 - m]? = some (.mk (kG (lG' - 1 - m)) (tG (lG' - 1 - m)))) := Lib.hid ⟨List.getElem?_eq_some_iff.2 ⟨_, HG.out.get (lG' - 1 - n) (by omega)⟩, List.getElem?_eq_some_iff.2 ⟨_, HG.out.get (lG' - 1 - m) (by omega)⟩⟩
      have HNM : Hid (n < m ∧ m < lG' ∧ lG' ≤ 20) := Lib.hid (by omega)
      have hba := one_below w1 (.cells #[.slice a7 n7 m7, .int .i64 (kG (lG' - 1 - n))] 27)
      have hOn := heap_alloc_new w1 (.cells #[.slice a7 n7 m7, .int .i64 (kG (lG' - 1 - n))] 27)
      have hX2 := heap_kept hba HA1.out.2
      have hbw : Below w.heap.size w (w1.alloc (.cells #[.slice a7 n7 m7, .int .i64 (kG (lG' - 1 - n))] 27)) := below_next HA1.out.1 hba
      have hS0 : CRa (w1.alloc (.cells #[.slice a7 n7 m7, .int .i64 (kG (lG' - 1 - n))] 27)) w.heap.size w1.heap.size bG (oG + (lG' - 1 - m) * 2) (.slice (some ⟨bG, oG, none⟩) lG' cG) (.slice a7 n7 m7) (.int .i64 (kG (lG' - 1 - n))) (.slice a8 n8 m8) (.int .i64 (kG (lG' - 1 - m))) :=
        ⟨(cells8v hX2).2.1, (cells2_of hOn).1.1, (cells2_of hOn).1.2, kept_cell hba pb0, kept_cell hba pb1⟩
      have hpa := pas.keep hba
      have hpb := pbs.keep hba
      clear hm0 hm0l hm1 hm3 hn0 hn1 hs7 hs8 pas pbs
      generalize hw3 : w1.alloc (.cells #[.slice a7 n7 m7, .int .i64 (kG (lG' - 1 - n))] 27) = w3 at hS0 hba hOn hX2 hbw hpa hpb
      have HW := Lib.hid (And.intro hbw (And.intro hX2 hOn))
      have HQ := Lib.hid (And.intro hpa hpb)
      have HD : Hid (Below w3.heap.size w3 w3.drew) := Lib.hid (Below.refl _ _).drew
      have cQ : ∀ W', Below w3.heap.size w3 W' → _ := fun W' hb => Sp.same_any (fun _ => True) (fun _ => True) (kG (lG' - 1 - n)) (kG (lG' - 1 - m)) (.slice a7 n7 m7) (.slice a8 n8 m8) (tG (lG' - 1 - n)) (tG (lG' - 1 - m)) W' (hpa.keep hb) (hpb.keep hb)
      clear hbw hX2 hba hOn hpa hpb
      rcases hsm : Sp.Tm.same (.mk (kG (lG' - 1 - n)) (tG (lG' - 1 - n))) (.mk (kG (lG' - 1 - m)) (tG (lG' - 1 - m))) with _ | _
      · simp only [hsm] at cQ
        clear hsm
        go_upto_region 6 with fail
        clear hw3 x0 x1 x2 x3 x4 x5 x6 x7 pa0 pa1 pb0 pb1
        have j2 : (m : Int) ≤ (lG' : Int) - 1 := by omega
        have q1 : IntKind.i64.wrap ((lG' : Int) - 1) = (lG' : Int) - 1 := IntWalk.i64_in _ (by omega)
        have q2 : IntKind.i64.wrap ((lG' : Int) - 1 - (m : Int)) = (lG' : Int) - 1 - (m : Int) := IntWalk.i64_in _ (by omega)
        have q3 : ((lG' : Int) - 1 - (m : Int)).toNat = lG' - 1 - m := by omega
        go_region_held3 (fun X => CRa X w.heap.size w1.heap.size bG (oG + (lG' - 1 - m) * 2) (.slice (some ⟨bG, oG, none⟩) lG' cG) (.slice a7 n7 m7) (.int .i64 (kG (lG' - 1 - n))) (.slice a8 n8 m8) (.int .i64 (kG (lG' - 1 - m))))
          (first | (with_reducible exact hS0) | (with_reducible exact hcn4) | (with_reducible exact cra_below HD.out hS0) | fail)
          (first | (go_at_call 37; (with_reducible refine (cQ _ ?_).mono ?_); (first | (with_reducible exact HD.out) | fail); rintro e w4 ⟨rfl, hb4⟩; have hcn4 := cra_below hb4 (cra_below HD.out hS0); have HB4 := Lib.hid (HD.out.trans (hb4.mono HD.out.size)); clear hb4) | fail)
        all_goals
          go_wp2_with fail
          refine (awake_any _).mono ?_
          rintro e w9 ⟨rfl, hb9⟩
          go_wp2_with fail
          go_ret
          exact ⟨rfl, below_next (below_next HW.out.1 HB4.out) hb9⟩
      · simp only [hsm] at cQ
        have hAB := (Sp.Tm.same_iff _ _).1 hsm
        have hma := renames_math HX.out.2.1 HGA.out.1 (by rw [hAB]; exact HGA.out.2) HNM.out.1 HNM.out.2.1 HX.out.1
        have hpr := (rightB_parts HX.out.1).2.1
        clear hsm hAB
        have cL := fun (W' : World) (LS : Sp.Lies W' (fun _ => True) (.slice a7 n7 m7) (tG (lG' - 1 - n))) => longF_any 1 ((m : Int) - n - 1) (kG (lG' - 1 - n)) (tG (lG' - 1 - n)) (.slice a7 n7 m7) W' LS
        generalize longOut 1 ((m : Int) - n - 1) (.mk (kG (lG' - 1 - n)) (tG (lG' - 1 - n))) = o1 at cL hma
        obtain ⟨T1, e1⟩ := o1
        have cS := fun (W' : World) (v1 : Value) (hb : Below w.heap.size w W') (l1 : Lies W' (fun _ => True) v1 T1.args) (LS : Sp.Lies W' (fun _ => True) (.slice a7 n7 m7) (tG (lG' - 1 - n))) (f1 : T1.fit) => subst_any t T1 n (kG (lG' - 1 - n)) (tG (lG' - 1 - n)) (.slice a1 n1 m1) v1 (.slice a7 n7 m7) W' (HL.out.2.2.1.keep hb) l1 LS HF.out f1
        simp only at hma
        generalize substOut t n T1 (.mk (kG (lG' - 1 - n)) (tG (lG' - 1 - n))) = o2 at cS hma
        obtain ⟨T2, e2⟩ := o2
        simp only at hma
        have HMA := Lib.hid hma
        have HPR := Lib.hid hpr
        have HCS := Lib.hid cS
        have HCL := Lib.hid cL
        clear hma hpr cS cL
        go_upto_region 6 with fail
        clear hw3 x0 x1 x2 x3 x4 x5 x6 x7 pa0 pa1 pb0 pb1
        have j2 : (m : Int) ≤ (lG' : Int) - 1 := by omega
        have q1 : IntKind.i64.wrap ((lG' : Int) - 1) = (lG' : Int) - 1 := IntWalk.i64_in _ (by omega)
        have q2 : IntKind.i64.wrap ((lG' : Int) - 1 - (m : Int)) = (lG' : Int) - 1 - (m : Int) := IntWalk.i64_in _ (by omega)
        have q3 : ((lG' : Int) - 1 - (m : Int)).toNat = lG' - 1 - m := by omega
        go_region_held3 (fun X => CRa X w.heap.size w1.heap.size bG (oG + (lG' - 1 - m) * 2) (.slice (some ⟨bG, oG, none⟩) lG' cG) (.slice a7 n7 m7) (.int .i64 (kG (lG' - 1 - n))) (.slice a8 n8 m8) (.int .i64 (kG (lG' - 1 - m))))
          (first | (with_reducible exact hS0) | (with_reducible exact hcn4) | (with_reducible exact cra_below HD.out hS0) | fail)
          (first | (go_at_call 37; (with_reducible refine (cQ _ ?_).mono ?_); (first | (with_reducible exact HD.out) | fail); rintro e w4 ⟨rfl, hb4⟩; have hcn4 := cra_below hb4 (cra_below HD.out hS0); have HB4 := Lib.hid (HD.out.trans (hb4.mono HD.out.size)); clear hb4) | fail)
        clear q1 q2 q3 j2
        have HW4 := Lib.hid (And.intro (below_next HW.out.1 HB4.out) (And.intro (heap_kept HB4.out HW.out.2.1) (And.intro (heap_kept HB4.out HW.out.2.2) (HQ.out.1.keep HB4.out))))
        clear hS0 hcn4 cQ HB4
        obtain ⟨⟨z0, z1⟩, _⟩ := cells2_of HW4.out.2.2.1
        go_wp2_with fail
        refine (HCL.out _ HW4.out.2.2.2).mono ?_
        rintro e w5 ⟨v5, rfl, hb5, L5⟩
        obtain ⟨a5, n5, m5, rfl⟩ := L5.isSlice
        have hba5 := one_below w5 (.cells #[.int .i64 T1.op, .int .i64 T1.hd, .int .i64 T1.n, .slice a5 n5 m5] 24)
        have hO5 := heap_alloc_new w5 (.cells #[.int .i64 T1.op, .int .i64 T1.hd, .int .i64 T1.n, .slice a5 n5 m5] 24)
        have hb45 := below_next hb5 hba5
        have HW5 := Lib.hid (And.intro (below_next HW4.out.1 hb45) (And.intro (heap_kept hb45 HW4.out.2.1) (And.intro (heap_kept hb45 HW4.out.2.2.1) (HW4.out.2.2.2.keep hb45))))
        have HL5 := Lib.hid (And.intro hO5 ((L5.more (S' := fun _ => True) (fun _ _ _ => trivial)).keep hba5))
        clear z0 z1 hb5 L5 hba5 hO5 hb45
        rcases HMA.out with rfl | ⟨rfl, hp1, hrest⟩
        · go_wp2_with fail
          refine (awake_any _).mono ?_
          rintro e w9 ⟨rfl, hb9⟩
          go_wp2_with fail
          go_ret
          exact ⟨rfl, below_next HW5.out.1 hb9⟩
        · obtain ⟨x0, x1, x2, x3, x4, x5, x6, x7⟩ := cells8v HW5.out.2.1
          obtain ⟨y0, y1, y2, y3⟩ := c4_of HL5.out.1
          obtain ⟨⟨z0, z1⟩, _⟩ := cells2_of HW5.out.2.2.1
          have cS := HCS.out _ _ HW5.out.1 HL5.out.2 HW5.out.2.2.2 (fit_of hp1)
          clear hp1
          go_wp2_with fail
          refine cS.mono ?_
          rintro e w6 ⟨v6, rfl, hb6, L6⟩
          obtain ⟨a6, n6, m6, rfl⟩ := L6.isSlice
          have hba6 := one_below w6 (.cells #[.int .i64 T2.op, .int .i64 T2.hd, .int .i64 T2.n, .slice a6 n6 m6] 24)
          have hO6 := heap_alloc_new w6 (.cells #[.int .i64 T2.op, .int .i64 T2.hd, .int .i64 T2.n, .slice a6 n6 m6] 24)
          have hb56 := below_next hb6 hba6
          have hbw6 := below_next HW5.out.1 hb56
          have hX6 := heap_kept hb56 HW5.out.2.1
          have HW6 := Lib.hid (And.intro hbw6 ((L6.more (S' := fun _ => True) (fun _ _ _ => trivial)).keep hba6))
          clear x0 x1 x2 x3 x4 x5 x6 x7 y0 y1 y2 y3 z0 z1 hb6 L6 hba6 hb56 cS
          rcases hrest with rfl | ⟨rfl, hT3⟩
          · clear hbw6 hX6 hO6
            go_wp2_with fail
            refine (awake_any _).mono ?_
            rintro e w9 ⟨rfl, hb9⟩
            go_wp2_with fail
            go_ret
            exact ⟨rfl, below_next HW6.out.1 hb9⟩
          · obtain ⟨_, _, x2, x3, x4, x5, _, _⟩ := cells8v hX6
            obtain ⟨t0, t1, t2, t3⟩ := c4_of hO6
            obtain ⟨tq, th, tk, ta⟩ := t
            simp only [show (Tm.mk tq th tk ta).op = tq from rfl, show (Tm.mk tq th tk ta).hd = th from rfl, show (Tm.mk tq th tk ta).n = tk from rfl] at x2 x3 x4
            have hpt := Tm.proper_two HPR.out
            have hnt := Tm.nums_of_formed _ 1 hpt.2
            have cN : ∀ W', Below w.heap.size w W' → _ := fun W' hb => rnm_calls n ((m : Int) - 1) (by have := HNM.out; omega) (by have := HNM.out; omega) (Tm.sz (.mk tq th tk ta)) tq th tk 0 (.slice a1 n1 m1) ta W' (Nat.le_refl _) hpt.1 hnt (by omega) (by have := hpt.1; omega) (HL.out.2.2.1.keep hb)
            unfold GivesT at cN
            rw [← hT3] at cN
            have hS1 : CRb (w6.alloc (.cells #[.int .i64 T2.op, .int .i64 T2.hd, .int .i64 T2.n, .slice a6 n6 m6] 24)) w.heap.size w6.heap.size (.int .i64 tq) (.int .i64 th) (.int .i64 tk) (.slice a1 n1 m1) (.int .i64 T2.op) (.int .i64 T2.hd) (.int .i64 T2.n) (.slice a6 n6 m6) := ⟨x2, x3, x4, x5, t0, t1, t2, t3⟩
            have hL6 := HW6.out.2
            generalize hw7 : w6.alloc (.cells #[.int .i64 T2.op, .int .i64 T2.hd, .int .i64 T2.n, .slice a6 n6 m6] 24) = w7 at hS1 hbw6 hO6 hX6 hL6
            have HW7 := Lib.hid (And.intro hbw6 hL6)
            have HD7 : Hid (Below w7.heap.size w7 w7.drew) := Lib.hid (Below.refl _ _).drew
            have cM : ∀ W', Below w7.heap.size w7 W' → Calls Try.prog 38 #[.agg #[.int .i64 tq, .int .i64 th, .int .i64 tk, .slice a1 n1 m1], .int .i64 n, .int .i64 ((m : Int) - 1), .int .i64 0] W' fun e w8 => ∃ a n m, e = .returned (.agg #[.int .i64 T2.op, .int .i64 T2.hd, .int .i64 T2.n, .slice a n m]) ∧ Below W'.heap.size W' w8 ∧ Lies w8 (fun _ => True) (.slice a n m) T2.args := fun W' hb => (cN W' (below_next HW7.out.1 hb)).mono fun e w8 ⟨v, he, hb8, L⟩ => by
              obtain ⟨a, n, m, rfl⟩ := L.isSlice
              exact ⟨a, n, m, he, hb8, L.more fun _ _ _ => trivial⟩
            have cE : ∀ v W', Below w7.heap.size w7 W' → Lies W' (fun _ => True) v T2.args → _ := fun v W' hb L => same_trueR T2 (.slice a6 n6 m6) v W' (HW7.out.2.keep hb) L
            clear cN hpt hnt hbw6 hO6 hX6 hL6 hT3 HMA HW6 x2 x3 x4 x5 t0 t1 t2 t3
            have hmb := HNM.out
            have q4 : IntKind.i64.wrap ((m : Int) - 1) = (m : Int) - 1 := IntWalk.i64_in _ (by omega)
            clear hmb
            go_upto_region 14 with fail
            clear hw7
            go_region_held3 (fun X => CRb X w.heap.size w6.heap.size (.int .i64 tq) (.int .i64 th) (.int .i64 tk) (.slice a1 n1 m1) (.int .i64 T2.op) (.int .i64 T2.hd) (.int .i64 T2.n) (.slice a6 n6 m6))
              (first | (with_reducible exact hS1) | (with_reducible exact hcn9) | (with_reducible exact hcn8) | (with_reducible exact hcn7) | (with_reducible exact crb_below HD7.out hS1) | fail)
              (first
                | (go_at_call 38; (with_reducible refine (cM _ ?_).mono ?_); (first | (with_reducible exact HD7.out) | fail); rintro e w8 ⟨a8', n8', m8', rfl, hb8, L8⟩; have hcn7 := crb_below hb8 (crb_below HD7.out hS1); have HB8 := Lib.hid (And.intro (HD7.out.trans (hb8.mono HD7.out.size)) L8); clear hb8 L8)
                | (go_at_call 36; (with_reducible refine (cE _ _ ?_ ?_).mono ?_); (first | (with_reducible exact HB8.out.1) | fail); (first | (with_reducible exact HB8.out.2) | fail); rintro e w10 ⟨rfl, hb10⟩; have hcn8 := crb_below hb10 hcn7; have HB10 := Lib.hid (HB8.out.1.trans (hb10.mono HB8.out.1.size)); clear hb10)
                | (go_at_call 17; (with_reducible refine (awake_any _).mono ?_); rintro e w11 ⟨rfl, hb11⟩; have hcn9 := crb_below hb11 hcn8; have HB11 := Lib.hid (HB10.out.trans (hb11.mono HB10.out.size)); clear hb11)
                | fail)
            go_wp2_with fail
            go_ret
            exact ⟨rfl, below_next HW7.out.1 HB11.out⟩
end Go.Proofs.Ytieakippgeehgaa.Sb
