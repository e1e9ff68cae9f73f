/- The law SubstTyped, walked. -/
import Derived.Test.YtieakippgeehgaaSbTdM
import Derived.Test.YtieakippgeehgaaSbAwake
import Derived.Test.YtieakippgeehgaaSbGc
import Derived.BigRegion
import Derived.ProofKit
namespace Go.Proofs.Ytieakippgeehgaa.Sb
open Go.RowKit
set_option linter.unusedSimpArgs false
set_option linter.unusedVariables false

theorem typed_math2 {K G : List Sp.Tm} {t s : Tm} {cn : Int} {Ss : List Sp.Tm} {n L : Nat} {A : Sp.Tm} (hL : G.length = L) (hA : G[L - 1 - n]? = some A) (hn : n < L) (hR : rightB K G t (.mk cn Ss) = true) (hps : Tm.proper s = true)
    (hfs : fitb K s (G.take (L - 1 - n)).reverse A.args A.n = true) :
    ((substOut t n s A).2 = 0 ∧ Tm.proper (substOut t n s A).1 = true ∧ fitb K (substOut t n s A).1 (G.take (L - 1 - n) ++ G.drop (L - n)).reverse Ss cn = true) ∨ (substOut t n s A).2 = 5 := by
  subst hL
  obtain ⟨_, rfl⟩ := List.getElem?_eq_some_iff.1 hA
  exact typed_math hn hR hps hfs
/-- a number turned into the range -/
theorem mod_in (n : Int) {L : Nat} (h0 : 0 < L) (h1 : L ≤ 1000000) : ∃ m : Nat, wrap64 ((IntKind.u64.wrap n).tmod (L : Int)) = (m : Int) ∧ m < L := by
  have h : 0 ≤ IntKind.u64.wrap n := by
    unfold IntKind.wrap
    simp only [IntKind.bits, IntKind.signed]
    first | (split <;> omega) | omega | exact Int.emod_nonneg _ (by decide)
  have e := Int.tmod_eq_emod_of_nonneg (b := (L : Int)) h
  have l0 := Int.emod_nonneg (IntKind.u64.wrap n) (b := (L : Int)) (by omega)
  have l1 := Int.emod_lt_of_pos (IntKind.u64.wrap n) (b := (L : Int)) (by omega)
  rw [e]
  refine ⟨((IntKind.u64.wrap n) % (L : Int)).toNat, ?_, by omega⟩
  rw [Int.toNat_of_nonneg l0]
  generalize IntKind.u64.wrap n % (L : Int) = x at *
  unfold wrap64
  omega

/-- what the first drawn region of SubstTyped reads -/
abbrev CTa (W : World) (X E A : Nat) (Kv Gv s0 s1 s2 s3 a0 a1 : Value) : Prop :=
  W.cell? ⟨X, 0, none⟩ = some Kv ∧ W.cell? ⟨X, 1, none⟩ = some Gv ∧ W.cell? ⟨E, 0, none⟩ = some s0 ∧ W.cell? ⟨E, 1, none⟩ = some s1 ∧ W.cell? ⟨E, 2, none⟩ = some s2 ∧ W.cell? ⟨E, 3, none⟩ = some s3 ∧ W.cell? ⟨A, 0, none⟩ = some a0 ∧ W.cell? ⟨A, 1, none⟩ = some a1
theorem cta_below {W W' : World} {X E A : Nat} {Kv Gv s0 s1 s2 s3 a0 a1 : Value} (hb : Below W.heap.size W W') (x : CTa W X E A Kv Gv s0 s1 s2 s3 a0 a1) : CTa W' X E A Kv Gv s0 s1 s2 s3 a0 a1 := by
  obtain ⟨x1, x2, x3, x4, x5, x6, x7, x8⟩ := x
  exact ⟨kept_cell hb x1, kept_cell hb x2, kept_cell hb x3, kept_cell hb x4, kept_cell hb x5, kept_cell hb x6, kept_cell hb x7, kept_cell hb x8⟩
/-- what the second one reads -/
abbrev CTb (W : World) (X T : Nat) (Kv Gv Sv cv t0 t1 t2 t3 : Value) : Prop :=
  W.cell? ⟨X, 0, none⟩ = some Kv ∧ W.cell? ⟨X, 1, none⟩ = some Gv ∧ W.cell? ⟨X, 6, none⟩ = some Sv ∧ W.cell? ⟨X, 7, none⟩ = some cv ∧ W.cell? ⟨T, 0, none⟩ = some t0 ∧ W.cell? ⟨T, 1, none⟩ = some t1 ∧ W.cell? ⟨T, 2, none⟩ = some t2 ∧ W.cell? ⟨T, 3, none⟩ = some t3
theorem ctb_below {W W' : World} {X T : Nat} {Kv Gv Sv cv t0 t1 t2 t3 : Value} (hb : Below W.heap.size W W') (x : CTb W X T Kv Gv Sv cv t0 t1 t2 t3) : CTb W' X T Kv Gv Sv cv t0 t1 t2 t3 := by
  obtain ⟨x1, x2, x3, x4, x5, x6, x7, x8⟩ := x
  exact ⟨kept_cell hb x1, kept_cell hb x2, kept_cell hb x3, kept_cell hb x4, kept_cell hb x5, kept_cell hb x6, kept_cell hb x7, kept_cell hb x8⟩

set_option maxHeartbeats 8000000 in
set_option maxRecDepth 100000 in
theorem substTyped_walk (t s : Tm) (n cn : Int) (K G Ss : List Sp.Tm) (Kv Gv tv Sv sv : Value) (w : World) (ft : t.fit) (fs : s.fit) (lK : Sp.Lies w (fun _ => True) Kv K) (lG : Sp.Lies w (fun _ => True) Gv G) (lt : Lies w (fun _ => True) tv t.args) (lS : Sp.Lies w (fun _ => True) Sv Ss) (ls : Lies w (fun _ => True) sv s.args) :
    Calls Try.prog 10 #[.agg #[Kv, Gv, .int .i64 t.op, .int .i64 t.hd, .int .i64 t.n, tv, Sv, .int .i64 cn], .int .i64 n, .agg #[.int .i64 s.op, .int .i64 s.hd, .int .i64 s.n, sv]] w fun e w' => e = .returned (.bool true) ∧ Below w.heap.size w w' := by
  obtain ⟨a1, n1, m1, rfl⟩ := lt.isSlice
  obtain ⟨a2, n2, m2, rfl⟩ := lS.isSlice
  obtain ⟨a3, n3, m3, rfl⟩ := ls.isSlice
  obtain ⟨a4, n4, m4, rfl⟩ := lK.isSlice
  obtain ⟨aG, bG, oG, lG', cG, kG, sG, tG, rfl, GR⟩ := lG.open
  have h2 := two_blocks w #[.slice a4 n4 m4, .slice aG lG' cG, .int .i64 t.op, .int .i64 t.hd, .int .i64 t.n, .slice a1 n1 m1, .slice a2 n2 m2, .int .i64 cn] #[.int .i64 s.op, .int .i64 s.hd, .int .i64 s.n, .slice a3 n3 m3] 59 24
  have hb2 := two_below w (.cells #[.slice a4 n4 m4, .slice aG lG' cG, .int .i64 t.op, .int .i64 t.hd, .int .i64 t.n, .slice a1 n1 m1, .slice a2 n2 m2, .int .i64 cn] 59) (.cells #[.int .i64 s.op, .int .i64 s.hd, .int .i64 s.n, .slice a3 n3 m3] 24)
  obtain ⟨x0, x1, x2, x3, x4, x5, x6, x7⟩ := cells8v h2.1
  have cR := right_any K G Ss t cn (.slice a4 n4 m4) (.slice aG lG' cG) (.slice a1 n1 m1) (.slice a2 n2 m2) _ (lK.keep hb2) (lG.keep hb2) (lt.keep hb2) (lS.keep hb2)
  have hGl := GR.length
  have hGc := GR.hl
  have hGr := GR.hr
  have HB := Lib.hid (And.intro hb2 (And.intro h2.1 h2.2))
  have HG := Lib.hid GR
  have HL := Lib.hid (And.intro lK (And.intro lG (And.intro lt (And.intro lS ls))))
  have HF := Lib.hid (And.intro ft fs)
  clear h2 hb2 lK lG lt lS ls GR ft fs
  rcases hR : rightB K G t (.mk cn Ss) with _ | _
  · rw [hR] at cR
    clear hGl hGc hGr hR
    go_enter Try.func10, Try.ntmps10
    go_wp2_with fail
    refine cR.mono ?_
    rintro e w1 ⟨rfl, hb1⟩
    have HA1 := Lib.hid (below_next HB.out.1 hb1)
    clear x0 x1 x2 x3 x4 x5 x6 x7 hb1 cR
    go_wp2_with fail
    refine (awake_any _).mono ?_
    rintro e w9 ⟨rfl, hb9⟩
    go_wp2_with fail
    go_ret
    exact ⟨rfl, below_next HA1.out hb9⟩
  · rw [hR] at cR
    by_cases hz : lG' = 0
    · have hz1 : ((lG' : Int) == 0) = true := by simp; omega
      clear hGl hGc hGr hR hz
      go_enter Try.func10, Try.ntmps10
      go_wp2_with fail
      refine cR.mono ?_
      rintro e w1 ⟨rfl, hb1⟩
      have HA1 := Lib.hid (And.intro (below_next HB.out.1 hb1) (heap_kept hb1 HB.out.2.1))
      clear x0 x1 x2 x3 x4 x5 x6 x7 hb1 cR
      obtain ⟨x0, x1, x2, x3, x4, x5, x6, x7⟩ := cells8v HA1.out.2
      go_wp2_with fail
      refine (awake_any _).mono ?_
      rintro e w9 ⟨rfl, hb9⟩
      go_wp2_with fail
      go_ret
      exact ⟨rfl, below_next HA1.out.1 hb9⟩
    · have hz1 : ((lG' : Int) == 0) = false := by simp; omega
      obtain rfl := HG.out.hao (by omega)
      rcases hps : Tm.proper s with _ | _
      · clear hGl hGc hGr hR hz
        go_enter Try.func10, Try.ntmps10
        go_wp2_with fail
        refine cR.mono ?_
        rintro e w1 ⟨rfl, hb1⟩
        have HA1 := Lib.hid (And.intro (below_next HB.out.1 hb1) (And.intro (heap_kept hb1 HB.out.2.1) (heap_kept hb1 HB.out.2.2)))
        clear x0 x1 x2 x3 x4 x5 x6 x7 hb1 cR
        obtain ⟨x0, x1, x2, x3, x4, x5, x6, x7⟩ := cells8v HA1.out.2.1
        obtain ⟨y0, y1, y2, y3⟩ := c4_of HA1.out.2.2
        have cP := proper_t s (fun _ => True) (.slice a3 n3 m3) _ (HL.out.2.2.2.2.keep HA1.out.1)
        rw [hps] at cP
        clear hps
        go_wp2_with fail
        refine cP.mono ?_
        rintro e w2 ⟨rfl, hb2⟩
        have HA2 := Lib.hid (below_next HA1.out.1 hb2)
        clear x0 x1 x2 x3 x4 x5 x6 x7 y0 y1 y2 y3 hb2 cP
        go_wp2_with fail
        refine (awake_any _).mono ?_
        rintro e w9 ⟨rfl, hb9⟩
        go_wp2_with fail
        go_ret
        exact ⟨rfl, below_next HA2.out hb9⟩
      · have HX := Lib.hid (And.intro hR (And.intro hps (And.intro hGl (And.intro hGc hGr))))
        have hl20 := (rightB_parts hR).1
        rw [hGl] at hl20
        clear hR hGl hGc hGr
        go_enter Try.func10, Try.ntmps10
        go_wp2_with fail
        refine cR.mono ?_
        rintro e w1 ⟨rfl, hb1⟩
        have HA1 := Lib.hid (And.intro (below_next HB.out.1 hb1) (And.intro (heap_kept hb1 HB.out.2.1) (heap_kept hb1 HB.out.2.2)))
        clear x0 x1 x2 x3 x4 x5 x6 x7 hb1 cR
        obtain ⟨x0, x1, x2, x3, x4, x5, x6, x7⟩ := cells8v HA1.out.2.1
        obtain ⟨y0, y1, y2, y3⟩ := c4_of HA1.out.2.2
        have cP := proper_t s (fun _ => True) (.slice a3 n3 m3) _ (HL.out.2.2.2.2.keep HA1.out.1)
        rw [hps] at cP
        clear hps
        go_wp2_with fail
        refine cP.mono ?_
        rintro e w2 ⟨rfl, hb2⟩
        have HA2 := Lib.hid (And.intro (below_next HA1.out.1 hb2) (And.intro (heap_kept hb2 HA1.out.2.1) (heap_kept hb2 HA1.out.2.2)))
        clear x0 x1 x2 x3 x4 x5 x6 x7 y0 y1 y2 y3 hb2 cP
        obtain ⟨x0, x1, x2, x3, x4, x5, x6, x7⟩ := cells8v HA2.out.2.1
        obtain ⟨y0, y1, y2, y3⟩ := c4_of HA2.out.2.2
        obtain ⟨m, hm, hml⟩ := mod_in n (L := lG') (by omega) (by omega)
        go_upto_region 4 with fail
        rw [hm]
        obtain ⟨p0, p1, psub⟩ := HG.out.at HA2.out.1 (lG' - 1 - m) (by omega)
        obtain ⟨a5, n5, m5, hs5⟩ := psub.isSlice
        rw [hs5] at p0 psub
        have hba := one_below w2 (.cells #[.slice a5 n5 m5, .int .i64 (kG (lG' - 1 - m))] 27)
        have hOn := heap_alloc_new w2 (.cells #[.slice a5 n5 m5, .int .i64 (kG (lG' - 1 - m))] 27)
        have hgA : G[lG' - 1 - m]? = some (.mk (kG (lG' - 1 - m)) (tG (lG' - 1 - m))) := List.getElem?_eq_some_iff.2 ⟨_, HG.out.get (lG' - 1 - m) (by omega)⟩
        have HGA := Lib.hid hgA
        have HP := Lib.hid (And.intro psub (And.intro hba hOn))
        have i0 : (0 : Int) ≤ (lG' : Int) - 1 - m := by omega
        have i1 : (lG' : Int) - 1 - m < (lG' : Int) := by omega
        have i2 : m < lG' := hml
        obtain ⟨⟨z0, z1⟩, _⟩ := cells2_of hOn
        obtain ⟨x0', x1', _, _, _, _, _, _⟩ := cells8v (heap_kept hba HA2.out.2.1)
        obtain ⟨y0', y1', y2', y3'⟩ := c4_of (heap_kept hba HA2.out.2.2)
        have hS0 : CTa (w2.alloc (.cells #[.slice a5 n5 m5, .int .i64 (kG (lG' - 1 - m))] 27)) w.heap.size (w.heap.size + 1) w2.heap.size (.slice a4 n4 m4) (.slice (some ⟨bG, oG, none⟩) lG' cG) (.int .i64 s.op) (.int .i64 s.hd) (.int .i64 s.n) (.slice a3 n3 m3) (.slice a5 n5 m5) (.int .i64 (kG (lG' - 1 - m))) :=
          ⟨x0', x1', y0', y1', y2', y3', z0, z1⟩
        generalize hw3 : w2.alloc (.cells #[.slice a5 n5 m5, .int .i64 (kG (lG' - 1 - m))] 27) = w3 at hS0 hba hOn
        have hbw : Below w.heap.size w w3 := below_next HA2.out.1 hba
        have HW := Lib.hid (And.intro hbw (And.intro (heap_kept hba HA2.out.2.1) (And.intro (heap_kept hba HA2.out.2.2) hOn)))
        have HPS := Lib.hid (psub.keep hba)
        have HD : Hid (Below w3.heap.size w3 w3.drew) := Lib.hid (Below.refl _ _).drew
        have cB : ∀ W', Below w3.heap.size w3 W' → _ := fun W' hb => before_any G m (.slice (some ⟨bG, oG, none⟩) lG' cG) W' (by rw [HX.out.2.2.1]; exact i2) (HL.out.2.1.keep (below_next hbw hb))
        have cF : ∀ v W', Below w3.heap.size w3 W' → Sp.Lies W' (fun _ => True) v (G.take (lG' - 1 - m)) → _ := fun v W' hb L => fits_any K (G.take (lG' - 1 - m)) (tG (lG' - 1 - m)) s (kG (lG' - 1 - m)) (.slice a4 n4 m4) v (.slice a3 n3 m3) (.slice a5 n5 m5) W' HX.out.2.1 (by rw [List.length_take]; omega) (HL.out.1.keep (below_next hbw hb)) L (HL.out.2.2.2.2.keep (below_next hbw hb)) (HPS.out.keep hb)
        rw [HX.out.2.2.1] at cB
        clear hm psub hba hOn hgA hs5 hbw x0' x1' y0' y1' y2' y3' z0 z1
        rcases hfs : fitb K s (G.take (lG' - 1 - m)).reverse (tG (lG' - 1 - m)) (kG (lG' - 1 - m)) with _ | _
        · simp only [hfs] at cF
          clear hfs
          go_upto_region 5 with fail
          clear hw3 x0 x1 x2 x3 x4 x5 x6 x7 y0 y1 y2 y3 p0 p1
          go_region_held3 (fun X => CTa X w.heap.size (w.heap.size + 1) w2.heap.size (.slice a4 n4 m4) (.slice (some ⟨bG, oG, none⟩) lG' cG) (.int .i64 s.op) (.int .i64 s.hd) (.int .i64 s.n) (.slice a3 n3 m3) (.slice a5 n5 m5) (.int .i64 (kG (lG' - 1 - m))))
            (first | (with_reducible exact hS0) | (with_reducible exact hcn5) | (with_reducible exact hcn4) | (with_reducible exact cta_below HD.out hS0) | fail)
            (first | (go_at_call 34; (with_reducible refine (cB _ ?_).mono ?_); (first | (with_reducible exact HD.out) | fail); rintro e w4 ⟨v4, rfl, hb4, L4⟩; have hcn4 := cta_below hb4 (cta_below HD.out hS0); have HB4 := Lib.hid (And.intro (HD.out.trans (hb4.mono HD.out.size)) L4); clear hb4 L4) | (go_at_call 33; (with_reducible refine (cF _ _ ?_ ?_).mono ?_); (first | (with_reducible exact HB4.out.1) | fail); (first | (with_reducible exact HB4.out.2) | fail); rintro e w5 ⟨rfl, hb5⟩; have hcn5 := cta_below hb5 hcn4; have HB5 := Lib.hid (HB4.out.1.trans (hb5.mono HB4.out.1.size)); clear hb5) | fail)
          go_wp2_with fail
          refine (awake_any _).mono ?_
          rintro e w9 ⟨rfl, hb9⟩
          go_wp2_with fail
          go_ret
          exact ⟨rfl, below_next (below_next HW.out.1 HB5.out) hb9⟩
        · have hma := typed_math2 (n := m) HX.out.2.2.1 HGA.out i2 HX.out.1 HX.out.2.1 hfs
          have cS : ∀ W', Below w3.heap.size w3 W' → _ := fun W' hb => subst_any t s m (kG (lG' - 1 - m)) (tG (lG' - 1 - m)) (.slice a1 n1 m1) (.slice a3 n3 m3) (.slice a5 n5 m5) W' (HL.out.2.2.1.keep (below_next HW.out.1 hb)) (HL.out.2.2.2.2.keep (below_next HW.out.1 hb)) (HPS.out.keep hb) HF.out.1 HF.out.2
          generalize substOut t m s (.mk (kG (lG' - 1 - m)) (tG (lG' - 1 - m))) = r at cS hma
          obtain ⟨T, er⟩ := r
          simp only [hfs] at cF
          clear hfs
          simp only at hma
          have HMA := Lib.hid hma
          clear hma
          go_upto_region 5 with fail
          clear hw3 x0 x1 x2 x3 x4 x5 x6 x7 y0 y1 y2 y3 p0 p1
          go_region_held3 (fun X => CTa X w.heap.size (w.heap.size + 1) w2.heap.size (.slice a4 n4 m4) (.slice (some ⟨bG, oG, none⟩) lG' cG) (.int .i64 s.op) (.int .i64 s.hd) (.int .i64 s.n) (.slice a3 n3 m3) (.slice a5 n5 m5) (.int .i64 (kG (lG' - 1 - m))))
            (first | (with_reducible exact hS0) | (with_reducible exact hcn5) | (with_reducible exact hcn4) | (with_reducible exact cta_below HD.out hS0) | fail)
            (first | (go_at_call 34; (with_reducible refine (cB _ ?_).mono ?_); (first | (with_reducible exact HD.out) | fail); rintro e w4 ⟨v4, rfl, hb4, L4⟩; have hcn4 := cta_below hb4 (cta_below HD.out hS0); have HB4 := Lib.hid (And.intro (HD.out.trans (hb4.mono HD.out.size)) L4); clear hb4 L4) | (go_at_call 33; (with_reducible refine (cF _ _ ?_ ?_).mono ?_); (first | (with_reducible exact HB4.out.1) | fail); (first | (with_reducible exact HB4.out.2) | fail); rintro e w5 ⟨rfl, hb5⟩; have hcn5 := cta_below hb5 hcn4; have HB5 := Lib.hid (HB4.out.1.trans (hb5.mono HB4.out.1.size)); clear hb5) | fail)
          have HW5 := Lib.hid (And.intro (below_next HW.out.1 HB5.out) (heap_kept HB5.out HW.out.2.1))
          obtain ⟨x0, x1, x2, x3, x4, x5, x6, x7⟩ := cells8v HW5.out.2
          obtain ⟨_, _, y0, y1, y2, y3, z0, z1⟩ := hcn5
          go_wp2_with fail
          refine (cS _ HB5.out).mono ?_
          rintro e w6 ⟨v6, rfl, hb6, L6⟩
          obtain ⟨a6, n6, m6, rfl⟩ := L6.isSlice
          have hba6 := one_below w6 (.cells #[.int .i64 T.op, .int .i64 T.hd, .int .i64 T.n, .slice a6 n6 m6] 24)
          have hO6 := heap_alloc_new w6 (.cells #[.int .i64 T.op, .int .i64 T.hd, .int .i64 T.n, .slice a6 n6 m6] 24)
          have hX6 := heap_kept hba6 (heap_kept hb6 HW5.out.2)
          have HW6 := Lib.hid (below_next (below_next HW5.out.1 hb6) hba6)
          have HL6 := Lib.hid (L6.more (S' := fun _ => True) (fun _ _ _ => trivial) |>.keep hba6)
          clear x0 x1 x2 x3 x4 x5 x6 x7 y0 y1 y2 y3 z0 z1 hb6 L6 cS cB cF hcn4 hS0
          rcases HMA.out with ⟨rfl, hpT, hfT⟩ | rfl
          · obtain ⟨x0, x1, _, _, _, _, x6, x7⟩ := cells8v hX6
            obtain ⟨t0, t1, t2, t3⟩ := c4_of hO6
            have hS1 : CTb (w6.alloc (.cells #[.int .i64 T.op, .int .i64 T.hd, .int .i64 T.n, .slice a6 n6 m6] 24)) w.heap.size w6.heap.size (.slice a4 n4 m4) (.slice (some ⟨bG, oG, none⟩) lG' cG) (.slice a2 n2 m2) (.int .i64 cn) (.int .i64 T.op) (.int .i64 T.hd) (.int .i64 T.n) (.slice a6 n6 m6) := ⟨x0, x1, x6, x7, t0, t1, t2, t3⟩
            generalize hw7 : w6.alloc (.cells #[.int .i64 T.op, .int .i64 T.hd, .int .i64 T.n, .slice a6 n6 m6] 24) = w7 at hS1 HW6 HL6 hba6 hO6 hX6
            have HD7 : Hid (Below w7.heap.size w7 w7.drew) := Lib.hid (Below.refl _ _).drew
            have cW : ∀ W', Below w7.heap.size w7 W' → _ := fun W' hb => without_any G m (.slice (some ⟨bG, oG, none⟩) lG' cG) W' (by rw [HX.out.2.2.1]; exact i2) (by rw [HX.out.2.2.1]; omega) (HL.out.2.1.keep (below_next HW6.out hb))
            rw [HX.out.2.2.1] at cW
            have cF : ∀ v W', Below w7.heap.size w7 W' → Sp.Lies W' (fun _ => True) v (G.take (lG' - 1 - m) ++ G.drop (lG' - m)) → _ := fun v W' hb L => fits_any K (G.take (lG' - 1 - m) ++ G.drop (lG' - m)) Ss T cn (.slice a4 n4 m4) v (.slice a6 n6 m6) (.slice a2 n2 m2) W' hpT (by rw [List.length_append, List.length_take, List.length_drop, HX.out.2.2.1]; omega) (HL.out.1.keep (below_next HW6.out hb)) L (HL6.out.keep hb) (HL.out.2.2.2.1.keep (below_next HW6.out hb))
            rw [hfT] at cF
            clear hX6 hO6 hba6 hpT hfT HMA
            go_upto_region 10 with fail
            clear hw7 x0 x1 x6 x7 t0 t1 t2 t3
            go_region_held3 (fun X => CTb X w.heap.size w6.heap.size (.slice a4 n4 m4) (.slice (some ⟨bG, oG, none⟩) lG' cG) (.slice a2 n2 m2) (.int .i64 cn) (.int .i64 T.op) (.int .i64 T.hd) (.int .i64 T.n) (.slice a6 n6 m6))
              (first | (with_reducible exact hS1) | (with_reducible exact hcn9) | (with_reducible exact hcn8) | (with_reducible exact hcn7) | (with_reducible exact ctb_below HD7.out hS1) | fail)
              (first | (go_at_call 35; (with_reducible refine (cW _ ?_).mono ?_); (first | (with_reducible exact HD7.out) | fail); rintro e w8 ⟨v8, rfl, hb8, L8⟩; have hcn7 := ctb_below hb8 (ctb_below HD7.out hS1); have HB8 := Lib.hid (And.intro (HD7.out.trans (hb8.mono HD7.out.size)) L8); clear hb8 L8) | (go_at_call 33; (with_reducible refine (cF _ _ ?_ ?_).mono ?_); (first | (with_reducible exact HB8.out.1) | fail); (first | (with_reducible exact HB8.out.2) | fail); rintro e w10 ⟨rfl, hb10⟩; have hcn8 := ctb_below hb10 hcn7; have HB10 := Lib.hid (HB8.out.1.trans (hb10.mono HB8.out.1.size)); clear hb10) | (go_at_call 17; (with_reducible refine (awake_any _).mono ?_); rintro e w11 ⟨rfl, hb11⟩; have hcn9 := ctb_below hb11 hcn8; have HB11 := Lib.hid (HB10.out.trans (hb11.mono HB10.out.size)); clear hb11) | fail)
            go_wp2_with fail
            go_ret
            exact ⟨rfl, below_next HW6.out HB11.out⟩
          · go_wp2_with fail
            refine (awake_any _).mono ?_
            rintro e w9 ⟨rfl, hb9⟩
            go_wp2_with fail
            go_ret
            exact ⟨rfl, below_next HW6.out hb9⟩
end Go.Proofs.Ytieakippgeehgaa.Sb
