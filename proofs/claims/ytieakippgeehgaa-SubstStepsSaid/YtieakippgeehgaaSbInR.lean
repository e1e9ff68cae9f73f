/- The contract of the reference's step. -/
import Derived.Test.YtieakippgeehgaaSbInsP
import Derived.Test.YtieakippgeehgaaSbInC
import Derived.Test.YtieakippgeehgaaSbPutD
namespace Go.Proofs.Ytieakippgeehgaa.Sb
open Go.RowKit
set_option linter.unusedSimpArgs false
set_option linter.unusedVariables false

/-- the boxes of step -/
structure SPVar (w wr : World) (t m : Tm) (tv mv : Value) : Prop where
  ht : wr.heap[w.heap.size]? = some (.cells #[.int .i64 t.op, .int .i64 t.hd, .int .i64 t.n, tv] 24 (0, 0))
  hm : wr.heap[w.heap.size + 1]? = some (.cells #[.int .i64 m.op, .int .i64 m.hd, .int .i64 m.n, mv] 24 (0, 0))
  hr : wr.heap[w.heap.size + 1 + 1]? = some (.cells #[.int .i64 0, .int .i64 0, .int .i64 0, .slice none 0 0] 24 (0, 0))
  below : Below w.heap.size w wr
theorem SPVar.keep {w wr wr' : World} {t m : Tm} {tv mv : Value} (H : SPVar w wr t m tv mv) (hb : Below wr.heap.size wr wr') : SPVar w wr' t m tv mv :=
  ⟨heap_kept hb H.ht, heap_kept hb H.hm, heap_kept hb H.hr, below_next H.below hb⟩

theorem stepR_zero {w wr : World} {t m : Tm} {tv mv : Value} {C : Nat} {e : Int} {a : Act} (H : SPVar w wr t m tv mv) (ha : a.tmps[6]? = some (.pointer (some ⟨w.heap.size + 1 + 1, 0, none⟩)) ∧ a.tmps[7]? = some (.int .i64 e) ∧ a.defers = []) :
    bodyPost Try.prog Try.f63 (GivesR (w.heap.size ≤ ·) w C (.er e)) .ret a ((((wr.setCell ⟨w.heap.size + 1 + 1, 0, none⟩ (.int .i64 0)).setCell ⟨w.heap.size + 1 + 1, 1, none⟩ (.int .i64 0)).setCell ⟨w.heap.size + 1 + 1, 2, none⟩ (.int .i64 0)).setCell ⟨w.heap.size + 1 + 1, 3, none⟩ (.slice none 0 0)) := by
  obtain ⟨h8, h9, hd⟩ := ha
  obtain ⟨z0, z1, z2, z3⟩ := c4_of (set4_at H.hr (.int .i64 0) (.int .i64 0) (.int .i64 0) (.slice none 0 0))
  refine bodyPost_ret (v := .tuple #[.agg #[.int .i64 0, .int .i64 0, .int .i64 0, .slice none 0 0], .int .i64 e]) (by simp [results, Try.results63, go_sem, h8, h9, z0, z1, z2, z3]) hd ?_
  have h4 : w.heap.size ≤ w.heap.size + 1 + 1 := by omega
  exact ⟨rfl, Only.below ((((H.below.setCell h4 _).setCell h4 _).setCell h4 _).setCell h4 _) C⟩

theorem GivesR.more {Sf Sf' : Nat → Prop} {w w' : World} {C : Nat} {r : Out Tm} {e : Ending} (h : GivesR Sf w C r e w') (hs : ∀ b, b < w'.heap.size → Sf b → Sf' b) : GivesR Sf' w C r e w' := by
  unfold GivesR at *
  rcases r with ⟨t, c⟩ | x
  · obtain ⟨v, h1, h2, h3, L⟩ := h; exact ⟨v, h1, h2, h3, L.more hs⟩
  · exact h

set_option maxHeartbeats 8000000 in
set_option maxRecDepth 100000 in
theorem stepR_any (C : Nat) (t m : Tm) (tv mv : Value) (c : Nat) (w : World) (ht : Lies w (· ≠ C) tv t.args) (hm : Lies w (· ≠ C) mv m.args) (hC : cntR C c w) (hc : c ≤ 20000) (hpt : Tm.proper t = true) (hpm : Tm.proper m = true) :
    Calls Try.prog 63 #[.pointer (some ⟨C, 0, none⟩), .agg #[.int .i64 t.op, .int .i64 t.hd, .int .i64 t.n, tv], .agg #[.int .i64 m.op, .int .i64 m.hd, .int .i64 m.n, mv]] w (GivesR (w.heap.size ≤ ·) w C (stepO t m c)) := by
  obtain ⟨o, h, n, l⟩ := t
  obtain ⟨mo, mh, mn, ml⟩ := m
  obtain ⟨a2, n2, m2, rfl⟩ := hm.isSlice
  have hcl := lt_blk hC
  by_cases ho : o = 2
  · subst ho
    obtain ⟨⟨xo, xh, xn, xl⟩, ⟨yo, yh, yn, yl⟩, rfl, rfl, rfl, hpx, hpy⟩ := Tm.proper_pi hpt
    obtain ⟨pb, po, m6, xv, yv, rfl, hm6, hm7, PA⟩ := Lies.pi (x := .mk xo xh xn xl) (y := .mk yo yh yn yl) ht
    obtain ⟨ax, nx, mx, rfl⟩ := PA.lx.isSlice
    obtain ⟨ay, ny, my, rfl⟩ := PA.ly.isSlice
    have h3 := three_all w #[.int .i64 2, .int .i64 0, .int .i64 0, .slice (some ⟨pb, po, none⟩) 2 m6] #[.int .i64 mo, .int .i64 mh, .int .i64 mn, .slice a2 n2 m2] #[.int .i64 0, .int .i64 0, .int .i64 0, .slice none 0 0] 24 24 24
    have V1 : SPVar w _ (.mk 2 0 0 [.mk xo xh xn xl, .mk yo yh yn yl]) (.mk mo mh mn ml) (.slice (some ⟨pb, po, none⟩) 2 m6) (.slice a2 n2 m2) := ⟨h3.1, h3.2.1, h3.2.2.1, h3.2.2.2⟩
    obtain ⟨x0, x1, x2, x3⟩ := c4_of h3.1
    have p0 := kept_cell V1.below PA.a0
    have p1 := kept_cell V1.below PA.a1
    have p2 := kept_cell V1.below PA.a2
    have p3 := kept_cell V1.below PA.a3
    simp only [Tm.op, Tm.hd, Tm.n] at p0 p1 p2
    have c1 := simR_any (· ≠ C) xo xh xn (.slice ax nx mx) xl _ (PA.lx.keep V1.below) hpx
    unfold GivesS at c1
    have HV := Lib.hid V1
    have hm6i : (2 : Int) ≤ (m6 : Int) := by omega
    rcases hs : Tm.simp (.mk xo xh xn xl) with _ | ⟨Sn, Ss⟩
    · rw [stepO_level hs]
      simp only [Tm.op, Tm.hd, Tm.n]
      rw [hs] at c1
      simp only [spOf, Sp.Tm.n, Sp.Tm.args, Option.isSome] at c1
      clear V1 h3 hs PA ht hm hpt hpx hpy
      go_enter Try.func63, Try.ntmps63
      go_wp2_with fail
      refine c1.mono ?_
      rintro e w1 ⟨v, rfl, hb1, L⟩
      obtain ⟨a3, n3, m3, rfl⟩ := L.isSlice
      have hba := one_below w1 (.cells #[.slice a3 n3 m3, .int .i64 0] 27)
      have HV1 := Lib.hid ((HV.out.keep hb1).keep hba)
      clear x0 x1 x2 x3 p0 p1 p2 p3 hb1 HV c1 L hba
      obtain ⟨y0, y1, y2, y3⟩ := c4_of HV1.out.hr
      have f0 := free_in HV1.out.hr 0
      have f1 := free_in HV1.out.hr 1
      have f2 := free_in HV1.out.hr 2
      have f3 := free_in HV1.out.hr 3
      go_wp2_with fail
      exact stepR_zero HV1.out ⟨rfl, rfl, rfl⟩
    · rw [stepO_pi hs]
      simp only [Tm.op, Tm.hd, Tm.n]
      rw [hs] at c1
      have hsm := Tm.simp_small hpx hs
      simp only [spOf, Sp.Tm.n, Sp.Tm.args, Option.isSome] at c1
      have HPA := Lib.hid (And.intro PA (And.intro hm (And.intro hC (And.intro hpm (And.intro hpy hsm)))))
      clear V1 h3 hs PA ht hm hpt hpx hpy hsm hC hpm
      go_enter Try.func63, Try.ntmps63
      go_wp2_with fail
      refine c1.mono ?_
      rintro e w1 ⟨v, rfl, hb1, L⟩
      obtain ⟨a3, n3, m3, rfl⟩ := L.isSlice
      have hba := one_below w1 (.cells #[.slice a3 n3 m3, .int .i64 Sn] 27)
      have hD := heap_alloc_new w1 (.cells #[.slice a3 n3 m3, .int .i64 Sn] 27)
      have V2 := (HV.out.keep hb1).keep hba
      have hs1 := hb1.size
      have LD := (L.more (S' := (w.heap.size + 1 + 1 + 1 ≤ ·)) fun b hlt hS => by have hS' : _ ≤ b := hS; simp at hS'; omega).keep hba
      obtain ⟨⟨q0, q1⟩, _⟩ := cells2_of hD
      have c2 := smallR_any Sn (.slice a3 n3 m3) Ss _ (LD.more fun _ _ _ => trivial)
      rw [HPA.out.2.2.2.2.2] at c2
      have hs1' : w.heap.size + 1 + 1 + 1 ≤ w1.heap.size := by simpa using hs1
      have HV2 := Lib.hid (And.intro V2 (And.intro hD (And.intro LD hs1')))
      clear x0 x1 x2 x3 p0 p1 p2 p3 hb1 HV c1 L hba hD V2 LD hs1 hs1'
      go_wp2_with fail
      refine c2.mono ?_
      rintro e W ⟨rfl, hb2⟩
      have V3 := HV2.out.1.keep hb2
      have hD := heap_kept hb2 HV2.out.2.1
      have LD := HV2.out.2.2.1.keep hb2
      have hDlt := lt_blk HV2.out.2.1
      obtain ⟨PA, hm, hC, hpm, hpy, _⟩ := HPA.out
      obtain ⟨e0, e1, e2, e3⟩ := c4_of V3.hm
      obtain ⟨⟨s0, s1⟩, _⟩ := cells2_of hD
      have t3 := cell_in V3.ht 3 _ rfl
      have g0 := kept_cell V3.below PA.b0
      have g1 := kept_cell V3.below PA.b1
      have g2 := kept_cell V3.below PA.b2
      have g3 := kept_cell V3.below PA.b3
      simp only [Tm.op, Tm.hd, Tm.n] at g0 g1 g2
      have hS0 : CellsR W w.heap.size pb (po + 4) (w.heap.size + 1) w1.heap.size (.slice (some ⟨pb, po, none⟩) 2 m6) (.int .i64 yo) (.int .i64 yh) (.int .i64 yn) (.slice ay ny my) (.int .i64 mo) (.int .i64 mh) (.int .i64 mn) (.slice a2 n2 m2) (.slice a3 n3 m3) (.int .i64 Sn) :=
        ⟨t3, g0, g1, g2, g3, e0, e1, e2, e3, s0, s1⟩
      have hpbl : pb < w.heap.size := World.block_lt_of_cell? _ _ PA.a0
      have hpb := PA.hS
      have call : ∀ w2, Below W.heap.size W w2 → Calls Try.prog 47 #[.pointer (some ⟨C, 0, none⟩), .agg #[.int .i64 yo, .int .i64 yh, .int .i64 yn, .slice ay ny my], .int .i64 0, .agg #[.int .i64 mo, .int .i64 mh, .int .i64 mn, .slice a2 n2 m2], .agg #[.slice a3 n3 m3, .int .i64 Sn]] w2 (GivesR (w2.heap.size ≤ ·) w2 C (put (.mk Sn Ss) (.mk mo mh mn ml) 0 (.mk yo yh yn yl) c)) := fun w2 hb => by
        have hbw := below_next V3.below hb
        exact putR_any C Sn Ss (.mk mo mh mn ml) hpm (.slice a2 n2 m2) (.slice a3 n3 m3) (.mk yo yh yn yl) 0 c w2 (.slice ay ny my) (PA.ly.keep hbw) (hm.keep hbw) ((LD.more fun b hlt hS => by have hS' : w.heap.size + 1 + 1 + 1 ≤ b := hS; omega).keep hb) (heap_kept hbw hC) hc (by omega) (by have := (Tm.proper_two hpy).1; omega) hpy
      have HD : Hid (Below W.heap.size W W.drew) := Lib.hid (Below.refl _ _).drew
      have HX : Hid (w.heap.size ≠ w.heap.size + 1 + 1 ∧ pb ≠ w.heap.size + 1 + 1 ∧ w.heap.size + 1 ≠ w.heap.size + 1 + 1 ∧ w1.heap.size ≠ w.heap.size + 1 + 1) := Lib.hid (by have := HV2.out.2.2.2; omega)
      have HL : Hid ((w.heap.size ≠ C ∧ pb ≠ C ∧ w.heap.size + 1 ≠ C ∧ w1.heap.size ≠ C) ∧ (w.heap.size < W.heap.size ∧ pb < W.heap.size ∧ w.heap.size + 1 < W.heap.size ∧ w1.heap.size < W.heap.size)) := Lib.hid (by
        have h1 := lt_blk V3.ht; have h2 := lt_blk V3.hm; have h3 := lt_blk hD; have h4 := HV2.out.2.2.2; omega)
      have HZ := Lib.hid V3
      have HRC : Hid (w.heap.size + 1 + 1 ≠ C ∧ C < w.heap.size) := Lib.hid (by omega)
      obtain ⟨r, hr⟩ : ∃ r, r = put (.mk Sn Ss) (.mk mo mh mn ml) 0 (.mk yo yh yn yl) c := ⟨_, rfl⟩
      rw [← hr] at call
      have HRR := Lib.hid hr
      clear hr
      clear V3 hD LD hDlt PA hm hC hpm hpy e0 e1 e2 e3 s0 s1 t3 g0 g1 g2 g3 hpbl hpb hb2 c2 HV2 HPA q0 q1 hcl
      go_upto_region 8 with fail
      go_region_held3 (fun W => CellsR W w.heap.size pb (po + 4) (w.heap.size + 1) w1.heap.size (.slice (some ⟨pb, po, none⟩) 2 m6) (.int .i64 yo) (.int .i64 yh) (.int .i64 yn) (.slice ay ny my) (.int .i64 mo) (.int .i64 mh) (.int .i64 mn) (.slice a2 n2 m2) (.slice a3 n3 m3) (.int .i64 Sn))
        (first | (with_reducible exact cellsR_four HX.out hcn) | (with_reducible exact hS0) | (with_reducible exact hcn) | (with_reducible exact cellsR_below HD.out hS0) | fail)
        (first
          | (go_at_call 47; (with_reducible refine (call _ ?_).mono ?_); (first | (with_reducible exact HD.out) | fail); intro e w2 hG; obtain ⟨u, u', u'', up, uq, um, ux, rfl, ho⟩ := hG.form; have hcn := cellsR_only HL.out.1 HL.out.2 ((Only.below HD.out C).trans ho) hS0; have HG := Lib.hid (And.intro hG ho); have hr := Only.keepBlock ((Only.below HD.out C).trans ho) HZ.out.hr HRC.out.1; obtain ⟨y0, y1, y2, y3⟩ := c4_of hr; have f0 := free_in hr 0; have f1 := free_in hr 1; have f2 := free_in hr 2; have f3 := free_in hr 3; have HRB := Lib.hid hr; (clear hr ho hG))
          | fail)
      go_wp2_with fail
      obtain ⟨z0, z1, z2, z3⟩ := c4_of (set4_at HRB.out (.int .i64 u) (.int .i64 u') (.int .i64 u'') (.slice up uq um))
      refine bodyPost_ret (v := .tuple #[.agg #[.int .i64 u, .int .i64 u', .int .i64 u'', .slice up uq um], .int .i64 ux]) (by simp [results, Try.results63, go_sem, z0, z1, z2, z3]) rfl ?_
      have hsz : w.heap.size + 1 + 1 < W.heap.size := lt_blk HZ.out.hr
      rw [← HRR.out]
      refine GivesR.stored (X := w.heap.size + 1 + 1) (w1 := W.drew) (HG.out.1.more fun b _ hS => ?_) (by show w.heap.size ≤ _; omega) HRC.out.2 (Only.below (below_next HZ.out.below HD.out) C) _ _ _ _
      have hS' : W.heap.size ≤ b := hS
      exact ⟨show w.heap.size ≤ b by omega, by omega⟩
  · rw [stepO_shape (by simpa [Tm.op] using ho)]
    simp only [Tm.op, Tm.hd, Tm.n]
    obtain ⟨a1, n1, m1, rfl⟩ := ht.isSlice
    have h3 := three_all w #[.int .i64 o, .int .i64 h, .int .i64 n, .slice a1 n1 m1] #[.int .i64 mo, .int .i64 mh, .int .i64 mn, .slice a2 n2 m2] #[.int .i64 0, .int .i64 0, .int .i64 0, .slice none 0 0] 24 24 24
    have V1 : SPVar w _ (.mk o h n l) (.mk mo mh mn ml) (.slice a1 n1 m1) (.slice a2 n2 m2) := ⟨h3.1, h3.2.1, h3.2.2.1, h3.2.2.2⟩
    obtain ⟨x0, x1, x2, x3⟩ := c4_of h3.1
    obtain ⟨y0, y1, y2, y3⟩ := c4_of V1.hr
    have f0 := free_in V1.hr 0
    have f1 := free_in V1.hr 1
    have f2 := free_in V1.hr 2
    have f3 := free_in V1.hr 3
    have HV := Lib.hid V1
    have hop : (o != 2) = true := by simp [ho]
    clear V1 h3 ht hm hpt ho
    go_enter Try.func63, Try.ntmps63
    go_wp2_with fail
    obtain ⟨z0, z1, z2, z3⟩ := c4_of HV.out.hr
    refine bodyPost_ret (v := .tuple #[.agg #[.int .i64 0, .int .i64 0, .int .i64 0, .slice none 0 0], .int .i64 23]) (by simp [results, Try.results63, go_sem, z0, z1, z2, z3]) rfl ?_
    exact ⟨rfl, Only.below HV.out.below C⟩
end Go.Proofs.Ytieakippgeehgaa.Sb
