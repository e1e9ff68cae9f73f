/- The contract of the closure of Instance. -/
import Derived.Test.YtieakippgeehgaaSbInsP
import Derived.Test.YtieakippgeehgaaSbGc
namespace Go.Proofs.Ytieakippgeehgaa.Sb
open Go.RowKit
set_option linter.unusedSimpArgs false
set_option linter.unusedVariables false

/-- the two boxes of Instance's closure -/
structure InBox (w : World) (C A L : Nat) (t : Tm) (tv : Value) (l : List Tm) (lv : Value) : Prop where
  hA : w.heap[A]? = some (.cells #[.int .i64 t.op, .int .i64 t.hd, .int .i64 t.n, tv] 24 (0, 0))
  hL : w.heap[L]? = some (.cells #[lv] 22 (0, 0))
  lt : Lies w (· ≠ C) tv t.args
  ll : Lies w (· ≠ C) lv l
  ne : A ≠ C ∧ L ≠ C
theorem InBox.keep {w w' : World} {C A L : Nat} {t : Tm} {tv : Value} {l : List Tm} {lv : Value} (H : InBox w C A L t tv l lv) (hb : Below w.heap.size w w') : InBox w' C A L t tv l lv :=
  ⟨heap_kept hb H.hA, heap_kept hb H.hL, H.lt.keep hb, H.ll.keep hb, H.ne⟩

/-- the loop of Instance's closure -/
structure InL (w wr : World) (C B : Nat) (G : Out Tm) (F : Nat → Tm → Nat → Out Tm) (j : Nat) (f : Tm) (fv : Value) (cj : Nat) : Prop where
  only : Only C w wr
  hR : wr.heap[w.heap.size]? = some (.cells #[.int .i64 0, .int .i64 0, .int .i64 0, .slice none 0 0, .int .i64 0, .int .i64 0] 77 (0, 0))
  cnt : cntAt C cj wr
  bd : cj ≤ 20000
  hB : wr.heap[B]? = some (.cells #[.int .i64 f.op, .int .i64 f.hd, .int .i64 f.n, fv, .int .i64 (Tm.sz f : Nat), .int .i64 (Tm.depth f : Nat)] 77 (0, 0))
  bB : w.heap.size < B
  lf : Lies wr (fun b => w.heap.size < b ∧ b ≠ B) fv f.args
  pr : Tm.proper f = true
  sofar : G = F j f cj

theorem InL.next {w wr w3 : World} {C B : Nat} {G : Out Tm} {F : Nat → Tm → Nat → Out Tm} {j : Nat} {f x : Tm} {fv v : Value} {cj c' : Nat} (H : InL w wr C B G F j f fv cj) (hcw : C < w.heap.size) (ho : Only C wr w3) (hc3 : cntAt C c' w3) (hcb : c' ≤ 20000) (L3 : Lies w3 (wr.heap.size ≤ ·) v x.args) (hpx : Tm.proper x = true) (hnx : G = F (j + 1) x c') :
    InL w (set6 w3 B (.int .i64 x.op) (.int .i64 x.hd) (.int .i64 x.n) v (.int .i64 (Tm.sz x : Nat)) (.int .i64 (Tm.depth x : Nat))) C B G F (j + 1) x v c' := by
  have lB := lt_blk H.hB
  have bB := H.bB
  have ot := fun (k : Nat) (hk : k ≠ B) => set6_other (w := w3) (B := B) (.int .i64 x.op) (.int .i64 x.hd) (.int .i64 x.n) v (.int .i64 (Tm.sz x : Nat)) (.int .i64 (Tm.depth x : Nat)) hk
  refine ⟨set6_only _ _ _ _ _ _ (H.only.trans ho) (by omega), (ot _ (by omega)).trans (Only.keepBlock ho H.hR (by omega)), (ot _ (by omega)).trans hc3, hcb, set6_at (Only.keepBlock ho H.hB (by omega)) _ _ _ _ _ _, bB, ?_, hpx, hnx⟩
  refine ((L3.more (S' := fun b => wr.heap.size ≤ b) fun _ _ h => h).still fun b hS hlt => ot b ?_).more fun b _ hS => ?_
  · have hS' : wr.heap.size ≤ b := hS
    omega
  · have hS' : wr.heap.size ≤ b := hS
    exact ⟨by omega, by omega⟩

/-- what the region of in's call reads, but for the variable that it stores into -/
abbrev CellsIn (W : World) (O D b bo : Nat) (o0 o1 o2 o3 d0 d1 e0 e1 e2 e3 : Value) : Prop :=
  W.cell? ⟨O, 0, none⟩ = some o0 ∧ W.cell? ⟨O, 1, none⟩ = some o1 ∧ W.cell? ⟨O, 2, none⟩ = some o2 ∧ W.cell? ⟨O, 3, none⟩ = some o3 ∧ W.cell? ⟨D, 0, none⟩ = some d0 ∧ W.cell? ⟨D, 1, none⟩ = some d1 ∧
  W.cell? ⟨b, bo, none⟩ = some e0 ∧ W.cell? ⟨b, bo + 1, none⟩ = some e1 ∧ W.cell? ⟨b, bo + 2, none⟩ = some e2 ∧ W.cell? ⟨b, bo + 3, none⟩ = some e3
section
variable {W W' : World} {O D b bo C k : Nat} {o0 o1 o2 o3 d0 d1 e0 e1 e2 e3 : Value}
theorem cellsIn_below (hb : Below W.heap.size W W') (x : CellsIn W O D b bo o0 o1 o2 o3 d0 d1 e0 e1 e2 e3) : CellsIn W' O D b bo o0 o1 o2 o3 d0 d1 e0 e1 e2 e3 := by
  obtain ⟨x1, x2, x3, x4, x5, x6, x7, x8, x9, x10⟩ := x
  exact ⟨kept_cell hb x1, kept_cell hb x2, kept_cell hb x3, kept_cell hb x4, kept_cell hb x5, kept_cell hb x6, kept_cell hb x7, kept_cell hb x8, kept_cell hb x9, kept_cell hb x10⟩
theorem cellsIn_by (hO : W'.heap[O]? = W.heap[O]?) (hD : W'.heap[D]? = W.heap[D]?) (hb : W'.heap[b]? = W.heap[b]?) (x : CellsIn W O D b bo o0 o1 o2 o3 d0 d1 e0 e1 e2 e3) : CellsIn W' O D b bo o0 o1 o2 o3 d0 d1 e0 e1 e2 e3 := by
  have go : ∀ b, W'.heap[b]? = W.heap[b]? → ∀ j u, W.cell? ⟨b, j, none⟩ = some u → W'.cell? ⟨b, j, none⟩ = some u := fun b hb j u e => by rw [World.cell?_of_block (w := W) hb]; exact e
  obtain ⟨x1, x2, x3, x4, x5, x6, x7, x8, x9, x10⟩ := x
  exact ⟨go _ hO _ _ x1, go _ hO _ _ x2, go _ hO _ _ x3, go _ hO _ _ x4, go _ hD _ _ x5, go _ hD _ _ x6, go _ hb _ _ x7, go _ hb _ _ x8, go _ hb _ _ x9, go _ hb _ _ x10⟩
theorem cellsIn_six {a0 a1 a2 a3 a4 a5 : Value} (h : O ≠ k ∧ D ≠ k ∧ b ≠ k) (x : CellsIn W O D b bo o0 o1 o2 o3 d0 d1 e0 e1 e2 e3) : CellsIn ((((((W.setCell ⟨k, 0, none⟩ a0).setCell ⟨k, 1, none⟩ a1).setCell ⟨k, 2, none⟩ a2).setCell ⟨k, 3, none⟩ a3).setCell ⟨k, 4, none⟩ a4).setCell ⟨k, 5, none⟩ a5) O D b bo o0 o1 o2 o3 d0 d1 e0 e1 e2 e3 :=
  cellsIn_by (set6_other _ _ _ _ _ _ h.1) (set6_other _ _ _ _ _ _ h.2.1) (set6_other _ _ _ _ _ _ h.2.2) x
theorem cellsIn_only (h : O ≠ C ∧ D ≠ C ∧ b ≠ C) (l : O < W.heap.size ∧ D < W.heap.size ∧ b < W.heap.size) (ho : Only C W W') (x : CellsIn W O D b bo o0 o1 o2 o3 d0 d1 e0 e1 e2 e3) : CellsIn W' O D b bo o0 o1 o2 o3 d0 d1 e0 e1 e2 e3 :=
  cellsIn_by (ho.block _ l.1 h.1) (ho.block _ l.2.1 h.2.1) (ho.block _ l.2.2 h.2.2) x
end

/-- the variable's list too -/
abbrev CellsI3 (W : World) (O D b bo B : Nat) (o0 o1 o2 o3 d0 d1 e0 e1 e2 e3 v3 : Value) : Prop := W.cell? ⟨B, 3, none⟩ = some v3 ∧ CellsIn W O D b bo o0 o1 o2 o3 d0 d1 e0 e1 e2 e3
theorem cellsI3_below {W W' : World} {O D b bo B : Nat} {o0 o1 o2 o3 d0 d1 e0 e1 e2 e3 v3 : Value} (hb : Below W.heap.size W W') (x : CellsI3 W O D b bo B o0 o1 o2 o3 d0 d1 e0 e1 e2 e3 v3) : CellsI3 W' O D b bo B o0 o1 o2 o3 d0 d1 e0 e1 e2 e3 v3 := ⟨kept_cell hb x.1, cellsIn_below hb x.2⟩

/-- a proper TPi's parts, where they lie -/
structure PiAt (w : World) (S : Nat → Prop) (b off : Nat) (x y : Tm) (xv yv : Value) : Prop where
  hS : S b
  a0 : w.cell? ⟨b, off, none⟩ = some (.int .i64 x.op)
  a1 : w.cell? ⟨b, off + 1, none⟩ = some (.int .i64 x.hd)
  a2 : w.cell? ⟨b, off + 2, none⟩ = some (.int .i64 x.n)
  a3 : w.cell? ⟨b, off + 3, none⟩ = some xv
  b0 : w.cell? ⟨b, off + 4, none⟩ = some (.int .i64 y.op)
  b1 : w.cell? ⟨b, off + 4 + 1, none⟩ = some (.int .i64 y.hd)
  b2 : w.cell? ⟨b, off + 4 + 2, none⟩ = some (.int .i64 y.n)
  b3 : w.cell? ⟨b, off + 4 + 3, none⟩ = some yv
  lx : Lies w S xv x.args
  ly : Lies w S yv y.args
theorem Lies.pi {w : World} {S : Nat → Prop} {v : Value} {x y : Tm} (h : Lies w S v [x, y]) : ∃ b off m xv yv, v = .slice (some ⟨b, off, none⟩) 2 m ∧ 2 ≤ m ∧ m ≤ 9223372036854775807 ∧ PiAt w S b off x y xv yv := by
  obtain ⟨ao, b, off, len, cap, o, h, k, sv, ts, rfl, R⟩ := h.open
  have hl : len = 2 := by have := R.length; simpa using this.symm
  subst hl
  have e := R.hao (by omega)
  subst e
  have g0 := R.get 0 (by omega)
  have g1 := R.get 1 (by omega)
  simp only [List.getElem_cons_zero, List.getElem_cons_succ] at g0 g1
  subst g0 g1
  have hc0 := R.c0 0 (by omega)
  have hc1 := R.c1 0 (by omega)
  have hc2 := R.c2 0 (by omega)
  have hc3 := R.c3 0 (by omega)
  have hd0 := R.c0 1 (by omega)
  have hd1 := R.c1 1 (by omega)
  have hd2 := R.c2 1 (by omega)
  have hd3 := R.c3 1 (by omega)
  simp only [Nat.zero_mul, Nat.one_mul, Nat.add_zero] at hc0 hc1 hc2 hc3 hd0 hd1 hd2 hd3
  exact ⟨b, off, cap, sv 0, sv 1, rfl, R.hl, R.hr, ⟨R.hS (by omega), hc0, hc1, hc2, hc3, hd0, hd1, hd2, hd3, R.sub 0 (by omega), R.sub 1 (by omega)⟩⟩

theorem tm_eq (t : Tm) : Tm.mk t.op t.hd t.n t.args = t := by cases t; rfl

set_option maxHeartbeats 16000000 in
set_option maxRecDepth 100000 in
theorem instC_any (C A L : Nat) (tq th tn : Int) (ta : List Tm) (l : List Tm) (tv lv : Value) (w : World) (H : InBox w C A L (.mk tq th tn ta) tv l lv) (hC : cntAt C 0 w) (hpt : Tm.proper (.mk tq th tn ta) = true) (hpl : ∀ t ∈ l, Tm.proper t = true) (hl6 : l.length ≤ 600) :
    Calls Try.prog 60 #[.pointer (some ⟨C, 0, none⟩), .pointer (some ⟨A, 0, none⟩), .pointer (some ⟨L, 0, none⟩)] w (GivesP w C (instO l (.mk tq th tn ta) 0)) := by
  obtain ⟨ao, b, off, len, cap, oo, hh, kk, sv, tt, rfl, R⟩ := H.ll.open
  obtain ⟨a1, n1, m1, rfl⟩ := H.lt.isSlice
  have hlen : len ≤ 600 := by rw [← R.length]; exact hl6
  have hb0 := one_below w (.cells #[.int .i64 0, .int .i64 0, .int .i64 0, .slice none 0 0, .int .i64 0, .int .i64 0] 77)
  have hz0 := heap_alloc_new w (.cells #[.int .i64 0, .int .i64 0, .int .i64 0, .slice none 0 0, .int .i64 0, .int .i64 0] 77)
  have hs0 : (w.alloc (.cells #[.int .i64 0, .int .i64 0, .int .i64 0, .slice none 0 0, .int .i64 0, .int .i64 0] 77)).heap.size = w.heap.size + 1 := by simp
  obtain ⟨X, hX⟩ : ∃ X, X = Tm.sz (.mk tq th tn ta) := ⟨_, rfl⟩
  obtain ⟨Y, hY⟩ : ∃ Y, Y = Tm.depth (.mk tq th tn ta) := ⟨_, rfl⟩
  have H0 := H.keep hb0
  obtain ⟨x0, x1, x2, x3⟩ := c4_of H0.hA
  have call1 := measured_any tq th tn (.slice a1 n1 m1) ta _ (H0.lt.more (S' := fun _ => True) fun _ _ _ => trivial) hpt
  have call2 : ∀ w1, Below (w.alloc (.cells #[.int .i64 0, .int .i64 0, .int .i64 0, .slice none 0 0, .int .i64 0, .int .i64 0] 77)).heap.size (w.alloc (.cells #[.int .i64 0, .int .i64 0, .int .i64 0, .slice none 0 0, .int .i64 0, .int .i64 0] 77)) w1 → Calls Try.prog 61 #[.agg #[.int .i64 tq, .int .i64 th, .int .i64 tn, .slice a1 n1 m1, .int .i64 X, .int .i64 Y], .int .i64 0] w1 fun e w2 => ∃ a3 n3 m3, e = .returned (.agg #[.int .i64 tq, .int .i64 th, .int .i64 tn, .slice a3 n3 m3, .int .i64 X, .int .i64 Y]) ∧ Below w1.heap.size w1 w2 ∧ Lies w2 (w1.heap.size ≤ ·) (.slice a3 n3 m3) ta := fun w1 hb => by
    have h := shifted_any tq th tn 0 (.slice a1 n1 m1) ta w1 ((H0.lt.more (S' := fun _ => True) (fun _ _ _ => trivial)).keep hb) hpt (by omega) (by omega)
    unfold GivesSh GivesPc at h
    rw [Tm.moved_zero] at h
    simp only [hpt, if_true, ← hX, ← hY] at h
    refine h.mono fun e w2 hx => ?_
    obtain ⟨v, rfl, hb2, L⟩ := hx
    obtain ⟨a3, n3, m3, rfl⟩ := L.isSlice
    exact ⟨a3, n3, m3, rfl, hb2, L⟩
  rw [← hX, ← hY] at call1
  have hcl := lt_blk hC
  have hLw := lt_blk H.hL
  have HH := Lib.hid H
  have HR := Lib.hid R
  have HC := Lib.hid hC
  have HB0 := Lib.hid (And.intro hb0 (And.intro hz0 hs0))
  have HXY := Lib.hid (And.intro hX hY)
  have HP := Lib.hid (And.intro hpt hpl)
  have HL0 := Lib.hid H0.hL
  have hcc := fail_concrete
  have hlc := R.hl
  have hcap := R.hr
  clear H R hC hb0 hz0 hs0 hX hY hpt hpl H0
  go_enter Try.func60, Try.ntmps60
  go_wp2_with fail
  refine call1.mono ?_
  rintro e w1 ⟨rfl, hb1⟩
  have HB1 := Lib.hid hb1
  clear hb1 call1 x0 x1 x2 x3
  go_wp2_with fail
  refine (call2 _ HB1.out).mono ?_
  rintro e w2 ⟨a3, n3, m3, rfl, hb2, L2⟩
  have hbB := one_below w2 (.cells #[.int .i64 tq, .int .i64 th, .int .i64 tn, .slice a3 n3 m3, .int .i64 X, .int .i64 Y] 77)
  have hbw1 := below_next HB0.out.1 HB1.out
  have hbw2 := below_next hbw1 hb2
  have hsz1 : w.heap.size + 1 ≤ w1.heap.size := by have := HB1.out.size; have := HB0.out.2.2; omega
  have hsz2 := hb2.size
  have hLx := cell_in (heap_kept hbB (heap_kept hb2 (heap_kept HB1.out HL0.out))) 0 _ rfl
  have hst : InL w (w2.alloc (.cells #[.int .i64 tq, .int .i64 th, .int .i64 tn, .slice a3 n3 m3, .int .i64 X, .int .i64 Y] 77)) C w2.heap.size (instO l (.mk tq th tn ta) 0) (fun j f c => instO (l.drop j) f c) 0 (.mk tq th tn ta) (.slice a3 n3 m3) 0 := by
    refine ⟨Only.below (below_next hbw2 hbB) C, heap_kept hbB (heap_kept hb2 (heap_kept HB1.out HB0.out.2.1)), heap_kept (below_next hbw2 hbB) HC.out, by omega, ?_, by omega, ?_, HP.out.1, rfl⟩
    · rw [← HXY.out.1, ← HXY.out.2]; exact heap_alloc_new w2 _
    · exact ((L2.more (S' := fun b => w.heap.size < b ∧ b ≠ w2.heap.size) fun b hlt hS => by have hS' : w1.heap.size ≤ b := hS; omega).keep hbB)
  have HST := Lib.hid hst
  clear hst hbB hb2 L2 call2 hbw1 hbw2 hsz1 hsz2
  go_wp2_with fail
  clear hLx
  generalize w2.heap.size = B at *
  go_loopw [15] (fun i wr => ∃ (j : Nat) (f : Tm) (fv : Value) (cj : Nat), j ≤ len ∧ i = .int .i64 j ∧ InL w wr C B (instO l (.mk tq th tn ta) 0) (fun j f c => instO (l.drop j) f c) j f fv cj) (fun i _ => len - (intOf i).toNat)
  case atStart => exact ⟨0, _, _, 0, Nat.zero_le _, rfl, HST.out⟩
  case round =>
    obtain ⟨j, f, fv, cj, hj, rfl, K⟩ := hrel
    obtain ⟨fo, fh, fk, fl⟩ := f
    have hcw : C < w.heap.size := hcl
    by_cases hlt : j < len
    · have hjl : j < l.length := by rw [HR.out.length]; exact hlt
      have hj0 : (0 : Int) ≤ (j : Int) := by omega
      have hj1 : (j : Int) < (len : Int) := by omega
      obtain rfl := HR.out.hao (by omega)
      obtain ⟨d0, d1, d2, d3, hsub⟩ := HR.out.atO K.only j hlt
      obtain ⟨a5, n5, m5, hs5⟩ := hsub.isSlice
      rw [hs5] at d3 hsub
      have hg : l[j]'hjl = .mk (oo j) (hh j) (kk j) (tt j) := HR.out.get j hlt
      have hpj := HP.out.2 _ (List.getElem_mem hjl)
      rw [hg] at hpj
      have hsf := instO_drop hjl K.sofar
      rw [hg] at hsf
      have hba := one_below wr (.cells #[.int .i64 (oo j), .int .i64 (hh j), .int .i64 (kk j), .slice a5 n5 m5] 24)
      have hOn := heap_alloc_new wr (.cells #[.int .i64 (oo j), .int .i64 (hh j), .int .i64 (kk j), .slice a5 n5 m5] 24)
      rcases hop : (fo == 2) with _ | _
      · have HAP : Hid (instO l (.mk tq th tn ta) 0 = .er 23) := Lib.hid (by
          rw [hsf, stepO_shape (by simp only [Tm.op]; simpa using hop)])
        obtain ⟨a6, n6, m6, rfl⟩ := K.lf.isSlice
        have hB : wr.heap[B]? = some (.cells #[.int .i64 fo, .int .i64 fh, .int .i64 fk, .slice a6 n6 m6, .int .i64 (Tm.sz (.mk fo fh fk fl) : Nat), .int .i64 (Tm.depth (.mk fo fh fk fl) : Nat)] 77 (0, 0)) := K.hB
        generalize Tm.sz (.mk fo fh fk fl) = F1 at hB
        generalize Tm.depth (.mk fo fh fk fl) = F2 at hB
        obtain ⟨⟨x0, x1, x2, x3, x4, x5⟩, y0, y1, y2, y3, y4, y5⟩ := cells6_of (heap_kept hba hB)
        have HO := Lib.hid (And.intro K.only hba)
        clear K hsub hs5 hg hpj hsf hba hOn hB
        go_wp2_with fail
        refine ⟨rfl, ?_⟩
        rw [HAP.out]
        exact ⟨rfl, HO.out.1.trans (Only.below HO.out.2 C)⟩
      · have h2 : fo = 2 := by simpa using hop
        subst h2
        obtain ⟨⟨xo, xh, xn, xl⟩, ⟨yo, yh, yn, yl⟩, rfl, rfl, rfl, hpx, hpy⟩ := Tm.proper_pi K.pr
        obtain ⟨pb, po, m6, xv, yv, rfl, hm6, hm7, PA⟩ := Lies.pi (x := .mk xo xh xn xl) (y := .mk yo yh yn yl) K.lf
        obtain ⟨ax, nx, mx, rfl⟩ := PA.lx.isSlice
        obtain ⟨ay, ny, my, rfl⟩ := PA.ly.isSlice
        have hB : wr.heap[B]? = some (.cells #[.int .i64 2, .int .i64 0, .int .i64 0, .slice (some ⟨pb, po, none⟩) 2 m6, .int .i64 (Tm.sz (.mk 2 0 0 [.mk xo xh xn xl, .mk yo yh yn yl]) : Nat), .int .i64 (Tm.depth (.mk 2 0 0 [.mk xo xh xn xl, .mk yo yh yn yl]) : Nat)] 77 (0, 0)) := K.hB
        generalize Tm.sz (.mk 2 0 0 [.mk xo xh xn xl, .mk yo yh yn yl]) = F1 at hB
        generalize Tm.depth (.mk 2 0 0 [.mk xo xh xn xl, .mk yo yh yn yl]) = F2 at hB
        obtain ⟨⟨x0, x1, x2, x3, x4, x5⟩, y0, y1, y2, y3, y4, y5⟩ := cells6_of (heap_kept hba hB)
        have p0 := kept_cell hba PA.a0
        have p1 := kept_cell hba PA.a1
        have p2 := kept_cell hba PA.a2
        have p3 := kept_cell hba PA.a3
        simp only [Tm.op, Tm.hd, Tm.n] at p0 p1 p2
        have call := simple_any xo xh xn (.slice ax nx mx) xl _ ((PA.lx.more (S' := fun _ => True) fun _ _ _ => trivial).keep hba)
        unfold GivesSE simpleOut at call
        simp only [hpx, if_true] at call
        rcases hs : Tm.simp (.mk xo xh xn xl) with _ | ⟨Sn, Ss⟩
        · have HAP : Hid (instO l (.mk tq th tn ta) 0 = .er 22) := Lib.hid (by rw [hsf, stepO_level hs])
          simp only [hs, Sp.Tm.n, Sp.Tm.args] at call
          have call2 := call.mono (R' := fun e w2 => ∃ a n m, e = .returned (.tuple #[.agg #[.slice a n m, .int .i64 0], .int .i64 22]) ∧ Below (wr.alloc (.cells #[.int .i64 (oo j), .int .i64 (hh j), .int .i64 (kk j), .slice a5 n5 m5] 24)).heap.size (wr.alloc (.cells #[.int .i64 (oo j), .int .i64 (hh j), .int .i64 (kk j), .slice a5 n5 m5] 24)) w2) fun e w2 hx => by
            obtain ⟨v, rfl, hb2, L⟩ := hx
            obtain ⟨a3, n3, m3, rfl⟩ := L.isSlice
            exact ⟨a3, n3, m3, rfl, hb2⟩
          have HO := Lib.hid (And.intro K.only hba)
          clear K hsub hs5 hg hpj hsf hba hOn hB PA hs call hpx hpy
          go_wp2_with fail
          refine call2.mono ?_
          rintro e w3 ⟨a3, n3, m3, rfl, hb3⟩
          have HO3 := Lib.hid hb3
          clear call2 hb3 x0 x1 x2 x3 x4 x5 y0 y1 y2 y3 y4 y5 p0 p1 p2 p3 d0 d1 d2 d3
          go_wp2_with fail
          refine ⟨rfl, ?_⟩
          rw [HAP.out]
          exact ⟨rfl, HO.out.1.trans (Only.below (below_next (below_next HO.out.2 HO3.out) (one_below _ _)) C)⟩
        · rw [stepO_pi hs] at hsf
          simp only [hs, Sp.Tm.n, Sp.Tm.args] at call
          have call2 := call.mono (R' := fun e w2 => ∃ a n m, e = .returned (.tuple #[.agg #[.slice a n m, .int .i64 Sn], .int .i64 0]) ∧ Below (wr.alloc (.cells #[.int .i64 (oo j), .int .i64 (hh j), .int .i64 (kk j), .slice a5 n5 m5] 24)).heap.size (wr.alloc (.cells #[.int .i64 (oo j), .int .i64 (hh j), .int .i64 (kk j), .slice a5 n5 m5] 24)) w2 ∧ Sp.Lies w2 ((wr.alloc (.cells #[.int .i64 (oo j), .int .i64 (hh j), .int .i64 (kk j), .slice a5 n5 m5] 24)).heap.size ≤ ·) (.slice a n m) Ss) fun e w2 hx => by
            obtain ⟨v, rfl, hb2, L⟩ := hx
            obtain ⟨a3, n3, m3, rfl⟩ := L.isSlice
            exact ⟨a3, n3, m3, rfl, hb2, L⟩
          have hgood := put_good (.mk Sn Ss) (.mk (oo j) (hh j) (kk j) (tt j)) 0 (.mk yo yh yn yl) cj K.bd hpy
          have HK := Lib.hid K
          have HJ := Lib.hid (And.intro hsub (And.intro hpj (And.intro hsf (And.intro hba (And.intro hOn (And.intro hB (And.intro PA hgood)))))))
          have HPY := Lib.hid hpy
          clear K hsub hs5 hg hpj hsf hba hOn hB PA hs call hpx hgood hpy
          go_wp2_with fail
          refine call2.mono ?_
          rintro e w3 ⟨a7, n7, m7, rfl, hb3, LS⟩
          obtain ⟨hsub, hpj, hsf, hba, hOn, hB, PA, hgood⟩ := HJ.out
          have hbw3 := below_next hba hb3
          have hbD := one_below w3 (.cells #[.slice a7 n7 m7, .int .i64 Sn] 27)
          have hDn := heap_alloc_new w3 (.cells #[.slice a7 n7 m7, .int .i64 Sn] 27)
          have hbW := below_next hbw3 hbD
          have hOW := heap_kept hbD (heap_kept hb3 hOn)
          have hBW := heap_kept hbW hB
          have lB := lt_blk hB
          have hw3 : wr.heap.size + 1 ≤ w3.heap.size := by have := hb3.size; simpa using this
          have hsW : (w3.alloc (.cells #[.slice a7 n7 m7, .int .i64 Sn] 27)).heap.size = w3.heap.size + 1 := by simp
          have bB := HK.out.bB
          have hLS : Sp.Lies (w3.alloc (.cells #[.slice a7 n7 m7, .int .i64 Sn] 27)) (· ≠ C) (.slice a7 n7 m7) Ss := (LS.more fun b hlt hS => by have hS' : (wr.alloc (.cells #[.int .i64 (oo j), .int .i64 (hh j), .int .i64 (kk j), .slice a5 n5 m5] 24)).heap.size ≤ b := hS; simp at hS'; omega).keep hbD
          have hpbl : pb < wr.heap.size := World.block_lt_of_cell? _ _ PA.a0
          have hpb := PA.hS
          generalize hWe : w3.alloc (.cells #[.slice a7 n7 m7, .int .i64 Sn] 27) = W at *
          obtain ⟨e0, e1, e2, e3⟩ := c4_of hOW
          obtain ⟨⟨s0, s1⟩, _⟩ := cells2_of hDn
          have g0 := kept_cell hbW PA.b0
          have g1 := kept_cell hbW PA.b1
          have g2 := kept_cell hbW PA.b2
          have g3 := kept_cell hbW PA.b3
          simp only [Tm.op, Tm.hd, Tm.n] at g0 g1 g2
          have hS0 : CellsIn W wr.heap.size w3.heap.size pb (po + 4) (.int .i64 (oo j)) (.int .i64 (hh j)) (.int .i64 (kk j)) (.slice a5 n5 m5) (.slice a7 n7 m7) (.int .i64 Sn) (.int .i64 yo) (.int .i64 yh) (.int .i64 yn) (.slice ay ny my) :=
            ⟨e0, e1, e2, e3, s0, s1, g0, g1, g2, g3⟩
          have hB3 := cell_in hBW 3 _ rfl
          obtain ⟨X1, hX1⟩ : ∃ X, X = Tm.sz (.mk (oo j) (hh j) (kk j) (tt j)) := ⟨_, rfl⟩
          obtain ⟨Y1, hY1⟩ : ∃ Y, Y = Tm.depth (.mk (oo j) (hh j) (kk j) (tt j)) := ⟨_, rfl⟩
          have hsubW := hsub.keep hbW
          have hlyW := (PA.ly.more (S' := (· ≠ C)) fun b hlt hS => by omega).keep hbW
          have hcW := heap_kept hbW HK.out.cnt
          have call1 : ∀ w1, Below W.heap.size W w1 → Calls Try.prog 44 #[.agg #[.int .i64 (oo j), .int .i64 (hh j), .int .i64 (kk j), .slice a5 n5 m5]] w1 fun e w2 => e = .returned (.agg #[.int .i64 (oo j), .int .i64 (hh j), .int .i64 (kk j), .slice a5 n5 m5, .int .i64 X1, .int .i64 Y1]) ∧ Below W.heap.size W w2 := fun w1 hb => by
            have h := measured_any (oo j) (hh j) (kk j) (.slice a5 n5 m5) (tt j) w1 ((hsubW.more (S' := fun _ => True) (fun _ _ _ => trivial)).keep hb) hpj
            rw [← hX1, ← hY1] at h
            exact h.mono fun e w2 hx => ⟨hx.1, below_next hb hx.2⟩
          obtain ⟨r, hr⟩ : ∃ r, r = put (.mk Sn Ss) (.mk (oo j) (hh j) (kk j) (tt j)) 0 (.mk yo yh yn yl) cj := ⟨_, rfl⟩
          have call3 : ∀ w1, Below W.heap.size W w1 → Calls Try.prog 45 #[.agg #[.pointer (some ⟨C, 0, none⟩), .int .i64 (oo j), .int .i64 (hh j), .int .i64 (kk j), .slice a5 n5 m5, .int .i64 X1, .int .i64 Y1, .slice a7 n7 m7, .int .i64 Sn], .agg #[.int .i64 yo, .int .i64 yh, .int .i64 yn, .slice ay ny my], .int .i64 0] w1 (GivesP w1 C r) := fun w1 hb => by
            have h := in_any C Sn Ss (.mk (oo j) (hh j) (kk j) (tt j)) hpj (.slice a5 n5 m5) (.slice a7 n7 m7) (.mk yo yh yn yl) 0 cj w1 (.slice ay ny my) (hlyW.keep hb) (hsubW.keep hb) (hLS.keep hb) (heap_kept hb hcW) HK.out.bd (by omega) (by have := (Tm.proper_two HPY.out).1; omega) HPY.out
            rw [← hr] at h
            unfold subV at h
            simp only [Tm.op, Tm.hd, Tm.n, ← hX1, ← hY1] at h
            exact h
          rw [← hr] at hsf hgood
          have HD : Hid (Below W.heap.size W W.drew) := Lib.hid (Below.refl _ _).drew
          have HL : Hid ((wr.heap.size ≠ C ∧ w3.heap.size ≠ C ∧ pb ≠ C) ∧ (wr.heap.size < W.heap.size ∧ w3.heap.size < W.heap.size ∧ pb < W.heap.size)) := Lib.hid (by have h1 := hpb.1; omega)
          have HB9 : Hid (wr.heap.size ≠ B ∧ w3.heap.size ≠ B ∧ pb ≠ B) := Lib.hid (by have h1 := hpb.2; omega)
          have HZ := Lib.hid hBW
          have HW : Hid (Only C wr W ∧ B ≠ C) := Lib.hid ⟨Only.below hbW C, by omega⟩
          have HRR := Lib.hid (And.intro hsf hgood)
          have hm6i : (2 : Int) ≤ (m6 : Int) := by omega
          have HCW := Lib.hid hcw
          clear hsub hpj hsf hba hOn hB PA hgood hbw3 hbD hDn hbW hOW hBW lB hw3 hsW bB hLS hpbl hpb e0 e1 e2 e3 s0 s1 g0 g1 g2 g3 hX1 hY1 hsubW hlyW hcW hr hb3 LS call2 d0 d1 d2 d3 p0 p1 p2 p3 x0 x1 x2 x3 x4 x5 y0 y1 y2 y3 y4 y5 hcw HJ
          go_upto_region 10 with fail
          clear hWe
          rcases r with ⟨x, c'⟩ | x
          · have call4 : ∀ w1, Below W.heap.size W w1 → Calls Try.prog 45 #[.agg #[.pointer (some ⟨C, 0, none⟩), .int .i64 (oo j), .int .i64 (hh j), .int .i64 (kk j), .slice a5 n5 m5, .int .i64 X1, .int .i64 Y1, .slice a7 n7 m7, .int .i64 Sn], .agg #[.int .i64 yo, .int .i64 yh, .int .i64 yn, .slice ay ny my], .int .i64 0] w1 fun e w2 => ∃ a3 n3 m3, e = .returned (.agg #[.int .i64 x.op, .int .i64 x.hd, .int .i64 x.n, .slice a3 n3 m3, .int .i64 (Tm.sz x : Nat), .int .i64 (Tm.depth x : Nat)]) ∧ Only C W w2 ∧ cntAt C c' w2 ∧ Lies w2 (W.heap.size ≤ ·) (.slice a3 n3 m3) x.args := fun w1 hb => by
              refine (call3 w1 hb).mono fun e w2 hx => ?_
              obtain ⟨v, rfl, ho, hc, L⟩ := hx
              obtain ⟨a3, n3, m3, rfl⟩ := L.isSlice
              exact ⟨a3, n3, m3, rfl, (Only.below hb C).trans ho, hc, L.more fun b _ hS => Nat.le_trans hb.size hS⟩
            clear call3
            obtain ⟨h0, h1, h2, h3, h4, h5, h6, h7, h8, h9⟩ := hS0
            have HS0 := Lib.hid (show CellsIn W wr.heap.size w3.heap.size pb (po + 4) (.int .i64 (oo j)) (.int .i64 (hh j)) (.int .i64 (kk j)) (.slice a5 n5 m5) (.slice a7 n7 m7) (.int .i64 Sn) (.int .i64 yo) (.int .i64 yh) (.int .i64 yn) (.slice ay ny my) from ⟨h0, h1, h2, h3, h4, h5, h6, h7, h8, h9⟩)
            have HB3 := Lib.hid hB3
            simp only [List.getElem_toArray, List.getElem_cons_succ, List.getElem_cons_zero] at hB3
            go_region_law (first
                | (go_simp; go_at_call 44; (with_reducible refine (call1 _ ?_).mono ?_); (first | (with_reducible exact HD.out) | fail); rintro e w1 ⟨rfl, hb1⟩; (obtain ⟨k0, k1, k2, k3, k4, k5, k6, k7, k8, k9⟩ := cellsIn_below hb1 HS0.out); have k10 := kept_cell hb1 HB3.out)
                | (go_simp; go_at_call 45; (with_reducible refine (call4 _ ?_).mono ?_); (with_reducible exact hb1); rintro e w2 ⟨a3, n3, m3, rfl, ho, hc, L⟩; have HO := Lib.hid (And.intro ho (And.intro hc L)); have hz2 := Only.keepBlock ho HZ.out HW.out.2; obtain ⟨⟨x0, x1, x2, x3, x4, x5⟩, f0, f1, f2, f3, f4, f5⟩ := cells6_of hz2; have HZ2 := Lib.hid hz2; (clear hz2 ho hc L))
                | fail)
            all_goals
              go_wp2_with fail
              go_roundw
              case rel =>
                have h := HK.out.next HCW.out (HW.out.1.trans HO.out.1) HO.out.2.1 HRR.out.2.2.2 (HO.out.2.2.more fun b _ hS => Nat.le_trans HW.out.1.size hS) HRR.out.2.1 HRR.out.1
                unfold set6 at h
                exact ⟨j + 1, x, .slice a3 n3 m3, c', by omega, by go_num, h⟩
              case measure => simp [intOf]; omega
          · have call4 : ∀ w1, Below W.heap.size W w1 → Calls Try.prog 45 #[.agg #[.pointer (some ⟨C, 0, none⟩), .int .i64 (oo j), .int .i64 (hh j), .int .i64 (kk j), .slice a5 n5 m5, .int .i64 X1, .int .i64 Y1, .slice a7 n7 m7, .int .i64 Sn], .agg #[.int .i64 yo, .int .i64 yh, .int .i64 yn, .slice ay ny my], .int .i64 0] w1 fun e w2 => e = .panicked (failure x) ∧ Only C W w2 := fun w1 hb => (call3 w1 hb).mono fun e w2 hx => ⟨hx.1, (Only.below hb C).trans hx.2⟩
            clear call3
            simp only [List.getElem_toArray, List.getElem_cons_succ, List.getElem_cons_zero] at hB3
            have hS1 : CellsI3 W wr.heap.size w3.heap.size pb (po + 4) B (.int .i64 (oo j)) (.int .i64 (hh j)) (.int .i64 (kk j)) (.slice a5 n5 m5) (.slice a7 n7 m7) (.int .i64 Sn) (.int .i64 yo) (.int .i64 yh) (.int .i64 yn) (.slice ay ny my) (.slice (some ⟨pb, po, none⟩) 2 m6) := ⟨hB3, hS0⟩
            clear hS0
            go_region_held2 (fun W => CellsI3 W wr.heap.size w3.heap.size pb (po + 4) B (.int .i64 (oo j)) (.int .i64 (hh j)) (.int .i64 (kk j)) (.slice a5 n5 m5) (.slice a7 n7 m7) (.int .i64 Sn) (.int .i64 yo) (.int .i64 yh) (.int .i64 yn) (.slice ay ny my) (.slice (some ⟨pb, po, none⟩) 2 m6))
              (first | (with_reducible exact hS1) | (with_reducible exact hcn) | (with_reducible exact cellsI3_below HD.out hS1) | (exact hF.out.elim) | fail)
              (first
                | (go_at_call 44; (with_reducible refine (call1 _ ?_).mono ?_); (first | (with_reducible exact HD.out) | fail); rintro e w1 ⟨rfl, hb1⟩; have hcn := cellsI3_below hb1 hS1)
                | (go_at_call 45; (with_reducible refine (call4 _ ?_).mono ?_); (with_reducible exact hb1); intro e w2 h1; cases e; rotate_left; (obtain ⟨h1, ho⟩ := h1; cases h1; refine ⟨rfl, ?_⟩; rw [HRR.out.1]; exact ⟨rfl, HK.out.only.trans (HW.out.1.trans ho)⟩); (exact absurd h1.1 (fun h => by cases h)); (obtain ⟨h1, ho⟩ := h1; have hF : Hid False := absurd h1 (fun h => by cases h)); (rename_i vv; obtain rfl : vv = Value.agg #[.int .i64 0, .int .i64 0, .int .i64 0, .slice none 0 0, .int .i64 0, .int .i64 0] := hF.out.elim); (clear h1); dsimp only; have hz2 := Only.keepBlock ho HZ.out HW.out.2; obtain ⟨⟨x0, x1, x2, x3, x4, x5⟩, f0, f1, f2, f3, f4, f5⟩ := cells6_of hz2; (clear hz2 ho))
                | fail)
            all_goals (exact hF.out.elim)
    · obtain rfl : j = len := by omega
      have hsf := K.sofar
      simp only [List.drop_of_length_le (show l.length ≤ j by rw [HR.out.length]; exact Nat.le_refl _), instO] at hsf
      have hj1 : ¬ (j : Int) < (j : Int) := by omega
      obtain ⟨F1, hF1⟩ : ∃ x, x = Tm.sz (.mk fo fh fk fl) := ⟨_, rfl⟩
      obtain ⟨F2, hF2⟩ : ∃ x, x = Tm.depth (.mk fo fh fk fl) := ⟨_, rfl⟩
      obtain ⟨a6, n6, m6, rfl⟩ := K.lf.isSlice
      have hB : wr.heap[B]? = some (.cells #[.int .i64 fo, .int .i64 fh, .int .i64 fk, .slice a6 n6 m6, .int .i64 F1, .int .i64 F2] 77 (0, 0)) := by rw [hF1, hF2]; exact K.hB
      obtain ⟨⟨x0, x1, x2, x3, x4, x5⟩, _⟩ := cells6_of hB
      obtain ⟨⟨z0, z1, z2, z3, z4, z5⟩, g0, g1, g2, g3, g4, g5⟩ := cells6_of K.hR
      have HK := Lib.hid K
      have HSF := Lib.hid hsf
      have HFF := Lib.hid (And.intro hF1 hF2)
      clear K hsf hF1 hF2 hB
      go_wp2_with fail
      have hz := set6_at HK.out.hR (.int .i64 fo) (.int .i64 fh) (.int .i64 fk) (.slice a6 n6 m6) (.int .i64 F1) (.int .i64 F2)
      obtain ⟨⟨v0, v1, v2, v3, v4, v5⟩, _⟩ := cells6_of hz
      unfold set6 at v0 v1 v2 v3 v4 v5
      refine bodyPost_ret (v := .agg #[.int .i64 fo, .int .i64 fh, .int .i64 fk, .slice a6 n6 m6, .int .i64 F1, .int .i64 F2]) (by simp [results, Try.results60, go_sem, v0, v1, v2, v3, v4, v5]) rfl ?_
      rw [HSF.out]
      exact givesP_stored (B := w.heap.size) HK.out.only HK.out.cnt hcw (Nat.le_refl _) (HK.out.lf.more fun b _ hS => ⟨by have := hS.1; omega, by have := hS.1; omega⟩) (by rw [HFF.out.1]) (by rw [HFF.out.2])
end Go.Proofs.Ytieakippgeehgaa.Sb
