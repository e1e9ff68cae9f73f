/- The contract of the closure of Apply. -/
import Derived.Test.YtieakippgeehgaaSbGc
import Derived.Test.YtieakippgeehgaaSbApM
namespace Go.Proofs.Ytieakippgeehgaa.Sb
open Go.RowKit
set_option linter.unusedSimpArgs false
set_option linter.unusedVariables false

/-- the three boxes of Apply's closure -/
structure ApBox (w : World) (C A B D : Nat) (l : List Tm) (lv : Value) (s : Tm) (sv Sv : Value) (cn : Int) (Ss : List Sp.Tm) : Prop where
  hA : w.heap[A]? = some (.cells #[lv] 22 (0, 0))
  hB : w.heap[B]? = some (.cells #[.int .i64 s.op, .int .i64 s.hd, .int .i64 s.n, sv] 24 (0, 0))
  hD : w.heap[D]? = some (.cells #[Sv, .int .i64 cn] 27 (0, 0))
  ll : Lies w (· ≠ C) lv l
  ls : Lies w (· ≠ C) sv s.args
  lS : Sp.Lies w (· ≠ C) Sv Ss
  ne : A ≠ C ∧ B ≠ C ∧ D ≠ C
theorem ApBox.keep {w w' : World} {C A B D : Nat} {l : List Tm} {lv : Value} {s : Tm} {sv Sv : Value} {cn : Int} {Ss : List Sp.Tm} (H : ApBox w C A B D l lv s sv Sv cn Ss) (hb : Below w.heap.size w w') : ApBox w' C A B D l lv s sv Sv cn Ss :=
  ⟨heap_kept hb H.hA, heap_kept hb H.hB, heap_kept hb H.hD, H.ll.keep hb, H.ls.keep hb, H.lS.keep hb, H.ne⟩

/-- what the region of apply's call reads -/
abbrev CellsAq (W : World) (B D : Nat) (so sh sn : Int) (sv Sv : Value) (cn : Int) : Prop :=
  W.cell? ⟨B, 0, none⟩ = some (.int .i64 so) ∧ W.cell? ⟨B, 1, none⟩ = some (.int .i64 sh) ∧ W.cell? ⟨B, 2, none⟩ = some (.int .i64 sn) ∧ W.cell? ⟨B, 3, none⟩ = some sv ∧ W.cell? ⟨D, 0, none⟩ = some Sv ∧ W.cell? ⟨D, 1, none⟩ = some (.int .i64 cn)
section
variable {W W' : World} {B D C k : Nat} {so sh sn cn : Int} {sv Sv a b c d e f : Value}
theorem cellsAq_below (hb : Below W.heap.size W W') (x : CellsAq W B D so sh sn sv Sv cn) : CellsAq W' B D so sh sn sv Sv cn := by
  obtain ⟨x1, x2, x3, x4, x5, x6⟩ := x
  exact ⟨kept_cell hb x1, kept_cell hb x2, kept_cell hb x3, kept_cell hb x4, kept_cell hb x5, kept_cell hb x6⟩
theorem cellsAq_by (hB : W'.heap[B]? = W.heap[B]?) (hD : W'.heap[D]? = W.heap[D]?) (x : CellsAq W B D so sh sn sv Sv cn) : CellsAq W' B D so sh sn sv Sv cn := by
  have go : ∀ b, W'.heap[b]? = W.heap[b]? → ∀ j u, W.cell? ⟨b, j, none⟩ = some u → W'.cell? ⟨b, j, none⟩ = some u := fun b hb j u e => by rw [World.cell?_of_block (w := W) hb]; exact e
  obtain ⟨x1, x2, x3, x4, x5, x6⟩ := x
  exact ⟨go _ hB _ _ x1, go _ hB _ _ x2, go _ hB _ _ x3, go _ hB _ _ x4, go _ hD _ _ x5, go _ hD _ _ x6⟩
theorem cellsAq_six (h : B ≠ k ∧ D ≠ k) (x : CellsAq W B D so sh sn sv Sv cn) : CellsAq ((((((W.setCell ⟨k, 0, none⟩ a).setCell ⟨k, 1, none⟩ b).setCell ⟨k, 2, none⟩ c).setCell ⟨k, 3, none⟩ d).setCell ⟨k, 4, none⟩ e).setCell ⟨k, 5, none⟩ f) B D so sh sn sv Sv cn :=
  cellsAq_by (set6_other a b c d e f h.1) (set6_other a b c d e f h.2) x
theorem cellsAq_only (h : B ≠ C ∧ D ≠ C) (l : B < W.heap.size ∧ D < W.heap.size) (ho : Only C W W') (x : CellsAq W B D so sh sn sv Sv cn) : CellsAq W' B D so sh sn sv Sv cn :=
  cellsAq_by (ho.block _ l.1 h.1) (ho.block _ l.2 h.2) x
end
theorem ApBox.cells {w : World} {C A B D : Nat} {l : List Tm} {lv : Value} {s : Tm} {sv Sv : Value} {cn : Int} {Ss : List Sp.Tm} (H : ApBox w C A B D l lv s sv Sv cn Ss) : CellsAq w B D s.op s.hd s.n sv Sv cn := by
  obtain ⟨x1, x2, x3, x4⟩ := c4_of H.hB
  obtain ⟨x5, x6⟩ := (cells2_of H.hD).1
  exact ⟨x1, x2, x3, x4, x5, x6⟩
theorem setAt6_other {w : World} {M k : Nat} (j : Nat) (a b c d e f : Value) (h : k ≠ M) : (setAt6 w M j a b c d e f).heap[k]? = w.heap[k]? := by
  unfold setAt6
  rw [Below.heap_setCell _ _ _ _ (by simpa using h), Below.heap_setCell _ _ _ _ (by simpa using h), Below.heap_setCell _ _ _ _ (by simpa using h), Below.heap_setCell _ _ _ _ (by simpa using h), Below.heap_setCell _ _ _ _ (by simpa using h), Below.heap_setCell _ _ _ _ (by simpa using h)]

set_option maxHeartbeats 8000000 in
set_option maxRecDepth 100000 in
theorem applyC_any (C A B D : Nat) (so sh sn cn : Int) (sa : List Tm) (l : List Tm) (Ss : List Sp.Tm) (lv sv Sv : Value) (w : World) (H : ApBox w C A B D l lv (.mk so sh sn sa) sv Sv cn Ss) (hC : cntAt C 0 w)
    (hps : Tm.proper (.mk so sh sn sa) = true) (hpl : ∀ t ∈ l, Tm.proper t = true) (hl6 : l.length ≤ 600) :
    Calls Try.prog 52 #[.pointer (some ⟨C, 0, none⟩), .pointer (some ⟨A, 0, none⟩), .pointer (some ⟨B, 0, none⟩), .pointer (some ⟨D, 0, none⟩)] w (GivesP w C (app Ss (Tm.moved 0 0 (.mk so sh sn sa)) l 0)) := by
  obtain ⟨ao, b, off, len, cap, oo, hh, kk, tv, tt, rfl, R⟩ := H.ll.open
  obtain ⟨aq, ns, ms, rfl⟩ := H.ls.isSlice
  obtain ⟨aS, nS, mS, rfl⟩ := H.lS.isSlice
  obtain ⟨i0, hi0, hz0, hz1, hz2⟩ := info_parts pc_inf
  have hlen : len ≤ 600 := by rw [← R.length]; exact hl6
  have hcap := R.hr
  have hlc := R.hl
  have hmk := fun W => run_make (P := Try.prog) W 89 77 i0 _ Try.underlying89 hi0 hz0 .i64 .i64 (len : Int) (len : Int) (by omega) (by omega) (by rw [hz2]; omega) (by omega)
  simp only [Int.toNat_natCast, hz1] at hmk
  have hb0 := one_below w (.cells #[.int .i64 0, .int .i64 0, .int .i64 0, .slice none 0 0, .int .i64 0, .int .i64 0] 77)
  have hz9 := heap_alloc_new w (.cells #[.int .i64 0, .int .i64 0, .int .i64 0, .slice none 0 0, .int .i64 0, .int .i64 0] 77)
  have B0 := H.keep hb0
  have x0 := cell_in B0.hA 0 _ rfl
  have hbz := one_below (w.alloc (.cells #[.int .i64 0, .int .i64 0, .int .i64 0, .slice none 0 0, .int .i64 0, .int .i64 0] 77)) (.cells (madeCells #[.int .i64 0, .int .i64 0, .int .i64 0, .slice none 0 0, .int .i64 0, .int .i64 0] (len * 6)) 77)
  have x9 := cell_in (heap_kept hbz B0.hA) 0 _ rfl
  have hK := MkP.start (w := w) (sv := tv) (l := l) (len := len) (z := #[.int .i64 0, .int .i64 0, .int .i64 0, .slice none 0 0, .int .i64 0, .int .i64 0]) hb0 (by simp) R.length
  rw [show (w.alloc (.cells #[.int .i64 0, .int .i64 0, .int .i64 0, .slice none 0 0, .int .i64 0, .int .i64 0] 77)).heap.size = w.heap.size + 1 by simp] at hK
  have H1 := Lib.hid (And.intro hK (heap_kept hbz hz9))
  have HB := Lib.hid H
  have HR := Lib.hid R
  have HC := Lib.hid hC
  have H0 := Lib.hid (And.intro hb0 (And.intro hz9 B0))
  clear H R hC hb0 hz9 B0 hbz hK hi0 hz0 hz1 hz2
  go_enter Try.func52, Try.ntmps52
  go_wp2_with fail
  generalize hM : w.heap.size + 1 = M at *
  have HM := Lib.hid hM
  clear hM hmk x0 x9
  go_loopw [14] (fun i wr => ∃ j : Nat, i = .int .i64 j ∧ MkP w wr M len l tv j ∧ wr.heap[w.heap.size]? = some (.cells #[.int .i64 0, .int .i64 0, .int .i64 0, .slice none 0 0, .int .i64 0, .int .i64 0] 77 (0, 0))) (fun i _ => len - (intOf i).toNat)
  case atStart => exact ⟨0, rfl, H1.out⟩
  case round =>
    obtain ⟨j, rfl, K, hz⟩ := hrel
    have HK := Lib.hid K
    have HZ := Lib.hid hz
    by_cases hlt : j < len
    · have hj0 : (0 : Int) ≤ (j : Int) := by omega
      have hj1 : (j : Int) < (len : Int) := by omega
      obtain rfl := HR.out.hao (by omega)
      have hjl : j < l.length := by rw [HR.out.length]; exact hlt
      obtain ⟨d0, d1, d2, d3, hsub⟩ := HR.out.at K.below j hlt
      obtain ⟨a5, n5, m5, hs5⟩ := hsub.isSlice
      rw [hs5] at d3 hsub
      have hg : l[j]'hjl = .mk (oo j) (hh j) (kk j) (tt j) := HR.out.get j hlt
      have hpj := hpl _ (List.getElem_mem hjl)
      rw [hg] at hpj
      have hba := one_below wr (.cells #[.int .i64 (oo j), .int .i64 (hh j), .int .i64 (kk j), .slice a5 n5 m5] 24)
      obtain ⟨y0, y1, y2, y3⟩ := c4_of (heap_alloc_new wr (.cells #[.int .i64 (oo j), .int .i64 (hh j), .int .i64 (kk j), .slice a5 n5 m5] 24))
      have call := measured_any (oo j) (hh j) (kk j) (.slice a5 n5 m5) (tt j) _ ((hsub.more (S' := fun _ => True) fun _ _ _ => trivial).keep hba) hpj
      have HG := Lib.hid (And.intro hg hs5)
      have HBA := Lib.hid hba
      obtain ⟨X, hX⟩ : ∃ X, X = Tm.sz (.mk (oo j) (hh j) (kk j) (tt j)) := ⟨_, rfl⟩
      obtain ⟨Y, hY⟩ : ∃ Y, Y = Tm.depth (.mk (oo j) (hh j) (kk j) (tt j)) := ⟨_, rfl⟩
      rw [← hX, ← hY] at call
      have HXY := Lib.hid (And.intro hX hY)
      clear K hz hsub hs5 hg hpj hba hX hY
      go_wp2_with fail
      refine call.mono ?_
      rintro e w2 ⟨rfl, hb2⟩
      have K2 := (HK.out.keep HBA.out).keep hb2
      obtain ⟨⟨u0, v0⟩, ⟨u1, v1⟩, ⟨u2, v2⟩, ⟨u3, v3⟩, ⟨u4, v4⟩, ⟨u5, v5⟩⟩ := K2.there hlt
      have f0 := K2.free (j * 6)
      have f1 := K2.free (j * 6 + 1)
      have f2 := K2.free (j * 6 + 2)
      have f3 := K2.free (j * 6 + 3)
      have f4 := K2.free (j * 6 + 4)
      have f5 := K2.free (j * 6 + 5)
      have HK2 := Lib.hid (And.intro K2 (heap_kept hb2 (heap_kept HBA.out HZ.out)))
      clear K2 hb2 call y0 y1 y2 y3 d0 d1 d2 d3
      go_wp2_with fail
      go_roundw
      case rel =>
        have h := HK2.out.1.next hjl HG.out.1
        unfold setAt6 at h
        simp only [Tm.op, Tm.hd, Tm.n] at h
        rw [← HXY.out.1, ← HXY.out.2, HG.out.2] at h
        refine ⟨j + 1, by go_num, h, ?_⟩
        have h2 := setAt6_other (w := w2) (M := M) (k := w.heap.size) (j * 6) (.int .i64 (oo j)) (.int .i64 (hh j)) (.int .i64 (kk j)) (.slice a5 n5 m5) (.int .i64 X) (.int .i64 Y) (by have := HM.out; omega)
        unfold setAt6 at h2
        exact h2.trans HK2.out.2
      case measure => simp [intOf]; omega
    · obtain rfl : j = len := by have := K.hj; omega
      have hB2 := HB.out.keep K.below
      have hcw := lt_blk HC.out
      have hclt : C < wr.heap.size := by have := K.below.size; omega
      have hsp : PLies wr (· ≠ C) (.slice (some ⟨M, 0, none⟩) j j) l := K.whole (by show M ≠ C; have := HM.out; omega) hlen fun i h => by
        have h1 := (HR.out.at K.below i (by rw [← HR.out.length]; exact h)).2.2.2.2
        rw [HR.out.get i (by rw [← HR.out.length]; exact h)]
        exact h1
      have hS0 : CellsAq wr B D so sh sn (.slice aq ns ms) (.slice aS nS mS) cn := hB2.cells
      obtain ⟨X, hX⟩ : ∃ X, X = Tm.sz (.mk so sh sn sa) := ⟨_, rfl⟩
      obtain ⟨Y, hY⟩ : ∃ Y, Y = Tm.depth (.mk so sh sn sa) := ⟨_, rfl⟩
      have hcW := heap_kept K.below HC.out
      have call1 : ∀ w1, Below wr.heap.size wr w1 → Calls Try.prog 44 #[.agg #[.int .i64 so, .int .i64 sh, .int .i64 sn, .slice aq ns ms]] w1 fun e w2 => e = .returned (.agg #[.int .i64 so, .int .i64 sh, .int .i64 sn, .slice aq ns ms, .int .i64 X, .int .i64 Y]) ∧ Below wr.heap.size wr w2 := fun w1 hb => by
        have h := measured_any so sh sn (.slice aq ns ms) sa w1 ((hB2.ls.more (S' := fun _ => True) (fun _ _ _ => trivial)).keep hb) hps
        rw [← hX, ← hY] at h
        exact h.mono fun e w2 hx => ⟨hx.1, below_next hb hx.2⟩
      obtain ⟨r, hr⟩ : ∃ r, r = app Ss (Tm.moved 0 0 (.mk so sh sn sa)) l 0 := ⟨_, rfl⟩
      have call2 : ∀ w1, Below wr.heap.size wr w1 → Calls Try.prog 53 #[.agg #[.pointer (some ⟨C, 0, none⟩), .int .i64 so, .int .i64 sh, .int .i64 sn, .slice aq ns ms, .int .i64 X, .int .i64 Y, .slice aS nS mS, .int .i64 cn], .int .i64 0, .slice (some ⟨M, 0, none⟩) j j] w1 (GivesP w1 C r) := fun w1 hb => by
        have h := apply_any C cn Ss (.mk so sh sn sa) (.slice aq ns ms) (.slice aS nS mS) (.slice (some ⟨M, 0, none⟩) j j) l 0 0 w1 (hB2.ls.keep hb) (hB2.lS.keep hb) (hsp.keep hb) (heap_kept hb hcW) (by omega) (by omega) (by omega) hps hpl hl6
        have hps2 : Tm.proper (Tm.moved 0 0 (.mk so sh sn sa)) = true := by rw [Tm.moved_zero]; exact hps
        rw [if_pos hps2, ← hr] at h
        unfold subV at h
        simp only [Tm.op, Tm.hd, Tm.n, ← hX, ← hY] at h
        exact h
      have HD : Hid (Below wr.heap.size wr wr.drew) := Lib.hid (Below.refl _ _).drew
      have HL : Hid ((B ≠ C ∧ D ≠ C) ∧ (B < wr.heap.size ∧ D < wr.heap.size)) := Lib.hid ⟨hB2.ne.2, lt_blk hB2.hB, lt_blk hB2.hD⟩
      have HK9 : Hid (B ≠ w.heap.size ∧ D ≠ w.heap.size) := Lib.hid (by have h1 := lt_blk HB.out.hB; have h2 := lt_blk HB.out.hD; omega)
      have HW : Hid (w.heap.size < wr.heap.size ∧ w.heap.size ≠ C ∧ C < w.heap.size ∧ Below w.heap.size w wr) := Lib.hid ⟨lt_blk hz, by omega, hcw, K.below⟩
      have hj1 : ¬ (j : Int) < (j : Int) := by omega
      have HRR := Lib.hid hr
      clear K hz hB2 hcw hclt hsp hX hY hcW hr HK hpl hps
      go_upto_region 7 with fail
      rcases r with ⟨x, c⟩ | x
      · have call3 : ∀ w1, Below wr.heap.size wr w1 → Calls Try.prog 53 #[.agg #[.pointer (some ⟨C, 0, none⟩), .int .i64 so, .int .i64 sh, .int .i64 sn, .slice aq ns ms, .int .i64 X, .int .i64 Y, .slice aS nS mS, .int .i64 cn], .int .i64 0, .slice (some ⟨M, 0, none⟩) j j] w1 fun e w2 => ∃ a3 n3 m3, e = .returned (.agg #[.int .i64 x.op, .int .i64 x.hd, .int .i64 x.n, .slice a3 n3 m3, .int .i64 (Tm.sz x : Nat), .int .i64 (Tm.depth x : Nat)]) ∧ Only C wr w2 ∧ cntAt C c w2 ∧ Lies w2 (wr.heap.size ≤ ·) (.slice a3 n3 m3) x.args := fun w1 hb => by
          refine (call2 w1 hb).mono fun e w2 hx => ?_
          obtain ⟨v, rfl, ho, hc, L⟩ := hx
          obtain ⟨a3, n3, m3, rfl⟩ := L.isSlice
          exact ⟨a3, n3, m3, rfl, (Only.below hb C).trans ho, hc, L.more fun b _ hS => Nat.le_trans hb.size hS⟩
        clear call2
        go_region_held2 (fun W => CellsAq W B D so sh sn (.slice aq ns ms) (.slice aS nS mS) cn)
          (first | (with_reducible exact cellsAq_six HK9.out hcn) | (with_reducible exact hS0) | (with_reducible exact hcn) | (with_reducible exact cellsAq_below HD.out hS0) | fail)
          (first
            | (go_at_call 44; (with_reducible refine (call1 _ ?_).mono ?_); (first | (with_reducible exact HD.out) | fail); rintro e w1 ⟨rfl, hb1⟩; have hcn := cellsAq_below hb1 hS0)
            | (go_at_call 53; (with_reducible refine (call3 _ ?_).mono ?_); (with_reducible exact hb1); rintro e w2 ⟨a3, n3, m3, rfl, ho, hc, L⟩; have hcn := cellsAq_only HL.out.1 HL.out.2 ho hS0; have HO := Lib.hid (And.intro ho (And.intro hc L)); have hz2 := Only.keepBlock ho HZ.out HW.out.2.1; obtain ⟨⟨x0, x1, x2, x3, x4, x5⟩, f0, f1, f2, f3, f4, f5⟩ := cells6_of hz2; have HZ2 := Lib.hid hz2; (clear hz2 ho hc L))
            | fail)
        go_wp2_with fail
        have hz := set6_at HZ2.out (.int .i64 x.op) (.int .i64 x.hd) (.int .i64 x.n) (.slice a3 n3 m3) (.int .i64 (Tm.sz x : Nat)) (.int .i64 (Tm.depth x : Nat))
        obtain ⟨⟨v0, v1, v2, v3, v4, v5⟩, _⟩ := cells6_of hz
        unfold set6 at v0 v1 v2 v3 v4 v5
        refine bodyPost_ret (v := .agg #[.int .i64 x.op, .int .i64 x.hd, .int .i64 x.n, .slice a3 n3 m3, .int .i64 (Tm.sz x : Nat), .int .i64 (Tm.depth x : Nat)]) (by simp [results, Try.results52, go_sem, v0, v1, v2, v3, v4, v5]) rfl ?_
        rw [← HRR.out]
        obtain ⟨xo, xh, xk, xl⟩ := x
        exact givesP_stored (B := w.heap.size) ((Only.below HW.out.2.2.2 C).trans HO.out.1) HO.out.2.1 HW.out.2.2.1 (Nat.le_refl _) (HO.out.2.2.more fun b _ hS => by have hS' : wr.heap.size ≤ b := hS; have := HW.out.1; omega) rfl rfl
      · have call3 : ∀ w1, Below wr.heap.size wr w1 → Calls Try.prog 53 #[.agg #[.pointer (some ⟨C, 0, none⟩), .int .i64 so, .int .i64 sh, .int .i64 sn, .slice aq ns ms, .int .i64 X, .int .i64 Y, .slice aS nS mS, .int .i64 cn], .int .i64 0, .slice (some ⟨M, 0, none⟩) j j] w1 fun e w2 => e = .panicked (failure x) ∧ Only C wr w2 := fun w1 hb => (call2 w1 hb).mono fun e w2 hx => ⟨hx.1, (Only.below hb C).trans hx.2⟩
        clear call2
        go_region_held2 (fun W => CellsAq W B D so sh sn (.slice aq ns ms) (.slice aS nS mS) cn)
          (first | (with_reducible exact cellsAq_six HK9.out hcn) | (with_reducible exact hS0) | (with_reducible exact hcn) | (with_reducible exact cellsAq_below HD.out hS0) | fail)
          (first
            | (go_at_call 44; (with_reducible refine (call1 _ ?_).mono ?_); (first | (with_reducible exact HD.out) | fail); rintro e w1 ⟨rfl, hb1⟩; have hcn := cellsAq_below hb1 hS0)
            | (go_at_call 53; (with_reducible refine (call3 _ ?_).mono ?_); (with_reducible exact hb1); intro e w2 h1; cases e; rotate_left; (obtain ⟨h1, ho⟩ := h1; cases h1; refine ⟨rfl, ?_⟩; rw [← HRR.out]; exact ⟨rfl, (Only.below HW.out.2.2.2 C).trans ho⟩); (exact absurd h1.1 (fun h => by cases h)); (obtain ⟨h1, ho⟩ := h1; have hF : Hid False := absurd h1 (fun h => by cases h)); (rename_i vv; obtain rfl : vv = Value.agg #[.int .i64 0, .int .i64 0, .int .i64 0, .slice none 0 0, .int .i64 0, .int .i64 0] := hF.out.elim); (clear h1); dsimp only; have hcn := cellsAq_only HL.out.1 HL.out.2 ho hS0; have hz2 := Only.keepBlock ho HZ.out HW.out.2.1; obtain ⟨⟨x0, x1, x2, x3, x4, x5⟩, f0, f1, f2, f3, f4, f5⟩ := cells6_of hz2; (clear hz2 ho))
            | fail)
        all_goals (exact hF.out.elim)
end Go.Proofs.Ytieakippgeehgaa.Sb
