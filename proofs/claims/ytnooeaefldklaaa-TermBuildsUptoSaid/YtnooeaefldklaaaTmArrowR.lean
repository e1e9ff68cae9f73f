/- The contract of the reference's Arrow. -/
import Derived.Test.YtnooeaefldklaaaTmPiR
import Derived.Test.YtnooeaefldklaaaTmShun
namespace Go.Proofs.Ytnooeaefldklaaa
open Go.RowKit
set_option linter.unusedSimpArgs false
set_option linter.unusedVariables false

abbrev Two4 (W : World) (B C : Nat) (u1 u2 u3 u4 u5 u6 u7 u8 : Value) : Prop :=
  (W.cell? ⟨B, 0, none⟩ = some u1 ∧ W.cell? ⟨B, 1, none⟩ = some u2 ∧ W.cell? ⟨B, 2, none⟩ = some u3 ∧ W.cell? ⟨B, 3, none⟩ = some u4) ∧ W.cell? ⟨C, 0, none⟩ = some u5 ∧ W.cell? ⟨C, 1, none⟩ = some u6 ∧ W.cell? ⟨C, 2, none⟩ = some u7 ∧ W.cell? ⟨C, 3, none⟩ = some u8
theorem keepT {W W' : World} {B C : Nat} {u1 u2 u3 u4 u5 u6 u7 u8 : Value} (hb : Below W.heap.size W W') (x : Two4 W B C u1 u2 u3 u4 u5 u6 u7 u8) : Two4 W' B C u1 u2 u3 u4 u5 u6 u7 u8 := ⟨keep4 hb x.1, keep4 hb x.2⟩
theorem keepTS {W : World} {B C z : Nat} {u1 u2 u3 u4 u5 u6 u7 u8 y1 y2 y3 y4 : Value} (hB : B ≠ z) (hC : C ≠ z) (x : Two4 W B C u1 u2 u3 u4 u5 u6 u7 u8) :
    Two4 ((((W.setCell ⟨z, 0, none⟩ y1).setCell ⟨z, 1, none⟩ y2).setCell ⟨z, 2, none⟩ y3).setCell ⟨z, 3, none⟩ y4) B C u1 u2 u3 u4 u5 u6 u7 u8 := ⟨keepH (heap_set4 _ _ _ _ hB hB hB hB) x.1, keepH (heap_set4 _ _ _ _ hC hC hC hC) x.2⟩
theorem pi_flat (S : Nat → Prop) (a b : Tm) (v v' : Value) (w : World) (hv : Lies w S v a.args) (hv' : Lies w S v' b.args) (fa : a.fit) (fb : b.fit) :
    Calls Try.prog 63 #[.agg #[.int .i64 a.op, .int .i64 a.hd, .int .i64 a.n, v], .agg #[.int .i64 b.op, .int .i64 b.hd, .int .i64 b.n, v']] w fun e w' =>
      ∃ x n m, e = .returned (.agg #[.int .i64 2, .int .i64 0, .int .i64 0, .slice x n m]) ∧ Below w.heap.size w w' ∧ Lies w' (fun b => S b ∨ w.heap.size ≤ b) (.slice x n m) [a, b] := pi_any S a b v v' w hv hv' fa fb
theorem pi_ends {a M T : Tm} {er : Int} (h : joinEnd (Tm.pi a M) = (T, er)) : (Tm.proper (.mk 2 0 0 [a, M]) = false ∧ T = Tm.zero ∧ er = 5) ∨ (Tm.proper (.mk 2 0 0 [a, M]) = true ∧ T = .mk 2 0 0 [a, M] ∧ er = 0) := by
  unfold joinEnd Tm.pi at h
  rcases hq : Tm.proper (.mk 2 0 0 [a, M]) with _ | _
  · rw [hq] at h; simp at h; exact .inl ⟨rfl, h.1.symm, h.2.symm⟩
  · rw [hq] at h; simp at h; exact .inr ⟨rfl, h.1.symm, h.2.symm⟩

set_option maxHeartbeats 8000000 in
set_option maxRecDepth 100000 in
theorem arrowR_any (a b : Tm) (v v' : Value) (w : World) (hv : Lies w (fun _ => True) v a.args) (hv' : Lies w (fun _ => True) v' b.args) (T : Tm) (er : Int) (hT : arrowOut a b = (T, er)) :
    Calls Try.prog 32 #[.agg #[.int .i64 a.op, .int .i64 a.hd, .int .i64 a.n, v], .agg #[.int .i64 b.op, .int .i64 b.hd, .int .i64 b.n, v']] w (GivesOne w T er) := by
  obtain ⟨a2, n2, m2, rfl⟩ := hv.isSlice
  obtain ⟨a3, n3, m3, rfl⟩ := hv'.isSlice
  rw [arrowOut_ref] at hT
  have H3 := Lib.hid (three_blocks w #[.int .i64 a.op, .int .i64 a.hd, .int .i64 a.n, .slice a2 n2 m2] #[.int .i64 b.op, .int .i64 b.hd, .int .i64 b.n, .slice a3 n3 m3] #[.int .i64 0, .int .i64 0, .int .i64 0, .slice none 0 0] 24 24 24)
  have HV := Lib.hid hv
  have HV' := Lib.hid hv'
  have c1 := proper_t a _ _ (HV.out.keep H3.out.2.2.2.1)
  have c2 := fun w1 (hb : Below w.heap.size w w1) => proper_t b _ w1 (HV'.out.keep hb)
  rcases hp : Tm.proper a with _ | _
  · rw [hp] at c1 hT
    obtain ⟨rfl, rfl⟩ := Prod.mk.inj hT
    clear hv hv' c2 hp hT
    go_enter Try.func32, Try.ntmps32
    go_wp2_with (go_at_call 16; (with_reducible refine c1.mono ?_); rintro e w1 ⟨rfl, hb1⟩; have hr1 := Lib.hid (heap_kept hb1 H3.out.2.2.1); obtain ⟨y0, y1, y2, y3⟩ := cells4_of hr1.out; have z0 := free_in hr1.out 0; have z1 := free_in hr1.out 1; have z2 := free_in hr1.out 2; have z3 := free_in hr1.out 3)
    have hz := set4_at hr1.out (.int .i64 0) (.int .i64 0) (.int .i64 0) (.slice none 0 0)
    obtain ⟨d0, d1, d2, d3⟩ := cells4_of hz
    have hb := H3.out.2.2.2.1.trans (hb1.mono H3.out.2.2.2.1.size)
    refine bodyPost_ret (v := .tuple #[.agg #[.int .i64 0, .int .i64 0, .int .i64 0, .slice none 0 0], .int .i64 2]) (by simp [results, Try.results32, go_sem, d0, d1, d2, d3]) rfl ⟨_, _, _, rfl, ?_, Lies.nil _ _⟩
    exact (((hb.setCell (by simp; omega) _).setCell (by simp; omega) _).setCell (by simp; omega) _).setCell (by simp; omega) _
  · rw [hp] at c1 hT
    rcases hp' : Tm.proper b with _ | _
    · rw [hp'] at c2 hT
      obtain ⟨rfl, rfl⟩ := Prod.mk.inj hT
      clear hv hv' hp hp' hT
      go_enter Try.func32, Try.ntmps32
      go_wp2_with fail
      refine c1.mono ?_
      rintro e w1 ⟨rfl, hb1⟩
      obtain ⟨q0, q1, q2, q3⟩ := cells4_of (heap_kept hb1 H3.out.2.1)
      have B1 := H3.out.2.2.2.1.trans (hb1.mono H3.out.2.2.2.1.size)
      go_wp2_with fail
      refine (c2 _ B1).mono ?_
      rintro e w2 ⟨rfl, hb2⟩
      have hr1 := Lib.hid (heap_kept hb2 (heap_kept hb1 H3.out.2.2.1))
      obtain ⟨y0, y1, y2, y3⟩ := cells4_of hr1.out
      have z0 := free_in hr1.out 0
      have z1 := free_in hr1.out 1
      have z2 := free_in hr1.out 2
      have z3 := free_in hr1.out 3
      go_wp2
      have hz := set4_at hr1.out (.int .i64 0) (.int .i64 0) (.int .i64 0) (.slice none 0 0)
      obtain ⟨d0, d1, d2, d3⟩ := cells4_of hz
      have hb := B1.trans (hb2.mono B1.size)
      refine bodyPost_ret (v := .tuple #[.agg #[.int .i64 0, .int .i64 0, .int .i64 0, .slice none 0 0], .int .i64 2]) (by simp [results, Try.results32, go_sem, d0, d1, d2, d3]) rfl ⟨_, _, _, rfl, ?_, Lies.nil _ _⟩
      exact (((hb.setCell (by simp; omega) _).setCell (by simp; omega) _).setCell (by simp; omega) _).setCell (by simp; omega) _
    · rw [hp'] at c2 hT
      simp only [Bool.and_self, if_true] at hT
      have hfa := Tm.proper_fit hp
      have hnb := Tm.nums_of_formed _ 1 (Tm.proper_formed' hp').2
      have hsb := (Tm.proper_formed' hp').1
      have hfm : (Tm.moved 1 0 b).fit := by
        have := Tm.moved_fit 1 0 b.op b.hd b.n b.args (by rw [Tm.eta]; exact hnb) (by omega) (by omega)
        rwa [Tm.eta] at this
      have cm := fun w1 (hb : Below w.heap.size w w1) => moved_calls (fun _ => True) 1 (by omega) (by omega) _ b.op b.hd b.n 0 _ b.args w1 (Nat.le_refl _) (by rw [Tm.eta]; exact hsb) (by rw [Tm.eta]; exact hnb) (by omega) (by rw [Tm.eta]; omega) (HV'.out.keep hb)
      rw [Tm.eta] at cm
      obtain ⟨M, hM⟩ : ∃ M, M = Tm.moved 1 0 b := ⟨_, rfl⟩
      have hnz : Tm.nzL [a, M] = true := by
        rw [hM]
        simp [Tm.nzL, Tm.nz_moved, Tm.nz_formed a 1 (Tm.proper_formed' hp).2, Tm.nz_formed b 1 (Tm.proper_formed' hp').2]
      rw [← hM] at hT hfm cm
      have cp := fun (vm : Value) w1 (hb : Below w.heap.size w w1) (hvm : Lies w1 (fun _ => True) vm M.args) => pi_flat (fun _ => True) a M _ vm w1 (HV.out.keep hb) hvm hfa hfm
      have HNZ := Lib.hid hnz
      have HTT := Lib.hid hT
      clear hv hv' hp hp' hT hM hnz hnb hsb
      go_enter Try.func32, Try.ntmps32
      go_wp2_with fail
      refine c1.mono ?_
      rintro e w1 ⟨rfl, hb1⟩
      obtain ⟨q0, q1, q2, q3⟩ := cells4_of (heap_kept hb1 H3.out.2.1)
      have B1 := H3.out.2.2.2.1.trans (hb1.mono H3.out.2.2.2.1.size)
      go_wp2_with fail
      refine (c2 _ B1).mono ?_
      rintro e w2 ⟨rfl, hb2⟩
      have B2 := B1.trans (hb2.mono B1.size)
      have hr2 := Lib.hid (heap_kept hb2 (heap_kept hb1 H3.out.2.2.1))
      have hlt2 := lt_of_block hr2.out
      have hx00 : Two4 w2 w.heap.size (w.heap.size + 1) (.int .i64 a.op) (.int .i64 a.hd) (.int .i64 a.n) (.slice a2 n2 m2) (.int .i64 b.op) (.int .i64 b.hd) (.int .i64 b.n) (.slice a3 n3 m3) := ⟨cells4_of (heap_kept hb2 (heap_kept hb1 H3.out.1)), cells4_of (heap_kept hb2 (heap_kept hb1 H3.out.2.1))⟩
      have hx0 := keepT (Below.refl w2.heap.size w2).drew hx00
      have hdr : Below w2.heap.size w2 w2.drew := (Below.refl _ _).drew
      obtain ⟨⟨p0, p1, p2, p3⟩, q0', q1', q2', q3'⟩ := hx00
      have hx00 : Two4 w2 w.heap.size (w.heap.size + 1) (.int .i64 a.op) (.int .i64 a.hd) (.int .i64 a.n) (.slice a2 n2 m2) (.int .i64 b.op) (.int .i64 b.hd) (.int .i64 b.n) (.slice a3 n3 m3) := ⟨⟨p0, p1, p2, p3⟩, q0', q1', q2', q3'⟩
      clear q0 q1 q2 q3 c1 c2 p0 p1 p2 p3 q0' q1' q2' q3'
      go_upto_region 3 with fail
      go_cut [6] (fun p wx => ∃ B x n m, p = .pointer (some ⟨B, 0, none⟩) ∧ wx.heap[B]? = some (.cells #[.int .i64 2, .int .i64 0, .int .i64 0, .slice x n m] 24 (0, 0)) ∧ Lies wx (fun _ => True) (.slice x n m) [a, M] ∧ Below w.heap.size w wx ∧ wx.heap[w.heap.size + 1 + 1]? = some (.cells #[.int .i64 0, .int .i64 0, .int .i64 0, .slice none 0 0] 24 (0, 0)))
      case first =>
        go_region_held3 (fun W => Two4 W w.heap.size (w.heap.size + 1) (.int .i64 a.op) (.int .i64 a.hd) (.int .i64 a.n) (.slice a2 n2 m2) (.int .i64 b.op) (.int .i64 b.hd) (.int .i64 b.n) (.slice a3 n3 m3))
          (first | (with_reducible exact hx0) | (with_reducible exact keepT (one_below _ _) hx0) | (with_reducible exact keepT hd8 hx00) | (with_reducible exact keepT (one_below _ _) (keepT hd8 hx00)) | (with_reducible exact keepT hd9 hx00) | (with_reducible exact keepT (one_below _ _) (keepT hd9 hx00)) | (with_reducible exact keepTS hne hne1 (keepT hd9 hx00)))
          (first | (go_at_call 58; (with_reducible refine (cm _ ?_).mono ?_); (first | exact B2.drew | exact B2.drew.alloc B2.drew.size _); rintro e w8 ⟨v8, rfl, hb8, hx8⟩; obtain ⟨a8, n8, m8, rfl⟩ := hx8.isSlice; have hd8 : Below w2.heap.size w2 w8 := (by first | exact hdr.trans (hb8.mono hdr.size) | exact (hdr.alloc hdr.size _).trans (hb8.mono (hdr.alloc hdr.size _).size)); have B8 := below_next B2 hd8; have hL8 := hx8.more (S' := fun _ => True) (fun _ _ _ => trivial); (first | (have hz8 := Lib.hid (show w8.heap[w2.heap.size]? = _ from heap_kept hb8 (heap_alloc_new w2.drew (.cells #[.int .i64 0, .int .i64 0, .int .i64 0, .slice none 0 0] 24)))) | skip)) | (go_at_call 63; (with_reducible refine (cp _ _ ?_ ?_).mono ?_); (first | exact B8 | exact B8.alloc B8.size _); (first | exact hL8 | exact hL8.keep (one_below _ _)); rintro e w9 ⟨a9, n9, m9, rfl, hb9, hx9⟩; have hd9 : Below w2.heap.size w2 w9 := (by first | exact hd8.trans (hb9.mono hd8.size) | exact (hd8.alloc hd8.size _).trans (hb9.mono (hd8.alloc hd8.size _).size)); have hL9 := hx9.more (S' := fun _ => True) (fun _ _ _ => trivial); (first | (have hzz := Lib.hid (heap_kept hb9 (heap_alloc_new w8 (.cells #[.int .i64 0, .int .i64 0, .int .i64 0, .slice none 0 0] 24))); have hne : w.heap.size ≠ w8.heap.size := (by have := hd8.size; omega); have hne1 : w.heap.size + 1 ≠ w8.heap.size := (by have := hd8.size; omega); have hne2 : w.heap.size + 1 + 1 ≠ w8.heap.size := (by have := hd8.size; omega); obtain ⟨y0, y1, y2, y3⟩ := cells4_of hzz.out; have f0 := free_in hzz.out 0; have f1 := free_in hzz.out 1; have f2 := free_in hzz.out 2; have f3 := free_in hzz.out 3) | (have hzz := Lib.hid (heap_kept hb9 hz8.out); have hne : w.heap.size ≠ w2.heap.size := (by omega); have hne1 : w.heap.size + 1 ≠ w2.heap.size := (by omega); have hne2 : w.heap.size + 1 + 1 ≠ w2.heap.size := (by omega); obtain ⟨y0, y1, y2, y3⟩ := cells4_of hzz.out; have f0 := free_in hzz.out 0; have f1 := free_in hzz.out 1; have f2 := free_in hzz.out 2; have f3 := free_in hzz.out 3) | skip)))
        all_goals
          go_wp2_with fail
          go_meet
          case rel =>
            first
              | exact ⟨_, _, _, _, rfl, heap_alloc_new w9 _, hL9.keep (one_below _ _), below_next (below_next B2 hd9) (one_below _ _), heap_kept (one_below _ _) (heap_kept hd9 hr2.out)⟩
              | (have hs2 := B2.size; have hs8 := hd8.size; exact ⟨_, _, _, _, rfl, set4_at hzz.out _ _ _ _, hL9.shunN (zero_cells hzz.out) (fun b j u hb e => cell_set4 hb e) HNZ.out, ((((below_next B2 hd9).setCell (by simp; omega) _).setCell (by simp; omega) _).setCell (by simp; omega) _).setCell (by simp; omega) _, (heap_set4 _ _ _ _ hne2 hne2 hne2 hne2).trans (heap_kept hd9 hr2.out)⟩)
      case rest =>
        obtain ⟨B, ab, nb, mb, rfl, hB, hL, hBw, hr⟩ := hcut
        obtain ⟨z0, z1, z2, z3⟩ := cells4_of hB
        have c3 := proper_t (.mk 2 0 0 [a, M]) _ _ hL
        simp only [Tm.op, Tm.hd, Tm.n] at c3
        have HB := Lib.hid hB
        have HL := Lib.hid hL
        have HRR := Lib.hid hr
        clear cm cp hx00 hx0
        rcases pi_ends HTT.out with ⟨hq, rfl, rfl⟩ | ⟨hq, rfl, rfl⟩
        · rw [hq] at c3
          clear hB hL hr hq
          go_wp2_with fail
          refine c3.mono ?_
          rintro e w3 ⟨rfl, hb3⟩
          have hr1 := Lib.hid (heap_kept hb3 HRR.out)
          obtain ⟨y0, y1, y2, y3⟩ := cells4_of hr1.out
          have f0 := free_in hr1.out 0
          have f1 := free_in hr1.out 1
          have f2 := free_in hr1.out 2
          have f3 := free_in hr1.out 3
          go_wp2
          have hz := set4_at hr1.out (.int .i64 0) (.int .i64 0) (.int .i64 0) (.slice none 0 0)
          obtain ⟨d0, d1, d2, d3⟩ := cells4_of hz
          have hb := below_next hBw hb3
          refine bodyPost_ret (v := .tuple #[.agg #[.int .i64 0, .int .i64 0, .int .i64 0, .slice none 0 0], .int .i64 5]) (by simp [results, Try.results32, go_sem, d0, d1, d2, d3]) rfl ⟨_, _, _, rfl, ?_, Lies.nil _ _⟩
          exact (((hb.setCell (by simp; omega) _).setCell (by simp; omega) _).setCell (by simp; omega) _).setCell (by simp; omega) _
        · rw [hq] at c3
          clear hB hL hr hq
          go_wp2_with fail
          refine c3.mono ?_
          rintro e w3 ⟨rfl, hb3⟩
          have hr1 := Lib.hid (heap_kept hb3 HRR.out)
          obtain ⟨y0, y1, y2, y3⟩ := cells4_of hr1.out
          have f0 := free_in hr1.out 0
          have f1 := free_in hr1.out 1
          have f2 := free_in hr1.out 2
          have f3 := free_in hr1.out 3
          obtain ⟨x0, x1, x2, x3⟩ := cells4_of (heap_kept hb3 HB.out)
          clear z0 z1 z2 z3
          go_wp2
          have hz := set4_at hr1.out (.int .i64 2) (.int .i64 0) (.int .i64 0) (.slice ab nb mb)
          obtain ⟨d0, d1, d2, d3⟩ := cells4_of hz
          have hb := below_next hBw hb3
          refine bodyPost_ret (v := .tuple #[.agg #[.int .i64 2, .int .i64 0, .int .i64 0, .slice ab nb mb], .int .i64 0]) (by simp [results, Try.results32, go_sem, d0, d1, d2, d3]) rfl ⟨_, _, _, rfl, ?_, ?_⟩
          · exact (((hb.setCell (by simp; omega) _).setCell (by simp; omega) _).setCell (by simp; omega) _).setCell (by simp; omega) _
          · exact (HL.out.keep hb3).shunN (zero_cells hr1.out) (fun b j u hb e => cell_set4 hb e) HNZ.out
end Go.Proofs.Ytnooeaefldklaaa
