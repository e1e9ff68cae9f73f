/- The law SubstSteps, walked where all its objects are proper. -/
import Derived.Test.YtieakippgeehgaaSbStA
import Derived.BigRegion
import Derived.Deep.CutRange
import Derived.ProofKit
namespace Go.Proofs.Ytieakippgeehgaa.Sb
open Go.RowKit
set_option linter.unusedSimpArgs false
set_option linter.unusedVariables false

theorem cons_of (l : List Tm) (h : 0 < l.length) : l = l[0] :: l.drop 1 := by
  cases l with
  | nil => simp at h
  | cons a r => rfl

set_option maxHeartbeats 64000000 in
set_option maxRecDepth 100000 in
theorem steps_good (t : Tm) (l : List Tm) (cn : Int) (Ss : List Sp.Tm) (tv lv Sv : Value) (w : World) (lt : Lies w (fun _ => True) tv t.args) (ll : Lies w (fun _ => True) lv l) (lS : Sp.Lies w (fun _ => True) Sv Ss)
    (hpt : Tm.proper t = true) (h0 : 0 < l.length) (h6 : l.length ≤ 600) (ho : ∀ x ∈ l, Tm.proper x = true) (rcn : -9223372036854775808 ≤ cn ∧ cn ≤ 9223372036854775807) :
    Calls Try.prog 13 #[.agg #[.int .i64 t.op, .int .i64 t.hd, .int .i64 t.n, tv], lv, .agg #[Sv, .int .i64 cn]] w fun e w' => e = .returned (.bool true) ∧ Below w.heap.size w w' := by
  obtain ⟨a1, n1, m1, rfl⟩ := lt.isSlice
  obtain ⟨ao, b, off, len, cap, oo, hh, kk, sv, ts, rfl, R⟩ := ll.open
  obtain ⟨a3, n3, m3, rfl⟩ := lS.isSlice
  rw [R.length] at h0 h6
  obtain rfl := R.hao h0
  have hg0 := R.get 0 h0
  have hl0 : l = .mk (oo 0) (hh 0) (kk 0) (ts 0) :: l.drop 1 := by
    rw [← hg0]; exact cons_of l _
  have ho0 : Tm.proper (.mk (oo 0) (hh 0) (kk 0) (ts 0)) = true := by rw [← hg0]; exact ho _ (List.getElem_mem _)
  have hst := steps_inst (m := .mk (oo 0) (hh 0) (kk 0) (ts 0)) (r := l.drop 1) hpt (by rw [← hl0, R.length]; exact h6) (by rw [← hl0]; exact ho)
  rw [← hl0] at hst
  have hsm := steps_many (S := .mk cn Ss) hpt ho0
  obtain ⟨a2, n2, m2, hs2⟩ := (R.sub 0 h0).isSlice
  have hlc := R.hl
  have hcap := R.hr
  have h2 := two_blocks w #[.int .i64 t.op, .int .i64 t.hd, .int .i64 t.n, .slice a1 n1 m1] #[.slice a3 n3 m3, .int .i64 cn] 24 27
  have hb2 := two_below w (.cells #[.int .i64 t.op, .int .i64 t.hd, .int .i64 t.n, .slice a1 n1 m1] 24) (.cells #[.slice a3 n3 m3, .int .i64 cn] 27)
  have HV : Hid (StV w _ t (.slice a1 n1 m1) (.slice a3 n3 m3) cn) := Lib.hid ⟨hb2, h2.1, h2.2⟩
  have ft := fit_of hpt
  have f0 := fit_of ho0
  have cP := proper_t t (fun _ => True) (.slice a1 n1 m1) _ (lt.keep hb2)
  rw [hpt] at cP
  have cI1 := fun (vd : Value) (wx : World) (hb : Below w.heap.size w wx) (hd : Lies wx (fun _ => True) vd [.mk (oo 0) (hh 0) (kk 0) (ts 0)]) => instF_any t [.mk (oo 0) (hh 0) (kk 0) (ts 0)] (.slice a1 n1 m1) vd wx (lt.keep hb) hd ft
  have cI2 := fun (vd : Value) (wx : World) (hb : Below w.heap.size w wx) (hd : Lies wx (fun _ => True) vd l) => instF_any t l (.slice a1 n1 m1) vd wx (lt.keep hb) hd ft
  have cM := fun (vd ve : Value) (wx : World) (hb : Below w.heap.size w wx) (hd : Lies wx (fun _ => True) vd [.mk (oo 0) (hh 0) (kk 0) (ts 0)]) (he : Sp.Lies wx (fun _ => True) ve [.mk cn Ss]) => manyF_any t [.mk (oo 0) (hh 0) (kk 0) (ts 0)] [.mk cn Ss] (.slice a1 n1 m1) vd ve wx (lt.keep hb) hd he ft
  have cS := fun (wx : World) (hb : Below w.heap.size w wx) => subst_any t (.mk (oo 0) (hh 0) (kk 0) (ts 0)) 0 cn Ss (.slice a1 n1 m1) (sv 0) (.slice a3 n3 m3) wx (lt.keep hb) ((R.sub 0 h0).keep hb) (lS.keep hb) ft f0
  rw [hsm] at cM
  clear hsm
  generalize instOut t [.mk (oo 0) (hh 0) (kk 0) (ts 0)] = o1 at cI1 hst
  generalize instOut t l = o2 at cI2 hst
  generalize substOut t 0 (.mk (oo 0) (hh 0) (kk 0) (ts 0)) (.mk cn Ss) = o5 at cM cS
  obtain ⟨T1, e1⟩ := o1
  obtain ⟨T2, e2⟩ := o2
  obtain ⟨T5, e5⟩ := o5
  have cI3 := fun (v1 vd : Value) (wx : World) (f1 : T1.fit) (hb : Lies wx (fun _ => True) v1 T1.args) (hd : Lies wx (fun _ => True) vd (l.drop 1)) => instF_any T1 (l.drop 1) v1 vd wx hb hd f1
  generalize instOut T1 (l.drop 1) = o3 at cI3 hst
  obtain ⟨T3, e3⟩ := o3
  simp only at hst
  simp only [show (Tm.mk (oo 0) (hh 0) (kk 0) (ts 0)).op = oo 0 from rfl, show (Tm.mk (oo 0) (hh 0) (kk 0) (ts 0)).hd = hh 0 from rfl, show (Tm.mk (oo 0) (hh 0) (kk 0) (ts 0)).n = kk 0 from rfl] at cS
  rw [hs2] at cS
  have HR := Lib.hid R
  have HO := Lib.hid ho
  have HS2 := Lib.hid hs2
  have HF0 := Lib.hid f0
  have HRC := Lib.hid rcn
  have HLS0 := Lib.hid lS
  have HST := Lib.hid hst
  obtain ⟨x0, x1, x2, x3⟩ := c4_of h2.1
  have hz1 : ((len : Int) == 0) = false := by simp; omega
  have hz2 : (0 : Int) < (len : Int) := by omega
  have hz3 : (len : Int) ≤ 600 := by omega
  have HC1 := Lib.hid cI1
  have HC2 := Lib.hid cI2
  have HC3 := Lib.hid cI3
  have HCM := Lib.hid cM
  have HCS := Lib.hid cS
  clear cI1 cI2 cI3 cM cS
  clear lt ll lS hpt ho rcn hg0 hl0 ho0 hst h2 hb2 ft f0 R hs2
  go_enter Try.func13, Try.ntmps13
  go_wp2_with fail
  refine cP.mono ?_
  rintro e w1 ⟨rfl, hb1⟩
  have HV1 := Lib.hid (HV.out.keep hb1)
  clear x0 x1 x2 x3 hb1 cP HV
  go_wp2_with fail
  go_loopw [34] (fun i wr => ∃ j : Nat, j ≤ len ∧ i = .int .i64 j ∧ StV w wr t (.slice a1 n1 m1) (.slice a3 n3 m3) cn) (fun i _ => len - (intOf i).toNat)
  case atStart => exact ⟨0, Nat.zero_le _, rfl, HV1.out⟩
  case round =>
  obtain ⟨j, hj, rfl, V⟩ := hrel
  by_cases hlt : j < len
  · obtain ⟨d0, d1, d2, d3, hsub⟩ := HR.out.at V.below j hlt
    obtain ⟨a5, n5, m5, hs5⟩ := hsub.isSlice
    rw [hs5] at d3 hsub
    clear hs5
    have hj0 : (0 : Int) ≤ (j : Int) := by omega
    have hj1 : (j : Int) < (len : Int) := by omega
    have hpj := HO.out _ (HR.out.mem j hlt)
    have call := proper_any (fun _ => True) (oo j) (hh j) (kk j) (.slice a5 n5 m5) (ts j) wr hsub
    rw [hpj] at call
    have HVW := Lib.hid V
    clear V hpj hsub
    go_wp2_with fail
    refine call.mono ?_
    rintro e w2 ⟨rfl, hb2⟩
    have HVX := Lib.hid (HVW.out.keep hb2)
    clear hb2 call d0 d1 d2 d3
    go_wp2_with fail
    go_roundw
    case rel => exact ⟨j + 1, by omega, by go_num, HVX.out⟩
    case measure => simp [intOf]; omega
  obtain rfl : j = len := by omega
  have hj1 : ¬ (j : Int) < (j : Int) := by omega
  obtain ⟨d0, d1, d2, d3, hsub0⟩ := HR.out.at V.below 0 h0
  rw [HS2.out] at d3
  simp only [Nat.zero_mul, Nat.add_zero] at d0 d1 d2 d3
  have hS0 : CellsG wr w.heap.size b off (.int .i64 t.op) (.int .i64 t.hd) (.int .i64 t.n) (.slice a1 n1 m1) (.int .i64 (oo 0)) (.int .i64 (hh 0)) (.int .i64 (kk 0)) (.slice a2 n2 m2) := ⟨(c4_of V.hX).1, (c4_of V.hX).2.1, (c4_of V.hX).2.2.1, (c4_of V.hX).2.2.2, d0, d1, d2, d3⟩
  have hdr : Below wr.heap.size wr wr.drew := (Below.refl _ _).drew
  have hS1 := cellsG_below hdr hS0
  have HLT : Hid (w.heap.size < wr.heap.size ∧ b < wr.heap.size) := Lib.hid ⟨lt_blk V.hX, World.block_lt_of_cell? _ _ d0⟩
  rw [HS2.out] at hsub0
  have HL0 := Lib.hid hsub0
  have cJ1 := fun (vd : Value) (wx : World) (hb : Below wr.heap.size wr wx) (hd : Lies wx (fun _ => True) vd [.mk (oo 0) (hh 0) (kk 0) (ts 0)]) => gE (HC1.out vd wx (below_next V.below hb) hd)
  have HVW := Lib.hid V
  clear V hsub0 d0 d1 d2 d3
  go_upto_region 9 with fail
  go_cut [8, 9] from 45 to 53 (fun p e wx => ∃ B b n m, p = .pointer (some ⟨B, 0, none⟩) ∧ e = .int .i64 e1 ∧ TBox wx B T1 (.slice b n m) ∧ Below wr.heap.size wr wx)
  case first =>
    go_region_held3 (fun W => CellsG W w.heap.size b off (.int .i64 t.op) (.int .i64 t.hd) (.int .i64 t.n) (.slice a1 n1 m1) (.int .i64 (oo 0)) (.int .i64 (hh 0)) (.int .i64 (kk 0)) (.slice a2 n2 m2))
      (first | (with_reducible exact hS1) | (with_reducible exact hcn) | (with_reducible exact cellsG_below (one_below _ _) (by assumption)) | (refine cellsG_four ?_ hcn; (have h1 := HLT.out; (try have h2 := HS9.out); omega)) | fail)
      (first | (go_at_call 23; (with_reducible refine (cJ1 _ _ ?_ ?_).mono ?_); (focus (repeat (first | (with_reducible assumption) | (with_reducible exact Below.refl _ _) | (with_reducible refine Below.drew ?_) | (with_reducible refine below_next ?_ (one_below _ _))))); (focus ((refine lies_single (e := 24) trivial ?_ HF0.out (HL0.out.keep ?_)); (focus ((repeat (first | (refine blk_new ?_; focus (first | rfl | (simp; done))) | (with_reducible refine blk_kept ?_) | (with_reducible refine blk_drew ?_))); done)); (focus (repeat (first | (with_reducible assumption) | (with_reducible exact Below.refl _ _) | (with_reducible refine Below.drew ?_) | (with_reducible refine below_next ?_ (one_below _ _))))))); rintro e w10 ⟨a10, n10, m10, rfl, hb10, hx10⟩; have hd10 : Below wr.heap.size wr w10 := below_next (by (focus (repeat (first | (with_reducible assumption) | (with_reducible exact Below.refl _ _) | (with_reducible refine Below.drew ?_) | (with_reducible refine below_next ?_ (one_below _ _)))))) hb10; have hcn := cellsG_below hd10 hS0; (first | ((refine use_fact (old_new (ob := (.cells #[.int .i64 0, .int .i64 0, .int .i64 0, .slice none 0 0] 24 (0, 0))) (k := wr.heap.size + 1) hb10 ?_) (fun hz11 => ?_)); (focus ((repeat (first | (refine blk_new ?_; focus (first | rfl | (simp; done))) | (with_reducible refine blk_kept ?_) | (with_reducible refine blk_drew ?_))); done)); have hz10 := Lib.hid hz11.1; have hl10 := Lib.hid hz11.2; clear hz11; obtain ⟨y0, y1, y2, y3⟩ := c4_of hz10.out; have f0 := free_in hz10.out 0; have f1 := free_in hz10.out 1; have f2 := free_in hz10.out 2; have f3 := free_in hz10.out 3) | ((refine use_fact (old_new (ob := (.cells #[.int .i64 0, .int .i64 0, .int .i64 0, .slice none 0 0] 24 (0, 0))) (k := wr.heap.size) hb10 ?_) (fun hz11 => ?_)); (focus ((repeat (first | (refine blk_new ?_; focus (first | rfl | (simp; done))) | (with_reducible refine blk_kept ?_) | (with_reducible refine blk_drew ?_))); done)); have hz10 := Lib.hid hz11.1; have hl10 := Lib.hid hz11.2; clear hz11; obtain ⟨y0, y1, y2, y3⟩ := c4_of hz10.out; have f0 := free_in hz10.out 0; have f1 := free_in hz10.out 1; have f2 := free_in hz10.out 2; have f3 := free_in hz10.out 3) | skip)) | fail)
    all_goals
      go_wp2_with fail
      go_meet
      case rel =>
        first
          | ((with_reducible refine ⟨_, _, _, _, rfl, rfl, ⟨heap_alloc_new w10 _, ?_⟩, ?_⟩)
             · exact (hx10.keep (one_below _ _)).more fun _ _ _ => trivial
             · exact below_next hd10 (one_below _ _))
          | ((with_reducible refine ⟨_, _, _, _, rfl, rfl, ⟨set4_at hz10.out _ _ _ _, ?_⟩, ?_⟩)
             have hl := hl10.out
             (try have h2 := HS9.out)
             · refine (hx10.still fun b hS _ => set4_other _ _ _ _ ?_).more fun _ _ _ => trivial
               have hS' : _ ≤ b := hS
               omega
             · (try have h2 := HS9.out)
               exact below_set4 hd10 (by omega) _ _ _ _)
          | fail
  case rest =>
  obtain ⟨B1, b1, nb1, mb1, rfl, rfl, X1, hB1⟩ := hcut
  rename World => W1
  have V := HVW.out.keep hB1
  have HRW : Hid (RowAt W1 (fun _ => True) (some ⟨b, off, none⟩) b off j cap oo hh kk sv ts l) := Lib.hid (HR.out.still fun b _ hlt => V.below.block b hlt)
  have hdr1 : Below W1.heap.size W1 W1.drew := (Below.refl _ _).drew
  have hS0' : CellsT4 W1 w.heap.size t.op t.hd t.n (.slice a1 n1 m1) := c4_of V.hX
  have HX1 := Lib.hid X1
  have HLT1 : Hid (w.heap.size < W1.heap.size) := Lib.hid (lt_blk V.hX)
  have cJ2 := fun (vd : Value) (wx : World) (hb : Below W1.heap.size W1 wx) (hd : Lies wx (fun _ => True) vd l) => gE (HC2.out vd wx (below_next V.below hb) hd)
  have HVW1 := Lib.hid V
  obtain ⟨i0, hi0, hz0, hz1', hz2'⟩ := info_parts tm_info
  have HI0 := Lib.hid hi0
  have HZ0 := Lib.hid hz0
  have hj6 : j ≤ 1048576 := by omega
  clear hS0 hS1 hdr V X1 HVW HL0 hB1 hi0 hz0 cJ1
  have hS0 := hS0'
  have hS1 := cellsT4_below hdr1 hS0
  clear hS0'
  go_upto_region 10 with fail
  go_cut [10, 11] from 54 to 61 (fun p e wx => ∃ B b n m, p = .pointer (some ⟨B, 0, none⟩) ∧ e = .int .i64 e2 ∧ TBox wx B T2 (.slice b n m) ∧ Below W1.heap.size W1 wx)
  case first =>
    go_region_held3 (fun W => CellsT4 W w.heap.size t.op t.hd t.n (.slice a1 n1 m1))
      (first | (with_reducible exact hS1) | (with_reducible exact hcn) | (with_reducible exact cellsT4_below (one_below _ _) (by assumption)) | (refine cellsT4_four ?_ hcn; (have h1 := HLT1.out; (try have h2 := HS9.out); omega)) | fail)
      (first | (refine step_copy (by rfl) _ _ (by rfl) i0 _ HI0.out HZ0.out hz1' hz2' rfl _ (by rfl) (by rfl) HRW.out ?_ hj6 ?_; (focus (repeat (first | (with_reducible assumption) | (with_reducible exact Below.refl _ _) | (with_reducible refine Below.drew ?_) | (with_reducible refine below_next ?_ (one_below _ _))))); intro g9 cap9 w9 hb9 hd9 hL9; (first | ((refine use_fact (old_new (ob := (.cells #[.int .i64 0, .int .i64 0, .int .i64 0, .slice none 0 0] 24 (0, 0))) (k := W1.heap.size + 1) hb9 ?_) (fun hz11 => ?_)); (focus ((repeat (first | (refine blk_new ?_; focus (first | rfl | (simp; done))) | (with_reducible refine blk_kept ?_) | (with_reducible refine blk_drew ?_))); done)); have hzz := Lib.hid hz11.1; clear hz11) | ((refine use_fact (old_new (ob := (.cells #[.int .i64 0, .int .i64 0, .int .i64 0, .slice none 0 0] 24 (0, 0))) (k := W1.heap.size) hb9 ?_) (fun hz11 => ?_)); (focus ((repeat (first | (refine blk_new ?_; focus (first | rfl | (simp; done))) | (with_reducible refine blk_kept ?_) | (with_reducible refine blk_drew ?_))); done)); have hzz := Lib.hid hz11.1; clear hz11) | skip); have hcn := cellsT4_below hd9 hS0; have HS9 := Lib.hid hd9.size) | (go_at_call 23; (with_reducible refine (cJ2 _ _ ?_ ?_).mono ?_); (focus (repeat (first | (with_reducible assumption) | (with_reducible exact Below.refl _ _) | (with_reducible refine Below.drew ?_) | (with_reducible refine below_next ?_ (one_below _ _))))); (first | exact hL9 | exact hL9.keep (one_below _ _)); rintro e w10 ⟨a10, n10, m10, rfl, hb10, hx10⟩; have hd10 : Below W1.heap.size W1 w10 := below_next (by (focus (repeat (first | (with_reducible assumption) | (with_reducible exact Below.refl _ _) | (with_reducible refine Below.drew ?_) | (with_reducible refine below_next ?_ (one_below _ _)))))) hb10; have hcn := cellsT4_below hd10 hS0; (first | ((refine use_fact (old_new hb10 hzz.out) (fun hz11 => ?_)); have hz10 := Lib.hid hz11.1; have hl10 := Lib.hid hz11.2; clear hz11; obtain ⟨y0, y1, y2, y3⟩ := c4_of hz10.out; have f0 := free_in hz10.out 0; have f1 := free_in hz10.out 1; have f2 := free_in hz10.out 2; have f3 := free_in hz10.out 3) | ((refine use_fact (old_new (ob := (.cells #[.int .i64 0, .int .i64 0, .int .i64 0, .slice none 0 0] 24 (0, 0))) (k := w9.heap.size) hb10 ?_) (fun hz11 => ?_)); (focus ((repeat (first | (refine blk_new ?_; focus (first | rfl | (simp; done))) | (with_reducible refine blk_kept ?_) | (with_reducible refine blk_drew ?_))); done)); have hz10 := Lib.hid hz11.1; have hl10 := Lib.hid hz11.2; clear hz11; obtain ⟨y0, y1, y2, y3⟩ := c4_of hz10.out; have f0 := free_in hz10.out 0; have f1 := free_in hz10.out 1; have f2 := free_in hz10.out 2; have f3 := free_in hz10.out 3) | skip)) | fail)
    all_goals
      go_wp2_with fail
      go_meet
      case rel =>
        first
          | ((with_reducible refine ⟨_, _, _, _, rfl, rfl, ⟨heap_alloc_new w10 _, ?_⟩, ?_⟩)
             · exact (hx10.keep (one_below _ _)).more fun _ _ _ => trivial
             · exact below_next hd10 (one_below _ _))
          | ((with_reducible refine ⟨_, _, _, _, rfl, rfl, ⟨set4_at hz10.out _ _ _ _, ?_⟩, ?_⟩)
             have hl := hl10.out
             (try have h2 := HS9.out)
             · refine (hx10.still fun b hS _ => set4_other _ _ _ _ ?_).more fun _ _ _ => trivial
               have hS' : _ ≤ b := hS
               omega
             · (try have h2 := HS9.out)
               exact below_set4 hd10 (by omega) _ _ _ _)
          | fail
  case rest =>
  obtain ⟨B2, b2, nb2, mb2, rfl, rfl, X2, hB2⟩ := hcut
  rename World => W2
  have V := HVW1.out.keep hB2
  have HX2 := Lib.hid X2
  have HX12 := Lib.hid (HX1.out.keep hB2)
  have HVW2 := Lib.hid V
  clear V X2 hS0 hS1 hdr1 HVW1 HX1 hB2 cJ2 HRW
  rcases HST.out with ⟨he, hee⟩ | ⟨rfl, hp1, hrest⟩
  · obtain rfl := hee
    have he1 : (e2 != 0) = true := by simp [he]
    have he2 : ¬ e2 = 0 := he
    clear he
    go_wp2_with fail
    refine (awake_any _).mono ?_
    rintro e w99 ⟨rfl, hb99⟩
    go_wp2_with fail
    go_ret
    exact ⟨rfl, below_next HVW2.out.below hb99⟩
  · have V := HVW2.out
    have hfit1 := fit_of hp1
    have HX1b := HX12
    have hS0 : CellsT4 W2 B1 T1.op T1.hd T1.n (.slice b1 nb1 mb1) := c4_of HX12.out.h
    have hdr2 : Below W2.heap.size W2 W2.drew := (Below.refl _ _).drew
    have hS1 := cellsT4_below hdr2 hS0
    have HLT2 : Hid (B1 < W2.heap.size) := Lib.hid (lt_blk HX12.out.h)
    have HRX : Hid (RowAt W2 (fun _ => True) (some ⟨b, off, none⟩) b off j cap oo hh kk sv ts l) := Lib.hid (HR.out.still fun b _ hlt => V.below.block b hlt)
    have cJ3 := fun (vd : Value) (wx : World) (hb : Below W2.heap.size W2 wx) (hd : Lies wx (fun _ => True) vd (l.drop 1)) => gE (HC3.out (.slice b1 nb1 mb1) vd wx hfit1 (HX12.out.l.keep hb) hd)
    have hj16 : j - 1 ≤ 1048576 := by omega
    have h1j : (1 : Int) ≤ (j : Int) := by omega
    have hjc : (j : Int) ≤ (cap : Int) := by omega
    clear V hp1 hfit1 HX1b
    go_upto_region 13 with fail
    go_cut [12, 13] from 70 to 78 (fun p e wx => ∃ B b n m, p = .pointer (some ⟨B, 0, none⟩) ∧ e = .int .i64 e3 ∧ TBox wx B T3 (.slice b n m) ∧ Below W2.heap.size W2 wx)
    case first =>
      by_cases hc1 : cap = 1
      · subst hc1
        obtain rfl : j = 1 := by omega
        have HRD : Hid (RowAt W2 (fun _ => True) (some ⟨b, off, none⟩) b (off + 1 * 4) 0 0 (fun i => oo (i + 1)) (fun i => hh (i + 1)) (fun i => kk (i + 1)) (fun i => sv (i + 1)) (fun i => ts (i + 1)) (l.drop 1)) :=
          Lib.hid (tmDrop (ao' := some ⟨b, off, none⟩) HRX.out (m := 1) (by omega) fun h => by omega)
        have hj16 : 0 ≤ 1048576 := by omega
        go_region_held3 (fun W => CellsT4 W B1 T1.op T1.hd T1.n (.slice b1 nb1 mb1))
          (first | (with_reducible exact hS1) | (with_reducible exact hcn) | (with_reducible exact cellsT4_below (one_below _ _) (by assumption)) | (refine cellsT4_four ?_ hcn; (have h1 := HLT2.out; (try have h2 := HS9.out); omega)) | fail)
          (first | (refine step_copy (by rfl) _ _ (by rfl) i0 _ HI0.out HZ0.out hz1' hz2' rfl _ (by rfl) (by rfl) HRD.out ?_ hj16 ?_; (focus (repeat (first | (with_reducible assumption) | (with_reducible exact Below.refl _ _) | (with_reducible refine Below.drew ?_) | (with_reducible refine below_next ?_ (one_below _ _))))); intro g9 cap9 w9 hb9 hd9 hL9; (first | ((refine use_fact (old_new (ob := (.cells #[.int .i64 0, .int .i64 0, .int .i64 0, .slice none 0 0] 24 (0, 0))) (k := W2.heap.size + 1) hb9 ?_) (fun hz11 => ?_)); (focus ((repeat (first | (refine blk_new ?_; focus (first | rfl | (simp; done))) | (with_reducible refine blk_kept ?_) | (with_reducible refine blk_drew ?_))); done)); have hzz := Lib.hid hz11.1; clear hz11) | ((refine use_fact (old_new (ob := (.cells #[.int .i64 0, .int .i64 0, .int .i64 0, .slice none 0 0] 24 (0, 0))) (k := W2.heap.size) hb9 ?_) (fun hz11 => ?_)); (focus ((repeat (first | (refine blk_new ?_; focus (first | rfl | (simp; done))) | (with_reducible refine blk_kept ?_) | (with_reducible refine blk_drew ?_))); done)); have hzz := Lib.hid hz11.1; clear hz11) | skip); have hcn := cellsT4_below hd9 hS0; have HS9 := Lib.hid hd9.size) | (go_at_call 23; (with_reducible refine (cJ3 _ _ ?_ ?_).mono ?_); (focus (repeat (first | (with_reducible assumption) | (with_reducible exact Below.refl _ _) | (with_reducible refine Below.drew ?_) | (with_reducible refine below_next ?_ (one_below _ _))))); (first | exact hL9 | exact hL9.keep (one_below _ _)); rintro e w10 ⟨a10, n10, m10, rfl, hb10, hx10⟩; have hd10 : Below W2.heap.size W2 w10 := below_next (by (focus (repeat (first | (with_reducible assumption) | (with_reducible exact Below.refl _ _) | (with_reducible refine Below.drew ?_) | (with_reducible refine below_next ?_ (one_below _ _)))))) hb10; have hcn := cellsT4_below hd10 hS0; (first | ((refine use_fact (old_new hb10 hzz.out) (fun hz11 => ?_)); have hz10 := Lib.hid hz11.1; have hl10 := Lib.hid hz11.2; clear hz11; obtain ⟨y0, y1, y2, y3⟩ := c4_of hz10.out; have f0 := free_in hz10.out 0; have f1 := free_in hz10.out 1; have f2 := free_in hz10.out 2; have f3 := free_in hz10.out 3) | ((refine use_fact (old_new (ob := (.cells #[.int .i64 0, .int .i64 0, .int .i64 0, .slice none 0 0] 24 (0, 0))) (k := w9.heap.size) hb10 ?_) (fun hz11 => ?_)); (focus ((repeat (first | (refine blk_new ?_; focus (first | rfl | (simp; done))) | (with_reducible refine blk_kept ?_) | (with_reducible refine blk_drew ?_))); done)); have hz10 := Lib.hid hz11.1; have hl10 := Lib.hid hz11.2; clear hz11; obtain ⟨y0, y1, y2, y3⟩ := c4_of hz10.out; have f0 := free_in hz10.out 0; have f1 := free_in hz10.out 1; have f2 := free_in hz10.out 2; have f3 := free_in hz10.out 3) | skip)) | fail)
        all_goals
          go_wp2_with fail
          go_meet
          case rel =>
            first
              | ((with_reducible refine ⟨_, _, _, _, rfl, rfl, ⟨heap_alloc_new w10 _, ?_⟩, ?_⟩)
                 · exact (hx10.keep (one_below _ _)).more fun _ _ _ => trivial
                 · exact below_next hd10 (one_below _ _))
              | ((with_reducible refine ⟨_, _, _, _, rfl, rfl, ⟨set4_at hz10.out _ _ _ _, ?_⟩, ?_⟩)
                 have hl := hl10.out
                 (try have h2 := HS9.out)
                 · refine (hx10.still fun b hS _ => set4_other _ _ _ _ ?_).more fun _ _ _ => trivial
                   have hS' : _ ≤ b := hS
                   omega
                 · (try have h2 := HS9.out)
                   exact below_set4 hd10 (by omega) _ _ _ _)
              | fail
      · have HRD : Hid (RowAt W2 (fun _ => True) (some ⟨b, off + 4, none⟩) b (off + 1 * 4) (j - 1) (cap - 1) (fun i => oo (i + 1)) (fun i => hh (i + 1)) (fun i => kk (i + 1)) (fun i => sv (i + 1)) (fun i => ts (i + 1)) (l.drop 1)) :=
          Lib.hid (tmDrop (ao' := some ⟨b, off + 4, none⟩) HRX.out (m := 1) (by omega) fun h => rfl)
        go_region_held3 (fun W => CellsT4 W B1 T1.op T1.hd T1.n (.slice b1 nb1 mb1))
          (first | (with_reducible exact hS1) | (with_reducible exact hcn) | (with_reducible exact cellsT4_below (one_below _ _) (by assumption)) | (refine cellsT4_four ?_ hcn; (have h1 := HLT2.out; (try have h2 := HS9.out); omega)) | fail)
          (first | (refine step_copy (by rfl) _ _ (by rfl) i0 _ HI0.out HZ0.out hz1' hz2' rfl _ (by rfl) (by rfl) HRD.out ?_ hj16 ?_; (focus (repeat (first | (with_reducible assumption) | (with_reducible exact Below.refl _ _) | (with_reducible refine Below.drew ?_) | (with_reducible refine below_next ?_ (one_below _ _))))); intro g9 cap9 w9 hb9 hd9 hL9; (first | ((refine use_fact (old_new (ob := (.cells #[.int .i64 0, .int .i64 0, .int .i64 0, .slice none 0 0] 24 (0, 0))) (k := W2.heap.size + 1) hb9 ?_) (fun hz11 => ?_)); (focus ((repeat (first | (refine blk_new ?_; focus (first | rfl | (simp; done))) | (with_reducible refine blk_kept ?_) | (with_reducible refine blk_drew ?_))); done)); have hzz := Lib.hid hz11.1; clear hz11) | ((refine use_fact (old_new (ob := (.cells #[.int .i64 0, .int .i64 0, .int .i64 0, .slice none 0 0] 24 (0, 0))) (k := W2.heap.size) hb9 ?_) (fun hz11 => ?_)); (focus ((repeat (first | (refine blk_new ?_; focus (first | rfl | (simp; done))) | (with_reducible refine blk_kept ?_) | (with_reducible refine blk_drew ?_))); done)); have hzz := Lib.hid hz11.1; clear hz11) | skip); have hcn := cellsT4_below hd9 hS0; have HS9 := Lib.hid hd9.size) | (go_at_call 23; (with_reducible refine (cJ3 _ _ ?_ ?_).mono ?_); (focus (repeat (first | (with_reducible assumption) | (with_reducible exact Below.refl _ _) | (with_reducible refine Below.drew ?_) | (with_reducible refine below_next ?_ (one_below _ _))))); (first | exact hL9 | exact hL9.keep (one_below _ _)); rintro e w10 ⟨a10, n10, m10, rfl, hb10, hx10⟩; have hd10 : Below W2.heap.size W2 w10 := below_next (by (focus (repeat (first | (with_reducible assumption) | (with_reducible exact Below.refl _ _) | (with_reducible refine Below.drew ?_) | (with_reducible refine below_next ?_ (one_below _ _)))))) hb10; have hcn := cellsT4_below hd10 hS0; (first | ((refine use_fact (old_new hb10 hzz.out) (fun hz11 => ?_)); have hz10 := Lib.hid hz11.1; have hl10 := Lib.hid hz11.2; clear hz11; obtain ⟨y0, y1, y2, y3⟩ := c4_of hz10.out; have f0 := free_in hz10.out 0; have f1 := free_in hz10.out 1; have f2 := free_in hz10.out 2; have f3 := free_in hz10.out 3) | ((refine use_fact (old_new (ob := (.cells #[.int .i64 0, .int .i64 0, .int .i64 0, .slice none 0 0] 24 (0, 0))) (k := w9.heap.size) hb10 ?_) (fun hz11 => ?_)); (focus ((repeat (first | (refine blk_new ?_; focus (first | rfl | (simp; done))) | (with_reducible refine blk_kept ?_) | (with_reducible refine blk_drew ?_))); done)); have hz10 := Lib.hid hz11.1; have hl10 := Lib.hid hz11.2; clear hz11; obtain ⟨y0, y1, y2, y3⟩ := c4_of hz10.out; have f0 := free_in hz10.out 0; have f1 := free_in hz10.out 1; have f2 := free_in hz10.out 2; have f3 := free_in hz10.out 3) | skip)) | fail)
        all_goals
          go_wp2_with fail
          go_meet
          case rel =>
            first
              | ((with_reducible refine ⟨_, _, _, _, rfl, rfl, ⟨heap_alloc_new w10 _, ?_⟩, ?_⟩)
                 · exact (hx10.keep (one_below _ _)).more fun _ _ _ => trivial
                 · exact below_next hd10 (one_below _ _))
              | ((with_reducible refine ⟨_, _, _, _, rfl, rfl, ⟨set4_at hz10.out _ _ _ _, ?_⟩, ?_⟩)
                 have hl := hl10.out
                 (try have h2 := HS9.out)
                 · refine (hx10.still fun b hS _ => set4_other _ _ _ _ ?_).more fun _ _ _ => trivial
                   have hS' : _ ≤ b := hS
                   omega
                 · (try have h2 := HS9.out)
                   exact below_set4 hd10 (by omega) _ _ _ _)
              | fail

    case rest =>
    obtain ⟨B3, b3, nb3, mb3, rfl, rfl, X3, hB3⟩ := hcut
    rename World => W3
    have HV3 := Lib.hid (HVW2.out.keep hB3)
    have HX2' := Lib.hid (HX2.out.keep hB3)
    have HX3 := Lib.hid X3
    obtain ⟨x0, x1, x2, x3⟩ := c4_of HX2'.out.h
    obtain ⟨y0, y1, y2, y3⟩ := c4_of X3.h
    clear X3 hB3 hS0 hS1 hdr2 cJ3
    go_upto_region 14 with fail
    go_cut [98] from 79 to 98 (fun p wx => p = .bool false ∧ Below W3.heap.size W3 wx)
    case first =>
      rcases hrest with h3 | ⟨rfl, rfl | ⟨rfl, rfl⟩⟩
      · have h3' : (e3 == 0) = false := by simp [h3]
        go_wp2_with fail
        go_meet
        case rel => exact ⟨rfl, Below.refl _ _⟩
      · go_wp2_with fail
        go_meet
        case rel => exact ⟨rfl, Below.refl _ _⟩
      · have c6 := same_true (fun _ => True) (fun _ => True) T2 (.slice b2 nb2 mb2) (.slice b3 nb3 mb3) W3 HX2'.out.l HX3.out.l
        go_wp2_with fail
        refine c6.mono ?_
        rintro e w6 ⟨rfl, hb6⟩
        go_wp2_with fail
        go_meet
        case rel => exact ⟨rfl, hb6⟩
    case rest =>
    obtain ⟨rfl, hB4⟩ := hcut
    rename World => W4
    have V := HV3.out.keep hB4
    clear hB4 x0 x1 x2 x3 y0 y1 y2 y3 HX2' HX3 HX12 HX2 HVW2 HV3
    obtain ⟨d0, d1, d2, d3, hsub0⟩ := HR.out.at V.below 0 h0
    rw [HS2.out] at d3 hsub0
    simp only [Nat.zero_mul, Nat.add_zero] at d0 d1 d2 d3
    obtain ⟨⟨s0, s1⟩, _⟩ := cells2_of V.hS
    have hS0 : CellsS W4 w.heap.size b off (w.heap.size + 1) (.int .i64 t.op) (.int .i64 t.hd) (.int .i64 t.n) (.slice a1 n1 m1) (.int .i64 (oo 0)) (.int .i64 (hh 0)) (.int .i64 (kk 0)) (.slice a2 n2 m2) (.slice a3 n3 m3) (.int .i64 cn) := ⟨s0, s1, (c4_of V.hX).1, (c4_of V.hX).2.1, (c4_of V.hX).2.2.1, (c4_of V.hX).2.2.2, d0, d1, d2, d3⟩
    have hdr4 : Below W4.heap.size W4 W4.drew := (Below.refl _ _).drew
    have hS1 := cellsS_below hdr4 hS0
    have HLT4 : Hid (w.heap.size < W4.heap.size ∧ b < W4.heap.size ∧ w.heap.size + 1 < W4.heap.size) := Lib.hid ⟨lt_blk V.hX, World.block_lt_of_cell? _ _ d0, lt_blk V.hS⟩
    have HL0 := Lib.hid hsub0
    have HLS := Lib.hid (HLS0.out.keep V.below)
    have cJM := fun (vd ve : Value) (wx : World) (hb : Below W4.heap.size W4 wx) (hd : Lies wx (fun _ => True) vd [.mk (oo 0) (hh 0) (kk 0) (ts 0)]) (he : Sp.Lies wx (fun _ => True) ve [.mk cn Ss]) => gE (HCM.out vd ve wx (below_next V.below hb) hd he)
    have HV4 := Lib.hid V
    clear V hsub0 d0 d1 d2 d3 s0 s1 h1j hjc hj16
    go_upto_region 16 with fail
    go_cut [14, 15] from 99 to 109 (fun p e wx => ∃ B b n m, p = .pointer (some ⟨B, 0, none⟩) ∧ e = .int .i64 e5 ∧ TBox wx B T5 (.slice b n m) ∧ Below W4.heap.size W4 wx)
    case first =>
      go_region_held3 (fun W => CellsS W w.heap.size b off (w.heap.size + 1) (.int .i64 t.op) (.int .i64 t.hd) (.int .i64 t.n) (.slice a1 n1 m1) (.int .i64 (oo 0)) (.int .i64 (hh 0)) (.int .i64 (kk 0)) (.slice a2 n2 m2) (.slice a3 n3 m3) (.int .i64 cn))
        (first | (with_reducible exact hS1) | (with_reducible exact hcn) | (with_reducible exact cellsS_below (one_below _ _) (by assumption)) | (refine cellsS_four ?_ hcn; (have h1 := HLT4.out; (try have h2 := HS9.out); omega)) | fail)
        (first | (go_at_call 25; (with_reducible refine (cJM _ _ _ ?_ ?_ ?_).mono ?_); (focus (repeat (first | (with_reducible assumption) | (with_reducible exact Below.refl _ _) | (with_reducible refine Below.drew ?_) | (with_reducible refine below_next ?_ (one_below _ _))))); (focus ((refine lies_single (e := 24) trivial ?_ HF0.out (HL0.out.keep ?_)); (focus ((repeat (first | (refine blk_new ?_; focus (first | rfl | (simp; done))) | (with_reducible refine blk_kept ?_) | (with_reducible refine blk_drew ?_))); done)); (focus (repeat (first | (with_reducible assumption) | (with_reducible exact Below.refl _ _) | (with_reducible refine Below.drew ?_) | (with_reducible refine below_next ?_ (one_below _ _))))))); (focus ((refine simple_single (e := 27) trivial ?_ HRC.out (HLS.out.keep ?_)); (focus ((repeat (first | (refine blk_new ?_; focus (first | rfl | (simp; done))) | (with_reducible refine blk_kept ?_) | (with_reducible refine blk_drew ?_))); done)); (focus (repeat (first | (with_reducible assumption) | (with_reducible exact Below.refl _ _) | (with_reducible refine Below.drew ?_) | (with_reducible refine below_next ?_ (one_below _ _))))))); rintro e w10 ⟨a10, n10, m10, rfl, hb10, hx10⟩; have hd10 : Below W4.heap.size W4 w10 := below_next (by (focus (repeat (first | (with_reducible assumption) | (with_reducible exact Below.refl _ _) | (with_reducible refine Below.drew ?_) | (with_reducible refine below_next ?_ (one_below _ _)))))) hb10; have hcn := cellsS_below hd10 hS0; (first | ((refine use_fact (old_new (ob := (.cells #[.int .i64 0, .int .i64 0, .int .i64 0, .slice none 0 0] 24 (0, 0))) (k := W4.heap.size + 1 + 1) hb10 ?_) (fun hz11 => ?_)); (focus ((repeat (first | (refine blk_new ?_; focus (first | rfl | (simp; done))) | (with_reducible refine blk_kept ?_) | (with_reducible refine blk_drew ?_))); done)); have hz10 := Lib.hid hz11.1; have hl10 := Lib.hid hz11.2; clear hz11; obtain ⟨y0, y1, y2, y3⟩ := c4_of hz10.out; have f0 := free_in hz10.out 0; have f1 := free_in hz10.out 1; have f2 := free_in hz10.out 2; have f3 := free_in hz10.out 3) | ((refine use_fact (old_new (ob := (.cells #[.int .i64 0, .int .i64 0, .int .i64 0, .slice none 0 0] 24 (0, 0))) (k := W4.heap.size + 1) hb10 ?_) (fun hz11 => ?_)); (focus ((repeat (first | (refine blk_new ?_; focus (first | rfl | (simp; done))) | (with_reducible refine blk_kept ?_) | (with_reducible refine blk_drew ?_))); done)); have hz10 := Lib.hid hz11.1; have hl10 := Lib.hid hz11.2; clear hz11; obtain ⟨y0, y1, y2, y3⟩ := c4_of hz10.out; have f0 := free_in hz10.out 0; have f1 := free_in hz10.out 1; have f2 := free_in hz10.out 2; have f3 := free_in hz10.out 3) | ((refine use_fact (old_new (ob := (.cells #[.int .i64 0, .int .i64 0, .int .i64 0, .slice none 0 0] 24 (0, 0))) (k := W4.heap.size) hb10 ?_) (fun hz11 => ?_)); (focus ((repeat (first | (refine blk_new ?_; focus (first | rfl | (simp; done))) | (with_reducible refine blk_kept ?_) | (with_reducible refine blk_drew ?_))); done)); have hz10 := Lib.hid hz11.1; have hl10 := Lib.hid hz11.2; clear hz11; obtain ⟨y0, y1, y2, y3⟩ := c4_of hz10.out; have f0 := free_in hz10.out 0; have f1 := free_in hz10.out 1; have f2 := free_in hz10.out 2; have f3 := free_in hz10.out 3) | skip)) | fail)
      all_goals
        go_wp2_with fail
        go_meet
        case rel =>
          first
            | ((with_reducible refine ⟨_, _, _, _, rfl, rfl, ⟨heap_alloc_new w10 _, ?_⟩, ?_⟩)
               · exact (hx10.keep (one_below _ _)).more fun _ _ _ => trivial
               · exact below_next hd10 (one_below _ _))
            | ((with_reducible refine ⟨_, _, _, _, rfl, rfl, ⟨set4_at hz10.out _ _ _ _, ?_⟩, ?_⟩)
               have hl := hl10.out
               (try have h2 := HS9.out)
               · refine (hx10.still fun b hS _ => set4_other _ _ _ _ ?_).more fun _ _ _ => trivial
                 have hS' : _ ≤ b := hS
                 omega
               · (try have h2 := HS9.out)
                 exact below_set4 hd10 (by omega) _ _ _ _)
            | fail
    case rest =>
    obtain ⟨B5, b5, nb5, mb5, rfl, rfl, X5, hB5⟩ := hcut
    rename World => W5
    have V := HV4.out.keep hB5
    clear hS0 hS1 hdr4 HLT4 HL0 HLS HV4 cJM hB5
    obtain ⟨d0, d1, d2, d3, hsub0⟩ := HR.out.at V.below 0 h0
    rw [HS2.out] at d3
    simp only [Nat.zero_mul, Nat.add_zero] at d0 d1 d2 d3
    obtain ⟨⟨s0, s1⟩, _⟩ := cells2_of V.hS
    have hS0 : CellsS W5 w.heap.size b off (w.heap.size + 1) (.int .i64 t.op) (.int .i64 t.hd) (.int .i64 t.n) (.slice a1 n1 m1) (.int .i64 (oo 0)) (.int .i64 (hh 0)) (.int .i64 (kk 0)) (.slice a2 n2 m2) (.slice a3 n3 m3) (.int .i64 cn) := ⟨s0, s1, (c4_of V.hX).1, (c4_of V.hX).2.1, (c4_of V.hX).2.2.1, (c4_of V.hX).2.2.2, d0, d1, d2, d3⟩
    have hdr5 : Below W5.heap.size W5 W5.drew := (Below.refl _ _).drew
    have hS1 := cellsS_below hdr5 hS0
    have HLT5 : Hid (w.heap.size < W5.heap.size ∧ b < W5.heap.size ∧ w.heap.size + 1 < W5.heap.size) := Lib.hid ⟨lt_blk V.hX, World.block_lt_of_cell? _ _ d0, lt_blk V.hS⟩
    have cJS := fun (wx : World) (hb : Below W5.heap.size W5 wx) => gE (HCS.out wx (below_next V.below hb))
    have HV5 := Lib.hid V
    have HX5 := Lib.hid X5
    clear V X5 hsub0 d0 d1 d2 d3 s0 s1
    go_upto_region 17 with fail
    go_cut [16, 17] from 110 to 118 (fun p e wx => ∃ B b n m, p = .pointer (some ⟨B, 0, none⟩) ∧ e = .int .i64 e5 ∧ TBox wx B T5 (.slice b n m) ∧ Below W5.heap.size W5 wx)
    case first =>
      go_region_held3 (fun W => CellsS W w.heap.size b off (w.heap.size + 1) (.int .i64 t.op) (.int .i64 t.hd) (.int .i64 t.n) (.slice a1 n1 m1) (.int .i64 (oo 0)) (.int .i64 (hh 0)) (.int .i64 (kk 0)) (.slice a2 n2 m2) (.slice a3 n3 m3) (.int .i64 cn))
        (first | (with_reducible exact hS1) | (with_reducible exact hcn) | (with_reducible exact cellsS_below (one_below _ _) (by assumption)) | (refine cellsS_four ?_ hcn; (have h1 := HLT5.out; (try have h2 := HS9.out); omega)) | fail)
        (first | (go_at_call 14; (with_reducible refine (cJS _ ?_).mono ?_); (focus (repeat (first | (with_reducible assumption) | (with_reducible exact Below.refl _ _) | (with_reducible refine Below.drew ?_) | (with_reducible refine below_next ?_ (one_below _ _))))); rintro e w10 ⟨a10, n10, m10, rfl, hb10, hx10⟩; have hd10 : Below W5.heap.size W5 w10 := below_next (by (focus (repeat (first | (with_reducible assumption) | (with_reducible exact Below.refl _ _) | (with_reducible refine Below.drew ?_) | (with_reducible refine below_next ?_ (one_below _ _)))))) hb10; have hcn := cellsS_below hd10 hS0; (first | ((refine use_fact (old_new (ob := (.cells #[.int .i64 0, .int .i64 0, .int .i64 0, .slice none 0 0] 24 (0, 0))) (k := W5.heap.size) hb10 ?_) (fun hz11 => ?_)); (focus ((repeat (first | (refine blk_new ?_; focus (first | rfl | (simp; done))) | (with_reducible refine blk_kept ?_) | (with_reducible refine blk_drew ?_))); done)); have hz10 := Lib.hid hz11.1; have hl10 := Lib.hid hz11.2; clear hz11; obtain ⟨y0, y1, y2, y3⟩ := c4_of hz10.out; have f0 := free_in hz10.out 0; have f1 := free_in hz10.out 1; have f2 := free_in hz10.out 2; have f3 := free_in hz10.out 3) | skip)) | fail)
      all_goals
        go_wp2_with fail
        go_meet
        case rel =>
          first
            | ((with_reducible refine ⟨_, _, _, _, rfl, rfl, ⟨heap_alloc_new w10 _, ?_⟩, ?_⟩)
               · exact (hx10.keep (one_below _ _)).more fun _ _ _ => trivial
               · exact below_next hd10 (one_below _ _))
            | ((with_reducible refine ⟨_, _, _, _, rfl, rfl, ⟨set4_at hz10.out _ _ _ _, ?_⟩, ?_⟩)
               have hl := hl10.out
               (try have h2 := HS9.out)
               · refine (hx10.still fun b hS _ => set4_other _ _ _ _ ?_).more fun _ _ _ => trivial
                 have hS' : _ ≤ b := hS
                 omega
               · (try have h2 := HS9.out)
                 exact below_set4 hd10 (by omega) _ _ _ _)
            | fail
    case rest =>
    obtain ⟨B6, b6, nb6, mb6, rfl, rfl, X6, hB6⟩ := hcut
    rename World => W6
    have HV6 := Lib.hid (HV5.out.keep hB6)
    have X5' := HX5.out.keep hB6
    obtain ⟨x0, x1, x2, x3⟩ := c4_of X5'.h
    obtain ⟨y0, y1, y2, y3⟩ := c4_of X6.h
    have c7 := same_true (fun _ => True) (fun _ => True) T5 (.slice b5 nb5 mb5) (.slice b6 nb6 mb6) W6 X5'.l X6.l
    clear hS0 hS1 hdr5 HLT5 cJS hB6 X5' X6 HX5 HV5
    go_wp2_with fail
    refine c7.mono ?_
    rintro e w7 ⟨rfl, hb7⟩
    have HV7 := Lib.hid (below_next HV6.out.below hb7)
    clear x0 x1 x2 x3 y0 y1 y2 y3 hb7 c7
    go_wp2_with fail
    refine (awake_any _).mono ?_
    rintro e w99 ⟨rfl, hb99⟩
    go_wp2_with fail
    go_ret
    exact ⟨rfl, below_next HV7.out hb99⟩
end Go.Proofs.Ytieakippgeehgaa.Sb
