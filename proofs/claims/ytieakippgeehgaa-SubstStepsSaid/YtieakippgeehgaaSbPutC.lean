/- The contract of the reference's apply where it goes on. -/
import Derived.Test.YtieakippgeehgaaSbPutP
import Derived.Deep.DeepCutAuto
import Derived.BigRegion
import Derived.OwnWalk
namespace Go.Proofs.Ytieakippgeehgaa.Sb
open Go.RowKit
set_option linter.unusedSimpArgs false
set_option linter.unusedVariables false

theorem cellsPb_four {W : World} {X E R : Nat} {x0 x1 x2 x3 s0 s1 u0 u1 u2 u3 : Value} (h : X ≠ R ∧ E ≠ R) (x : CellsPb W X E x0 x1 x2 x3 s0 s1) : CellsPb ((((W.setCell ⟨R, 0, none⟩ u0).setCell ⟨R, 1, none⟩ u1).setCell ⟨R, 2, none⟩ u2).setCell ⟨R, 3, none⟩ u3) X E x0 x1 x2 x3 s0 s1 := by
  have go : ∀ k, k ≠ R → ∀ j u, W.cell? ⟨k, j, none⟩ = some u → ((((W.setCell ⟨R, 0, none⟩ u0).setCell ⟨R, 1, none⟩ u1).setCell ⟨R, 2, none⟩ u2).setCell ⟨R, 3, none⟩ u3).cell? ⟨k, j, none⟩ = some u := fun k hk j u e => by rw [World.cell?_of_block (w := W) (set4_other _ _ _ _ hk)]; exact e
  obtain ⟨y1, y2, y3, y4, y5, y6⟩ := x
  exact ⟨go _ h.1 _ _ y1, go _ h.1 _ _ y2, go _ h.1 _ _ y3, go _ h.1 _ _ y4, go _ h.2 _ _ y5, go _ h.2 _ _ y6⟩

set_option maxHeartbeats 8000000 in
set_option maxRecDepth 100000 in
theorem appR_step (C : Nat) (cn k1 : Int) (Ss1 Ss : List Sp.Tm) (Sf : Nat → Prop) (fh fk : Int) (tb : Tm) (fv lv Sv : Value) (a : Tm) (sp : List Tm) (c : Nat) (w : World) (hSf : ∀ b, w.heap.size ≤ b → Sf b) (hfC : ¬ Sf C) (hf : Lies w Sf fv [tb]) (hl : Lies w (· ≠ C) lv (a :: sp)) (hS : Sp.Lies w (· ≠ C) Sv (.mk k1 Ss1 :: Ss)) (hC : cntR C c w) (hc : c ≤ 20000)
    (hpb : Tm.proper tb = true) (hpa : Tm.proper a = true) (hpp : ∀ t ∈ sp, Tm.proper t = true) (hsp : sp.length ≤ 600)
    (ih : ∀ (av S1v : Value), PutROk C a av S1v k1 Ss1 tb) (ihT : AppROk C cn Ss) :
    Calls Try.prog 55 #[.pointer (some ⟨C, 0, none⟩), .agg #[.int .i64 3, .int .i64 fh, .int .i64 fk, fv], lv, .agg #[Sv, .int .i64 cn]] w (GivesR Sf w C (app (.mk k1 Ss1 :: Ss) (.mk 3 fh fk [tb]) (a :: sp) c)) := by
  have happ := app_cons (.mk k1 Ss1) Ss fh fk tb a [] sp c
  have hgood := put_good (.mk k1 Ss1) a 0 tb c hc hpb
  obtain ⟨ab, bb, boff, blen, bcap, boo, bhh, bkk, bsv, btt, rfl, BR⟩ := hf.open
  obtain rfl : blen = 1 := by have := BR.length; simpa using this.symm
  obtain rfl := BR.hao (by omega)
  obtain ⟨ap, pb, poff, plen, pcap, poo, phh, pkk, psv, ptt, rfl, PR⟩ := hl.open
  have hpe : plen = sp.length + 1 := by have := PR.length; simpa using this.symm
  have hp0 : 0 < plen := by omega
  obtain rfl := PR.hao (by omega)
  obtain ⟨aq, qb, qoff, qlen, qcap, sk, ssv, sts, rfl, SR⟩ := hS.open
  have hqe : qlen = Ss.length + 1 := by have := SR.length; simpa using this.symm
  have hq0 : 0 < qlen := by omega
  obtain rfl := SR.hao (by omega)
  have hbt : tb = .mk (boo 0) (bhh 0) (bkk 0) (btt 0) := by have := BR.get 0 (by omega); simpa using this
  have hat : a = .mk (poo 0) (phh 0) (pkk 0) (ptt 0) := by have := PR.get 0 (by omega); simpa using this
  have hst : Sp.Tm.mk k1 Ss1 = .mk (sk 0) (sts 0) := by have := SR.get 0 (by omega); simpa using this
  obtain ⟨rfl, rfl⟩ : k1 = sk 0 ∧ Ss1 = sts 0 := by injection hst with e1 e2; exact ⟨e1, e2⟩
  have hl3 := BR.hl
  have hr3 := BR.hr
  have hl4 := PR.hl
  have hr4 := PR.hr
  have hl5 := SR.hl
  have hr5 := SR.hr
  have h3 := three_all w #[.int .i64 3, .int .i64 fh, .int .i64 fk, .slice (some ⟨bb, boff, none⟩) 1 bcap] #[.slice (some ⟨qb, qoff, none⟩) qlen qcap, .int .i64 cn] #[.int .i64 0, .int .i64 0, .int .i64 0, .slice none 0 0] 24 27 24
  generalize hw0 : (((w.alloc (.cells #[.int .i64 3, .int .i64 fh, .int .i64 fk, .slice (some ⟨bb, boff, none⟩) 1 bcap] 24)).alloc (.cells #[.slice (some ⟨qb, qoff, none⟩) qlen qcap, .int .i64 cn] 27)).alloc (.cells #[.int .i64 0, .int .i64 0, .int .i64 0, .slice none 0 0] 24)) = w0 at h3
  obtain ⟨b0, b1, b2, b3, bsub⟩ := BR.at h3.2.2.2 0 (by omega)
  obtain ⟨p0, p1, p2, p3, psub⟩ := PR.at h3.2.2.2 0 (by omega)
  obtain ⟨q0, q1, qsub⟩ := SR.at h3.2.2.2 0 (by omega)
  obtain ⟨bv, hbv⟩ : ∃ v, bsv 0 = v := ⟨_, rfl⟩
  obtain ⟨pv, hpv⟩ : ∃ v, psv 0 = v := ⟨_, rfl⟩
  obtain ⟨qv, hqv⟩ : ∃ v, ssv 0 = v := ⟨_, rfl⟩
  rw [hbv] at b3 bsub
  rw [hpv] at p3 psub
  rw [hqv] at q0 qsub
  obtain ⟨a5, n5, m5, rfl⟩ := bsub.isSlice
  obtain ⟨a6, n6, m6, rfl⟩ := psub.isSlice
  obtain ⟨a7, n7, m7, rfl⟩ := qsub.isSlice
  simp only [Nat.zero_mul, Nat.add_zero] at b0 b1 b2 b3 p0 p1 p2 p3 q0 q1
  have hbC : bb ≠ C := fun e => hfC (e ▸ BR.hS (by omega))
  have hpC : pb ≠ C := PR.hS (by omega)
  have hqC : qb ≠ C := SR.hS (by omega)
  have hbw : bb < w.heap.size := World.block_lt_of_cell? w _ (BR.c0 0 (by omega))
  have hpw : pb < w.heap.size := World.block_lt_of_cell? w _ (PR.c0 0 (by omega))
  have hqw : qb < w.heap.size := World.block_lt_of_cell? w _ (SR.c0 0 (by omega))
  have hClt := lt_blk hC
  have hsz0 : w.heap.size + 1 + 1 + 1 ≤ w0.heap.size := by have := lt_blk h3.2.2.1; omega
  have hC0 := heap_kept h3.2.2.2 hC
  obtain ⟨x0, x1, x2, x3⟩ := c4_of h3.1
  have s0 := cell_in h3.2.1 0 _ rfl
  have hS0 : CellsPa w0 w.heap.size bb boff pb poff (w.heap.size + 1) qb qoff (.slice (some ⟨bb, boff, none⟩) 1 bcap) (.int .i64 (boo 0)) (.int .i64 (bhh 0)) (.int .i64 (bkk 0)) (.slice a5 n5 m5) (.int .i64 (poo 0)) (.int .i64 (phh 0)) (.int .i64 (pkk 0)) (.slice a6 n6 m6) (.slice (some ⟨qb, qoff, none⟩) qlen qcap) (.slice a7 n7 m7) (.int .i64 (sk 0)) :=
    ⟨x3, b0, b1, b2, b3, p0, p1, p2, p3, s0, q0, q1⟩
  have call : ∀ w1, Below w0.heap.size w0 w1 → Calls Try.prog 47 #[.pointer (some ⟨C, 0, none⟩), .agg #[.int .i64 (boo 0), .int .i64 (bhh 0), .int .i64 (bkk 0), .slice a5 n5 m5], .int .i64 0, .agg #[.int .i64 (poo 0), .int .i64 (phh 0), .int .i64 (pkk 0), .slice a6 n6 m6], .agg #[.slice a7 n7 m7, .int .i64 (sk 0)]] w1 (GivesR (w1.heap.size ≤ ·) w1 C (put (.mk (sk 0) (sts 0)) a 0 tb c)) := fun w1 hb => by
    have h := ih (.slice a6 n6 m6) (.slice a7 n7 m7) 0 c w1 (.slice a5 n5 m5) (by rw [hbt]; exact (bsub.more (S' := (· ≠ C)) fun b _ hS e => hfC (e ▸ hS)).keep hb) (by rw [hat]; exact psub.keep hb) (qsub.keep hb) (heap_kept hb hC0) hc (by omega) (by have := (Tm.proper_two hpb).1; omega) hpb
    have e1 : tb.op = boo 0 ∧ tb.hd = bhh 0 ∧ tb.n = bkk 0 := by rw [hbt]; exact ⟨rfl, rfl, rfl⟩
    have e2 : a.op = poo 0 ∧ a.hd = phh 0 ∧ a.n = pkk 0 := by rw [hat]; exact ⟨rfl, rfl, rfl⟩
    rw [e1.1, e1.2.1, e1.2.2, e2.1, e2.2.1, e2.2.2] at h
    exact h
  have HPT := Lib.hid (tmTail (ao' := if pcap = 1 then some ⟨pb, poff, none⟩ else some ⟨pb, poff + 4, none⟩) PR (by omega) (fun h => by rw [if_neg (by omega)]))
  have HQT := Lib.hid (spTail (ao' := if qcap = 1 then some ⟨qb, qoff, none⟩ else some ⟨qb, qoff + 2, none⟩) SR (by omega) (fun h => by rw [if_neg (by omega)]))
  simp only [List.tail_cons] at HPT HQT
  have HD : Hid (Below w0.heap.size w0 w0.drew ∧ Below w0.heap.size w0 (w0.alloc (.cells #[.int .i64 0, .int .i64 0, .int .i64 0, .slice none 0 0] 24)).drew ∧ (w0.alloc (.cells #[.int .i64 0, .int .i64 0, .int .i64 0, .slice none 0 0] 24)).drew.heap[w0.heap.size]? = some (.cells #[.int .i64 0, .int .i64 0, .int .i64 0, .slice none 0 0] 24 (0, 0)) ∧ w0.heap.size ≠ C) := Lib.hid ⟨(Below.refl _ _).drew, (one_below _ _).drew, heap_alloc_new w0 _, by omega⟩
  have HXX : Hid (w.heap.size ≠ w0.heap.size ∧ bb ≠ w0.heap.size ∧ pb ≠ w0.heap.size ∧ w.heap.size + 1 ≠ w0.heap.size ∧ qb ≠ w0.heap.size) := Lib.hid (by omega)
  have HCL : Hid (C < w0.heap.size) := Lib.hid (by omega)
  have HNE : Hid ((w.heap.size ≠ C ∧ bb ≠ C ∧ pb ≠ C ∧ w.heap.size + 1 ≠ C ∧ qb ≠ C) ∧ (w.heap.size < w0.heap.size ∧ bb < w0.heap.size ∧ pb < w0.heap.size ∧ w.heap.size + 1 < w0.heap.size ∧ qb < w0.heap.size)) := Lib.hid (by omega)
  have hlz : ((plen : Int) == 0) = false := by simp; omega
  have hlz2 : ((qlen : Int) == 0) = false := by simp; omega
  have H3 := Lib.hid h3
  have HSZ := Lib.hid hsz0
  have HAP := Lib.hid happ
  have hpl : (0 : Int) < (plen : Int) := by omega
  have hql : (0 : Int) < (qlen : Int) := by omega
  clear hf hl hS h3 BR PR SR happ bsub psub qsub b0 b1 b2 b3 p0 p1 p2 p3 q0 q1 hbC hpC hqC hbw hpw hqw hsz0 hC0 ih hbt hat hst hbv hpv hqv hpe hqe
  go_enter Try.func55, Try.ntmps55
  go_upto_region 5 with fail
  clear hw0
  rcases hres : put (.mk (sk 0) (sts 0)) a 0 tb c with ⟨x, c'⟩ | x
  · rw [hres] at hgood
    have call2 : ∀ w1, Below w0.heap.size w0 w1 → Calls Try.prog 47 #[.pointer (some ⟨C, 0, none⟩), .agg #[.int .i64 (boo 0), .int .i64 (bhh 0), .int .i64 (bkk 0), .slice a5 n5 m5], .int .i64 0, .agg #[.int .i64 (poo 0), .int .i64 (phh 0), .int .i64 (pkk 0), .slice a6 n6 m6], .agg #[.slice a7 n7 m7, .int .i64 (sk 0)]] w1 fun e w2 => ∃ a8 n8 m8, e = .returned (.tuple #[.agg #[.int .i64 x.op, .int .i64 x.hd, .int .i64 x.n, .slice a8 n8 m8], .int .i64 0]) ∧ Only C w1 w2 ∧ Only C w0 w2 ∧ cntR C c' w2 ∧ Lies w2 (w1.heap.size ≤ ·) (.slice a8 n8 m8) x.args := fun w1 hb => by
      have h := call w1 hb
      unfold GivesR at h
      rw [hres] at h
      refine h.mono fun e w2 hx => ?_
      obtain ⟨v6, rfl, ho, hc, L⟩ := hx
      obtain ⟨a8, n8, m8, rfl⟩ := L.isSlice
      exact ⟨a8, n8, m8, rfl, ho, (Only.below hb C).trans ho, hc, L⟩
    have HGD := Lib.hid hgood
    have hap : app (.mk (sk 0) (sts 0) :: Ss) (.mk 3 fh fk [tb]) (a :: sp) c = app Ss x sp c' := by rw [HAP.out, hres]
    have HA2 := Lib.hid hap
    clear hgood hres call hap x0 x1 x2 x3 s0
    go_cut [10, 11] (fun p e wx => ∃ X a8 n8 m8, p = .pointer (some ⟨X, 0, none⟩) ∧ e = .int .i64 0 ∧ PX w0 wx C X x (.slice a8 n8 m8) c')
    case first =>
      go_region_held3 (fun W => CellsPa W w.heap.size bb boff pb poff (w.heap.size + 1) qb qoff (.slice (some ⟨bb, boff, none⟩) 1 bcap) (.int .i64 (boo 0)) (.int .i64 (bhh 0)) (.int .i64 (bkk 0)) (.slice a5 n5 m5) (.int .i64 (poo 0)) (.int .i64 (phh 0)) (.int .i64 (pkk 0)) (.slice a6 n6 m6) (.slice (some ⟨qb, qoff, none⟩) qlen qcap) (.slice a7 n7 m7) (.int .i64 (sk 0)))
        (first | (with_reducible exact cellsPa_four HXX.out hcn) | (with_reducible exact hS0) | (with_reducible exact hcn) | (with_reducible exact cellsPa_below HD.out.1 hS0) | (with_reducible exact cellsPa_below HD.out.2.1 hS0) | (with_reducible exact cellsPa_below (one_below _ _) hcn) | (with_reducible exact cellsPa_below (one_below _ _) (by assumption)) | fail)
        (first
          | (go_at_call 47; (with_reducible refine (call2 _ ?_).mono ?_); (first | (with_reducible exact HD.out.1) | (with_reducible exact HD.out.2.1) | fail); rintro e w2 ⟨a8, n8, m8, rfl, ho2, ho3, hc2, L2⟩; have hcn := cellsPa_only HNE.out.1 HNE.out.2 ho3 hS0; have HPO := Lib.hid (And.intro ho3 (And.intro hc2 L2)); (clear hc2 L2); (first | ((refine use_fact (p := w2.heap[w0.heap.size]? = some (.cells #[.int .i64 0, .int .i64 0, .int .i64 0, .slice none 0 0] 24 (0, 0))) ?_ (fun zX => ?_)); (focus (with_reducible exact Only.keepBlock ho2 HD.out.2.2.1 HD.out.2.2.2)); obtain ⟨y0, y1, y2, y3⟩ := c4_of zX; have g0 := free_in zX 0; have g1 := free_in zX 1; have g2 := free_in zX 2; have g3 := free_in zX 3; have HZX := Lib.hid zX; (clear zX)) | skip))
          | fail)
      all_goals
        go_wp2_with fail
        go_meet
        case rel =>
          first
            | (refine ⟨_, _, _, _, rfl, rfl, PX.set HCL.out HPO.out.1 HPO.out.2.1 HZX.out (Nat.le_refl _) ?_⟩; exact HPO.out.2.2.more fun b hlt hS => ⟨by simp at hS; omega, by simp at hS; omega⟩)
            | (refine ⟨_, _, _, _, rfl, rfl, PX.new HCL.out HPO.out.1 HPO.out.2.1 ?_⟩; exact HPO.out.2.2)
            | fail
    case rest =>
      obtain ⟨X, a8, n8, m8, rfl, rfl, P⟩ := hcut
      have hoC := (Only.below H3.out.2.2.2 C).trans P.only
      have hszx := P.only.size
      have hbX := P.bX
      obtain ⟨y0, y1, y2, y3⟩ := c4_of P.hX
      have hE := Only.keepBlock P.only H3.out.2.1 (by omega)
      have hr := Only.keepBlock P.only H3.out.2.2.1 (by omega)
      have hB0 : CellsPb wc X (w.heap.size + 1) (.int .i64 x.op) (.int .i64 x.hd) (.int .i64 x.n) (.slice a8 n8 m8) (.slice (some ⟨qb, qoff, none⟩) qlen qcap) (.int .i64 cn) := ⟨y0, y1, y2, y3, cell_in hE 0 _ rfl, cell_in hE 1 _ rfl⟩
      have hgd := HGD.out
      have callA : ∀ w1, Below wc.heap.size wc w1 → Calls Try.prog 55 #[.pointer (some ⟨C, 0, none⟩), .agg #[.int .i64 x.op, .int .i64 x.hd, .int .i64 x.n, .slice a8 n8 m8], .slice (if pcap = 1 then some ⟨pb, poff, none⟩ else some ⟨pb, poff + 4, none⟩) (plen - 1) (pcap - 1), .agg #[.slice (if qcap = 1 then some ⟨qb, qoff, none⟩ else some ⟨qb, qoff + 2, none⟩) (qlen - 1) (qcap - 1), .int .i64 cn]] w1 (GivesR (fun b => Sf b ∧ b ≠ w.heap.size + 1 + 1) w1 C (app Ss x sp c')) := fun w1 hb =>
        ihT (fun b => Sf b ∧ b ≠ w.heap.size + 1 + 1) x _ _ _ sp c' w1 (fun b hb1 => ⟨hSf b (by have := hb.size; have := HSZ.out; omega), by have := hb.size; have := HSZ.out; omega⟩) (fun h => hfC h.1) ((P.lies.more (S' := fun b => Sf b ∧ b ≠ w.heap.size + 1 + 1) fun b _ hS => ⟨hSf b (by have hS' : w0.heap.size ≤ b := hS; have := HSZ.out; omega), by have hS' : w0.heap.size ≤ b := hS; have := HSZ.out; omega⟩).keep hb)
          ((HPT.out.only (fun h => h rfl) hoC).keep hb) ((HQT.out.only (fun h => h rfl) hoC).keep hb) (heap_kept hb P.cnt) hgd.2.2 hgd.1 hpp hsp
      have HD2 : Hid (Below wc.heap.size wc wc.drew ∧ w.heap.size + 1 + 1 ≠ C) := Lib.hid ⟨(Below.refl _ _).drew, by omega⟩
      have HNE2 : Hid ((X ≠ C ∧ w.heap.size + 1 ≠ C) ∧ (X < wc.heap.size ∧ w.heap.size + 1 < wc.heap.size)) := Lib.hid ⟨⟨by have := HSZ.out; omega, by omega⟩, lt_blk P.hX, by have := HSZ.out; omega⟩
      have HNR : Hid (X ≠ w.heap.size + 1 + 1 ∧ w.heap.size + 1 ≠ w.heap.size + 1 + 1) := Lib.hid ⟨by have := HSZ.out; omega, by omega⟩
      have hrd := heap_kept HD2.out.1 hr
      have HRD := Lib.hid hrd
      have HOC := Lib.hid (hoC.trans (Only.below HD2.out.1 C))
      have hl17 : (1 : Int) ≤ (plen : Int) := by omega
      have hl17m : (plen : Int) ≤ (pcap : Int) := by omega
      have hl18 : (1 : Int) ≤ (qlen : Int) := by omega
      have hl18m : (qlen : Int) ≤ (qcap : Int) := by omega
      clear P hoC hszx hbX y0 y1 y2 y3 hE hr hrd hgd call2 hS0 HXX HNE HCL
      go_upto_region 8 with fail
      have hpc : pcap = 1 ∧ plen = 1 ∨ ¬ pcap = 1 := by omega
      have hqc : qcap = 1 ∧ qlen = 1 ∨ ¬ qcap = 1 := by omega
      rcases hqc with ⟨rfl, rfl⟩ | hq2
      · rcases hpc with ⟨rfl, rfl⟩ | hp2
        all_goals
          try rw [if_neg hp2] at callA
          try rw [if_neg hq2] at callA
          try simp only [if_true, Nat.sub_self, eq_self] at callA
          go_region_held3 (fun W => CellsPb W X (w.heap.size + 1) (.int .i64 x.op) (.int .i64 x.hd) (.int .i64 x.n) (.slice a8 n8 m8) (.slice (some ⟨qb, qoff, none⟩) 1 1) (.int .i64 cn))
            (first | (with_reducible exact cellsPb_four HNR.out hcn) | (with_reducible exact hB0) | (with_reducible exact hcn) | (with_reducible exact cellsPb_below HD2.out.1 hB0) | fail)
            (first
              | (go_at_call 55; (with_reducible refine (callA _ HD2.out.1).mono ?_); intro e w2 hG; obtain ⟨u, u', u'', up, uq, um, ux, rfl, ho⟩ := hG.form; have hcn := cellsPb_only HNE2.out.1 HNE2.out.2 ((Only.below HD2.out.1 C).trans ho) hB0; have hr := Only.keepBlock ho HRD.out HD2.out.2; obtain ⟨y0, y1, y2, y3⟩ := c4_of hr; have f0 := free_in hr 0; have f1 := free_in hr 1; have f2 := free_in hr 2; have f3 := free_in hr 3; have HG2 := Lib.hid hG; have HRB := Lib.hid hr; (clear hr hG ho))
              | fail)
          all_goals
            go_wp2_with fail
            obtain ⟨z0, z1, z2, z3⟩ := c4_of (set4_at HRB.out (.int .i64 u) (.int .i64 u') (.int .i64 u'') (.slice up uq um))
            refine bodyPost_ret (v := .tuple #[.agg #[.int .i64 u, .int .i64 u', .int .i64 u'', .slice up uq um], .int .i64 ux]) (by simp [results, Try.results55, go_sem, z0, z1, z2, z3]) rfl ?_
            rw [HA2.out]
            exact HG2.out.stored (by omega) hClt HOC.out _ _ _ _
      · rcases hpc with ⟨rfl, rfl⟩ | hp2
        all_goals
          try rw [if_neg hp2] at callA
          try rw [if_neg hq2] at callA
          try simp only [if_true, Nat.sub_self, eq_self] at callA
          go_region_held3 (fun W => CellsPb W X (w.heap.size + 1) (.int .i64 x.op) (.int .i64 x.hd) (.int .i64 x.n) (.slice a8 n8 m8) (.slice (some ⟨qb, qoff, none⟩) qlen qcap) (.int .i64 cn))
            (first | (with_reducible exact cellsPb_four HNR.out hcn) | (with_reducible exact hB0) | (with_reducible exact hcn) | (with_reducible exact cellsPb_below HD2.out.1 hB0) | fail)
            (first
              | (go_at_call 55; (with_reducible refine (callA _ HD2.out.1).mono ?_); intro e w2 hG; obtain ⟨u, u', u'', up, uq, um, ux, rfl, ho⟩ := hG.form; have hcn := cellsPb_only HNE2.out.1 HNE2.out.2 ((Only.below HD2.out.1 C).trans ho) hB0; have hr := Only.keepBlock ho HRD.out HD2.out.2; obtain ⟨y0, y1, y2, y3⟩ := c4_of hr; have f0 := free_in hr 0; have f1 := free_in hr 1; have f2 := free_in hr 2; have f3 := free_in hr 3; have HG2 := Lib.hid hG; have HRB := Lib.hid hr; (clear hr hG ho))
              | fail)
          all_goals
            go_wp2_with fail
            obtain ⟨z0, z1, z2, z3⟩ := c4_of (set4_at HRB.out (.int .i64 u) (.int .i64 u') (.int .i64 u'') (.slice up uq um))
            refine bodyPost_ret (v := .tuple #[.agg #[.int .i64 u, .int .i64 u', .int .i64 u'', .slice up uq um], .int .i64 ux]) (by simp [results, Try.results55, go_sem, z0, z1, z2, z3]) rfl ?_
            rw [HA2.out]
            exact HG2.out.stored (by omega) hClt HOC.out _ _ _ _
  · rw [hres] at hgood
    have call2 : ∀ w1, Below w0.heap.size w0 w1 → Calls Try.prog 47 #[.pointer (some ⟨C, 0, none⟩), .agg #[.int .i64 (boo 0), .int .i64 (bhh 0), .int .i64 (bkk 0), .slice a5 n5 m5], .int .i64 0, .agg #[.int .i64 (poo 0), .int .i64 (phh 0), .int .i64 (pkk 0), .slice a6 n6 m6], .agg #[.slice a7 n7 m7, .int .i64 (sk 0)]] w1 fun e w2 => e = .returned (.tuple #[.agg #[.int .i64 0, .int .i64 0, .int .i64 0, .slice none 0 0], .int .i64 x]) ∧ Only C w1 w2 ∧ Only C w0 w2 := fun w1 hb => by
      have h := call w1 hb
      unfold GivesR at h
      rw [hres] at h
      refine h.mono fun e w2 hx => ?_
      obtain ⟨rfl, ho⟩ := hx
      exact ⟨rfl, ho, (Only.below hb C).trans ho⟩
    have HGD := Lib.hid hgood
    have hap : app (.mk (sk 0) (sts 0) :: Ss) (.mk 3 fh fk [tb]) (a :: sp) c = .er x := by rw [HAP.out, hres]
    have HA2 := Lib.hid hap
    clear hgood hres call hap x0 x1 x2 x3 s0
    go_cut [10, 11] (fun p e wx => ∃ X, p = .pointer (some ⟨X, 0, none⟩) ∧ e = .int .i64 x ∧ Only C w0 wx)
    case first =>
      go_region_held3 (fun W => CellsPa W w.heap.size bb boff pb poff (w.heap.size + 1) qb qoff (.slice (some ⟨bb, boff, none⟩) 1 bcap) (.int .i64 (boo 0)) (.int .i64 (bhh 0)) (.int .i64 (bkk 0)) (.slice a5 n5 m5) (.int .i64 (poo 0)) (.int .i64 (phh 0)) (.int .i64 (pkk 0)) (.slice a6 n6 m6) (.slice (some ⟨qb, qoff, none⟩) qlen qcap) (.slice a7 n7 m7) (.int .i64 (sk 0)))
        (first | (with_reducible exact cellsPa_four HXX.out hcn) | (with_reducible exact hS0) | (with_reducible exact hcn) | (with_reducible exact cellsPa_below HD.out.1 hS0) | (with_reducible exact cellsPa_below HD.out.2.1 hS0) | (with_reducible exact cellsPa_below (one_below _ _) hcn) | (with_reducible exact cellsPa_below (one_below _ _) (by assumption)) | fail)
        (first
          | (go_at_call 47; (with_reducible refine (call2 _ ?_).mono ?_); (first | (with_reducible exact HD.out.1) | (with_reducible exact HD.out.2.1) | fail); rintro e w2 ⟨rfl, ho2, ho3⟩; have hcn := cellsPa_only HNE.out.1 HNE.out.2 ho3 hS0; have HPO := Lib.hid ho3; (first | ((refine use_fact (p := w2.heap[w0.heap.size]? = some (.cells #[.int .i64 0, .int .i64 0, .int .i64 0, .slice none 0 0] 24 (0, 0))) ?_ (fun zX => ?_)); (focus (with_reducible exact Only.keepBlock ho2 HD.out.2.2.1 HD.out.2.2.2)); obtain ⟨y0, y1, y2, y3⟩ := c4_of zX; have g0 := free_in zX 0; have g1 := free_in zX 1; have g2 := free_in zX 2; have g3 := free_in zX 3; have HZX := Lib.hid zX; (clear zX)) | skip))
          | fail)
      all_goals
        go_wp2_with fail
        go_meet
        case rel =>
          first
            | exact ⟨_, rfl, rfl, PXE.set HPO.out⟩
            | exact ⟨_, rfl, rfl, HPO.out.alloc _⟩
            | fail
    case rest =>
      obtain ⟨X, rfl, rfl, P⟩ := hcut
      have hr := Only.keepBlock P H3.out.2.2.1 (by omega)
      obtain ⟨y0, y1, y2, y3⟩ := c4_of hr
      have f0 := free_in hr 0
      have f1 := free_in hr 1
      have f2 := free_in hr 2
      have f3 := free_in hr 3
      have hx0 : ¬ x = 0 := by rcases HGD.out with h5 | h5 <;> omega
      have hne0 : (x != 0) = true := by simp [hx0]
      have HOO := Lib.hid ((Only.below H3.out.2.2.2 C).trans P)
      have HRB := Lib.hid hr
      clear hr P call2 hS0
      go_wp2_with fail
      obtain ⟨z0, z1, z2, z3⟩ := c4_of (set4_at HRB.out (.int .i64 0) (.int .i64 0) (.int .i64 0) (.slice none 0 0))
      refine bodyPost_ret (v := .tuple #[.agg #[.int .i64 0, .int .i64 0, .int .i64 0, .slice none 0 0], .int .i64 x]) (by simp [results, Try.results55, go_sem, z0, z1, z2, z3]) rfl ?_
      unfold GivesR
      rw [HA2.out]
      exact ⟨rfl, (((HOO.out.new (p := ⟨w.heap.size + 1 + 1, 0, none⟩) (by simp; omega) _).new (p := ⟨w.heap.size + 1 + 1, 1, none⟩) (by simp; omega) _).new (p := ⟨w.heap.size + 1 + 1, 2, none⟩) (by simp; omega) _).new (p := ⟨w.heap.size + 1 + 1, 3, none⟩) (by simp; omega) _⟩
end Go.Proofs.Ytieakippgeehgaa.Sb
