/- The reference's put: where it is full, and up to its loop. -/
import Derived.Test.YtieakippgeehgaaSbPutS
import Derived.Test.YtieakippgeehgaaSbPutT
import Derived.Deep.DeepCutAuto
import Derived.BigRegion
import Derived.OwnWalk
namespace Go.Proofs.Ytieakippgeehgaa.Sb
open Go.RowKit
set_option linter.unusedSimpArgs false
set_option linter.unusedVariables false

set_option maxHeartbeats 8000000 in
set_option maxRecDepth 100000 in
theorem putR_try (C : Nat) (s : Tm) (sv Sv : Value) (cn : Int) (Ss : List Sp.Tm) (o h k : Int) (l : List Tm) (n : Int) (c : Nat) (w : World) (tv : Value) (ih : ∀ t ∈ l, PutROk C s sv Sv cn Ss t) (hA : AppROk C cn Ss) (hps : Tm.proper s = true)
    (htv : Lies w (· ≠ C) tv l) (hsv : Lies w (· ≠ C) sv s.args) (hSv : Sp.Lies w (· ≠ C) Sv Ss) (hC : cntR C c w) (hc : c < 20000) (hn0 : 0 ≤ n) (hn1 : n + (Tm.sz (.mk o h k l) : Nat) ≤ 11000) (hp : Tm.proper (.mk o h k l) = true) :
    Calls Try.prog 47 #[.pointer (some ⟨C, 0, none⟩), .agg #[.int .i64 o, .int .i64 h, .int .i64 k, tv], .int .i64 n, .agg #[.int .i64 s.op, .int .i64 s.hd, .int .i64 s.n, sv], .agg #[Sv, .int .i64 cn]] w (GivesR (w.heap.size ≤ ·) w C (put (.mk cn Ss) s n (.mk o h k l) c)) := by
  have HTV' := htv.isSlice
  obtain ⟨a1, n1, m1, rfl⟩ := HTV'
  have HTV := Lib.hid htv
  have HSV := Lib.hid (And.intro hsv hSv)
  obtain ⟨a2, n2, m2, rfl⟩ := hsv.isSlice
  obtain ⟨a3, n3, m3, rfl⟩ := hSv.isSlice
  have h4 := four_blocks w #[.int .i64 o, .int .i64 h, .int .i64 k, .slice a1 n1 m1] #[.int .i64 s.op, .int .i64 s.hd, .int .i64 s.n, .slice a2 n2 m2] #[.slice a3 n3 m3, .int .i64 cn] #[.int .i64 0, .int .i64 0, .int .i64 0, .slice none 0 0] 24 24 27 24
  have hC4 := heap_kept h4.2.2.2.2.1 hC
  have H4 := Lib.hid h4
  have HC4 := Lib.hid hC4
  have c0 := cell_in hC4 0 _ rfl
  have f0 := free_in hC4 0
  clear h4 hC4
  have h1 : ¬ (20000 : Int) < (c : Int) + 1 := by omega
  have HC := Lib.hid hC
  clear hC
  obtain ⟨i0, hi0, hz0, hz1, hz2⟩ := info_parts tm_info
  go_enter Try.func47, Try.ntmps47
  go_upto_region 4 with fail
  have hClt : C < w.heap.size := lt_blk HC.out
  have hC5 : cntR C (c + 1) _ := heap_set_at (j := 0) (.int .i64 ((c : Int) + 1)) HC4.out
  have hk5 : ∀ b ob, b ≠ C → _ → _ := fun b ob hb hx => (Below.heap_setCell ((((w.alloc (.cells #[.int .i64 o, .int .i64 h, .int .i64 k, .slice a1 n1 m1] 24)).alloc (.cells #[.int .i64 s.op, .int .i64 s.hd, .int .i64 s.n, .slice a2 n2 m2] 24)).alloc (.cells #[.slice a3 n3 m3, .int .i64 cn] 27)).alloc (.cells #[.int .i64 0, .int .i64 0, .int .i64 0, .slice none 0 0] 24)) ⟨C, 0, none⟩ (.int .i64 ((c : Int) + 1)) b (by simpa using hb)).trans (show _ = some ob from hx)
  have hM := PSt.start (w := w) (t := .mk o h k l) (s := s) (tv := .slice a1 n1 m1) (sv := .slice a2 n2 m2) (Sv := .slice a3 n3 m3) (cn := cn) hClt ((Only.below H4.out.2.2.2.2.1 C).setCell 0 none (.int .i64 ((c : Int) + 1))) (by simp [World.setCell]) hC5 (by omega) (hk5 _ _ (by omega) H4.out.1) (hk5 _ _ (by omega) H4.out.2.1) (hk5 _ _ (by omega) H4.out.2.2.1) (hk5 _ _ (by omega) H4.out.2.2.2.1)
  have ht5 := c4_of (hk5 _ _ (by omega) H4.out.1)
  have hs5 : w.heap.size + 1 + 1 + 1 < (World.setCell _ ⟨C, 0, none⟩ (.int .i64 ((c : Int) + 1))).heap.size := hM.lO
  generalize World.setCell ((((w.alloc (.cells #[.int .i64 o, .int .i64 h, .int .i64 k, .slice a1 n1 m1] 24)).alloc (.cells #[.int .i64 s.op, .int .i64 s.hd, .int .i64 s.n, .slice a2 n2 m2] 24)).alloc (.cells #[.slice a3 n3 m3, .int .i64 cn] 27)).alloc (.cells #[.int .i64 0, .int .i64 0, .int .i64 0, .slice none 0 0] 24)) ⟨C, 0, none⟩ (.int .i64 ((c : Int) + 1)) = w5 at *
  obtain ⟨x0, x1, x2, x3⟩ := ht5
  have HM := Lib.hid hM
  have HS5 := Lib.hid hs5
  clear hC5 hk5 hM hs5 c0 f0 HC4 H4
  go_wp2_with fail
  generalize hOB : w5.heap.size = OB at *
  have HOB := Lib.hid hOB
  clear hOB
  go_loopw [13] (fun i wr => ∃ (j : Nat) (ts : List Tm) (cj : Nat) (v : Value), j ≤ n1 ∧ i = .int .i64 j ∧ PSt w wr C OB (.mk o h k l) (.slice a1 n1 m1) s (.slice a2 n2 m2) (.slice a3 n3 m3) cn v ts cj ∧ Hid (putL (.mk cn Ss) s n o 0 (l.take j) (c + 1) = .ok ts cj ∧ ts.length = j)) (fun i _ => n1 - (intOf i).toNat)
  case atStart => exact ⟨0, [], c + 1, .slice none 0 0, Nat.zero_le _, rfl, HM.out, Lib.hid ⟨by rw [List.take_zero, putL_nil], rfl⟩⟩
  case round =>
    obtain ⟨j, ts, cj, v, hj, rfl, M, HSF⟩ := hrel
    have HM2 := Lib.hid M
    clear x0 x1 x2 x3
    obtain ⟨x0, x1, x2, x3⟩ := c4_of M.tb
    simp only [Tm.op, Tm.hd, Tm.n] at x0 x1 x2
    by_cases hlt : j < n1
    · have hj0 : (0 : Int) ≤ (j : Int) := by omega
      have hj1 : (j : Int) < (n1 : Int) := by omega
      obtain ⟨ao, bb, off, len, cap, oo, hh, kk, sv, tt, hse, R⟩ := HTV.out.open
      obtain ⟨rfl, rfl, rfl⟩ : a1 = ao ∧ n1 = len ∧ m1 = cap := by injection hse with e1 e2 e3; exact ⟨e1, e2, e3⟩
      have hcap := R.hr
      have hlc := R.hl
      obtain rfl := R.hao (by omega)
      obtain ⟨d0, d1, d2, d3, hsub⟩ := R.atO M.only j hlt
      obtain ⟨a5, n5, m5, hs5⟩ := hsub.isSlice
      rw [hs5] at d3 hsub
      have hjl : j < l.length := by rw [R.length]; exact hlt
      have hg : l[j]'hjl = .mk (oo j) (hh j) (kk j) (tt j) := R.get j hlt
      have hbw : bb < w.heap.size := World.block_lt_of_cell? w _ (R.c0 j hlt)
      have hbC : bb ≠ C := R.hS (by omega)
      obtain ⟨B, hB⟩ : ∃ B, B = Tm.belowN o j := ⟨_, rfl⟩
      have hBb : 0 ≤ B ∧ B ≤ 1 := by rw [hB]; have := Tm.belowN_bd o j; omega
      have hszj : Tm.sz l[j] + 1 ≤ Tm.sz (.mk o h k l) := by
        have := Tm.szL_le_of_mem (List.getElem_mem hjl)
        simp only [Tm.sz]; omega
      have hnB : n + B + (Tm.sz l[j] : Nat) ≤ 11000 := by omega
      have hpj := Tm.proper_parts hp _ (List.getElem_mem hjl)
      have hsum : IntKind.i64.wrap (n + B) = n + B := IntWalk.i64_in _ (by have := Tm.sz_pos l[j]; omega)
      have call : ∀ w1, Below wr.heap.size wr w1 → _ := fun w1 hb => ih l[j] (List.getElem_mem hjl) (n + B) cj w1 (.slice a5 n5 m5) ((by rw [hg]; exact hsub : Lies wr (· ≠ C) (.slice a5 n5 m5) l[j].args).keep hb) ((HSV.out.1.only (fun h => h rfl) M.only).keep hb) ((HSV.out.2.only (fun h => h rfl) M.only).keep hb) (heap_kept hb M.cnt) M.bd (by omega) hnB hpj
      have hgood := put_good (.mk cn Ss) s (n + B) l[j] cj M.bd hpj
      have HD : Hid (Below wr.heap.size wr wr.drew ∧ Below wr.heap.size wr (wr.alloc (.cells #[.int .i64 0, .int .i64 0, .int .i64 0, .slice none 0 0] 24)).drew ∧ (wr.alloc (.cells #[.int .i64 0, .int .i64 0, .int .i64 0, .slice none 0 0] 24)).drew.heap[wr.heap.size]? = some (.cells #[.int .i64 0, .int .i64 0, .int .i64 0, .slice none 0 0] 24 (0, 0)) ∧ wr.heap.size ≠ C) := Lib.hid ⟨(Below.refl _ _).drew, (one_below _ _).drew, heap_alloc_new wr _, by have := M.only.size; omega⟩
      have hszr := M.only.size
      have lO := M.lO
      have lw := lt_blk M.ob
      have HXX : Hid (w.heap.size ≠ wr.heap.size ∧ bb ≠ wr.heap.size ∧ w.heap.size + 1 ≠ wr.heap.size ∧ w.heap.size + 1 + 1 ≠ wr.heap.size) := Lib.hid (by omega)
      have HCL : Hid (C < wr.heap.size) := Lib.hid (by omega)
      have HNE : Hid ((w.heap.size ≠ C ∧ bb ≠ C ∧ w.heap.size + 1 ≠ C ∧ w.heap.size + 1 + 1 ≠ C) ∧ (w.heap.size < wr.heap.size ∧ bb < wr.heap.size ∧ w.heap.size + 1 < wr.heap.size ∧ w.heap.size + 1 + 1 < wr.heap.size)) := Lib.hid (by omega)
      have hS0 : CellsR wr w.heap.size bb (off + j * 4) (w.heap.size + 1) (w.heap.size + 1 + 1) (.slice (some ⟨bb, off, none⟩) n1 m1) (.int .i64 (oo j)) (.int .i64 (hh j)) (.int .i64 (kk j)) (.slice a5 n5 m5) (.int .i64 s.op) (.int .i64 s.hd) (.int .i64 s.n) (.slice a2 n2 m2) (.slice a3 n3 m3) (.int .i64 cn) :=
        ⟨cell_in M.tb 3 _ rfl, d0, d1, d2, d3, cell_in M.sb 0 _ rfl, cell_in M.sb 1 _ rfl, cell_in M.sb 2 _ rfl, cell_in M.sb 3 _ rfl, cell_in M.Sb 0 _ rfl, cell_in M.Sb 1 _ rfl⟩
      have hcases := below_ways o j
      rw [← hB] at hcases
      have HBE := Lib.hid hB
      have HG := Lib.hid hg
      have hne6 : n1 ≤ 600 := by have h1 := Tm.length_le_szL l; have h2 := (Tm.proper_two hp).1; have h3 : l.length = n1 := R.length; simp only [Tm.sz] at h2; omega
      rw [hg] at call hgood
      simp only [Tm.op, Tm.hd, Tm.n] at call
      clear hB hsub hszj hpj hbw hbC hs5 R hse lO lw hszr hnB d0 d1 d2 d3 hg M
      rcases hres : put (.mk cn Ss) s (n + B) (.mk (oo j) (hh j) (kk j) (tt j)) cj with ⟨x, c'⟩ | x
      · rw [hres] at hgood
        have call2 : ∀ w1, Below wr.heap.size wr w1 → Calls Try.prog 47 #[.pointer (some ⟨C, 0, none⟩), .agg #[.int .i64 (oo j), .int .i64 (hh j), .int .i64 (kk j), .slice a5 n5 m5], .int .i64 (n + B), .agg #[.int .i64 s.op, .int .i64 s.hd, .int .i64 s.n, .slice a2 n2 m2], .agg #[.slice a3 n3 m3, .int .i64 cn]] w1 fun e w2 => ∃ a6 n6 m6, e = .returned (.tuple #[.agg #[.int .i64 x.op, .int .i64 x.hd, .int .i64 x.n, .slice a6 n6 m6], .int .i64 0]) ∧ Only C w1 w2 ∧ Only C wr w2 ∧ cntR C c' w2 ∧ Lies w2 (w1.heap.size ≤ ·) (.slice a6 n6 m6) x.args := fun w1 hb => by
          have h := call w1 hb
          unfold GivesR at h
          rw [hres] at h
          refine h.mono fun e w2 hx => ?_
          obtain ⟨v6, rfl, ho, hc, L⟩ := hx
          obtain ⟨a6, n6, m6, rfl⟩ := L.isSlice
          exact ⟨a6, n6, m6, rfl, ho, (Only.below hb C).trans ho, hc, L⟩
        have HGD := Lib.hid hgood
        have HRES := Lib.hid hres
        clear hgood hres call
        rcases hcases with ⟨hb, e1⟩ | ⟨hb, e1, e2, e3⟩ | ⟨hb, e1, e2, e3⟩ | ⟨hb, e1, e2⟩
        all_goals
          rw [hb] at call2 hsum
          have HBV := Lib.hid hb
          clear hb
          try simp only [Int.add_zero] at call2
          try simp only [Int.add_zero] at hsum
          go_upto_region 12 with fail
          go_cut [15, 16] (fun p e wx => ∃ X a6 n6 m6, p = .pointer (some ⟨X, 0, none⟩) ∧ e = .int .i64 0 ∧ PX wr wx C X x (.slice a6 n6 m6) c')
          case first =>
            go_region_held3 (fun W => CellsR W w.heap.size bb (off + j * 4) (w.heap.size + 1) (w.heap.size + 1 + 1) (.slice (some ⟨bb, off, none⟩) n1 m1) (.int .i64 (oo j)) (.int .i64 (hh j)) (.int .i64 (kk j)) (.slice a5 n5 m5) (.int .i64 s.op) (.int .i64 s.hd) (.int .i64 s.n) (.slice a2 n2 m2) (.slice a3 n3 m3) (.int .i64 cn))
              (first | (with_reducible exact cellsR_four HXX.out hcn) | (with_reducible exact hS0) | (with_reducible exact hcn) | (with_reducible exact cellsR_below HD.out.1 hS0) | (with_reducible exact cellsR_below HD.out.2.1 hS0) | (with_reducible exact cellsR_below (one_below _ _) hcn) | (with_reducible exact cellsR_below (one_below _ _) (by assumption)) | fail)
              (first
                | (go_at_call 47; (with_reducible refine (call2 _ ?_).mono ?_); (first | (with_reducible exact HD.out.1) | (with_reducible exact HD.out.2.1) | fail); rintro e w2 ⟨a6, n6, m6, rfl, ho2, ho3, hc2, L2⟩; have hcn := cellsR_only HNE.out.1 HNE.out.2 ho3 hS0; have HPO := Lib.hid (And.intro ho3 (And.intro hc2 L2)); (clear hc2 L2); (first | ((refine use_fact (p := w2.heap[wr.heap.size]? = some (.cells #[.int .i64 0, .int .i64 0, .int .i64 0, .slice none 0 0] 24 (0, 0))) ?_ (fun zX => ?_)); (focus (with_reducible exact Only.keepBlock ho2 HD.out.2.2.1 HD.out.2.2.2)); obtain ⟨y0, y1, y2, y3⟩ := c4_of zX; have g0 := free_in zX 0; have g1 := free_in zX 1; have g2 := free_in zX 2; have g3 := free_in zX 3; have HZX := Lib.hid zX; (clear zX)) | skip))
                | fail)
            all_goals
              go_wp2_with fail
              go_meet
              case rel =>
                first
                  | (refine ⟨_, _, _, _, rfl, rfl, PX.set HCL.out HPO.out.1 HPO.out.2.1 HZX.out (Nat.le_refl _) ?_⟩; exact HPO.out.2.2.more fun b hlt hS => ⟨by simp at hS; omega, by simp at hS; omega⟩)
                  | (refine ⟨_, _, _, _, rfl, rfl, PX.new HCL.out HPO.out.1 HPO.out.2.1 ?_⟩; exact HPO.out.2.2)
                  | fail
          case rest =>
            obtain ⟨X, a6, n6, m6, rfl, rfl, P⟩ := hcut
            have hg2 := HGD.out.2.2
            have M2 := HM2.out.ones hClt P.only P.cnt hg2
            have hszr := HM2.out.only.size
            have hszx := P.only.size
            have hlv := HM2.out.row.lt
            have hOBr := lt_blk HM2.out.ob
            have hbX := P.bX
            obtain ⟨y0, y1, y2, y3⟩ := c4_of P.hX
            have z3 := cell_in M2.ob 3 _ rfl
            have f3 := free_in M2.ob 3
            have hOBx : OB < wc.heap.size := lt_blk M2.ob
            obtain ⟨vs, hvl, hown, hsub2⟩ := M2.row.own
            have hlen := HSF.out.2
            have L2 := Lib.hid (P.lies.more (S' := fun b' => OB + 1 ≤ b' ∧ v.ownBlock ≠ some b') fun b' hlt' hS => ⟨by have hS' : wr.heap.size ≤ b' := hS; omega, fun e => by have hS' : wr.heap.size ≤ b' := hS; have := (hlv b' e).2; omega⟩)
            have hat1 : IntKind.i64.wrap ((j : Int) + 1) = ((j + 1 : Nat) : Int) := IntWalk.i64_in _ (by omega)
            have HRW : Hid (∀ q, v.ownBlock = some q → OB + 1 ≤ q) := Lib.hid fun q hq => (hlv q hq).1
            have HOW := Lib.hid hown
            have HVL := Lib.hid hvl
            have HSB2 := Lib.hid hsub2
            have HM3 := Lib.hid M2
            have HPX := Lib.hid P
            have HI0 := Lib.hid hi0
            have HZ0 := Lib.hid hz0
            have HTL : Hid (ts.length ≤ 600) := Lib.hid (by omega)
            have HTJ := Lib.hid hlen
            clear P M2 hown hvl hsub2 hlv hszr hszx hlen x0 x1 x2 x3 call2 hS0
            go_wp2_with (at_builtin; refine wpList_append_lies _ (by rfl) _ _ _ (by rfl) (OB + 1) 24 i0 _ 4 48 Try.underlying22 HI0.out HZ0.out hz1 hz2 rfl (by omega) v _ _ (by rfl) (HOW.out.alloc _) ⟨wc.heap.size, 0, none⟩ 1 1 [.int .i64 x.op, .int .i64 x.hd, .int .i64 x.n, .slice a6 n6 m6] (by rfl) (by rfl) (World.news_of_block (cs := #[.int .i64 x.op, .int .i64 x.hd, .int .i64 x.n, .slice a6 n6 m6]) (t := 24) (fr := (0, 0)) (heap_alloc_new wc _)) (by intro u hu; simp at hu; rcases hu with rfl | rfl | rfl | rfl <;> rfl) (by have := HTL.out; omega) (by have := HTL.out; unfold maxLen; omega) (by have := HTL.out; omega) (by simp; omega) (wc.heap.size + 1) (by simp) ?_; intro g cap3 w3 hown3 hgrow3 hat3 hlt3; have e0 := far_cell hgrow3 (kept_cell ((Below.refl _ _).alloc (Nat.le_refl _) _) z3) (fun q hq => HRW.out q hq) (by show OB < OB + 1; omega); have fz := far_frozen hgrow3 (kept_cell ((Below.refl _ _).alloc (Nat.le_refl _) _) z3) ((Below.frozen ((Below.refl _ _).alloc (Nat.le_refl _) _) (by show OB < wc.heap.size; omega)).trans f3) (fun q hq => HRW.out q hq) (by show OB < OB + 1; omega); have HSB := Lib.hid (And.intro hgrow3 hat3); have HO3 := Lib.hid hown3; clear hgrow3 hat3 hown3 z3 f3)
            go_roundw
            case rel =>
              have hput := HRES.out
              rw [HBE.out, ← HG.out] at hput
              refine ⟨j + 1, ts ++ [x], c', .slice (some ⟨g, 0, none⟩) (ts.length + 1) cap3, by omega, by go_num, HM3.out.next hClt L2.out (proper_fit HGD.out.1) HVL.out HSB2.out HO3.out HSB.out.1 HSB.out.2, Lib.hid ⟨?_, by simp [HTJ.out]⟩⟩
              rw [List.take_succ_eq_append_getElem hjl, putL_snoc, HSF.out.1]
              simp only [List.length_take, Nat.min_eq_left (Nat.le_of_lt hjl), Nat.zero_add, hput]
            case measure => simp [intOf]; omega
      · rw [hres] at hgood
        have call2 : ∀ w1, Below wr.heap.size wr w1 → Calls Try.prog 47 #[.pointer (some ⟨C, 0, none⟩), .agg #[.int .i64 (oo j), .int .i64 (hh j), .int .i64 (kk j), .slice a5 n5 m5], .int .i64 (n + B), .agg #[.int .i64 s.op, .int .i64 s.hd, .int .i64 s.n, .slice a2 n2 m2], .agg #[.slice a3 n3 m3, .int .i64 cn]] w1 fun e w2 => e = .returned (.tuple #[.agg #[.int .i64 0, .int .i64 0, .int .i64 0, .slice none 0 0], .int .i64 x]) ∧ Only C w1 w2 ∧ Only C wr w2 := fun w1 hb => by
          have h := call w1 hb
          unfold GivesR at h
          rw [hres] at h
          refine h.mono fun e w2 hx => ?_
          obtain ⟨rfl, ho⟩ := hx
          exact ⟨rfl, ho, (Only.below hb C).trans ho⟩
        have HGD := Lib.hid hgood
        have HRES := Lib.hid hres
        clear hgood hres call
        rcases hcases with ⟨hb, e1⟩ | ⟨hb, e1, e2, e3⟩ | ⟨hb, e1, e2, e3⟩ | ⟨hb, e1, e2⟩
        all_goals
          rw [hb] at call2 hsum
          have HBV := Lib.hid hb
          clear hb
          try simp only [Int.add_zero] at call2
          try simp only [Int.add_zero] at hsum
          go_upto_region 12 with fail
          go_cut [15, 16] (fun p e wx => ∃ X, p = .pointer (some ⟨X, 0, none⟩) ∧ e = .int .i64 x ∧ Only C wr wx)
          case first =>
            go_region_held3 (fun W => CellsR W w.heap.size bb (off + j * 4) (w.heap.size + 1) (w.heap.size + 1 + 1) (.slice (some ⟨bb, off, none⟩) n1 m1) (.int .i64 (oo j)) (.int .i64 (hh j)) (.int .i64 (kk j)) (.slice a5 n5 m5) (.int .i64 s.op) (.int .i64 s.hd) (.int .i64 s.n) (.slice a2 n2 m2) (.slice a3 n3 m3) (.int .i64 cn))
              (first | (with_reducible exact cellsR_four HXX.out hcn) | (with_reducible exact hS0) | (with_reducible exact hcn) | (with_reducible exact cellsR_below HD.out.1 hS0) | (with_reducible exact cellsR_below HD.out.2.1 hS0) | (with_reducible exact cellsR_below (one_below _ _) hcn) | (with_reducible exact cellsR_below (one_below _ _) (by assumption)) | fail)
              (first
                | (go_at_call 47; (with_reducible refine (call2 _ ?_).mono ?_); (first | (with_reducible exact HD.out.1) | (with_reducible exact HD.out.2.1) | fail); rintro e w2 ⟨rfl, ho2, ho3⟩; have hcn := cellsR_only HNE.out.1 HNE.out.2 ho3 hS0; have HPO := Lib.hid ho3; (first | ((refine use_fact (p := w2.heap[wr.heap.size]? = some (.cells #[.int .i64 0, .int .i64 0, .int .i64 0, .slice none 0 0] 24 (0, 0))) ?_ (fun zX => ?_)); (focus (with_reducible exact Only.keepBlock ho2 HD.out.2.2.1 HD.out.2.2.2)); obtain ⟨y0, y1, y2, y3⟩ := c4_of zX; have g0 := free_in zX 0; have g1 := free_in zX 1; have g2 := free_in zX 2; have g3 := free_in zX 3; have HZX := Lib.hid zX; (clear zX)) | skip))
                | fail)
            all_goals
              go_wp2_with fail
              go_meet
              case rel =>
                first
                  | exact ⟨_, rfl, rfl, PXE.set HPO.out⟩
                  | exact ⟨_, rfl, rfl, HPO.out.alloc _⟩
                  | fail
          case rest =>
            obtain ⟨X, rfl, rfl, P⟩ := hcut
            have hput := HRES.out
            rw [HBE.out, ← HG.out] at hput
            have her := putL_take_er (.mk cn Ss) s n o l (c + 1) j hjl ts cj x HSF.out.1 hput
            have hfin : put (.mk cn Ss) s n (.mk o h k l) c = .er x := by rw [put_eq, if_neg (by omega), her]
            have hlO := HM2.out.lO
            have hOBr := lt_blk HM2.out.ob
            have hsz2 := HM2.out.only.size
            have hr := Only.keepBlock P HM2.out.rb (by omega)
            obtain ⟨y0, y1, y2, y3⟩ := c4_of hr
            have f0 := free_in hr 0
            have f1 := free_in hr 1
            have f2 := free_in hr 2
            have f3 := free_in hr 3
            have hx0 : ¬ x = 0 := by rcases HGD.out with h5 | h5 <;> omega
            have hne0 : (x != 0) = true := by simp [hx0]
            have HOO := Lib.hid (HM2.out.only.trans P)
            have HRB := Lib.hid hr
            have HFN := Lib.hid hfin
            clear hr P her hput hlO hOBr hsz2 hfin x0 x1 x2 x3 call2 hS0
            go_wp2_with fail
            obtain ⟨z0, z1, z2, z3⟩ := c4_of (set4_at HRB.out (.int .i64 0) (.int .i64 0) (.int .i64 0) (.slice none 0 0))
            refine bodyPost_ret (v := .tuple #[.agg #[.int .i64 0, .int .i64 0, .int .i64 0, .slice none 0 0], .int .i64 x]) (by simp [results, Try.results47, go_sem, z0, z1, z2, z3]) rfl ?_
            unfold GivesR
            rw [HFN.out]
            exact ⟨rfl, (((HOO.out.new (p := ⟨w.heap.size + 1 + 1 + 1, 0, none⟩) (by simp; omega) _).new (p := ⟨w.heap.size + 1 + 1 + 1, 1, none⟩) (by simp; omega) _).new (p := ⟨w.heap.size + 1 + 1 + 1, 2, none⟩) (by simp; omega) _).new (p := ⟨w.heap.size + 1 + 1 + 1, 3, none⟩) (by simp; omega) _⟩
    · obtain rfl : j = n1 := by omega
      have hln : l.length = j := by obtain ⟨_, _, _, _, _, _, _, _, _, _, hse, R⟩ := HTV.out.open; injection hse with e1 e2 e3; rw [R.length, e2]
      have hL := HSF.out.1
      rw [List.take_of_length_le (by omega)] at hL
      have hgl := putL_good (.mk cn Ss) s n o 0 l (c + 1)
      have hends := put_ends (h := h) (k := k) hc hL
      have hne6 : j ≤ 600 := by have h1 := Tm.length_le_szL l; have h2 := (Tm.proper_two hp).1; simp only [Tm.sz] at h2; omega
      obtain ⟨z0, z1, z2, z3⟩ := c4_of HM2.out.ob
      simp only [Tm.op, Tm.hd, Tm.n] at z0 z1 z2
      have lv := HM2.out.row.lies
      obtain ⟨a6, n6, m6, rfl⟩ := lv.isSlice
      have hszr := HM2.out.only.size
      have hOBr := lt_blk HM2.out.ob
      have lO := HM2.out.lO
      have hj1 : ¬ (j : Int) < (j : Int) := by omega
      rcases end_ways n hp with ⟨e1, e2⟩ | ⟨e1, e2, e3⟩ | ⟨e1, e2, e3, e4⟩ | ⟨e1, e2, e3, e4, e5, e6⟩ | ⟨e1, e2, e3, e4, e5, e6, e7⟩
      rotate_right 2
      · have hw : put (.mk cn Ss) s n (.mk o h k l) c = whole (.mk o h (k - 1) ts) cj := by rw [hends, if_pos e5, if_neg (by omega)]
        have hk1 : IntKind.i64.wrap (k - 1) = k - 1 := IntWalk.i64_in _ (by omega)
        have g2 := free_in HM2.out.ob 2
        have HNN := Lib.hid (And.intro hszr (And.intro hOBr lO))
        have HLV : Hid (Lies (wr.setCell ⟨OB, 2, none⟩ (.int .i64 (k - 1))) (OB + 1 ≤ ·) (.slice a6 n6 m6) ts) := Lib.hid (lv.still fun b hS _ => Below.heap_setCell _ _ _ _ (by have hS' : OB + 1 ≤ b := hS; show b ≠ OB; omega))
        have HC2 : Hid (cntR C cj (wr.setCell ⟨OB, 2, none⟩ (.int .i64 (k - 1)))) := Lib.hid ((Below.heap_setCell _ _ _ _ (by show C ≠ OB; omega)).trans HM2.out.cnt)
        have HOO : Hid (Only C w (wr.setCell ⟨OB, 2, none⟩ (.int .i64 (k - 1)))) := Lib.hid (HM2.out.only.new (p := ⟨OB, 2, none⟩) (by show w.heap.size ≤ OB; omega) _)
        have HR3 : Hid ((wr.setCell ⟨OB, 2, none⟩ (.int .i64 (k - 1))).heap[w.heap.size + 1 + 1 + 1]? = some (.cells #[.int .i64 0, .int .i64 0, .int .i64 0, .slice none 0 0] 24 (0, 0))) := Lib.hid ((Below.heap_setCell _ _ _ _ (by show w.heap.size + 1 + 1 + 1 ≠ OB; omega)).trans HM2.out.rb)
        have HW := Lib.hid hw
        clear hw lv hends hL hgl hln hszr hOBr lO e5
        go_wp2_with fail
        refine (wholeR_gives (.mk o h (k - 1) ts) (.slice a6 n6 m6) _ (OB + 1 ≤ ·) C cj HLV.out HC2.out).mono ?_
        intro e w2 hG
        obtain ⟨u, u', u'', up, uq, um, ux, rfl, ho⟩ := hG.form
        have hr := Only.keepBlock ho HR3.out (by omega)
        obtain ⟨y0, y1, y2, y3⟩ := c4_of hr
        have f0 := free_in hr 0
        have f1 := free_in hr 1
        have f2 := free_in hr 2
        have f3 := free_in hr 3
        have HG2 := Lib.hid hG
        have HRB := Lib.hid hr
        clear hr hG ho z0 z1 z2 z3 x0 x1 x2 x3 g2
        go_wp2_with fail
        obtain ⟨z0, z1, z2, z3⟩ := c4_of (set4_at HRB.out (.int .i64 u) (.int .i64 u') (.int .i64 u'') (.slice up uq um))
        refine bodyPost_ret (v := .tuple #[.agg #[.int .i64 u, .int .i64 u', .int .i64 u'', .slice up uq um], .int .i64 ux]) (by simp [results, Try.results47, go_sem, z0, z1, z2, z3]) rfl ?_
        rw [HW.out]
        exact HG2.out.after HNN.out.2.2 hClt HOO.out _ _ _ _
      · have HNN := Lib.hid (And.intro hszr (And.intro hOBr lO))
        have HLV := Lib.hid lv
        have HEN := Lib.hid hends
        have hgl2 := hgl (by omega) (fun t ht => Tm.proper_parts hp t ht)
        rw [hL] at hgl2
        have HGL := Lib.hid hgl2
        clear hgl2
        have HLE := Lib.hid hln
        have HE5 := Lib.hid e5
        have HKN := Lib.hid e6
        obtain ⟨b0, b1, b2, b3⟩ := c4_of HM2.out.sb
        have hn9 : n ≤ 9999 := by omega
        have hsv2 : Lies wr (fun _ => True) (.slice a2 n2 m2) s.args := (HSV.out.1.only (fun h => h rfl) HM2.out.only).more fun _ _ _ => trivial
        have HS2 := Lib.hid hsv2
        have HL2 := Lib.hid hL
        clear lv hends hL hgl hln hszr hOBr lO e5 e6 hsv2
        go_wp2_with fail
        refine (raised_any s n (.slice a2 n2 m2) wr hps hn0 hn9 HS2.out).mono ?_
        intro e w2 hR
        obtain ⟨v2, rfl, hb2, lR⟩ := hR
        obtain ⟨a7, n7, m7, rfl⟩ := lR.isSlice
        have HR2 := Lib.hid (And.intro hb2 (And.intro lR (heap_kept hb2 HM2.out.cnt)))
        clear hb2 lR b0 b1 b2 b3 x0 x1 x2 x3 z0 z1 z2 z3
        go_wp2_with fail
        refine (wholeR_gives (Tm.moved n 0 s) (.slice a7 n7 m7) _ (wr.heap.size ≤ ·) C cj HR2.out.2.1 HR2.out.2.2).mono ?_
        intro e w3 hG
        rcases hpm : Tm.proper (Tm.moved n 0 s) with _ | _
        · rw [whole_er hpm] at hG
          unfold GivesR at hG
          obtain ⟨rfl, ho⟩ := hG
          have hw : put (.mk cn Ss) s n (.mk o h k l) c = .er 5 := by rw [HEN.out, if_pos HE5.out, if_pos HKN.out, hpm]; rfl
          have hoA := ((Only.below HR2.out.1 C).trans ho).alloc (.cells #[.int .i64 0, .int .i64 0, .int .i64 0, .slice none 0 0] 24)
          have hr := Only.keepBlock hoA HM2.out.rb (by have := HNN.out; omega)
          obtain ⟨y0, y1, y2, y3⟩ := c4_of hr
          have f0 := free_in hr 0
          have f1 := free_in hr 1
          have f2 := free_in hr 2
          have f3 := free_in hr 3
          have HRB := Lib.hid hr
          have HOO := Lib.hid (HM2.out.only.trans hoA)
          have HW := Lib.hid hw
          clear hr hoA ho hw
          go_wp2_with fail
          obtain ⟨z0, z1, z2, z3⟩ := c4_of (set4_at HRB.out (.int .i64 0) (.int .i64 0) (.int .i64 0) (.slice none 0 0))
          refine bodyPost_ret (v := .tuple #[.agg #[.int .i64 0, .int .i64 0, .int .i64 0, .slice none 0 0], .int .i64 5]) (by simp [results, Try.results47, go_sem, z0, z1, z2, z3]) rfl ?_
          unfold GivesR
          rw [HW.out]
          exact ⟨rfl, (((HOO.out.new (p := ⟨w.heap.size + 1 + 1 + 1, 0, none⟩) (by simp; omega) _).new (p := ⟨w.heap.size + 1 + 1 + 1, 1, none⟩) (by simp; omega) _).new (p := ⟨w.heap.size + 1 + 1 + 1, 2, none⟩) (by simp; omega) _).new (p := ⟨w.heap.size + 1 + 1 + 1, 3, none⟩) (by simp; omega) _⟩
        · rw [whole_ok hpm] at hG
          unfold GivesR at hG
          obtain ⟨v3, rfl, ho, hc3, lR3⟩ := hG
          obtain ⟨a8, n8, m8, rfl⟩ := lR3.isSlice
          have hw : put (.mk cn Ss) s n (.mk o h k l) c = app Ss (Tm.moved n 0 s) ts cj := by rw [HEN.out, if_pos HE5.out, if_pos HKN.out, hpm]; rfl
          have hoB := ((Only.below HR2.out.1 C).trans ho).alloc (.cells #[.int .i64 (Tm.moved n 0 s).op, .int .i64 (Tm.moved n 0 s).hd, .int .i64 (Tm.moved n 0 s).n, .slice a8 n8 m8] 24)
          have hba := one_below w3 (.cells #[.int .i64 (Tm.moved n 0 s).op, .int .i64 (Tm.moved n 0 s).hd, .int .i64 (Tm.moved n 0 s).n, .slice a8 n8 m8] 24)
          have M4 := HM2.out.ones hClt hoB (heap_kept hba hc3) HM2.out.bd
          have lf := lR3.keep hba
          have hHD := heap_alloc_new w3 (.cells #[.int .i64 (Tm.moved n 0 s).op, .int .i64 (Tm.moved n 0 s).hd, .int .i64 (Tm.moved n 0 s).n, .slice a8 n8 m8] 24)
          obtain ⟨p0, p1, p2, p3⟩ := c4_of hHD
          have b0 := cell_in M4.Sb 0 _ rfl
          have b1 := cell_in M4.Sb 1 _ rfl
          have z3 := cell_in M4.ob 3 _ rfl
          have HLf := Lib.hid lf
          have HM4 := Lib.hid M4
          have HW := Lib.hid hw
          have hs3 : wr.heap.size ≤ w3.heap.size := by have := HR2.out.1.size; have := ho.size; omega
          have HS3 := Lib.hid hs3
          clear hs3 hw lf hHD M4 hba hoB ho hc3 lR3
          go_wp2_with fail
          have hS4 := HSV.out.2.only (fun h => h rfl) HM4.out.only
          refine (hA (OB + 1 ≤ ·) (Tm.moved n 0 s) (.slice a8 n8 m8) (.slice a6 n6 m6) (.slice a3 n3 m3) ts cj _ ?_ ?_ ?_ ?_ hS4 HM4.out.cnt HM2.out.bd hpm HGL.out.1 ?_).mono ?_
          · intro b hb; have := HNN.out; have := HS3.out; have hb' : w3.heap.size + 1 ≤ b := (by simpa using hb); show OB + 1 ≤ b; omega
          · have := HNN.out; show ¬ (OB + 1 ≤ C); omega
          · exact HLf.out.more fun b _ hS => by have := HNN.out; have hS' : wr.heap.size ≤ b := hS; show OB + 1 ≤ b; omega
          · exact HM4.out.row.lies.more fun b _ hS => by have := HNN.out; have hS' : OB + 1 ≤ b := hS; show b ≠ C; omega
          · have := HGL.out.2.1; have := HLE.out; omega
          intro e w5 hG
          obtain ⟨u, u', u'', up, uq, um, ux, rfl, ho⟩ := hG.form
          have hr := Only.keepBlock ho HM4.out.rb (by have := HNN.out; omega)
          obtain ⟨y0, y1, y2, y3⟩ := c4_of hr
          have f0 := free_in hr 0
          have f1 := free_in hr 1
          have f2 := free_in hr 2
          have f3 := free_in hr 3
          have HG2 := Lib.hid hG
          have HRB := Lib.hid hr
          clear hr hG ho z3 b0 b1 p0 p1 p2 p3
          go_wp2_with fail
          obtain ⟨z0, z1, z2, z3⟩ := c4_of (set4_at HRB.out (.int .i64 u) (.int .i64 u') (.int .i64 u'') (.slice up uq um))
          refine bodyPost_ret (v := .tuple #[.agg #[.int .i64 u, .int .i64 u', .int .i64 u'', .slice up uq um], .int .i64 ux]) (by simp [results, Try.results47, go_sem, z0, z1, z2, z3]) rfl ?_
          rw [HW.out]
          exact HG2.out.after HNN.out.2.2 hClt HM4.out.only _ _ _ _
      all_goals
        have hw : put (.mk cn Ss) s n (.mk o h k l) c = whole (.mk o h k ts) cj := by rw [hends, if_neg (by assumption)]
        have HW := Lib.hid hw
        have LV := Lib.hid lv
        have HNN := Lib.hid (And.intro hszr (And.intro hOBr lO))
        clear hw lv hends hL hgl hln hszr hOBr lO
        go_wp2_with fail
        refine (wholeR_gives (.mk o h k ts) (.slice a6 n6 m6) _ (OB + 1 ≤ ·) C cj LV.out HM2.out.cnt).mono ?_
        intro e w2 hG
        obtain ⟨u, u', u'', up, uq, um, ux, rfl, ho⟩ := hG.form
        have hr := Only.keepBlock ho HM2.out.rb (by have := HNN.out; omega)
        obtain ⟨y0, y1, y2, y3⟩ := c4_of hr
        have f0 := free_in hr 0
        have f1 := free_in hr 1
        have f2 := free_in hr 2
        have f3 := free_in hr 3
        have HG2 := Lib.hid hG
        have HRB := Lib.hid hr
        clear hr hG ho z0 z1 z2 z3 x0 x1 x2 x3
        go_wp2_with fail
        obtain ⟨z0, z1, z2, z3⟩ := c4_of (set4_at HRB.out (.int .i64 u) (.int .i64 u') (.int .i64 u'') (.slice up uq um))
        refine bodyPost_ret (v := .tuple #[.agg #[.int .i64 u, .int .i64 u', .int .i64 u'', .slice up uq um], .int .i64 ux]) (by simp [results, Try.results47, go_sem, z0, z1, z2, z3]) rfl ?_
        rw [HW.out]
        exact HG2.out.after HNN.out.2.2 hClt HM2.out.only _ _ _ _
end Go.Proofs.Ytieakippgeehgaa.Sb
