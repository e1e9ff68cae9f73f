/- The contract of term.SameSimple. -/
import Derived.Test.YtomahhdhnlfabaaProg
import Derived.Test.YtomahhdhnlfabaaSmSame
import Derived.Test.YtomahhdhnlfabaaTmSameG
import Derived.Test.YtomahhdhnlfabaaTmProper
import Derived.Test.YtomahhdhnlfabaaTmRenS
import Derived.Test.YtomahhdhnlfabaaTmAwake
import Derived.Deep.RegionHeld3
import Derived.Deep.DeepCutAuto
import Derived.Deep.LoopGhost
import Derived.Deep.DrawnRows
import Derived.BigRegion
import Derived.OwnWalk
namespace Go.Proofs.Ytomahhdhnlfabaa.Sp
open Go.RowKit
set_option linter.unusedSimpArgs false
set_option linter.unusedVariables false

theorem sm_info : (Try.prog.info? 27).map (fun i => (i.zero, i.size, i.bytes)) = some (some (.agg #[.slice none 0 0, .int .i64 0]), 2, 32) := by kernel_rfl
abbrev Cells4P (W : World) (p1 p2 p3 p4 : Addr) (u1 u2 u3 u4 : Value) : Prop := W.cell? p1 = some u1 ∧ W.cell? p2 = some u2 ∧ W.cell? p3 = some u3 ∧ W.cell? p4 = some u4
abbrev Cells2 (W : World) (b : Nat) (u1 u2 : Value) : Prop := W.cell? ⟨b, 0, none⟩ = some u1 ∧ W.cell? ⟨b, 1, none⟩ = some u2
theorem keep2 {w1 w2 : World} {p1 p2 : Addr} {u1 u2 : Value} (hb : Below w1.heap.size w1 w2) (x : w1.cell? p1 = some u1 ∧ w1.cell? p2 = some u2) : w2.cell? p1 = some u1 ∧ w2.cell? p2 = some u2 :=
  ⟨kept_cell hb x.1, kept_cell hb x.2⟩
theorem keepH2 {B : Nat} {w1 w2 : World} {u1 u2 : Value} (hb : w2.heap[B]? = w1.heap[B]?) (x : w1.cell? ⟨B, 0, none⟩ = some u1 ∧ w1.cell? ⟨B, 1, none⟩ = some u2) : w2.cell? ⟨B, 0, none⟩ = some u1 ∧ w2.cell? ⟨B, 1, none⟩ = some u2 := by
  have go : ∀ j u, w1.cell? ⟨B, j, none⟩ = some u → w2.cell? ⟨B, j, none⟩ = some u := fun j u e => by rw [World.cell?_of_block (w := w1) hb]; exact e
  exact ⟨go _ _ x.1, go _ _ x.2⟩

set_option maxHeartbeats 1000000 in
set_option maxRecDepth 100000 in
theorem eqHead_any (n n' : Int) (a2 a3 : Option Addr) (n2 m2 n3 m3 : Nat) (w : World) :
    Calls Try.prog 48 #[.agg #[.slice a2 n2 m2, .int .i64 n], .agg #[.slice a3 n3 m3, .int .i64 n']] w
      fun e w' => e = .returned (.bool (n == n')) ∧ Below w.heap.size w w' := by
  have hb := two_below w (.cells #[.slice a2 n2 m2, .int .i64 n] 27) (.cells #[.slice a3 n3 m3, .int .i64 n'] 27)
  rcases e3 : (n == n') with _ | _
  all_goals
    go_enter Try.func48, Try.ntmps48
    go_wp2
    go_ret
    exact ⟨rfl, hb⟩

set_option maxHeartbeats 1000000 in
set_option maxRecDepth 100000 in
theorem argsOf_any (n : Int) (a2 : Option Addr) (n2 m2 : Nat) (w : World) :
    Calls Try.prog 49 #[.agg #[.slice a2 n2 m2, .int .i64 n]] w fun e w' => e = .returned (.slice a2 n2 m2) ∧ Below w.heap.size w w' := by
  go_enter Try.func49, Try.ntmps49
  go_wp2
  go_ret
  exact ⟨rfl, one_below w _⟩

/-- what the loop of same keeps -/
def SameSt (w : World) (r : Bool) (k : Nat) (v9 v10 : Value) (wr : World) : Prop :=
  ∃ (gL capL gR capR n : Nat) (ls rs : List Tm) (vl vr : List Value), v9 = .slice (some ⟨gL, 0, none⟩) n capL ∧ v10 = .slice (some ⟨gR, 0, none⟩) n capR ∧ Stk wr w.heap.size 27 gL n capL ls vl ∧ Stk wr w.heap.size 27 gR n capR rs vr ∧ gL ≠ gR ∧
    Tm.sameL ls rs = r ∧ k = Tm.szL ls ∧ Tm.szL ls ≤ 4194304 ∧ Below w.heap.size w wr

theorem sameSt_start {n n' : Int} {v v' : Value} {l l' : List Tm} {w X : World} {r : Bool} {gL gR : Nat} (hv : Lies w (fun _ => True) v l) (hv' : Lies w (fun _ => True) v' l') (hf : (Tm.mk n l).fit) (hf' : (Tm.mk n' l').fit)
    (hr : r = Tm.same (.mk n l) (.mk n' l')) (hb : Below w.heap.size w X) (h1 : X.heap[gL]? = some (.cells #[v, .int .i64 n] 27 (0, 0))) (h2 : X.heap[gR]? = some (.cells #[v', .int .i64 n'] 27 (0, 0)))
    (hL : w.heap.size ≤ gL) (hR : w.heap.size ≤ gR) (hne : gL ≠ gR) (hsz : Tm.sz (.mk n l) ≤ 4194304) : SameSt w r (Tm.sz (.mk n l)) (.slice (some ⟨gL, 0, none⟩) 1 1) (.slice (some ⟨gR, 0, none⟩) 1 1) X :=
  ⟨gL, 1, gR, 1, 1, [.mk n l], [.mk n' l'], [v], [v'], rfl, rfl, Stk.one hL h1 ((hv.more fun b hb _ => hb).keep hb) hf, Stk.one hR h2 ((hv'.more fun b hb _ => hb).keep hb) hf', hne, by rw [hr]; simp [Tm.sameL], by simp [Tm.szL], by simp only [Tm.szL]; omega, hb⟩

/-- two blocks that were just made -/
def TwoNew (wr : World) (c1 c2 : Array Value) (B1 B2 : Nat) (wx : World) : Prop :=
  wx.heap[B1]? = some (.cells c1 27 (0, 0)) ∧ wx.heap[B2]? = some (.cells c2 27 (0, 0)) ∧ wr.heap.size ≤ B1 ∧ wr.heap.size ≤ B2 ∧ B1 ≠ B2 ∧ Below wr.heap.size wr wx

theorem twoNewA (wr : World) (c1 c2 : Array Value) : TwoNew wr c1 c2 wr.heap.size (wr.heap.size + 1) ((wr.alloc (.cells c1 27)).alloc (.cells c2 27)).drew :=
  ⟨(two_blocks wr c1 c2 _ _).1, (two_blocks wr c1 c2 _ _).2, Nat.le_refl _, by omega, by omega, (two_below wr _ _).drew⟩
theorem twoNewB (wr : World) (c1 c2 : Array Value) : TwoNew wr c1 c2 (wr.heap.size + 1) wr.heap.size ((wr.alloc (.cells c2 27)).alloc (.cells c1 27)).drew :=
  ⟨(two_blocks wr c2 c1 _ _).2, (two_blocks wr c2 c1 _ _).1, by omega, Nat.le_refl _, by omega, (two_below wr _ _).drew⟩

set_option maxHeartbeats 4000000 in
set_option maxRecDepth 100000 in
theorem same74_any (n n' : Int) (v v' : Value) (l l' : List Tm) (w : World) (hv : Lies w (fun _ => True) v l) (hv' : Lies w (fun _ => True) v' l') (hf : (Tm.mk n l).fit) (hf' : (Tm.mk n' l').fit) (hsz : Tm.sz (.mk n l) ≤ 4194304) :
    Calls Try.prog 50 #[.agg #[v, .int .i64 n], .agg #[v', .int .i64 n'], .func (.func 48) #[] #[], .func (.func 49) #[] #[]] w
      fun e w' => e = .returned (.bool (Tm.same (.mk n l) (.mk n' l'))) ∧ Below w.heap.size w w' := by
  obtain ⟨a2, n2, m2, rfl⟩ := hv.isSlice
  obtain ⟨a3, n3, m3, rfl⟩ := hv'.isSlice
  have HV := Lib.hid hv
  have HV' := Lib.hid hv'
  have HF := Lib.hid hf
  have HF' := Lib.hid hf'
  have HSZ := Lib.hid hsz
  obtain ⟨r, hr⟩ : ∃ r, r = Tm.same (.mk n l) (.mk n' l') := ⟨_, rfl⟩
  rw [← hr]
  have HR := Lib.hid hr
  clear hv hv' hf hf' hsz hr
  go_enter Try.func50, Try.ntmps50
  go_upto_region 1 with fail
  go_cut [9, 10] (fun v9 v10 wx => SameSt w r (Tm.sz (.mk n l)) v9 v10 wx)
  case first =>
    have HQ := Lib.hid (four_blocks w #[.slice a2 n2 m2, .int .i64 n] #[.slice a3 n3 m3, .int .i64 n'] #[.slice a2 n2 m2, .int .i64 n] #[.slice a3 n3 m3, .int .i64 n'] 27 27 27 27)
    have HQ' := Lib.hid (four_blocks w #[.slice a2 n2 m2, .int .i64 n] #[.slice a3 n3 m3, .int .i64 n'] #[.slice a3 n3 m3, .int .i64 n'] #[.slice a2 n2 m2, .int .i64 n] 27 27 27 27)
    go_region
    · go_wp2_with fail
      go_meet
      case rel => exact sameSt_start HV.out HV'.out HF.out HF'.out HR.out HQ.out.2.2.2.2.1.drew HQ.out.2.2.1 HQ.out.2.2.2.1 (by omega) (by omega) (by omega) HSZ.out
    · go_wp2_with fail
      go_meet
      case rel => exact sameSt_start HV.out HV'.out HF.out HF'.out HR.out HQ'.out.2.2.2.2.1.drew HQ'.out.2.2.2.1 HQ'.out.2.2.1 (by omega) (by omega) (by omega) HSZ.out
  case rest =>
    have HC := Lib.hid hcut
    clear hcut
    go_wp2_with fail
    go_loopg [9, 10] (Tm.sz (.mk n l)) (fun k v9 v10 wr => SameSt w r k v9 v10 wr)
    case atStart => exact HC.out
    case round =>
      obtain ⟨gL, capL, gR, capR, n0, ls, rs, vl, vr, rfl, rfl, SL, SR, hne, hsame, hk, hszl, hb⟩ := hrel
      have hlenL := SL.len
      have hlenR := SR.len
      cases n0 with
      | zero =>
        obtain rfl : ls = [] := List.eq_nil_of_length_eq_zero hlenL
        have hrt : r = true := by rw [← hsame]; cases rs <;> rfl
        have HRT := Lib.hid hrt
        clear hsame hk hlenL hlenR hrt SL SR
        go_wp2
        go_ret
        exact ⟨ret_bool (by rw [HRT.out]), hb⟩
      | succ m =>
        obtain ⟨ls, a1, rfl, hl1⟩ := concat_of hlenL
        obtain ⟨rs, b1, rfl, hl2⟩ := concat_of hlenR
        obtain ⟨vl, x1, rfl, hl3⟩ := concat_of (by rw [← SL.hl]; exact hlenL)
        obtain ⟨vr, y1, rfl, hl4⟩ := concat_of (by rw [← SR.hl]; exact hlenR)
        obtain ⟨p0, p1, LX, FX, hcl, hcl2⟩ := SL.top
        obtain ⟨q0, q1, LY, FY, hcr, hcr2⟩ := SR.top
        obtain ⟨ax, bx, ofx, nx, mx, kkx, svx, tsx, rfl, RX⟩ := LX.open
        obtain ⟨ay, by', ofy, ny, my, kky, svy, tsy, rfl, RY⟩ := LY.open
        obtain ⟨n1, l1⟩ := a1
        obtain ⟨n2', l2⟩ := b1
        simp only [Tm.n] at p1 q1
        have HSL := Lib.hid SL
        have HSR := Lib.hid SR
        have HSAME := Lib.hid hsame
        have HK := Lib.hid hk
        have HL12 := Lib.hid (hl1.trans hl2.symm)
        have HSZL := Lib.hid hszl
        have HRX := Lib.hid RX
        have HRY := Lib.hid RY
        have HLX := Lib.hid LX
        have HLY := Lib.hid LY
        have hgLb := SL.block
        have hgRb := SR.block
        clear SL SR hsame hk hlenL hlenR hl1 hl2 hl3 hl4 hszl RX RY LX LY
        have hm0 : (0 : Int) ≤ (m : Int) := by omega
        have hm1 : (m : Int) < (m : Int) + 1 := by omega
        go_upto_region 4 with fail
        go_cut [12, 13] (fun p q wx => ∃ B1 B2, p = .pointer (some ⟨B1, 0, none⟩) ∧ q = .pointer (some ⟨B2, 0, none⟩) ∧ TwoNew wr #[.slice ax nx mx, .int .i64 n1] #[.slice ay ny my, .int .i64 n2'] B1 B2 wx)
        case first =>
          have hS0 : Cells4P wr ⟨gL, m * 2, none⟩ ⟨gL, m * 2 + 1, none⟩ ⟨gR, m * 2, none⟩ ⟨gR, m * 2 + 1, none⟩ (.slice ax nx mx) (.int .i64 n1) (.slice ay ny my) (.int .i64 n2') := ⟨p0, p1, q0, q1⟩
          go_region_held3 (fun W => W.cell? ⟨gL, m * 2, none⟩ = some (.slice ax nx mx) ∧ W.cell? ⟨gL, m * 2 + 1, none⟩ = some (.int .i64 n1) ∧ W.cell? ⟨gR, m * 2, none⟩ = some (.slice ay ny my) ∧ W.cell? ⟨gR, m * 2 + 1, none⟩ = some (.int .i64 n2'))
            (first | (with_reducible exact keep4 (Below.refl _ _).drew hS0) | (with_reducible exact keep4 (one_below _ _).drew hS0) | (with_reducible exact keep4 (two_below _ _ _).drew hS0))
            (fail)
          · go_wp2_with fail
            go_meet
            case rel => exact ⟨_, _, rfl, rfl, twoNewA _ _ _⟩
          · go_wp2_with fail
            go_meet
            case rel => exact ⟨_, _, rfl, rfl, twoNewB _ _ _⟩
        case rest =>
          obtain ⟨B1, B2, rfl, rfl, hcut⟩ := hcut
          have HC2 := Lib.hid hcut
          clear hcut p0 p1 q0 q1
          obtain ⟨w5, rfl⟩ : ∃ x : World, x = wc := ⟨_, rfl⟩
          have hS5 : Cells4P w5.drew ⟨B1, 0, none⟩ ⟨B1, 1, none⟩ ⟨B2, 0, none⟩ ⟨B2, 1, none⟩ (.slice ax nx mx) (.int .i64 n1) (.slice ay ny my) (.int .i64 n2') :=
            keep4 (Below.refl _ _).drew ⟨cell_in HC2.out.1 0 _ rfl, cell_in HC2.out.1 1 _ rfl, cell_in HC2.out.2.1 0 _ rfl, cell_in HC2.out.2.1 1 _ rfl⟩
          obtain ⟨bad, hbad⟩ : ∃ bad, bad = !((n1 == n2') && !((nx : Int) != (ny : Int))) := ⟨_, rfl⟩
          have HBAD := Lib.hid hbad
          clear hbad
          go_upto_region 5 with fail
          go_cut [47] (fun c wx => c = .bool bad ∧ Below w5.heap.size w5 wx)
          case first =>
            rcases hq : (n1 == n2') with _ | _
            · have HBD : Hid (bad = true) := by show _ = _; rw [HBAD.out, hq]; rfl
              have call := fun w1 => eqHead_any n1 n2' ax ay nx mx ny my w1
              rw [hq] at call
              clear hq
              refine wp_region_noPanic ?_
              refine wp_region_held_drew (S := fun W => W.cell? ⟨B1, 0, none⟩ = some (.slice ax nx mx) ∧ W.cell? ⟨B1, 1, none⟩ = some (.int .i64 n1) ∧ W.cell? ⟨B2, 0, none⟩ = some (.slice ay ny my) ∧ W.cell? ⟨B2, 1, none⟩ = some (.int .i64 n2')) (by kernel_rfl) hS5 (fun hHeld => ?_)
              refine wpAnyH_take (i := 0) (v := .func (.func 48) #[] #[]) rfl (by kernel_rfl) (by kernel_rfl) (by kernel_rfl) (fun _ _ _ h => h) (Or.inl ⟨by rfl, ?_⟩) hHeld ?_
              · (intro W hW; (try dsimp only at hW); go_simp)
              (try simp only [Act.put, List.setIfInBounds_toArray, List.set_cons_zero, List.set_cons_succ])
              refine wpAnyH_take (i := 1) (v := .agg #[.slice ax nx mx, .int .i64 n1]) rfl (by kernel_rfl) (by kernel_rfl) (by kernel_rfl) (fun _ _ _ h => h) (Or.inl ⟨by rfl, ?_⟩) hHeld ?_
              · (intro W hW; (try dsimp only at hW); go_simp)
              (try simp only [Act.put, List.setIfInBounds_toArray, List.set_cons_zero, List.set_cons_succ])
              refine wpAnyH_take (i := 2) (v := .agg #[.slice ay ny my, .int .i64 n2']) rfl (by kernel_rfl) (by kernel_rfl) (by kernel_rfl) (fun _ _ _ h => h) (Or.inl ⟨by rfl, ?_⟩) hHeld ?_
              · (intro W hW; (try dsimp only at hW); go_simp)
              (try simp only [Act.put, List.setIfInBounds_toArray, List.set_cons_zero, List.set_cons_succ])
              refine wpAnyH_ready (rs := [3]) (by kernel_rfl) (by simp) (AllReadyH.cons rfl (fun K hK => ?_) AllReadyH.nil)
              go_simp
              go_at_call 48
              refine (call _).mono ?_
              rintro e w6 ⟨rfl, hb6⟩
              (try dsimp only)
              refine hK.out _ _ ?_ (fun hNew => ?_)
              · exact keep4 hb6 hHeld
              clear hK K hHeld
              have hHeld := hNew
              clear hNew
              (try simp only [Act.put, List.setIfInBounds_toArray, List.set_cons_zero, List.set_cons_succ])
              refine wpAnyH_take (i := 4) (v := .bool true) rfl (by kernel_rfl) (by kernel_rfl) (by kernel_rfl) (fun _ _ _ h => h) (Or.inl ⟨by rfl, ?_⟩) hHeld ?_
              · (intro W hW; (try dsimp only at hW); go_simp)
              (try simp only [Act.put, List.setIfInBounds_toArray, List.set_cons_zero, List.set_cons_succ])
              refine wpAnyH_take (i := 5) (v := .bool true) rfl (by kernel_rfl) (by kernel_rfl) (by kernel_rfl) (fun _ _ _ h => h) (Or.inl ⟨by rfl, ?_⟩) hHeld ?_
              · (intro W hW; (try dsimp only at hW); go_simp)
              (try simp only [Act.put, List.setIfInBounds_toArray, List.set_cons_zero, List.set_cons_succ])
              refine wpAnyH_take (i := 6) (v := undef) rfl (by kernel_rfl) (by kernel_rfl) (by kernel_rfl) (fun _ _ _ h => h) (Or.inr ⟨by kernel_rfl, rfl⟩) hHeld ?_
              (try simp only [Act.put, List.setIfInBounds_toArray, List.set_cons_zero, List.set_cons_succ])
              refine wpAnyH_take (i := 7) (v := undef) rfl (by kernel_rfl) (by kernel_rfl) (by kernel_rfl) (fun _ _ _ h => h) (Or.inr ⟨by kernel_rfl, rfl⟩) hHeld ?_
              (try simp only [Act.put, List.setIfInBounds_toArray, List.set_cons_zero, List.set_cons_succ])
              refine wpAnyH_take (i := 8) (v := undef) rfl (by kernel_rfl) (by kernel_rfl) (by kernel_rfl) (fun _ _ _ h => h) (Or.inr ⟨by kernel_rfl, rfl⟩) hHeld ?_
              (try simp only [Act.put, List.setIfInBounds_toArray, List.set_cons_zero, List.set_cons_succ])
              refine wpAnyH_take (i := 9) (v := undef) rfl (by kernel_rfl) (by kernel_rfl) (by kernel_rfl) (fun _ _ _ h => h) (Or.inr ⟨by kernel_rfl, rfl⟩) hHeld ?_
              (try simp only [Act.put, List.setIfInBounds_toArray, List.set_cons_zero, List.set_cons_succ])
              refine wpAnyH_take (i := 10) (v := undef) rfl (by kernel_rfl) (by kernel_rfl) (by kernel_rfl) (fun _ _ _ h => h) (Or.inr ⟨by kernel_rfl, rfl⟩) hHeld ?_
              (try simp only [Act.put, List.setIfInBounds_toArray, List.set_cons_zero, List.set_cons_succ])
              refine wpAnyH_take (i := 11) (v := undef) rfl (by kernel_rfl) (by kernel_rfl) (by kernel_rfl) (fun _ _ _ h => h) (Or.inr ⟨by kernel_rfl, rfl⟩) hHeld ?_
              (try simp only [Act.put, List.setIfInBounds_toArray, List.set_cons_zero, List.set_cons_succ])
              refine wpAnyH_take (i := 12) (v := undef) rfl (by kernel_rfl) (by kernel_rfl) (by kernel_rfl) (fun _ _ _ h => h) (Or.inr ⟨by kernel_rfl, rfl⟩) hHeld ?_
              (try simp only [Act.put, List.setIfInBounds_toArray, List.set_cons_zero, List.set_cons_succ])
              refine wpAnyH_take (i := 13) (v := undef) rfl (by kernel_rfl) (by kernel_rfl) (by kernel_rfl) (fun _ _ _ h => h) (Or.inr ⟨by kernel_rfl, rfl⟩) hHeld ?_
              (try simp only [Act.put, List.setIfInBounds_toArray, List.set_cons_zero, List.set_cons_succ])
              refine wpAnyH_take (i := 14) (v := undef) rfl (by kernel_rfl) (by kernel_rfl) (by kernel_rfl) (fun _ _ _ h => h) (Or.inr ⟨by kernel_rfl, rfl⟩) hHeld ?_
              (simp only [Act.put, List.getElem_toArray, List.getElem_cons_succ, List.getElem_cons_zero, List.setIfInBounds_toArray, List.set_cons_zero, List.set_cons_succ])
              refine wpAnyH_take (i := 15) (v := .bool true) rfl (by kernel_rfl) (by kernel_rfl) (by kernel_rfl) (fun _ _ _ h => h) (Or.inl ⟨by rfl, ?_⟩) hHeld ?_
              · (intro W hW; (try dsimp only at hW); go_simp)
              (simp only [Act.put, List.getElem_toArray, List.getElem_cons_succ, List.getElem_cons_zero, List.setIfInBounds_toArray, List.set_cons_zero, List.set_cons_succ])
              refine wpAnyH_done (by kernel_rfl) (NoPanic.normal ?_) _
              go_wp2_with fail
              go_meet
              case rel => exact ⟨congrArg Value.bool HBD.out.symm, (Below.refl _ _).drew.trans hb6⟩
            · have call := fun w1 => eqHead_any n1 n2' ax ay nx mx ny my w1
              rw [hq] at call
              rcases hl : ((nx : Int) != (ny : Int)) with _ | _
              · have HBD : Hid (bad = false) := by show _ = _; rw [HBAD.out, hq, hl]; rfl
                clear hq
                go_region_held3 (fun W => W.cell? ⟨B1, 0, none⟩ = some (.slice ax nx mx) ∧ W.cell? ⟨B1, 1, none⟩ = some (.int .i64 n1) ∧ W.cell? ⟨B2, 0, none⟩ = some (.slice ay ny my) ∧ W.cell? ⟨B2, 1, none⟩ = some (.int .i64 n2'))
                  (first | (with_reducible exact hS5) | (with_reducible exact keep4 hb6 hS5) | (with_reducible exact keep4 hb7 (keep4 hb6 hS5)) | (with_reducible exact keep4 hb8 (keep4 hb7 (keep4 hb6 hS5))))
                  (first | (go_at_call 48; (with_reducible refine (call _).mono ?_); rintro e w6 ⟨rfl, hb6⟩) | (go_at_call 49; (with_reducible refine (argsOf_any n1 ax nx mx _).mono ?_); rintro e w7 ⟨rfl, hb7⟩) | (go_at_call 49; (with_reducible refine (argsOf_any n2' ay ny my _).mono ?_); rintro e w8 ⟨rfl, hb8⟩))
                go_wp2_with fail
                go_meet
                case rel => exact ⟨congrArg Value.bool HBD.out.symm, below_next (below_next ((Below.refl _ _).drew.trans hb6) hb7) hb8⟩
              · have HBD : Hid (bad = true) := by show _ = _; rw [HBAD.out, hq, hl]; rfl
                clear hq
                go_region_held3 (fun W => W.cell? ⟨B1, 0, none⟩ = some (.slice ax nx mx) ∧ W.cell? ⟨B1, 1, none⟩ = some (.int .i64 n1) ∧ W.cell? ⟨B2, 0, none⟩ = some (.slice ay ny my) ∧ W.cell? ⟨B2, 1, none⟩ = some (.int .i64 n2'))
                  (first | (with_reducible exact hS5) | (with_reducible exact keep4 hb6 hS5) | (with_reducible exact keep4 hb7 (keep4 hb6 hS5)) | (with_reducible exact keep4 hb8 (keep4 hb7 (keep4 hb6 hS5))))
                  (first | (go_at_call 48; (with_reducible refine (call _).mono ?_); rintro e w6 ⟨rfl, hb6⟩) | (go_at_call 49; (with_reducible refine (argsOf_any n1 ax nx mx _).mono ?_); rintro e w7 ⟨rfl, hb7⟩) | (go_at_call 49; (with_reducible refine (argsOf_any n2' ay ny my _).mono ?_); rintro e w8 ⟨rfl, hb8⟩))
                go_wp2_with fail
                go_meet
                case rel => exact ⟨congrArg Value.bool HBD.out.symm, below_next (below_next ((Below.refl _ _).drew.trans hb6) hb7) hb8⟩
          case rest =>
            obtain ⟨rfl, hb5⟩ := hcut
            rcases bad with _ | _
            · have hq := HBAD.out
              have hh : n1 = n2' ∧ nx = ny := by
                rcases h1' : (n1 == n2') with _ | _
                · rw [h1'] at hq; simp at hq
                · rw [h1'] at hq
                  simp only [Bool.true_and, Bool.not_not] at hq
                  have h2' := hq.symm
                  rw [bne_eq_false_iff_eq] at h2'
                  simp only [beq_iff_eq] at h1'
                  exact ⟨h1', by omega⟩
              obtain ⟨rfl, rfl⟩ := hh
              clear hq HBAD
              obtain ⟨w6, rfl⟩ : ∃ x : World, x = wc := ⟨_, rfl⟩
              have hlx : l1.length = nx := HRX.out.length
              have hly : l2.length = nx := HRY.out.length
              have hsame2 : Tm.sameL (ls ++ l1) (rs ++ l2) = r := by
                rw [← HSAME.out, Tm.sameL_snoc _ _ _ _ HL12.out, Tm.sameL_append _ _ _ _ HL12.out]
                simp [Tm.same, hlx, hly]
              have hk2 : Tm.szL (ls ++ l1) < Tm.szL (ls ++ [Tm.mk n1 l1]) := by rw [Tm.szL_append, Tm.szL_append]; simp only [Tm.szL, Tm.sz]; omega
              have hm2 : m + nx ≤ 4194304 := by
                have h1' := Tm.length_le_szL (ls ++ l1)
                have h2' := HSL.out.len
                have h3' := HSZL.out
                simp only [List.length_append, List.length_singleton] at h1' h2'
                omega
              have b5 : Below wr.heap.size wr w6 := below_next HC2.out.2.2.2.2.2 hb5
              have Bw6 : Below w.heap.size w w6 := below_next hb b5
              have SL6 := Lib.hid (HSL.out.below b5)
              have SR6 := Lib.hid (HSR.out.below b5)
              have hx6 : Cells2 w6.drew B1 (.slice ax nx mx) (.int .i64 n1) := keep2 (Below.refl _ _).drew (keep2 hb5 ⟨cell_in HC2.out.1 0 _ rfl, cell_in HC2.out.1 1 _ rfl⟩)
              have hB2 := Lib.hid (heap_kept hb5 HC2.out.2.1)
              have hB1g : B1 ≠ gL := by have := HC2.out.2.2.1; omega
              have hB2g : B2 ≠ gL := by have := HC2.out.2.2.2.1; omega
              have hB2r : B2 ≠ gR := by have := HC2.out.2.2.2.1; omega
              have hB1b : B1 < w6.heap.size := lt_of_block (heap_kept hb5 HC2.out.1)
              obtain ⟨i0, hi0, hz0, hz1, hz2⟩ := info_parts sm_info
              have hcl' : (m : Int) ≤ (capL : Int) := by omega
              have hcr' : (m : Int) ≤ (capR : Int) := by omega
              have hnl : (flat l1 ((List.range nx).map svx)).length = nx * 2 := by rw [flat_length _ _ (by simp [hlx]), hlx]
              have hnr : (flat l2 ((List.range nx).map svy)).length = nx * 2 := by rw [flat_length _ _ (by simp [hly]), hly]
              have HNL := Lib.hid hnl
              have HNR := Lib.hid hnr
              have HS2 := Lib.hid hsame2
              have HK2 := Lib.hid hk2
              have HXL := Lib.hid hlx
              have HYL := Lib.hid hly
              clear hnl hnr hsame2 hk2 hlx hly
              have h63 : m + nx ≤ maxLen := by unfold maxLen; omega
              have h47 : (m + nx) * 32 ≤ 140737488355328 := by omega
              have hax : ax = none → nx = 0 := fun h => by
                rcases Nat.eq_zero_or_pos nx with h0 | h0
                · exact h0
                · have := HRX.out.hao h0; rw [h] at this; cases this
              have hay : ay = none → nx = 0 := fun h => by
                rcases Nat.eq_zero_or_pos nx with h0 | h0
                · exact h0
                · have := HRY.out.hao h0; rw [h] at this; cases this
              have HAX := Lib.hid hax
              have HAY := Lib.hid hay
              clear hax hay
              go_wp2_with fail
              go_region_held3 (fun W => W.cell? ⟨B1, 0, none⟩ = some (.slice ax nx mx) ∧ W.cell? ⟨B1, 1, none⟩ = some (.int .i64 n1))
                (first | (with_reducible exact hx6) | (with_reducible exact keep2 hb7 hx6) | (with_reducible exact keepH2 hgB hx7))
                (first | (go_at_call 49; (with_reducible refine (argsOf_any n1 ax nx mx _).mono ?_); rintro e w7 ⟨rfl, hb7⟩; have hx7 := keep2 hb7 hx6; have b7 := below_next b5 ((Below.refl w6.heap.size w6).drew.trans hb7); have P7 := Lib.hid ((SL6.out.below ((Below.refl w6.heap.size w6).drew.trans hb7)).pop); have hs7 : w6.heap.size ≤ w7.heap.size := hb7.size) | (have p7 := P7.out.own; refine step_append_any (by rfl) (.tmp 50) (.tmp 53) 25 (by rfl) w.heap.size 27 i0 (.agg #[.slice none 0 0, .int .i64 0]) 2 32 Try.underlying25 hi0 hz0 hz1 hz2 rfl (by omega) gL m capL (flat ls vl) (by rfl) p7 ax nx mx (flat l1 ((List.range nx).map svx)) (by rfl) HNL.out HAX.out (HRX.out.news b7) HRX.out.one h63 h47 (Nat.le_trans Bw6.size hs7) ?_; intro g8 cap8 w8 hown8 hgrow8 hat8 hlt8; have hgB := hgrow8.block B1 (by omega) (by simpa using hB1g)))
              go_wp2_with fail
              have hgb : w.heap.size ≤ gL := hgLb.1
              have SL8 := Lib.hid (P7.out.push (ts' := l1) (vs' := (List.range nx).map svx) (by simp [HXL.out]) HXL.out (HRX.out.subs b7) HRX.out.fits hown8 hgrow8)
              have SR8 := Lib.hid ((SR6.out.below ((Below.refl w6.heap.size w6).drew.trans hb7)).other hgrow8 hne hgb)
              have RY8 := Lib.hid (HRY.out.still (w' := w8) fun b hS hlt => (hgrow8.block b (by have := b7.size; omega) (by have : b < w.heap.size := hS; simp; omega)).trans (b7.block b hlt))
              have hw8 : w7.heap.size ≤ w8.heap.size := hgrow8.size
              have Bw8 : Below w.heap.size w w8 := (below_next Bw6 ((Below.refl w6.heap.size w6).drew.trans hb7)).grown hgrow8 (by have := Bw6.size; omega) (by intro k hk; simp at hk; omega)
              have hB2' := (hgrow8.block B2 (by have := lt_of_block hB2.out; omega) (by simpa using hB2g)).trans (heap_kept ((Below.refl w6.heap.size w6).drew.trans hb7) hB2.out)
              have HB2 := Lib.hid hB2'
              have hg8r : gR ≠ g8 := by
                have h1' := SR6.out.block
                rcases hat8 with h | h <;> omega
              have hx8 : Cells2 w8.drew B2 (.slice ay nx my) (.int .i64 n1) := keep2 (Below.refl _ _).drew ⟨cell_in hB2' 0 _ rfl, cell_in hB2' 1 _ rfl⟩
              have hB28 : B2 < w8.heap.size := lt_of_block hB2'
              clear hB2' hx6 hx7 p7 hown8 hgrow8 hat8 hgB
              go_region_held3 (fun W => W.cell? ⟨B2, 0, none⟩ = some (.slice ay nx my) ∧ W.cell? ⟨B2, 1, none⟩ = some (.int .i64 n1))
                (first | (with_reducible exact hx8) | (with_reducible exact keep2 hb9 hx8) | (with_reducible exact keepH2 hgB' hx9))
                (first | (go_at_call 49; (with_reducible refine (argsOf_any n1 ay nx my _).mono ?_); rintro e w9 ⟨rfl, hb9⟩; have hx9 := keep2 hb9 hx8; have b9 := (Below.refl w8.heap.size w8).drew.trans hb9; have P9 := Lib.hid ((SR8.out.below b9).pop); have hs9 : w8.heap.size ≤ w9.heap.size := hb9.size) | (have p9 := P9.out.own; refine step_append_any (by rfl) (.tmp 57) (.tmp 60) 25 (by rfl) w.heap.size 27 i0 (.agg #[.slice none 0 0, .int .i64 0]) 2 32 Try.underlying25 hi0 hz0 hz1 hz2 rfl (by omega) gR m capR (flat rs vr) (by rfl) p9 ay nx my (flat l2 ((List.range nx).map svy)) (by rfl) HNR.out HAY.out (RY8.out.news b9) RY8.out.one h63 h47 (Nat.le_trans Bw8.size hs9) ?_; intro g10 cap10 w10 hown10 hgrow10 hat10 hlt10; have hgB' := hgrow10.block B2 (by omega) (by simpa using hB2r)))
              go_wp2_with fail
              have hgRb' : w.heap.size ≤ gR := hgRb.1
              go_roundg (Tm.szL (ls ++ l1))
              case measure => rw [HK.out]; exact HK2.out
              case rel =>
                have SR10 := P9.out.push (ts' := l2) (vs' := (List.range nx).map svy) (by simp [HYL.out]) HYL.out (RY8.out.subs b9) RY8.out.fits hown10 hgrow10
                have SL10 := (SL8.out.below b9).other hgrow10 hg8r hgRb'
                have hg8b := SL8.out.block
                exact ⟨g8, cap8, g10, cap10, m + nx, ls ++ l1, rs ++ l2, _, _, rfl, rfl, SL10, SR10, by rcases hat10 with h | h <;> omega, HS2.out, rfl, by have := HK2.out; have := HSZL.out; omega, (below_next Bw8 b9).grown hgrow10 (by have := Bw8.size; omega) (by intro k hk; simp at hk; omega)⟩
            · have hsm : Tm.same (.mk n1 l1) (.mk n2' l2) = false := by
                have e1 := HRX.out.length
                have e2 := HRY.out.length
                have hq := HBAD.out
                rcases h : Tm.same (.mk n1 l1) (.mk n2' l2) with _ | _
                · rfl
                · exfalso
                  have h' := (Tm.same_iff _ _).1 h
                  simp only [Tm.mk.injEq] at h'
                  obtain ⟨rfl, rfl⟩ := h'
                  have : nx = ny := by omega
                  subst this
                  simp at hq
              have hrf : r = false := by rw [← HSAME.out, Tm.sameL_snoc _ _ _ _ HL12.out, hsm, Bool.and_false]
              have HRF := Lib.hid hrf
              clear hsm hrf
              go_wp2
              go_ret
              exact ⟨ret_bool (by rw [HRF.out]), below_next (below_next hb HC2.out.2.2.2.2.2) hb5⟩

set_option maxHeartbeats 1000000 in
set_option maxRecDepth 100000 in
/-- term.SameSimple answers whether two simple types are equal. -/
theorem sameS_any (n n' : Int) (v v' : Value) (l l' : List Tm) (w : World) (hv : Lies w (fun _ => True) v l) (hv' : Lies w (fun _ => True) v' l') (hf : (Tm.mk n l).fit) (hf' : (Tm.mk n' l').fit) (hsz : Tm.sz (.mk n l) ≤ 4194304) :
    Calls Try.prog 19 #[.agg #[v, .int .i64 n], .agg #[v', .int .i64 n']] w
      fun e w' => e = .returned (.bool (Tm.same (.mk n l) (.mk n' l'))) ∧ Below w.heap.size w w' := by
  obtain ⟨a2, n2, m2, rfl⟩ := hv.isSlice
  obtain ⟨a3, n3, m3, rfl⟩ := hv'.isSlice
  have hb := two_below w (.cells #[.slice a2 n2 m2, .int .i64 n] 27) (.cells #[.slice a3 n3 m3, .int .i64 n'] 27)
  have call := same74_any n n' _ _ l l' _ (hv.keep hb) (hv'.keep hb) hf hf' hsz
  obtain ⟨r, hr⟩ : ∃ r, r = Tm.same (.mk n l) (.mk n' l') := ⟨_, rfl⟩
  rw [← hr] at call
  rw [← hr]
  clear hv hv' hf hf' hsz hr
  go_enter Try.func19, Try.ntmps19
  go_wp2_with fail
  refine call.mono ?_
  rintro e w1 ⟨rfl, hb1⟩
  go_wp2
  go_ret
  exact ⟨rfl, below_next hb hb1⟩

end Go.Proofs.Ytomahhdhnlfabaa.Sp
