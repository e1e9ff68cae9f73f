/- The walk of SignSwapped. -/
import Derived.Test.YteoheeddjddekaaSgMb
import Derived.Test.YteoheeddjddekaaSgSm
namespace Go.Proofs.Yteoheeddjddekaa
open Go.RowKit
set_option linter.unusedSimpArgs false
set_option linter.unusedVariables false

theorem DLies.more {w : World} {S S' : Nat → Prop} {v : Value} {l : List Dc} (hv : DLies w S v l) (hs : ∀ b, b < w.heap.size → S b → S' b) : DLies w S' v l := by
  obtain ⟨ao, b, off, len, cap, nm, o, h, k, sv, ts, im, rfl, R⟩ := hv
  exact ⟨ao, b, off, len, cap, nm, o, h, k, sv, ts, im, rfl, R.isRow, R.hao, fun h0 => hs b (World.block_lt_of_cell? w _ (R.c0 0 h0)) (R.hS h0), R.hl, R.hr, R.c0, R.c1, R.c2, R.c3, R.c4, R.c5, R.rn, R.r0, R.r1, R.r2, R.r3, fun i hi => (R.sub i hi).more hs⟩
theorem dlies_nil_slice {w : World} {S : Nat → Prop} {a : Value} (h : DLies w S a []) : ∃ p m, a = .slice p 0 m := by
  obtain ⟨p, m, e, _⟩ := h.isSlice
  exact ⟨p, m, e⟩

set_option maxHeartbeats 4000000 in
set_option maxRecDepth 100000 in
theorem swapped_bad (w : World) (l : List Dc) (sv : Value) (hl : DLies w (fun _ => True) sv l) (n : Int) (hb : ¬ (swapOut l n).2 = 0) :
    Calls Try.prog 4 #[sv, .int .i64 n] w fun e w' => e = .returned (.bool true) ∧ Below w.heap.size w w' := by
  have c1 := swap_any l n sv w hl
  obtain ⟨c, hx, hc⟩ := swap_err hb
  rw [hx] at c1
  obtain ⟨p, m, rfl, -⟩ := hl.isSlice
  clear hx hl hb
  rcases hc with rfl | rfl | rfl
  all_goals
    go_enter Try.func4, Try.ntmps4
    go_wp2_with fail
    refine c1.mono ?_
    rintro e w1 ⟨a, rfl, hb1, hl1⟩
    obtain ⟨p1, m1, rfl⟩ := dlies_nil_slice hl1
    have HB1 := Lib.hid hb1
    clear hb1 hl1 c1
    go_wp2_with (first | (go_at_call 11; (with_reducible refine (awake_any _).mono ?_); rintro e w5 ⟨rfl, hb5⟩; have HB5 := Lib.hid (below_next HB1.out hb5); clear hb5) | fail)
    go_ret
    exact ⟨rfl, HB5.out⟩

set_option maxHeartbeats 4000000 in
set_option maxRecDepth 100000 in
theorem swapped_walk (w : World) (l : List Dc) (sv : Value) (hl : DLies w (fun _ => True) sv l) (n : Int) (i : Nat) (H : SwapOk l n i) :
    Calls Try.prog 4 #[sv, .int .i64 n] w fun e w' => e = .returned (.bool true) ∧ Below w.heap.size w w' := by
  have c1 := swap_any l n sv w hl
  rw [H.out] at c1
  have c2 := fun (a : Value) w1 (h : DLies w1 (fun _ => True) a (swapped l i)) => swap_any (swapped l i) n a w1 h
  rw [swap_twice H] at c2
  have hfs := swapped_formed H.hf H.hi H.hno
  have c4 := fun (a : Value) w1 (h : DLies w1 (fun _ => True) a (swapped l i)) => sgCheck_any _ (swapped l i) a w1 h
  rw [hfs] at c4
  simp only [if_true] at c4
  obtain rfl := H.hn
  have HH := Lib.hid H
  have hil := H.hi
  have hlen9 := swapped_length l i
  have hgs : ∀ k (hk : k < l.length), (swapped l i)[k]? = some ((l[swk i k]'(swk_lt H.hi hk)).num (swp i)) := fun k hk => by rw [List.getElem?_eq_getElem (by rw [hlen9]; exact hk), swapped_get H.hi hk]
  have HDL := Lib.hid hl
  have h100 := formed_len H.hf
  obtain ⟨ao, b, off, len, cap, nm, oo, hh, kk, sc, tt, im, rfl, R⟩ := hl
  have hlen := R.length
  rw [hlen] at hil hlen9 h100
  have hl1 := R.hl
  have hr1 := R.hr
  obtain rfl := R.hao (by omega)
  have HR := Lib.hid R
  have HGS := Lib.hid hgs
  have HLEN := Lib.hid hlen
  have C2 := Lib.hid c2
  have C4 := Lib.hid c4
  clear hfs R hgs hlen c2 c4
  generalize swapped l i = ms at *
  go_enter Try.func4, Try.ntmps4
  go_wp2_with fail
  refine c1.mono ?_
  rintro e w1 ⟨a, rfl, hb1, hlx⟩
  have hlx1 : DLies w1 (fun _ => True) a ms := hlx.more (fun _ _ _ => trivial)
  have cc2 := C2.out a w1 hlx1
  have HX1 := Lib.hid hlx1
  obtain ⟨ax, bx, ox, lx, cx, nmx, oox, hhx, kkx, scx, ttx, imx, rfl, RX⟩ := hlx1
  have hlenx := RX.length
  obtain rfl : lx = len := by omega
  have hlx1' := RX.hl
  have hrx1 := RX.hr
  obtain rfl := RX.hao (by omega)
  have HRX := Lib.hid RX
  have HB1 := Lib.hid hb1
  clear hb1 c1 hlx RX hlenx
  go_wp2_with fail
  refine cc2.mono ?_
  rintro e w2 ⟨y, rfl, hb2, hly⟩
  have hly2 : DLies w2 (fun _ => True) y l := hly.more (fun _ _ _ => trivial)
  have c3 := sameD_any _ _ l y _ w2 hly2 ((HDL.out.keep HB1.out).keep hb2)
  obtain ⟨py, my, rfl, -⟩ := hly2.isSlice
  rw [HLEN.out] at c3
  rw [HLEN.out]
  have HB2 := Lib.hid (below_next HB1.out hb2)
  have HX2 := Lib.hid (HX1.out.keep hb2)
  have HB12 := Lib.hid hb2
  clear hb2 hly hly2 cc2 HX1
  go_wp2_with fail
  refine c3.mono ?_
  rintro e w3 ⟨rfl, hb3⟩
  have HB3 := Lib.hid (below_next HB2.out hb3)
  have HB13 := Lib.hid (below_next HB12.out hb3)
  have cc4 := C4.out _ w3 (HX2.out.keep hb3)
  clear hb3 c3 HX2
  go_wp2_with fail
  refine cc4.mono ?_
  rintro e w4 ⟨rfl, hb4⟩
  have HB4 := Lib.hid (below_next HB3.out hb4)
  have HB14 := Lib.hid (below_next HB13.out hb4)
  clear hb4 cc4
  go_wp2_with fail
  go_loopw [65] (fun v wr => ∃ j : Nat, j ≤ lx ∧ v = .int .i64 j ∧ Below w.heap.size w wr ∧ Below w1.heap.size w1 wr) (fun v _ => lx - (RowKit.intOf v).toNat)
  case atStart => exact ⟨0, Nat.zero_le _, rfl, HB4.out, HB14.out⟩
  case round =>
    obtain ⟨j, hj, rfl, hbw, hbx⟩ := hrel
    by_cases hlt : j < lx
    · have hsl : swk i j < lx := swk_lt hil hlt
      obtain ⟨x0, -, -, -, -, x5, -⟩ := HRX.out.at hbx j hlt
      obtain ⟨d0, -, -, -, -, d5, -⟩ := HR.out.at hbw (swk i j) hsl
      have hg := HGS.out j (by rw [HLEN.out]; exact hlt)
      rw [List.getElem?_eq_getElem (by rw [HRX.out.length]; exact hlt), HRX.out.get j hlt, HR.out.get (swk i j) hsl, Option.some.injEq] at hg
      simp only [Dc.num, Dc.mk.injEq] at hg
      obtain ⟨e0, -, e5⟩ := hg
      rw [e0] at x0
      rw [e5] at x5
      have hj0 : (0 : Int) ≤ (j : Int) := by omega
      have hj1 : (j : Int) < (lx : Int) := by omega
      have hw : IntKind.i64.wrap ((i : Int) + 1) = (i : Int) + 1 := IntWalk.i64_in _ (by omega)
      have hi0 : (0 : Int) ≤ (i : Int) := by omega
      have hi1 : (i : Int) < (lx : Int) := by omega
      have hi2 : (0 : Int) ≤ (i : Int) + 1 := by omega
      have hi3 : (i : Int) + 1 < (lx : Int) := by omega
      have HBW := Lib.hid (And.intro hbw hbx)
      clear hbw hbx e0 e5
      have hcs : (swk i j = i + 1 ∧ ((j : Int) == (i : Int)) = true) ∨ (swk i j = i ∧ ((j : Int) == (i : Int)) = false ∧ ((j : Int) == (i : Int) + 1) = true) ∨ (swk i j = j ∧ ((j : Int) == (i : Int)) = false ∧ ((j : Int) == (i : Int) + 1) = false) := by
        unfold swk
        by_cases k1 : j = i
        · left; simp [k1]
        · by_cases k2 : j = i + 1
          · right; left; rw [if_neg k1, if_pos k2]; refine ⟨rfl, by simp; omega, by simp; omega⟩
          · right; right; rw [if_neg k1, if_neg k2]; refine ⟨rfl, by simp; omega, by simp; omega⟩
      rcases hcs with ⟨es, g1⟩ | ⟨es, g1, g2⟩ | ⟨es, g1, g2⟩
      all_goals
        rw [es] at d0 d5 x0 x5
        clear es hsl
        go_wp2_with fail
        go_quiet (fail)
        go_wp2_with fail
        go_roundw
        case rel => exact ⟨j + 1, by omega, by go_num, below_drawn HBW.out.1 _, below_drawn HBW.out.2 _⟩
        case measure => simp [RowKit.intOf]; omega
    · obtain rfl : j = lx := by omega
      have HBW := Lib.hid hbw
      clear hbw hbx
      go_wp2_with (first | (go_at_call 11; (with_reducible refine (awake_any _).mono ?_); rintro e w5 ⟨rfl, hb5⟩; have HB5 := Lib.hid (below_next HBW.out hb5); clear hb5) | fail)
      go_ret
      exact ⟨rfl, HB5.out⟩

theorem signSwapped_walk (w : World) (l : List Dc) (sv : Value) (hl : DLies w (fun _ => True) sv l) (n : Int) (hn : I64 n) :
    Calls Try.prog 4 #[sv, .int .i64 n] w fun e w' => e = .returned (.bool true) ∧ Below w.heap.size w w' := by
  by_cases h : (swapOut l n).2 = 0
  · obtain ⟨i, H⟩ := swap_ok h
    exact swapped_walk w l sv hl n i H
  · exact swapped_bad w l sv hl n h
end Go.Proofs.Yteoheeddjddekaa
