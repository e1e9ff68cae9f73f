/- The contract of sign.Swap: the cases with an error. -/
import Derived.Test.YteoheeddjddekaaSgY
import Derived.Test.YteoheeddjddekaaSgU
import Derived.BigRegion
namespace Go.Proofs.Yteoheeddjddekaa
open Go.RowKit
set_option linter.unusedSimpArgs false
set_option linter.unusedVariables false

/-- the constants i and i + 1 of a row, exchanged -/
def exch (l : List Dc) (i : Nat) : List Dc := (List.range l.length).map fun k => l.getD (if k = i then i + 1 else if k = i + 1 then i else k) ⟨⟨#[]⟩, Tm.zero, 0⟩
/-- what Swap returns -/
def swapOut (l : List Dc) (n : Int) : List Dc × Int :=
  if ckOut l n = 0 then (if n = (l.length : Int) - 1 then ([], 6) else if n ∈ consL (clAt l (n.toNat + 1)) then ([], 27) else (exch (l.map (Dc.num (swp n))) n.toNat, 0)) else ([], ckOut l n)
/-- a signature and an error that are handed back: the signature in new memory -/
def GivesSE (w : World) (x : List Dc × Int) (e : Ending) (w' : World) : Prop := ∃ a, e = .returned (.tuple #[a, .int .i64 x.2]) ∧ Below w.heap.size w w' ∧ DLies w' (w.heap.size ≤ ·) a x.1
theorem givesSE_nil {w w' : World} {x : List Dc × Int} {c : Int} (h : x = ([], c)) (hb : Below w.heap.size w w') : GivesSE w x (.returned (.tuple #[.slice none 0 0, .int .i64 c])) w' := by
  subst h; exact ⟨_, rfl, hb, DLies.nil _ _⟩

abbrev CellsC (W : World) (p0 p1 p2 p3 p4 : Addr) (x0 x1 x2 x3 x4 : Value) : Prop := W.cell? p0 = some x0 ∧ W.cell? p1 = some x1 ∧ W.cell? p2 = some x2 ∧ W.cell? p3 = some x3 ∧ W.cell? p4 = some x4
theorem cellsC_below {W W' : World} {p0 p1 p2 p3 p4 : Addr} {x0 x1 x2 x3 x4 : Value} (hb : Below W.heap.size W W') (x : CellsC W p0 p1 p2 p3 p4 x0 x1 x2 x3 x4) : CellsC W' p0 p1 p2 p3 p4 x0 x1 x2 x3 x4 :=
  ⟨kept_cell hb x.1, kept_cell hb x.2.1, kept_cell hb x.2.2.1, kept_cell hb x.2.2.2.1, kept_cell hb x.2.2.2.2⟩

set_option maxHeartbeats 4000000 in
set_option maxRecDepth 100000 in
theorem swap_bad (ls : List Dc) (n : Int) (sv : Value) (w : World) (hl : DLies w (fun _ => True) sv ls) (hbad : ¬ (swapOut ls n).2 = 0) : Calls Try.prog 13 #[sv, .int .i64 n] w (GivesSE w (swapOut ls n)) := by
  have h1 := one_below w (.cells #[.int .i64 n] 3)
  have cC := ck_any (fun _ => True) ls n sv _ (hl.keep h1)
  have hc0 := cell_in (heap_alloc_new w (.cells #[.int .i64 n] 3)) 0 (.int .i64 n) rfl
  have H1 := Lib.hid h1
  clear h1
  by_cases hc : ckOut ls n = 0
  · obtain ⟨hf, i, rfl, hi⟩ := ckOut_zero hc
    have hp := formed_proper hf
    have h100 := formed_len hf
    obtain ⟨ao, b, off, len, cap, nm, oo, hh, kk, sc, tt, im, rfl, R⟩ := hl
    have hil : i < len := by rw [← R.length]; exact hi
    have hlen := R.length
    have hrl := R.hl
    have hrc := R.hr
    rw [hlen] at h100
    obtain rfl := R.hao (by omega)
    rw [hc] at cC
    by_cases he : (i : Int) = (len : Int) - 1
    · have HE := Lib.hid (by unfold swapOut; rw [if_pos hc, if_pos (by rw [hlen]; exact he)] : swapOut ls (i : Int) = ([], 6))
      have he' : ((i : Int) == (len : Int) - 1) = true := by simpa using he
      have hdf : IntKind.i64.wrap ((len : Int) - 1) = (len : Int) - 1 := IntWalk.i64_in _ (by omega)
      clear hf hp hc hbad R he
      go_enter Try.func13, Try.ntmps13
      go_wp2_with (go_at_call 35; (with_reducible refine cC.mono ?_); rintro e w1 ⟨rfl, hb1⟩; have HB1 := Lib.hid (below_next H1.out hb1); have hc1 := kept_cell hb1 hc0; clear hb1)
      go_ret2
      exact givesSE_nil HE.out HB1.out
    · have hj : i + 1 < len := by omega
      have hcl : clAt ls (((i : Int)).toNat + 1) = .mk (oo (i + 1)) (hh (i + 1)) (kk (i + 1)) (tt (i + 1)) := by rw [Int.toNat_natCast, clAt_get (by rw [hlen]; exact hj), R.get (i + 1) hj]
      have hin : (i : Int) ∈ consL (.mk (oo (i + 1)) (hh (i + 1)) (kk (i + 1)) (tt (i + 1))) := by
        by_cases h : (i : Int) ∈ consL (.mk (oo (i + 1)) (hh (i + 1)) (kk (i + 1)) (tt (i + 1)))
        · exact h
        · exfalso
          apply hbad
          unfold swapOut
          rw [if_pos hc, if_neg (by rw [hlen]; exact he), hcl, if_neg h]
      have HE := Lib.hid (by unfold swapOut; rw [if_pos hc, if_neg (by rw [hlen]; exact he), hcl, if_pos hin] : swapOut ls (i : Int) = ([], 27))
      have he' : ((i : Int) == (len : Int) - 1) = false := by simpa using he
      have hdf : IntKind.i64.wrap ((len : Int) - 1) = (len : Int) - 1 := IntWalk.i64_in _ (by omega)
      have hsu : IntKind.i64.wrap ((i : Int) + 1) = (i : Int) + 1 := IntWalk.i64_in _ (by omega)
      have hj0 : (0 : Int) ≤ (i : Int) + 1 := by omega
      have hj1 : (i : Int) + 1 < (len : Int) := by omega
      have hpi : Tm.proper (.mk (oo (i + 1)) (hh (i + 1)) (kk (i + 1)) (tt (i + 1))) = true := by have := hp _ (List.getElem_mem (by rw [hlen]; exact hj)); rwa [R.get (i + 1) hj] at this
      have cN := fun w1 (hb : Below w.heap.size w w1) => sgContains_any (.mk (oo (i + 1)) (hh (i + 1)) (kk (i + 1)) (tt (i + 1))) i (sc (i + 1)) w1 ((R.sub (i + 1) hj).keep hb) hpi
      rw [decide_eq_true hin] at cN
      obtain ⟨a9, n9, m9, hsc⟩ := (R.sub (i + 1) hj).isSlice
      rw [hsc] at cN
      simp only [Tm.op, Tm.hd, Tm.n] at cN
      have HR := Lib.hid R
      have CN := Lib.hid cN
      clear hf hp hc hbad R hcl hin hpi cN he
      go_enter Try.func13, Try.ntmps13
      go_upto_region 6 with (go_at_call 35; (with_reducible refine cC.mono ?_); rintro e w1 ⟨rfl, hb1⟩; have HB1 := Lib.hid (below_next H1.out hb1); have hc1 := kept_cell hb1 hc0; clear hb1)
      have HD := Lib.hid (HB1.out.trans ((Below.refl _ _).drew.mono HB1.out.size))
      obtain ⟨d0, d1, d2, d3, d4, d5, hsub⟩ := HR.out.at HB1.out (i + 1) hj
      rw [hsc] at d4
      have hS0 : CellsC w1 ⟨w.heap.size, 0, none⟩ ⟨b, off + (i + 1) * 6 + 1, none⟩ ⟨b, off + (i + 1) * 6 + 2, none⟩ ⟨b, off + (i + 1) * 6 + 3, none⟩ ⟨b, off + (i + 1) * 6 + 4, none⟩ (.int .i64 (i : Int)) (.int .i64 (oo (i + 1))) (.int .i64 (hh (i + 1))) (.int .i64 (kk (i + 1))) (.slice a9 n9 m9) := ⟨hc1, d1, d2, d3, d4⟩
      clear cC hsub d0 d1 d2 d3 d4 d5 hc1 hc0
      go_region_held3 (fun X => CellsC X ⟨w.heap.size, 0, none⟩ ⟨b, off + (i + 1) * 6 + 1, none⟩ ⟨b, off + (i + 1) * 6 + 2, none⟩ ⟨b, off + (i + 1) * 6 + 3, none⟩ ⟨b, off + (i + 1) * 6 + 4, none⟩ (.int .i64 (i : Int)) (.int .i64 (oo (i + 1))) (.int .i64 (hh (i + 1))) (.int .i64 (kk (i + 1))) (.slice a9 n9 m9))
        (first | (with_reducible exact cellsC_below (Below.refl _ _).drew hS0) | (with_reducible exact hcn) | fail)
        (first | (go_at_call 36; (with_reducible refine (CN.out _ HD.out).mono ?_); rintro e w4 ⟨rfl, hb4⟩; have hcn := cellsC_below hb4 (cellsC_below (Below.refl _ _).drew hS0); have HB4 := Lib.hid (below_next HD.out hb4); clear hb4 hS0) | fail)
      go_wp2_with fail
      go_ret2
      exact givesSE_nil HE.out HB4.out
  · have HE := Lib.hid (by unfold swapOut; rw [if_neg hc] : swapOut ls n = ([], ckOut ls n))
    have hc' : (ckOut ls n == 0) = false := by simpa using hc
    obtain ⟨a, m, rfl, hlen⟩ := hl.isSlice
    clear hl hbad
    generalize ckOut ls n = z at *
    go_enter Try.func13, Try.ntmps13
    go_wp2_with (go_at_call 35; (with_reducible refine cC.mono ?_); rintro e w1 ⟨rfl, hb1⟩; have HB1 := Lib.hid (below_next H1.out hb1))
    go_ret2
    exact givesSE_nil HE.out HB1.out
end Go.Proofs.Yteoheeddjddekaa
