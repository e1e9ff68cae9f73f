/- The contract of sign.Swap: the cases with an error. * A row of constants in which two neighbours are exchanged. * The contract of sign.Swap: the case without an error. * The contract of sign.Swap, whole. * sign.objects: the contract of its iterator: the object constants of a formed signature, each with its target, in their order. * The contract of sign.Of. * The contract of sign.Of, whole. * The law's own helpers: con, arrow, nat, numbers. * The law's awake: the first examples come out. -/
import Derived.Test.YteoheeddjddekaaL5c
import Derived.Test.YteoheeddjddekaaL5e
import Derived.BigRegion
import Derived.RangeFuncNested
import Derived.RangeFuncBox
import Derived.RangeFuncLeaves
import Derived.Shelf.Abstract
import Derived.Outline
import Derived.OwnWalkIn
import Derived.TacticsInMore
import Derived.LoopNIn
import Derived.LoopIn
import Derived.Maps.AppendAt
import Derived.Shelf.RegionOpen
import Derived.BigQuiet
namespace Go.Proofs.Yteoheeddjddekaa
open Go.RowKit
set_option linter.unusedSimpArgs false
set_option linter.unusedVariables false

/-- the constants i and i + 1 of a row, exchanged -/
def exch (l : List Dc) (i : Nat) : List Dc := (List.range l.length).map fun k => l.getD (if k = i then i + 1 else if k = i + 1 then i else k) ⟨⟨#[]⟩, Tm.zero, 0⟩
/-- what Swap returns -/
def swapOut (l : List Dc) (n : Int) : List Dc × Int :=
  if ckOut l n = 0 then (if n = (l.length : Int) - 1 then ([], 6) else if n ∈ consL (clAt l (n.toNat + 1)) then ([], 27) else (exch (l.map (Dc.num (swp n))) n.toNat, 0)) else ([], ckOut l n)
/-- a signature and an error that are handed back: the signature in new memory -/
def GivesSE (w : World) (x : List Dc × Int) (e : Ending) (w' : World) : Prop := ∃ a, e = .returned (.tuple #[a, .int .i64 x.2]) ∧ Below w.heap.size w w' ∧ DLies w' (w.heap.size ≤ ·) a x.1
theorem givesSE_nil {w w' : World} {x : List Dc × Int} {c : Int} (h : x = ([], c)) (hb : Below w.heap.size w w') : GivesSE w x (.returned (.tuple #[.slice none 0 0, .int .i64 c])) w' := by
  subst h; exact ⟨_, rfl, hb, DLies.nil _ _⟩

abbrev CellsC (W : World) (p0 p1 p2 p3 p4 : Addr) (x0 x1 x2 x3 x4 : Value) : Prop := W.cell? p0 = some x0 ∧ W.cell? p1 = some x1 ∧ W.cell? p2 = some x2 ∧ W.cell? p3 = some x3 ∧ W.cell? p4 = some x4
theorem cellsC_below {W W' : World} {p0 p1 p2 p3 p4 : Addr} {x0 x1 x2 x3 x4 : Value} (hb : Below W.heap.size W W') (x : CellsC W p0 p1 p2 p3 p4 x0 x1 x2 x3 x4) : CellsC W' p0 p1 p2 p3 p4 x0 x1 x2 x3 x4 :=
  ⟨kept_cell hb x.1, kept_cell hb x.2.1, kept_cell hb x.2.2.1, kept_cell hb x.2.2.2.1, kept_cell hb x.2.2.2.2⟩

set_option maxHeartbeats 4000000 in
set_option maxRecDepth 100000 in
theorem swap_bad (ls : List Dc) (n : Int) (sv : Value) (w : World) (hl : DLies w (fun _ => True) sv ls) (hbad : ¬ (swapOut ls n).2 = 0) : Calls Try.prog 13 #[sv, .int .i64 n] w (GivesSE w (swapOut ls n)) := by
  have h1 := one_below w (.cells #[.int .i64 n] 3)
  have cC := ck_any (fun _ => True) ls n sv _ (hl.keep h1)
  have hc0 := cell_in (heap_alloc_new w (.cells #[.int .i64 n] 3)) 0 (.int .i64 n) rfl
  have H1 := Lib.hid h1
  clear h1
  by_cases hc : ckOut ls n = 0
  · obtain ⟨hf, i, rfl, hi⟩ := ckOut_zero hc
    have hp := formed_proper hf
    have h100 := formed_len hf
    obtain ⟨ao, b, off, len, cap, nm, oo, hh, kk, sc, tt, im, rfl, R⟩ := hl
    have hil : i < len := by rw [← R.length]; exact hi
    have hlen := R.length
    have hrl := R.hl
    have hrc := R.hr
    rw [hlen] at h100
    obtain rfl := R.hao (by omega)
    rw [hc] at cC
    by_cases he : (i : Int) = (len : Int) - 1
    · have HE := Lib.hid (by unfold swapOut; rw [if_pos hc, if_pos (by rw [hlen]; exact he)] : swapOut ls (i : Int) = ([], 6))
      have he' : ((i : Int) == (len : Int) - 1) = true := by simpa using he
      have hdf : IntKind.i64.wrap ((len : Int) - 1) = (len : Int) - 1 := IntWalk.i64_in _ (by omega)
      clear hf hp hc hbad R he
      go_enter Try.func13, Try.ntmps13
      go_wp2_with (go_at_call 35; (with_reducible refine cC.mono ?_); rintro e w1 ⟨rfl, hb1⟩; have HB1 := Lib.hid (below_next H1.out hb1); have hc1 := kept_cell hb1 hc0; clear hb1)
      go_ret2
      exact givesSE_nil HE.out HB1.out
    · have hj : i + 1 < len := by omega
      have hcl : clAt ls (((i : Int)).toNat + 1) = .mk (oo (i + 1)) (hh (i + 1)) (kk (i + 1)) (tt (i + 1)) := by rw [Int.toNat_natCast, clAt_get (by rw [hlen]; exact hj), R.get (i + 1) hj]
      have hin : (i : Int) ∈ consL (.mk (oo (i + 1)) (hh (i + 1)) (kk (i + 1)) (tt (i + 1))) := by
        by_cases h : (i : Int) ∈ consL (.mk (oo (i + 1)) (hh (i + 1)) (kk (i + 1)) (tt (i + 1)))
        · exact h
        · exfalso
          apply hbad
          unfold swapOut
          rw [if_pos hc, if_neg (by rw [hlen]; exact he), hcl, if_neg h]
      have HE := Lib.hid (by unfold swapOut; rw [if_pos hc, if_neg (by rw [hlen]; exact he), hcl, if_pos hin] : swapOut ls (i : Int) = ([], 27))
      have he' : ((i : Int) == (len : Int) - 1) = false := by simpa using he
      have hdf : IntKind.i64.wrap ((len : Int) - 1) = (len : Int) - 1 := IntWalk.i64_in _ (by omega)
      have hsu : IntKind.i64.wrap ((i : Int) + 1) = (i : Int) + 1 := IntWalk.i64_in _ (by omega)
      have hj0 : (0 : Int) ≤ (i : Int) + 1 := by omega
      have hj1 : (i : Int) + 1 < (len : Int) := by omega
      have hpi : Tm.proper (.mk (oo (i + 1)) (hh (i + 1)) (kk (i + 1)) (tt (i + 1))) = true := by have := hp _ (List.getElem_mem (by rw [hlen]; exact hj)); rwa [R.get (i + 1) hj] at this
      have cN := fun w1 (hb : Below w.heap.size w w1) => sgContains_any (.mk (oo (i + 1)) (hh (i + 1)) (kk (i + 1)) (tt (i + 1))) i (sc (i + 1)) w1 ((R.sub (i + 1) hj).keep hb) hpi
      rw [decide_eq_true hin] at cN
      obtain ⟨a9, n9, m9, hsc⟩ := (R.sub (i + 1) hj).isSlice
      rw [hsc] at cN
      simp only [Tm.op, Tm.hd, Tm.n] at cN
      have HR := Lib.hid R
      have CN := Lib.hid cN
      clear hf hp hc hbad R hcl hin hpi cN he
      go_enter Try.func13, Try.ntmps13
      go_upto_region 6 with (go_at_call 35; (with_reducible refine cC.mono ?_); rintro e w1 ⟨rfl, hb1⟩; have HB1 := Lib.hid (below_next H1.out hb1); have hc1 := kept_cell hb1 hc0; clear hb1)
      have HD := Lib.hid (HB1.out.trans ((Below.refl _ _).drew.mono HB1.out.size))
      obtain ⟨d0, d1, d2, d3, d4, d5, hsub⟩ := HR.out.at HB1.out (i + 1) hj
      rw [hsc] at d4
      have hS0 : CellsC w1 ⟨w.heap.size, 0, none⟩ ⟨b, off + (i + 1) * 6 + 1, none⟩ ⟨b, off + (i + 1) * 6 + 2, none⟩ ⟨b, off + (i + 1) * 6 + 3, none⟩ ⟨b, off + (i + 1) * 6 + 4, none⟩ (.int .i64 (i : Int)) (.int .i64 (oo (i + 1))) (.int .i64 (hh (i + 1))) (.int .i64 (kk (i + 1))) (.slice a9 n9 m9) := ⟨hc1, d1, d2, d3, d4⟩
      clear cC hsub d0 d1 d2 d3 d4 d5 hc1 hc0
      go_region_held3 (fun X => CellsC X ⟨w.heap.size, 0, none⟩ ⟨b, off + (i + 1) * 6 + 1, none⟩ ⟨b, off + (i + 1) * 6 + 2, none⟩ ⟨b, off + (i + 1) * 6 + 3, none⟩ ⟨b, off + (i + 1) * 6 + 4, none⟩ (.int .i64 (i : Int)) (.int .i64 (oo (i + 1))) (.int .i64 (hh (i + 1))) (.int .i64 (kk (i + 1))) (.slice a9 n9 m9))
        (first | (with_reducible exact cellsC_below (Below.refl _ _).drew hS0) | (with_reducible exact hcn) | fail)
        (first | (go_at_call 36; (with_reducible refine (CN.out _ HD.out).mono ?_); rintro e w4 ⟨rfl, hb4⟩; have hcn := cellsC_below hb4 (cellsC_below (Below.refl _ _).drew hS0); have HB4 := Lib.hid (below_next HD.out hb4); clear hb4 hS0) | fail)
      go_wp2_with fail
      go_ret2
      exact givesSE_nil HE.out HB4.out
  · have HE := Lib.hid (by unfold swapOut; rw [if_neg hc] : swapOut ls n = ([], ckOut ls n))
    have hc' : (ckOut ls n == 0) = false := by simpa using hc
    obtain ⟨a, m, rfl, hlen⟩ := hl.isSlice
    clear hl hbad
    generalize ckOut ls n = z at *
    go_enter Try.func13, Try.ntmps13
    go_wp2_with (go_at_call 35; (with_reducible refine cC.mono ?_); rintro e w1 ⟨rfl, hb1⟩; have HB1 := Lib.hid (below_next H1.out hb1))
    go_ret2
    exact givesSE_nil HE.out HB1.out
end Go.Proofs.Yteoheeddjddekaa

namespace Go.Proofs.Yteoheeddjddekaa
open Go.RowKit
set_option linter.unusedSimpArgs false
set_option linter.unusedVariables false

/-- values stored one after the other -/
def setAll : Array Value → Nat → List Value → Array Value
  | cs, _, [] => cs
  | cs, a, v :: l => setAll (cs.setIfInBounds a v) (a + 1) l
theorem setAll_size : ∀ (l : List Value) (cs : Array Value) (a : Nat), (setAll cs a l).size = cs.size
  | [], _, _ => rfl
  | v :: l, cs, a => by simp only [setAll, setAll_size l]; simp
theorem setAll_get : ∀ (l : List Value) (cs : Array Value) (a j : Nat), a + l.length ≤ cs.size → (setAll cs a l)[j]? = if a ≤ j ∧ j < a + l.length then l[j - a]? else cs[j]?
  | [], cs, a, j, _ => by simp only [setAll, List.length_nil]; rw [if_neg (by omega)]
  | v :: l, cs, a, j, h => by
    simp only [List.length_cons] at h
    simp only [setAll, List.length_cons]
    rw [setAll_get l _ _ _ (by simp; omega)]
    by_cases h1 : a + 1 ≤ j ∧ j < a + 1 + l.length
    · rw [if_pos h1, if_pos (by omega)]
      obtain ⟨q, hq⟩ : ∃ q, j - a = q + 1 := ⟨j - a - 1, by omega⟩
      rw [hq, List.getElem?_cons_succ]; congr 1; omega
    · rw [if_neg h1]
      by_cases h2 : j = a
      · subst h2
        rw [if_pos (by omega), Nat.sub_self, List.getElem?_cons_zero]
        rw [Array.getElem?_setIfInBounds_self_of_lt (by omega)]
      · rw [if_neg (by omega), Array.getElem?_setIfInBounds_ne (by omega)]

theorem cell_of {w : World} {B j : Nat} {cs : Array Value} {t : TypeId} {fr : Nat × Nat} (hb : w.heap[B]? = some (.cells cs t fr)) {u : Value} (h : w.cell? ⟨B, j, none⟩ = some u) : cs[j]? = some u := by
  simpa [World.cell?, hb] using h

/-- where the constant with the number k stood -/
def swk (i k : Nat) : Nat := if k = i then i + 1 else if k = i + 1 then i else k
theorem swk_lt {i k n : Nat} (hi : i + 1 < n) (hk : k < n) : swk i k < n := by unfold swk; split; omega; split <;> omega
theorem exch_length (l : List Dc) (i : Nat) : (exch l i).length = l.length := by simp [exch]
theorem exch_get {l : List Dc} {i k : Nat} (hi : i + 1 < l.length) (hk : k < l.length) : (exch l i)[k]'(by rw [exch_length]; exact hk) = l[swk i k]'(swk_lt hi hk) := by
  have h := swk_lt hi hk
  simp only [exch, List.getElem_map, List.getElem_range]
  show l.getD (swk i k) _ = _
  rw [List.getD_eq_getElem?_getD, List.getElem?_eq_getElem h]; rfl

theorem exch_lies {W X : World} {g cap i base : Nat} {ms : List Dc} {vs : List Value} {cur : Array Value} (hvl : ms.length = vs.length) (hi : i + 1 < ms.length) (hcur : W.heap[g]? = some (.cells cur 40 (0, 0)))
    (cells : ∀ k (h : k < ms.length) (h' : k < vs.length), W.cell? ⟨g, 0 + k * 6, none⟩ = some (.string ms[k].nm) ∧ W.cell? ⟨g, 0 + k * 6 + 1, none⟩ = some (.int .i64 ms[k].cl.op) ∧ W.cell? ⟨g, 0 + k * 6 + 2, none⟩ = some (.int .i64 ms[k].cl.hd) ∧
      W.cell? ⟨g, 0 + k * 6 + 3, none⟩ = some (.int .i64 ms[k].cl.n) ∧ W.cell? ⟨g, 0 + k * 6 + 4, none⟩ = some vs[k] ∧ W.cell? ⟨g, 0 + k * 6 + 5, none⟩ = some (.int .i64 ms[k].im))
    (hsub : ∀ k (h : k < ms.length) (h' : k < vs.length), Lies W (fun b => base ≤ b ∧ b ≠ g) vs[k] ms[k].cl.args) (hg : base ≤ g) (hf : ∀ d ∈ ms, d.fit) (hcp : ms.length ≤ cap) (hcm : cap ≤ 9223372036854775807)
    (hX : X.heap[g]? = some (.cells (setAll (setAll cur (i * 6) (dcells (ms[i + 1]) (vs[i + 1]'(by omega)))) ((i + 1) * 6) (dcells (ms[i]'(by omega)) (vs[i]'(by omega)))) 40 (0, 0)))
    (hXo : ∀ k, k ≠ g → X.heap[k]? = W.heap[k]?) : DLies X (base ≤ ·) (.slice (some ⟨g, 0, none⟩) ms.length cap) (exch ms i) := by
  have hsz : (i + 2) * 6 ≤ cur.size := by
    have h := cell_of hcur (cells (i + 1) hi (by omega)).2.2.2.2.2
    have := (Array.getElem?_eq_some_iff.1 h).1
    omega
  have hlx : ∀ d v, (dcells d v).length = 6 := fun _ _ => rfl
  have go : ∀ k (hk : k < ms.length) (r : Nat) (hr : r < 6) (u : Value), (dcells (ms[swk i k]'(swk_lt hi hk)) (vs[swk i k]'(by rw [← hvl]; exact swk_lt hi hk)))[r]? = some u → X.cell? ⟨g, 0 + k * 6 + r, none⟩ = some u := by
    intro k hk r hr u hu
    refine cell_in hX _ u ?_
    rw [setAll_get _ _ _ _ (by rw [setAll_size, hlx]; omega), hlx]
    by_cases h1 : k = i + 1
    · subst h1
      rw [if_pos (by omega)]
      have e : swk i (i + 1) = i := by unfold swk; rw [if_neg (by omega), if_pos rfl]
      simp only [e] at hu
      rw [← hu]; congr 1; omega
    · rw [if_neg (by omega), setAll_get _ _ _ _ (by rw [hlx]; omega), hlx]
      by_cases h2 : k = i
      · subst h2
        rw [if_pos (by omega)]
        have e : swk k k = k + 1 := by unfold swk; rw [if_pos rfl]
        simp only [e] at hu
        rw [← hu]; congr 1; omega
      · rw [if_neg (by omega)]
        have e : swk i k = k := by unfold swk; rw [if_neg h2, if_neg h1]
        simp only [e] at hu
        obtain ⟨c0, c1, c2, c3, c4, c5⟩ := cells k hk (by omega)
        rcases (by omega : r = 0 ∨ r = 1 ∨ r = 2 ∨ r = 3 ∨ r = 4 ∨ r = 5) with rfl | rfl | rfl | rfl | rfl | rfl
        · rw [← hu]; exact cell_of hcur c0
        · rw [← hu]; exact cell_of hcur c1
        · rw [← hu]; exact cell_of hcur c2
        · rw [← hu]; exact cell_of hcur c3
        · rw [← hu]; exact cell_of hcur c4
        · rw [← hu]; exact cell_of hcur c5
  have hvk : ∀ k (h : k < ((List.range ms.length).map fun k => vs.getD (swk i k) (.slice none 0 0)).length) (hk : k < ms.length), ((List.range ms.length).map fun k => vs.getD (swk i k) (.slice none 0 0))[k] = vs[swk i k]'(by rw [← hvl]; exact swk_lt hi hk) := fun k h hk => by
    have h' := swk_lt hi hk
    simp only [List.getElem_map, List.getElem_range]
    rw [List.getD_eq_getElem?_getD, List.getElem?_eq_getElem (by omega)]; rfl
  refine DLies.of (S := (base ≤ ·)) (g := g) (off := 0) (exch ms i) ((List.range ms.length).map fun k => vs.getD (swk i k) (.slice none 0 0)) (by simp [exch]) (exch_length _ _) (fun _ => hg) hcp hcm (fun k hk hk' => ?_) (fun d hd => ?_) (fun k hk hk' => ?_)
  · have hk2 : k < ms.length := by rw [exch_length] at hk; exact hk
    rw [exch_get hi hk2, hvk k hk' hk2]
    exact ⟨go k hk2 0 (by omega) _ rfl, go k hk2 1 (by omega) _ rfl, go k hk2 2 (by omega) _ rfl, go k hk2 3 (by omega) _ rfl, go k hk2 4 (by omega) _ rfl, go k hk2 5 (by omega) _ rfl⟩
  · obtain ⟨k, hk, rfl⟩ := List.getElem_of_mem hd
    rw [exch_get hi (by rw [exch_length] at hk; exact hk)]
    exact hf _ (List.getElem_mem _)
  · have hk2 : k < ms.length := by rw [exch_length] at hk; exact hk
    rw [exch_get hi hk2, hvk k hk' hk2]
    exact ((hsub _ (swk_lt hi hk2) (by rw [← hvl]; exact swk_lt hi hk2)).still fun b hS _ => hXo b hS.2).more fun b _ hS => hS.1
end Go.Proofs.Yteoheeddjddekaa

namespace Go.Proofs.Yteoheeddjddekaa
open Go.RowKit
set_option linter.unusedSimpArgs false
set_option linter.unusedVariables false

set_option maxHeartbeats 4000000 in
set_option maxRecDepth 100000 in
theorem swap_good (ls : List Dc) (i : Nat) (sv : Value) (w : World) (hl : DLies w (fun _ => True) sv ls) (hc : ckOut ls i = 0) (he : ¬ (i : Int) = (ls.length : Int) - 1) (hno : ¬ (i : Int) ∈ consL (clAt ls (i + 1))) :
    Calls Try.prog 13 #[sv, .int .i64 i] w (GivesSE w (exch (ls.map (Dc.num (swp i))) i, 0)) := by
  have h1 := one_below w (.cells #[.int .i64 (i : Int)] 3)
  have cC := ck_any (fun _ => True) ls i sv _ (hl.keep h1)
  have hn0 := heap_alloc_new w (.cells #[.int .i64 (i : Int)] 3)
  have hc0 := cell_in hn0 0 (.int .i64 (i : Int)) rfl
  obtain ⟨hf, i', hi', hi⟩ := ckOut_zero hc
  obtain rfl : i' = i := by omega
  have hp := formed_proper hf
  have h100 := formed_len hf
  have cR := fun w1 (hb : Below w.heap.size w w1) (hn : w1.heap[w.heap.size]? = _) => renum_any 38 #[.pointer (some ⟨w.heap.size, 0, none⟩)] (swp i') ls sv w1 (hl.keep hb) hp (by omega) (swap_num w1 w.heap.size i' hn (by omega) (by omega))
  have hmf : ∀ (fn : Fn) (first cap : Array Value) (w : World), (Instr.makeFunc fn first cap).run Try.prog w = .ok (.func fn first cap) w := fun _ _ _ _ => rfl
  have H1 := Lib.hid h1
  have HN0 := Lib.hid hn0
  clear h1 hn0
  rw [hc] at cC
  obtain ⟨ao, b, off, len, cap, nm, oo, hh, kk, sc, tt, im, rfl, R⟩ := hl
  have hlen := R.length
  have hil : i' < len := by rw [← hlen]; exact hi
  have hrl := R.hl
  have hrc := R.hr
  rw [hlen] at h100 he
  obtain rfl := R.hao (by omega)
  have hj : i' + 1 < len := by omega
  rw [clAt_get (by rw [hlen]; exact hj), R.get (i' + 1) hj] at hno
  have he' : ((i' : Int) == (len : Int) - 1) = false := by simpa using he
  have hdf : IntKind.i64.wrap ((len : Int) - 1) = (len : Int) - 1 := IntWalk.i64_in _ (by omega)
  have hsu : IntKind.i64.wrap ((i' : Int) + 1) = (i' : Int) + 1 := IntWalk.i64_in _ (by omega)
  have hj0 : (0 : Int) ≤ (i' : Int) + 1 := by omega
  have hj1 : (i' : Int) + 1 < (len : Int) := by omega
  have hil0 : (0 : Int) ≤ (i' : Int) := by omega
  have hil1 : (i' : Int) < (len : Int) := by omega
  have hpi : Tm.proper (.mk (oo (i' + 1)) (hh (i' + 1)) (kk (i' + 1)) (tt (i' + 1))) = true := by have := hp _ (List.getElem_mem (by rw [hlen]; exact hj)); rwa [R.get (i' + 1) hj] at this
  have cN := fun w1 (hb : Below w.heap.size w w1) => sgContains_any (.mk (oo (i' + 1)) (hh (i' + 1)) (kk (i' + 1)) (tt (i' + 1))) i' (sc (i' + 1)) w1 ((R.sub (i' + 1) hj).keep hb) hpi
  rw [decide_eq_false hno] at cN
  obtain ⟨a9, n9, m9, hsc⟩ := (R.sub (i' + 1) hj).isSlice
  rw [hsc] at cN
  simp only [Tm.op, Tm.hd, Tm.n] at cN
  have HR := Lib.hid R
  have CN := Lib.hid cN
  have CR := Lib.hid cR
  have HLM : Hid ((ls.map (Dc.num (swp i'))).length = len) := Lib.hid (by rw [List.length_map, hlen])
  clear hf hp hc R hno hpi cN he cR hi hi' hlen
  generalize ls.map (Dc.num (swp i')) = ms at *
  go_enter Try.func13, Try.ntmps13
  go_upto_region 6 with (go_at_call 35; (with_reducible refine cC.mono ?_); rintro e w1 ⟨rfl, hb1⟩; have HB1 := Lib.hid (And.intro (below_next H1.out hb1) (heap_kept hb1 HN0.out)); have hc1 := kept_cell hb1 hc0; clear hb1)
  have HD := Lib.hid (HB1.out.1.trans ((Below.refl _ _).drew.mono HB1.out.1.size))
  obtain ⟨d0, d1, d2, d3, d4, d5, hsub⟩ := HR.out.at HB1.out.1 (i' + 1) hj
  rw [hsc] at d4
  have hS0 : CellsC w1 ⟨w.heap.size, 0, none⟩ ⟨b, off + (i' + 1) * 6 + 1, none⟩ ⟨b, off + (i' + 1) * 6 + 2, none⟩ ⟨b, off + (i' + 1) * 6 + 3, none⟩ ⟨b, off + (i' + 1) * 6 + 4, none⟩ (.int .i64 (i' : Int)) (.int .i64 (oo (i' + 1))) (.int .i64 (hh (i' + 1))) (.int .i64 (kk (i' + 1))) (.slice a9 n9 m9) := ⟨hc1, d1, d2, d3, d4⟩
  clear cC hsub d0 d1 d2 d3 d4 d5 hc1 hc0
  go_region_held3 (fun X => CellsC X ⟨w.heap.size, 0, none⟩ ⟨b, off + (i' + 1) * 6 + 1, none⟩ ⟨b, off + (i' + 1) * 6 + 2, none⟩ ⟨b, off + (i' + 1) * 6 + 3, none⟩ ⟨b, off + (i' + 1) * 6 + 4, none⟩ (.int .i64 (i' : Int)) (.int .i64 (oo (i' + 1))) (.int .i64 (hh (i' + 1))) (.int .i64 (kk (i' + 1))) (.slice a9 n9 m9))
    (first | (with_reducible exact cellsC_below (Below.refl _ _).drew hS0) | (with_reducible exact hcn) | fail)
    (first | (go_at_call 36; (with_reducible refine (CN.out _ HD.out).mono ?_); rintro e w4 ⟨rfl, hb4⟩; have hcn := cellsC_below hb4 (cellsC_below (Below.refl _ _).drew hS0); have HB4 := Lib.hid (And.intro (below_next HD.out hb4) (heap_kept hb4 (heap_kept (Below.refl _ _).drew HB1.out.2))); clear hb4 hS0) | fail)
  go_wp2_with fail
  refine (CR.out _ HB4.out.1 HB4.out.2).mono ?_
  rintro e w5 ⟨v5, rfl, hb5, M⟩
  have hlm := HLM.out
  obtain ⟨rfl, hnil⟩ | ⟨g, cap5, vs, hvl, rfl, hg, hcp, hcm, cells, hsub⟩ := M.cells
  · rw [hnil] at hlm; simp at hlm; omega
  obtain ⟨cur, hcur⟩ : ∃ cur, w5.heap[g]? = some (.cells cur 40 (0, 0)) := by
    obtain ⟨vs', _, hown, _⟩ := M.has
    rcases hown.2 with ⟨h, _⟩ | ⟨g', cap', cur, hv, _, hh', _⟩
    · cases h
    · cases hv; exact ⟨cur, hh'⟩
  rw [hlm] at hcp
  have hi5 : i' < ms.length := by omega
  have hj5 : i' + 1 < ms.length := by omega
  obtain ⟨x0, x1, x2, x3, x4, x5⟩ := cells i' hi5 (by omega)
  obtain ⟨y0, y1, y2, y3, y4, y5⟩ := cells (i' + 1) hj5 (by omega)
  simp only [Nat.zero_add] at x0 x1 x2 x3 x4 x5 y0 y1 y2 y3 y4 y5
  have hF := fun k => free_in hcur k
  have f0 := hF (i' * 6)
  have f1 := hF (i' * 6 + 1)
  have f2 := hF (i' * 6 + 2)
  have f3 := hF (i' * 6 + 3)
  have f4 := hF (i' * 6 + 4)
  have f5 := hF (i' * 6 + 5)
  have g0 := hF ((i' + 1) * 6)
  have g1 := hF ((i' + 1) * 6 + 1)
  have g2 := hF ((i' + 1) * 6 + 2)
  have g3 := hF ((i' + 1) * 6 + 3)
  have g4 := hF ((i' + 1) * 6 + 4)
  have g5 := hF ((i' + 1) * 6 + 5)
  have hfam := cell_in (heap_kept hb5 HB4.out.2) 0 (.int .i64 (i' : Int)) rfl
  obtain ⟨px, hpx⟩ : ∃ px, px = ms[i'] := ⟨_, rfl⟩
  obtain ⟨py, hpy⟩ : ∃ py, py = ms[i' + 1] := ⟨_, rfl⟩
  obtain ⟨vx, hvx⟩ : ∃ vx, vx = vs[i']'(by omega) := ⟨_, rfl⟩
  obtain ⟨vy, hvy⟩ : ∃ vy, vy = vs[i' + 1]'(by omega) := ⟨_, rfl⟩
  rw [← hpx] at x0 x1 x2 x3 x5
  rw [← hpy] at y0 y1 y2 y3 y5
  rw [← hvx] at x4
  rw [← hvy] at y4
  obtain ⟨pnx, ⟨pox, phx, pkx, plx⟩, pix⟩ := px
  obtain ⟨pny, ⟨poy, phy, pky, ply⟩, piy⟩ := py
  have hsx := hsub i' hi5 (by omega)
  have hsy := hsub (i' + 1) hj5 (by omega)
  rw [← hvx] at hsx
  rw [← hvy] at hsy
  obtain ⟨ax, nx, mx, rfl⟩ := hsx.isSlice
  obtain ⟨ay, ny, my, rfl⟩ := hsy.isSlice
  simp only [Tm.op, Tm.hd, Tm.n] at x0 x1 x2 x3 x5 y0 y1 y2 y3 y5
  have HM := Lib.hid M
  have HX := Lib.hid (And.intro hb5 (And.intro hcur (And.intro cells hsub)))
  have HPX := Lib.hid (And.intro hpx hpy)
  have HVX := Lib.hid (And.intro hvx hvy)
  have hm0 : (i' : Int) < (ms.length : Int) := by omega
  have hm1 : (i' : Int) + 1 < (ms.length : Int) := by omega
  rw [hlm]
  clear hb5 hcur cells hsub M hpx hpy hvx hvy hsx hsy hcn hF
  have hb4s := HB4.out.1.size
  have hx4 := lt_of_block HB4.out.2
  have hne1 : ¬ g = w.heap.size := by omega
  have hne2 : ¬ w.heap.size = g := by omega
  have HG := Lib.hid hg
  clear hg hb4s hx4
  go_wp2_with fail
  go_region
  have hbase := HB4.out.1.size
  have hgw : w.heap.size ≤ g := by have := HG.out; omega
  have hX := (heap_set_at (j := (i' + 1) * 6 + 5) (.int .i64 pix) (heap_set_at (j := (i' + 1) * 6 + 4) (.slice ax nx mx) (heap_set_at (j := (i' + 1) * 6 + 3) (.int .i64 pkx) (heap_set_at (j := (i' + 1) * 6 + 2) (.int .i64 phx) (heap_set_at (j := (i' + 1) * 6 + 1) (.int .i64 pox) (heap_set_at (j := (i' + 1) * 6) (.string pnx) (heap_set_at (j := i' * 6 + 5) (.int .i64 piy) (heap_set_at (j := i' * 6 + 4) (.slice ay ny my) (heap_set_at (j := i' * 6 + 3) (.int .i64 pky) (heap_set_at (j := i' * 6 + 2) (.int .i64 phy) (heap_set_at (j := i' * 6 + 1) (.int .i64 poy) (heap_set_at (j := i' * 6) (.string pny) HX.out.2.1))))))))))))
  have hXb := (((((((((((((below_next HB4.out.1 HX.out.1).setCell (p := ⟨g, i' * 6, none⟩) hgw (.string pny)).setCell (p := ⟨g, i' * 6 + 1, none⟩) hgw (.int .i64 poy)).setCell (p := ⟨g, i' * 6 + 2, none⟩) hgw (.int .i64 phy)).setCell (p := ⟨g, i' * 6 + 3, none⟩) hgw (.int .i64 pky)).setCell (p := ⟨g, i' * 6 + 4, none⟩) hgw (.slice ay ny my)).setCell (p := ⟨g, i' * 6 + 5, none⟩) hgw (.int .i64 piy)).setCell (p := ⟨g, (i' + 1) * 6, none⟩) hgw (.string pnx)).setCell (p := ⟨g, (i' + 1) * 6 + 1, none⟩) hgw (.int .i64 pox)).setCell (p := ⟨g, (i' + 1) * 6 + 2, none⟩) hgw (.int .i64 phx)).setCell (p := ⟨g, (i' + 1) * 6 + 3, none⟩) hgw (.int .i64 pkx)).setCell (p := ⟨g, (i' + 1) * 6 + 4, none⟩) hgw (.slice ax nx mx)).setCell (p := ⟨g, (i' + 1) * 6 + 5, none⟩) hgw (.int .i64 pix))
  have hXo : ∀ k, k ≠ g → ((((((((((((w5.setCell ⟨g, i' * 6, none⟩ (.string pny)).setCell ⟨g, i' * 6 + 1, none⟩ (.int .i64 poy)).setCell ⟨g, i' * 6 + 2, none⟩ (.int .i64 phy)).setCell ⟨g, i' * 6 + 3, none⟩ (.int .i64 pky)).setCell ⟨g, i' * 6 + 4, none⟩ (.slice ay ny my)).setCell ⟨g, i' * 6 + 5, none⟩ (.int .i64 piy)).setCell ⟨g, (i' + 1) * 6, none⟩ (.string pnx)).setCell ⟨g, (i' + 1) * 6 + 1, none⟩ (.int .i64 pox)).setCell ⟨g, (i' + 1) * 6 + 2, none⟩ (.int .i64 phx)).setCell ⟨g, (i' + 1) * 6 + 3, none⟩ (.int .i64 pkx)).setCell ⟨g, (i' + 1) * 6 + 4, none⟩ (.slice ax nx mx)).setCell ⟨g, (i' + 1) * 6 + 5, none⟩ (.int .i64 pix)).heap[k]? = w5.heap[k]? := fun k hk => by
    rw [Below.heap_setCell _ _ _ _ (by simpa using hk)]; rw [Below.heap_setCell _ _ _ _ (by simpa using hk)]; rw [Below.heap_setCell _ _ _ _ (by simpa using hk)]; rw [Below.heap_setCell _ _ _ _ (by simpa using hk)]; rw [Below.heap_setCell _ _ _ _ (by simpa using hk)]; rw [Below.heap_setCell _ _ _ _ (by simpa using hk)]; rw [Below.heap_setCell _ _ _ _ (by simpa using hk)]; rw [Below.heap_setCell _ _ _ _ (by simpa using hk)]; rw [Below.heap_setCell _ _ _ _ (by simpa using hk)]; rw [Below.heap_setCell _ _ _ _ (by simpa using hk)]; rw [Below.heap_setCell _ _ _ _ (by simpa using hk)]; rw [Below.heap_setCell _ _ _ _ (by simpa using hk)]
  generalize ((((((((((((w5.setCell ⟨g, i' * 6, none⟩ (.string pny)).setCell ⟨g, i' * 6 + 1, none⟩ (.int .i64 poy)).setCell ⟨g, i' * 6 + 2, none⟩ (.int .i64 phy)).setCell ⟨g, i' * 6 + 3, none⟩ (.int .i64 pky)).setCell ⟨g, i' * 6 + 4, none⟩ (.slice ay ny my)).setCell ⟨g, i' * 6 + 5, none⟩ (.int .i64 piy)).setCell ⟨g, (i' + 1) * 6, none⟩ (.string pnx)).setCell ⟨g, (i' + 1) * 6 + 1, none⟩ (.int .i64 pox)).setCell ⟨g, (i' + 1) * 6 + 2, none⟩ (.int .i64 phx)).setCell ⟨g, (i' + 1) * 6 + 3, none⟩ (.int .i64 pkx)).setCell ⟨g, (i' + 1) * 6 + 4, none⟩ (.slice ax nx mx)).setCell ⟨g, (i' + 1) * 6 + 5, none⟩ (.int .i64 pix)) = X at hX hXb hXo ⊢
  have hD := exch_lies (X := X) (base := w.heap.size) hvl hj5 HX.out.2.1 HX.out.2.2.1 (fun k h h' => (HX.out.2.2.2 k h h').more fun b _ hS => ⟨by have := hS.1; omega, hS.2⟩) hgw HM.out.fit (by rw [HLM.out]; exact hcp) hcm (by rw [← HPX.out.1, ← HPX.out.2, ← HVX.out.1, ← HVX.out.2]; exact hX) hXo
  rw [HLM.out] at hD
  have HD9 := Lib.hid (hD.keep (Below.refl _ _).drew)
  have HB9 := Lib.hid (hXb.trans ((Below.refl _ _).drew.mono hXb.size))
  clear hX hXo hXb hD
  go_wp2_with fail
  go_ret2
  exact ⟨_, rfl, HB9.out, HD9.out⟩
end Go.Proofs.Yteoheeddjddekaa

namespace Go.Proofs.Yteoheeddjddekaa
open Go.RowKit
set_option linter.unusedSimpArgs false
set_option linter.unusedVariables false
theorem swap_any (ls : List Dc) (n : Int) (sv : Value) (w : World) (hl : DLies w (fun _ => True) sv ls) : Calls Try.prog 13 #[sv, .int .i64 n] w (GivesSE w (swapOut ls n)) := by
  by_cases h : (swapOut ls n).2 = 0
  · have h0 := h
    unfold swapOut at h
    split at h
    · rename_i hc
      split at h
      · simp at h
      · rename_i he
        split at h
        · simp at h
        · rename_i hno
          obtain ⟨hf, i, rfl, hi⟩ := ckOut_zero hc
          have e : swapOut ls (i : Int) = (exch (ls.map (Dc.num (swp i))) i, 0) := by
            unfold swapOut
            rw [if_pos hc, if_neg he, if_neg hno, Int.toNat_natCast]
          rw [e]
          exact swap_good ls i sv w hl hc he (by rw [Int.toNat_natCast] at hno; exact hno)
    · rename_i hc
      exact absurd h hc
  · exact swap_bad ls n sv w hl h
end Go.Proofs.Yteoheeddjddekaa

namespace Go.Proofs.Yteoheeddjddekaa
open Go.RowKit Go.Shelf
set_option linter.unusedSimpArgs false
set_option linter.unusedVariables false
attribute [local go_sem] Oper.semAt_some

/-- the indices of a slice -/
abbrev Idx (len : Nat) := { i : Nat // i < len }
/-- the object constants among the first k -/
def objUp (len : Nat) (p : Nat → Bool) : Nat → List (Idx len)
  | 0 => []
  | k + 1 => objUp len p k ++ (if h : k < len ∧ p k = true then [⟨k, h.1⟩] else [])
theorem objUp_yes {len : Nat} {p : Nat → Bool} {k : Nat} (h : k < len) (e : p k = true) : objUp len p (k + 1) = objUp len p k ++ [⟨k, h⟩] := by
  simp only [objUp]; rw [dif_pos ⟨h, e⟩]
theorem objUp_no {len : Nat} {p : Nat → Bool} {k : Nat} (e : p k = false) : objUp len p (k + 1) = objUp len p k := by
  simp only [objUp]; rw [dif_neg (by rw [e]; simp), List.append_nil]
theorem objUp_length (len : Nat) (p : Nat → Bool) : ∀ k, (objUp len p k).length ≤ k
  | 0 => by simp [objUp]
  | k + 1 => by
    have := objUp_length len p k
    rcases e : p k with _ | _
    · rw [objUp_no e]; omega
    · by_cases h : k < len
      · rw [objUp_yes h e]; simp; omega
      · simp only [objUp]; rw [dif_neg (by omega)]; simp; omega
/-- what a round is handed -/
def encO (T : Nat → Int) {len : Nat} (x : Idx len) : Array Value := #[.int .i64 (x.1 : Int), .int .i64 (T x.1)]
theorem below_grows {w w' : World} (h : Below w.heap.size w w') : w.grownBy w' none := ⟨h.os, h.tape, h.output, h.size, fun k hk _ => h.block k hk⟩

set_option maxRecDepth 100000 in
set_option maxHeartbeats 4000000 in
theorem obj1_in (n : Nat) (hn : 1 ≤ n) (l Bs : Nat) (S : Nat → Prop) (ls : List Dc) (ao : Option Addr) (b off len cap : Nat) (nm : Nat → ByteArray) (oo hh kk : Nat → Int) (sc : Nat → Value) (tt : Nat → List Tm) (im : Nat → Int) (w0 : World)
    (R : DRow w0 S ao b off len cap nm oo hh kk sc tt im ls) (hp : ∀ x ∈ ls, Tm.proper x.cl = true) (p : Nat → Bool) (T : Nat → Int)
    (hpT : ∀ i, i < len → p i = ((Tm.res (.mk (oo i) (hh i) (kk i) (tt i))).1.hd == 2) ∧ T i = (Tm.res (.mk (oo i) (hh i) (kk i) (tt i))).1.n)
    (J Jx : List (Idx len) → World → Prop) (W : World) (hW : Below w0.heap.size w0 W) (hJ : AbidesFrom W.heap.size J)
    (hY : ∀ pre x W1, J pre W1 → pre.length < len → YieldAt Fence.wide (n - 1) Try.prog l (encO T x) W1 fun e W' =>
      (e = .returned (.bool true) ∧ J (pre ++ [x]) W' ∧ Below w0.heap.size W1 W') ∨ (e = .returned (.bool false) ∧ Jx (pre ++ [x]) W'))
    (hBs : W.cell? ⟨Bs, 0, none⟩ = some (.slice ao len cap)) (hJ0 : J [] W) :
    CallsIn Fence.wide n Try.prog 64 #[.func (.yield l) #[] #[], .pointer (some ⟨Bs, 0, none⟩)] W fun e W' => (∃ v, e = .returned v) ∧
      ((∃ ys, ys = objUp len p len ∧ J ys W') ∨ (∃ pre, True ∧ Jx pre W')) := by
  have hF : Fence.wide.fn 64 := trivial
  have f2 : Fence.wide.fn 42 := trivial
  refine callsIn_of_wp Try.func64 rfl hF ?_ rfl
  simp only [Try.ntmps64, List.size_toArray, List.length_cons, List.length_nil, Nat.reduceAdd, Nat.reduceSub, Array.replicate_succ, Array.replicate_zero, List.push_toArray, List.append_toArray, List.nil_append, List.cons_append]
  have hl := R.hl
  have hr := R.hr
  have HR := Lib.hid R
  have HP := Lib.hid hp
  have HPT := Lib.hid hpT
  have HY := Lib.hid hY
  have HJ := Lib.hid hJ
  have HW := Lib.hid hW
  clear R hp hpT hY hJ hW
  gi_wp2
  gi_loopw [9] (fun i wr => ∃ j : Nat, j ≤ len ∧ i = .int .i64 j ∧ Below w0.heap.size w0 wr ∧ W.heap.size ≤ wr.heap.size ∧ J (objUp len p j) wr) (fun i _ => len - (RowKit.intOf i).toNat)
  case atStart => exact ⟨0, Nat.zero_le _, rfl, HW.out, Nat.le_refl _, hJ0⟩
  case round =>
    obtain ⟨j, hj, rfl, hbw, hsz, hJs⟩ := hrel
    clear hJ0 hBs
    by_cases hlt : j < len
    · obtain rfl := HR.out.hao (by omega)
      obtain ⟨d0, d1, d2, d3, d4, d5, hsub⟩ := HR.out.at hbw j hlt
      have hg := HR.out.get j hlt
      have hjl : j < ls.length := by rw [HR.out.length]; exact hlt
      have hpj := HP.out ls[j] (List.getElem_mem hjl)
      rw [hg] at hpj
      obtain ⟨hpe, hTe⟩ := HPT.out j hlt
      have cR := fun w1 (hb : Below wr.heap.size wr w1) => result_any S (.mk (oo j) (hh j) (kk j) (tt j)) (sc j) w1 (hsub.keep hb) hpj
      obtain ⟨a5, n5, m5, hs5⟩ := hsub.isSlice
      rw [hs5] at d4 cR
      simp only [Tm.op, Tm.hd, Tm.n] at cR
      generalize Tm.res (.mk (oo j) (hh j) (kk j) (tt j)) = rr at *
      obtain ⟨⟨uo, uh, un, ul⟩, cnt⟩ := rr
      simp only [Tm.op, Tm.hd, Tm.n, Tm.args] at cR hpe hTe
      have hba := one_below wr (.cells #[.string (nm j), .int .i64 (oo j), .int .i64 (hh j), .int .i64 (kk j), .slice a5 n5 m5, .int .i64 (im j)] 40)
      have c1 := cR _ hba
      have hyy := fun W1 (hb1 : Below wr.heap.size wr W1) => HY.out (objUp len p j) ⟨j, hlt⟩ W1 (HJ.out _ wr W1 none hJs (below_grows hb1) (by simp)) (by have := objUp_length len p j; omega)
      unfold encO at hyy
      dsimp only at hyy
      rw [hTe] at hyy
      have HYY := Lib.hid hyy
      have HBW := Lib.hid hbw
      have HBA := Lib.hid hba
      have HJS := Lib.hid hJs
      have hwz := hbw.size
      have hj0 : (0 : Int) ≤ (j : Int) := by omega
      have hj1 : (j : Int) < (len : Int) := by omega
      clear hyy hbw hba hJs cR hsub hg hpj hs5 hTe
      rcases hu : (uh == 2) with _ | _
      · rw [hu] at hpe
        have HOU := Lib.hid (objUp_no (len := len) hpe)
        clear hpe HYY
        gi_wp2_with (gi_at_call 42; refine (callsIn_wide.2 c1).mono ?_; rintro e w2 ⟨b2, rfl, hb2, hl2⟩; obtain ⟨a6, n6, m6, rfl⟩ := hl2.isSlice; have HB2 := Lib.hid (below_next HBA.out hb2); clear c1 hb2 hl2)
        refine ⟨fun _ h => (by cases h), ?_⟩
        gi_wp2
        go_roundw
        case rel =>
          have HB3 := below_next HB2.out (one_below w2 (.cells #[.int .i64 uo, .int .i64 uh, .int .i64 un, .slice a6 n6 m6] 25))
          refine ⟨j + 1, by omega, by go_num, below_next HBW.out HB3, Nat.le_trans hsz HB3.size, ?_⟩
          rw [HOU.out]
          exact HJ.out _ wr _ none HJS.out (below_grows HB3) (by simp)
        case measure => simp [RowKit.intOf]; omega
      · rw [hu] at hpe
        have HOU := Lib.hid (objUp_yes hlt hpe)
        clear hpe
        gi_wp2_with (gi_at_call 42; refine (callsIn_wide.2 c1).mono ?_; rintro e w2 ⟨b2, rfl, hb2, hl2⟩; obtain ⟨a6, n6, m6, rfl⟩ := hl2.isSlice; have HB2 := Lib.hid (below_next HBA.out hb2); have HB3 := Lib.hid (below_next HB2.out (one_below w2 (.cells #[.int .i64 uo, .int .i64 uh, .int .i64 un, .slice a6 n6 m6] 25))); obtain ⟨fn, tmps, assign, body, hy, hR⟩ := HYY.out _ HB3.out; clear c1 hb2 hl2)
        refine hR.mono ?_
        rintro e W3 (⟨rfl, hJ3, hk3⟩ | ⟨rfl, hJx3⟩)
        · have HX := Lib.hid (And.intro hJ3 hk3)
          clear hJ3 hk3 hR hy HYY
          gi_wp2
          go_roundw
          case rel =>
            have hs3 := HX.out.2.size
            have hb3 := HB3.out.size
            refine ⟨j + 1, by omega, by go_num, (below_next HBW.out HB3.out).trans HX.out.2, by omega, ?_⟩
            rw [HOU.out]
            exact HX.out.1
          case measure => simp [RowKit.intOf]; omega
        · clear hR hy HYY
          gi_wp2
          refine bodyPost_ret (results_none rfl _ _ _) rfl ?_
          exact ⟨⟨_, rfl⟩, .inr ⟨_, trivial, hJx3⟩⟩
    · obtain rfl : j = len := by omega
      gi_wp2
      go_end0
      exact ⟨⟨_, rfl⟩, .inl ⟨_, rfl, hJs⟩⟩

set_option maxHeartbeats 1000000 in
theorem objects_in (n : Nat) (a : Option Addr) (len cap : Nat) (w : World) :
    CallsIn Fence.wide n Try.prog 43 #[.slice a len cap] w fun e w' => e = .returned (.func (.func 64) #[] #[.pointer (some ⟨w.heap.size, 0, none⟩)]) ∧ w' = w.alloc (.cells #[.slice a len cap] 22) := by
  have hF : Fence.wide.fn 43 := trivial
  refine callsIn_of_wp Try.func43 rfl hF ?_ rfl
  simp only [Try.ntmps43, List.size_toArray, List.length_cons, List.length_nil, Nat.reduceAdd, Nat.reduceSub, Array.replicate_succ, Array.replicate_zero, List.push_toArray, List.append_toArray, List.nil_append, List.cons_append]
  gi_wp2
  go_ret
  exact ⟨rfl, rfl⟩

/-- objects hands back a function value that visits the object constants -/
theorem obj_stops (n : Nat) (hn : 1 ≤ n) (Bs : Nat) (S : Nat → Prop) (ls : List Dc) (ao : Option Addr) (b off len cap : Nat) (nm : Nat → ByteArray) (oo hh kk : Nat → Int) (sc : Nat → Value) (tt : Nat → List Tm) (im : Nat → Int) (w0 w : World)
    (R : DRow w0 S ao b off len cap nm oo hh kk sc tt im ls) (hp : ∀ x ∈ ls, Tm.proper x.cl = true) (p : Nat → Bool) (T : Nat → Int)
    (hpT : ∀ i, i < len → p i = ((Tm.res (.mk (oo i) (hh i) (kk i) (tt i))).1.hd == 2) ∧ T i = (Tm.res (.mk (oo i) (hh i) (kk i) (tt i))).1.n) (hw : Below w0.heap.size w0 w) (hBs : w.cell? ⟨Bs, 0, none⟩ = some (.slice ao len cap)) :
    SeqStopsK Fence.wide n Try.prog 64 #[.pointer (some ⟨Bs, 0, none⟩)] (encO (len := len) T) (Below w0.heap.size) (fun ys => ys = objUp len p len) (fun _ => True) len w := fun l J Jx W hW hJ _ hY h0 =>
  obj1_in n hn l Bs S ls ao b off len cap nm oo hh kk sc tt im w0 R hp p T hpT J Jx W (hw.trans (hW.mono hw.size)) hJ hY (kept_cell hW hBs) h0
end Go.Proofs.Yteoheeddjddekaa

namespace Go.Proofs.Yteoheeddjddekaa
open Go.RowKit Go.Shelf
set_option linter.unusedSimpArgs false
set_option linter.unusedVariables false
attribute [local go_sem] Oper.semAt_some

/-- the object constants with a target -/
def objL (l : List Dc) (n : Int) : List Int := ((List.range l.length).filter fun i => (Tm.res (clAt l i)).1.hd == 2 && decide ((Tm.res (clAt l i)).1.n = n)).map fun (i : Nat) => (i : Int)
/-- what has been collected -/
def colL (T : Nat → Int) (n : Int) {len : Nat} (pre : List (Idx len)) : List Int := (pre.filter fun x => decide (T x.1 = n)).map fun x => (x.1 : Int)
theorem colL_hit (T : Nat → Int) (n : Int) {len : Nat} (pre : List (Idx len)) (x : Idx len) (h : T x.1 = n) : colL T n (pre ++ [x]) = colL T n pre ++ [(x.1 : Int)] := by simp [colL, h]
theorem colL_miss (T : Nat → Int) (n : Int) {len : Nat} (pre : List (Idx len)) (x : Idx len) (h : ¬ T x.1 = n) : colL T n (pre ++ [x]) = colL T n pre := by simp [colL, h]
theorem colL_length (T : Nat → Int) (n : Int) {len : Nat} (pre : List (Idx len)) : (colL T n pre).length ≤ pre.length := by simp [colL]; exact List.length_filter_le _ _
theorem colL_up (T : Nat → Int) (p : Nat → Bool) (n : Int) (len : Nat) : ∀ k, k ≤ len → colL T n (objUp len p k) = ((List.range k).filter fun i => p i && decide (T i = n)).map fun (i : Nat) => (i : Int)
  | 0, _ => by simp [colL, objUp]
  | k + 1, h => by
    have ih := colL_up T p n len k (by omega)
    rw [List.range_succ, List.filter_append, List.map_append, ← ih]
    rcases e : p k with _ | _
    · rw [objUp_no e]; simp [e]
    · rw [objUp_yes (by omega) e]
      by_cases hT : T k = n
      · rw [colL_hit _ _ _ _ hT]; simp [e, hT]
      · rw [colL_miss _ _ _ _ hT]; simp [e, hT]
/-- what Of returns -/
def ofOut (l : List Dc) (n : Int) : List Int × Int := if ckOut l n = 0 then (if Tm.kind (clAt l n.toNat) = true then (objL l n, 0) else ([], 22)) else ([], ckOut l n)

/-- a list of numbers in new memory (in blocks from B on) -/
def IntsNew (B : Nat) (w : World) (v : Value) (xs : List Int) : Prop := ∃ ao b off len cap, IntsAt w v ao b off len cap xs ∧ (0 < len → B ≤ b)
theorem IntsNew.ints {B : Nat} {w : World} {v : Value} {xs : List Int} (h : IntsNew B w v xs) : Ints w v xs := by
  obtain ⟨ao, b, off, len, cap, h, _⟩ := h; exact ⟨ao, b, off, len, cap, h⟩
theorem IntsNew.nil (B : Nat) (w : World) : IntsNew B w (.slice none 0 0) [] := ⟨none, 0, 0, 0, 0, ⟨rfl, rfl, fun h => absurd h (by omega), Nat.le_refl _, by omega, fun i h => absurd h (by simp)⟩, by simp⟩
theorem IntsNew.own {w : World} {B base n : Nat} {e : TypeId} {v : Value} {xs : List Int} (h : w.ownsRow base e 1 v n (xs.map (Value.int .i64))) (hn : xs.length = n) (hB : B ≤ base) : IntsNew B w v xs := by
  rcases h.2 with ⟨rfl, h0⟩ | ⟨g, cap, cur, rfl, hb, hh, hle, hmx, hsz, htk⟩
  · have : xs = [] := List.eq_nil_of_length_eq_zero (by omega)
    subst this; exact IntsNew.nil B w
  · refine ⟨_, g, 0, n, cap, ⟨rfl, hn, fun _ => rfl, hle, by unfold maxLen at hmx; exact hmx, fun i hi => ?_⟩, fun _ => by omega⟩
    have hc := @World.ownsRow.cells w base e 1 _ n _ h g rfl i (.int .i64 xs[i]) (by simp [hi])
    rw [Addr.add_lit] at hc
    exact hc
def OfE (w : World) (r : List Int × Int) (e : Ending) (w' : World) : Prop := ∃ v, e = .returned (.tuple #[v, .int .i64 r.2]) ∧ IntsNew w.heap.size w' v r.1 ∧ Below w.heap.size w w'
theorem Ints.isSlice {w : World} {v : Value} {xs : List Int} (h : Ints w v xs) : ∃ a n m, v = .slice a n m := by
  obtain ⟨ao, b, off, len, cap, h⟩ := h
  exact ⟨_, _, _, h.hv⟩

set_option maxHeartbeats 4000000 in
set_option maxRecDepth 100000 in
theorem of_good (ls : List Dc) (i : Nat) (ao : Option Addr) (b off len cap : Nat) (nm : Nat → ByteArray) (oo hh kk : Nat → Int) (sc : Nat → Value) (tt : Nat → List Tm) (im : Nat → Int) (w : World)
    (R : DRow w (fun _ => True) ao b off len cap nm oo hh kk sc tt im ls) (hp : ∀ x ∈ ls, Tm.proper x.cl = true) (h100 : len ≤ 100) (hil : i < len) (hck : ckOut ls i = 0) (hkd : Tm.kind (.mk (oo i) (hh i) (kk i) (tt i)) = true)
    (p : Nat → Bool) (T : Nat → Int) (hpT : ∀ i, i < len → p i = ((Tm.res (.mk (oo i) (hh i) (kk i) (tt i))).1.hd == 2) ∧ T i = (Tm.res (.mk (oo i) (hh i) (kk i) (tt i))).1.n) :
    Calls Try.prog 19 #[.slice ao len cap, .int .i64 i] w (OfE w (colL T i (objUp len p len), 0)) := by
  have h1 := one_below w (.cells #[.int .i64 (i : Int)] 3)
  have hn1 := heap_alloc_new w (.cells #[.int .i64 (i : Int)] 3)
  have hs1 : (w.alloc (.cells #[.int .i64 (i : Int)] 3)).heap.size = w.heap.size + 1 := by simp
  have cC := ck_any (fun _ => True) ls i (.slice ao len cap) _ (DLies.keep ⟨_, _, _, _, _, _, _, _, _, _, _, _, rfl, R⟩ h1)
  rw [hck] at cC
  have hg := R.get i hil
  have hpi : Tm.proper (.mk (oo i) (hh i) (kk i) (tt i)) = true := by have := hp _ (List.getElem_mem (by rw [R.length]; exact hil)); rwa [hg] at this
  have cK := fun w1 (hb : Below w.heap.size w w1) => isKind_any (fun _ => True) (.mk (oo i) (hh i) (kk i) (tt i)) (sc i) w1 ((R.sub i hil).keep hb) hpi
  rw [hkd] at cK
  obtain ⟨a9, n9, m9, hsc⟩ := (R.sub i hil).isSlice
  rw [hsc] at cK
  simp only [Tm.op, Tm.hd, Tm.n] at cK
  have hrl := R.hl
  have hrc := R.hr
  obtain rfl := R.hao (by omega)
  have HR := Lib.hid R
  have HP := Lib.hid hp
  have H1 := Lib.hid (And.intro h1 (And.intro hn1 hs1))
  have hil0 : (0 : Int) ≤ (i : Int) := by omega
  have hil1 : (i : Int) < (len : Int) := by omega
  have HC0 := Lib.hid (cell_in hn1 0 (.int .i64 (i : Int)) rfl)
  have HPT := Lib.hid hpT
  clear hpT R hp h1 hn1 hs1 hg hpi hck hkd
  refine (callsIn_wide (n := 6)).1 ?_
  refine callsIn_of_wp_marks Try.func19 rfl trivial ?_ rfl
  simp only [Try.ntmps19, List.size_toArray, List.length_cons, List.length_nil, Nat.reduceAdd, Nat.reduceSub, Array.replicate_succ, Array.replicate_zero, List.push_toArray, List.append_toArray, List.nil_append, List.cons_append]
  have f1 : Fence.wide.fn 35 := trivial
  have f2 : Fence.wide.fn 41 := trivial
  have f3 : Fence.wide.fn 43 := trivial
  have hc0 := HC0.out
  gi_wp2_with (first
    | (gi_at_call 35; refine (callsIn_wide.2 cC).mono ?_; rintro e w1 ⟨rfl, hb1⟩; have HB1 := Lib.hid (below_next H1.out.1 hb1); obtain ⟨d0, d1, d2, d3, d4, d5, hsub⟩ := HR.out.at HB1.out i hil; rw [hsc] at d4; have hc1 := kept_cell hb1 hc0; clear hsub d0 d5 cC)
    | (gi_at_call 41; refine (callsIn_wide.2 (cK _ HB1.out)).mono ?_; rintro e w2 ⟨rfl, hb2⟩; have HB2 := Lib.hid (below_next HB1.out hb2); have hc2 := kept_cell hb2 hc1; clear d1 d2 d3 d4 cK)
    | (gi_at_call 43; refine (objects_in 5 _ _ _ _).mono ?_; rintro e w4 ⟨rfl, rfl⟩)
    | fail)
  have bF : Boxed w2 w.heap.size 3 (.int .i64 (i : Int)) := heap_kept hb2 (heap_kept hb1 H1.out.2.1)
  have bO := Boxed.new w2 42 (.slice none 0 0)
  have bN := Boxed.new (w2.alloc (.cells #[.slice none 0 0] 42)) 22 (.slice (some ⟨b, off, none⟩) len cap)
  rw [World.size_alloc] at bN
  have hB0 := below_next HB2.out (two_below w2 (.cells #[.slice none 0 0] 42) (.cells #[.slice (some ⟨b, off, none⟩) len cap] 22))
  have hs1 := H1.out.2.2
  have hs2 : w.heap.size + 1 ≤ w2.heap.size := by have := hb1.size; have := hb2.size; omega
  have hs5 : ((w2.alloc (.cells #[.slice none 0 0] 42)).alloc (.cells #[.slice (some ⟨b, off, none⟩) len cap] 22)).heap.size = w2.heap.size + 2 := by simp
  obtain ⟨i0, hi0, hz0, hz1, hz2⟩ := info_parts int_info
  have bO5 := bO.alloc (.cells #[.slice (some ⟨b, off, none⟩) len cap] 22)
  have bF5 := (bF.alloc (.cells #[.slice none 0 0] 42)).alloc (.cells #[.slice (some ⟨b, off, none⟩) len cap] 22)
  generalize hW5 : ((w2.alloc (.cells #[.slice none 0 0] 42)).alloc (.cells #[.slice (some ⟨b, off, none⟩) len cap] 22)) = W5 at *
  clear hW5
  refine wpIn_rangeFunc_ownG rfl (by omega) (gf := 64) (lb := #[.pointer (some ⟨w2.heap.size + 1, 0, none⟩)]) rfl trivial (enters_of Try.func64 (by kernel_rfl) rfl)
    (obj_stops 5 (by omega) (w2.heap.size + 1) (fun _ => True) ls _ b off len cap nm oo hh kk sc tt im w W5 HR.out HP.out p T HPT.out hB0 bN.cell)
    (fun h1 h2 => belowK_t h1 h2) (belowK_b (by omega)) (Below.refl _ _) (fun _ => rfl)
    (fun pre W => ((∃ v, Boxed W w2.heap.size 42 v ∧ W.ownsRow (w.heap.size + 1) 3 1 v (colL T i pre).length ((colL T i pre).map (Value.int .i64)) ∧ True) ∧ Boxed W w.heap.size 3 (.int .i64 (i : Int))) ∧ Below w.heap.size w W)
    (fun _ _ _ => False)
    (OwnFrom.and (OwnFrom.and (Own.from (holdsRow_own (w.heap.size + 1) w2.heap.size 42 3 1 (fun pre => (colL T i pre).length) (fun pre => (colL T i pre).map (Value.int .i64)) (fun _ _ => True)) _) (fun _ A B row h hg hr => h.kept hg (fun e => by have := (hr _ e.symm).1; omega))) (ownFrom_below (Nat.le_refl _) (by omega)))
    (fun _ _ _ _ _ hs _ _ => hs)
    ⟨⟨⟨_, bO5, World.ownsRow_nil _ _ _ _, trivial⟩, bF5⟩, hB0⟩
    (fun x => { tmps := #[.slice (some ⟨b, off, none⟩) len cap, .int .i64 i, undef, .pointer (some ⟨w.heap.size, 0, none⟩), .slice none 0 0, .int .i64 0, .int .i64 0, .pointer (some ⟨w2.heap.size, 0, none⟩), .int .i64 (x.1 : Int), .int .i64 (T x.1), .slice (some ⟨b, off, none⟩) len cap, .int .i64 i, .int .i64 0, .int .i64 0, .bool false, undef, .slice (some ⟨b, off, none⟩) len cap,
      .int .i64 i, .pointer (some ⟨b, off + i * 6, none⟩), .pointer (some ⟨b, off + i * 6 + 1, none⟩), .agg #[.int .i64 (oo i), .int .i64 (hh i), .int .i64 (kk i), .slice a9 n9 m9], .bool true, .bool false, .slice (some ⟨b, off, none⟩) len cap, .func (.func 64) #[] #[.pointer (some ⟨w2.heap.size + 1, 0, none⟩)],
      .int .i64 (x.1 : Int), .int .i64 (T x.1), undef, undef, undef, undef, undef, undef, undef, undef], defers := [] }) ?assign ?body ?done ?stop
  case assign =>
    intro l x W K hK
    unfold encO
    gi_wp2
    exact hK
  case body =>
    rintro l pre x W ⟨⟨⟨v, hv, hrow, -⟩, hfb⟩, hB⟩ hlt
    have hc := hv.cell
    have hcf := hfb.cell
    have hpl := colL_length T i pre
    have hbs := hB.size
    have hvl := hv.lt
    by_cases hx : T x.1 = (i : Int)
    · have hx' : (T x.1 == (i : Int)) = true := by simpa using hx
      gi_wp2_with (gi_at_builtin; refine wpListIn_append_own _ rfl _ _ 42 rfl (w.heap.size + 1) 3 i0 (.int .i64 0) 1 8 Try.underlying42 hi0 hz0 hz1 hz2 rfl (by decide) _ _ _ rfl (hrow.alloc _) ⟨W.heap.size, 0, none⟩ 1 1 [.int .i64 (x.1 : Int)] rfl rfl (cell_one_new _ _ _) (by simp [Value.oneCell']) (by unfold maxLen; omega) (by omega) (by simp; omega) ?_; intro v' w1 hown' hgrow _; obtain ⟨g', cap', rfl⟩ := ownsRow_succ hown'; obtain ⟨hv1, hv2, hr2, hk2, hb2⟩ := hv.appended (by decide) hrow (by omega) (by omega) hown' hgrow; have hc1 := hv1.cell; have hf1 := hv1.frozen)
      refine ⟨hk2.from _, hb2.mono (by omega), ⟨⟨_, hv2, by rw [colL_hit T i pre x hx]; simpa using hr2, trivial⟩, ?_⟩, hB.trans (hb2.mono (by omega))⟩
      exact (hb2.block _ (by omega)).trans hfb
    · have hx' : (T x.1 == (i : Int)) = false := by simpa using hx
      gi_wp2
      exact ⟨KeepsFrom.refl _ _, Below.refl _ _, ⟨⟨v, hv, by rw [colL_miss T i pre x hx]; exact hrow, trivial⟩, hfb⟩, hB⟩
  case done =>
    rintro D ys W hD rfl ⟨⟨⟨v, hv, hrow, -⟩, hfb⟩, hB⟩ hK
    have hc := hv.cell
    obtain ⟨a7, n7, m7, rfl⟩ := (Ints.own hrow (by simp)).isSlice
    gi_wp2
    refine ⟨by simp, .inl ⟨_, _, rfl, run_takeDeferred hK, ?_⟩⟩
    refine ⟨.tuple #[.slice a7 n7 m7, .int .i64 0], by simp [results, Try.f19, go_sem], _, rfl, IntsNew.own (ownsRow_putObj hrow _ hK rfl) (by simp) (by omega), hB.trans (belowK_b (w := w) (Nat.le_refl _) W D _ _ (by omega) hK rfl rfl)⟩
  case stop =>
    rintro D c pre W _ _ h _
    exact h.elim
end Go.Proofs.Yteoheeddjddekaa

namespace Go.Proofs.Yteoheeddjddekaa
open Go.RowKit Go.Shelf
set_option linter.unusedSimpArgs false
set_option linter.unusedVariables false

set_option maxHeartbeats 2000000 in
set_option maxRecDepth 100000 in
theorem ofE_any (ls : List Dc) (n : Int) (sv : Value) (w : World) (hl : DLies w (fun _ => True) sv ls) : Calls Try.prog 19 #[sv, .int .i64 n] w (OfE w (ofOut ls n)) := by
  have h1 := one_below w (.cells #[.int .i64 n] 3)
  have cC := ck_any (fun _ => True) ls n sv _ (hl.keep h1)
  have hc0 := cell_in (heap_alloc_new w (.cells #[.int .i64 n] 3)) 0 (.int .i64 n) rfl
  by_cases hc : ckOut ls n = 0
  · obtain ⟨hf, i, rfl, hi⟩ := ckOut_zero hc
    have hp := formed_proper hf
    have h100 := formed_len hf
    obtain ⟨ao, b, off, len, cap, nm, oo, hh, kk, sc, tt, im, rfl, R⟩ := hl
    have hil : i < len := by rw [← R.length]; exact hi
    have hg := R.get i hil
    have hcl : clAt ls ((i : Int)).toNat = .mk (oo i) (hh i) (kk i) (tt i) := by rw [Int.toNat_natCast, clAt_get hi, hg]
    rcases hk : Tm.kind (.mk (oo i) (hh i) (kk i) (tt i)) with _ | _
    · have HE : Hid (ofOut ls (i : Int) = ([], 22)) := Lib.hid (by unfold ofOut; rw [if_pos hc, hcl, hk]; rfl)
      rw [hc] at cC
      have hrl := R.hl
      have hrc := R.hr
      obtain rfl := R.hao (by omega)
      have hpi : Tm.proper (.mk (oo i) (hh i) (kk i) (tt i)) = true := by have := hp ls[i] (List.getElem_mem hi); rwa [hg] at this
      have cK := fun w1 (hb : Below w.heap.size w w1) => isKind_any (fun _ => True) (.mk (oo i) (hh i) (kk i) (tt i)) (sc i) w1 ((R.sub i hil).keep hb) hpi
      rw [hk] at cK
      obtain ⟨a9, n9, m9, hsc⟩ := (R.sub i hil).isSlice
      rw [hsc] at cK
      simp only [Tm.op, Tm.hd, Tm.n] at cK
      have HR := Lib.hid R
      have H1 := Lib.hid h1
      clear R hg hcl hpi hf hc hi hp hk h1
      go_enter Try.func19, Try.ntmps19
      go_wp2_with (first
        | (go_at_call 35; (with_reducible refine cC.mono ?_); rintro e w1 ⟨rfl, hb1⟩; have HB1 := Lib.hid (below_next H1.out hb1); obtain ⟨d0, d1, d2, d3, d4, d5, hsub⟩ := HR.out.at HB1.out i hil; rw [hsc] at d4; have hc1 := kept_cell hb1 hc0; clear hb1 hsub d0 d5)
        | (go_at_call 41; (with_reducible refine (cK _ HB1.out).mono ?_); rintro e w2 ⟨rfl, hb2⟩; have HB2 := Lib.hid (below_next HB1.out hb2); clear hb2)
        | fail)
      go_ret2
      rw [HE.out]
      exact ⟨_, rfl, IntsNew.nil _ _, HB2.out⟩
    · have HE : ofOut ls (i : Int) = (colL (fun i => (Tm.res (.mk (oo i) (hh i) (kk i) (tt i))).1.n) i (objUp len (fun i => (Tm.res (.mk (oo i) (hh i) (kk i) (tt i))).1.hd == 2) len), 0) := by
        unfold ofOut
        rw [if_pos hc, hcl, hk, if_pos rfl, colL_up _ _ _ len len (Nat.le_refl _)]
        unfold objL
        rw [R.length]
        congr 2
        refine List.filter_congr fun j hj => ?_
        have hj' := List.mem_range.1 hj
        rw [clAt_get (by rw [R.length]; exact hj'), R.get j hj']
      rw [HE]
      exact of_good ls i ao b off len cap nm oo hh kk sc tt im w R hp (by rw [← R.length]; exact h100) hil hc hk _ _ fun j hj => ⟨rfl, rfl⟩
  · have HE : Hid (ofOut ls n = ([], ckOut ls n)) := Lib.hid (by unfold ofOut; rw [if_neg hc])
    have hc' : (ckOut ls n == 0) = false := by simpa using hc
    obtain ⟨a, m, rfl, hlen⟩ := hl.isSlice
    have H1 := Lib.hid h1
    clear h1 hl
    generalize ckOut ls n = z at *
    go_enter Try.func19, Try.ntmps19
    go_wp2_with (go_at_call 35; (with_reducible refine cC.mono ?_); rintro e w1 ⟨rfl, hb1⟩; have HB1 := Lib.hid (below_next H1.out hb1))
    go_ret2
    rw [HE.out]
    exact ⟨_, rfl, IntsNew.nil _ _, HB1.out⟩
theorem of_any (ls : List Dc) (n : Int) (sv : Value) (w : World) (hl : DLies w (fun _ => True) sv ls) : Calls Try.prog 19 #[sv, .int .i64 n] w (NumE w (ofOut ls n)) :=
  (ofE_any ls n sv w hl).mono fun e w' ⟨v, he, hi, hb⟩ => ⟨v, he, hi.ints, hb⟩
end Go.Proofs.Yteoheeddjddekaa

namespace Go.Proofs.Yteoheeddjddekaa
open Go.RowKit
set_option linter.unusedSimpArgs false
set_option linter.unusedVariables false

set_option maxHeartbeats 1000000 in
set_option maxRecDepth 100000 in
theorem numbers_any (v u : Value) (xs ys : List Int) (w : World) (hv : Ints w v xs) (hu : Ints w u ys) : Calls Try.prog 32 #[v, u] w fun e w' => e = .returned (.bool (decide (xs = ys))) ∧ Below w.heap.size w w' := by
  obtain ⟨ao, b, off, len, cap, rfl, hlen, hao, hl, hr, hc⟩ := hv
  obtain ⟨ao', b', off', len', cap', rfl, hlen', hao', hl', hr', hc'⟩ := hu
  have HL := Lib.hid hlen
  have HC := Lib.hid hc
  have HL' := Lib.hid hlen'
  have HC' := Lib.hid hc'
  have hl2 : len ≤ 9223372036854775807 := by omega
  have hl3 : len' ≤ 9223372036854775807 := by omega
  by_cases hll : len = len'
  · subst hll
    clear hlen hc hlen' hc'
    go_enter Try.func32, Try.ntmps32
    go_wp2
    go_loopw [13] (fun i wr => ∃ k : Nat, k ≤ len ∧ i = .int .i64 k ∧ xs.take k = ys.take k ∧ Below w.heap.size w wr) (fun i _ => len - (RowKit.intOf i).toNat)
    case atStart => exact ⟨0, Nat.zero_le _, rfl, by simp, Below.refl _ _⟩
    case round =>
      obtain ⟨k, hk, rfl, hno, hbr⟩ := hrel
      have HNO := Lib.hid hno
      clear hno
      by_cases hlt : k < len
      · obtain rfl := hao (by omega)
        obtain rfl := hao' (by omega)
        have hkx : k < xs.length := by rw [HL.out]; exact hlt
        have hky : k < ys.length := by rw [HL'.out]; exact hlt
        have hck := kept_cell hbr (HC.out k hkx)
        have hck' := kept_cell hbr (HC'.out k hky)
        obtain ⟨y, hy⟩ : ∃ y, y = xs[k] := ⟨_, rfl⟩
        obtain ⟨z, hz⟩ : ∃ z, z = ys[k] := ⟨_, rfl⟩
        rw [← hy] at hck
        rw [← hz] at hck'
        have HY := Lib.hid hy
        have HZ := Lib.hid hz
        clear hy hz
        have hk0 : (0 : Int) ≤ (k : Int) := by omega
        have hk1 : (k : Int) < (len : Int) := by omega
        by_cases hn : y = z
        · subst hn
          go_wp2
          go_quiet (fail)
          go_wp2
          go_roundw
          case rel => exact ⟨k + 1, by omega, by go_num, take_step hkx hky HNO.out (by rw [← HY.out, ← HZ.out]), below_drawn hbr _⟩
          case measure => simp [RowKit.intOf]; omega
        · have hb : (y != z) = true := by simpa using hn
          have hb1 : (y == z) = false := by rw [beq_eq_false_iff_ne]; exact hn
          go_wp2
          go_quiet (fail)
          go_wp2
          go_ret
          exact ⟨numbers_no hkx hky HY.out HZ.out hn, below_drawn hbr _⟩
      · obtain rfl : k = len := by omega
        go_wp2
        go_ret
        exact ⟨numbers_yes (numbers_eq (by rw [HL.out, HL'.out]) (by rw [HL.out]; exact Nat.le_refl _) HNO.out), hbr⟩
  · have hE : Hid (decide (xs = ys) = false) := by
      show _ = _
      rw [decide_eq_false_iff_not]; intro h; subst h; omega
    have hb : ((len : Int) != (len' : Int)) = true := by simp; omega
    clear hlen hc hlen' hc'
    go_enter Try.func32, Try.ntmps32
    go_wp2
    go_ret
    exact ⟨numbers_not hE.out, Below.refl _ _⟩

set_option maxHeartbeats 1000000 in
set_option maxRecDepth 100000 in
theorem con_any (n : Int) (a2 : Option Addr) (n2 m2 : Nat) (w : World) :
    Calls Try.prog 23 #[.int .i64 n, .slice a2 n2 m2] w fun e w' => e = .returned (.agg #[.int .i64 4, .int .i64 2, .int .i64 n, .slice a2 n2 m2]) ∧ Below w.heap.size w w' := by
  go_enter Try.func23, Try.ntmps23
  go_wp2
  exact bodyPost_ret (v := .agg #[.int .i64 4, .int .i64 2, .int .i64 n, .slice a2 n2 m2]) (by simp [results, Try.results23, go_sem]) rfl ⟨rfl, one_below w _⟩

set_option maxHeartbeats 1000000 in
set_option maxRecDepth 100000 in
theorem arrow0_any (w : World) :
    Calls Try.prog 58 #[.agg #[.int .i64 4, .int .i64 2, .int .i64 0, .slice none 0 0], .agg #[.int .i64 4, .int .i64 2, .int .i64 0, .slice none 0 0]] w fun e w' =>
      ∃ g, e = .returned (.agg #[.int .i64 2, .int .i64 0, .int .i64 0, .slice (some ⟨g, 0, none⟩) 2 2]) ∧ Below w.heap.size w w' ∧ w'.heap[g]? = some (.cells #[.int .i64 4, .int .i64 2, .int .i64 0, .slice none 0 0, .int .i64 4, .int .i64 2, .int .i64 0, .slice none 0 0] 25 (0, 0)) := by
  go_enter Try.func58, Try.ntmps58
  go_wp2
  have h4 := four_blocks w #[.int .i64 4, .int .i64 2, .int .i64 0, .slice none 0 0] #[.int .i64 4, .int .i64 2, .int .i64 0, .slice none 0 0] #[.int .i64 2, .int .i64 0, .int .i64 0, .slice (some ⟨w.heap.size + 1 + 1 + 1, 0, none⟩) 2 2] #[.int .i64 4, .int .i64 2, .int .i64 0, .slice none 0 0, .int .i64 4, .int .i64 2, .int .i64 0, .slice none 0 0] 25 25 25 25
  exact bodyPost_ret (v := .agg #[.int .i64 2, .int .i64 0, .int .i64 0, .slice (some ⟨w.heap.size + 1 + 1 + 1, 0, none⟩) 2 2]) (by simp [results, Try.results58, go_sem]) rfl ⟨_, rfl, h4.2.2.2.2.1, h4.2.2.2.1⟩

/-- the signature of the first example -/
def natL : List Dc := [⟨⟨#[110, 97, 116]⟩, .mk 1 0 0 [], 0⟩, ⟨⟨#[122]⟩, .mk 4 2 0 [], 0⟩, ⟨⟨#[115]⟩, .mk 2 0 0 [.mk 4 2 0 [], .mk 4 2 0 []], 0⟩]
/-- a signature that is handed back, wherever it lies -/
def GivesD0 (w : World) (l : List Dc) (e : Ending) (w' : World) : Prop := ∃ a, e = .returned a ∧ Below w.heap.size w w' ∧ DLies w' (fun _ => True) a l

theorem nat_lies {W : World} {g q : Nat} (hq : W.heap[q]? = some (.cells #[.int .i64 4, .int .i64 2, .int .i64 0, .slice none 0 0, .int .i64 4, .int .i64 2, .int .i64 0, .slice none 0 0] 25 (0, 0)))
    (hg : W.heap[g]? = some (.cells #[.string ⟨#[110, 97, 116]⟩, .int .i64 1, .int .i64 0, .int .i64 0, .slice none 0 0, .int .i64 0, .string ⟨#[122]⟩, .int .i64 4, .int .i64 2, .int .i64 0, .slice none 0 0, .int .i64 0, .string ⟨#[115]⟩, .int .i64 2, .int .i64 0, .int .i64 0, .slice (some ⟨q, 0, none⟩) 2 2, .int .i64 0] 40 (0, 0))) :
    DLies W (fun _ => True) (.slice (some ⟨g, 0, none⟩) 3 3) natL := by
  have hL : Lies W (fun _ => True) (.slice (some ⟨q, 0, none⟩) 2 2) [.mk 4 2 0 [], .mk 4 2 0 []] := by
    have row := Lies.row (w := W) (S := fun _ => True) (some ⟨q, 0, none⟩) q 0 2 2 (fun _ => 4) (fun _ => 2) (fun _ => 0) (fun _ => .slice none 0 0) (fun _ => []) (fun _ => rfl) (fun _ => trivial) (Nat.le_refl _) (by omega)
      (fun i hi => by rcases (by omega : i = 0 ∨ i = 1) with rfl | rfl <;> exact cell_in hq _ _ rfl) (fun i hi => by rcases (by omega : i = 0 ∨ i = 1) with rfl | rfl <;> exact cell_in hq _ _ rfl)
      (fun i hi => by rcases (by omega : i = 0 ∨ i = 1) with rfl | rfl <;> exact cell_in hq _ _ rfl) (fun i hi => by rcases (by omega : i = 0 ∨ i = 1) with rfl | rfl <;> exact cell_in hq _ _ rfl)
      (fun i hi => by omega) (fun i hi => by omega) (fun i hi => by omega) (fun i hi => Lies.nil _ _)
    exact row
  refine DLies.of (g := g) (off := 0) natL [.slice none 0 0, .slice none 0 0, .slice (some ⟨q, 0, none⟩) 2 2] rfl rfl (fun _ => trivial) (by omega) (by omega) (fun k h h' => ?_) (fun d hd => ?_) (fun k h h' => ?_)
  · have h3 : k < 3 := h
    rcases (by omega : k = 0 ∨ k = 1 ∨ k = 2) with rfl | rfl | rfl
    all_goals exact ⟨cell_in hg _ _ rfl, cell_in hg _ _ rfl, cell_in hg _ _ rfl, cell_in hg _ _ rfl, cell_in hg _ _ rfl, cell_in hg _ _ rfl⟩
  · have hz : ∀ n : Int, n = 0 ∨ n = 1 ∨ n = 2 ∨ n = 4 → I64 n := fun n h => ⟨by omega, by omega⟩
    simp only [natL, List.mem_cons, List.not_mem_nil, or_false] at hd
    rcases hd with rfl | rfl | rfl
    · exact ⟨by decide, ⟨hz _ (by simp [Tm.op]), hz _ (by simp [Tm.hd]), hz _ (by simp [Tm.n])⟩, hz _ (by simp)⟩
    · exact ⟨by decide, ⟨hz _ (by simp [Tm.op]), hz _ (by simp [Tm.hd]), hz _ (by simp [Tm.n])⟩, hz _ (by simp)⟩
    · exact ⟨by decide, ⟨hz _ (by simp [Tm.op]), hz _ (by simp [Tm.hd]), hz _ (by simp [Tm.n])⟩, hz _ (by simp)⟩
  · have h3 : k < 3 := h
    rcases (by omega : k = 0 ∨ k = 1 ∨ k = 2) with rfl | rfl | rfl
    · exact Lies.nil _ _
    · exact Lies.nil _ _
    · exact hL

set_option maxHeartbeats 2000000 in
set_option maxRecDepth 100000 in
theorem nat_any (w : World) : Calls Try.prog 31 #[] w (GivesD0 w natL) := by
  go_enter Try.func31, Try.ntmps31
  go_wp2_with fail
  refine (con_any 0 none 0 0 _).mono ?_
  rintro e w1 ⟨rfl, hb1⟩
  have HB1 := Lib.hid hb1
  clear hb1
  go_wp2_with fail
  refine (con_any 0 none 0 0 _).mono ?_
  rintro e w2 ⟨rfl, hb2⟩
  have HB2 := Lib.hid (below_next HB1.out hb2)
  clear hb2
  go_wp2_with fail
  refine (con_any 0 none 0 0 _).mono ?_
  rintro e w3 ⟨rfl, hb3⟩
  have HB3 := Lib.hid (below_next HB2.out hb3)
  clear hb3
  go_wp2_with fail
  refine (arrow0_any _).mono ?_
  rintro e w4 ⟨q, rfl, hb4, hq⟩
  have HB4 := Lib.hid (below_next HB3.out hb4)
  have HQ := Lib.hid hq
  clear hb4 hq
  go_wp2_with fail
  go_ret
  have hba := one_below w4 (.cells #[.string ⟨#[110, 97, 116]⟩, .int .i64 1, .int .i64 0, .int .i64 0, .slice none 0 0, .int .i64 0, .string ⟨#[122]⟩, .int .i64 4, .int .i64 2, .int .i64 0, .slice none 0 0, .int .i64 0, .string ⟨#[115]⟩, .int .i64 2, .int .i64 0, .int .i64 0, .slice (some ⟨q, 0, none⟩) 2 2, .int .i64 0] 40)
  exact ⟨_, rfl, below_next HB4.out hba, nat_lies (heap_kept hba HQ.out) (heap_alloc_new w4 _)⟩

/-- the argument of the last example -/
def natT : Tm := .mk 4 2 2 [.mk 4 2 1 []]
theorem nat_of : ofOut natL 0 = ([1, 2], 0) := by decide +kernel
theorem nat_target : tarOut natL 2 = (0, 0) := by decide +kernel
theorem nat_level : levOut natL natT = (3, 0) := by decide +kernel
theorem nat_swap0 : (swapOut natL 0).2 = 27 := by decide +kernel
theorem nat_swap1 : (swapOut natL 1).2 = 0 ∧ (swapOut natL 1).1.length = 3 ∧ ((swapOut natL 1).1.map Dc.nm)[1]? = some ⟨#[115]⟩ := by decide +kernel
end Go.Proofs.Yteoheeddjddekaa

namespace Go.Proofs.Yteoheeddjddekaa
open Go.RowKit
set_option linter.unusedSimpArgs false
set_option linter.unusedVariables false

theorem name_at {w : World} {S : Nat → Prop} {a : Value} {l : List Dc} {i n : Nat} {s : ByteArray} (h : DLies w S a l) (hl : l.length = n) (hi : i < n) (hs : (l.map Dc.nm)[i]? = some s) :
    ∃ b off cap, a = .slice (some ⟨b, off, none⟩) n cap ∧ n ≤ cap ∧ cap ≤ 9223372036854775807 ∧ w.cell? ⟨b, off + i * 6, none⟩ = some (.string s) := by
  obtain ⟨ao, b, off, len, cap, nm, o, hh, k, sv, ts, im, rfl, R⟩ := h
  have hlen := R.length
  obtain rfl : len = n := by omega
  obtain rfl := R.hao (by omega)
  refine ⟨b, off, cap, rfl, R.hl, R.hr, ?_⟩
  have hg := R.get i hi
  rw [List.getElem?_map, List.getElem?_eq_getElem (by omega), hg] at hs
  simp only [Option.map_some, Option.some.injEq] at hs
  rw [← hs]
  exact R.c0 i hi

set_option maxHeartbeats 4000000 in
set_option maxRecDepth 100000 in
theorem awake_any (w : World) : Calls Try.prog 11 #[] w fun e w' => e = .returned (.bool true) ∧ Below w.heap.size w w' := by
  go_enter Try.func11, Try.ntmps11
  go_wp2_with fail
  refine (nat_any _).mono ?_
  rintro e w1 ⟨a1, rfl, hb1, hl1⟩
  obtain ⟨p1, m1, rfl, -⟩ := hl1.isSlice
  have c2 := of_any natL 0 _ w1 hl1
  rw [nat_of] at c2
  have HB1 := Lib.hid hb1
  clear hb1 hl1
  go_wp2_with fail
  refine c2.mono ?_
  rintro e w2 ⟨v2, rfl, hi2, hb2⟩
  obtain ⟨p2, n2, m2, rfl⟩ := hi2.isSlice
  have HB2 := Lib.hid (below_next HB1.out hb2)
  have HI2 := Lib.hid hi2
  clear hb2 hi2 c2
  go_wp2_with fail
  refine (nat_any _).mono ?_
  rintro e w3 ⟨a3, rfl, hb3, hl3⟩
  obtain ⟨p3, m3, rfl, -⟩ := hl3.isSlice
  have c4 := target_any _ natL 2 _ w3 hl3
  rw [nat_target] at c4
  have HB3 := Lib.hid (below_next HB2.out hb3)
  have HI3 := Lib.hid (HI2.out.below hb3)
  clear hb3 hl3 HI2
  go_wp2_with fail
  refine c4.mono ?_
  rintro e w4 ⟨rfl, hb4⟩
  have HB4 := Lib.hid (below_next HB3.out hb4)
  have HI4 := Lib.hid (HI3.out.below hb4)
  clear hb4 HI3 c4
  go_wp2_with fail
  refine (nat_any _).mono ?_
  rintro e w5 ⟨a5, rfl, hb5, hl5⟩
  obtain ⟨p5, m5, rfl, -⟩ := hl5.isSlice
  have c6 := swap_any natL 1 _ w5 hl5
  have HB5 := Lib.hid (below_next HB4.out hb5)
  have HI5 := Lib.hid (HI4.out.below hb5)
  clear hb5 hl5 HI4
  go_wp2_with fail
  refine c6.mono ?_
  rintro e w6 ⟨a6, rfl, hb6, hl6⟩
  rw [nat_swap1.1]
  obtain ⟨bs, os, ms, rfl, hms, hmc, hcs⟩ := name_at hl6 nat_swap1.2.1 (by omega) nat_swap1.2.2
  have HB6 := Lib.hid (below_next HB5.out hb6)
  have HI6 := Lib.hid (HI5.out.below hb6)
  have HS6 := Lib.hid hcs
  clear hb6 hl6 HI5 c6 hcs
  go_wp2_with fail
  refine (nat_any _).mono ?_
  rintro e w7 ⟨a7, rfl, hb7, hl7⟩
  obtain ⟨p7, m7, rfl, -⟩ := hl7.isSlice
  have c8 := swap_any natL 0 _ w7 hl7
  have HB7 := Lib.hid (below_next HB6.out hb7)
  have HI7 := Lib.hid (HI6.out.below hb7)
  have HS7 := Lib.hid (kept_cell hb7 HS6.out)
  clear hb7 hl7 HI6 HS6
  go_wp2_with fail
  refine c8.mono ?_
  rintro e w8 ⟨a8, rfl, hb8, hl8⟩
  rw [nat_swap0]
  obtain ⟨p8, m8, rfl, -⟩ := hl8.isSlice
  have HB8 := Lib.hid (below_next HB7.out hb8)
  have HI8 := Lib.hid (HI7.out.below hb8)
  have HS8 := Lib.hid (kept_cell hb8 HS7.out)
  clear hb8 hl8 HI7 HS7 c8
  generalize (swapOut natL 0).1.length = q8 at *
  go_wp2_with fail
  refine (nat_any _).mono ?_
  rintro e w9 ⟨a9, rfl, hb9, hl9⟩
  obtain ⟨p9, m9, rfl, -⟩ := hl9.isSlice
  have HB9 := Lib.hid (below_next HB8.out hb9)
  have HI9 := Lib.hid (HI8.out.below hb9)
  have HS9 := Lib.hid (kept_cell hb9 HS8.out)
  have HL9 := Lib.hid hl9
  clear hb9 hl9 HI8 HS8
  go_wp2_with fail
  refine (con_any 1 none 0 0 _).mono ?_
  rintro e w10 ⟨rfl, hb10⟩
  have hba := one_below w10 (.cells #[.int .i64 4, .int .i64 2, .int .i64 1, .slice none 0 0] 25)
  have hb10' := below_next hb10 hba
  have HB10 := Lib.hid (below_next HB9.out hb10')
  have HI10 := Lib.hid (HI9.out.below hb10')
  have HS10 := Lib.hid (kept_cell hb10' HS9.out)
  have HL10 := Lib.hid (HL9.out.keep hb10')
  have HT10 := Lib.hid (Lies.one (S := fun _ => True) (heap_alloc_new w10 (.cells #[.int .i64 4, .int .i64 2, .int .i64 1, .slice none 0 0] 25)) trivial (i64_small (by omega) (by omega)) (i64_small (by omega) (by omega)) (i64_small (by omega) (by omega)) (Lies.nil _ _))
  clear hb10 hb10' hba HI9 HS9 HL9
  go_wp2_with fail
  refine (con_any 2 (some _) 1 1 _).mono ?_
  rintro e w11 ⟨rfl, hb11⟩
  have HB11 := Lib.hid (below_next HB10.out hb11)
  have HI11 := Lib.hid (HI10.out.below hb11)
  have HS11 := Lib.hid (kept_cell hb11 HS10.out)
  have c12 := level_any natL natT _ _ w11 (HL10.out.keep hb11) (HT10.out.keep hb11)
  rw [nat_level] at c12
  simp only [natT, Tm.op, Tm.hd, Tm.n] at c12
  clear hb11 HI10 HS10 HL10 HT10
  go_wp2_with fail
  refine c12.mono ?_
  rintro e w12 ⟨rfl, hb12⟩
  have HB12 := Lib.hid (below_next HB11.out hb12)
  have HI12 := Lib.hid (HI11.out.below hb12)
  have hcs := kept_cell hb12 HS11.out
  have hba := one_below w12 (.cells #[.int .i64 1, .int .i64 2] 3)
  have hnew := heap_alloc_new w12 (.cells #[.int .i64 1, .int .i64 2] 3)
  have hi12 : Ints (w12.alloc (.cells #[.int .i64 1, .int .i64 2] 3)) (.slice (some ⟨w12.heap.size, 0, none⟩) 2 2) [1, 2] := by
    refine ⟨_, w12.heap.size, 0, 2, 2, rfl, rfl, fun _ => rfl, Nat.le_refl _, by omega, fun i hi => ?_⟩
    have h2 : i < 2 := hi
    rcases (by omega : i = 0 ∨ i = 1) with rfl | rfl
    · exact cell_in hnew 0 _ rfl
    · exact cell_in hnew 1 _ rfl
  have c13 := numbers_any _ _ _ _ _ (HI12.out.below hba) hi12
  simp only [decide_true] at c13
  have HBA := Lib.hid (below_next HB12.out hba)
  have hcs2 := kept_cell hba hcs
  clear hb12 hba hnew hi12 HI11 HS11 c12 hcs
  have hm3 : (1 : Int) < ((3 : Nat) : Int) := by omega
  go_wp2_with fail
  refine c13.mono ?_
  rintro e w13 ⟨rfl, hb13⟩
  have hcs3 := kept_cell hb13 hcs2
  have HB13 := Lib.hid (below_next HBA.out hb13)
  clear hb13 c13 hcs2
  go_wp2_with fail
  go_ret
  exact ⟨rfl, HB13.out⟩
end Go.Proofs.Yteoheeddjddekaa
