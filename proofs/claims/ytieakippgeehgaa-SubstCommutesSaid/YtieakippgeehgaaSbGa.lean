/- The contracts of subst's looks at its arguments: areProper, isList, isNumber, isSmall. * The contracts of fits and isSmall. * The contracts of measured, shifted and arrive. * The contract of built. * The contract of visited. * The contract of in, given those of what it calls. -/
import Derived.Test.YtieakippgeehgaaTmGb
import Derived.Test.YtieakippgeehgaaSmGb
import Derived.Test.YtieakippgeehgaaTmGa
import Derived.Test.YtieakippgeehgaaSmGa
import Derived.Test.YtieakippgeehgaaTmGd
import Derived.WalkLawsBesides
namespace Go.Proofs.Ytieakippgeehgaa.Sb
open Go.RowKit
set_option linter.unusedSimpArgs false
set_option linter.unusedVariables false

/-- the closure that asks whether a term is not proper -/
theorem wrong_any (o h n : Int) (v : Value) (l : List Tm) (w : World) (hv : Lies w (fun _ => True) v l) :
    Calls Try.prog 73 #[.agg #[.int .i64 o, .int .i64 h, .int .i64 n, v]] w fun e w' => e = .returned (.bool (!Tm.proper (.mk o h n l))) ∧ Below w.heap.size w w' := by
  obtain ⟨a2, n2, m2, rfl⟩ := hv.isSlice
  have hb := one_below w (.cells #[.int .i64 o, .int .i64 h, .int .i64 n, .slice a2 n2 m2] 24)
  have call := check_any o h n _ l _ (hv.keep hb)
  clear hv
  rcases hp : Tm.proper (.mk o h n l) with _ | _
  all_goals
    rw [hp] at call
    clear hp
    go_enter Try.func73, Try.ntmps73
    go_wp2_with (go_at_call 74; (with_reducible refine call.mono ?_); rintro e w1 ⟨rfl, hb1⟩)
    go_ret
    exact ⟨rfl, hb.trans (hb1.mono hb.size)⟩

/-- all of the first k terms are proper -/
def PropTo (l : List Tm) (k : Nat) : Prop := ∀ t ∈ l.take k, Tm.proper t = true
theorem PropTo.zero (l : List Tm) : PropTo l 0 := by intro t ht; simp at ht
theorem PropTo.step {l : List Tm} {k : Nat} (h : PropTo l k) (hk : k < l.length) (e : Tm.proper l[k] = true) : PropTo l (k + 1) := by
  intro x hx
  rw [List.take_succ_eq_append_getElem hk, List.mem_append, List.mem_singleton] at hx
  rcases hx with hx | hx
  · exact h x hx
  · rw [hx]; exact e
theorem PropTo.all {l : List Tm} {k : Nat} (h : PropTo l k) (hk : l.length ≤ k) : l.all Tm.proper = true := by
  unfold PropTo at h
  rw [List.take_of_length_le hk] at h
  exact List.all_eq_true.2 h
theorem PropTo.not {l : List Tm} {k : Nat} (hk : k < l.length) (e : Tm.proper l[k] = false) : l.all Tm.proper = false := by
  rw [List.all_eq_false]; exact ⟨l[k], List.getElem_mem hk, by simp [e]⟩

/-- what IndexFunc answers -/
def SomeBad (w : World) (l : List Tm) (e : Ending) (w' : World) : Prop := ∃ r : Int, e = .returned (.int .i64 r) ∧ -1 ≤ r ∧ r ≤ 9223372036854775807 ∧ (0 ≤ r ↔ l.all Tm.proper = false) ∧ Below w.heap.size w w'

set_option maxHeartbeats 2000000 in
set_option maxRecDepth 100000 in
theorem indexBad_any (v : Value) (l : List Tm) (w : World) (hv : Lies w (fun _ => True) v l) :
    Calls Try.prog 89 #[v, .func (.func 73) #[] #[]] w (SomeBad w l) := by
  obtain ⟨ao, bb, off, len, cap, oo, hh, kk, sv, ts, rfl, R⟩ := hv.open
  have hr := R.hr
  have hl := R.hl
  have HL := Lib.hid R.length
  clear hv
  go_enter Try.func89, Try.ntmps89
  go_wp2
  go_loopw [8] (fun i wr => ∃ k : Nat, k ≤ len ∧ i = .int .i64 k ∧ PropTo l k ∧ Below w.heap.size w wr) (fun i _ => len - (intOf i).toNat)
  case atStart => exact ⟨0, Nat.zero_le _, rfl, PropTo.zero _, Below.refl _ _⟩
  case round =>
    obtain ⟨k, hk, rfl, hno, hbr⟩ := hrel
    have HNO := Lib.hid hno
    clear hno
    by_cases hlt : k < len
    · obtain rfl := R.hao (by omega)
      obtain ⟨d0, d1, d2, d3, hsub⟩ := R.at hbr k hlt
      obtain ⟨a2, n2, m2, hs2⟩ := hsub.isSlice
      rw [hs2] at d3 hsub
      clear hs2
      have hkl : k < l.length := by rw [HL.out]; exact hlt
      have call := wrong_any (oo k) (hh k) (kk k) (.slice a2 n2 m2) (ts k) wr hsub
      have hk0 : (0 : Int) ≤ (k : Int) := by omega
      have hk1 : (k : Int) < (len : Int) := by omega
      have hg := R.get k hlt
      rcases hp : Tm.proper (.mk (oo k) (hh k) (kk k) (ts k)) with _ | _
      · have HN := Lib.hid (PropTo.not hkl (by rw [hg]; exact hp))
        rw [hp] at call
        clear hp hg R
        go_wp2_with (go_at_call 73; (with_reducible refine call.mono ?_); rintro e w1 ⟨rfl, hb1⟩)
        go_ret
        exact ⟨k, rfl, by omega, by omega, ⟨fun _ => HN.out, fun _ => by omega⟩, hbr.trans (hb1.mono hbr.size)⟩
      · have HN := Lib.hid (HNO.out.step hkl (by rw [hg]; exact hp))
        rw [hp] at call
        clear hp hg R
        go_wp2_with (go_at_call 73; (with_reducible refine call.mono ?_); rintro e w1 ⟨rfl, hb1⟩)
        go_roundw
        case rel => exact ⟨k + 1, by omega, by go_num, HN.out, hbr.trans (hb1.mono hbr.size)⟩
        case measure => simp [intOf]; omega
    · obtain rfl : k = len := by omega
      have HA := Lib.hid (HNO.out.all (by rw [HL.out]; exact Nat.le_refl _))
      go_wp2
      go_ret
      exact ⟨-1, rfl, by omega, by omega, ⟨fun h => absurd h (by omega), fun h => by rw [HA.out] at h; cases h⟩, hbr⟩

theorem bad_end {b : Bool} {r : Int} (h : 0 ≤ r ↔ b = false) : Ending.returned (.bool (decide (0 ≤ r))) = .returned (.bool (!b)) := by
  rcases b with _ | _
  · rw [decide_eq_true (h.2 rfl)]; rfl
  · rw [decide_eq_false (fun e => by have := h.1 e; cases this)]; rfl

set_option maxHeartbeats 1000000 in
set_option maxRecDepth 100000 in
theorem containsBad_any (v : Value) (l : List Tm) (w : World) (hv : Lies w (fun _ => True) v l) :
    Calls Try.prog 75 #[v, .func (.func 73) #[] #[]] w fun e w' => e = .returned (.bool (!l.all Tm.proper)) ∧ Below w.heap.size w w' := by
  have call := indexBad_any v l w hv
  obtain ⟨a2, n2, m2, rfl⟩ := hv.isSlice
  obtain ⟨b, hb⟩ : ∃ b, b = l.all Tm.proper := ⟨_, rfl⟩
  unfold SomeBad at call
  rw [← hb] at call ⊢
  clear hv hb
  go_enter Try.func75, Try.ntmps75
  go_wp2_with (go_at_call 89; (with_reducible refine call.mono ?_); rintro e w1 ⟨r, rfl, hr0, hr1, hr2, hb1⟩; have HR := Lib.hid hr2; clear hr2)
  go_ret
  exact ⟨bad_end HR.out, hb1⟩

/-- areProper: are all terms of a list proper? -/
theorem areProper_any (v : Value) (l : List Tm) (w : World) (hv : Lies w (fun _ => True) v l) :
    Calls Try.prog 39 #[v] w fun e w' => e = .returned (.bool (l.all Tm.proper)) ∧ Below w.heap.size w w' := by
  have call := containsBad_any v l w hv
  obtain ⟨a2, n2, m2, rfl⟩ := hv.isSlice
  rcases hb : l.all Tm.proper with _ | _
  all_goals
    rw [hb] at call
    clear hv hb
    go_enter Try.func39, Try.ntmps39
    go_wp2_with (go_at_call 75; (with_reducible refine call.mono ?_); rintro e w1 ⟨rfl, hb1⟩)
    go_ret
    exact ⟨rfl, hb1⟩

def isNum (n : Int) : Bool := decide (0 ≤ n) && decide (n ≤ 9999)
theorem isNumber_any (n : Int) (w : World) : Calls Try.prog 40 #[.int .i64 n] w fun e w' => e = .returned (.bool (isNum n)) ∧ w = w' := by
  unfold isNum
  rcases h0 : decide (0 ≤ n) with _ | _ <;> rcases h1 : decide (n ≤ 9999) with _ | _
  all_goals
    go_enter Try.func40, Try.ntmps40
    go_wp2
    go_ret
    exact ⟨rfl, rfl⟩
end Go.Proofs.Ytieakippgeehgaa.Sb

namespace Go.Proofs.Ytieakippgeehgaa.Sp
open Go.RowKit
set_option linter.unusedSimpArgs false
set_option linter.unusedVariables false

namespace Tm
mutual
/-- every constant is a number -/
def okN : Tm → Bool
  | .mk n l => Sb.isNum n && okL l
def okL : List Tm → Bool
  | [] => true
  | t :: l => okN t && okL l
end
theorem okL_all : ∀ l : List Tm, okL l = l.all okN
  | [] => rfl
  | t :: l => by simp only [okL, List.all_cons, okL_all l]
theorem szL_take (l : List Tm) (k : Nat) (h : k < l.length) : szL (l.take (k + 1)) = szL (l.take k) + sz l[k] := by
  rw [List.take_succ_eq_append_getElem h, szL_append]; simp [szL]
theorem szL_take_le (l : List Tm) (k : Nat) : szL (l.take k) ≤ szL l := by
  have := szL_append (l.take k) (l.drop k)
  rw [List.take_append_drop] at this; omega
/-- small: at most so many constants, each a number -/
def smallIn (t : Tm) (x : Nat) : Bool := okN t && decide (sz t ≤ x)
def small (t : Tm) : Bool := smallIn t 600
def OkTo (l : List Tm) (k : Nat) : Prop := okL (l.take k) = true
theorem OkTo.zero (l : List Tm) : OkTo l 0 := by simp [OkTo, okL]
theorem OkTo.step {l : List Tm} {k : Nat} (h : OkTo l k) (hk : k < l.length) (e : okN l[k] = true) : OkTo l (k + 1) := by
  unfold OkTo at *
  rw [okL_all] at *
  rw [List.take_succ_eq_append_getElem hk, List.all_append, h]; simp [e]
theorem small_no0 (t : Tm) : smallIn t 0 = false := by
  have := sz_pos t
  simp only [smallIn, Bool.and_eq_false_iff, decide_eq_false_iff_not]; exact .inr (by omega)
theorem small_num {n : Int} {l : List Tm} {x : Nat} (h : Sb.isNum n = false) : smallIn (.mk n l) x = false := by simp [smallIn, okN, h]
theorem small_fail {n : Int} {l : List Tm} {x k y : Nat} (hk : k < l.length) (hy : y + 1 + szL (l.take k) = x) (e : smallIn l[k] y = false) : smallIn (.mk n l) x = false := by
  simp only [smallIn, Bool.and_eq_false_iff, decide_eq_false_iff_not] at e ⊢
  rcases e with e | e
  · left
    simp only [okN, Bool.and_eq_false_iff]
    right
    rw [okL_all, List.all_eq_false]
    exact ⟨l[k], List.getElem_mem hk, by simp [e]⟩
  · right
    have h1 := szL_take l k hk
    have h2 := szL_take_le l (k + 1)
    simp only [sz]
    omega
theorem small_all {n : Int} {l : List Tm} {x : Nat} (h : Sb.isNum n = true) (ho : okL l = true) (hz : szL l + 1 ≤ x) : smallIn (.mk n l) x = true := by
  have h1 : okN (.mk n l) = true := by simp only [okN, h, ho, Bool.and_self]
  have h2 : sz (.mk n l) ≤ x := by simp only [sz]; omega
  simp only [smallIn, h1, Bool.true_and, decide_eq_true_eq]; exact h2
theorem one_eq {w : World} {B : Nat} {t : TypeId} {a b : Int} (h : w.heap[B]? = some (.cells #[.int .i64 a] t (0, 0))) (e : a = b) : w.heap[B]? = some (.cells #[.int .i64 b] t (0, 0)) := by subst e; exact h
end Tm

/-- what fits leaves: the answer, and the rest of the left ones if it is yes -/
def Fits (w : World) (B : Nat) (t : Tm) (x : Nat) (e : Ending) (w' : World) : Prop :=
  e = .returned (.bool (Tm.smallIn t x)) ∧ Only B w w' ∧ ∃ y : Int, w'.heap[B]? = some (.cells #[.int .i64 y] 3 (0, 0)) ∧ (Tm.smallIn t x = true → y = (x : Int) - (Tm.sz t : Int))
theorem fits_no {w w' : World} {B : Nat} {t : Tm} {x : Nat} {y : Int} (h : Tm.smallIn t x = false) (ho : Only B w w') (hb : w'.heap[B]? = some (.cells #[.int .i64 y] 3 (0, 0))) : Fits w B t x (.returned (.bool false)) w' :=
  ⟨by rw [h], ho, y, hb, fun e => by rw [h] at e; cases e⟩
theorem fits_yes {w w' : World} {B : Nat} {t : Tm} {x : Nat} {y : Int} (h : Tm.smallIn t x = true) (ho : Only B w w') (hb : w'.heap[B]? = some (.cells #[.int .i64 y] 3 (0, 0))) (hy : y = (x : Int) - (Tm.sz t : Int)) : Fits w B t x (.returned (.bool true)) w' :=
  ⟨by rw [h], ho, y, hb, fun _ => hy⟩

theorem cells1_of {w : World} {B : Nat} {a : Value} {t : TypeId} (h : w.heap[B]? = some (.cells #[a] t (0, 0))) : w.cell? ⟨B, 0, none⟩ = some a ∧ w.frozen? ⟨B, 0, none⟩ = false ∧ B < w.heap.size :=
  ⟨cell_in h 0 _ rfl, free_in h 0, lt_blk h⟩
theorem Lies.only {B : Nat} {w w1 : World} {S : Nat → Prop} {v : Value} {l : List Tm} (h : Lies w S v l) (hS : ¬ S B) (hb : Only B w w1) : Lies w1 S v l :=
  h.still fun b hb' hlt => hb.block b hlt (fun e => hS (e ▸ hb'))
theorem RowAt.atO {w wr : World} {B : Nat} {ao : Option Addr} {b off len cap : Nat} {k : Nat → Int} {sv : Nat → Value} {ts : Nat → List Tm} {l : List Tm} (R : RowAt w (· ≠ B) ao b off len cap k sv ts l) (hb : Only B w wr) (i : Nat) (hi : i < len) :
    wr.cell? ⟨b, off + i * 2, none⟩ = some (sv i) ∧ wr.cell? ⟨b, off + i * 2 + 1, none⟩ = some (.int .i64 (k i)) ∧ Lies wr (· ≠ B) (sv i) (ts i) := by
  have hne : b ≠ B := R.hS (by omega)
  exact ⟨hb.cell hne (R.c0 i hi), hb.cell hne (R.c1 i hi), (R.sub i hi).only (fun h => h rfl) hb⟩
theorem RowAt.size {w : World} {S : Nat → Prop} {ao : Option Addr} {b off len cap : Nat} {k : Nat → Int} {sv : Nat → Value} {ts : Nat → List Tm} {l : List Tm} (R : RowAt w S ao b off len cap k sv ts l) {f : Nat} {x : Int} (hf : Tm.sz (.mk x l) ≤ f + 1) (i : Nat) (hi : i < len) : Tm.sz (.mk (k i) (ts i)) ≤ f := by
  have := Tm.szL_le_of_mem (R.mem i hi)
  simp only [Tm.sz] at hf this ⊢
  omega

set_option maxHeartbeats 2000000 in
set_option maxRecDepth 100000 in
theorem fits_bad (n : Int) (v : Value) (l : List Tm) (w : World) (B x : Nat) (hv : Lies w (· ≠ B) v l) (hB : w.heap[B]? = some (.cells #[.int .i64 x] 3 (0, 0))) (e : x = 0 ∨ (0 < x ∧ Sb.isNum n = false)) :
    Calls Try.prog 76 #[.agg #[v, .int .i64 n], .pointer (some ⟨B, 0, none⟩)] w (Fits w B (.mk n l) x) := by
  obtain ⟨a2, n2, m2, rfl⟩ := hv.isSlice
  obtain ⟨c0, f0, hlt⟩ := cells1_of hB
  have HB := Lib.hid hB
  clear hv hB
  rcases e with rfl | ⟨h0, e⟩
  · have HE := Lib.hid (Tm.small_no0 (.mk n l))
    go_enter Try.func76, Try.ntmps76
    go_wp2
    go_ret
    exact fits_no HE.out (Only.below (one_below w _) B) (heap_kept (one_below w _) HB.out)
  · have HE := Lib.hid (Tm.small_num (x := x) (l := l) e)
    have call := fun w1 => Sb.isNumber_any n w1
    rw [e] at call
    have hx : ((x : Int) == 0) = false := by simp; omega
    clear e
    go_enter Try.func76, Try.ntmps76
    go_wp2_with (go_at_call 40; (with_reducible refine (call _).mono ?_); rintro e w1 ⟨rfl, rfl⟩)
    go_ret
    exact fits_no HE.out (Only.below (one_below w _) B) (heap_kept (one_below w _) HB.out)

set_option maxHeartbeats 2000000 in
set_option maxRecDepth 100000 in
theorem fits_walk (f : Nat) (B : Nat) (ih : ∀ (n : Int) (v : Value) (l : List Tm) (w : World) (x : Nat), Tm.sz (.mk n l) ≤ f → Lies w (· ≠ B) v l → w.heap[B]? = some (.cells #[.int .i64 x] 3 (0, 0)) → x ≤ 600 →
      Calls Try.prog 76 #[.agg #[v, .int .i64 n], .pointer (some ⟨B, 0, none⟩)] w (Fits w B (.mk n l) x))
    (n : Int) (v : Value) (l : List Tm) (w : World) (x : Nat) (hf : Tm.sz (.mk n l) ≤ f + 1) (hv : Lies w (· ≠ B) v l) (hB : w.heap[B]? = some (.cells #[.int .i64 x] 3 (0, 0))) (hx : x ≤ 600) (h0 : 0 < x) (e : Sb.isNum n = true) :
    Calls Try.prog 76 #[.agg #[v, .int .i64 n], .pointer (some ⟨B, 0, none⟩)] w (Fits w B (.mk n l) x) := by
  obtain ⟨ao, b, off, len, cap, kk, sv, ts, rfl, R⟩ := hv.open
  have hlen := R.length
  have hr := R.hr
  have hl := R.hl
  obtain ⟨c0, f0, hlt⟩ := cells1_of hB
  have HB := Lib.hid hB
  have HE := Lib.hid e
  have call1 := fun w1 => Sb.isNumber_any n w1
  rw [e] at call1
  have HL := Lib.hid hlen
  have HF := Lib.hid hf
  have hx0 : ((x : Int) == 0) = false := by simp; omega
  have hw1 : IntKind.i64.wrap ((x : Int) - 1) = (x : Int) - 1 := by rw [IntKind.wrap_i64]; omega
  clear hv hB e hlen hf
  have HO : Hid (Only B w ((w.setCell ⟨B, 0, none⟩ (.int .i64 ((x : Int) - 1))).alloc (.cells #[.slice ao len cap, .int .i64 n] 27))) := Lib.hid (((Only.refl B w).setCell 0 none _).alloc _)
  have HK : Hid (((w.setCell ⟨B, 0, none⟩ (.int .i64 ((x : Int) - 1))).alloc (.cells #[.slice ao len cap, .int .i64 n] 27)).heap[B]? = some (.cells #[.int .i64 ((x : Int) - 1)] 3 (0, 0))) := Lib.hid (by
    have := heap_set_at (j := 0) (.int .i64 ((x : Int) - 1)) HB.out
    exact heap_kept (one_below _ _) (by simpa using this))
  go_enter Try.func76, Try.ntmps76
  go_wp2_with (go_at_call 40; (with_reducible refine (call1 _).mono ?_); rintro e w1 ⟨rfl, rfl⟩)
  clear hw1
  go_loopw [25] (fun i wr => ∃ k y : Nat, k ≤ len ∧ i = .int .i64 k ∧ Only B w wr ∧ wr.heap[B]? = some (.cells #[.int .i64 (y : Int)] 3 (0, 0)) ∧ y + 1 + Tm.szL (l.take k) = x ∧ Tm.OkTo l k)
    (fun i _ => len - (intOf i).toNat)
  case atStart => exact ⟨0, x - 1, Nat.zero_le _, rfl, HO.out, Tm.one_eq HK.out (by omega), by simp [Tm.szL]; omega, Tm.OkTo.zero _⟩
  case round =>
    obtain ⟨k, y, hk, rfl, hO, hK, hck, hp⟩ := hrel
    by_cases hlt' : k < len
    · obtain rfl := R.hao (by omega)
      obtain ⟨d0, d1, hsub⟩ := R.atO hO k hlt'
      obtain ⟨a2, n2, m2, hs2⟩ := hsub.isSlice
      rw [hs2] at d0 hsub
      have hk' : k < l.length := by rw [HL.out]; exact hlt'
      have hg := R.get k hlt'
      have hsz := R.size HF.out k hlt'
      have hba : Below wr.heap.size wr (wr.alloc (.cells #[.slice a2 n2 m2, .int .i64 (kk k)] 27)) := one_below _ _
      have call := ih (kk k) (.slice a2 n2 m2) (ts k) (wr.alloc (.cells #[.slice a2 n2 m2, .int .i64 (kk k)] 27)) y hsz (hsub.keep hba) (heap_kept hba hK) (by omega)
      rcases hr' : Tm.smallIn (.mk (kk k) (ts k)) y with _ | _
      · have HX := Lib.hid (Tm.small_fail (n := n) (x := x) hk' hck (by rw [hg]; exact hr'))
        unfold Fits at call
        rw [hr'] at call
        clear hr' hp hg hk' ih hK hs2
        go_wp2_with (go_at_call 76; (with_reducible refine call.mono ?_); rintro e w1 ⟨rfl, ho1, y1, hb1', himp⟩)
        go_ret
        exact fits_no HX.out (hO.trans ((Only.below hba B).trans ho1)) hb1'
      · have hst : Tm.okN l[k] = true ∧ Tm.sz l[k] ≤ y := by
          rw [hg]
          simpa [Tm.smallIn] using hr'
        have HP := Lib.hid (hp.step hk' hst.1)
        have HS := Lib.hid (Tm.szL_take l k hk')
        have hc1 := hst.2
        rw [hg] at HS hc1
        unfold Fits at call
        rw [hr'] at call
        clear hr' hp hg hk' ih hK hst hs2
        go_wp2_with (go_at_call 76; (with_reducible refine call.mono ?_); rintro e w1 ⟨rfl, ho1, y1, hb1', himp⟩)
        have ey := himp trivial
        subst ey
        have hs := HS.out
        go_roundw
        case rel => exact ⟨k + 1, y - Tm.sz (.mk (kk k) (ts k)), by omega, by go_num, hO.trans ((Only.below hba B).trans ho1), Tm.one_eq hb1' (by omega), by omega, HP.out⟩
        case measure => simp [intOf]; omega
    · have hkl : l.take k = l := List.take_of_length_le (by rw [HL.out]; omega)
      unfold Tm.OkTo at hp
      rw [hkl] at hck hp
      have HY := Lib.hid (Tm.small_all (x := x) (l := l) HE.out hp (by omega))
      have HK := Lib.hid hK
      clear hp hkl hK
      go_wp2
      go_ret
      exact fits_yes HY.out hO HK.out (by simp only [Tm.sz]; omega)

theorem fits_calls (B : Nat) : ∀ (f : Nat) (n : Int) (v : Value) (l : List Tm) (w : World) (x : Nat), Tm.sz (.mk n l) ≤ f → Lies w (· ≠ B) v l → w.heap[B]? = some (.cells #[.int .i64 x] 3 (0, 0)) → x ≤ 600 →
      Calls Try.prog 76 #[.agg #[v, .int .i64 n], .pointer (some ⟨B, 0, none⟩)] w (Fits w B (.mk n l) x)
  | 0, n, _, l, _, _, hf, _, _, _ => by have := Tm.sz_pos (.mk n l); omega
  | f + 1, n, v, l, w, x, hf, hv, hB, hx => by
    by_cases h0 : x = 0
    · exact fits_bad n v l w B x hv hB (.inl h0)
    · rcases e : Sb.isNum n with _ | _
      · exact fits_bad n v l w B x hv hB (.inr ⟨by omega, e⟩)
      · exact fits_walk f B (fits_calls B f) n v l w x hf hv hB hx (by omega) e

set_option maxHeartbeats 1000000 in
set_option maxRecDepth 100000 in
/-- isSmall answers whether a simple type is small. -/
theorem isSmall_any (n : Int) (v : Value) (l : List Tm) (w : World) (hv : Lies w (fun _ => True) v l) :
    Calls Try.prog 41 #[.agg #[v, .int .i64 n]] w fun e w' => e = .returned (.bool (Tm.small (.mk n l))) ∧ Below w.heap.size w w' := by
  obtain ⟨a2, n2, m2, rfl⟩ := hv.isSlice
  have h2 := two_below w (.cells #[.slice a2 n2 m2, .int .i64 n] 27) (.cells #[.int .i64 600] 3)
  have hk := two_blocks w #[.slice a2 n2 m2, .int .i64 n] #[.int .i64 600] 27 3
  have call := fits_calls (w.heap.size + 1) _ n _ l _ 600 (Nat.le_refl _) ((hv.more (S' := (· ≠ w.heap.size + 1)) (fun b hlt _ => by omega)).keep h2) hk.2 (by omega)
  have H2 := Lib.hid h2
  unfold Fits at call
  obtain ⟨r, hr⟩ : ∃ r, r = Tm.small (.mk n l) := ⟨_, rfl⟩
  unfold Tm.small at hr ⊢
  rw [← hr] at call ⊢
  clear hv hk h2 hr
  go_enter Try.func41, Try.ntmps41
  go_wp2_with (go_at_call 76; (with_reducible refine call.mono ?_); rintro e w1 ⟨rfl, ho1, -⟩)
  go_ret
  exact ⟨rfl, ho1.fresh H2.out (by omega)⟩
end Go.Proofs.Ytieakippgeehgaa.Sp

namespace Go.Proofs.Ytieakippgeehgaa.Sb
open Go.RowKit
set_option linter.unusedSimpArgs false
set_option linter.unusedVariables false

/-- what a computation dies of -/
def failure (er : Int) : List PanicEntry := [{ v := .iface 95 (.agg #[.int .i64 er]), recovered := false }]
theorem fail_concrete : Try.prog.concrete 95 = true := by kernel_rfl

theorem cells6_of {w : World} {B : Nat} {a b c d e f : Value} {t : TypeId} (h : w.heap[B]? = some (.cells #[a, b, c, d, e, f] t (0, 0))) :
    (w.cell? ⟨B, 0, none⟩ = some a ∧ w.cell? ⟨B, 1, none⟩ = some b ∧ w.cell? ⟨B, 2, none⟩ = some c ∧ w.cell? ⟨B, 3, none⟩ = some d ∧ w.cell? ⟨B, 4, none⟩ = some e ∧ w.cell? ⟨B, 5, none⟩ = some f) ∧
    (w.frozen? ⟨B, 0, none⟩ = false ∧ w.frozen? ⟨B, 1, none⟩ = false ∧ w.frozen? ⟨B, 2, none⟩ = false ∧ w.frozen? ⟨B, 3, none⟩ = false ∧ w.frozen? ⟨B, 4, none⟩ = false ∧ w.frozen? ⟨B, 5, none⟩ = false) :=
  ⟨⟨cell_in h 0 _ rfl, cell_in h 1 _ rfl, cell_in h 2 _ rfl, cell_in h 3 _ rfl, cell_in h 4 _ rfl, cell_in h 5 _ rfl⟩, free_in h 0, free_in h 1, free_in h 2, free_in h 3, free_in h 4, free_in h 5⟩
/-- six stores into a block of six cells -/
def set6 (w : World) (B : Nat) (a b c d e f : Value) : World := (((((w.setCell ⟨B, 0, none⟩ a).setCell ⟨B, 1, none⟩ b).setCell ⟨B, 2, none⟩ c).setCell ⟨B, 3, none⟩ d).setCell ⟨B, 4, none⟩ e).setCell ⟨B, 5, none⟩ f
theorem set6_at {w : World} {B : Nat} {a0 b0 c0 d0 e0 f0 : Value} {t : TypeId} (h : w.heap[B]? = some (.cells #[a0, b0, c0, d0, e0, f0] t (0, 0))) (a b c d e f : Value) : (set6 w B a b c d e f).heap[B]? = some (.cells #[a, b, c, d, e, f] t (0, 0)) := by
  have := heap_set_at (j := 5) f (heap_set_at (j := 4) e (heap_set_at (j := 3) d (heap_set_at (j := 2) c (heap_set_at (j := 1) b (heap_set_at (j := 0) a h)))))
  simpa [set6] using this
theorem set6_other {w : World} {B k : Nat} (a b c d e f : Value) (h : k ≠ B) : (set6 w B a b c d e f).heap[k]? = w.heap[k]? := by
  unfold set6
  rw [Below.heap_setCell _ _ _ _ (by simpa using h), Below.heap_setCell _ _ _ _ (by simpa using h), Below.heap_setCell _ _ _ _ (by simpa using h), Below.heap_setCell _ _ _ _ (by simpa using h), Below.heap_setCell _ _ _ _ (by simpa using h), Below.heap_setCell _ _ _ _ (by simpa using h)]
theorem set6_below {w w' : World} {B k : Nat} (h : Below B w w') (hB : B ≤ k) (a b c d e f : Value) : Below B w (set6 w' k a b c d e f) :=
  (((((h.setCell hB _).setCell hB _).setCell hB _).setCell hB _).setCell hB _).setCell hB _
theorem set6_size (w : World) (B : Nat) (a b c d e f : Value) : (set6 w B a b c d e f).heap.size = w.heap.size := by simp [set6, World.setCell]

mutual
theorem moved_depth (d : Int) : ∀ (t : Tm) (fr : Int), Tm.depth (Tm.moved d fr t) = Tm.depth t
  | .mk o h n l, fr => by simp only [Tm.moved, Tm.depth, movedL_depth d l fr o 0]
theorem movedL_depth (d : Int) : ∀ (l : List Tm) (fr o : Int) (i : Nat), Tm.depthL (Tm.movedL d fr o i l) = Tm.depthL l
  | [], _, _, _ => rfl
  | t :: l, fr, o, i => by simp only [Tm.movedL, Tm.depthL, moved_depth d t, movedL_depth d l fr o (i + 1)]
end

/-- a piece in new memory -/
def GivesPc (w : World) (t : Tm) (e : Ending) (w' : World) : Prop :=
  ∃ v, e = .returned (.agg #[.int .i64 t.op, .int .i64 t.hd, .int .i64 t.n, v, .int .i64 (Tm.sz t : Nat), .int .i64 (Tm.depth t : Nat)]) ∧ Below w.heap.size w w' ∧ Lies w' (w.heap.size ≤ ·) v t.args

set_option maxHeartbeats 2000000 in
set_option maxRecDepth 100000 in
theorem measured_any (o h n : Int) (v : Value) (l : List Tm) (w : World) (hv : Lies w (fun _ => True) v l) (hp : Tm.proper (.mk o h n l) = true) :
    Calls Try.prog 44 #[.agg #[.int .i64 o, .int .i64 h, .int .i64 n, v]] w fun e w' => e = .returned (.agg #[.int .i64 o, .int .i64 h, .int .i64 n, v, .int .i64 (Tm.sz (.mk o h n l) : Nat), .int .i64 (Tm.depth (.mk o h n l) : Nat)]) ∧ Below w.heap.size w w' := by
  obtain ⟨a2, n2, m2, rfl⟩ := hv.isSlice
  have h2 := two_below w (.cells #[.int .i64 o, .int .i64 h, .int .i64 n, .slice a2 n2 m2] 24) (.cells #[.int .i64 0, .int .i64 0, .int .i64 0, .slice none 0 0, .int .i64 0, .int .i64 0] 77)
  have hk2 := Lib.hid (two_blocks w #[.int .i64 o, .int .i64 h, .int .i64 n, .slice a2 n2 m2] #[.int .i64 0, .int .i64 0, .int .i64 0, .slice none 0 0, .int .i64 0, .int .i64 0] 24 77)
  have c1 := size_any o h n _ l _ (hv.keep h2)
  have H2 := Lib.hid h2
  obtain ⟨s, hs⟩ : ∃ s, s = Tm.sz (.mk o h n l) := ⟨_, rfl⟩
  obtain ⟨d, hd⟩ : ∃ s, s = Tm.depth (.mk o h n l) := ⟨_, rfl⟩
  have hso : sizeOf (.mk o h n l) = .returned (.tuple #[.int .i64 s, .int .i64 d, .int .i64 0]) := by unfold sizeOf; rw [hp, hs, hd]; rfl
  rw [hso] at c1
  rw [← hs, ← hd]
  clear h2 hv hp hs hd hso
  go_enter Try.func44, Try.ntmps44
  go_wp2_with fail
  refine c1.mono ?_
  rintro e w1 ⟨rfl, hb1⟩
  have hr := heap_kept hb1 hk2.out.2
  obtain ⟨⟨x0, x1, x2, x3, x4, x5⟩, f0, f1, f2, f3, f4, f5⟩ := cells6_of hr
  obtain ⟨q0, q1, q2, q3⟩ := c4_of (heap_kept hb1 hk2.out.1)
  have HR := Lib.hid hr
  clear hr
  go_wp2_with fail
  have hz := set6_at HR.out (.int .i64 o) (.int .i64 h) (.int .i64 n) (.slice a2 n2 m2) (.int .i64 s) (.int .i64 d)
  obtain ⟨⟨z0, z1, z2, z3, z4, z5⟩, _⟩ := cells6_of hz
  unfold set6 at z0 z1 z2 z3 z4 z5
  refine bodyPost_ret (v := .agg #[.int .i64 o, .int .i64 h, .int .i64 n, .slice a2 n2 m2, .int .i64 s, .int .i64 d]) (by simp [results, Try.results44, go_sem, z0, z1, z2, z3, z4, z5]) rfl ?_
  exact ⟨rfl, set6_below (H2.out.trans (hb1.mono H2.out.size)) (by omega) _ _ _ _ _ _⟩

/-- what shifted leaves -/
def GivesSh (w : World) (t : Tm) (n : Int) (e : Ending) (w' : World) : Prop :=
  if Tm.proper (Tm.moved n 0 t) then GivesPc w (Tm.moved n 0 t) e w' else e = .panicked (failure 5) ∧ Below w.heap.size w w'

set_option maxHeartbeats 2000000 in
set_option maxRecDepth 100000 in
theorem shifted_any (o h k n : Int) (v : Value) (l : List Tm) (w : World) (hv : Lies w (fun _ => True) v l) (hp : Tm.proper (.mk o h k l) = true) (hn0 : 0 ≤ n) (hn1 : n ≤ 9999) :
    Calls Try.prog 61 #[.agg #[.int .i64 o, .int .i64 h, .int .i64 k, v, .int .i64 (Tm.sz (.mk o h k l) : Nat), .int .i64 (Tm.depth (.mk o h k l) : Nat)], .int .i64 n] w (GivesSh w (.mk o h k l) n) := by
  obtain ⟨a2, n2, m2, rfl⟩ := hv.isSlice
  obtain ⟨s, hs⟩ : ∃ s, s = Tm.sz (.mk o h k l) := ⟨_, rfl⟩
  obtain ⟨d, hd⟩ : ∃ s, s = Tm.depth (.mk o h k l) := ⟨_, rfl⟩
  have h2 := two_below w (.cells #[.int .i64 o, .int .i64 h, .int .i64 k, .slice a2 n2 m2, .int .i64 s, .int .i64 d] 77) (.cells #[.int .i64 0, .int .i64 0, .int .i64 0, .slice none 0 0, .int .i64 0, .int .i64 0] 77)
  have hk2 := Lib.hid (two_blocks w #[.int .i64 o, .int .i64 h, .int .i64 k, .slice a2 n2 m2, .int .i64 s, .int .i64 d] #[.int .i64 0, .int .i64 0, .int .i64 0, .slice none 0 0, .int .i64 0, .int .i64 0] 77 77)
  have c1 := shift_any o h k n 0 _ l _ (hv.keep h2) ⟨by omega, by omega⟩ ⟨by omega, by omega⟩
  have H2 := Lib.hid h2
  have hargs : shiftArgs n 0 (.mk o h k l) = true := by
    simp only [shiftArgs, hp, Bool.true_and, Bool.and_eq_true, decide_eq_true_eq]; omega
  rw [shift_same] at c1
  unfold shiftRef at c1
  rw [hargs] at c1
  have hnn : ¬ (n < 0 ∧ Tm.low 0 (0 - n - 1) (.mk o h k l) = true) := fun e => by omega
  rw [if_pos rfl, if_neg hnn] at c1
  have hsz := Tm.moved_sz n (.mk o h k l) 0
  have hdp := moved_depth n (.mk o h k l) 0
  rw [← hs] at hsz
  rw [← hd] at hdp
  unfold GivesSh GivesPc
  rw [hsz, hdp, ← hs, ← hd]
  unfold GivesE at c1
  have hcc := fail_concrete
  rcases hm : Tm.proper (Tm.moved n 0 (.mk o h k l)) with _ | _
  · rw [hm] at c1
    simp only [if_false, Bool.false_eq_true] at c1 ⊢
    clear h2 hv hp hs hd hargs hnn hsz hdp hm
    go_enter Try.func61, Try.ntmps61
    go_wp2_with fail
    refine c1.mono ?_
    rintro e w1 ⟨v1, rfl, hb1, L1⟩
    obtain ⟨a3, n3, m3, rfl⟩ := L1.isSlice
    clear L1
    have hB := H2.out.trans (hb1.mono H2.out.size)
    go_wp2
    exact ⟨rfl, rfl, hB.alloc hB.size _⟩
  · rw [hm] at c1
    simp only [if_true] at c1 ⊢
    obtain ⟨T, hT⟩ : ∃ T, T = Tm.moved n 0 (.mk o h k l) := ⟨_, rfl⟩
    rw [← hT] at c1 ⊢
    clear h2 hv hp hs hd hargs hnn hsz hdp hm hT
    go_enter Try.func61, Try.ntmps61
    go_wp2_with fail
    refine c1.mono ?_
    rintro e w1 ⟨v1, rfl, hb1, L1⟩
    obtain ⟨a3, n3, m3, rfl⟩ := L1.isSlice
    have hB := H2.out.trans (hb1.mono H2.out.size)
    have hbx := one_below w1 (.cells #[.int .i64 T.op, .int .i64 T.hd, .int .i64 T.n, .slice a3 n3 m3] 24)
    have hr := heap_kept hbx (heap_kept hb1 hk2.out.2)
    obtain ⟨⟨x0, x1, x2, x3, x4, x5⟩, f0, f1, f2, f3, f4, f5⟩ := cells6_of hr
    obtain ⟨⟨y0, y1, y2, y3, y4, y5⟩, _⟩ := cells6_of (heap_kept hbx (heap_kept hb1 hk2.out.1))
    have HR := Lib.hid hr
    have HL := Lib.hid L1
    have s1 := hb1.size
    simp at s1
    clear hr L1 hbx
    go_wp2_with fail
    have hz := set6_at HR.out (.int .i64 T.op) (.int .i64 T.hd) (.int .i64 T.n) (.slice a3 n3 m3) (.int .i64 s) (.int .i64 d)
    obtain ⟨⟨z0, z1, z2, z3, z4, z5⟩, _⟩ := cells6_of hz
    unfold set6 at z0 z1 z2 z3 z4 z5
    refine bodyPost_ret (v := .agg #[.int .i64 T.op, .int .i64 T.hd, .int .i64 T.n, .slice a3 n3 m3, .int .i64 s, .int .i64 d]) (by simp [results, Try.results61, go_sem, z0, z1, z2, z3, z4, z5]) rfl ?_
    refine ⟨_, rfl, set6_below (hB.alloc hB.size _) (by omega) _ _ _ _ _ _, ?_⟩
    exact ((HL.out.keep (one_below _ _)).still fun b hS _ => set6_other _ _ _ _ _ _ (by simp at hS; omega)).more fun b _ hS => by simp at hS; omega

set_option maxHeartbeats 1000000 in
set_option maxRecDepth 100000 in
theorem arrive_ok (C c : Nat) (w : World) (hC : w.heap[C]? = some (.cells #[.int .i64 c] 111 (0, 0))) (hc : c < 20000) :
    Calls Try.prog 79 #[.pointer (some ⟨C, 0, none⟩)] w fun e w' => e = .returned (.tuple #[]) ∧ Only C w w' ∧ w'.heap[C]? = some (.cells #[.int .i64 ((c + 1 : Nat) : Int)] 111 (0, 0)) := by
  obtain ⟨c0, f0, hlt⟩ := Sp.cells1_of hC
  have HC := Lib.hid hC
  clear hC
  have h1 : ¬ (20000 : Int) < (c : Int) + 1 := by omega
  go_enter Try.func79, Try.ntmps79
  go_wp2
  go_end0
  have := heap_set_at (j := 0) (.int .i64 ((c : Int) + 1)) HC.out
  exact ⟨rfl, (Only.refl C w).setCell 0 none _, by simpa using this⟩

set_option maxHeartbeats 1000000 in
set_option maxRecDepth 100000 in
theorem arrive_full (C c : Nat) (w : World) (hC : w.heap[C]? = some (.cells #[.int .i64 c] 111 (0, 0))) (hc : 20000 ≤ c) (hc' : c ≤ 20000) :
    Calls Try.prog 79 #[.pointer (some ⟨C, 0, none⟩)] w fun e w' => e = .panicked (failure 5) ∧ Only C w w' := by
  obtain ⟨c0, f0, hlt⟩ := Sp.cells1_of hC
  clear hC
  have h1 : (20000 : Int) < (c : Int) + 1 := by omega
  have hcc := fail_concrete
  go_enter Try.func79, Try.ntmps79
  go_wp2
  exact ⟨rfl, rfl, (Only.refl C w).setCell 0 none _⟩
end Go.Proofs.Ytieakippgeehgaa.Sb

namespace Go.Proofs.Ytieakippgeehgaa.Sb
open Go.RowKit
set_option linter.unusedSimpArgs false
set_option linter.unusedVariables false

theorem tm_inf : (Try.prog.info? 24).map (fun i => (i.zero, i.size, i.bytes)) = some (some (.agg #[.int .i64 0, .int .i64 0, .int .i64 0, .slice none 0 0]), 4, 48) := by kernel_rfl

/-- are the counts of a node those of a proper term? -/
def fitsIn (t : Tm) : Bool := decide (Tm.sz t ≤ 600) && decide (Tm.depth t ≤ 40)

mutual
theorem formed_depth : ∀ (t : Tm) (d e : Nat), Tm.formed t d = true → Tm.depth t + e ≤ 41 → Tm.formed t e = true
  | .mk o h n l, d, e, hf, he => by
    simp only [Tm.formed, Bool.and_eq_true, decide_eq_true_eq, Tm.depth] at hf he ⊢
    exact ⟨⟨by omega, hf.1.2⟩, formedL_depth l (d + 1) (e + 1) hf.2 (by omega)⟩
theorem formedL_depth : ∀ (l : List Tm) (d e : Nat), Tm.formedL l d = true → Tm.depthL l + e ≤ 41 → Tm.formedL l e = true
  | [], _, _, _, _ => rfl
  | t :: l, d, e, hf, he => by
    simp only [Tm.formedL, Bool.and_eq_true, Tm.depthL] at hf he ⊢
    exact ⟨formed_depth t d e hf.1 (by omega), formedL_depth l d e hf.2 (by omega)⟩
end
mutual
theorem depth_formed : ∀ (t : Tm) (d : Nat), Tm.formed t d = true → Tm.depth t + d ≤ 41
  | .mk o h n l, d, hf => by
    simp only [Tm.formed, Bool.and_eq_true, decide_eq_true_eq, Tm.depth] at hf ⊢
    have := depthL_formed l (d + 1) hf.2 (by omega)
    omega
theorem depthL_formed : ∀ (l : List Tm) (d : Nat), Tm.formedL l d = true → d ≤ 41 → Tm.depthL l + d ≤ 41
  | [], d, _, hd => by simp only [Tm.depthL]; omega
  | t :: l, d, hf, hd => by
    simp only [Tm.formedL, Bool.and_eq_true, Tm.depthL] at hf ⊢
    have h1 := depth_formed t d hf.1
    have h2 := depthL_formed l d hf.2 hd
    omega
end
theorem proper_bd {t : Tm} (h : Tm.proper t = true) : Tm.sz t ≤ 600 ∧ Tm.depth t ≤ 40 := by
  obtain ⟨h1, h2⟩ := Tm.proper_two h
  have := depth_formed t 1 h2
  exact ⟨h1, by omega⟩
/-- a node with the right head, over proper parts, is proper just if its counts are right -/
theorem proper_node {o h n : Int} {l : List Tm} (hh : Tm.headOk o h n l.length = true) (hl : ∀ t ∈ l, Tm.proper t = true) : Tm.proper (.mk o h n l) = fitsIn (.mk o h n l) := by
  unfold Tm.proper fitsIn
  rcases hd : decide (Tm.depth (.mk o h n l) ≤ 40) with _ | _
  · rw [Bool.and_false, Bool.and_eq_false_iff]
    right
    rw [decide_eq_false_iff_not] at hd
    rcases hf : Tm.formed (.mk o h n l) 1 with _ | _
    · rfl
    · have := depth_formed _ 1 hf; omega
  · rw [decide_eq_true_eq] at hd
    congr 1
    simp only [Tm.formed, hh, Bool.and_true]
    simp only [Tm.depth] at hd
    have h1 : Tm.formedL l 1 = true := by
      rw [Tm.formedL_all, List.all_eq_true]
      exact fun t ht => (Tm.proper_two (hl t ht)).2
    rw [formedL_depth l 1 2 h1 (by omega)]
    rfl

theorem three_blocks' (w : World) (c1 c2 c3 : Array Value) (t1 t2 t3 : TypeId) :
    (((w.alloc (.cells c1 t1)).alloc (.cells c2 t2)).alloc (.cells c3 t3)).heap[w.heap.size + 1]? = some (.cells c2 t2 (0, 0)) ∧ (((w.alloc (.cells c1 t1)).alloc (.cells c2 t2)).alloc (.cells c3 t3)).heap[w.heap.size + 1 + 1]? = some (.cells c3 t3 (0, 0)) ∧
      Below w.heap.size w (((w.alloc (.cells c1 t1)).alloc (.cells c2 t2)).alloc (.cells c3 t3)) := by
  have h2 := two_blocks w c1 c2 t1 t2
  have hn := heap_alloc_new ((w.alloc (.cells c1 t1)).alloc (.cells c2 t2)) (.cells c3 t3)
  have e2 : ((w.alloc (.cells c1 t1)).alloc (.cells c2 t2)).heap.size = w.heap.size + 1 + 1 := by simp
  rw [e2] at hn
  exact ⟨heap_kept (one_below _ _) h2.2, hn, (two_below w _ _).alloc (by rw [e2]; omega) _⟩

/-- what built leaves -/
def GivesBt (w : World) (S : Nat → Prop) (t : Tm) (e : Ending) (w' : World) : Prop :=
  if fitsIn t = true then ∃ v, e = .returned (.agg #[.int .i64 t.op, .int .i64 t.hd, .int .i64 t.n, v, .int .i64 (Tm.sz t : Nat), .int .i64 (Tm.depth t : Nat)]) ∧ Below w.heap.size w w' ∧ Lies w' (fun b => S b ∨ w.heap.size ≤ b) v t.args
  else e = .panicked (failure 5) ∧ Below w.heap.size w w'

theorem givesBt_no {w w' : World} {S : Nat → Prop} {t : Tm} (h : fitsIn t = false) (hb : Below w.heap.size w w') : GivesBt w S t (.panicked (failure 5)) w' := by
  unfold GivesBt; rw [h]; exact ⟨rfl, hb⟩
theorem givesBt_yes {w w' : World} {S : Nat → Prop} {o h k : Int} {l : List Tm} {v : Value} {x y : Int} (hf : fitsIn (.mk o h k l) = true) (hx : x = (Tm.sz (.mk o h k l) : Nat)) (hy : y = (Tm.depth (.mk o h k l) : Nat)) (hb : Below w.heap.size w w') (hl : Lies w' (fun b => S b ∨ w.heap.size ≤ b) v l) :
    GivesBt w S (.mk o h k l) (.returned (.agg #[.int .i64 o, .int .i64 h, .int .i64 k, v, .int .i64 x, .int .i64 y])) w' := by
  unfold GivesBt; rw [hf, hx, hy]; exact ⟨v, rfl, hb, hl⟩

/-- the loop: the result's box, the piece that is being built, the row of its parts -/
structure BuiltSt (w : World) (S : Nat → Prop) (o h k : Int) (ts : List Tm) (j : Nat) (v : Value) (wr : World) : Prop where
  below : Below w.heap.size w wr
  res : wr.heap[w.heap.size + 1]? = some (.cells #[.int .i64 0, .int .i64 0, .int .i64 0, .slice none 0 0, .int .i64 0, .int .i64 0] 77 (0, 0))
  box : wr.heap[w.heap.size + 1 + 1]? = some (.cells #[.int .i64 o, .int .i64 h, .int .i64 k, v, .int .i64 ((1 + Tm.szL (ts.take j) : Nat) : Int), .int .i64 ((1 + Tm.depthL (ts.take j) : Nat) : Int)] 77 (0, 0))
  row : RBuilt wr (w.heap.size + 1 + 1 + 1) (fun b => S b ∧ b < w.heap.size) 24 v (ts.take j)

theorem szL_bd (l : List Tm) (h : ∀ t ∈ l, Tm.proper t = true) : Tm.szL l ≤ 600 * l.length := by
  induction l with
  | nil => simp [Tm.szL]
  | cons a l ih =>
    have h1 := (proper_bd (h a (by simp))).1
    have h2 := ih (fun t ht => h t (by simp [ht]))
    simp only [Tm.szL, List.length_cons]
    omega
theorem depthL_bd (l : List Tm) (h : ∀ t ∈ l, Tm.proper t = true) : Tm.depthL l ≤ 40 := by
  induction l with
  | nil => simp [Tm.depthL]
  | cons a l ih =>
    have h1 := (proper_bd (h a (by simp))).2
    have h2 := ih (fun t ht => h t (by simp [ht]))
    simp only [Tm.depthL]
    omega
theorem fit_of {t : Tm} (h : Tm.proper t = true) : t.fit := by
  obtain ⟨o, hd, n, l⟩ := t
  have hn := Tm.nums_of_formed _ 1 (Tm.proper_two h).2
  simp only [Tm.nums, Bool.and_eq_true, decide_eq_true_eq] at hn
  exact ⟨⟨by simp only [Tm.op]; omega, by simp only [Tm.op]; omega⟩, ⟨by simp only [Tm.hd]; omega, by simp only [Tm.hd]; omega⟩, by simp only [Tm.n]; omega, by simp only [Tm.n]; omega⟩

theorem BuiltSt.next {w wr w3 : World} {S : Nat → Prop} {o h k : Int} {ts : List Tm} {j : Nat} {v v' : Value} {x y : Int} (H : BuiltSt w S o h k ts j v wr) (hb3 : Below (w.heap.size + 1 + 1 + 1) wr w3) (hj : j < ts.length) (hrow : RBuilt w3 (w.heap.size + 1 + 1 + 1) (fun b => S b ∧ b < w.heap.size) 24 v' (ts.take j ++ [ts[j]]))
    (hx : x = ((1 + Tm.szL (ts.take j) : Nat) : Int) + (Tm.sz ts[j] : Nat)) (hy : y = ((1 + Tm.depthL (ts.take (j + 1)) : Nat) : Int)) :
    BuiltSt w S o h k ts (j + 1) v' (((w3.setCell ⟨w.heap.size + 1 + 1, 3, none⟩ v').setCell ⟨w.heap.size + 1 + 1, 4, none⟩ (.int .i64 x)).setCell ⟨w.heap.size + 1 + 1, 5, none⟩ (.int .i64 y)) := by
  have hbox := (hb3.block (w.heap.size + 1 + 1) (by omega)).trans H.box
  have hres := (hb3.block (w.heap.size + 1) (by omega)).trans H.res
  have e : ts.take (j + 1) = ts.take j ++ [ts[j]] := List.take_succ_eq_append_getElem hj
  refine ⟨(((H.below.trans (hb3.mono (by omega))).setCell (by simp; omega) _).setCell (by simp; omega) _).setCell (by simp; omega) _, ?_, ?_, ?_⟩
  · rw [Below.heap_setCell _ _ _ _ (by simp), Below.heap_setCell _ _ _ _ (by simp), Below.heap_setCell _ _ _ _ (by simp)]; exact hres
  · have := heap_set_at (j := 5) (.int .i64 y) (heap_set_at (j := 4) (.int .i64 x) (heap_set_at (j := 3) v' hbox))
    rw [this, hx, hy, Tm.szL_take ts j hj]
    simp
    omega
  · rw [e]
    exact ((hrow.setCell (by simp) (by simp; omega) _).setCell (by simp) (by simp; omega) _).setCell (by simp) (by simp; omega) _

set_option maxHeartbeats 4000000 in
set_option maxRecDepth 100000 in
theorem built_any (o h k : Int) (v0 : Value) (l0 : List Tm) (va : Value) (ts : List Tm) (w : World) (S0 S1 : Nat → Prop) (hv0 : Lies w S0 v0 l0) (hva : PLies w S1 va ts) (hp : ∀ t ∈ ts, Tm.proper t = true) (hlen : ts.length ≤ 600) :
    Calls Try.prog 81 #[.agg #[.int .i64 o, .int .i64 h, .int .i64 k, v0], va] w (GivesBt w S1 (.mk o h k ts)) := by
  obtain ⟨a0, n0, m0, rfl⟩ := hv0.isSlice
  obtain ⟨ao, b, off, len, cap, sv, rfl, R⟩ := hva
  obtain ⟨i0, hi0, hz0, hz1, hz2⟩ := info_parts tm_inf
  have HI0 := Lib.hid hi0
  have HZ0 := Lib.hid hz0
  have hr := R.hr
  have hl := R.hl
  have HL := Lib.hid R.length
  have HP := Lib.hid hp
  have HR := Lib.hid R
  have hlt := R.length
  have hl6 : len ≤ 600 := by omega
  clear hv0 hi0 hz0 R hp hlt hlen
  go_enter Try.func81, Try.ntmps81
  go_wp2_with fail
  have hst : BuiltSt w S1 o h k ts 0 (.slice none 0 0) (((w.alloc (.cells #[.int .i64 o, .int .i64 h, .int .i64 k, .slice a0 n0 m0] 24)).alloc (.cells #[.int .i64 0, .int .i64 0, .int .i64 0, .slice none 0 0, .int .i64 0, .int .i64 0] 77)).alloc (.cells #[.int .i64 o, .int .i64 h, .int .i64 k, .slice none 0 0, .int .i64 1, .int .i64 1] 77)) := by
    have h3 := three_blocks' w #[.int .i64 o, .int .i64 h, .int .i64 k, .slice a0 n0 m0] #[.int .i64 0, .int .i64 0, .int .i64 0, .slice none 0 0, .int .i64 0, .int .i64 0] #[.int .i64 o, .int .i64 h, .int .i64 k, .slice none 0 0, .int .i64 1, .int .i64 1] 24 77 77
    exact ⟨h3.2.2, h3.1, by simpa [Tm.szL, Tm.depthL] using h3.2.1, by simpa using RBuilt.nil _ _ _ _⟩
  go_loopw [18] (fun i wr => ∃ (j : Nat) (v : Value), j ≤ len ∧ i = .int .i64 j ∧ BuiltSt w S1 o h k ts j v wr) (fun i _ => len - (intOf i).toNat)
  case atStart => exact ⟨0, _, Nat.zero_le _, rfl, hst⟩
  case round =>
    obtain ⟨j, v, hj, rfl, H⟩ := hrel
    have hbsz := H.below.size
    have hlb := lt_blk H.box
    by_cases hlt : j < len
    · have hjl : j < ts.length := by rw [HL.out]; exact hlt
      obtain rfl := HR.out.hao (by omega)
      obtain ⟨d0, d1, d2, d3, d4, d5, hsub⟩ := HR.out.at H.below j hjl
      obtain ⟨a5, n5, m5, hs5⟩ := hsub.isSlice
      rw [hs5] at d3 hsub
      have hb := proper_bd (HP.out _ (List.getElem_mem hjl))
      have hzb := szL_bd (ts.take j) (fun t ht => HP.out t (List.mem_of_mem_take ht))
      have hdb := depthL_bd (ts.take j) (fun t ht => HP.out t (List.mem_of_mem_take ht))
      have hfa := Lib.hid (fit_of (HP.out _ (List.getElem_mem hjl)))
      have hDT := Lib.hid (Tm.depthL_take ts j hjl)
      have htl : (ts.take j).length = j := by rw [List.length_take]; omega
      rw [htl] at hzb
      obtain ⟨t, ht⟩ : ∃ t, t = ts[j] := ⟨_, rfl⟩
      rw [← ht] at d0 d1 d2 d4 d5 hsub hb hfa hDT
      obtain ⟨A, hA⟩ : ∃ A, A = 1 + Tm.szL (ts.take j) := ⟨_, rfl⟩
      obtain ⟨D, hD⟩ : ∃ D, D = 1 + Tm.depthL (ts.take j) := ⟨_, rfl⟩
      obtain ⟨x, hx⟩ : ∃ x, x = Tm.sz t := ⟨_, rfl⟩
      obtain ⟨y, hy⟩ : ∃ y, y = Tm.depth t := ⟨_, rfl⟩
      rw [← hx] at hb d4
      rw [← hy] at hb d5
      have hAb : A ≤ 1000000 := by omega
      have hDb : D ≤ 41 := by omega
      have hxb := hb.1
      have hyb := hb.2
      have hbA := one_below wr (.cells #[.int .i64 t.op, .int .i64 t.hd, .int .i64 t.n, .slice a5 n5 m5, .int .i64 (x : Int), .int .i64 (y : Int)] 77)
      have hbB := two_below wr (.cells #[.int .i64 t.op, .int .i64 t.hd, .int .i64 t.n, .slice a5 n5 m5, .int .i64 (x : Int), .int .i64 (y : Int)] 77) (.cells #[.int .i64 t.op, .int .i64 t.hd, .int .i64 t.n, .slice a5 n5 m5] 24)
      have hkB := two_blocks wr #[.int .i64 t.op, .int .i64 t.hd, .int .i64 t.n, .slice a5 n5 m5, .int .i64 (x : Int), .int .i64 (y : Int)] #[.int .i64 t.op, .int .i64 t.hd, .int .i64 t.n, .slice a5 n5 m5] 77 24
      have hbox := H.box
      rw [← hA, ← hD] at hbox
      obtain ⟨⟨y0, y1, y2, y3, y4, y5⟩, f0, f1, f2, f3, f4, f5⟩ := cells6_of (heap_kept hbA hbox)
      obtain ⟨vs, hvl, hown, hsub2⟩ := (H.row.below hbB).own
      rw [htl] at hown
      obtain ⟨a6, m6, hv6⟩ := H.row.isSlice
      rw [htl] at hv6
      subst hv6
      have hrl := H.row.lt
      have HKB := Lib.hid hkB
      have HBX := Lib.hid hbox
      have HOW := Lib.hid hown
      have HVL := Lib.hid hvl
      have HSB := Lib.hid hsub2
      have hL5 : Hid (Lies wr (fun b => (S1 b ∧ b < w.heap.size) ∧ (Value.slice a6 j m6).ownBlock ≠ some b) (.slice a5 n5 m5) t.args) := Lib.hid (((HR.out.sub j hjl)) |> fun hh => by rw [hs5] at hh; rw [ht]; exact (hh.more (S' := fun b => S1 b ∧ b < w.heap.size) (fun b hlt hS => ⟨hS, hlt⟩) |>.keep H.below).more fun b _ hS => ⟨hS, fun e => by have := (H.row.lt b e).1; omega⟩)
      have HH := Lib.hid H
      have HRL := Lib.hid hrl
      have HXX := Lib.hid (And.intro hA (And.intro hD (And.intro hx (And.intro hy (And.intro ht htl)))))
      clear H hkB hbox hown hvl hsub2 hrl hs5 hb hzb hdb hA hD hx hy ht htl
      by_cases hdl : D < y + 1
      all_goals
        go_wp2_with (at_builtin; refine wpList_append_lies _ (by rfl) _ _ _ (by rfl) (w.heap.size + 1 + 1 + 1) 24 i0 _ 4 48 Try.underlying22 HI0.out HZ0.out hz1 hz2 rfl (by omega) (.slice a6 j m6) j _ (by rfl) HOW.out ⟨wr.heap.size + 1, 0, none⟩ 1 1 [.int .i64 t.op, .int .i64 t.hd, .int .i64 t.n, .slice a5 n5 m5] (by rfl) (by rfl) (World.news_of_block (cs := #[.int .i64 t.op, .int .i64 t.hd, .int .i64 t.n, .slice a5 n5 m5]) (t := 24) (fr := (0, 0)) HKB.out.2) (by intro u hu; simp at hu; rcases hu with rfl | rfl | rfl | rfl <;> rfl) (by omega) (by unfold maxLen; omega) (by omega) (by simp; omega) _ rfl ?_; intro g cap3 w3 hown3 hgrow3 hat3 hlt3; have hx3 := (hgrow3.block (w.heap.size + 1 + 1) (by simp; omega) (fun e => by have := (HRL.out _ e.symm).1; omega)).trans (heap_kept hbB HBX.out); obtain ⟨⟨z0, z1, z2, z3, z4, z5⟩, e0, e1, e2, e3, e4, e5⟩ := cells6_of hx3; have hp3 := (hgrow3.block wr.heap.size (by simp; omega) (fun e => by have := (HRL.out _ e.symm).2; omega)).trans HKB.out.1; obtain ⟨⟨p0, p1, p2, p3, p4, p5⟩, _⟩ := cells6_of hp3)
        have hb3 : Below (w.heap.size + 1 + 1 + 1) wr w3 := (hbB.mono (by omega)).grown hgrow3 (by simp; omega) (fun k hk => (HRL.out k hk).1)
        obtain ⟨hA, hD, hx, hy, ht, htl⟩ := HXX.out
        have hrow := RBuilt.push HVL.out HSB.out HH.out.row.fit hfa.out (hL5.out.keep hbB) (by rw [htl]; exact hown3) hgrow3 (by rcases hat3 with h | h; exact .inl h; exact .inr h)
        rw [htl] at hrow
        go_roundw
        case rel =>
          refine ⟨j + 1, _, by omega, by go_num, BuiltSt.next HH.out hb3 (by rw [HL.out]; exact hlt) (by rw [← ht]; exact hrow) (by rw [← ht, ← hx, ← hA]) ?_⟩
          rw [hDT.out, ← hy]
          omega
        case measure => simp [intOf]; omega
    · have hkl : ts.take j = ts := List.take_of_length_le (by rw [HL.out]; omega)
      have hbox := H.box
      rw [hkl] at hbox
      obtain ⟨A, hA⟩ : ∃ A, A = 1 + Tm.szL ts := ⟨_, rfl⟩
      obtain ⟨D, hD⟩ : ∃ D, D = 1 + Tm.depthL ts := ⟨_, rfl⟩
      rw [← hA, ← hD] at hbox
      have hsz : Tm.sz (.mk o h k ts) = A := by simp only [Tm.sz, hA]
      have hdp : Tm.depth (.mk o h k ts) = D := by simp only [Tm.depth, hD, Nat.add_comm]
      have hfi : fitsIn (.mk o h k ts) = (decide (A ≤ 600) && decide (D ≤ 40)) := by
        unfold fitsIn
        rw [hsz, hdp]
      obtain ⟨⟨y0, y1, y2, y3, y4, y5⟩, f0, f1, f2, f3, f4, f5⟩ := cells6_of hbox
      have hres := H.res
      obtain ⟨⟨x0, x1, x2, x3, x4, x5⟩, e0, e1, e2, e3, e4, e5⟩ := cells6_of hres
      obtain ⟨a6, m6, hv6⟩ := H.row.isSlice
      rw [hkl, HL.out] at hv6
      subst hv6
      have hrow := H.row
      rw [hkl] at hrow
      have hcc := fail_concrete
      have HH := Lib.hid H
      have HRW := Lib.hid hrow
      have HRS := Lib.hid hres
      have HSD := Lib.hid (And.intro hsz hdp)
      have HFI := Lib.hid hfi
      clear hbox hres hrow H hfi hA hD hsz hdp hkl
      by_cases hA6 : A ≤ 600
      · by_cases hD4 : D ≤ 40
        · go_wp2
          have hz := set6_at HRS.out (.int .i64 o) (.int .i64 h) (.int .i64 k) (.slice a6 len m6) (.int .i64 A) (.int .i64 D)
          obtain ⟨⟨z0, z1, z2, z3, z4, z5⟩, _⟩ := cells6_of hz
          unfold set6 at z0 z1 z2 z3 z4 z5
          refine bodyPost_ret (v := .agg #[.int .i64 o, .int .i64 h, .int .i64 k, .slice a6 len m6, .int .i64 A, .int .i64 D]) (by simp [results, Try.results81, go_sem, z0, z1, z2, z3, z4, z5]) rfl ?_
          refine givesBt_yes (by rw [HFI.out, decide_eq_true hA6, decide_eq_true hD4]; rfl) (by rw [HSD.out.1]) (by rw [HSD.out.2]) (set6_below HH.out.below (by omega) _ _ _ _ _ _) ?_
          have hlt5 := HRW.out.lt
          refine ((HRW.out.keep (w' := set6 wr (w.heap.size + 1) (.int .i64 o) (.int .i64 h) (.int .i64 k) (.slice a6 len m6) (.int .i64 A) (.int .i64 D)) fun b hb _ => set6_other _ _ _ _ _ _ ?_).low (Nat.le_refl _) (S' := fun b => S1 b ∨ w.heap.size ≤ b) fun b _ hS => .inl hS.1).lies fun b hb _ => .inr (by omega)
          rcases hb with hb | hb
          · have := hb.2; omega
          · have := (hlt5 b hb).1; omega
        · go_wp2
          exact ⟨rfl, givesBt_no (by rw [HFI.out, decide_eq_false hD4, Bool.and_false]) HH.out.below⟩
      · go_wp2
        exact ⟨rfl, givesBt_no (by rw [HFI.out, decide_eq_false hA6, Bool.false_and]) HH.out.below⟩
end Go.Proofs.Ytieakippgeehgaa.Sb

namespace Go.Proofs.Ytieakippgeehgaa.Sb
open Go.RowKit
set_option linter.unusedSimpArgs false
set_option linter.unusedVariables false

theorem pc_inf : (Try.prog.info? 77).map (fun i => (i.zero, i.size, i.bytes)) = some (some (.agg #[.int .i64 0, .int .i64 0, .int .i64 0, .slice none 0 0, .int .i64 0, .int .i64 0]), 6, 64) := by kernel_rfl

/-- a substitution as a value -/
abbrev subV (C : Nat) (s : Tm) (sv Sv : Value) (cn : Int) : Value := .agg #[.pointer (some ⟨C, 0, none⟩), .int .i64 s.op, .int .i64 s.hd, .int .i64 s.n, sv, .int .i64 (Tm.sz s : Nat), .int .i64 (Tm.depth s : Nat), Sv, .int .i64 cn]
/-- a piece as a value -/
abbrev pcV (t : Tm) (v : Value) : Value := .agg #[.int .i64 t.op, .int .i64 t.hd, .int .i64 t.n, v, .int .i64 (Tm.sz t : Nat), .int .i64 (Tm.depth t : Nat)]
abbrev cntAt (C c : Nat) (w : World) : Prop := w.heap[C]? = some (.cells #[.int .i64 c] 111 (0, 0))

/-- what a computation leaves: a piece in new memory and the count, or a panic -/
def GivesP (w : World) (C : Nat) (r : Out Tm) (e : Ending) (w' : World) : Prop :=
  match r with
  | .ok t c => ∃ v, e = .returned (pcV t v) ∧ Only C w w' ∧ cntAt C c w' ∧ Lies w' (w.heap.size ≤ ·) v t.args
  | .er x => e = .panicked (failure x) ∧ Only C w w'
def GivesPL (w : World) (C : Nat) (r : Out (List Tm)) (e : Ending) (w' : World) : Prop :=
  match r with
  | .ok ts c => ∃ v, e = .returned v ∧ Only C w w' ∧ cntAt C c w' ∧ PLies w' (w.heap.size ≤ ·) v ts
  | .er x => e = .panicked (failure x) ∧ Only C w w'

/-- what is asked of a call of in -/
def InOk (C : Nat) (s : Tm) (sv Sv : Value) (cn : Int) (Ss : List Sp.Tm) (t : Tm) : Prop :=
  ∀ (n : Int) (c : Nat) (w : World) (tv : Value), Lies w (· ≠ C) tv t.args → Lies w (· ≠ C) sv s.args → Sp.Lies w (· ≠ C) Sv Ss → cntAt C c w → c ≤ 20000 → 0 ≤ n → n + (Tm.sz t : Nat) ≤ 11000 → Tm.proper t = true →
    Calls Try.prog 45 #[subV C s sv Sv cn, .agg #[.int .i64 t.op, .int .i64 t.hd, .int .i64 t.n, tv], .int .i64 n] w (GivesP w C (put (.mk cn Ss) s n t c))

theorem Only.keepBlock {B k : Nat} {w w1 : World} {o : Obj} (h : Only B w w1) (hk : w.heap[k]? = some o) (hne : k ≠ B) : w1.heap[k]? = some o := (h.block k (lt_blk hk) hne).trans hk

/-- the loop -/
structure VisSt (w : World) (C : Nat) (s : Tm) (cn : Int) (Ss : List Sp.Tm) (n o h k : Int) (nv : Value) (l : List Tm) (c j : Nat) (v : Value) (ts : List Tm) (cj : Nat) (wr : World) : Prop where
  only : Only C w wr
  cnt : cntAt C cj wr
  bd : cj ≤ 20000
  box : wr.heap[w.heap.size]? = some (.cells #[.int .i64 o, .int .i64 h, .int .i64 k, nv] 24 (0, 0))
  row : PBuilt wr (w.heap.size + 1) (w.heap.size + 1 ≤ ·) 77 v ts
  sofar : putL (.mk cn Ss) s n o 0 (l.take j) c = .ok ts cj
  len : ts.length = j

theorem VisSt.next {w wr w2 w3 : World} {C : Nat} {s t : Tm} {cn : Int} {Ss : List Sp.Tm} {n o h k : Int} {nv : Value} {l : List Tm} {c j : Nat} {v v' : Value} {ts : List Tm} {cj c' : Nat} (H : VisSt w C s cn Ss n o h k nv l c j v ts cj wr) (hC : C < w.heap.size)
    (ho2 : Only C wr w2) (hc2 : cntAt C c' w2) (hcb : c' ≤ 20000) (hj : j < l.length) (hput : put (.mk cn Ss) s (n + Tm.belowN o j) l[j] cj = .ok t c') (hgr : (w2.alloc (.cells (pcells t nv).toArray 77)).grownBy w3 v.ownBlock ∨ ∃ o', (w2.alloc o').grownBy w3 v.ownBlock)
    (hrow : PBuilt w3 (w.heap.size + 1) (w.heap.size + 1 ≤ ·) 77 v' (ts ++ [t])) : VisSt w C s cn Ss n o h k nv l c (j + 1) v' (ts ++ [t]) c' w3 := by
  obtain ⟨o', hg⟩ : ∃ o', (w2.alloc o').grownBy w3 v.ownBlock := hgr.elim (fun h => ⟨_, h⟩) id
  have hlb := lt_blk H.box
  have hs2 := ho2.size
  have hl := H.row.lt
  have go : ∀ b, b < wr.heap.size → b < w.heap.size + 1 → b ≠ C → w3.heap[b]? = wr.heap[b]? := fun b hb hb1 hne => by
    rw [hg.block b (by simp; omega) (fun e => by have := (hl b e.symm).1; omega), Below.heap_alloc _ _ _ (show b < w2.heap.size by omega), ho2.block b hb hne]
  have s3 := hg.size
  simp at s3
  have hlc := lt_blk hc2
  refine ⟨⟨hg.os.trans (ho2.out.os.trans H.only.out.os), hg.tape.trans (ho2.out.tape.trans H.only.out.tape), hg.output.trans (ho2.out.output.trans H.only.out.output), by have := H.only.size; omega, fun b hb hne => ?_⟩, ?_, hcb, ?_, hrow, ?_, by simp [H.len]⟩
  · have hne' : b ≠ C := by simpa using hne
    rw [go b (by have := H.only.size; omega) (by omega) hne', H.only.block b hb hne']
  · show w3.heap[C]? = _
    rw [hg.block C (by simp; omega) (fun e => by have := (hl C e.symm).1; omega), Below.heap_alloc _ _ _ hlc]; exact hc2
  · rw [go _ hlb (by omega) (by omega)]; exact H.box
  · rw [List.take_succ_eq_append_getElem hj, putL_snoc, H.sofar]
    simp only [List.length_take, Nat.min_eq_left (Nat.le_of_lt hj), Nat.zero_add, hput]

set_option maxHeartbeats 8000000 in
set_option maxRecDepth 100000 in
theorem visited_any (C : Nat) (s : Tm) (sv Sv : Value) (cn : Int) (Ss : List Sp.Tm) (o h k : Int) (nv : Value) (l : List Tm) (n : Int) (c : Nat) (w : World) (ih : ∀ t ∈ l, InOk C s sv Sv cn Ss t)
    (hnv : Lies w (· ≠ C) nv l) (hsv : Lies w (· ≠ C) sv s.args) (hSv : Sp.Lies w (· ≠ C) Sv Ss) (hC : cntAt C c w) (hc : c ≤ 20000) (hn0 : 0 ≤ n) (hn1 : n + (Tm.sz (.mk o h k l) : Nat) ≤ 11000) (hp : Tm.proper (.mk o h k l) = true) :
    Calls Try.prog 80 #[.agg #[.int .i64 o, .int .i64 h, .int .i64 k, nv], .int .i64 n, .func (.func 45) #[subV C s sv Sv cn] #[]] w (GivesPL w C (putL (.mk cn Ss) s n o 0 l c)) := by
  obtain ⟨ao, b, off, len, cap, oo, hh, kk, tv, tt, rfl, R⟩ := hnv.open
  obtain ⟨i0, hi0, hz0, hz1, hz2⟩ := info_parts pc_inf
  obtain ⟨aq, nq, mq, rfl⟩ := hsv.isSlice
  obtain ⟨aS, nS, mS, rfl⟩ := hSv.isSlice
  have HI0 := Lib.hid hi0
  have HZ0 := Lib.hid hz0
  have hr := R.hr
  have hl := R.hl
  have hb6 := Tm.proper_two hp
  have hlen6 : l.length ≤ 600 := by have := Tm.length_le_szL l; simp only [Tm.sz] at hb6; omega
  have HL := Lib.hid R.length
  have hl6 : len ≤ 600 := by have := R.length; omega
  have hClt := lt_blk hC
  have hst : VisSt w C s cn Ss n o h k (.slice ao len cap) l c 0 (.slice none 0 0) [] c (w.alloc (.cells #[.int .i64 o, .int .i64 h, .int .i64 k, .slice ao len cap] 24)) :=
    ⟨Only.below (one_below w _) C, heap_kept (one_below w _) hC, hc, heap_alloc_new w _, PBuilt.nil _ _ _ _, by rw [List.take_zero, putL_nil], rfl⟩
  have HST := Lib.hid hst
  have HPT := Lib.hid (Tm.proper_parts hp)
  have HR := Lib.hid R
  have HSV := Lib.hid hsv
  have HSS := Lib.hid hSv
  have HIH := Lib.hid ih
  have HN1 := Lib.hid hn1
  have hnb : n ≤ 11000 := by omega
  clear hnv hi0 hz0 hst hp hb6 hlen6 R hsv hSv ih hC hc hn1
  go_enter Try.func80, Try.ntmps80
  go_wp2_with fail
  go_loopw [7, 14] (fun v i wr => ∃ (j : Nat) (ts : List Tm) (cj : Nat), j ≤ len ∧ i = .int .i64 j ∧ VisSt w C s cn Ss n o h k (.slice ao len cap) l c j v ts cj wr) (fun _ i _ => len - (intOf i).toNat)
  case atStart => exact ⟨0, [], c, Nat.zero_le _, rfl, HST.out⟩
  case round =>
    obtain ⟨j, ts, cj, hj, rfl, H⟩ := hrel
    have hlb := lt_blk H.box
    obtain ⟨a6, m6, hv6⟩ := H.row.isSlice
    rw [H.len] at hv6
    subst hv6
    by_cases hlt : j < len
    · have hjl : j < l.length := by rw [HL.out]; exact hlt
      obtain rfl := HR.out.hao (by omega)
      obtain ⟨d0, d1, d2, d3, hsub⟩ := HR.out.atO H.only j hlt
      obtain ⟨a5, n5, m5, hs5⟩ := hsub.isSlice
      rw [hs5] at d3 hsub
      have hg := HR.out.get j hlt
      have hba := one_below wr (.cells #[.int .i64 (oo j), .int .i64 (hh j), .int .i64 (kk j), .slice a5 n5 m5] 24)
      obtain ⟨q0, q1, q2, q3⟩ := c4_of (heap_kept hba H.box)
      have hn1 := HN1.out
      have hzt : Tm.sz l[j] + 1 ≤ Tm.sz (.mk o h k l) := by
        have := Tm.szL_le_of_mem (List.getElem_mem hjl)
        simp only [Tm.sz]; omega
      have hb1 := Tm.belowN_bd o j
      have call := HIH.out l[j] (List.getElem_mem hjl) (n + Tm.belowN o j) cj (wr.alloc (.cells #[.int .i64 (oo j), .int .i64 (hh j), .int .i64 (kk j), .slice a5 n5 m5] 24)) (.slice a5 n5 m5)
        (by rw [hg]; exact hsub.keep hba) ((HSV.out.only (fun h => h rfl) H.only).keep hba) ((HSS.out.only (fun h => h rfl) H.only).keep hba) (heap_kept hba H.cnt) H.bd (by omega) (by omega) (HPT.out _ (List.getElem_mem hjl))
      have HG := Lib.hid hg
      rw [hg] at call
      simp only [Tm.op, Tm.hd, Tm.n] at call
      have HH := Lib.hid H
      have hgood := put_good (.mk cn Ss) s (n + Tm.belowN o j) l[j] cj H.bd (HPT.out _ (List.getElem_mem hjl))
      have HGD := Lib.hid hgood
      have hcases : (Tm.belowN o j = 1 ∧ (o == 3) = true) ∨ (Tm.belowN o j = 1 ∧ (o == 3) = false ∧ (o == 2) = true ∧ ((j : Int) == 1) = true) ∨ (Tm.belowN o j = 0 ∧ (o == 3) = false ∧ (o == 2) = true ∧ ((j : Int) == 1) = false) ∨ (Tm.belowN o j = 0 ∧ (o == 3) = false ∧ (o == 2) = false) := by
        unfold Tm.belowN
        rcases h3 : (o == 3) with _ | _
        · rcases h2 : (o == 2) with _ | _
          · simp
          · rcases h1 : ((j : Int) == 1) with _ | _
            · have : (j == 1) = false := by simp at h1 ⊢; omega
              simp [this]
            · have : (j == 1) = true := by simp at h1 ⊢; omega
              simp [this]
        · simp
      rcases hres : put (.mk cn Ss) s (n + Tm.belowN o j) (.mk (oo j) (hh j) (kk j) (tt j)) cj with ⟨t, c'⟩ | x
      · have HRES := Lib.hid hres
        unfold GivesP at call
        rw [hres] at call
        simp only at call
        rw [hg, hres] at hgood
        have HG2 : Hid (c' ≤ 20000) := Lib.hid hgood.2.2
        have hrl := H.row.lt
        have HRL := Lib.hid hrl
        clear hg hgood hres hsub hs5 H hrl hzt hn1
        rcases hcases with ⟨hb, e1⟩ | ⟨hb, e1, e2, e3⟩ | ⟨hb, e1, e2, e3⟩ | ⟨hb, e1, e2⟩
        all_goals
          rw [hb] at call
          clear hb hb1
          try rw [Int.add_zero] at call
          go_wp2_with fail
          refine call.mono ?_
          rintro e w2 ⟨v2, rfl, ho2, hc2, L2⟩
          obtain ⟨a7, n7, m7, rfl⟩ := L2.isSlice
          have hoR := (Only.below hba C).trans ho2
          have hs2 := hoR.size
          have hsA := ho2.size
          simp at hsA
          have hrow2 := HH.out.row.keep (w' := w2) fun b' hb' hlt' => hoR.block b' hlt' (by
            rcases hb' with hb' | hb'
            · omega
            · have := (HRL.out b' hb').1; omega)
          obtain ⟨vs, hvl, hown, hsub2⟩ := hrow2.own
          have hlen := HH.out.len
          rw [hlen] at hown
          have HOW := Lib.hid hown
          have HVL := Lib.hid hvl
          have HSB := Lib.hid hsub2
          have HLN := Lib.hid hlen
          have L2' := Lib.hid (L2.more (S' := fun b' => w.heap.size + 1 ≤ b' ∧ (Value.slice a6 j m6).ownBlock ≠ some b') fun b' hlt' hS => ⟨by simp at hS; omega, fun e => by have := (HRL.out b' e).2; simp at hS; omega⟩)
          clear hrow2 hown hvl hsub2 hlen L2
          go_wp2_with (at_builtin; refine wpList_append_lies _ (by rfl) _ _ _ (by rfl) (w.heap.size + 1) 77 i0 _ 6 64 Try.underlying89 HI0.out HZ0.out hz1 hz2 rfl (by omega) (.slice a6 j m6) j _ (by rfl) (HOW.out.alloc _) ⟨w2.heap.size, 0, none⟩ 1 1 (pcells t (.slice a7 n7 m7)) (by rfl) (by rfl) (World.news_of_block (cs := (pcells t (.slice a7 n7 m7)).toArray) (t := 77) (fr := (0, 0)) (heap_alloc_new _ _)) (by intro u hu; simp [pcells] at hu; rcases hu with rfl | rfl | rfl | rfl | rfl | rfl <;> rfl) (by omega) (by unfold maxLen; omega) (by omega) (by simp; omega) _ rfl ?_; intro g cap3 w3 hown3 hgrow3 hat3 hlt3)
          have hrow3 := PBuilt.push (w := w2.alloc (.cells (pcells t (.slice a7 n7 m7)).toArray 77)) (S := (w.heap.size + 1 ≤ ·)) HVL.out (fun i h h' => (HSB.out i h h').keep (one_below _ _)) (L2'.out.keep (one_below _ _)) (by rw [HLN.out]; exact hown3) hgrow3 hat3
          rw [HLN.out] at hrow3
          have hput := HRES.out
          rw [← HG.out] at hput
          have hg2 := HG2.out
          go_roundw
          case rel => exact ⟨j + 1, ts ++ [t], c', by omega, by go_num, VisSt.next (nv := _) HH.out hClt hoR hc2 hg2 (by rw [HL.out]; exact hlt) hput (.inr ⟨_, hgrow3⟩) hrow3⟩
          case measure => simp [intOf]; omega
      · have HX := Lib.hid (putL_take_er (.mk cn Ss) s n o l c j hjl ts cj x H.sofar (by rw [hg]; exact hres))
        unfold GivesP at call
        rw [hres] at call
        simp only at call
        clear hg hgood hres hsub hs5 H hzt hn1
        rcases hcases with ⟨hb, e1⟩ | ⟨hb, e1, e2, e3⟩ | ⟨hb, e1, e2, e3⟩ | ⟨hb, e1, e2⟩
        all_goals
          rw [hb] at call
          clear hb hb1
          try rw [Int.add_zero] at call
          go_wp2_with fail
          refine call.mono ?_
          rintro e w2 ⟨rfl, ho2⟩
          refine ⟨rfl, ?_⟩
          rw [HX.out]
          exact ⟨rfl, HH.out.only.trans ((Only.below hba C).trans ho2)⟩
    · have hkl : l.take j = l := List.take_of_length_le (by rw [HL.out]; omega)
      have hsf := H.sofar
      rw [hkl] at hsf
      have HH := Lib.hid H
      have HSF := Lib.hid hsf
      clear hkl hsf H
      go_wp2
      go_ret
      rw [HSF.out]
      exact ⟨_, rfl, HH.out.only, HH.out.cnt, (HH.out.row.lies (fun b' h _ => h)).more fun b' _ hS => Nat.le_of_succ_le hS⟩
end Go.Proofs.Ytieakippgeehgaa.Sb

namespace Go.Proofs.Ytieakippgeehgaa.Sb
open Go.RowKit
set_option linter.unusedSimpArgs false
set_option linter.unusedVariables false

/-- what is asked of a call of apply -/
def AppOk (C : Nat) (cn : Int) (Ss : List Sp.Tm) : Prop :=
  ∀ (s : Tm) (sv Sv spv : Value) (sp : List Tm) (n : Int) (c : Nat) (w : World), Lies w (· ≠ C) sv s.args → Sp.Lies w (· ≠ C) Sv Ss → PLies w (· ≠ C) spv sp → cntAt C c w → c ≤ 20000 → 0 ≤ n → n ≤ 9999 → Tm.proper s = true → (∀ t ∈ sp, Tm.proper t = true) → sp.length ≤ 600 →
    Calls Try.prog 53 #[subV C s sv Sv cn, .int .i64 n, spv] w (GivesP w C (if Tm.proper (Tm.moved n 0 s) then app Ss (Tm.moved n 0 s) sp c else .er 5))

theorem cells9_of {w : World} {B : Nat} {a b c d e f g h i : Value} {t : TypeId} (x : w.heap[B]? = some (.cells #[a, b, c, d, e, f, g, h, i] t (0, 0))) :
    w.cell? ⟨B, 0, none⟩ = some a ∧ w.cell? ⟨B, 1, none⟩ = some b ∧ w.cell? ⟨B, 2, none⟩ = some c ∧ w.cell? ⟨B, 3, none⟩ = some d ∧ w.cell? ⟨B, 4, none⟩ = some e ∧ w.cell? ⟨B, 5, none⟩ = some f ∧ w.cell? ⟨B, 6, none⟩ = some g ∧ w.cell? ⟨B, 7, none⟩ = some h ∧ w.cell? ⟨B, 8, none⟩ = some i :=
  ⟨cell_in x 0 _ rfl, cell_in x 1 _ rfl, cell_in x 2 _ rfl, cell_in x 3 _ rfl, cell_in x 4 _ rfl, cell_in x 5 _ rfl, cell_in x 6 _ rfl, cell_in x 7 _ rfl, cell_in x 8 _ rfl⟩
theorem three_all (w : World) (c1 c2 c3 : Array Value) (t1 t2 t3 : TypeId) :
    (((w.alloc (.cells c1 t1)).alloc (.cells c2 t2)).alloc (.cells c3 t3)).heap[w.heap.size]? = some (.cells c1 t1 (0, 0)) ∧ (((w.alloc (.cells c1 t1)).alloc (.cells c2 t2)).alloc (.cells c3 t3)).heap[w.heap.size + 1]? = some (.cells c2 t2 (0, 0)) ∧
    (((w.alloc (.cells c1 t1)).alloc (.cells c2 t2)).alloc (.cells c3 t3)).heap[w.heap.size + 1 + 1]? = some (.cells c3 t3 (0, 0)) ∧ Below w.heap.size w (((w.alloc (.cells c1 t1)).alloc (.cells c2 t2)).alloc (.cells c3 t3)) := by
  have h := three_blocks' w c1 c2 c3 t1 t2 t3
  have h2 := two_blocks w c1 c2 t1 t2
  exact ⟨heap_kept (one_below _ _) h2.1, h.1, h.2.1, h.2.2⟩

theorem set6_only {w w4 : World} {C B : Nat} (a b c d e f : Value) (ho : Only C w w4) (hB : w.heap.size ≤ B) : Only C w (set6 w4 B a b c d e f) := by
  have h := set6_below (Below.refl w.heap.size w4) hB a b c d e f
  exact ⟨h.os.trans ho.out.os, h.tape.trans ho.out.tape, h.output.trans ho.out.output, Nat.le_trans ho.size h.size, fun k hk hne => (h.block k hk).trans (ho.out.block k hk hne)⟩

/-- a result of in, stored in its box -/
theorem givesP_stored {w w4 : World} {C B : Nat} {o h k : Int} {l : List Tm} {c : Nat} {v : Value} {x y : Int} (ho : Only C w w4) (hc : cntAt C c w4) (hC : C < w.heap.size) (hB : w.heap.size ≤ B) (hl : Lies w4 (fun b => w.heap.size ≤ b ∧ b ≠ B) v l) (hx : x = (Tm.sz (.mk o h k l) : Nat)) (hy : y = (Tm.depth (.mk o h k l) : Nat)) :
    GivesP w C (.ok (.mk o h k l) c) (.returned (.agg #[.int .i64 o, .int .i64 h, .int .i64 k, v, .int .i64 x, .int .i64 y])) (set6 w4 B (.int .i64 o) (.int .i64 h) (.int .i64 k) v (.int .i64 x) (.int .i64 y)) := by
  subst hx hy
  refine ⟨v, rfl, set6_only _ _ _ _ _ _ ho hB, ?_, (hl.still fun b hS _ => set6_other _ _ _ _ _ _ hS.2).more fun b _ hS => hS.1⟩
  exact (set6_other _ _ _ _ _ _ (by omega)).trans hc

theorem headOk_less {o k : Int} {len : Nat} (h : Tm.headOk o 1 k len = true) (hk : 1 ≤ k) : Tm.headOk o 1 (k - 1) len = true := by
  rcases Tm.headOk_yes _ _ _ _ h with ⟨_, _, h1, _⟩ | ⟨_, _, h1, _⟩ | ⟨_, _, h1, _⟩ | ⟨rfl, h1, h2, h3, h4⟩
  · omega
  · omega
  · omega
  · have h5 : 0 ≤ k - 1 := by omega
    have h6 : k - 1 ≤ 9999 := by omega
    simp [Tm.headOk, h5, h6]; omega
theorem whole_ok {t : Tm} {c : Nat} (h : Tm.proper t = true) : whole t c = .ok t c := by unfold whole; rw [h]; rfl
theorem whole_er {t : Tm} {c : Nat} (h : Tm.proper t = false) : whole t c = .er 5 := by unfold whole; rw [h]; rfl

set_option maxHeartbeats 4000000 in
set_option maxRecDepth 100000 in
theorem in_full (C : Nat) (s : Tm) (sv Sv : Value) (cn : Int) (Ss : List Sp.Tm) (o h k : Int) (tv : Value) (l : List Tm) (n : Int) (c : Nat) (w : World)
    (htv : Lies w (· ≠ C) tv l) (hsv : Lies w (· ≠ C) sv s.args) (hSv : Sp.Lies w (· ≠ C) Sv Ss) (hC : cntAt C c w) (hc : c ≤ 20000) (hc' : 20000 ≤ c) :
    Calls Try.prog 45 #[subV C s sv Sv cn, .agg #[.int .i64 o, .int .i64 h, .int .i64 k, tv], .int .i64 n] w (GivesP w C (put (.mk cn Ss) s n (.mk o h k l) c)) := by
  rw [put_eq, if_pos hc']
  obtain ⟨a1, n1, m1, rfl⟩ := htv.isSlice
  obtain ⟨aq, nq, mq, rfl⟩ := hsv.isSlice
  obtain ⟨aS, nS, mS, rfl⟩ := hSv.isSlice
  have h3 := three_all w #[.pointer (some ⟨C, 0, none⟩), .int .i64 s.op, .int .i64 s.hd, .int .i64 s.n, .slice aq nq mq, .int .i64 (Tm.sz s : Nat), .int .i64 (Tm.depth s : Nat), .slice aS nS mS, .int .i64 cn] #[.int .i64 o, .int .i64 h, .int .i64 k, .slice a1 n1 m1] #[.int .i64 0, .int .i64 0, .int .i64 0, .slice none 0 0, .int .i64 0, .int .i64 0] 80 24 77
  have ca := arrive_full C c _ (heap_kept h3.2.2.2 hC) hc' hc
  have H3 := Lib.hid h3.2.2.2
  clear h3 htv hsv hSv hC hc hc'
  go_enter Try.func45, Try.ntmps45
  go_wp2_with fail
  refine ca.mono ?_
  rintro e w1 ⟨rfl, ho1⟩
  exact ⟨rfl, rfl, (Only.below H3.out C).trans ho1⟩

set_option maxHeartbeats 8000000 in
set_option maxRecDepth 100000 in
theorem in_walk (C : Nat) (s : Tm) (sv Sv : Value) (cn : Int) (Ss : List Sp.Tm) (o h k : Int) (tv : Value) (l : List Tm) (n : Int) (c : Nat) (w : World) (ih : ∀ t ∈ l, InOk C s sv Sv cn Ss t) (ha : AppOk C cn Ss)
    (htv : Lies w (· ≠ C) tv l) (hsv : Lies w (· ≠ C) sv s.args) (hSv : Sp.Lies w (· ≠ C) Sv Ss) (hC : cntAt C c w) (hc : c < 20000) (hn0 : 0 ≤ n) (hn1 : n + (Tm.sz (.mk o h k l) : Nat) ≤ 11000) (hp : Tm.proper (.mk o h k l) = true) (hps : Tm.proper s = true) :
    Calls Try.prog 45 #[subV C s sv Sv cn, .agg #[.int .i64 o, .int .i64 h, .int .i64 k, tv], .int .i64 n] w (GivesP w C (put (.mk cn Ss) s n (.mk o h k l) c)) := by
  have hclt := lt_blk hC
  have hnc : ¬ 20000 ≤ c := by omega
  rw [put_eq, if_neg hnc]
  obtain ⟨a1, n1, m1, rfl⟩ := htv.isSlice
  obtain ⟨aq, nq, mq, rfl⟩ := hsv.isSlice
  obtain ⟨aS, nS, mS, rfl⟩ := hSv.isSlice
  have h3 := three_all w #[.pointer (some ⟨C, 0, none⟩), .int .i64 s.op, .int .i64 s.hd, .int .i64 s.n, .slice aq nq mq, .int .i64 (Tm.sz s : Nat), .int .i64 (Tm.depth s : Nat), .slice aS nS mS, .int .i64 cn] #[.int .i64 o, .int .i64 h, .int .i64 k, .slice a1 n1 m1] #[.int .i64 0, .int .i64 0, .int .i64 0, .slice none 0 0, .int .i64 0, .int .i64 0] 80 24 77
  have ca := arrive_ok C c _ (heap_kept h3.2.2.2 hC) hc
  have cv := fun w1 (ho : Only C w w1) hc1 => visited_any C s (.slice aq nq mq) (.slice aS nS mS) cn Ss o h k (.slice a1 n1 m1) l n (c + 1) w1 ih (htv.only (fun h => h rfl) ho) (hsv.only (fun h => h rfl) ho) (hSv.only (fun h => h rfl) ho) hc1 (by omega) hn0 hn1 hp
  have hgl := putL_good (.mk cn Ss) s n o 0 l (c + 1) (by omega) (Tm.proper_parts hp)
  have hff := (Tm.proper_two hp).2
  simp only [Tm.formed, Bool.and_eq_true, decide_eq_true_eq] at hff
  have hho := hff.1.2
  have hlen6 : l.length ≤ 600 := by have h1 := Tm.length_le_szL l; have h2 := (Tm.proper_two hp).1; simp only [Tm.sz] at h2; omega
  have htvH := Lib.hid htv
  have H3 := Lib.hid h3
  have HHO := Lib.hid hho
  have HSV := Lib.hid hsv
  have HSS := Lib.hid hSv
  have hHY := Tm.headOk_yes _ _ _ _ hho
  have hkb : 0 ≤ k ∧ k ≤ 9999 := by omega
  clear h3 hff hho ih htv hC hp hn1 hnc hsv hSv hHY
  rcases hq : putL (.mk cn Ss) s n o 0 l (c + 1) with ⟨l', c'⟩ | x
  · rw [hq] at cv hgl
    simp only
    obtain ⟨hg1, hg2, hg3, hg4⟩ := hgl
    unfold GivesPL at cv
    simp only at cv
    have HG1 := Lib.hid hg1
    have HG2 := Lib.hid hg2
    clear hq hg1 hg2
    by_cases hcase : h = 1 ∧ n ≤ k
    · rw [if_pos hcase]
      obtain ⟨rfl, hnk⟩ := hcase
      by_cases hkn : k = n
      · rw [if_pos hkn]
        subst hkn
        have hnlt : ¬ k < k := by omega
        have hkk : (k == k) = true := by simp
        rcases hres : (if Tm.proper (Tm.moved k 0 s) then app (Sp.Tm.mk cn Ss).args (Tm.moved k 0 s) l' c' else .er 5) with ⟨⟨po, ph, pk, pl⟩, c3⟩ | x
        · have HRES := Lib.hid hres
          go_enter Try.func45, Try.ntmps45
          go_wp2_with fail
          refine ca.mono ?_
          rintro e w1 ⟨rfl, ho1, hc1⟩
          obtain ⟨t0, t1, t2, t3⟩ := c4_of (Only.keepBlock ho1 H3.out.2.1 (by omega))
          obtain ⟨s0, s1, s2, s3, s4, s5, s6, s7, s8⟩ := cells9_of (Only.keepBlock ho1 H3.out.1 (by omega))
          have hoA := (Only.below H3.out.2.2.2 C).trans ho1
          have z1 := ho1.size
          simp at z1
          go_wp2_with fail
          refine (cv _ hoA hc1).mono ?_
          rintro e w2 ⟨v2, rfl, ho2, hc2, L2⟩
          obtain ⟨b7, n7, m7, rfl⟩ := L2.isSlice
          clear t0 t1 t2 t3 s0 s1 s2 s3 s4 s5 s6 s7 s8
          obtain ⟨t0, t1, t2, t3⟩ := c4_of (Only.keepBlock ho2 (Only.keepBlock ho1 H3.out.2.1 (by omega)) (by omega))
          obtain ⟨s0, s1, s2, s3, s4, s5, s6, s7, s8⟩ := cells9_of (Only.keepBlock ho2 (Only.keepBlock ho1 H3.out.1 (by omega)) (by omega))
          have hr2 := Only.keepBlock ho2 (Only.keepBlock ho1 H3.out.2.2.1 (by omega)) (by omega)
          have hoB := hoA.trans ho2
          have z2 := ho2.size
          have HR2 := Lib.hid hr2
          have HL2 := Lib.hid L2
          clear hr2 L2
          have call := ha s (.slice aq nq mq) (.slice aS nS mS) (.slice b7 n7 m7) l' k c' w2 (HSV.out.only (fun h => h rfl) hoB) (HSS.out.only (fun h => h rfl) hoB) (HL2.out.more fun b _ hS => by have hS' : w1.heap.size ≤ b := hS; omega) hc2 hg4 hn0 hkb.2 hps HG1.out (by rw [HG2.out]; exact hlen6)
          rw [show Ss = (Sp.Tm.mk cn Ss).args from rfl, hres] at call
          unfold GivesP at call
          simp only [pcV, Tm.op, Tm.hd, Tm.n, Tm.args] at call
          clear hres
          go_wp2_with fail
          refine call.mono ?_
          rintro e w3 ⟨v3, rfl, ho3, hc3, L3⟩
          obtain ⟨b8, n8, m8, rfl⟩ := L3.isSlice
          obtain ⟨X, hX⟩ : ∃ X, X = Tm.sz (.mk po ph pk pl) := ⟨_, rfl⟩
          obtain ⟨Y, hY⟩ : ∃ Y, Y = Tm.depth (.mk po ph pk pl) := ⟨_, rfl⟩
          have HXY := Lib.hid (And.intro hX hY)
          rw [← hX, ← hY]
          have hr3 := Only.keepBlock ho3 HR2.out (by omega)
          obtain ⟨⟨x0, x1, x2, x3, x4, x5⟩, f0, f1, f2, f3, f4, f5⟩ := cells6_of hr3
          have HR3 := Lib.hid hr3
          have HL3 := Lib.hid L3
          clear hr3 L3 hX hY
          go_wp2_with fail
          have hz := set6_at HR3.out (.int .i64 po) (.int .i64 ph) (.int .i64 pk) (.slice b8 n8 m8) (.int .i64 X) (.int .i64 Y)
          obtain ⟨⟨y0, y1, y2, y3, y4, y5⟩, _⟩ := cells6_of hz
          unfold set6 at y0 y1 y2 y3 y4 y5
          refine bodyPost_ret (v := .agg #[.int .i64 po, .int .i64 ph, .int .i64 pk, .slice b8 n8 m8, .int .i64 X, .int .i64 Y]) (by simp [results, Try.results45, go_sem, y0, y1, y2, y3, y4, y5]) rfl ?_
          exact givesP_stored (B := w.heap.size + 1 + 1) (hoB.trans ho3) hc3 hclt (by omega) (HL3.out.more fun b _ hS => by have hS' : w2.heap.size ≤ b := hS; omega) (by rw [HXY.out.1]) (by rw [HXY.out.2])
        · have HRES := Lib.hid hres
          go_enter Try.func45, Try.ntmps45
          go_wp2_with fail
          refine ca.mono ?_
          rintro e w1 ⟨rfl, ho1, hc1⟩
          obtain ⟨t0, t1, t2, t3⟩ := c4_of (Only.keepBlock ho1 H3.out.2.1 (by omega))
          obtain ⟨s0, s1, s2, s3, s4, s5, s6, s7, s8⟩ := cells9_of (Only.keepBlock ho1 H3.out.1 (by omega))
          have hoA := (Only.below H3.out.2.2.2 C).trans ho1
          have z1 := ho1.size
          simp at z1
          go_wp2_with fail
          refine (cv _ hoA hc1).mono ?_
          rintro e w2 ⟨v2, rfl, ho2, hc2, L2⟩
          obtain ⟨b7, n7, m7, rfl⟩ := L2.isSlice
          clear t0 t1 t2 t3 s0 s1 s2 s3 s4 s5 s6 s7 s8
          obtain ⟨t0, t1, t2, t3⟩ := c4_of (Only.keepBlock ho2 (Only.keepBlock ho1 H3.out.2.1 (by omega)) (by omega))
          obtain ⟨s0, s1, s2, s3, s4, s5, s6, s7, s8⟩ := cells9_of (Only.keepBlock ho2 (Only.keepBlock ho1 H3.out.1 (by omega)) (by omega))
          have hr2 := Only.keepBlock ho2 (Only.keepBlock ho1 H3.out.2.2.1 (by omega)) (by omega)
          have hoB := hoA.trans ho2
          have z2 := ho2.size
          have HR2 := Lib.hid hr2
          have HL2 := Lib.hid L2
          clear hr2 L2
          have call := ha s (.slice aq nq mq) (.slice aS nS mS) (.slice b7 n7 m7) l' k c' w2 (HSV.out.only (fun h => h rfl) hoB) (HSS.out.only (fun h => h rfl) hoB) (HL2.out.more fun b _ hS => by have hS' : w1.heap.size ≤ b := hS; omega) hc2 hg4 hn0 hkb.2 hps HG1.out (by rw [HG2.out]; exact hlen6)
          rw [show Ss = (Sp.Tm.mk cn Ss).args from rfl, hres] at call
          unfold GivesP at call
          simp only at call
          clear hres
          go_wp2_with fail
          refine call.mono ?_
          rintro e w3 ⟨rfl, ho3⟩
          exact ⟨rfl, rfl, hoB.trans ho3⟩
      · rw [if_neg hkn]
        have hkn' : (k == n) = false := by simpa using hkn
        have hk1 : n < k := by omega
        have hnlt : ¬ k < n := by omega
        have hpn : Tm.proper (.mk o 1 (k - 1) l') = fitsIn (.mk o 1 (k - 1) l') := proper_node (by rw [HG2.out]; exact (headOk_less HHO.out (by omega))) HG1.out
        rcases hf : fitsIn (.mk o 1 (k - 1) l') with _ | _
        · have HX : Hid (whole (.mk o 1 (k - 1) l') c' = .er 5) := Lib.hid (whole_er (by rw [hpn, hf]))
          have HF := Lib.hid hf
          clear hf hpn
          go_enter Try.func45, Try.ntmps45
          go_wp2_with fail
          refine ca.mono ?_
          rintro e w1 ⟨rfl, ho1, hc1⟩
          obtain ⟨t0, t1, t2, t3⟩ := c4_of (Only.keepBlock ho1 H3.out.2.1 (by omega))
          obtain ⟨s0, s1, s2, s3, s4, s5, s6, s7, s8⟩ := cells9_of (Only.keepBlock ho1 H3.out.1 (by omega))
          have hoA := (Only.below H3.out.2.2.2 C).trans ho1
          have z1 := ho1.size
          simp at z1
          go_wp2_with fail
          refine (cv _ hoA hc1).mono ?_
          rintro e w2 ⟨v2, rfl, ho2, hc2, L2⟩
          obtain ⟨b7, n7, m7, rfl⟩ := L2.isSlice
          clear t0 t1 t2 t3 s0 s1 s2 s3 s4 s5 s6 s7 s8
          obtain ⟨t0, t1, t2, t3⟩ := c4_of (Only.keepBlock ho2 (Only.keepBlock ho1 H3.out.2.1 (by omega)) (by omega))
          obtain ⟨s0, s1, s2, s3, s4, s5, s6, s7, s8⟩ := cells9_of (Only.keepBlock ho2 (Only.keepBlock ho1 H3.out.1 (by omega)) (by omega))
          have hr2 := Only.keepBlock ho2 (Only.keepBlock ho1 H3.out.2.2.1 (by omega)) (by omega)
          have hoB := hoA.trans ho2
          have z2 := ho2.size
          have HR2 := Lib.hid hr2
          have HL2 := Lib.hid L2
          clear hr2 L2
          go_wp2_with fail
          refine (built_any o 1 (k - 1) (.slice none 0 0) [] (.slice b7 n7 m7) l' w2 (· ≠ C) _ (Lies.nil _ _) HL2.out HG1.out (by rw [HG2.out]; exact hlen6)).mono ?_
          intro e w3 hg
          unfold GivesBt at hg
          rw [HF.out] at hg
          simp only [if_false, Bool.false_eq_true] at hg
          obtain ⟨rfl, hb3⟩ := hg
          refine ⟨rfl, ?_⟩
          rw [HX.out]
          exact ⟨rfl, hoB.trans (Only.below hb3 C)⟩
        · have HX : Hid (whole (.mk o 1 (k - 1) l') c' = .ok (.mk o 1 (k - 1) l') c') := Lib.hid (whole_ok (by rw [hpn, hf]))
          have HF := Lib.hid hf
          clear hf hpn
          go_enter Try.func45, Try.ntmps45
          go_wp2_with fail
          refine ca.mono ?_
          rintro e w1 ⟨rfl, ho1, hc1⟩
          obtain ⟨t0, t1, t2, t3⟩ := c4_of (Only.keepBlock ho1 H3.out.2.1 (by omega))
          obtain ⟨s0, s1, s2, s3, s4, s5, s6, s7, s8⟩ := cells9_of (Only.keepBlock ho1 H3.out.1 (by omega))
          have hoA := (Only.below H3.out.2.2.2 C).trans ho1
          have z1 := ho1.size
          simp at z1
          go_wp2_with fail
          refine (cv _ hoA hc1).mono ?_
          rintro e w2 ⟨v2, rfl, ho2, hc2, L2⟩
          obtain ⟨b7, n7, m7, rfl⟩ := L2.isSlice
          clear t0 t1 t2 t3 s0 s1 s2 s3 s4 s5 s6 s7 s8
          obtain ⟨t0, t1, t2, t3⟩ := c4_of (Only.keepBlock ho2 (Only.keepBlock ho1 H3.out.2.1 (by omega)) (by omega))
          obtain ⟨s0, s1, s2, s3, s4, s5, s6, s7, s8⟩ := cells9_of (Only.keepBlock ho2 (Only.keepBlock ho1 H3.out.1 (by omega)) (by omega))
          have hr2 := Only.keepBlock ho2 (Only.keepBlock ho1 H3.out.2.2.1 (by omega)) (by omega)
          have hoB := hoA.trans ho2
          have z2 := ho2.size
          have HR2 := Lib.hid hr2
          have HL2 := Lib.hid L2
          clear hr2 L2
          go_wp2_with fail
          refine (built_any o 1 (k - 1) (.slice none 0 0) [] (.slice b7 n7 m7) l' w2 (· ≠ C) _ (Lies.nil _ _) HL2.out HG1.out (by rw [HG2.out]; exact hlen6)).mono ?_
          intro e w3 hg
          unfold GivesBt at hg
          rw [HF.out] at hg
          simp only [if_true, Tm.op, Tm.hd, Tm.n, Tm.args] at hg
          obtain ⟨v3, rfl, hb3, L3⟩ := hg
          obtain ⟨b8, n8, m8, rfl⟩ := L3.isSlice
          obtain ⟨X, hX⟩ : ∃ X, X = Tm.sz (.mk o 1 (k - 1) l') := ⟨_, rfl⟩
          obtain ⟨Y, hY⟩ : ∃ Y, Y = Tm.depth (.mk o 1 (k - 1) l') := ⟨_, rfl⟩
          have HXY := Lib.hid (And.intro hX hY)
          rw [← hX, ← hY]
          have hr3 := heap_kept hb3 HR2.out
          obtain ⟨⟨x0, x1, x2, x3, x4, x5⟩, f0, f1, f2, f3, f4, f5⟩ := cells6_of hr3
          have HR3 := Lib.hid hr3
          have HL3 := Lib.hid L3
          clear hr3 L3 hX hY
          go_wp2_with fail
          have hz := set6_at HR3.out (.int .i64 o) (.int .i64 1) (.int .i64 ((k - 1))) (.slice b8 n8 m8) (.int .i64 X) (.int .i64 Y)
          obtain ⟨⟨y0, y1, y2, y3, y4, y5⟩, _⟩ := cells6_of hz
          unfold set6 at y0 y1 y2 y3 y4 y5
          refine bodyPost_ret (v := .agg #[.int .i64 o, .int .i64 1, .int .i64 ((k - 1)), .slice b8 n8 m8, .int .i64 X, .int .i64 Y]) (by simp [results, Try.results45, go_sem, y0, y1, y2, y3, y4, y5]) rfl ?_
          rw [HX.out]
          exact givesP_stored (B := w.heap.size + 1 + 1) (hoB.trans (Only.below hb3 C)) (heap_kept hb3 hc2) hclt (by omega) (HL3.out.more fun b _ hS => by have hS' : w1.heap.size ≤ b ∨ w2.heap.size ≤ b := hS; omega) (by rw [HXY.out.1]) (by rw [HXY.out.2])
    · rw [if_neg hcase]
      by_cases hh1 : h = 1
      · subst hh1
        have hlt : k < n := by omega
        have hpn : Tm.proper (.mk o 1 k l') = fitsIn (.mk o 1 k l') := proper_node (by rw [HG2.out]; exact HHO.out) HG1.out
        rcases hf : fitsIn (.mk o 1 k l') with _ | _
        · have HX : Hid (whole (.mk o 1 k l') c' = .er 5) := Lib.hid (whole_er (by rw [hpn, hf]))
          have HF := Lib.hid hf
          clear hf hpn
          go_enter Try.func45, Try.ntmps45
          go_wp2_with fail
          refine ca.mono ?_
          rintro e w1 ⟨rfl, ho1, hc1⟩
          obtain ⟨t0, t1, t2, t3⟩ := c4_of (Only.keepBlock ho1 H3.out.2.1 (by omega))
          obtain ⟨s0, s1, s2, s3, s4, s5, s6, s7, s8⟩ := cells9_of (Only.keepBlock ho1 H3.out.1 (by omega))
          have hoA := (Only.below H3.out.2.2.2 C).trans ho1
          have z1 := ho1.size
          simp at z1
          go_wp2_with fail
          refine (cv _ hoA hc1).mono ?_
          rintro e w2 ⟨v2, rfl, ho2, hc2, L2⟩
          obtain ⟨b7, n7, m7, rfl⟩ := L2.isSlice
          clear t0 t1 t2 t3 s0 s1 s2 s3 s4 s5 s6 s7 s8
          obtain ⟨t0, t1, t2, t3⟩ := c4_of (Only.keepBlock ho2 (Only.keepBlock ho1 H3.out.2.1 (by omega)) (by omega))
          obtain ⟨s0, s1, s2, s3, s4, s5, s6, s7, s8⟩ := cells9_of (Only.keepBlock ho2 (Only.keepBlock ho1 H3.out.1 (by omega)) (by omega))
          have hr2 := Only.keepBlock ho2 (Only.keepBlock ho1 H3.out.2.2.1 (by omega)) (by omega)
          have hoB := hoA.trans ho2
          have z2 := ho2.size
          have HR2 := Lib.hid hr2
          have HL2 := Lib.hid L2
          clear hr2 L2
          go_wp2_with fail
          refine (built_any o 1 k (.slice a1 n1 m1) l (.slice b7 n7 m7) l' w2 (· ≠ C) _ ((htvH.out.only (fun h => h rfl) hoB)) HL2.out HG1.out (by rw [HG2.out]; exact hlen6)).mono ?_
          intro e w3 hg
          unfold GivesBt at hg
          rw [HF.out] at hg
          simp only [if_false, Bool.false_eq_true] at hg
          obtain ⟨rfl, hb3⟩ := hg
          refine ⟨rfl, ?_⟩
          rw [HX.out]
          exact ⟨rfl, hoB.trans (Only.below hb3 C)⟩
        · have HX : Hid (whole (.mk o 1 k l') c' = .ok (.mk o 1 k l') c') := Lib.hid (whole_ok (by rw [hpn, hf]))
          have HF := Lib.hid hf
          clear hf hpn
          go_enter Try.func45, Try.ntmps45
          go_wp2_with fail
          refine ca.mono ?_
          rintro e w1 ⟨rfl, ho1, hc1⟩
          obtain ⟨t0, t1, t2, t3⟩ := c4_of (Only.keepBlock ho1 H3.out.2.1 (by omega))
          obtain ⟨s0, s1, s2, s3, s4, s5, s6, s7, s8⟩ := cells9_of (Only.keepBlock ho1 H3.out.1 (by omega))
          have hoA := (Only.below H3.out.2.2.2 C).trans ho1
          have z1 := ho1.size
          simp at z1
          go_wp2_with fail
          refine (cv _ hoA hc1).mono ?_
          rintro e w2 ⟨v2, rfl, ho2, hc2, L2⟩
          obtain ⟨b7, n7, m7, rfl⟩ := L2.isSlice
          clear t0 t1 t2 t3 s0 s1 s2 s3 s4 s5 s6 s7 s8
          obtain ⟨t0, t1, t2, t3⟩ := c4_of (Only.keepBlock ho2 (Only.keepBlock ho1 H3.out.2.1 (by omega)) (by omega))
          obtain ⟨s0, s1, s2, s3, s4, s5, s6, s7, s8⟩ := cells9_of (Only.keepBlock ho2 (Only.keepBlock ho1 H3.out.1 (by omega)) (by omega))
          have hr2 := Only.keepBlock ho2 (Only.keepBlock ho1 H3.out.2.2.1 (by omega)) (by omega)
          have hoB := hoA.trans ho2
          have z2 := ho2.size
          have HR2 := Lib.hid hr2
          have HL2 := Lib.hid L2
          clear hr2 L2
          go_wp2_with fail
          refine (built_any o 1 k (.slice a1 n1 m1) l (.slice b7 n7 m7) l' w2 (· ≠ C) _ ((htvH.out.only (fun h => h rfl) hoB)) HL2.out HG1.out (by rw [HG2.out]; exact hlen6)).mono ?_
          intro e w3 hg
          unfold GivesBt at hg
          rw [HF.out] at hg
          simp only [if_true, Tm.op, Tm.hd, Tm.n, Tm.args] at hg
          obtain ⟨v3, rfl, hb3, L3⟩ := hg
          obtain ⟨b8, n8, m8, rfl⟩ := L3.isSlice
          obtain ⟨X, hX⟩ : ∃ X, X = Tm.sz (.mk o 1 k l') := ⟨_, rfl⟩
          obtain ⟨Y, hY⟩ : ∃ Y, Y = Tm.depth (.mk o 1 k l') := ⟨_, rfl⟩
          have HXY := Lib.hid (And.intro hX hY)
          rw [← hX, ← hY]
          have hr3 := heap_kept hb3 HR2.out
          obtain ⟨⟨x0, x1, x2, x3, x4, x5⟩, f0, f1, f2, f3, f4, f5⟩ := cells6_of hr3
          have HR3 := Lib.hid hr3
          have HL3 := Lib.hid L3
          clear hr3 L3 hX hY
          go_wp2_with fail
          have hz := set6_at HR3.out (.int .i64 o) (.int .i64 1) (.int .i64 (k)) (.slice b8 n8 m8) (.int .i64 X) (.int .i64 Y)
          obtain ⟨⟨y0, y1, y2, y3, y4, y5⟩, _⟩ := cells6_of hz
          unfold set6 at y0 y1 y2 y3 y4 y5
          refine bodyPost_ret (v := .agg #[.int .i64 o, .int .i64 1, .int .i64 (k), .slice b8 n8 m8, .int .i64 X, .int .i64 Y]) (by simp [results, Try.results45, go_sem, y0, y1, y2, y3, y4, y5]) rfl ?_
          rw [HX.out]
          exact givesP_stored (B := w.heap.size + 1 + 1) (hoB.trans (Only.below hb3 C)) (heap_kept hb3 hc2) hclt (by omega) (HL3.out.more fun b _ hS => by have hS' : w1.heap.size ≤ b ∨ w2.heap.size ≤ b := hS; omega) (by rw [HXY.out.1]) (by rw [HXY.out.2])
      · have hh1' : (h != 1) = true := by simpa using hh1
        have hpn : Tm.proper (.mk o h k l') = fitsIn (.mk o h k l') := proper_node (by rw [HG2.out]; exact HHO.out) HG1.out
        rcases hf : fitsIn (.mk o h k l') with _ | _
        · have HX : Hid (whole (.mk o h k l') c' = .er 5) := Lib.hid (whole_er (by rw [hpn, hf]))
          have HF := Lib.hid hf
          clear hf hpn
          go_enter Try.func45, Try.ntmps45
          go_wp2_with fail
          refine ca.mono ?_
          rintro e w1 ⟨rfl, ho1, hc1⟩
          obtain ⟨t0, t1, t2, t3⟩ := c4_of (Only.keepBlock ho1 H3.out.2.1 (by omega))
          obtain ⟨s0, s1, s2, s3, s4, s5, s6, s7, s8⟩ := cells9_of (Only.keepBlock ho1 H3.out.1 (by omega))
          have hoA := (Only.below H3.out.2.2.2 C).trans ho1
          have z1 := ho1.size
          simp at z1
          go_wp2_with fail
          refine (cv _ hoA hc1).mono ?_
          rintro e w2 ⟨v2, rfl, ho2, hc2, L2⟩
          obtain ⟨b7, n7, m7, rfl⟩ := L2.isSlice
          clear t0 t1 t2 t3 s0 s1 s2 s3 s4 s5 s6 s7 s8
          obtain ⟨t0, t1, t2, t3⟩ := c4_of (Only.keepBlock ho2 (Only.keepBlock ho1 H3.out.2.1 (by omega)) (by omega))
          obtain ⟨s0, s1, s2, s3, s4, s5, s6, s7, s8⟩ := cells9_of (Only.keepBlock ho2 (Only.keepBlock ho1 H3.out.1 (by omega)) (by omega))
          have hr2 := Only.keepBlock ho2 (Only.keepBlock ho1 H3.out.2.2.1 (by omega)) (by omega)
          have hoB := hoA.trans ho2
          have z2 := ho2.size
          have HR2 := Lib.hid hr2
          have HL2 := Lib.hid L2
          clear hr2 L2
          go_wp2_with fail
          refine (built_any o h k (.slice a1 n1 m1) l (.slice b7 n7 m7) l' w2 (· ≠ C) _ ((htvH.out.only (fun h => h rfl) hoB)) HL2.out HG1.out (by rw [HG2.out]; exact hlen6)).mono ?_
          intro e w3 hg
          unfold GivesBt at hg
          rw [HF.out] at hg
          simp only [if_false, Bool.false_eq_true] at hg
          obtain ⟨rfl, hb3⟩ := hg
          refine ⟨rfl, ?_⟩
          rw [HX.out]
          exact ⟨rfl, hoB.trans (Only.below hb3 C)⟩
        · have HX : Hid (whole (.mk o h k l') c' = .ok (.mk o h k l') c') := Lib.hid (whole_ok (by rw [hpn, hf]))
          have HF := Lib.hid hf
          clear hf hpn
          go_enter Try.func45, Try.ntmps45
          go_wp2_with fail
          refine ca.mono ?_
          rintro e w1 ⟨rfl, ho1, hc1⟩
          obtain ⟨t0, t1, t2, t3⟩ := c4_of (Only.keepBlock ho1 H3.out.2.1 (by omega))
          obtain ⟨s0, s1, s2, s3, s4, s5, s6, s7, s8⟩ := cells9_of (Only.keepBlock ho1 H3.out.1 (by omega))
          have hoA := (Only.below H3.out.2.2.2 C).trans ho1
          have z1 := ho1.size
          simp at z1
          go_wp2_with fail
          refine (cv _ hoA hc1).mono ?_
          rintro e w2 ⟨v2, rfl, ho2, hc2, L2⟩
          obtain ⟨b7, n7, m7, rfl⟩ := L2.isSlice
          clear t0 t1 t2 t3 s0 s1 s2 s3 s4 s5 s6 s7 s8
          obtain ⟨t0, t1, t2, t3⟩ := c4_of (Only.keepBlock ho2 (Only.keepBlock ho1 H3.out.2.1 (by omega)) (by omega))
          obtain ⟨s0, s1, s2, s3, s4, s5, s6, s7, s8⟩ := cells9_of (Only.keepBlock ho2 (Only.keepBlock ho1 H3.out.1 (by omega)) (by omega))
          have hr2 := Only.keepBlock ho2 (Only.keepBlock ho1 H3.out.2.2.1 (by omega)) (by omega)
          have hoB := hoA.trans ho2
          have z2 := ho2.size
          have HR2 := Lib.hid hr2
          have HL2 := Lib.hid L2
          clear hr2 L2
          go_wp2_with fail
          refine (built_any o h k (.slice a1 n1 m1) l (.slice b7 n7 m7) l' w2 (· ≠ C) _ ((htvH.out.only (fun h => h rfl) hoB)) HL2.out HG1.out (by rw [HG2.out]; exact hlen6)).mono ?_
          intro e w3 hg
          unfold GivesBt at hg
          rw [HF.out] at hg
          simp only [if_true, Tm.op, Tm.hd, Tm.n, Tm.args] at hg
          obtain ⟨v3, rfl, hb3, L3⟩ := hg
          obtain ⟨b8, n8, m8, rfl⟩ := L3.isSlice
          obtain ⟨X, hX⟩ : ∃ X, X = Tm.sz (.mk o h k l') := ⟨_, rfl⟩
          obtain ⟨Y, hY⟩ : ∃ Y, Y = Tm.depth (.mk o h k l') := ⟨_, rfl⟩
          have HXY := Lib.hid (And.intro hX hY)
          rw [← hX, ← hY]
          have hr3 := heap_kept hb3 HR2.out
          obtain ⟨⟨x0, x1, x2, x3, x4, x5⟩, f0, f1, f2, f3, f4, f5⟩ := cells6_of hr3
          have HR3 := Lib.hid hr3
          have HL3 := Lib.hid L3
          clear hr3 L3 hX hY
          go_wp2_with fail
          have hz := set6_at HR3.out (.int .i64 o) (.int .i64 h) (.int .i64 (k)) (.slice b8 n8 m8) (.int .i64 X) (.int .i64 Y)
          obtain ⟨⟨y0, y1, y2, y3, y4, y5⟩, _⟩ := cells6_of hz
          unfold set6 at y0 y1 y2 y3 y4 y5
          refine bodyPost_ret (v := .agg #[.int .i64 o, .int .i64 h, .int .i64 (k), .slice b8 n8 m8, .int .i64 X, .int .i64 Y]) (by simp [results, Try.results45, go_sem, y0, y1, y2, y3, y4, y5]) rfl ?_
          rw [HX.out]
          exact givesP_stored (B := w.heap.size + 1 + 1) (hoB.trans (Only.below hb3 C)) (heap_kept hb3 hc2) hclt (by omega) (HL3.out.more fun b _ hS => by have hS' : w1.heap.size ≤ b ∨ w2.heap.size ≤ b := hS; omega) (by rw [HXY.out.1]) (by rw [HXY.out.2])
  · rw [hq] at cv
    simp only
    unfold GivesPL at cv
    simp only at cv
    clear hq hgl
    go_enter Try.func45, Try.ntmps45
    go_wp2_with fail
    refine ca.mono ?_
    rintro e w1 ⟨rfl, ho1, hc1⟩
    obtain ⟨t0, t1, t2, t3⟩ := c4_of (Only.keepBlock ho1 H3.out.2.1 (by omega))
    obtain ⟨s0, s1, s2, s3, s4, s5, s6, s7, s8⟩ := cells9_of (Only.keepBlock ho1 H3.out.1 (by omega))
    have hoA := (Only.below H3.out.2.2.2 C).trans ho1
    go_wp2_with fail
    refine (cv _ hoA hc1).mono ?_
    rintro e w2 ⟨rfl, ho2⟩
    exact ⟨rfl, rfl, hoA.trans ho2⟩
end Go.Proofs.Ytieakippgeehgaa.Sb
