/- Contracts: slices.Max of an ascending list, sign.levelOf, Level; the reference's level, Level. * Contracts of the reference: families; when a constant can stand behind others. * Contracts: levelOf, the reference's level. * Contracts: the reference's level; Level and the reference's Level. * The contract of sign.Level. * The contract of the reference's Level. * The contract of sign.contains: whether a constant stands in a class. * The contract of the reference's Formed. -/
import Derived.Test.YteoheeddjddekaaL5c
import Derived.Test.YteoheeddjddekaaL5d
import Derived.Deep.RegionHeld3
namespace Go.Proofs.Yteoheeddjddekaa
open Go.RowKit
set_option linter.unusedSimpArgs false
set_option linter.unusedVariables false

set_option maxHeartbeats 2000000 in
set_option maxRecDepth 100000 in
theorem max_any (xs : List Int) (hne : xs ≠ []) (hlen : xs.length ≤ 1000) (ha : xs.Pairwise (· < ·)) (v : Value) (w : World) (hv : Ints w v xs) :
    Calls Try.prog 26 #[v] w fun e w' => e = .returned (.int .i64 (xs.getLast hne)) ∧ w = w' := by
  obtain ⟨ao, b, off, len, cap, I⟩ := hv
  obtain rfl := I.hv
  have hxl := I.hlen
  have hpos : 0 < xs.length := List.length_pos_iff.2 hne
  obtain ⟨q, rfl⟩ : ∃ q, len = q + 1 := ⟨len - 1, by omega⟩
  obtain rfl := I.hao (by omega)
  have hil := I.hl
  have hir := I.hr
  have hlast : xs.getLast hne = xs[q]'(by omega) := by rw [List.getLast_eq_getElem]; congr 1; omega
  have c0 := I.cells 0 hpos
  simp only [Nat.add_zero] at c0
  have HI := Lib.hid I
  have HL := Lib.hid hlast
  have HA := Lib.hid ha
  have HX := Lib.hid hxl
  clear I hlast ha
  go_enter Try.func26, Try.ntmps26
  go_wp2
  go_loopw [3, 4] (fun m i wr => ∃ k : Nat, ∃ hk : k < q + 1, i = .int .i64 ((k : Int) + 1) ∧ m = .int .i64 (xs[k]'(by rw [HX.out]; exact hk)) ∧ wr = w) (fun _ i _ => q + 2 - (RowKit.intOf i).toNat)
  case atStart => exact ⟨0, by omega, rfl, rfl, rfl⟩
  case round =>
    obtain ⟨k, hk, rfl, rfl, rfl⟩ := hrel
    by_cases hlt : k + 1 < q + 1
    · have hk1 : k + 1 < xs.length := by rw [HX.out]; exact hlt
      have hc := HI.out.cells (k + 1) hk1
      have hlt1 : xs[k]'(by omega) < xs[k + 1] := List.pairwise_iff_getElem.1 HA.out k (k + 1) (by omega) hk1 (by omega)
      obtain ⟨y, hy⟩ : ∃ y, y = xs[k + 1] := ⟨_, rfl⟩
      obtain ⟨x, hx⟩ : ∃ x, x = xs[k]'(by omega) := ⟨_, rfl⟩
      rw [← hy, ← hx] at hlt1
      rw [← hy] at hc
      rw [← hx]
      have HY := Lib.hid hy
      have hmx : max x y = y := by omega
      clear hy hx
      go_wp2
      go_roundw
      case rel => exact ⟨k + 1, by omega, by go_num, by rw [← HY.out], trivial⟩
      case measure => simp [RowKit.intOf]; omega
    · obtain rfl : k = q := by omega
      go_wp2
      go_ret
      exact ⟨by rw [HL.out]; rfl, rfl⟩

/-- the level of a term: 1 a kind, 2 a type, 3 an object, 0 none -/
def lvlN (l : List Dc) : Nat → Tm → Int
  | 0, _ => 0
  | f + 1, .mk o h n ar =>
    if o = 1 then 1
    else if o = 2 then (match ar with | [_, b] => if lvlN l f b = 3 then 0 else lvlN l f b | _ => 0)
    else if o = 3 then (match ar with | [b] => if lvlN l f b = 3 then 3 else 0 | _ => 0)
    else if h = 2 ∧ Tm.kind (clAt l n.toNat) = true then 2 else 3
def lvl (l : List Dc) (t : Tm) : Int := lvlN l (Tm.sz t) t
theorem lvlN_same (l : List Dc) : ∀ (f g : Nat) (t : Tm), Tm.sz t ≤ f → Tm.sz t ≤ g → lvlN l f t = lvlN l g t
  | 0, _, t, h, _ => by have := Tm.sz_pos t; omega
  | _, 0, t, _, h => by have := Tm.sz_pos t; omega
  | f + 1, g + 1, .mk o h n ar, hf, hg => by
    simp only [lvlN]
    split
    · rfl
    · split
      · match ar, hf, hg with
        | [], _, _ => rfl
        | [_], _, _ => rfl
        | [a, b], hf, hg =>
          have e : lvlN l f b = lvlN l g b := lvlN_same l f g b (by simp [Tm.sz, Tm.szL] at hf; omega) (by simp [Tm.sz, Tm.szL] at hg; omega)
          simp only [e]
        | _ :: _ :: _ :: _, _, _ => rfl
      · split
        · match ar, hf, hg with
          | [], _, _ => rfl
          | [b], hf, hg =>
            have e : lvlN l f b = lvlN l g b := lvlN_same l f g b (by simp [Tm.sz, Tm.szL] at hf; omega) (by simp [Tm.sz, Tm.szL] at hg; omega)
            simp only [e]
          | _ :: _ :: _, _, _ => rfl
        · rfl
theorem lvl_type (l : List Dc) (h n : Int) (ar : List Tm) : lvl l (.mk 1 h n ar) = 1 := by
  unfold lvl; rw [show Tm.sz (.mk 1 h n ar) = Tm.szL ar + 1 by simp only [Tm.sz]; omega]; simp [lvlN]
theorem lvl_pi (l : List Dc) (h n : Int) (a b : Tm) : lvl l (.mk 2 h n [a, b]) = if lvl l b = 3 then 0 else lvl l b := by
  unfold lvl; rw [show Tm.sz (.mk 2 h n [a, b]) = (Tm.sz a + Tm.sz b) + 1 by simp [Tm.sz, Tm.szL]; omega]
  simp only [lvlN]
  rw [lvlN_same l (Tm.sz a + Tm.sz b) (Tm.sz b) b (by omega) (Nat.le_refl _)]
  simp
theorem lvl_lam (l : List Dc) (h n : Int) (b : Tm) : lvl l (.mk 3 h n [b]) = if lvl l b = 3 then 3 else 0 := by
  unfold lvl; rw [show Tm.sz (.mk 3 h n [b]) = Tm.sz b + 1 by simp [Tm.sz, Tm.szL]; omega]
  simp [lvlN]
theorem lvl_app (l : List Dc) (o h n : Int) (ar : List Tm) (h1 : o ≠ 1) (h2 : o ≠ 2) (h3 : o ≠ 3) : lvl l (.mk o h n ar) = if h = 2 ∧ Tm.kind (clAt l n.toNat) = true then 2 else 3 := by
  unfold lvl; rw [show Tm.sz (.mk o h n ar) = Tm.szL ar + 1 by simp only [Tm.sz]; omega]; simp only [lvlN]
  rw [if_neg h1, if_neg h2, if_neg h3]
theorem lvl_bd (l : List Dc) : ∀ (f : Nat) (t : Tm), 0 ≤ lvlN l f t ∧ lvlN l f t ≤ 3
  | 0, _ => by simp [lvlN]
  | f + 1, .mk o h n ar => by
    simp only [lvlN]
    split
    · omega
    · split
      · split
        · have := lvl_bd l f; split
          · omega
          · exact this _
        · omega
      · split
        · split
          · split <;> omega
          · omega
        · split <;> omega
end Go.Proofs.Yteoheeddjddekaa

namespace Go.Proofs.Yteoheeddjddekaa
open Go.RowKit
set_option linter.unusedSimpArgs false
set_option linter.unusedVariables false
namespace Tm
theorem split_res : ∀ (f : Nat) (t : Tm), sz t ≤ f → proper t = true → (splitOf t).2 = (res t).1 ∧ (splitOf t).1.length = (res t).2
  | 0, t, h, _ => by have := sz_pos t; omega
  | f + 1, .mk o h n l, hs, hp => by
    by_cases ho : o = 2
    · subst ho
      obtain ⟨a, b, rfl, rfl, rfl, ha, hb⟩ := proper_pi hp
      rw [res_pi, splitOf_pi]
      have := split_res f b (by simp [sz, szL] at hs; omega) hb
      exact ⟨this.1, by simp [this.2]⟩
    · rw [res_else (t := .mk o h n l) ho, splitOf_else (t := .mk o h n l) ho]; exact ⟨rfl, rfl⟩
end Tm

theorem splitR_res (t : Tm) (v : Value) (w : World) (hv : Lies w (fun _ => True) v t.args) (hp : Tm.proper t = true) :
    Calls Try.prog 56 #[.agg #[.int .i64 t.op, .int .i64 t.hd, .int .i64 t.n, v]] w fun e w' =>
      ∃ (a : Option Addr) (m : Nat) (b : Value), e = .returned (.tuple #[.slice a (Tm.res t).2 m, .agg #[.int .i64 (Tm.res t).1.op, .int .i64 (Tm.res t).1.hd, .int .i64 (Tm.res t).1.n, b]]) ∧ Below w.heap.size w w' ∧ (∃ a2 n2 m2, b = .slice a2 n2 m2) := by
  obtain ⟨h1, h2⟩ := Tm.split_res _ t (Nat.le_refl _) hp
  refine (splitR_any t v w hv hp).mono ?_
  rintro e w' ⟨a, b, rfl, hb, hla, hlb⟩
  obtain ⟨ao, bb, off, len, cap, oo, hh, kk, sv, ts, rfl, R⟩ := hla.open
  refine ⟨ao, cap, b, ?_, hb, hlb.isSlice⟩
  rw [← h2, ← h1, R.length]

set_option maxHeartbeats 2000000 in
set_option maxRecDepth 100000 in
theorem familyR_any (S : Nat → Prop) (l : List Dc) (i : Nat) (hi : i < l.length) (sv : Value) (w : World) (hl : DLies w S sv l) (hp : Tm.proper l[i].cl = true) :
    Calls Try.prog 57 #[sv, .int .i64 i] w fun e w' => e = .returned (.bool (Tm.kind l[i].cl)) ∧ Below w.heap.size w w' := by
  obtain ⟨ao, bb, off, len, cap, nm, oo, hh, kk, sc, tt, im, rfl, R⟩ := hl
  have hil : i < len := by rw [← R.length]; exact hi
  have hrl := R.hl
  have hrc := R.hr
  obtain rfl := R.hao (by omega)
  obtain ⟨d0, d1, d2, d3, d4, d5, hsub⟩ := R.at (Below.refl _ _) i hil
  have hg := R.get i hil
  rw [hg] at hp ⊢
  have cS := splitR_res (.mk (oo i) (hh i) (kk i) (tt i)) (sc i) w (hsub.more fun _ _ _ => trivial) hp
  obtain ⟨a9, n9, m9, hsc⟩ := hsub.isSlice
  rw [hsc] at d4 cS
  have HK : Hid (Tm.kind (.mk (oo i) (hh i) (kk i) (tt i)) = ((Tm.res (.mk (oo i) (hh i) (kk i) (tt i))).1.op == 1)) := Lib.hid rfl
  generalize Tm.res (.mk (oo i) (hh i) (kk i) (tt i)) = rr at *
  obtain ⟨⟨uo, uh, un, ul⟩, cnt⟩ := rr
  simp only [Tm.op, Tm.hd, Tm.n] at cS HK
  clear R hsub hg hp d0 d5
  go_enter Try.func57, Try.ntmps57
  go_wp2_with fail
  refine cS.mono ?_
  rintro e w1 ⟨a, m, b, rfl, hb1, ⟨a2, n2, m2, rfl⟩⟩
  have HB := Lib.hid hb1
  clear hb1
  go_wp2_with fail
  go_ret
  exact ⟨ret_bool HK.out.symm, HB.out.trans ((one_below w1 _).mono HB.out.size)⟩

/-- when a constant can stand behind others, with its name -/
def Sg.nextR (l : List Dc) (d : Dc) : Bool := Sg.next l d && l.all (fun x => !decide (x.nm = d.nm))
theorem nextR_no {l : List Dc} {d : Dc} (h : Sg.next l d = false) : Sg.nextR l d = false := by unfold Sg.nextR; rw [h]; rfl
theorem nextR_in {l : List Dc} {d : Dc} (i : Nat) (hi : i < l.length) (h : l[i].nm = d.nm) : Sg.nextR l d = false := by
  unfold Sg.nextR
  rw [Bool.and_eq_false_iff]
  right
  rw [Bool.eq_false_iff]
  intro e
  have := List.all_eq_true.1 e l[i] (List.getElem_mem hi)
  rw [decide_eq_true h] at this
  cases this
theorem nextR_out {l : List Dc} {d : Dc} (h : ∀ i (hi : i < l.length), ¬ l[i].nm = d.nm) : Sg.nextR l d = Sg.next l d := by
  unfold Sg.nextR
  have : l.all (fun x => !decide (x.nm = d.nm)) = true := by
    rw [List.all_eq_true]
    intro x hx
    obtain ⟨i, hi, rfl⟩ := List.getElem_of_mem hx
    rw [decide_eq_false (h i hi)]; rfl
  rw [this, Bool.and_true]
theorem bytes_beq {a b : ByteArray} (h : ¬ a = b) : (a.toList == b.toList) = false := by
  rw [beq_eq_false_iff_ne, bytes_toList, bytes_toList]
  intro e
  exact h (WideShapes.bytes_inj e)

set_option maxHeartbeats 8000000 in
set_option maxRecDepth 100000 in
theorem nextR_any (S : Nat → Prop) (l : List Dc) (d : Dc) (sv dv : Value) (w : World) (hl : DLies w S sv l) (hpl : ∀ x ∈ l, Tm.proper x.cl = true) (hd : Lies w S dv d.cl.args) (hs : d.nm.size ≤ 140737488351232) (him : I64 d.im) :
    Calls Try.prog 28 #[sv, dcV d dv] w fun e w' => e = .returned (.bool (Sg.nextR l d)) ∧ Below w.heap.size w w' := by
  have HDL := Lib.hid hl
  obtain ⟨ao, bb, off, len, cap, nm, oo, hh, kk, sc, tt, im, rfl, R⟩ := hl
  obtain ⟨nme, ⟨o, h, n, ar⟩, imp⟩ := d
  obtain ⟨a2, n2, m2, rfl⟩ := hd.isSlice
  have hrl := R.hl
  have hrc := R.hr
  have him1 := him.1
  have him2 := him.2
  have hbx := one_below w (.cells #[.string nme, .int .i64 o, .int .i64 h, .int .i64 n, .slice a2 n2 m2, .int .i64 imp] 40)
  have HB := Lib.hid hbx
  have HX := Lib.hid (heap_alloc_new w (.cells #[.string nme, .int .i64 o, .int .i64 h, .int .i64 n, .slice a2 n2 m2, .int .i64 imp] 40))
  have cN := fun w1 => sgNameR_any nme w1 hs
  have HLEN := Lib.hid R.length
  have HD := Lib.hid hd
  have HR := Lib.hid R
  have HPL := Lib.hid hpl
  have cC := fun w1 (hb : Below w.heap.size w w1) => proper_any (fun _ => True) o h n _ ar w1 ((HD.out.more fun _ _ _ => trivial).keep hb)
  unfold dcV
  simp only [Tm.op, Tm.hd, Tm.n] at *
  clear R hpl him hd hs hbx
  rcases h1 : Sg.nameOk nme with _ | _
  · rw [nextR_no (next_no1 (d := ⟨nme, .mk o h n ar, imp⟩) h1)]
    simp only [h1] at cN
    clear h1 cC
    go_enter Try.func28, Try.ntmps28
    go_wp2_with (go_at_call 54; (with_reducible refine (cN _).mono ?_); rintro e w1 ⟨rfl, rfl⟩)
    go_ret
    exact ⟨rfl, HB.out⟩
  rcases h2 : Tm.proper (.mk o h n ar) with _ | _
  · rw [nextR_no (next_no2 (d := ⟨nme, .mk o h n ar, imp⟩) h2)]
    simp only [h1, h2] at cN cC
    clear h1 h2
    go_enter Try.func28, Try.ntmps28
    go_wp2_with (first
      | (go_at_call 54; (with_reducible refine (cN _).mono ?_); rintro e w1 ⟨rfl, rfl⟩)
      | (go_at_call 10; (with_reducible refine (cC _ HB.out).mono ?_); rintro e w2 ⟨rfl, hb2⟩))
    go_ret
    exact ⟨rfl, below_next HB.out hb2⟩
  have cO := fun w1 (hb : Below w.heap.size w w1) => closedR_any (.mk o h n ar) len _ w1 ((HD.out.more fun _ _ _ => trivial).keep hb) h2 (by omega)
  rw [Tm.closed_over h2] at cO
  simp only [Tm.op, Tm.hd, Tm.n] at cO
  rcases h3 : Tm.over len 0 (.mk o h n ar) with _ | _
  · rw [nextR_no (next_no3 (d := ⟨nme, .mk o h n ar, imp⟩) (by rw [HLEN.out]; exact h3))]
    simp only [h1, h2, h3] at cN cC cO
    clear h1 h2 h3
    go_enter Try.func28, Try.ntmps28
    go_wp2_with (first
      | (go_at_call 54; (with_reducible refine (cN _).mono ?_); rintro e w1 ⟨rfl, rfl⟩)
      | (go_at_call 10; (with_reducible refine (cC _ HB.out).mono ?_); rintro e w2 ⟨rfl, hb2⟩; have HB2 := Lib.hid (below_next HB.out hb2); have HX2 := Lib.hid (heap_kept hb2 HX.out); have x1 := cell_in HX2.out 1 _ rfl; have x2 := cell_in HX2.out 2 _ rfl; have x3 := cell_in HX2.out 3 _ rfl; have x4 := cell_in HX2.out 4 _ rfl; clear hb2)
      | (go_at_call 55; (with_reducible refine (cO _ HB2.out).mono ?_); rintro e w3 ⟨rfl, hb3⟩; have HB3 := Lib.hid (below_next HB2.out hb3); have HX3 := Lib.hid (heap_kept hb3 HX2.out); clear x1 x2 x3 x4 hb3)
      | fail)
    go_ret
    exact ⟨rfl, HB3.out⟩
  have hres := (Tm.res_proper _ _ (Nat.le_refl _) h2)
  have hrsz := Tm.res_lt _ (.mk o h n ar) (Nat.le_refl _)
  have hsz6 := (Tm.proper_formed' h2).1
  have hrov : (Tm.res (.mk o h n ar)).1.hd = 2 → (Tm.res (.mk o h n ar)).1.n < (len : Int) := fun e => by
    obtain ⟨b', hb'⟩ := Tm.res_over _ _ _ _ (Nat.le_refl _) h2 h3
    exact Tm.over_hd hb' e
  have hrn := Tm.proper_n hres.1
  have cR := fun w1 (hb : Below w.heap.size w w1) => splitR_res (.mk o h n ar) _ w1 ((HD.out.more fun _ _ _ => trivial).keep hb) h2
  simp only [Tm.op, Tm.hd, Tm.n] at cR
  have E := fun h4 h5 => next_yes (l := l) (d := ⟨nme, .mk o h n ar, imp⟩) h1 h2 (by rw [HLEN.out]; exact h3) h4 h5
  have N4 := fun h4 => next_no4 (l := l) (d := ⟨nme, .mk o h n ar, imp⟩) h4
  have N5 := fun h5 => next_no5 (l := l) (d := ⟨nme, .mk o h n ar, imp⟩) h5
  have NI := fun i hi e => nextR_in (l := l) (d := ⟨nme, .mk o h n ar, imp⟩) i hi e
  have NO := fun e => nextR_out (l := l) (d := ⟨nme, .mk o h n ar, imp⟩) e
  generalize Sg.nextR l ⟨nme, .mk o h n ar, imp⟩ = r' at NI NO ⊢
  generalize Sg.next l ⟨nme, .mk o h n ar, imp⟩ = r at E N4 N5 NO
  simp only at E N4 N5 NI NO
  simp only [h1, h2, h3] at cN cC cO
  have hfo := (Tm.proper_formed' hres.1).2
  generalize Tm.res (.mk o h n ar) = rr at *
  obtain ⟨⟨uo, uh, un, ul⟩, cnt⟩ := rr
  simp only [Tm.op, Tm.hd, Tm.n] at *
  have hcnt : cnt ≤ 600 := by have := Tm.sz_pos (.mk uo uh un ul); omega
  have hop : (uo = 1 ∧ uh = 0) ∨ (uo = 3 ∧ uh = 0) ∨ (uo = 4 ∧ ¬ uh = 2) ∨ (uo = 4 ∧ uh = 2) := by
    simp only [Tm.formed, Bool.and_eq_true] at hfo
    have := Tm.headOk_yes _ _ _ _ hfo.1.2
    have := hres.2
    omega
  have HE := Lib.hid E
  have HN4 := Lib.hid N4
  have HN5 := Lib.hid N5
  have HNI := Lib.hid NI
  have HNO := Lib.hid NO
  have HOV := Lib.hid hrov
  clear hres hrsz hsz6 E N4 N5 NI NO hrov h1 h2 h3 hfo
  go_enter Try.func28, Try.ntmps28
  go_wp2_with (first
      | (go_at_call 54; (with_reducible refine (cN _).mono ?_); rintro e w1 ⟨rfl, rfl⟩)
      | (go_at_call 10; (with_reducible refine (cC _ HB.out).mono ?_); rintro e w2 ⟨rfl, hb2⟩; have HB2 := Lib.hid (below_next HB.out hb2); have HX2 := Lib.hid (heap_kept hb2 HX.out); have x1 := cell_in HX2.out 1 _ rfl; have x2 := cell_in HX2.out 2 _ rfl; have x3 := cell_in HX2.out 3 _ rfl; have x4 := cell_in HX2.out 4 _ rfl; clear hb2)
      | (go_at_call 55; (with_reducible refine (cO _ HB2.out).mono ?_); rintro e w3 ⟨rfl, hb3⟩; have HB3 := Lib.hid (below_next HB2.out hb3); have HX3 := Lib.hid (heap_kept hb3 HX2.out); clear x1 x2 x3 x4 hb3)
      | fail)
  go_loopw [29] (fun i wr => ∃ k : Nat, k ≤ len ∧ i = .int .i64 k ∧ Below w.heap.size w wr ∧ wr.heap[w.heap.size]? = some (.cells #[.string nme, .int .i64 o, .int .i64 h, .int .i64 n, .slice a2 n2 m2, .int .i64 imp] 40 (0, 0)) ∧ Hid (∀ j, j < k → ¬ nm j = nme)) (fun i _ => len - (RowKit.intOf i).toNat)
  case atStart => exact ⟨0, Nat.zero_le _, rfl, HB3.out, HX3.out, Lib.hid (by intro j hj; omega)⟩
  case round =>
    obtain ⟨k, hk, rfl, hbw, hbx, HNN⟩ := hrel
    have HBW := Lib.hid hbw
    have HBX := Lib.hid hbx
    have hlw := lt_of_block hbx
    obtain ⟨y0, y1, y2, y3, y4, y5⟩ := cells6_of' hbx
    clear hbx
    by_cases hlt : k < len
    · obtain rfl := HR.out.hao (by omega)
      obtain ⟨d0, d1, d2, d3, d4, d5, hsub⟩ := HR.out.at hbw k hlt
      obtain ⟨a9, n9, m9, hsc⟩ := hsub.isSlice
      rw [hsc] at d4
      have HB4 := Lib.hid (HBW.out.trans ((one_below wr (.cells #[.string (nm k), .int .i64 (oo k), .int .i64 (hh k), .int .i64 (kk k), .slice a9 n9 m9, .int .i64 (im k)] 40)).mono HBW.out.size))
      clear hsub hbw
      by_cases hq : nm k = nme
      · have hrr := HNI.out k (by rw [HLEN.out]; exact hlt) (by rw [HR.out.get k hlt]; exact hq)
        have HRR := Lib.hid hrr
        rw [hq] at d0 HB4
        clear hrr
        go_wp2_with fail
        go_ret
        exact ⟨ret_bool (a := false) HRR.out.symm, HB4.out⟩
      · have hqb := bytes_beq hq
        go_wp2_with fail
        go_roundw
        case rel =>
          refine ⟨k + 1, by omega, by go_num, HB4.out, heap_kept (one_below wr _) HBX.out, Lib.hid fun j hj => ?_⟩
          by_cases e : j = k
          · subst e; exact hq
          · exact HNN.out j (by omega)
        case measure => simp [RowKit.intOf]; omega
    · obtain rfl : k = len := by omega
      have HO := Lib.hid (HNO.out (by intro i hi; have hi' : i < k := by rw [← HLEN.out]; exact hi
                                      rw [HR.out.get i hi']; exact HNN.out i hi'))
      clear hbw
      go_wp2_with fail
      refine (cR _ HBW.out).mono ?_
      rintro e w4 ⟨ad, md, b4, rfl, hb4, a5, n5, m5, rfl⟩
      have HB4 := Lib.hid (below_next HBW.out hb4)
      have HX4 := Lib.hid (heap_kept hb4 HBX.out)
      clear y0 y1 y2 y3 y4 y5 hb4
      have x5 := cell_in HX4.out 5 _ rfl
      have hlt4 := lt_of_block HX4.out
      have HB5 := Lib.hid (HB4.out.trans ((one_below w4 (.cells #[.int .i64 uo, .int .i64 uh, .int .i64 un, .slice a5 n5 m5] 25)).mono HB4.out.size))
      have cs : imp < 0 ∨ (¬ imp < 0 ∧ (cnt : Int) < imp) ∨ (¬ imp < 0 ∧ ¬ (cnt : Int) < imp) := by omega
      rcases hop with ⟨rfl, rfl⟩ | ⟨rfl, rfl⟩ | ⟨rfl, k2⟩ | ⟨rfl, rfl⟩
      · rcases cs with c4 | ⟨c4, c5⟩ | ⟨c4, c5⟩
        · have hge : ¬ (0 : Int) ≤ imp := by omega
          go_wp2_with fail
          go_ret
          exact ⟨ret_bool (a := false) (by rw [HO.out, HN4.out c4]), HB5.out⟩
        · have hge : (0 : Int) ≤ imp := by omega
          have hle : ¬ imp ≤ (cnt : Int) := by omega
          go_wp2_with fail
          go_ret
          exact ⟨by rw [HO.out, HN5.out c5]; exact ret_bool (decide_eq_false (by omega)), HB5.out⟩
        · have hge : (0 : Int) ≤ imp := by omega
          have hle : imp ≤ (cnt : Int) := by omega
          go_wp2_with fail
          go_ret
          exact ⟨ret_bool (a := true) (by rw [HO.out, HE.out (by omega) (by omega)]; rfl), HB5.out⟩
      · have HF : Hid (r = false) := Lib.hid (by
          rcases cs with c4 | ⟨c4, c5⟩ | ⟨c4, c5⟩
          · exact HN4.out c4
          · exact HN5.out c5
          · rw [HE.out (by omega) (by omega)]; rfl)
        go_wp2_with fail
        go_ret
        exact ⟨ret_bool (a := false) (by rw [HO.out, HF.out]), HB5.out⟩
      · have k2' : (uh == 2) = false := by simpa using k2
        have HF : Hid (r = false) := Lib.hid (by
          rcases cs with c4 | ⟨c4, c5⟩ | ⟨c4, c5⟩
          · exact HN4.out c4
          · exact HN5.out c5
          · rw [HE.out (by omega) (by omega), k2']; rfl)
        go_wp2_with fail
        go_ret
        exact ⟨ret_bool (a := false) (by rw [HO.out, HF.out]), HB5.out⟩
      · obtain ⟨i, rfl⟩ : ∃ i : Nat, un = (i : Int) := ⟨un.toNat, by omega⟩
        have hil : i < k := by have := HOV.out rfl; omega
        have hil' : i < l.length := by rw [HLEN.out]; exact hil
        have cF := fun w1 (hb : Below w.heap.size w w1) => familyR_any S l i hil' (.slice ao k cap) w1 (HDL.out.keep hb) (HPL.out _ (List.getElem_mem hil'))
        have HKK : Hid (Tm.kind ((l.map Dc.cl).getD ((i : Int)).toNat Tm.zero) = Tm.kind l[i].cl) := Lib.hid (by
          simp only [Int.toNat_natCast]
          rw [List.getD_eq_getElem?_getD, List.getElem?_map, List.getElem?_eq_getElem hil', Option.map_some, Option.getD_some])
        rcases hkd : Tm.kind l[i].cl with _ | _
        · simp only [hkd] at cF
          have HF : Hid (r = false) := Lib.hid (by
            rcases cs with c4 | ⟨c4, c5⟩ | ⟨c4, c5⟩
            · exact HN4.out c4
            · exact HN5.out c5
            · rw [HE.out (by omega) (by omega), HKK.out, hkd]; rfl)
          clear hkd
          go_wp2_with (first | (go_at_call 57; (with_reducible refine (cF _ HB5.out).mono ?_); rintro e w6 ⟨rfl, hb6⟩; have HB6 := Lib.hid (below_next HB5.out hb6); clear hb6) | fail)
          go_ret
          exact ⟨ret_bool (a := false) (by rw [HO.out, HF.out]), HB6.out⟩
        · simp only [hkd] at cF
          have HX5 := Lib.hid (heap_kept (one_below w4 (.cells #[.int .i64 4, .int .i64 2, .int .i64 i, .slice a5 n5 m5] 25)) HX4.out)
          have HU5 := Lib.hid (heap_alloc_new w4 (.cells #[.int .i64 4, .int .i64 2, .int .i64 i, .slice a5 n5 m5] 25))
          have HEE := Lib.hid (fun (c4 : ¬ imp < 0) (c5 : ¬ (cnt : Int) < imp) => (HE.out (by omega) (by omega)).trans (by rw [HKK.out, hkd]; rfl : _ = true))
          clear hkd
          rcases cs with c4 | ⟨c4, c5⟩ | ⟨c4, c5⟩
          · have hge : ¬ (0 : Int) ≤ imp := by omega
            go_wp2_with (first | (go_at_call 57; (with_reducible refine (cF _ HB5.out).mono ?_); rintro e w6 ⟨rfl, hb6⟩; have HB6 := Lib.hid (below_next HB5.out hb6); clear x5; have x5 := cell_in (heap_kept hb6 HX5.out) 5 _ rfl; have z0 := cell_in (heap_kept hb6 HU5.out) 0 _ rfl; clear hb6) | fail)
            go_ret
            exact ⟨ret_bool (a := false) (by rw [HO.out, HN4.out c4]), HB6.out⟩
          · have hge : (0 : Int) ≤ imp := by omega
            have hle : ¬ imp ≤ (cnt : Int) := by omega
            go_wp2_with (first | (go_at_call 57; (with_reducible refine (cF _ HB5.out).mono ?_); rintro e w6 ⟨rfl, hb6⟩; have HB6 := Lib.hid (below_next HB5.out hb6); clear x5; have x5 := cell_in (heap_kept hb6 HX5.out) 5 _ rfl; have z0 := cell_in (heap_kept hb6 HU5.out) 0 _ rfl; clear hb6) | fail)
            go_ret
            exact ⟨by rw [HO.out, HN5.out c5]; exact ret_bool (decide_eq_false (by omega)), HB6.out⟩
          · have hge : (0 : Int) ≤ imp := by omega
            have hle : imp ≤ (cnt : Int) := by omega
            go_wp2_with (first | (go_at_call 57; (with_reducible refine (cF _ HB5.out).mono ?_); rintro e w6 ⟨rfl, hb6⟩; have HB6 := Lib.hid (below_next HB5.out hb6); clear x5; have x5 := cell_in (heap_kept hb6 HX5.out) 5 _ rfl; have z0 := cell_in (heap_kept hb6 HU5.out) 0 _ rfl; clear hb6) | fail)
            go_ret
            exact ⟨ret_bool (a := true) (by rw [HO.out, HEE.out (by omega) (by omega)]), HB6.out⟩
end Go.Proofs.Yteoheeddjddekaa

namespace Go.Proofs.Yteoheeddjddekaa
open Go.RowKit
set_option linter.unusedSimpArgs false
set_option linter.unusedVariables false

/-- the constants of a term are below N -/
def ConsLt (N : Nat) (t : Tm) : Prop := ∃ b, ∀ x ∈ Tm.hds (rsel 2) b t, x < (N : Int)
theorem ConsLt.arg1 {N : Nat} {h n : Int} {b : Tm} (H : ConsLt N (.mk 3 h n [b])) : ConsLt N b := by
  obtain ⟨k, H⟩ := H
  exact ⟨_, fun x hx => H x (by simp only [Tm.hds, Tm.hdsL, List.mem_append]; exact .inr (.inl hx))⟩
theorem ConsLt.arg2 {N : Nat} {h n : Int} {a b : Tm} (H : ConsLt N (.mk 2 h n [a, b])) : ConsLt N b := by
  obtain ⟨k, H⟩ := H
  exact ⟨_, fun x hx => H x (by simp only [Tm.hds, Tm.hdsL, List.mem_append]; exact .inr (.inr (.inl hx)))⟩
theorem ConsLt.head {N : Nat} {n : Int} {ar : List Tm} (H : ConsLt N (.mk 4 2 n ar)) : n < (N : Int) := by
  obtain ⟨k, H⟩ := H
  exact H n (by simp [Tm.hds, rsel])

set_option maxHeartbeats 4000000 in
set_option maxRecDepth 100000 in
theorem levelOf_calls (S : Nat → Prop) (l : List Dc) (hpl : ∀ x ∈ l, Tm.proper x.cl = true) (sv : Value) : ∀ (f : Nat) (t : Tm) (v : Value) (w : World), Tm.sz t ≤ f → Tm.proper t = true → ConsLt l.length t → DLies w S sv l → Lies w S v t.args →
    Calls Try.prog 27 #[sv, .agg #[.int .i64 t.op, .int .i64 t.hd, .int .i64 t.n, v]] w fun e w' => e = .returned (.int .i64 (lvl l t)) ∧ Below w.heap.size w w'
  | 0, t, _, _, h, _, _, _, _ => by have := Tm.sz_pos t; omega
  | f + 1, .mk o h n ar, v, w, hf, hp, hc, hl, hv => by
    have hbx := one_below w (.cells #[.int .i64 o, .int .i64 h, .int .i64 n, v] 25)
    have HB := Lib.hid hbx
    have hfo := (Tm.proper_formed' hp).2
    simp only [Tm.op, Tm.hd, Tm.n, Tm.args] at hv ⊢
    obtain ⟨ao, bb, off, len, cap, oo, hh, kk, sc, tt, rfl, R⟩ := hv.open
    have hrl := R.hl
    have hrc := R.hr
    have hRl := R.length
    have hok : Tm.headOk o h n ar.length = true := by simp only [Tm.formed, Bool.and_eq_true] at hfo; exact hfo.1.2
    rcases Tm.headOk_yes _ _ _ _ hok with ⟨rfl, h2, rfl, rfl⟩ | ⟨rfl, h2, rfl, rfl⟩ | ⟨rfl, h2, rfl, rfl⟩ | ⟨rfl, h2, h3, h4, h5⟩
    · rw [lvl_type]
      obtain ⟨a, m, rfl, hlen⟩ := hl.isSlice
      clear R hv hfo hok
      go_enter Try.func27, Try.ntmps27
      go_wp2
      go_ret
      exact ⟨rfl, HB.out⟩
    · obtain ⟨a, b, rfl, _, _, ha, hb⟩ := Tm.proper_pi hp
      obtain rfl : len = 2 := by rw [← hRl]; rfl
      obtain rfl := R.hao (by omega)
      have hg : b = .mk (oo 1) (hh 1) (kk 1) (tt 1) := R.get 1 (by omega)
      have cL := fun w1 (hb1 : Below w.heap.size w w1) => levelOf_calls S l hpl sv f b (sc 1) w1 (by simp [Tm.sz, Tm.szL] at hf; omega) hb hc.arg2 (hl.keep hb1) (by rw [hg]; exact (R.sub 1 (by omega)).keep hb1)
      obtain ⟨d0, d1, d2, d3, hsub⟩ := R.at hbx 1 (by omega)
      simp only [Nat.one_mul] at d0 d1 d2 d3
      obtain ⟨a9, n9, m9, hsc⟩ := hsub.isSlice
      rw [hsc] at d3 cL
      rw [lvl_pi]
      have hbd := lvl_bd l (Tm.sz b) b
      have hbe : lvlN l (Tm.sz b) b = lvl l b := rfl
      rw [hbe] at hbd
      rw [hg] at cL hbd ⊢
      simp only [Tm.op, Tm.hd, Tm.n] at cL
      generalize lvl l (.mk (oo 1) (hh 1) (kk 1) (tt 1)) = z at *
      obtain ⟨asl, ms, rfl, hlen⟩ := hl.isSlice
      clear R hv hfo hok hg hb ha hp hc hpl hsub hl
      by_cases hz : z = 3
      · subst hz
        go_enter Try.func27, Try.ntmps27
        go_wp2_with (first | (go_at_call 27; (with_reducible refine (cL _ HB.out).mono ?_); rintro e w1 ⟨rfl, hb1⟩; have HB1 := Lib.hid (below_next HB.out hb1); clear hb1) | fail)
        go_ret
        exact ⟨rfl, HB1.out⟩
      · have hz' : (z == 3) = false := by simpa using hz
        rw [if_neg hz]
        go_enter Try.func27, Try.ntmps27
        go_wp2_with (first | (go_at_call 27; (with_reducible refine (cL _ HB.out).mono ?_); rintro e w1 ⟨rfl, hb1⟩; have HB1 := Lib.hid (below_next HB.out hb1); clear hb1) | fail)
        go_ret
        exact ⟨rfl, HB1.out⟩
    · obtain ⟨b, rfl⟩ : ∃ b, ar = [b] := by
        match ar, h2 with
        | [b], _ => exact ⟨b, rfl⟩
      have hb : Tm.proper b = true := by
        have h1 := (Tm.proper_formed' hp).1
        simp only [Tm.formed, Tm.formedL, Bool.and_eq_true] at hfo
        exact Tm.proper_of (by simp [Tm.sz, Tm.szL] at h1; omega) (Tm.formed_down _ _ hfo.2.1)
      obtain rfl : len = 1 := by rw [← hRl]; rfl
      obtain rfl := R.hao (by omega)
      have hg : b = .mk (oo 0) (hh 0) (kk 0) (tt 0) := R.get 0 (by omega)
      have cL := fun w1 (hb1 : Below w.heap.size w w1) => levelOf_calls S l hpl sv f b (sc 0) w1 (by simp [Tm.sz, Tm.szL] at hf; omega) hb hc.arg1 (hl.keep hb1) (by rw [hg]; exact (R.sub 0 (by omega)).keep hb1)
      obtain ⟨d0, d1, d2, d3, hsub⟩ := R.at hbx 0 (by omega)
      simp only [Nat.zero_mul, Nat.add_zero] at d0 d1 d2 d3
      obtain ⟨a9, n9, m9, hsc⟩ := hsub.isSlice
      rw [hsc] at d3 cL
      rw [lvl_lam]
      rw [hg] at cL ⊢
      simp only [Tm.op, Tm.hd, Tm.n] at cL
      generalize lvl l (.mk (oo 0) (hh 0) (kk 0) (tt 0)) = z at *
      obtain ⟨asl, ms, rfl, hlen⟩ := hl.isSlice
      clear R hv hfo hok hg hb hp hc hpl hsub hl
      by_cases hz : z = 3
      · subst hz
        go_enter Try.func27, Try.ntmps27
        go_wp2_with (first | (go_at_call 27; (with_reducible refine (cL _ HB.out).mono ?_); rintro e w1 ⟨rfl, hb1⟩; have HB1 := Lib.hid (below_next HB.out hb1); clear hb1) | fail)
        go_ret
        exact ⟨rfl, HB1.out⟩
      · have hz' : (z == 3) = false := by simpa using hz
        rw [if_neg hz]
        go_enter Try.func27, Try.ntmps27
        go_wp2_with (first | (go_at_call 27; (with_reducible refine (cL _ HB.out).mono ?_); rintro e w1 ⟨rfl, hb1⟩; have HB1 := Lib.hid (below_next HB.out hb1); clear hb1) | fail)
        go_ret
        exact ⟨rfl, HB1.out⟩
    · rw [lvl_app l 4 h n ar (by omega) (by omega) (by omega)]
      clear R hv hfo hok
      by_cases hh2 : h = 2
      · subst hh2
        have hn := hc.head
        obtain ⟨i, rfl⟩ : ∃ i : Nat, n = (i : Int) := ⟨n.toNat, by omega⟩
        have hi : i < l.length := by omega
        obtain ⟨asl, bs, os, ls, cs, nm, oo', hh', kk', sc', tt', im, rfl, RD⟩ := hl
        have hil : i < ls := by rw [← RD.length]; exact hi
        have hdl := RD.hl
        have hdc := RD.hr
        obtain rfl := RD.hao (by omega)
        have hg := RD.get i hil
        have hpi : Tm.proper (.mk (oo' i) (hh' i) (kk' i) (tt' i)) = true := by have := hpl l[i] (List.getElem_mem hi); rwa [hg] at this
        have cK := fun w1 (hb : Below w.heap.size w w1) => isKind_any S (.mk (oo' i) (hh' i) (kk' i) (tt' i)) (sc' i) w1 ((RD.sub i hil).keep hb) hpi
        obtain ⟨d0, d1, d2, d3, d4, d5, hsub⟩ := RD.at hbx i hil
        obtain ⟨a9, n9, m9, hsc⟩ := hsub.isSlice
        rw [hsc] at cK d4
        simp only [Tm.op, Tm.hd, Tm.n] at cK
        have HK : Hid (Tm.kind (clAt l (i : Int).toNat) = Tm.kind (.mk (oo' i) (hh' i) (kk' i) (tt' i))) := Lib.hid (by rw [Int.toNat_natCast, clAt_get hi, hg])
        rw [HK.out]
        clear RD hsub hg hpi d0 d5 hc hpl hp
        rcases hk : Tm.kind (.mk (oo' i) (hh' i) (kk' i) (tt' i)) with _ | _
        · simp only [hk] at cK
          rw [if_neg (by simp)]
          clear hk HK
          go_enter Try.func27, Try.ntmps27
          go_wp2_with (first | (go_at_call 41; (with_reducible refine (cK _ HB.out).mono ?_); rintro e w1 ⟨rfl, hb1⟩; have HB1 := Lib.hid (below_next HB.out hb1); clear hb1) | fail)
          go_ret
          exact ⟨rfl, HB1.out⟩
        · simp only [hk] at cK
          rw [if_pos (by simp)]
          clear hk HK
          go_enter Try.func27, Try.ntmps27
          go_wp2_with (first | (go_at_call 41; (with_reducible refine (cK _ HB.out).mono ?_); rintro e w1 ⟨rfl, hb1⟩; have HB1 := Lib.hid (below_next HB.out hb1); clear hb1) | fail)
          go_ret
          exact ⟨rfl, HB1.out⟩
      · have hh2' : (h == 2) = false := by simpa using hh2
        rw [if_neg (by simp [hh2])]
        obtain ⟨asl, ms, rfl, hlen⟩ := hl.isSlice
        go_enter Try.func27, Try.ntmps27
        go_wp2
        go_ret
        exact ⟨rfl, HB.out⟩
end Go.Proofs.Yteoheeddjddekaa

namespace Go.Proofs.Yteoheeddjddekaa
open Go.RowKit
set_option linter.unusedSimpArgs false
set_option linter.unusedVariables false

set_option maxHeartbeats 4000000 in
set_option maxRecDepth 100000 in
theorem levelR_calls (S : Nat → Prop) (l : List Dc) (hpl : ∀ x ∈ l, Tm.proper x.cl = true) (sv : Value) : ∀ (f : Nat) (t : Tm) (v : Value) (w : World), Tm.sz t ≤ f → Tm.proper t = true → ConsLt l.length t → DLies w S sv l → Lies w S v t.args →
    Calls Try.prog 34 #[sv, .agg #[.int .i64 t.op, .int .i64 t.hd, .int .i64 t.n, v]] w fun e w' => e = .returned (.int .i64 (lvl l t)) ∧ Below w.heap.size w w'
  | 0, t, _, _, h, _, _, _, _ => by have := Tm.sz_pos t; omega
  | f + 1, .mk o h n ar, v, w, hf, hp, hc, hl, hv => by
    have hbx := one_below w (.cells #[.int .i64 o, .int .i64 h, .int .i64 n, v] 25)
    have HB := Lib.hid hbx
    have hfo := (Tm.proper_formed' hp).2
    simp only [Tm.op, Tm.hd, Tm.n, Tm.args] at hv ⊢
    obtain ⟨ao, bb, off, len, cap, oo, hh, kk, sc, tt, rfl, R⟩ := hv.open
    have hrl := R.hl
    have hrc := R.hr
    have hRl := R.length
    have hok : Tm.headOk o h n ar.length = true := by simp only [Tm.formed, Bool.and_eq_true] at hfo; exact hfo.1.2
    rcases Tm.headOk_yes _ _ _ _ hok with ⟨rfl, h2, rfl, rfl⟩ | ⟨rfl, h2, rfl, rfl⟩ | ⟨rfl, h2, rfl, rfl⟩ | ⟨rfl, h2, h3, h4, h5⟩
    · rw [lvl_type]
      obtain ⟨a, m, rfl, hlen⟩ := hl.isSlice
      clear R hv hfo hok
      go_enter Try.func34, Try.ntmps34
      go_wp2
      go_ret
      exact ⟨rfl, HB.out⟩
    · obtain ⟨a, b, rfl, _, _, ha, hb⟩ := Tm.proper_pi hp
      obtain rfl : len = 2 := by rw [← hRl]; rfl
      obtain rfl := R.hao (by omega)
      have hg : b = .mk (oo 1) (hh 1) (kk 1) (tt 1) := R.get 1 (by omega)
      have cL := fun w1 (hb1 : Below w.heap.size w w1) => levelR_calls S l hpl sv f b (sc 1) w1 (by simp [Tm.sz, Tm.szL] at hf; omega) hb hc.arg2 (hl.keep hb1) (by rw [hg]; exact (R.sub 1 (by omega)).keep hb1)
      obtain ⟨d0, d1, d2, d3, hsub⟩ := R.at hbx 1 (by omega)
      simp only [Nat.one_mul] at d0 d1 d2 d3
      obtain ⟨a9, n9, m9, hsc⟩ := hsub.isSlice
      rw [hsc] at d3 cL
      rw [lvl_pi]
      have hbd := lvl_bd l (Tm.sz b) b
      have hbe : lvlN l (Tm.sz b) b = lvl l b := rfl
      rw [hbe] at hbd
      rw [hg] at cL hbd ⊢
      simp only [Tm.op, Tm.hd, Tm.n] at cL
      generalize lvl l (.mk (oo 1) (hh 1) (kk 1) (tt 1)) = z at *
      obtain ⟨asl, ms, rfl, hlen⟩ := hl.isSlice
      clear R hv hfo hok hg hb ha hp hc hpl hsub hl
      rcases (by omega : z = 0 ∨ z = 1 ∨ z = 2 ∨ z = 3) with rfl | rfl | rfl | rfl
      all_goals
        go_enter Try.func34, Try.ntmps34
        go_wp2_with (first | (go_at_call 34; (with_reducible refine (cL _ HB.out).mono ?_); rintro e w1 ⟨rfl, hb1⟩; have HB1 := Lib.hid (below_next HB.out hb1); clear hb1) | fail)
        go_ret
        exact ⟨rfl, HB1.out⟩
    · obtain ⟨b, rfl⟩ : ∃ b, ar = [b] := by
        match ar, h2 with
        | [b], _ => exact ⟨b, rfl⟩
      have hb : Tm.proper b = true := by
        have h1 := (Tm.proper_formed' hp).1
        simp only [Tm.formed, Tm.formedL, Bool.and_eq_true] at hfo
        exact Tm.proper_of (by simp [Tm.sz, Tm.szL] at h1; omega) (Tm.formed_down _ _ hfo.2.1)
      obtain rfl : len = 1 := by rw [← hRl]; rfl
      obtain rfl := R.hao (by omega)
      have hg : b = .mk (oo 0) (hh 0) (kk 0) (tt 0) := R.get 0 (by omega)
      have cL := fun w1 (hb1 : Below w.heap.size w w1) => levelR_calls S l hpl sv f b (sc 0) w1 (by simp [Tm.sz, Tm.szL] at hf; omega) hb hc.arg1 (hl.keep hb1) (by rw [hg]; exact (R.sub 0 (by omega)).keep hb1)
      obtain ⟨d0, d1, d2, d3, hsub⟩ := R.at hbx 0 (by omega)
      simp only [Nat.zero_mul, Nat.add_zero] at d0 d1 d2 d3
      obtain ⟨a9, n9, m9, hsc⟩ := hsub.isSlice
      rw [hsc] at d3 cL
      rw [lvl_lam]
      rw [hg] at cL ⊢
      simp only [Tm.op, Tm.hd, Tm.n] at cL
      generalize lvl l (.mk (oo 0) (hh 0) (kk 0) (tt 0)) = z at *
      obtain ⟨asl, ms, rfl, hlen⟩ := hl.isSlice
      clear R hv hfo hok hg hb hp hc hpl hsub hl
      by_cases hz : z = 3
      · subst hz
        go_enter Try.func34, Try.ntmps34
        go_wp2_with (first | (go_at_call 34; (with_reducible refine (cL _ HB.out).mono ?_); rintro e w1 ⟨rfl, hb1⟩; have HB1 := Lib.hid (below_next HB.out hb1); clear hb1) | fail)
        go_ret
        exact ⟨rfl, HB1.out⟩
      · have hz' : (z == 3) = false := by simpa using hz
        rw [if_neg hz]
        go_enter Try.func34, Try.ntmps34
        go_wp2_with (first | (go_at_call 34; (with_reducible refine (cL _ HB.out).mono ?_); rintro e w1 ⟨rfl, hb1⟩; have HB1 := Lib.hid (below_next HB.out hb1); clear hb1) | fail)
        go_ret
        exact ⟨rfl, HB1.out⟩
    · rw [lvl_app l 4 h n ar (by omega) (by omega) (by omega)]
      clear R hv hfo hok
      by_cases hh2 : h = 2
      · subst hh2
        have hn := hc.head
        obtain ⟨i, rfl⟩ : ∃ i : Nat, n = (i : Int) := ⟨n.toNat, by omega⟩
        have hi : i < l.length := by omega
        have cK := fun w1 (hb : Below w.heap.size w w1) => familyR_any S l i hi sv w1 (hl.keep hb) (hpl _ (List.getElem_mem hi))
        have HK : Hid (Tm.kind (clAt l (i : Int).toNat) = Tm.kind l[i].cl) := Lib.hid (by rw [Int.toNat_natCast, clAt_get hi])
        rw [HK.out]
        obtain ⟨asl, ms, rfl, hlen⟩ := hl.isSlice
        clear hc hpl hp
        rcases hk : Tm.kind l[i].cl with _ | _
        · simp only [hk] at cK
          rw [if_neg (by simp)]
          clear hk HK
          go_enter Try.func34, Try.ntmps34
          go_wp2_with (first | (go_at_call 57; (with_reducible refine (cK _ HB.out).mono ?_); rintro e w1 ⟨rfl, hb1⟩; have HB1 := Lib.hid (below_next HB.out hb1); clear hb1) | fail)
          go_ret
          exact ⟨rfl, HB1.out⟩
        · simp only [hk] at cK
          rw [if_pos (by simp)]
          clear hk HK
          go_enter Try.func34, Try.ntmps34
          go_wp2_with (first | (go_at_call 57; (with_reducible refine (cK _ HB.out).mono ?_); rintro e w1 ⟨rfl, hb1⟩; have HB1 := Lib.hid (below_next HB.out hb1); clear hb1) | fail)
          go_ret
          exact ⟨rfl, HB1.out⟩
      · have hh2' : (h == 2) = false := by simpa using hh2
        rw [if_neg (by simp [hh2])]
        obtain ⟨asl, ms, rfl, hlen⟩ := hl.isSlice
        go_enter Try.func34, Try.ntmps34
        go_wp2
        go_ret
        exact ⟨rfl, HB.out⟩
end Go.Proofs.Yteoheeddjddekaa

namespace Go.Proofs.Yteoheeddjddekaa
open Go.RowKit
set_option linter.unusedSimpArgs false
set_option linter.unusedVariables false

/-- the constants of a term, ascending -/
def consL (t : Tm) : List Int := Tm.insL [] (Tm.hds (rsel 2) 0 t)
theorem consL_asc (t : Tm) : (consL t).Pairwise (· < ·) := Tm.asc_insL _ _ List.Pairwise.nil
theorem consL_len {t : Tm} (h : Tm.proper t = true) : (consL t).length ≤ 600 := by
  have h1 := Tm.insL_length (Tm.hds (rsel 2) 0 t) []
  have h2 := Tm.hds_length (rsel 2) 0 t
  have h3 := (Tm.proper_formed' h).1
  unfold consL
  simp at h1; omega
theorem consLt_of {N : Nat} {t : Tm} (h : ∀ x ∈ consL t, x < (N : Int)) : ConsLt N t :=
  ⟨0, fun x hx => h x (by unfold consL; rw [Tm.mem_insL]; exact .inr hx)⟩
/-- is there a constant from N on? -/
def bigC (N : Nat) (t : Tm) : Bool := (consL t).any (fun x => decide ((N : Int) ≤ x))
theorem bigC_no {N : Nat} {t : Tm} (h : bigC N t = false) : ConsLt N t := by
  refine consLt_of fun x hx => ?_
  unfold bigC at h
  rw [List.any_eq_false] at h
  have := h x hx
  simp at this; omega
theorem bigC_nil {N : Nat} {t : Tm} (h : consL t = []) : bigC N t = false := by unfold bigC; rw [h]; rfl
theorem bigC_last {N : Nat} {t : Tm} (h : consL t ≠ []) : bigC N t = decide ((N : Int) ≤ (consL t).getLast h) := by
  have := Tm.asc_last (consL t) h N (consL_asc t)
  by_cases c : (N : Int) ≤ (consL t).getLast h
  · rw [decide_eq_true c]
    unfold bigC
    rw [List.any_eq_true]
    exact ⟨_, List.getLast_mem h, by simpa using c⟩
  · rw [decide_eq_false c]
    unfold bigC
    rw [List.any_eq_false]
    intro x hx
    have := this.1 (by omega) x hx
    simp; omega
/-- what Level returns -/
def levOut (l : List Dc) (t : Tm) : Int × Int :=
  if Sg.formed l = true ∧ Tm.proper t = true then (if bigC l.length t = true then (0, 27) else if lvl l t = 0 then (0, 22) else (lvl l t, 0)) else (0, 2)

set_option maxHeartbeats 4000000 in
set_option maxRecDepth 100000 in
theorem level_any (l : List Dc) (t : Tm) (sv v : Value) (w : World) (hl : DLies w (fun _ => True) sv l) (hv : Lies w (fun _ => True) v t.args) :
    Calls Try.prog 8 #[sv, .agg #[.int .i64 t.op, .int .i64 t.hd, .int .i64 t.n, v]] w fun e w' => e = .returned (.tuple #[.int .i64 (levOut l t).1, .int .i64 (levOut l t).2]) ∧ Below w.heap.size w w' := by
  have hbx := one_below w (.cells #[.int .i64 t.op, .int .i64 t.hd, .int .i64 t.n, v] 25)
  have HB := Lib.hid hbx
  have HX := Lib.hid (heap_alloc_new w (.cells #[.int .i64 t.op, .int .i64 t.hd, .int .i64 t.n, v] 25))
  have cF := sgFormed_any _ l sv _ (hl.keep hbx)
  have cC := fun w1 (hb : Below w.heap.size w w1) => consts_any t.op t.hd t.n v t.args w1 (hv.keep hb)
  have cL := fun (hpl : ∀ x ∈ l, Tm.proper x.cl = true) (hp : Tm.proper t = true) (hc : ConsLt l.length t) w1 (hb : Below w.heap.size w w1) => levelOf_calls _ l hpl sv _ t v w1 (Nat.le_refl _) hp hc (hl.keep hb) (hv.keep hb)
  have et : Tm.mk t.op t.hd t.n t.args = t := by cases t; rfl
  rw [et] at cC
  obtain ⟨a2, n2, m2, rfl⟩ := hv.isSlice
  obtain ⟨asl, ms, rfl, hlen⟩ := hl.isSlice
  clear hv hl hbx
  rcases hf : Sg.formed l with _ | _
  · have HE : Hid (levOut l t = (0, 2)) := Lib.hid (by unfold levOut; rw [hf]; rfl)
    rw [hf] at cF
    clear hf
    go_enter Try.func8, Try.ntmps8
    go_wp2_with (first | (go_at_call 24; (with_reducible refine cF.mono ?_); rintro e w1 ⟨rfl, hb1⟩; have HB1 := Lib.hid (below_next HB.out hb1); clear hb1) | fail)
    go_ret2
    rw [HE.out]
    exact ⟨rfl, HB1.out⟩
  rw [hf] at cF
  rcases hp : Tm.proper t with _ | _
  · have HE : Hid (levOut l t = (0, 2)) := Lib.hid (by unfold levOut; rw [hf, hp]; rfl)
    have hco : contOut 2 t = ([], 2) := by unfold contOut; rw [hp]; rfl
    rw [hco] at cC
    clear hf hp hco
    go_enter Try.func8, Try.ntmps8
    go_wp2_with (first
      | (go_at_call 24; (with_reducible refine cF.mono ?_); rintro e w1 ⟨rfl, hb1⟩; have HB1 := Lib.hid (below_next HB.out hb1); have HX1 := Lib.hid (heap_kept hb1 HX.out); clear hb1; obtain ⟨x0, x1, x2, x3⟩ := cells4_of HX1.out)
      | (go_at_call 25; (with_reducible refine (cC _ HB1.out).mono ?_); rintro e w2 ⟨v2, rfl, hi2, hb2⟩; have HB2 := Lib.hid (below_next HB1.out hb2); clear hb2)
      | fail)
    go_ret2
    rw [HE.out]
    exact ⟨rfl, HB2.out⟩
  have hco : contOut 2 t = (consL t, 0) := by unfold contOut; rw [hp]; rfl
  rw [hco] at cC
  have hclen := consL_len hp
  have hcas := consL_asc t
  have cL2 := fun hc => cL (formed_proper hf) hp hc
  have EB := fun (h : bigC l.length t = true) => (by unfold levOut; rw [if_pos ⟨hf, hp⟩, if_pos h] : levOut l t = (0, 27))
  have EZ := fun (h : bigC l.length t = false) (h0 : lvl l t = 0) => (by unfold levOut; rw [if_pos ⟨hf, hp⟩, if_neg (by rw [h]; simp), if_pos h0] : levOut l t = (0, 22))
  have EL := fun (h : bigC l.length t = false) (h0 : ¬ lvl l t = 0) => (by unfold levOut; rw [if_pos ⟨hf, hp⟩, if_neg (by rw [h]; simp), if_neg h0] : levOut l t = (lvl l t, 0))
  have BN := @bigC_no l.length t
  have B0 := @bigC_nil l.length t
  have BL := @bigC_last l.length t
  generalize levOut l t = out at *
  generalize lvl l t = z at *
  generalize bigC l.length t = bc at *
  generalize consL t = cs at *
  clear hf hp hco cL et
  have HA := Lib.hid hcas
  by_cases hnil : cs = []
  · subst hnil
    have hb0 := B0 rfl
    have cL3 := cL2 (BN hb0)
    have HBC := Lib.hid hb0
    have HEZ := Lib.hid (EZ hb0)
    have HEL := Lib.hid (EL hb0)
    clear EB EZ EL BN B0 BL cL2 hb0 hcas
    by_cases hz : z = 0
    · subst hz
      go_enter Try.func8, Try.ntmps8
      go_wp2_with (first
      | (go_at_call 24; (with_reducible refine cF.mono ?_); rintro e w1 ⟨rfl, hb1⟩; have HB1 := Lib.hid (below_next HB.out hb1); have HX1 := Lib.hid (heap_kept hb1 HX.out); clear hb1; obtain ⟨x0, x1, x2, x3⟩ := cells4_of HX1.out)
      | (go_at_call 25; (with_reducible refine (cC _ HB1.out).mono ?_); rintro e w2 ⟨v2, rfl, hi2, hb2⟩; have hi2' := hi2; obtain ⟨ao, b0, of0, len0, cp0, I⟩ := hi2'; obtain rfl := I.hv; obtain rfl : len0 = 0 := I.hlen.symm; clear I; have HI2 := Lib.hid hi2; have HB2 := Lib.hid (below_next HB1.out hb2); have HX2 := Lib.hid (heap_kept hb2 HX1.out); clear hb2 hi2 x0 x1 x2 x3; obtain ⟨x0, x1, x2, x3⟩ := cells4_of HX2.out)
      | (go_at_call 27; (with_reducible refine (cL3 _ HB2.out).mono ?_); rintro e w4 ⟨rfl, hb4⟩; have HB4 := Lib.hid (below_next HB2.out hb4); clear hb4)
      | fail)
      go_ret2
      rw [HEZ.out (by first | rfl | trivial)]
      exact ⟨rfl, HB4.out⟩
    · have hz' : (z == 0) = false := by simpa using hz
      go_enter Try.func8, Try.ntmps8
      go_wp2_with (first
      | (go_at_call 24; (with_reducible refine cF.mono ?_); rintro e w1 ⟨rfl, hb1⟩; have HB1 := Lib.hid (below_next HB.out hb1); have HX1 := Lib.hid (heap_kept hb1 HX.out); clear hb1; obtain ⟨x0, x1, x2, x3⟩ := cells4_of HX1.out)
      | (go_at_call 25; (with_reducible refine (cC _ HB1.out).mono ?_); rintro e w2 ⟨v2, rfl, hi2, hb2⟩; have hi2' := hi2; obtain ⟨ao, b0, of0, len0, cp0, I⟩ := hi2'; obtain rfl := I.hv; obtain rfl : len0 = 0 := I.hlen.symm; clear I; have HI2 := Lib.hid hi2; have HB2 := Lib.hid (below_next HB1.out hb2); have HX2 := Lib.hid (heap_kept hb2 HX1.out); clear hb2 hi2 x0 x1 x2 x3; obtain ⟨x0, x1, x2, x3⟩ := cells4_of HX2.out)
      | (go_at_call 27; (with_reducible refine (cL3 _ HB2.out).mono ?_); rintro e w4 ⟨rfl, hb4⟩; have HB4 := Lib.hid (below_next HB2.out hb4); clear hb4)
      | fail)
      go_ret2
      rw [HEL.out hz]
      exact ⟨rfl, HB4.out⟩
  · have hne : cs ≠ [] := hnil
    obtain ⟨q, hq⟩ : ∃ q, cs.length = q + 1 := ⟨cs.length - 1, by have := List.length_pos_iff.2 hne; omega⟩
    have HQ := Lib.hid hq
    have hlast := BL hne
    have hq1 : (0 : Int) < ((q + 1 : Nat) : Int) := by omega
    generalize hx : cs.getLast hne = x at hlast
    have HXL := Lib.hid hx
    by_cases hbig : (l.length : Int) ≤ x
    · rw [decide_eq_true hbig] at hlast
      have HEB := Lib.hid (EB hlast)
      clear EB EZ EL BN B0 BL cL2 hlast hcas hx hq
      go_enter Try.func8, Try.ntmps8
      go_wp2_with (first
      | (go_at_call 24; (with_reducible refine cF.mono ?_); rintro e w1 ⟨rfl, hb1⟩; have HB1 := Lib.hid (below_next HB.out hb1); have HX1 := Lib.hid (heap_kept hb1 HX.out); clear hb1; obtain ⟨x0, x1, x2, x3⟩ := cells4_of HX1.out)
      | (go_at_call 25; (with_reducible refine (cC _ HB1.out).mono ?_); rintro e w2 ⟨v2, rfl, hi2, hb2⟩; have hi2' := hi2; obtain ⟨ao, b0, of0, len0, cp0, I⟩ := hi2'; obtain rfl := I.hv; obtain rfl : len0 = q + 1 := I.hlen.symm.trans HQ.out; clear I; have HI2 := Lib.hid hi2; have HB2 := Lib.hid (below_next HB1.out hb2); have HX2 := Lib.hid (heap_kept hb2 HX1.out); clear hb2 hi2 x0 x1 x2 x3; obtain ⟨x0, x1, x2, x3⟩ := cells4_of HX2.out)
      | (go_at_call 26; (with_reducible refine (max_any cs hne (by omega) HA.out _ _ HI2.out).mono ?_); rintro e w3 ⟨rfl, rfl⟩; rw [HXL.out])
      | fail)
      go_ret2
      rw [HEB.out]
      exact ⟨rfl, HB2.out⟩
    · rw [decide_eq_false hbig] at hlast
      have cL3 := cL2 (BN hlast)
      have HEZ := Lib.hid (EZ hlast)
      have HEL := Lib.hid (EL hlast)
      clear EB EZ EL BN B0 BL cL2 hlast hcas hx hq
      by_cases hz : z = 0
      · subst hz
        go_enter Try.func8, Try.ntmps8
        go_wp2_with (first
      | (go_at_call 24; (with_reducible refine cF.mono ?_); rintro e w1 ⟨rfl, hb1⟩; have HB1 := Lib.hid (below_next HB.out hb1); have HX1 := Lib.hid (heap_kept hb1 HX.out); clear hb1; obtain ⟨x0, x1, x2, x3⟩ := cells4_of HX1.out)
      | (go_at_call 25; (with_reducible refine (cC _ HB1.out).mono ?_); rintro e w2 ⟨v2, rfl, hi2, hb2⟩; have hi2' := hi2; obtain ⟨ao, b0, of0, len0, cp0, I⟩ := hi2'; obtain rfl := I.hv; obtain rfl : len0 = q + 1 := I.hlen.symm.trans HQ.out; clear I; have HI2 := Lib.hid hi2; have HB2 := Lib.hid (below_next HB1.out hb2); have HX2 := Lib.hid (heap_kept hb2 HX1.out); clear hb2 hi2 x0 x1 x2 x3; obtain ⟨x0, x1, x2, x3⟩ := cells4_of HX2.out)
      | (go_at_call 26; (with_reducible refine (max_any cs hne (by omega) HA.out _ _ HI2.out).mono ?_); rintro e w3 ⟨rfl, rfl⟩; rw [HXL.out])
      | (go_at_call 27; (with_reducible refine (cL3 _ HB2.out).mono ?_); rintro e w4 ⟨rfl, hb4⟩; have HB4 := Lib.hid (below_next HB2.out hb4); clear hb4)
      | fail)
        go_ret2
        rw [HEZ.out (by first | rfl | trivial)]
        exact ⟨rfl, HB4.out⟩
      · have hz' : (z == 0) = false := by simpa using hz
        go_enter Try.func8, Try.ntmps8
        go_wp2_with (first
      | (go_at_call 24; (with_reducible refine cF.mono ?_); rintro e w1 ⟨rfl, hb1⟩; have HB1 := Lib.hid (below_next HB.out hb1); have HX1 := Lib.hid (heap_kept hb1 HX.out); clear hb1; obtain ⟨x0, x1, x2, x3⟩ := cells4_of HX1.out)
      | (go_at_call 25; (with_reducible refine (cC _ HB1.out).mono ?_); rintro e w2 ⟨v2, rfl, hi2, hb2⟩; have hi2' := hi2; obtain ⟨ao, b0, of0, len0, cp0, I⟩ := hi2'; obtain rfl := I.hv; obtain rfl : len0 = q + 1 := I.hlen.symm.trans HQ.out; clear I; have HI2 := Lib.hid hi2; have HB2 := Lib.hid (below_next HB1.out hb2); have HX2 := Lib.hid (heap_kept hb2 HX1.out); clear hb2 hi2 x0 x1 x2 x3; obtain ⟨x0, x1, x2, x3⟩ := cells4_of HX2.out)
      | (go_at_call 26; (with_reducible refine (max_any cs hne (by omega) HA.out _ _ HI2.out).mono ?_); rintro e w3 ⟨rfl, rfl⟩; rw [HXL.out])
      | (go_at_call 27; (with_reducible refine (cL3 _ HB2.out).mono ?_); rintro e w4 ⟨rfl, hb4⟩; have HB4 := Lib.hid (below_next HB2.out hb4); clear hb4)
      | fail)
        go_ret2
        rw [HEL.out hz]
        exact ⟨rfl, HB4.out⟩
end Go.Proofs.Yteoheeddjddekaa

namespace Go.Proofs.Yteoheeddjddekaa
open Go.RowKit
set_option linter.unusedSimpArgs false
set_option linter.unusedVariables false

theorem levOut_in {l : List Dc} {t : Tm} (hf : Sg.formed l = true) (hp : Tm.proper t = true) : levOut l t = if bigC l.length t = true then (0, 27) else if lvl l t = 0 then (0, 22) else (lvl l t, 0) := by
  unfold levOut; rw [if_pos ⟨hf, hp⟩]

set_option maxHeartbeats 4000000 in
set_option maxRecDepth 100000 in
theorem levelR_any (l : List Dc) (t : Tm) (sv v : Value) (w : World) (hl : DLies w (fun _ => True) sv l) (hv : Lies w (fun _ => True) v t.args) (hf : Sg.formed l = true) (hp : Tm.proper t = true) :
    Calls Try.prog 12 #[sv, .agg #[.int .i64 t.op, .int .i64 t.hd, .int .i64 t.n, v]] w fun e w' => e = .returned (.tuple #[.int .i64 (levOut l t).1, .int .i64 (levOut l t).2]) ∧ Below w.heap.size w w' := by
  have hbx := one_below w (.cells #[.int .i64 t.op, .int .i64 t.hd, .int .i64 t.n, v] 25)
  have HB := Lib.hid hbx
  have HX := Lib.hid (heap_alloc_new w (.cells #[.int .i64 t.op, .int .i64 t.hd, .int .i64 t.n, v] 25))
  have et : Tm.mk t.op t.hd t.n t.args = t := by cases t; rfl
  have cC := fun w1 (hb : Below w.heap.size w w1) => constsR_any t.op t.hd t.n v t.args w1 (hv.keep hb) (by rw [et]; exact hp)
  have cL := fun (hpl : ∀ x ∈ l, Tm.proper x.cl = true) (hp : Tm.proper t = true) (hc : ConsLt l.length t) w1 (hb : Below w.heap.size w w1) => levelR_calls _ l hpl sv _ t v w1 (Nat.le_refl _) hp hc (hl.keep hb) (hv.keep hb)
  rw [et] at cC
  obtain ⟨a2, n2, m2, rfl⟩ := hv.isSlice
  obtain ⟨asl, ms, rfl, hlen⟩ := hl.isSlice
  clear hv hl hbx
  have hco : (contOut 2 t).1 = consL t := by unfold contOut; rw [hp]; rfl
  rw [hco] at cC
  have hclen := consL_len hp
  have cL2 := fun hc => cL (formed_proper hf) hp hc
  have EB := fun (h : bigC l.length t = true) => (by rw [levOut_in hf hp, if_pos h] : levOut l t = (0, 27))
  have EZ := fun (h : bigC l.length t = false) (h0 : lvl l t = 0) => (by rw [levOut_in hf hp, if_neg (by rw [h]; simp), if_pos h0] : levOut l t = (0, 22))
  have EL := fun (h : bigC l.length t = false) (h0 : ¬ lvl l t = 0) => (by rw [levOut_in hf hp, if_neg (by rw [h]; simp), if_neg h0] : levOut l t = (lvl l t, 0))
  have BN := @bigC_no l.length t
  have B0 := @bigC_nil l.length t
  have BL := @bigC_last l.length t
  generalize levOut l t = out at *
  generalize lvl l t = z at *
  generalize bigC l.length t = bc at *
  generalize consL t = cs at *
  clear hf hp hco cL et
  by_cases hnil : cs = []
  · subst hnil
    have hb0 := B0 rfl
    have cL3 := cL2 (BN hb0)
    have HEZ := Lib.hid (EZ hb0)
    have HEL := Lib.hid (EL hb0)
    clear EB EZ EL BN B0 BL cL2 hb0
    by_cases hz : z = 0
    · subst hz
      go_enter Try.func12, Try.ntmps12
      go_wp2_with (first
      | (go_at_call 33; (with_reducible refine (cC _ HB.out).mono ?_); rintro e w2 ⟨v2, rfl, hi2, hb2⟩; obtain ⟨ao, b0, of0, cp0, rfl, hx1, hy1, ha1, hc1⟩ := ints_opn (q := 0) rfl hi2; clear ha1 hc1; have HB2 := Lib.hid (below_next HB.out hb2); have HX2 := Lib.hid (heap_kept hb2 HX.out); clear hb2 hi2; obtain ⟨x0, x1, x2, x3⟩ := cells4_of HX2.out)
      | (go_at_call 34; (with_reducible refine (cL3 _ HB2.out).mono ?_); rintro e w4 ⟨rfl, hb4⟩; have HB4 := Lib.hid (below_next HB2.out hb4); clear hb4)
      | fail)
      go_ret2
      rw [HEZ.out (by first | rfl | trivial)]
      exact ⟨rfl, HB4.out⟩
    · have hz' : (z == 0) = false := by simpa using hz
      go_enter Try.func12, Try.ntmps12
      go_wp2_with (first
      | (go_at_call 33; (with_reducible refine (cC _ HB.out).mono ?_); rintro e w2 ⟨v2, rfl, hi2, hb2⟩; obtain ⟨ao, b0, of0, cp0, rfl, hx1, hy1, ha1, hc1⟩ := ints_opn (q := 0) rfl hi2; clear ha1 hc1; have HB2 := Lib.hid (below_next HB.out hb2); have HX2 := Lib.hid (heap_kept hb2 HX.out); clear hb2 hi2; obtain ⟨x0, x1, x2, x3⟩ := cells4_of HX2.out)
      | (go_at_call 34; (with_reducible refine (cL3 _ HB2.out).mono ?_); rintro e w4 ⟨rfl, hb4⟩; have HB4 := Lib.hid (below_next HB2.out hb4); clear hb4)
      | fail)
      go_ret2
      rw [HEL.out hz]
      exact ⟨rfl, HB4.out⟩
  · have hne : cs ≠ [] := hnil
    obtain ⟨q, hq⟩ : ∃ q, cs.length = q + 1 := ⟨cs.length - 1, by have := List.length_pos_iff.2 hne; omega⟩
    have HQ := Lib.hid hq
    have hlast := BL hne
    have hq1 : (0 : Int) < ((q + 1 : Nat) : Int) := by omega
    have hlq : cs.getLast hne = cs[q]'(by omega) := by rw [List.getLast_eq_getElem]; congr 1; omega
    rw [hlq] at hlast
    obtain ⟨x, hx⟩ : ∃ x, x = cs[q]'(by omega) := ⟨_, rfl⟩
    rw [← hx] at hlast
    have HXL := Lib.hid hx
    by_cases hbig : (l.length : Int) ≤ x
    · rw [decide_eq_true hbig] at hlast
      have HEB := Lib.hid (EB hlast)
      clear EB EZ EL BN B0 BL cL2 hlast hlq hx
      go_enter Try.func12, Try.ntmps12
      go_wp2_with (first
      | (go_at_call 33; (with_reducible refine (cC _ HB.out).mono ?_); rintro e w2 ⟨v2, rfl, hi2, hb2⟩; obtain ⟨ao, b0, of0, cp0, rfl, hx1, hy1, ha1, hc1⟩ := ints_opn HQ.out hi2; obtain rfl := ha1 (by omega); have hcq := hc1 q (by rw [HQ.out]; omega); rw [← HXL.out] at hcq; clear hc1; have HB2 := Lib.hid (below_next HB.out hb2); have HX2 := Lib.hid (heap_kept hb2 HX.out); clear hb2 hi2; obtain ⟨x0, x1, x2, x3⟩ := cells4_of HX2.out)
      | (go_at_call 34; (with_reducible refine (cL3 _ HB2.out).mono ?_); rintro e w4 ⟨rfl, hb4⟩; have HB4 := Lib.hid (below_next HB2.out hb4); clear hb4)
      | fail)
      go_ret2
      rw [HEB.out]
      exact ⟨rfl, HB2.out⟩
    · rw [decide_eq_false hbig] at hlast
      have cL3 := cL2 (BN hlast)
      have HEZ := Lib.hid (EZ hlast)
      have HEL := Lib.hid (EL hlast)
      clear EB EZ EL BN B0 BL cL2 hlast hlq hx
      by_cases hz : z = 0
      · subst hz
        go_enter Try.func12, Try.ntmps12
        go_wp2_with (first
      | (go_at_call 33; (with_reducible refine (cC _ HB.out).mono ?_); rintro e w2 ⟨v2, rfl, hi2, hb2⟩; obtain ⟨ao, b0, of0, cp0, rfl, hx1, hy1, ha1, hc1⟩ := ints_opn HQ.out hi2; obtain rfl := ha1 (by omega); have hcq := hc1 q (by rw [HQ.out]; omega); rw [← HXL.out] at hcq; clear hc1; have HB2 := Lib.hid (below_next HB.out hb2); have HX2 := Lib.hid (heap_kept hb2 HX.out); clear hb2 hi2; obtain ⟨x0, x1, x2, x3⟩ := cells4_of HX2.out)
      | (go_at_call 34; (with_reducible refine (cL3 _ HB2.out).mono ?_); rintro e w4 ⟨rfl, hb4⟩; have HB4 := Lib.hid (below_next HB2.out hb4); clear hb4)
      | fail)
        go_ret2
        rw [HEZ.out (by first | rfl | trivial)]
        exact ⟨rfl, HB4.out⟩
      · have hz' : (z == 0) = false := by simpa using hz
        go_enter Try.func12, Try.ntmps12
        go_wp2_with (first
      | (go_at_call 33; (with_reducible refine (cC _ HB.out).mono ?_); rintro e w2 ⟨v2, rfl, hi2, hb2⟩; obtain ⟨ao, b0, of0, cp0, rfl, hx1, hy1, ha1, hc1⟩ := ints_opn HQ.out hi2; obtain rfl := ha1 (by omega); have hcq := hc1 q (by rw [HQ.out]; omega); rw [← HXL.out] at hcq; clear hc1; have HB2 := Lib.hid (below_next HB.out hb2); have HX2 := Lib.hid (heap_kept hb2 HX.out); clear hb2 hi2; obtain ⟨x0, x1, x2, x3⟩ := cells4_of HX2.out)
      | (go_at_call 34; (with_reducible refine (cL3 _ HB2.out).mono ?_); rintro e w4 ⟨rfl, hb4⟩; have HB4 := Lib.hid (below_next HB2.out hb4); clear hb4)
      | fail)
        go_ret2
        rw [HEL.out hz]
        exact ⟨rfl, HB4.out⟩
end Go.Proofs.Yteoheeddjddekaa

namespace Go.Proofs.Yteoheeddjddekaa
open Go.RowKit
set_option linter.unusedSimpArgs false
set_option linter.unusedVariables false

set_option maxHeartbeats 1000000 in
set_option maxRecDepth 100000 in
theorem sgContains_any (t : Tm) (m : Int) (v : Value) (w : World) (hv : Lies w (fun _ => True) v t.args) (hp : Tm.proper t = true) :
    Calls Try.prog 36 #[.agg #[.int .i64 t.op, .int .i64 t.hd, .int .i64 t.n, v], .int .i64 m] w fun e w' => e = .returned (.bool (decide (m ∈ consL t))) ∧ Below w.heap.size w w' := by
  have hbx := one_below w (.cells #[.int .i64 t.op, .int .i64 t.hd, .int .i64 t.n, v] 25)
  have HB := Lib.hid hbx
  have cC := fun w1 (hb : Below w.heap.size w w1) => consts_any t.op t.hd t.n v t.args w1 (hv.keep hb)
  have et : Tm.mk t.op t.hd t.n t.args = t := by cases t; rfl
  have hco : contOut 2 t = (consL t, 0) := by unfold contOut; rw [hp]; rfl
  rw [et, hco] at cC
  obtain ⟨a2, n2, m2, rfl⟩ := hv.isSlice
  clear hv hbx hp hco et
  generalize consL t = cs at *
  go_enter Try.func36, Try.ntmps36
  go_wp2_with (first
    | (go_at_call 25; (with_reducible refine (cC _ HB.out).mono ?_); rintro e w2 ⟨v2, rfl, hi2, hb2⟩; have HI2 := Lib.hid hi2; have HB2 := Lib.hid (below_next HB.out hb2); clear hb2 hi2)
    | (go_at_call 60; (with_reducible refine (contains_any _ cs m _ HI2.out).mono ?_); rintro e w3 ⟨rfl, rfl⟩)
    | fail)
  go_ret
  exact ⟨rfl, HB2.out⟩
end Go.Proofs.Yteoheeddjddekaa

namespace Go.Proofs.Yteoheeddjddekaa
open Go.RowKit
set_option linter.unusedSimpArgs false
set_option linter.unusedVariables false

theorem nextR_iff {l : List Dc} {d : Dc} : Sg.nextR l d = true ↔ Sg.next l d = true ∧ ¬ d.nm ∈ l.map Dc.nm := by
  unfold Sg.nextR
  rw [Bool.and_eq_true]
  refine and_congr Iff.rfl ?_
  rw [List.all_eq_true]
  constructor
  · intro h hm
    obtain ⟨x, hx, e⟩ := List.mem_map.1 hm
    have := h x hx
    rw [decide_eq_true e] at this
    cases this
  · intro h x hx
    rw [decide_eq_false (fun e => h (List.mem_map.2 ⟨x, hx, e⟩))]; rfl
theorem nodup_snoc {l : List Dc} {k : Nat} (hk : k < l.length) : ((l.take (k + 1)).map Dc.nm).Nodup ↔ ((l.take k).map Dc.nm).Nodup ∧ ¬ l[k].nm ∈ (l.take k).map Dc.nm := by
  rw [List.take_succ_eq_append_getElem hk, List.map_append, List.nodup_append]
  constructor
  · rintro ⟨h1, _, h2⟩
    exact ⟨h1, fun hm => h2 _ hm l[k].nm (by simp) rfl⟩
  · rintro ⟨h1, h2⟩
    refine ⟨h1, by simp, ?_⟩
    intro a ha b hb hab
    simp only [List.map_cons, List.map_nil, List.mem_singleton] at hb
    subst hab hb
    exact h2 ha
theorem formedR_not {l : List Dc} {k : Nat} (hk : k < l.length) (e : Sg.nextR (l.take k) l[k] = false) : Sg.formed l = false := by
  rw [Bool.eq_false_iff]
  intro h
  unfold Sg.formed Sg.once at h
  simp only [Bool.and_eq_true, decide_eq_true_eq] at h
  have h1 := Sg.nextTo_of_le l (show k + 1 ≤ l.length by omega) h.1.2
  rw [Sg.nextTo_step l k hk, Bool.and_eq_true] at h1
  have h2 : ((l.take (k + 1)).map Dc.nm).Nodup := by
    rw [List.map_take]
    exact h.2.sublist (List.take_sublist _ _)
  have h3 := nextR_iff.2 ⟨h1.2, ((nodup_snoc hk).1 h2).2⟩
  rw [e] at h3
  cases h3
theorem formedR_end {l : List Dc} (h : l.length ≤ 100) (e : Sg.nextTo l l.length = true) (hn : ((l.take l.length).map Dc.nm).Nodup) : Sg.formed l = true := by
  rw [List.take_length] at hn
  unfold Sg.formed Sg.once
  rw [decide_eq_true h, e, decide_eq_true hn]; rfl
/-- six cells -/
abbrev CellsDA (W : World) (B j : Nat) (x0 x1 x2 x3 x4 x5 : Value) : Prop :=
  W.cell? ⟨B, j, none⟩ = some x0 ∧ W.cell? ⟨B, j + 1, none⟩ = some x1 ∧ W.cell? ⟨B, j + 2, none⟩ = some x2 ∧ W.cell? ⟨B, j + 3, none⟩ = some x3 ∧ W.cell? ⟨B, j + 4, none⟩ = some x4 ∧ W.cell? ⟨B, j + 5, none⟩ = some x5
theorem cellsDA_below {W W' : World} {B j : Nat} {x0 x1 x2 x3 x4 x5 : Value} (hb : Below W.heap.size W W') (x : CellsDA W B j x0 x1 x2 x3 x4 x5) : CellsDA W' B j x0 x1 x2 x3 x4 x5 := by
  obtain ⟨y0, y1, y2, y3, y4, y5⟩ := x
  exact ⟨kept_cell hb y0, kept_cell hb y1, kept_cell hb y2, kept_cell hb y3, kept_cell hb y4, kept_cell hb y5⟩

set_option maxHeartbeats 4000000 in
set_option maxRecDepth 100000 in
theorem sgFormedR_any (S : Nat → Prop) (l : List Dc) (sv : Value) (w : World) (hl : DLies w S sv l) :
    Calls Try.prog 9 #[sv] w fun e w' => e = .returned (.bool (Sg.formed l)) ∧ Below w.heap.size w w' := by
  obtain ⟨ao, bb, off, len, cap, nm, oo, hh, kk, sc, tt, im, rfl, R⟩ := hl
  have hrl := R.hl
  have hrc := R.hr
  have HLEN := Lib.hid R.length
  have HR := Lib.hid R
  have HB0 := Lib.hid (Below.refl w.heap.size w)
  clear R
  by_cases hbig : 100 < len
  · have hn : ¬ (len : Int) ≤ 100 := by omega
    have hpos : (0 : Int) < (len : Int) := by omega
    rw [formed_long (by rw [HLEN.out]; exact hbig)]
    go_enter Try.func9, Try.ntmps9
    go_wp2
    go_loopw [3] (fun i wr => i = .int .i64 0 ∧ wr = w) (fun _ _ => 0)
    case atStart => exact ⟨rfl, rfl⟩
    case round =>
      obtain ⟨rfl, rfl⟩ := hrel
      go_wp2
      go_ret
      exact ⟨by first | rfl | simp [hn], HB0.out⟩
  · have hn : (len : Int) ≤ 100 := by omega
    go_enter Try.func9, Try.ntmps9
    go_wp2
    go_loopw [3] (fun i wr => ∃ k : Nat, k ≤ len ∧ i = .int .i64 k ∧ Below w.heap.size w wr ∧ Hid (Sg.nextTo l k = true ∧ ((l.take k).map Dc.nm).Nodup)) (fun i _ => len - (RowKit.intOf i).toNat)
    case atStart => exact ⟨0, Nat.zero_le _, rfl, HB0.out, Lib.hid ⟨Sg.nextTo_zero l, by simp⟩⟩
    case round =>
      obtain ⟨k, hk, rfl, hbw, HN⟩ := hrel
      have HBW := Lib.hid hbw
      by_cases hlt : k < len
      · have hlt' : (k : Int) < (len : Int) := by omega
        obtain rfl := HR.out.hao (by omega)
        obtain ⟨d0, d1, d2, d3, d4, d5, hsub⟩ := HR.out.at hbw k hlt
        have hkl : k < l.length := by rw [HLEN.out]; exact hlt
        have HG := Lib.hid (HR.out.get k hlt)
        obtain ⟨a9, n9, m9, hsc⟩ := hsub.isSlice
        rw [hsc] at d4 hsub
        have cN := fun (w1 : World) (hb : Below w.heap.size w w1) => nextR_any S (l.take k) ⟨nm k, .mk (oo k) (hh k) (kk k) (tt k), im k⟩ (.slice (some ⟨bb, off, none⟩) k cap) (.slice a9 n9 m9) w1
          ⟨_, _, _, _, _, _, _, _, _, _, _, _, rfl, (HR.out.take k hk).keep hb⟩ (nextTo_proper l k (by omega) HN.out.1) (by rw [← hsc]; exact (HR.out.sub k hlt).keep hb) (HR.out.rn k hlt) (HR.out.r3 k hlt)
        unfold dcV at cN
        simp only [Tm.op, Tm.hd, Tm.n] at cN
        have hS0 : CellsDA wr bb (off + k * 6) (.string (nm k)) (.int .i64 (oo k)) (.int .i64 (hh k)) (.int .i64 (kk k)) (.slice a9 n9 m9) (.int .i64 (im k)) := ⟨d0, d1, d2, d3, d4, d5⟩
        have HD := Lib.hid HBW.out.drew
        have HT := Lib.hid (Sg.nextTo_step l k hkl)
        have HF := Lib.hid (@formedR_not l k hkl)
        have HND := Lib.hid (nodup_snoc hkl)
        have hkc : (k : Int) ≤ (cap : Int) := by omega
        clear d0 d1 d2 d3 d4 d5 hsub hbw
        rcases hr : Sg.nextR (l.take k) ⟨nm k, .mk (oo k) (hh k) (kk k) (tt k), im k⟩ with _ | _
        · have HFF := Lib.hid (HF.out (by rw [HG.out]; exact hr))
          simp only [hr] at cN
          clear hr
          go_upto_region 4 with fail
          go_region_held3 (fun X => CellsDA X bb (off + k * 6) (.string (nm k)) (.int .i64 (oo k)) (.int .i64 (hh k)) (.int .i64 (kk k)) (.slice a9 n9 m9) (.int .i64 (im k)))
            (first | (with_reducible exact cellsDA_below (Below.refl _ _).drew hS0) | (with_reducible exact hcn) | fail)
            (first | (go_at_call 28; (with_reducible refine (cN _ HD.out).mono ?_); rintro e w4 ⟨rfl, hb4⟩; have hcn := cellsDA_below hb4 (cellsDA_below (Below.refl _ _).drew hS0); have HB4 := Lib.hid (below_next HD.out hb4); clear hb4) | fail)
          go_wp2_with fail
          go_ret
          exact ⟨ret_bool (a := false) HFF.out.symm, HB4.out⟩
        · have HTT : Hid (Sg.nextTo l (k + 1) = true ∧ ((l.take (k + 1)).map Dc.nm).Nodup) := Lib.hid (by
            have h1 := nextR_iff.1 hr
            refine ⟨by rw [HT.out, HN.out.1, HG.out, h1.1]; rfl, HND.out.2 ⟨HN.out.2, ?_⟩⟩
            rw [HG.out]; exact h1.2)
          simp only [hr] at cN
          clear hr
          go_upto_region 4 with fail
          go_region_held3 (fun X => CellsDA X bb (off + k * 6) (.string (nm k)) (.int .i64 (oo k)) (.int .i64 (hh k)) (.int .i64 (kk k)) (.slice a9 n9 m9) (.int .i64 (im k)))
            (first | (with_reducible exact cellsDA_below (Below.refl _ _).drew hS0) | (with_reducible exact hcn) | fail)
            (first | (go_at_call 28; (with_reducible refine (cN _ HD.out).mono ?_); rintro e w4 ⟨rfl, hb4⟩; have hcn := cellsDA_below hb4 (cellsDA_below (Below.refl _ _).drew hS0); have HB4 := Lib.hid (below_next HD.out hb4); clear hb4) | fail)
          go_wp2_with fail
          go_roundw
          case rel => exact ⟨k + 1, by omega, by go_num, HB4.out, HTT⟩
          case measure => simp [RowKit.intOf]; omega
      · obtain rfl : k = len := by omega
        have hnl : ¬ (k : Int) < (k : Int) := by omega
        have HEE := Lib.hid (formedR_end (l := l) (by rw [HLEN.out]; omega) (by rw [HLEN.out]; exact HN.out.1) (by rw [HLEN.out]; exact HN.out.2))
        clear hbw
        go_wp2_with fail
        go_ret
        exact ⟨by rw [HEE.out]; first | rfl | simp [hn], HBW.out⟩
end Go.Proofs.Yteoheeddjddekaa
