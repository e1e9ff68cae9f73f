/- sign.Without: its closures; slices.IndexFunc, ContainsFunc with the first of them. -/
import Derived.Test.YteoheeddjddekaaSgAd
import Derived.Test.YteoheeddjddekaaL5e
namespace Go.Proofs.Yteoheeddjddekaa
open Go.RowKit Go.Shelf
set_option linter.unusedSimpArgs false
set_option linter.unusedVariables false

/-- the numbers behind n are one less -/
def dwn (n : Int) (c : Int) : Int := if n < c then c - 1 else c
set_option maxHeartbeats 400000 in
set_option maxRecDepth 100000 in
theorem without_num (w : World) (B : Nat) (n : Int) (hB : w.heap[B]? = some (.cells #[.int .i64 n] 3 (0, 0))) (h0 : 0 ≤ n) (h1 : n ≤ 1000000) : NumF w 49 #[.pointer (some ⟨B, 0, none⟩)] (dwn n) := by
  refine ⟨fun args w => by simp [go_sem], fun c c0 c1 => by unfold dwn; constructor <;> (split <;> omega), fun c w1 c0 c1 hb => ?_⟩
  have hx := cell_in (heap_kept hb hB) 0 _ rfl
  have hs : (#[Value.int .i64 c] ++ #[.pointer (some ⟨B, 0, none⟩)] : Array Value) = #[.int .i64 c, .pointer (some ⟨B, 0, none⟩)] := rfl
  rw [hs]
  unfold dwn
  clear hs hb hB
  by_cases e1 : n < c
  · have hsub : IntKind.i64.wrap (c - 1) = c - 1 := IntWalk.i64_in _ (by omega)
    rw [if_pos e1]
    go_enter Try.func49, Try.ntmps49
    go_wp2_with fail
    go_ret
    exact ⟨rfl, rfl⟩
  · rw [if_neg e1]
    go_enter Try.func49, Try.ntmps49
    go_wp2_with fail
    go_ret
    exact ⟨rfl, rfl⟩

set_option maxHeartbeats 1000000 in
set_option maxRecDepth 100000 in
theorem containsIt_any (d : Dc) (v : Value) (B : Nat) (n : Int) (w : World) (hv : Lies w (fun _ => True) v d.cl.args) (hp : Tm.proper d.cl = true) (hB : w.heap[B]? = some (.cells #[.int .i64 n] 3 (0, 0))) :
    Calls Try.prog 47 #[dcV d v, .pointer (some ⟨B, 0, none⟩)] w fun e w' => e = .returned (.bool (decide (n ∈ consL d.cl))) ∧ Below w.heap.size w w' := by
  obtain ⟨nm, ⟨o, h, k, ar⟩, im⟩ := d
  obtain ⟨a2, n2, m2, rfl⟩ := hv.isSlice
  unfold dcV
  simp only [Tm.op, Tm.hd, Tm.n, Tm.args] at *
  have hbx := one_below w (.cells #[.string nm, .int .i64 o, .int .i64 h, .int .i64 k, .slice a2 n2 m2, .int .i64 im] 40)
  have HB := Lib.hid hbx
  have cC := fun w1 (hb : Below w.heap.size w w1) => sgContains_any (.mk o h k ar) n _ w1 (hv.keep hb) hp
  simp only [Tm.op, Tm.hd, Tm.n, Tm.args] at cC
  have hx := cells6_of' (heap_alloc_new w (.cells #[.string nm, .int .i64 o, .int .i64 h, .int .i64 k, .slice a2 n2 m2, .int .i64 im] 40))
  have hX := cell_in (heap_kept hbx hB) 0 _ rfl
  clear hv hp hB hbx
  generalize decide (n ∈ consL (.mk o h k ar)) = r at *
  go_enter Try.func47, Try.ntmps47
  go_wp2_with (first
    | (go_at_call 36; (with_reducible refine (cC _ HB.out).mono ?_); rintro e w2 ⟨rfl, hb2⟩; have HB2 := Lib.hid (below_next HB.out hb2); clear hb2)
    | fail)
  go_ret
  exact ⟨rfl, HB2.out⟩

/-- does a class of the list contain the number? -/
def usesB (l : List Dc) (n : Int) : Bool := l.any fun d => decide (n ∈ consL d.cl)
theorem usesB_in {l : List Dc} {n : Int} {k : Nat} (hk : k < l.length) (h : n ∈ consL l[k].cl) : usesB l n = true := List.any_eq_true.2 ⟨l[k], List.getElem_mem hk, decide_eq_true h⟩
theorem usesB_no {l : List Dc} {n : Int} (h : ∀ k (hk : k < l.length), ¬ n ∈ consL l[k].cl) : usesB l n = false := by
  unfold usesB
  rw [Bool.eq_false_iff]
  intro e
  obtain ⟨x, hx, e2⟩ := List.any_eq_true.1 e
  obtain ⟨k, hk, rfl⟩ := List.getElem_of_mem hx
  exact h k hk (of_decide_eq_true e2)

set_option maxHeartbeats 4000000 in
set_option maxRecDepth 100000 in
theorem indexFunc_any (S : Nat → Prop) (l : List Dc) (sv : Value) (B : Nat) (n : Int) (w : World) (hl : DLies w S sv l) (hp : ∀ d ∈ l, Tm.proper d.cl = true) (hB : w.heap[B]? = some (.cells #[.int .i64 n] 3 (0, 0))) :
    Calls Try.prog 68 #[sv, .func (.func 47) #[] #[.pointer (some ⟨B, 0, none⟩)]] w fun e w' => ∃ c : Int, e = .returned (.int .i64 c) ∧ (decide (0 ≤ c) = usesB l n) ∧ Below w.heap.size w w' := by
  obtain ⟨ao, bb, off, len, cap, nm, oo, hh, kk, sc, tt, im, rfl, R⟩ := hl
  have hrl := R.hl
  have hrc := R.hr
  have HLEN := Lib.hid R.length
  have HR := Lib.hid R
  have HP := Lib.hid hp
  have HBX := Lib.hid hB
  have YES := Lib.hid fun k hk h => usesB_in (l := l) (n := n) (k := k) hk h
  have NO := Lib.hid fun h => usesB_no (l := l) (n := n) h
  generalize usesB l n = r at *
  clear R hp hB
  go_enter Try.func68, Try.ntmps68
  go_wp2_with fail

  go_loopw [8] (fun i wr => ∃ k : Nat, k ≤ len ∧ i = .int .i64 k ∧ Below w.heap.size w wr ∧ Hid (∀ j (hj : j < l.length), j < k → ¬ n ∈ consL l[j].cl)) (fun i _ => len - (RowKit.intOf i).toNat)
  case atStart => exact ⟨0, Nat.zero_le _, rfl, Below.refl _ _, Lib.hid (by intro j _ hj; omega)⟩
  case round =>
    obtain ⟨k, hk, rfl, hbw, HNN⟩ := hrel
    by_cases hlt : k < len
    · obtain rfl := HR.out.hao (by omega)
      obtain ⟨d0, d1, d2, d3, d4, d5, hsub⟩ := HR.out.at hbw k hlt
      have hkl : k < l.length := by rw [HLEN.out]; exact hlt
      have hg := HR.out.get k hlt
      obtain ⟨a9, n9, m9, hsc⟩ := hsub.isSlice
      have c1 := containsIt_any l[k] (sc k) B n wr (by rw [hg]; exact hsub.more fun _ _ _ => trivial) (HP.out _ (List.getElem_mem hkl)) (heap_kept hbw HBX.out)
      have HY := Lib.hid fun h => YES.out k hkl h
      have HNK := Lib.hid fun (h : ¬ n ∈ consL l[k].cl) => (fun (j : Nat) (hj : j < l.length) (hjk : j < k + 1) => (by
        by_cases e : j = k
        · subst e; exact h
        · exact HNN.out j hj (by omega) : ¬ n ∈ consL l[j].cl))
      have HBW := Lib.hid hbw
      by_cases hq : n ∈ consL l[k].cl
      · rw [decide_eq_true hq] at c1
        have HRR := Lib.hid (HY.out hq)
        rw [hg] at c1
        unfold dcV at c1
        simp only [Tm.op, Tm.hd, Tm.n] at c1
        rw [hsc] at d4 c1
        clear hsub hbw hq HY HNK hg
        go_wp2_with fail
        refine c1.mono ?_
        rintro e w2 ⟨rfl, hb2⟩
        have HB2 := Lib.hid (below_next HBW.out hb2)
        clear hb2 c1 d0 d1 d2 d3 d4 d5
        go_wp2_with fail
        go_ret
        exact ⟨_, rfl, by rw [HRR.out]; simp, HB2.out⟩
      · rw [decide_eq_false hq] at c1
        have HNE := Lib.hid (HNK.out hq)
        rw [hg] at c1
        unfold dcV at c1
        simp only [Tm.op, Tm.hd, Tm.n] at c1
        rw [hsc] at d4 c1
        clear hsub hbw hq HY HNK hg
        go_wp2_with fail
        refine c1.mono ?_
        rintro e w2 ⟨rfl, hb2⟩
        have HB2 := Lib.hid (below_next HBW.out hb2)
        clear hb2 c1 d0 d1 d2 d3 d4 d5
        go_wp2_with fail
        go_roundw
        case rel => exact ⟨k + 1, by omega, by go_num, HB2.out, Lib.hid HNE.out⟩
        case measure => simp [RowKit.intOf]; omega
    · obtain rfl : k = len := by omega
      have HRR := Lib.hid (NO.out (fun j hj => HNN.out j hj (by rw [← HLEN.out]; exact hj)))
      have HB4 := Lib.hid hbw
      clear hbw
      go_wp2_with fail
      go_ret
      exact ⟨_, rfl, by rw [HRR.out]; rfl, HB4.out⟩

set_option maxHeartbeats 1000000 in
set_option maxRecDepth 100000 in
theorem containsFunc_any (S : Nat → Prop) (l : List Dc) (sv : Value) (B : Nat) (n : Int) (w : World) (hl : DLies w S sv l) (hp : ∀ d ∈ l, Tm.proper d.cl = true) (hB : w.heap[B]? = some (.cells #[.int .i64 n] 3 (0, 0))) :
    Calls Try.prog 48 #[sv, .func (.func 47) #[] #[.pointer (some ⟨B, 0, none⟩)]] w fun e w' => e = .returned (.bool (usesB l n)) ∧ Below w.heap.size w w' := by
  have c1 := indexFunc_any S l sv B n w hl hp hB
  obtain ⟨a, m, rfl, -⟩ := hl.isSlice
  generalize usesB l n = r at *
  clear hl hp hB
  go_enter Try.func48, Try.ntmps48
  go_wp2_with fail
  refine c1.mono ?_
  rintro e w1 ⟨c, rfl, rfl, hb1⟩
  have HB := Lib.hid hb1
  clear hb1
  go_wp2_with fail
  go_ret
  exact ⟨rfl, HB.out⟩
end Go.Proofs.Yteoheeddjddekaa
