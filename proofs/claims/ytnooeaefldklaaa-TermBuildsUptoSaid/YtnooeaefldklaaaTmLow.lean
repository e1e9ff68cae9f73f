/- The contract of the reference's low. -/
import Derived.Test.YtnooeaefldklaaaTmMoved
import Derived.Test.YtnooeaefldklaaaTmAwake
namespace Go.Proofs.Ytnooeaefldklaaa
open Go.RowKit
set_option linter.unusedSimpArgs false
set_option linter.unusedVariables false
namespace Tm
mutual
/-- has a free variable a number from a to b? -/
def low : Int → Int → Tm → Bool
  | a, b, .mk o h n l => (o == 4 && h == 1 && decide (a ≤ n) && decide (n ≤ b)) || lowL a b o 0 l
def lowL : Int → Int → Int → Nat → List Tm → Bool
  | _, _, _, _, [] => false
  | a, b, o, i, t :: l => low (a + belowN o i) (b + belowN o i) t || lowL a b o (i + 1) l
end
theorem lowL_snoc (a b o : Int) : ∀ (l : List Tm) (i : Nat) (t : Tm), lowL a b o i (l ++ [t]) = (lowL a b o i l || low (a + belowN o (i + l.length)) (b + belowN o (i + l.length)) t)
  | [], i, t => by simp [lowL]
  | x :: l, i, t => by
    simp only [List.cons_append, lowL, lowL_snoc a b o l (i + 1) t, List.length_cons]
    rw [show i + 1 + l.length = i + (l.length + 1) by omega, Bool.or_assoc]
theorem lowL_append (a b o : Int) : ∀ (l m : List Tm) (i : Nat), lowL a b o i l = true → lowL a b o i (l ++ m) = true
  | x :: l, m, i, h => by
    simp only [List.cons_append, lowL, Bool.or_eq_true] at h ⊢
    rcases h with h | h
    · exact .inl h
    · exact .inr (lowL_append a b o l m (i + 1) h)
  | [], m, i, h => by simp [lowL] at h
/-- none of the first k parts has one -/
def LowTo (a b o : Int) (l : List Tm) (k : Nat) : Prop := lowL a b o 0 (l.take k) = false
theorem LowTo.zero (a b o : Int) (l : List Tm) : LowTo a b o l 0 := by simp [LowTo, lowL]
theorem LowTo.step {a b o : Int} {l : List Tm} {k : Nat} (h : LowTo a b o l k) (hk : k < l.length) (e : low (a + belowN o k) (b + belowN o k) l[k] = false) : LowTo a b o l (k + 1) := by
  unfold LowTo at *
  rw [List.take_succ_eq_append_getElem hk, lowL_snoc, h, List.length_take, Nat.min_eq_left (by omega), Nat.zero_add, e]; rfl
theorem LowTo.hit {a b o : Int} {l : List Tm} {k : Nat} (hk : k < l.length) (e : low (a + belowN o k) (b + belowN o k) l[k] = true) : lowL a b o 0 l = true := by
  have h : lowL a b o 0 (l.take (k + 1)) = true := by
    rw [List.take_succ_eq_append_getElem hk, lowL_snoc, List.length_take, Nat.min_eq_left (by omega), Nat.zero_add, e, Bool.or_true]
  have := lowL_append a b o (l.take (k + 1)) (l.drop (k + 1)) 0 h
  rwa [List.take_append_drop] at this
theorem LowTo.all {a b o : Int} {l : List Tm} {k : Nat} (h : LowTo a b o l k) (hk : l.length ≤ k) : lowL a b o 0 l = false := by
  unfold LowTo at h; rwa [List.take_of_length_le hk] at h
end Tm

set_option maxHeartbeats 2000000 in
set_option maxRecDepth 100000 in
theorem low_hit (o h n a b : Int) (a2 : Option Addr) (n2 m2 : Nat) (w : World) (e1 : (o == 4) = true) (e2 : (h == 1) = true) (e3 : a ≤ n) (e4 : n ≤ b) :
    Calls Try.prog 57 #[.agg #[.int .i64 o, .int .i64 h, .int .i64 n, .slice a2 n2 m2], .int .i64 a, .int .i64 b] w fun e w' => e = .returned (.bool true) ∧ Below w.heap.size w w' := by
  go_enter Try.func57, Try.ntmps57
  go_wp2
  go_ret
  exact ⟨rfl, one_below w _⟩

set_option maxHeartbeats 4000000 in
set_option maxRecDepth 100000 in
theorem low_walk (S : Nat → Prop) (f : Nat) (ih : ∀ (o h n a b : Int) (v : Value) (l : List Tm) (w : World), Tm.sz (.mk o h n l) ≤ f → 0 ≤ a → 0 ≤ b → a + (Tm.sz (.mk o h n l) : Int) ≤ 1000000 → b + (Tm.sz (.mk o h n l) : Int) ≤ 1000000 → Lies w S v l →
      Calls Try.prog 57 #[.agg #[.int .i64 o, .int .i64 h, .int .i64 n, v], .int .i64 a, .int .i64 b] w fun e w' => e = .returned (.bool (Tm.low a b (.mk o h n l))) ∧ Below w.heap.size w w')
    (o h n a b : Int) (v : Value) (l : List Tm) (w : World) (hf : Tm.sz (.mk o h n l) ≤ f + 1) (ha0 : 0 ≤ a) (hb0 : 0 ≤ b) (ha1 : a + (Tm.sz (.mk o h n l) : Int) ≤ 1000000) (hb1 : b + (Tm.sz (.mk o h n l) : Int) ≤ 1000000) (hv : Lies w S v l)
    (e : (o == 4) = false ∨ ((o == 4) = true ∧ (h == 1) = false) ∨ ((o == 4) = true ∧ (h == 1) = true ∧ n < a) ∨ ((o == 4) = true ∧ (h == 1) = true ∧ a ≤ n ∧ b < n)) :
    Calls Try.prog 57 #[.agg #[.int .i64 o, .int .i64 h, .int .i64 n, v], .int .i64 a, .int .i64 b] w fun e w' => e = .returned (.bool (Tm.lowL a b o 0 l)) ∧ Below w.heap.size w w' := by
  obtain ⟨ao, bb, off, len, cap, oo, hh, kk, sv, ts, rfl, R⟩ := hv.open
  have hr := R.hr
  have hl := R.hl
  have HL := Lib.hid R.length
  have hszp := Tm.sz_pos (.mk o h n l)
  clear hv
  rcases e with e1 | ⟨e1, e2⟩ | ⟨e1, e2, e3⟩ | ⟨e1, e2, e3, e4⟩
  all_goals
    go_enter Try.func57, Try.ntmps57
    go_wp2
    go_loopw [7] (fun i wr => ∃ k : Nat, k ≤ len ∧ i = .int .i64 k ∧ Below w.heap.size w wr ∧ wr.heap[w.heap.size]? = some (.cells #[.int .i64 o, .int .i64 h, .int .i64 n, .slice ao len cap] 24 (0, 0)) ∧ Tm.LowTo a b o l k)
      (fun i _ => len - (intOf i).toNat)
    case atStart => exact ⟨0, Nat.zero_le _, rfl, one_below w _, heap_alloc_new w _, Tm.LowTo.zero _ _ _ _⟩
    case round =>
      obtain ⟨k, hk, rfl, hbw, hbx, hlo⟩ := hrel
      have q0 := cell_in hbx 0 (.int .i64 o) rfl
      have q1 := cell_in hbx 1 (.int .i64 h) rfl
      have q2 := cell_in hbx 2 (.int .i64 n) rfl
      have q3 := cell_in hbx 3 (.slice ao len cap) rfl
      have HB := Lib.hid hbx
      clear hbx
      by_cases hlt : k < len
      · obtain rfl := R.hao (by omega)
        obtain ⟨d0, d1, d2, d3, hsub⟩ := R.at hbw k hlt
        have hsz := R.size hf k hlt
        have hs6 := R.size_lt (x := o) (y := h) (z := n) k hlt
        have hkl : k < l.length := by rw [HL.out]; exact hlt
        have hbl := Tm.belowN_bd o k
        have hx := ih (oo k) (hh k) (kk k) (a + Tm.belowN o k) (b + Tm.belowN o k) (sv k) (ts k)
        rcases hr' : Tm.low (a + Tm.belowN o k) (b + Tm.belowN o k) (.mk (oo k) (hh k) (kk k) (ts k)) with _ | _
        · have HN := Lib.hid (hlo.step hkl (by rw [R.get k hlt]; exact hr'))
          have call := fun (w1 : World) (hb : Below wr.heap.size wr w1) => hx w1 hsz (by omega) (by omega) (by omega) (by omega) (hsub.keep hb)
          rw [hr'] at call
          clear hr' hlo ih hx
          go_wp2_with fail
          refine (below_any o h n _ k wr).mono ?_
          rintro e w1 ⟨rfl, hb1'⟩
          have hbx1 := heap_kept hb1' HB.out
          have p0 := cell_in hbx1 3 (.slice (some ⟨bb, off, none⟩) len cap) rfl
          have f0 := kept_cell hb1' d0
          have f1 := kept_cell hb1' d1
          have f2 := kept_cell hb1' d2
          have f3 := kept_cell hb1' d3
          have HB1 := Lib.hid hbx1
          clear hbx1
          go_wp2_with fail
          refine (call _ hb1').mono ?_
          rintro e w2 ⟨rfl, hb2'⟩
          go_wp2
          go_roundw
          case rel => exact ⟨k + 1, by omega, by go_num, below_next (below_next hbw hb1') hb2', heap_kept hb2' HB1.out, HN.out⟩
          case measure => simp [intOf]; omega
        · have HN := Lib.hid (Tm.LowTo.hit hkl (by rw [R.get k hlt]; exact hr'))
          have call := fun (w1 : World) (hb : Below wr.heap.size wr w1) => hx w1 hsz (by omega) (by omega) (by omega) (by omega) (hsub.keep hb)
          rw [hr'] at call
          clear hr' hlo ih hx
          go_wp2_with fail
          refine (below_any o h n _ k wr).mono ?_
          rintro e w1 ⟨rfl, hb1'⟩
          have hbx1 := heap_kept hb1' HB.out
          have p0 := cell_in hbx1 3 (.slice (some ⟨bb, off, none⟩) len cap) rfl
          have f0 := kept_cell hb1' d0
          have f1 := kept_cell hb1' d1
          have f2 := kept_cell hb1' d2
          have f3 := kept_cell hb1' d3
          clear hbx1
          go_wp2_with fail
          refine (call _ hb1').mono ?_
          rintro e w2 ⟨rfl, hb2'⟩
          go_wp2
          go_ret
          exact ⟨ret_bool (a := true) (by rw [HN.out]), below_next (below_next hbw hb1') hb2'⟩
      · have HN := Lib.hid (hlo.all (by rw [HL.out]; omega))
        clear hlo
        go_wp2
        go_ret
        exact ⟨ret_bool (a := false) (by rw [HN.out]), hbw⟩

theorem low_calls (S : Nat → Prop) : ∀ (f : Nat) (o h n a b : Int) (v : Value) (l : List Tm) (w : World), Tm.sz (.mk o h n l) ≤ f → 0 ≤ a → 0 ≤ b → a + (Tm.sz (.mk o h n l) : Int) ≤ 1000000 → b + (Tm.sz (.mk o h n l) : Int) ≤ 1000000 → Lies w S v l →
      Calls Try.prog 57 #[.agg #[.int .i64 o, .int .i64 h, .int .i64 n, v], .int .i64 a, .int .i64 b] w fun e w' => e = .returned (.bool (Tm.low a b (.mk o h n l))) ∧ Below w.heap.size w w'
  | 0, o, h, n, _, _, _, l, _, hf, _, _, _, _, _ => by have := Tm.sz_pos (.mk o h n l); omega
  | f + 1, o, h, n, a, b, v, l, w, hf, ha0, hb0, ha1, hb1, hv => by
    by_cases c : (o == 4 && h == 1 && decide (a ≤ n) && decide (n ≤ b)) = true
    · have e : Tm.low a b (.mk o h n l) = true := by simp only [Tm.low, c, Bool.true_or]
      rw [e]
      obtain ⟨a2, n2, m2, rfl⟩ := hv.isSlice
      simp only [Bool.and_eq_true, decide_eq_true_eq] at c
      exact low_hit o h n a b a2 n2 m2 w c.1.1.1 c.1.1.2 c.1.2 c.2
    · have c' := Bool.eq_false_iff.2 c
      have e : Tm.low a b (.mk o h n l) = Tm.lowL a b o 0 l := by simp only [Tm.low, c', Bool.false_or]
      rw [e]
      refine low_walk S f (low_calls S f) o h n a b v l w hf ha0 hb0 ha1 hb1 hv ?_
      rcases e1 : (o == 4) with _ | _
      · exact .inl rfl
      · rcases e2 : (h == 1) with _ | _
        · exact .inr (.inl ⟨rfl, rfl⟩)
        · rw [e1, e2] at c'
          simp only [Bool.and_true, Bool.true_and, Bool.and_eq_false_iff, decide_eq_false_iff_not] at c'
          simp only [true_and]
          right; right
          omega
end Go.Proofs.Ytnooeaefldklaaa
