/- The reference's low, asked for a number that no variable has. -/
import Derived.Test.YtnooeaefldklaaaTmLow
import Derived.Test.YtnooeaefldklaaaTmRenS
namespace Go.Proofs.Ytnooeaefldklaaa
open Go.RowKit
set_option linter.unusedSimpArgs false
set_option linter.unusedVariables false
set_option exponentiation.threshold 100

/-- a number that no variable has, nor in s binders more -/
def Far (a : Int) (s : Nat) : Prop := (10000 ≤ a ∧ a ≤ 9223372036854775807) ∨ (-9223372036854775808 ≤ a ∧ a + s ≤ -1)
theorem Far.next {a c : Int} {s s' : Nat} (h : Far a s) (hs : s' + 1 ≤ s) (h6 : s ≤ 600) (hc : 0 ≤ c) (hc1 : c ≤ 1) : Far (wrap64 (a + c)) s' := by
  rcases h with ⟨h1, h2⟩ | ⟨h1, h2⟩
  · by_cases h3 : a + c ≤ 9223372036854775807
    · rw [IntWalk.wrap64_in _ ⟨by omega, h3⟩]; exact .inl ⟨by omega, h3⟩
    · have e : a + c = 9223372036854775808 := by omega
      rw [e]
      have : wrap64 9223372036854775808 = -9223372036854775808 := by decide +kernel
      rw [this]; exact .inr ⟨by omega, by omega⟩
  · rw [IntWalk.wrap64_in _ ⟨by omega, by omega⟩]; exact .inr ⟨by omega, by omega⟩

set_option maxHeartbeats 4000000 in
set_option maxRecDepth 100000 in
theorem far_walk (S : Nat → Prop) (f : Nat) (ih : ∀ (o h n a : Int) (v : Value) (l : List Tm) (w : World), Tm.sz (.mk o h n l) ≤ f → Tm.sz (.mk o h n l) ≤ 600 → Tm.nums (.mk o h n l) = true → Far a (Tm.sz (.mk o h n l)) → Lies w S v l →
      Calls Try.prog 57 #[.agg #[.int .i64 o, .int .i64 h, .int .i64 n, v], .int .i64 a, .int .i64 a] w fun e w' => e = .returned (.bool false) ∧ Below w.heap.size w w')
    (o h n a : Int) (v : Value) (l : List Tm) (w : World) (hf : Tm.sz (.mk o h n l) ≤ f + 1) (h6 : Tm.sz (.mk o h n l) ≤ 600) (hnm : Tm.nums (.mk o h n l) = true) (hfar : Far a (Tm.sz (.mk o h n l))) (hv : Lies w S v l) :
    Calls Try.prog 57 #[.agg #[.int .i64 o, .int .i64 h, .int .i64 n, v], .int .i64 a, .int .i64 a] w fun e w' => e = .returned (.bool false) ∧ Below w.heap.size w w' := by
  obtain ⟨ao, bb, off, len, cap, oo, hh, kk, sv, ts, rfl, R⟩ := hv.open
  have hr := R.hr
  have hl := R.hl
  have HL := Lib.hid R.length
  have hszp := Tm.sz_pos (.mk o h n l)
  have hnb := Tm.nums_n hnm
  have HNL := Lib.hid (Tm.nums_l hnm)
  have HF := Lib.hid hfar
  clear hv hnm
  have e : (o == 4) = false ∨ ((o == 4) = true ∧ (h == 1) = false) ∨ ((o == 4) = true ∧ (h == 1) = true ∧ n < a) ∨ ((o == 4) = true ∧ (h == 1) = true ∧ a ≤ n ∧ a < n) := by
    rcases (o == 4) with _ | _
    · exact .inl rfl
    · rcases (h == 1) with _ | _
      · exact .inr (.inl ⟨rfl, rfl⟩)
      · rcases hfar with ⟨h1, h2⟩ | ⟨h1, h2⟩
        · exact .inr (.inr (.inl ⟨rfl, rfl, by omega⟩))
        · exact .inr (.inr (.inr ⟨rfl, rfl, by omega, by omega⟩))
  clear hfar
  rcases e with e1 | ⟨e1, e2⟩ | ⟨e1, e2, e3⟩ | ⟨e1, e2, e3, e4⟩
  all_goals
    go_enter Try.func57, Try.ntmps57
    go_wp2
    go_loopw [7] (fun i wr => ∃ k : Nat, k ≤ len ∧ i = .int .i64 k ∧ Below w.heap.size w wr ∧ wr.heap[w.heap.size]? = some (.cells #[.int .i64 o, .int .i64 h, .int .i64 n, .slice ao len cap] 24 (0, 0)))
      (fun i _ => len - (intOf i).toNat)
    case atStart => exact ⟨0, Nat.zero_le _, rfl, one_below w _, heap_alloc_new w _⟩
    case round =>
      obtain ⟨k, hk, rfl, hbw, hbx⟩ := hrel
      have q0 := cell_in hbx 0 (.int .i64 o) rfl
      have q1 := cell_in hbx 1 (.int .i64 h) rfl
      have q2 := cell_in hbx 2 (.int .i64 n) rfl
      have q3 := cell_in hbx 3 (.slice ao len cap) rfl
      have HB := Lib.hid hbx
      clear hbx
      by_cases hlt : k < len
      · obtain rfl := R.hao (by omega)
        obtain ⟨d0, d1, d2, d3, hsub⟩ := R.at hbw k hlt
        have hsz := R.size hf k hlt
        have hs6 := R.size_lt (x := o) (y := h) (z := n) k hlt
        have hbl := Tm.belowN_bd o k
        have hnk := Tm.numsL_mem HNL.out (R.mem k hlt)
        have hfk : Far (wrap64 (a + Tm.belowN o k)) (Tm.sz (.mk (oo k) (hh k) (kk k) (ts k))) := HF.out.next (by omega) h6 (by omega) (by omega)
        have call := fun (w1 : World) (hb : Below wr.heap.size wr w1) => ih (oo k) (hh k) (kk k) (wrap64 (a + Tm.belowN o k)) (sv k) (ts k) w1 hsz (by omega) hnk hfk (hsub.keep hb)
        have CALL := Lib.hid call
        clear ih hnk hfk call hbl
        go_wp2_with fail
        refine (below_any o h n _ k wr).mono ?_
        rintro e w1 ⟨rfl, hb1'⟩
        have hbx1 := heap_kept hb1' HB.out
        have p0 := cell_in hbx1 3 (.slice (some ⟨bb, off, none⟩) len cap) rfl
        have f0 := kept_cell hb1' d0
        have f1 := kept_cell hb1' d1
        have f2 := kept_cell hb1' d2
        have f3 := kept_cell hb1' d3
        have HB1 := Lib.hid hbx1
        clear hbx1
        go_wp2_with fail
        refine (CALL.out _ hb1').mono ?_
        rintro e w2 ⟨rfl, hb2'⟩
        go_wp2
        go_roundw
        case rel => exact ⟨k + 1, by omega, by go_num, below_next (below_next hbw hb1') hb2', heap_kept hb2' HB1.out⟩
        case measure => simp [intOf]; omega
      · go_wp2
        go_ret
        exact ⟨rfl, hbw⟩

theorem far_calls (S : Nat → Prop) : ∀ (f : Nat) (o h n a : Int) (v : Value) (l : List Tm) (w : World), Tm.sz (.mk o h n l) ≤ f → Tm.sz (.mk o h n l) ≤ 600 → Tm.nums (.mk o h n l) = true → Far a (Tm.sz (.mk o h n l)) → Lies w S v l →
      Calls Try.prog 57 #[.agg #[.int .i64 o, .int .i64 h, .int .i64 n, v], .int .i64 a, .int .i64 a] w fun e w' => e = .returned (.bool false) ∧ Below w.heap.size w w'
  | 0, o, h, n, _, _, l, _, hf, _, _, _, _ => by have := Tm.sz_pos (.mk o h n l); omega
  | f + 1, o, h, n, a, v, l, w, hf, h6, hn, hfar, hv => far_walk S f (far_calls S f) o h n a v l w hf h6 hn hfar hv
end Go.Proofs.Ytnooeaefldklaaa
