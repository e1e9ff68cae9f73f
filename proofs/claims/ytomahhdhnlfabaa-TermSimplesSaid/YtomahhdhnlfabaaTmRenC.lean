/- The contracts of term.below, freeNumber and of the closure that Shift hands on. -/
import Derived.Test.YtomahhdhnlfabaaProg
import Derived.Test.YtomahhdhnlfabaaTmRenP
import Derived.Test.YtomahhdhnlfabaaTmProper
import Derived.BigQuiet
import Derived.Deep.QuietTactic
namespace Go.Proofs.Ytomahhdhnlfabaa
open Go.RowKit
set_option linter.unusedSimpArgs false
set_option linter.unusedVariables false

set_option maxHeartbeats 1000000 in
set_option maxRecDepth 100000 in
theorem belowT_any (o h n : Int) (a2 : Option Addr) (n2 m2 : Nat) (i : Nat) (b : Int) (w : World) (hb0 : 0 ≤ b) (hb1 : b ≤ 20000) :
    Calls Try.prog 107 #[.agg #[.int .i64 o, .int .i64 h, .int .i64 n, .slice a2 n2 m2], .int .i64 i, .int .i64 b] w fun e w' => e = .returned (.int .i64 (b + Tm.belowN o i)) ∧ Below w.heap.size w w' := by
  by_cases h3 : o = 3
  · subst h3
    go_enter Try.func107, Try.ntmps107
    go_wp2
    go_ret
    exact ⟨rfl, one_below w _⟩
  · by_cases h2 : o = 2
    · subst h2
      by_cases hi : i = 1
      · subst hi
        go_enter Try.func107, Try.ntmps107
        go_wp2
        go_ret
        exact ⟨rfl, one_below w _⟩
      · have E : Hid (b + Tm.belowN 2 i = b) := by show _ = _; simp [Tm.belowN, hi]
        have hi' : ((i : Int) == 1) = false := by rw [beq_eq_false_iff_ne]; omega
        go_enter Try.func107, Try.ntmps107
        go_wp2
        go_ret
        exact ⟨ret_int (by rw [E.out]), one_below w _⟩
    · have E : Hid (b + Tm.belowN o i = b) := by show _ = _; simp [Tm.belowN, h3, h2]
      go_enter Try.func107, Try.ntmps107
      go_wp2
      go_ret
      exact ⟨ret_int (by rw [E.out]), one_below w _⟩

set_option maxHeartbeats 1000000 in
set_option maxRecDepth 100000 in
theorem freeNumber_any (o h n : Int) (a2 : Option Addr) (n2 m2 : Nat) (b : Int) (w : World) (hb0 : 0 ≤ b) (hb1 : b ≤ 20000) (hn0 : 0 ≤ n) (hn1 : n ≤ 9999) :
    Calls Try.prog 92 #[.agg #[.int .i64 o, .int .i64 h, .int .i64 n, .slice a2 n2 m2], .int .i64 b] w fun e w' => e = .returned (.tuple #[.int .i64 (n - b), .bool ((h == 1) && decide (b ≤ n))]) ∧ Below w.heap.size w w' := by
  rcases h1 : (h == 1) with _ | _
  · go_enter Try.func92, Try.ntmps92
    go_wp2
    go_quiet (fail)
    go_wp2
    go_ret2
    exact ⟨rfl, below_drawn (one_below w _) _⟩
  · go_enter Try.func92, Try.ntmps92
    go_wp2
    go_quiet (fail)
    go_wp2
    go_ret2
    exact ⟨by simp, below_drawn (one_below w _) _⟩

/-- what the closure of Shift says of a node: its new number, and what is noted -/
def shF (d fr : Int) : Int → Int → Int → Int → Int := fun b _ h n => if h == 1 && decide (fr + b ≤ n) then n + d else n
def shG (d fr : Int) : Int → Int → Int → Int → Int → Int := fun b _ h n e => if h == 1 && decide (fr + b ≤ n) then (if n + d < fr + b then 27 else if 9999 < n + d then 5 else e) else e

/-- the cells that the closure has captured -/
structure ShSt (F Y E : Nat) (fr d : Int) (w : World) (e : Int) : Prop where
  f : w.heap[F]? = some (.cells #[.int .i64 fr] 3 (0, 0))
  y : w.heap[Y]? = some (.cells #[.int .i64 d] 3 (0, 0))
  s : w.heap[E]? = some (.cells #[.int .i64 e] 28 (0, 0))

theorem ShSt.below {F Y E : Nat} {fr d e : Int} {w w' : World} (h : ShSt F Y E fr d w e) (hb : Below w.heap.size w w') : ShSt F Y E fr d w' e := ⟨heap_kept hb h.f, heap_kept hb h.y, heap_kept hb h.s⟩
theorem ShSt.note {F Y E : Nat} {fr d e : Int} {w : World} (h : ShSt F Y E fr d w e) (hF : F ≠ E) (hY : Y ≠ E) (x : Int) : ShSt F Y E fr d (w.setCell ⟨E, 0, none⟩ (.int .i64 x)) x :=
  ⟨(Below.heap_setCell _ _ _ _ hF).trans h.f, (Below.heap_setCell _ _ _ _ hY).trans h.y, one_setCell h.s⟩

theorem noted {F Y E : Nat} {fr d e x n' : Int} {w w' : World} (hs : ShSt F Y E fr d w' x) (ho : Only E w w') (he : x = e) {m : Int} (hn : n' = m) : Ending.returned (.int .i64 n') = .returned (.int .i64 m) ∧ ShSt F Y E fr d w' e ∧ Only E w w' :=
  ⟨by rw [hn], he ▸ hs, ho⟩

set_option maxHeartbeats 2000000 in
set_option maxRecDepth 100000 in
theorem shift1_any (o h n : Int) (a2 : Option Addr) (n2 m2 : Nat) (b fr d e : Int) (F Y E : Nat) (w : World) (hb0 : 0 ≤ b) (hb1 : b ≤ 20000) (hn0 : 0 ≤ n) (hn1 : n ≤ 9999) (hf0 : 0 ≤ fr) (hf1 : fr ≤ 9999) (hd0 : -9999 ≤ d) (hd1 : d ≤ 9999)
    (hs : ShSt F Y E fr d w e) (hF : F ≠ E) (hY : Y ≠ E) :
    Calls Try.prog 91 #[.agg #[.int .i64 o, .int .i64 h, .int .i64 n, .slice a2 n2 m2], .int .i64 b, .pointer (some ⟨F, 0, none⟩), .pointer (some ⟨Y, 0, none⟩), .pointer (some ⟨E, 0, none⟩)] w
      fun e' w' => e' = .returned (.int .i64 (shF d fr b o h n)) ∧ ShSt F Y E fr d w' (shG d fr b o h n e) ∧ Only E w w' := by
  have hb := one_below w (.cells #[.int .i64 o, .int .i64 h, .int .i64 n, .slice a2 n2 m2] 24)
  have call := freeNumber_any o h n a2 n2 m2 b (w.alloc (.cells #[.int .i64 o, .int .i64 h, .int .i64 n, .slice a2 n2 m2] 24)) hb0 hb1 hn0 hn1
  have HS := Lib.hid hs
  clear hs
  rcases h1 : (h == 1) with _ | _
  · have ef : Hid (shF d fr b o h n = n) := by show _ = _; simp [shF, h1]
    have eg : Hid (shG d fr b o h n e = e) := by show _ = _; simp [shG, h1]
    rw [h1, Bool.false_and] at call
    clear h1
    go_enter Try.func91, Try.ntmps91
    go_wp2_with (go_at_call 92; (with_reducible refine call.mono ?_); rintro e w1 ⟨rfl, hb1⟩; obtain ⟨q0, q1, q2, q3⟩ := box4 hb1)
    go_ret
    exact noted ((HS.out.below hb).below hb1) ((Only.below hb E).trans (Only.below hb1 E)) eg.out.symm ef.out.symm
  · rw [h1, Bool.true_and] at call
    by_cases c1 : b ≤ n
    · rw [decide_eq_true c1] at call
      by_cases c2 : n - b < fr
      · have ef : Hid (shF d fr b o h n = n) := by show _ = _; simp [shF, h1]; omega
        have eg : Hid (shG d fr b o h n e = e) := by show _ = _; simp [shG, h1]; omega
        clear h1
        go_enter Try.func91, Try.ntmps91
        go_wp2_with (go_at_call 92; (with_reducible refine call.mono ?_); rintro e w1 ⟨rfl, hb1⟩; obtain ⟨q0, q1, q2, q3⟩ := box4 hb1; have s1 := Lib.hid ((HS.out.below hb).below hb1); have r1 := cell_of_one s1.out.f; have r2 := cell_of_one s1.out.y; have r3 := free_of_one s1.out.s; have r4 := cell_of_one s1.out.s)
        go_ret
        exact noted s1.out ((Only.below hb E).trans (Only.below hb1 E)) eg.out.symm ef.out.symm
      · by_cases c3 : n - b < fr - d
        · have ef : Hid (shF d fr b o h n = n + d) := by show _ = _; simp [shF, h1]; omega
          have eg : Hid (shG d fr b o h n e = 27) := by show _ = _; simp [shG, h1]; omega
          clear h1
          go_enter Try.func91, Try.ntmps91
          go_wp2_with (go_at_call 92; (with_reducible refine call.mono ?_); rintro e w1 ⟨rfl, hb1⟩; obtain ⟨q0, q1, q2, q3⟩ := box4 hb1; have s1 := Lib.hid ((HS.out.below hb).below hb1); have r1 := cell_of_one s1.out.f; have r2 := cell_of_one s1.out.y; have r3 := free_of_one s1.out.s; have r4 := cell_of_one s1.out.s)
          go_ret
          exact noted (s1.out.note hF hY 27) (((Only.below hb E).trans (Only.below hb1 E)).setCell 0 none _) eg.out.symm ef.out.symm
        · by_cases c4 : 9999 < n + d
          · have ef : Hid (shF d fr b o h n = n + d) := by show _ = _; simp [shF, h1]; omega
            have eg : Hid (shG d fr b o h n e = 5) := by show _ = _; simp [shG, h1]; omega
            clear h1
            go_enter Try.func91, Try.ntmps91
            go_wp2_with (go_at_call 92; (with_reducible refine call.mono ?_); rintro e w1 ⟨rfl, hb1⟩; obtain ⟨q0, q1, q2, q3⟩ := box4 hb1; have s1 := Lib.hid ((HS.out.below hb).below hb1); have r1 := cell_of_one s1.out.f; have r2 := cell_of_one s1.out.y; have r3 := free_of_one s1.out.s; have r4 := cell_of_one s1.out.s)
            go_ret
            exact noted (s1.out.note hF hY 5) (((Only.below hb E).trans (Only.below hb1 E)).setCell 0 none _) eg.out.symm ef.out.symm
          · have ef : Hid (shF d fr b o h n = n + d) := by show _ = _; simp [shF, h1]; omega
            have eg : Hid (shG d fr b o h n e = e) := by show _ = _; simp [shG, h1]; omega
            clear h1
            go_enter Try.func91, Try.ntmps91
            go_wp2_with (go_at_call 92; (with_reducible refine call.mono ?_); rintro e w1 ⟨rfl, hb1⟩; obtain ⟨q0, q1, q2, q3⟩ := box4 hb1; have s1 := Lib.hid ((HS.out.below hb).below hb1); have r1 := cell_of_one s1.out.f; have r2 := cell_of_one s1.out.y; have r3 := free_of_one s1.out.s; have r4 := cell_of_one s1.out.s)
            go_ret
            exact noted s1.out ((Only.below hb E).trans (Only.below hb1 E)) eg.out.symm ef.out.symm
    · rw [decide_eq_false c1] at call
      have ef : Hid (shF d fr b o h n = n) := by show _ = _; simp [shF, h1]; omega
      have eg : Hid (shG d fr b o h n e = e) := by show _ = _; simp [shG, h1]; omega
      clear h1
      go_enter Try.func91, Try.ntmps91
      go_wp2_with (go_at_call 92; (with_reducible refine call.mono ?_); rintro e w1 ⟨rfl, hb1⟩; obtain ⟨q0, q1, q2, q3⟩ := box4 hb1)
      go_ret
      exact noted ((HS.out.below hb).below hb1) ((Only.below hb E).trans (Only.below hb1 E)) eg.out.symm ef.out.symm

end Go.Proofs.Ytomahhdhnlfabaa
