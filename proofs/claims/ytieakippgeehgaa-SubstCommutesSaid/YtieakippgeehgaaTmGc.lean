/- The contracts of term.below, freeNumber and of the closure that Shift hands on. * The contract of term.renumbered, with the closure of Shift. * The contract of term.Shift. * Small lemmas: a row of one term, worlds one behind the other. Nothing of the program is imported but what other texts bring. -/
import Derived.Test.YtieakippgeehgaaProg
import Derived.Test.YtieakippgeehgaaTmGa
import Derived.Test.YtieakippgeehgaaTmGb
import Derived.BigQuiet
import Derived.Deep.QuietTactic
import Derived.Deep.RegionHeld3
import Derived.Deep.DeepCutAuto
import Derived.Deep.DrawnRows
import Derived.OwnWalk
namespace Go.Proofs.Ytieakippgeehgaa
open Go.RowKit
set_option linter.unusedSimpArgs false
set_option linter.unusedVariables false

set_option maxHeartbeats 1000000 in
set_option maxRecDepth 100000 in
theorem belowT_any (o h n : Int) (a2 : Option Addr) (n2 m2 : Nat) (i : Nat) (b : Int) (w : World) (hb0 : 0 ≤ b) (hb1 : b ≤ 20000) :
    Calls Try.prog 96 #[.agg #[.int .i64 o, .int .i64 h, .int .i64 n, .slice a2 n2 m2], .int .i64 i, .int .i64 b] w fun e w' => e = .returned (.int .i64 (b + Tm.belowN o i)) ∧ Below w.heap.size w w' := by
  by_cases h3 : o = 3
  · subst h3
    go_enter Try.func96, Try.ntmps96
    go_wp2
    go_ret
    exact ⟨rfl, one_below w _⟩
  · by_cases h2 : o = 2
    · subst h2
      by_cases hi : i = 1
      · subst hi
        go_enter Try.func96, Try.ntmps96
        go_wp2
        go_ret
        exact ⟨rfl, one_below w _⟩
      · have E : Hid (b + Tm.belowN 2 i = b) := by show _ = _; simp [Tm.belowN, hi]
        have hi' : ((i : Int) == 1) = false := by rw [beq_eq_false_iff_ne]; omega
        go_enter Try.func96, Try.ntmps96
        go_wp2
        go_ret
        exact ⟨ret_int (by rw [E.out]), one_below w _⟩
    · have E : Hid (b + Tm.belowN o i = b) := by show _ = _; simp [Tm.belowN, h3, h2]
      go_enter Try.func96, Try.ntmps96
      go_wp2
      go_ret
      exact ⟨ret_int (by rw [E.out]), one_below w _⟩

set_option maxHeartbeats 1000000 in
set_option maxRecDepth 100000 in
theorem freeNumber_any (o h n : Int) (a2 : Option Addr) (n2 m2 : Nat) (b : Int) (w : World) (hb0 : 0 ≤ b) (hb1 : b ≤ 20000) (hn0 : 0 ≤ n) (hn1 : n ≤ 9999) :
    Calls Try.prog 93 #[.agg #[.int .i64 o, .int .i64 h, .int .i64 n, .slice a2 n2 m2], .int .i64 b] w fun e w' => e = .returned (.tuple #[.int .i64 (n - b), .bool ((h == 1) && decide (b ≤ n))]) ∧ Below w.heap.size w w' := by
  rcases h1 : (h == 1) with _ | _
  · go_enter Try.func93, Try.ntmps93
    go_wp2
    go_quiet (fail)
    go_wp2
    go_ret2
    exact ⟨rfl, below_drawn (one_below w _) _⟩
  · go_enter Try.func93, Try.ntmps93
    go_wp2
    go_quiet (fail)
    go_wp2
    go_ret2
    exact ⟨by simp, below_drawn (one_below w _) _⟩

/-- what the closure of Shift says of a node: its new number, and what is noted -/
def shF (d fr : Int) : Int → Int → Int → Int → Int := fun b _ h n => if h == 1 && decide (fr + b ≤ n) then n + d else n
def shG (d fr : Int) : Int → Int → Int → Int → Int → Int := fun b _ h n e => if h == 1 && decide (fr + b ≤ n) then (if n + d < fr + b then 27 else if 9999 < n + d then 5 else e) else e

/-- the cells that the closure has captured -/
structure ShSt (F Y E : Nat) (fr d : Int) (w : World) (e : Int) : Prop where
  f : w.heap[F]? = some (.cells #[.int .i64 fr] 3 (0, 0))
  y : w.heap[Y]? = some (.cells #[.int .i64 d] 3 (0, 0))
  s : w.heap[E]? = some (.cells #[.int .i64 e] 30 (0, 0))

theorem ShSt.below {F Y E : Nat} {fr d e : Int} {w w' : World} (h : ShSt F Y E fr d w e) (hb : Below w.heap.size w w') : ShSt F Y E fr d w' e := ⟨heap_kept hb h.f, heap_kept hb h.y, heap_kept hb h.s⟩
theorem ShSt.note {F Y E : Nat} {fr d e : Int} {w : World} (h : ShSt F Y E fr d w e) (hF : F ≠ E) (hY : Y ≠ E) (x : Int) : ShSt F Y E fr d (w.setCell ⟨E, 0, none⟩ (.int .i64 x)) x :=
  ⟨(Below.heap_setCell _ _ _ _ hF).trans h.f, (Below.heap_setCell _ _ _ _ hY).trans h.y, one_setCell h.s⟩

theorem noted {F Y E : Nat} {fr d e x n' : Int} {w w' : World} (hs : ShSt F Y E fr d w' x) (ho : Only E w w') (he : x = e) {m : Int} (hn : n' = m) : Ending.returned (.int .i64 n') = .returned (.int .i64 m) ∧ ShSt F Y E fr d w' e ∧ Only E w w' :=
  ⟨by rw [hn], he ▸ hs, ho⟩

set_option maxHeartbeats 2000000 in
set_option maxRecDepth 100000 in
theorem shift1_any (o h n : Int) (a2 : Option Addr) (n2 m2 : Nat) (b fr d e : Int) (F Y E : Nat) (w : World) (hb0 : 0 ≤ b) (hb1 : b ≤ 20000) (hn0 : 0 ≤ n) (hn1 : n ≤ 9999) (hf0 : 0 ≤ fr) (hf1 : fr ≤ 9999) (hd0 : -9999 ≤ d) (hd1 : d ≤ 9999)
    (hs : ShSt F Y E fr d w e) (hF : F ≠ E) (hY : Y ≠ E) :
    Calls Try.prog 92 #[.agg #[.int .i64 o, .int .i64 h, .int .i64 n, .slice a2 n2 m2], .int .i64 b, .pointer (some ⟨F, 0, none⟩), .pointer (some ⟨Y, 0, none⟩), .pointer (some ⟨E, 0, none⟩)] w
      fun e' w' => e' = .returned (.int .i64 (shF d fr b o h n)) ∧ ShSt F Y E fr d w' (shG d fr b o h n e) ∧ Only E w w' := by
  have hb := one_below w (.cells #[.int .i64 o, .int .i64 h, .int .i64 n, .slice a2 n2 m2] 24)
  have call := freeNumber_any o h n a2 n2 m2 b (w.alloc (.cells #[.int .i64 o, .int .i64 h, .int .i64 n, .slice a2 n2 m2] 24)) hb0 hb1 hn0 hn1
  have HS := Lib.hid hs
  clear hs
  rcases h1 : (h == 1) with _ | _
  · have ef : Hid (shF d fr b o h n = n) := by show _ = _; simp [shF, h1]
    have eg : Hid (shG d fr b o h n e = e) := by show _ = _; simp [shG, h1]
    rw [h1, Bool.false_and] at call
    clear h1
    go_enter Try.func92, Try.ntmps92
    go_wp2_with (go_at_call 93; (with_reducible refine call.mono ?_); rintro e w1 ⟨rfl, hb1⟩; obtain ⟨q0, q1, q2, q3⟩ := box4 hb1)
    go_ret
    exact noted ((HS.out.below hb).below hb1) ((Only.below hb E).trans (Only.below hb1 E)) eg.out.symm ef.out.symm
  · rw [h1, Bool.true_and] at call
    by_cases c1 : b ≤ n
    · rw [decide_eq_true c1] at call
      by_cases c2 : n - b < fr
      · have ef : Hid (shF d fr b o h n = n) := by show _ = _; simp [shF, h1]; omega
        have eg : Hid (shG d fr b o h n e = e) := by show _ = _; simp [shG, h1]; omega
        clear h1
        go_enter Try.func92, Try.ntmps92
        go_wp2_with (go_at_call 93; (with_reducible refine call.mono ?_); rintro e w1 ⟨rfl, hb1⟩; obtain ⟨q0, q1, q2, q3⟩ := box4 hb1; have s1 := Lib.hid ((HS.out.below hb).below hb1); have r1 := cell_of_one s1.out.f; have r2 := cell_of_one s1.out.y; have r3 := free_of_one s1.out.s; have r4 := cell_of_one s1.out.s)
        go_ret
        exact noted s1.out ((Only.below hb E).trans (Only.below hb1 E)) eg.out.symm ef.out.symm
      · by_cases c3 : n - b < fr - d
        · have ef : Hid (shF d fr b o h n = n + d) := by show _ = _; simp [shF, h1]; omega
          have eg : Hid (shG d fr b o h n e = 27) := by show _ = _; simp [shG, h1]; omega
          clear h1
          go_enter Try.func92, Try.ntmps92
          go_wp2_with (go_at_call 93; (with_reducible refine call.mono ?_); rintro e w1 ⟨rfl, hb1⟩; obtain ⟨q0, q1, q2, q3⟩ := box4 hb1; have s1 := Lib.hid ((HS.out.below hb).below hb1); have r1 := cell_of_one s1.out.f; have r2 := cell_of_one s1.out.y; have r3 := free_of_one s1.out.s; have r4 := cell_of_one s1.out.s)
          go_ret
          exact noted (s1.out.note hF hY 27) (((Only.below hb E).trans (Only.below hb1 E)).setCell 0 none _) eg.out.symm ef.out.symm
        · by_cases c4 : 9999 < n + d
          · have ef : Hid (shF d fr b o h n = n + d) := by show _ = _; simp [shF, h1]; omega
            have eg : Hid (shG d fr b o h n e = 5) := by show _ = _; simp [shG, h1]; omega
            clear h1
            go_enter Try.func92, Try.ntmps92
            go_wp2_with (go_at_call 93; (with_reducible refine call.mono ?_); rintro e w1 ⟨rfl, hb1⟩; obtain ⟨q0, q1, q2, q3⟩ := box4 hb1; have s1 := Lib.hid ((HS.out.below hb).below hb1); have r1 := cell_of_one s1.out.f; have r2 := cell_of_one s1.out.y; have r3 := free_of_one s1.out.s; have r4 := cell_of_one s1.out.s)
            go_ret
            exact noted (s1.out.note hF hY 5) (((Only.below hb E).trans (Only.below hb1 E)).setCell 0 none _) eg.out.symm ef.out.symm
          · have ef : Hid (shF d fr b o h n = n + d) := by show _ = _; simp [shF, h1]; omega
            have eg : Hid (shG d fr b o h n e = e) := by show _ = _; simp [shG, h1]; omega
            clear h1
            go_enter Try.func92, Try.ntmps92
            go_wp2_with (go_at_call 93; (with_reducible refine call.mono ?_); rintro e w1 ⟨rfl, hb1⟩; obtain ⟨q0, q1, q2, q3⟩ := box4 hb1; have s1 := Lib.hid ((HS.out.below hb).below hb1); have r1 := cell_of_one s1.out.f; have r2 := cell_of_one s1.out.y; have r3 := free_of_one s1.out.s; have r4 := cell_of_one s1.out.s)
            go_ret
            exact noted s1.out ((Only.below hb E).trans (Only.below hb1 E)) eg.out.symm ef.out.symm
    · rw [decide_eq_false c1] at call
      have ef : Hid (shF d fr b o h n = n) := by show _ = _; simp [shF, h1]; omega
      have eg : Hid (shG d fr b o h n e = e) := by show _ = _; simp [shG, h1]; omega
      clear h1
      go_enter Try.func92, Try.ntmps92
      go_wp2_with (go_at_call 93; (with_reducible refine call.mono ?_); rintro e w1 ⟨rfl, hb1⟩; obtain ⟨q0, q1, q2, q3⟩ := box4 hb1)
      go_ret
      exact noted ((HS.out.below hb).below hb1) ((Only.below hb E).trans (Only.below hb1 E)) eg.out.symm ef.out.symm

end Go.Proofs.Ytieakippgeehgaa

namespace Go.Proofs.Ytieakippgeehgaa
open Go.RowKit
set_option linter.unusedSimpArgs false
set_option linter.unusedVariables false

theorem Only.new {B : Nat} {w w1 : World} (h : Only B w w1) {p : Addr} (hp : w.heap.size ≤ p.block) (u : Value) : Only B w (w1.setCell p u) := by
  refine ⟨h.out.os, h.out.tape, h.out.output, by simpa [World.setCell] using h.out.size, fun k hk hn => ?_⟩
  rw [Below.heap_setCell _ _ _ _ (by omega)]
  exact h.out.block k hk hn

theorem tm_info : (Try.prog.info? 24).map (fun i => (i.zero, i.size, i.bytes)) = some (some (.agg #[.int .i64 0, .int .i64 0, .int .i64 0, .slice none 0 0]), 4, 48) := by kernel_rfl

abbrev Cells4 (W : World) (b : Nat) (u1 u2 u3 u4 : Value) : Prop := W.cell? ⟨b, 0, none⟩ = some u1 ∧ W.cell? ⟨b, 1, none⟩ = some u2 ∧ W.cell? ⟨b, 2, none⟩ = some u3 ∧ W.cell? ⟨b, 3, none⟩ = some u4

theorem keep4 {w1 w2 : World} {p1 p2 p3 p4 : Addr} {u1 u2 u3 u4 : Value} (hb : Below w1.heap.size w1 w2)
    (x : w1.cell? p1 = some u1 ∧ w1.cell? p2 = some u2 ∧ w1.cell? p3 = some u3 ∧ w1.cell? p4 = some u4) :
    w2.cell? p1 = some u1 ∧ w2.cell? p2 = some u2 ∧ w2.cell? p3 = some u3 ∧ w2.cell? p4 = some u4 := by
  obtain ⟨x1, x2, x3, x4⟩ := x
  exact ⟨kept_cell hb x1, kept_cell hb x2, kept_cell hb x3, kept_cell hb x4⟩
theorem keepO {E B : Nat} {w1 w2 : World} {u1 u2 u3 u4 : Value} (hn : B ≠ E) (ho : Only E w1 w2)
    (x : w1.cell? ⟨B, 0, none⟩ = some u1 ∧ w1.cell? ⟨B, 1, none⟩ = some u2 ∧ w1.cell? ⟨B, 2, none⟩ = some u3 ∧ w1.cell? ⟨B, 3, none⟩ = some u4) :
    w2.cell? ⟨B, 0, none⟩ = some u1 ∧ w2.cell? ⟨B, 1, none⟩ = some u2 ∧ w2.cell? ⟨B, 2, none⟩ = some u3 ∧ w2.cell? ⟨B, 3, none⟩ = some u4 := by
  obtain ⟨x1, x2, x3, x4⟩ := x
  exact ⟨ho.cell hn x1, ho.cell hn x2, ho.cell hn x3, ho.cell hn x4⟩

theorem newO {E s : Nat} {X w1 : World} {cs : Array Value} {t : TypeId} (ho : Only E (X.alloc (.cells cs t)).drew w1) (hs : X.heap.size = s) (hne : s ≠ E) : w1.heap[s]? = some (.cells cs t (0, 0)) := by
  subst hs
  rw [ho.block _ (show X.heap.size < (X.alloc (.cells cs t)).heap.size by simp) hne]
  exact heap_alloc_new X _

theorem keepH {B : Nat} {w1 w2 : World} {u1 u2 u3 u4 : Value} (hb : w2.heap[B]? = w1.heap[B]?)
    (x : w1.cell? ⟨B, 0, none⟩ = some u1 ∧ w1.cell? ⟨B, 1, none⟩ = some u2 ∧ w1.cell? ⟨B, 2, none⟩ = some u3 ∧ w1.cell? ⟨B, 3, none⟩ = some u4) :
    w2.cell? ⟨B, 0, none⟩ = some u1 ∧ w2.cell? ⟨B, 1, none⟩ = some u2 ∧ w2.cell? ⟨B, 2, none⟩ = some u3 ∧ w2.cell? ⟨B, 3, none⟩ = some u4 := by
  have go : ∀ j u, w1.cell? ⟨B, j, none⟩ = some u → w2.cell? ⟨B, j, none⟩ = some u := fun j u e => by rw [World.cell?_of_block (w := w1) hb]; exact e
  exact ⟨go _ _ x.1, go _ _ x.2.1, go _ _ x.2.2.1, go _ _ x.2.2.2⟩
theorem heap_set4 {w : World} {B : Nat} {p1 p2 p3 p4 : Addr} (x1 x2 x3 x4 : Value) (h1 : B ≠ p1.block) (h2 : B ≠ p2.block) (h3 : B ≠ p3.block) (h4 : B ≠ p4.block) :
    ((((w.setCell p1 x1).setCell p2 x2).setCell p3 x3).setCell p4 x4).heap[B]? = w.heap[B]? := by
  rw [Below.heap_setCell _ _ _ _ h4, Below.heap_setCell _ _ _ _ h3, Below.heap_setCell _ _ _ _ h2, Below.heap_setCell _ _ _ _ h1]

/-- what lies in memory when renumbered has laid its first node -/
structure CutR (F Y E : Nat) (fr d : Int) (w : World) (o h n nn : Int) (ao : Option Addr) (len cap : Nat) (e1 : Int) (G : Nat) (wx : World) : Prop where
  le : w.heap.size + 2 ≤ G
  only : Only E w wx
  st : ShSt F Y E fr d wx e1
  box : wx.heap[w.heap.size]? = some (.cells #[.int .i64 o, .int .i64 h, .int .i64 n, .slice ao len cap] 24 (0, 0))
  res : wx.heap[w.heap.size + 1]? = some (.cells #[.int .i64 0, .int .i64 0, .int .i64 0, .slice none 0 0] 24 (0, 0))
  dot : wx.heap[G]? = some (.cells #[.int .i64 o, .int .i64 h, .int .i64 nn, .slice none 0 0] 24 (0, 0))

section
variable {F Y E : Nat} {fr d : Int} {w w1 : World} {o h n nn e1 : Int} {ao : Option Addr} {len cap : Nat}
theorem two_blocks (w : World) (c1 c2 : Array Value) (t1 t2 : TypeId) : ((w.alloc (.cells c1 t1)).alloc (.cells c2 t2)).heap[w.heap.size]? = some (.cells c1 t1 (0, 0)) ∧ ((w.alloc (.cells c1 t1)).alloc (.cells c2 t2)).heap[w.heap.size + 1]? = some (.cells c2 t2 (0, 0)) := by
  constructor
  · rw [Below.heap_alloc _ _ _ (by simp)]; exact heap_alloc_new _ _
  · have := heap_alloc_new (w.alloc (.cells c1 t1)) (.cells c2 t2)
    simpa using this
theorem cutA (HE : E < w.heap.size) (hs1 : ShSt F Y E fr d w1 e1)
    (ho1 : Only E ((w.alloc (.cells #[.int .i64 o, .int .i64 h, .int .i64 n, .slice ao len cap] 24)).alloc (.cells #[.int .i64 0, .int .i64 0, .int .i64 0, .slice none 0 0] 24)).drew w1) :
    CutR F Y E fr d w o h n nn ao len cap e1 w1.heap.size (w1.alloc (.cells #[.int .i64 o, .int .i64 h, .int .i64 nn, .slice none 0 0] 24)) := by
  have hb := two_blocks w #[.int .i64 o, .int .i64 h, .int .i64 n, .slice ao len cap] #[.int .i64 0, .int .i64 0, .int .i64 0, .slice none 0 0] 24 24
  have hsz : w.heap.size + 2 ≤ w1.heap.size := by
    have h1 := ho1.size
    have h2 : ((w.alloc (.cells #[.int .i64 o, .int .i64 h, .int .i64 n, .slice ao len cap] 24)).alloc (.cells #[.int .i64 0, .int .i64 0, .int .i64 0, .slice none 0 0] 24)).drew.heap.size = w.heap.size + 2 := by
      show ((w.alloc _).alloc _).heap.size = _
      simp
    omega
  have hold : ∀ k, k < w.heap.size + 2 → k ≠ E → (w1.alloc (.cells #[.int .i64 o, .int .i64 h, .int .i64 nn, .slice none 0 0] 24)).heap[k]? = ((w.alloc (.cells #[.int .i64 o, .int .i64 h, .int .i64 n, .slice ao len cap] 24)).alloc (.cells #[.int .i64 0, .int .i64 0, .int .i64 0, .slice none 0 0] 24)).heap[k]? := fun k hk hn => by
    rw [Below.heap_alloc _ _ _ (by omega), ho1.block k (by show k < ((w.alloc _).alloc _).heap.size; simp; omega) hn]; rfl
  refine ⟨hsz, (Only.below (two_below w _ _).drew E).trans (ho1.alloc _), hs1.below ((Below.refl _ _).alloc (Nat.le_refl _) _), ?_, ?_, heap_alloc_new _ _⟩
  · rw [hold _ (by omega) (by omega)]; exact hb.1
  · rw [hold _ (by omega) (by omega)]; exact hb.2
theorem cutB (HE : E < w.heap.size) (hz : w1.heap[w.heap.size + 1 + 1]? = some (.cells #[.int .i64 0, .int .i64 0, .int .i64 0, .slice none 0 0] 24 (0, 0))) (hs1 : ShSt F Y E fr d w1 e1)
    (ho1 : Only E (((w.alloc (.cells #[.int .i64 o, .int .i64 h, .int .i64 n, .slice ao len cap] 24)).alloc (.cells #[.int .i64 0, .int .i64 0, .int .i64 0, .slice none 0 0] 24)).alloc (.cells #[.int .i64 0, .int .i64 0, .int .i64 0, .slice none 0 0] 24)).drew w1) :
    CutR F Y E fr d w o h n nn ao len cap e1 (w.heap.size + 1 + 1) ((((w1.setCell ⟨w.heap.size + 1 + 1, 0, none⟩ (.int .i64 o)).setCell ⟨w.heap.size + 1 + 1, 1, none⟩ (.int .i64 h)).setCell ⟨w.heap.size + 1 + 1, 2, none⟩ (.int .i64 nn)).setCell ⟨w.heap.size + 1 + 1, 3, none⟩ (.slice none 0 0)) := by
  have hb := two_blocks w #[.int .i64 o, .int .i64 h, .int .i64 n, .slice ao len cap] #[.int .i64 0, .int .i64 0, .int .i64 0, .slice none 0 0] 24 24
  have g1 := heap_set_at (j := 0) (.int .i64 o) hz
  have g2 := heap_set_at (j := 1) (.int .i64 h) g1
  have g3 := heap_set_at (j := 2) (.int .i64 nn) g2
  have g4 := heap_set_at (j := 3) (.slice none 0 0) g3
  have hold : ∀ k, k < w.heap.size + 2 → k ≠ E → w1.heap[k]? = ((w.alloc (.cells #[.int .i64 o, .int .i64 h, .int .i64 n, .slice ao len cap] 24)).alloc (.cells #[.int .i64 0, .int .i64 0, .int .i64 0, .slice none 0 0] 24)).heap[k]? := fun k hk hn => by
    rw [ho1.block k (by show k < (((w.alloc _).alloc _).alloc _).heap.size; simp; omega) hn]
    exact Below.heap_alloc _ _ _ (by simp; omega)
  have hset : ∀ k, k ≠ w.heap.size + 1 + 1 → ((((w1.setCell ⟨w.heap.size + 1 + 1, 0, none⟩ (.int .i64 o)).setCell ⟨w.heap.size + 1 + 1, 1, none⟩ (.int .i64 h)).setCell ⟨w.heap.size + 1 + 1, 2, none⟩ (.int .i64 nn)).setCell ⟨w.heap.size + 1 + 1, 3, none⟩ (.slice none 0 0)).heap[k]? = w1.heap[k]? := fun k hk => heap_set4 _ _ _ _ hk hk hk hk
  have hF := lt_of_block hs1.f
  have ho : Only E w w1 := (Only.below (((two_below w _ _).alloc (by simp; omega) _).drew) E).trans ho1
  have hst : ShSt F Y E fr d ((((w1.setCell ⟨w.heap.size + 1 + 1, 0, none⟩ (.int .i64 o)).setCell ⟨w.heap.size + 1 + 1, 1, none⟩ (.int .i64 h)).setCell ⟨w.heap.size + 1 + 1, 2, none⟩ (.int .i64 nn)).setCell ⟨w.heap.size + 1 + 1, 3, none⟩ (.slice none 0 0)) e1 := by
    refine ⟨?_, ?_, ?_⟩
    · rw [hset F (fun h => by subst h; rw [hs1.f] at hz; simp at hz)]; exact hs1.f
    · rw [hset Y (fun h => by subst h; rw [hs1.y] at hz; simp at hz)]; exact hs1.y
    · rw [hset E (by omega)]; exact hs1.s
  refine ⟨Nat.le_refl _, (((ho.new (by simp; omega) _).new (by simp; omega) _).new (by simp; omega) _).new (by simp; omega) _, hst, ?_, ?_, ?_⟩
  · rw [hset _ (by omega), hold _ (by omega) (by omega)]; exact hb.1
  · rw [hset _ (by omega), hold _ (by omega) (by omega)]; exact hb.2
  · rw [g4]; rfl
end

theorem CutR.below {F Y E : Nat} {fr d : Int} {w : World} {o h n nn : Int} {ao : Option Addr} {len cap : Nat} {e1 : Int} {G : Nat} {wx w1 : World} (H : CutR F Y E fr d w o h n nn ao len cap e1 G wx) (hb : Below wx.heap.size wx w1) : CutR F Y E fr d w o h n nn ao len cap e1 G w1 :=
  ⟨H.le, H.only.trans (Only.below hb E), H.st.below hb, heap_kept hb H.box, heap_kept hb H.res, heap_kept hb H.dot⟩

theorem set4_at {w : World} {B : Nat} {a0 a1 a2 a3 : Value} {t : TypeId} (h : w.heap[B]? = some (.cells #[a0, a1, a2, a3] t (0, 0))) (x0 x1 x2 x3 : Value) :
    ((((w.setCell ⟨B, 0, none⟩ x0).setCell ⟨B, 1, none⟩ x1).setCell ⟨B, 2, none⟩ x2).setCell ⟨B, 3, none⟩ x3).heap[B]? = some (.cells #[x0, x1, x2, x3] t (0, 0)) := by
  have g1 := heap_set_at (j := 0) x0 h
  have g2 := heap_set_at (j := 1) x1 g1
  have g3 := heap_set_at (j := 2) x2 g2
  have g4 := heap_set_at (j := 3) x3 g3
  rw [g4]; rfl

/-- what renumbered leaves -/
def RenS (F Y E : Nat) (fr d : Int) (w : World) (b : Int) (t : Tm) (e : Int) (e' : Ending) (w' : World) : Prop :=
  ∃ v', e' = .returned (.agg #[.int .i64 (Tm.ren (shF d fr) b t).op, .int .i64 (Tm.ren (shF d fr) b t).hd, .int .i64 (Tm.ren (shF d fr) b t).n, v']) ∧ Only E w w' ∧ ShSt F Y E fr d w' (Tm.errT (shG d fr) b t e) ∧ Lies w' (w.heap.size ≤ ·) v' (Tm.ren (shF d fr) b t).args

theorem renS_post {F Y E : Nat} {fr d b o h n nn e e1 : Int} {l : List Tm} {w w' : World} {v' : Value} (HNN : nn = shF d fr b o h n) (HE1 : e1 = shG d fr b o h n e) (hargs : Lies w' (w.heap.size ≤ ·) v' (Tm.renL (shF d fr) b o 0 l))
    (hst : ShSt F Y E fr d w' (Tm.errL (shG d fr) b o 0 l e1)) (ho : Only E w w') : RenS F Y E fr d w b (.mk o h n l) e (.returned (.agg #[.int .i64 o, .int .i64 h, .int .i64 nn, v'])) w' := by
  subst HNN HE1
  refine ⟨v', ?_, ho, ?_, ?_⟩
  · simp only [Tm.ren, Tm.op, Tm.hd, Tm.n]
  · simp only [Tm.errT]; exact hst
  · simp only [Tm.ren, Tm.args]; exact hargs

theorem ShSt.other {F Y E B : Nat} {fr d e : Int} {w w' : World} (h : ShSt F Y E fr d w e) (hF : F ≠ B) (hY : Y ≠ B) (hE : E ≠ B) (hb : ∀ k, k ≠ B → w'.heap[k]? = w.heap[k]?) : ShSt F Y E fr d w' e :=
  ⟨(hb F hF).trans h.f, (hb Y hY).trans h.y, (hb E hE).trans h.s⟩

theorem below_grown {w w' : World} (h : w.grownBy w' none) : Below w.heap.size w w' := ⟨h.os, h.tape, h.output, h.size, fun k hk => h.block k hk (by simp)⟩

/-- what lies in memory when the first k parts have been renumbered -/
structure FillR (F Y E : Nat) (fr d : Int) (w : World) (o h n nn b : Int) (ao : Option Addr) (len cap : Nat) (l : List Tm) (e1 : Int) (G g k : Nat) (vs : List Value) (wr : World) : Prop where
  le : w.heap.size + 2 ≤ G
  lt : G < g
  hlen : l.length = len
  only : Only E w wr
  st : ShSt F Y E fr d wr (Tm.errTo (shG d fr) b o l k e1)
  box : wr.heap[w.heap.size]? = some (.cells #[.int .i64 o, .int .i64 h, .int .i64 n, .slice ao len cap] 24 (0, 0))
  res : wr.heap[w.heap.size + 1]? = some (.cells #[.int .i64 0, .int .i64 0, .int .i64 0, .slice none 0 0] 24 (0, 0))
  dot : wr.heap[G]? = some (.cells #[.int .i64 o, .int .i64 h, .int .i64 nn, .slice (some ⟨g, 0, none⟩) len len] 24 (0, 0))
  row : RowF wr (w.heap.size + 2) 24 g (Tm.renTo (shF d fr) b o l k ++ List.replicate (len - k) Tm.zero) vs

section
variable {F Y E : Nat} {fr d : Int} {w w1 w2 : World} {o h n nn b e1 : Int} {ao : Option Addr} {len cap G g k : Nat} {l : List Tm} {vs : List Value}
theorem FillR.start (HE : E < w.heap.size) (hlen : l.length = len) (H : CutR F Y E fr d w o h n nn ao len cap e1 G w1) (hF : F < w.heap.size) (hY : Y < w.heap.size) (hg : G < g)
    (hown : w1.ownsRow (w.heap.size + 2) 24 4 (.slice (some ⟨g, 0, none⟩) len len) len (madeCells #[.int .i64 0, .int .i64 0, .int .i64 0, .slice none 0 0] (len * 4)).toList) :
    ∃ vs, FillR F Y E fr d w o h n nn b ao len cap l e1 G g 0 vs (w1.setCell ⟨G, 3, none⟩ (.slice (some ⟨g, 0, none⟩) len len)) := by
  have hle := H.le
  have hoth : ∀ k, k ≠ G → (w1.setCell ⟨G, 3, none⟩ (.slice (some ⟨g, 0, none⟩) len len)).heap[k]? = w1.heap[k]? := fun k hk => Below.heap_setCell _ _ _ _ hk
  refine ⟨List.replicate len Tm.nilV, H.le, hg, hlen, H.only.new (by simp; omega) _, ?_, ?_, ?_, ?_, ?_⟩
  · rw [Tm.errTo_zero]; exact H.st.other (by omega) (by omega) (by omega) hoth
  · rw [hoth _ (by omega)]; exact H.box
  · rw [hoth _ (by omega)]; exact H.res
  · rw [heap_set_at _ H.dot]; rfl
  · rw [Tm.renTo_zero, List.nil_append, Nat.sub_zero]
    have hm := RowF.made hown
    exact ⟨hm.hb, hm.hl, hm.hn, (hoth g (by omega)).trans hm.hg, fun i hi hi' => by simp only [List.getElem_replicate]; exact Lies.nil _ _, hm.fit⟩

theorem FillR.step {t' : Tm} {v' : Value} (HE : E < w.heap.size) (H : FillR F Y E fr d w o h n nn b ao len cap l e1 G g k vs w1) (hk : k < len) (hF : F < w.heap.size) (hY : Y < w.heap.size)
    (ho : Only E w1 w2) (hst : ShSt F Y E fr d w2 (Tm.errTo (shG d fr) b o l (k + 1) e1)) (ht : Tm.renTo (shF d fr) b o l (k + 1) = Tm.renTo (shF d fr) b o l k ++ [t']) (hv : Lies w2 (w1.heap.size ≤ ·) v' t'.args) (hfit : t'.fit) :
    ∃ vs, FillR F Y E fr d w o h n nn b ao len cap l e1 G g (k + 1) vs ((((w2.setCell ⟨g, k * 4, none⟩ (.int .i64 t'.op)).setCell ⟨g, k * 4 + 1, none⟩ (.int .i64 t'.hd)).setCell ⟨g, k * 4 + 2, none⟩ (.int .i64 t'.n)).setCell ⟨g, k * 4 + 3, none⟩ v') := by
  have hle := H.le
  have hlt := H.lt
  have hglt := H.row.lt
  have hl1 := H.hlen
  have hb : ∀ b, b ≠ E → b < w1.heap.size → w2.heap[b]? = w1.heap[b]? := fun b hn hb => ho.block b hb hn
  have hrow : RowF w2 (w.heap.size + 2) 24 g (Tm.renTo (shF d fr) b o l k ++ List.replicate (len - k) Tm.zero) vs := H.row.keep fun b h1 h2 => hb b (by omega) h2
  have hl0 := Tm.renTo_length (shF d fr) b o l k (by omega)
  have hkl : k < (Tm.renTo (shF d fr) b o l k ++ List.replicate (len - k) Tm.zero).length := by rw [List.length_append, hl0, List.length_replicate]; omega
  have hst2 := hrow.store k hkl t' v' (hv.more fun b _ hS => ⟨by omega, by omega⟩) hfit
  have hset : (Tm.renTo (shF d fr) b o l k ++ List.replicate (len - k) Tm.zero).set k t' = Tm.renTo (shF d fr) b o l (k + 1) ++ List.replicate (len - (k + 1)) Tm.zero := by
    rw [List.set_append_right k t' (by omega), hl0, Nat.sub_self, ht, List.append_assoc]
    congr 1
    rw [show len - k = (len - (k + 1)) + 1 from by omega, List.replicate_succ, List.set_cons_zero]
    rfl
  rw [hset] at hst2
  have hoth : ∀ j, j ≠ g → ((((w2.setCell ⟨g, k * 4, none⟩ (.int .i64 t'.op)).setCell ⟨g, k * 4 + 1, none⟩ (.int .i64 t'.hd)).setCell ⟨g, k * 4 + 2, none⟩ (.int .i64 t'.n)).setCell ⟨g, k * 4 + 3, none⟩ v').heap[j]? = w2.heap[j]? := fun j hj => heap_set4 _ _ _ _ hj hj hj hj
  refine ⟨_, H.le, H.lt, H.hlen, ((((H.only.trans ho).new (by simp; omega) _).new (by simp; omega) _).new (by simp; omega) _).new (by simp; omega) _, hst.other (by omega) (by omega) (by omega) hoth, ?_, ?_, ?_, hst2⟩
  · rw [hoth _ (by omega), hb _ (by omega) (by omega)]; exact H.box
  · rw [hoth _ (by omega), hb _ (by omega) (by omega)]; exact H.res
  · rw [hoth _ (by omega), hb _ (by omega) (by omega)]; exact H.dot
end

theorem FillR.rowO {F Y E : Nat} {fr d : Int} {w w1 w2 : World} {o h n nn b e1 : Int} {ao : Option Addr} {len cap G g k : Nat} {l : List Tm} {vs : List Value} (HE : E < w.heap.size) (H : FillR F Y E fr d w o h n nn b ao len cap l e1 G g k vs w1) (ho : Only E w1 w2) :
    RowF w2 (w.heap.size + 2) 24 g (Tm.renTo (shF d fr) b o l k ++ List.replicate (len - k) Tm.zero) vs := H.row.keep fun b h1 h2 => ho.block b h2 (by omega)
theorem FillR.lenk {F Y E : Nat} {fr d : Int} {w w1 : World} {o h n nn b e1 : Int} {ao : Option Addr} {len cap G g k : Nat} {l : List Tm} {vs : List Value} (H : FillR F Y E fr d w o h n nn b ao len cap l e1 G g k vs w1) (hk : k ≤ len) :
    (Tm.renTo (shF d fr) b o l k ++ List.replicate (len - k) Tm.zero).length = len := by
  rw [List.length_append, Tm.renTo_length _ _ _ _ _ (by rw [H.hlen]; exact hk), List.length_replicate]; omega
theorem ren_fit {d fr b o h n : Int} {l : List Tm} (hn : Tm.nums (.mk o h n l) = true) (h0 : -9999 ≤ d) (h1 : d ≤ 9999) : (Tm.ren (shF d fr) b (.mk o h n l)).fit := by
  simp only [Tm.nums, Bool.and_eq_true, decide_eq_true_eq] at hn
  unfold Tm.fit
  simp only [Tm.ren, Tm.op, Tm.hd, Tm.n]
  refine ⟨by omega, by omega, ?_⟩
  unfold shF
  split <;> omega

abbrev Cells9 (W : World) (b1 b2 b3 : Nat) (u1 u2 u3 u4 u5 u6 u7 u8 u9 : Value) : Prop :=
  W.cell? ⟨b1, 3, none⟩ = some u1 ∧ W.cell? ⟨b2, 0, none⟩ = some u2 ∧ W.cell? ⟨b2, 1, none⟩ = some u3 ∧ W.cell? ⟨b2, 2, none⟩ = some u4 ∧ W.cell? ⟨b2, 3, none⟩ = some u5 ∧ W.cell? ⟨b3, 0, none⟩ = some u6 ∧ W.cell? ⟨b3, 1, none⟩ = some u7 ∧ W.cell? ⟨b3, 2, none⟩ = some u8 ∧ W.cell? ⟨b3, 3, none⟩ = some u9
theorem cells9_heap {W W' : World} {b1 b2 b3 : Nat} {u1 u2 u3 u4 u5 u6 u7 u8 u9 : Value} (x : Cells9 W b1 b2 b3 u1 u2 u3 u4 u5 u6 u7 u8 u9) (h1 : W'.heap[b1]? = W.heap[b1]?) (h2 : W'.heap[b2]? = W.heap[b2]?) (h3 : W'.heap[b3]? = W.heap[b3]?) : Cells9 W' b1 b2 b3 u1 u2 u3 u4 u5 u6 u7 u8 u9 := by
  have go : ∀ {b : Nat} (_ : W'.heap[b]? = W.heap[b]?) {j : Nat} {u : Value} (_ : W.cell? ⟨b, j, none⟩ = some u), W'.cell? ⟨b, j, none⟩ = some u := by
    intro b hb j u e
    rw [World.cell?_of_block (w := W) hb]; exact e
  obtain ⟨x1, x2, x3, x4, x5, x6, x7, x8, x9⟩ := x
  exact ⟨go h1 x1, go h2 x2, go h2 x3, go h2 x4, go h2 x5, go h3 x6, go h3 x7, go h3 x8, go h3 x9⟩
theorem cells9_lt {W : World} {b1 b2 b3 : Nat} {u1 u2 u3 u4 u5 u6 u7 u8 u9 : Value} (x : Cells9 W b1 b2 b3 u1 u2 u3 u4 u5 u6 u7 u8 u9) : b1 < W.heap.size ∧ b2 < W.heap.size ∧ b3 < W.heap.size :=
  ⟨World.block_lt_of_cell? W _ x.1, World.block_lt_of_cell? W _ x.2.1, World.block_lt_of_cell? W _ x.2.2.2.2.2.1⟩
theorem cells9_below {W W' : World} {b1 b2 b3 : Nat} {u1 u2 u3 u4 u5 u6 u7 u8 u9 : Value} (hb : Below W.heap.size W W') (x : Cells9 W b1 b2 b3 u1 u2 u3 u4 u5 u6 u7 u8 u9) : Cells9 W' b1 b2 b3 u1 u2 u3 u4 u5 u6 u7 u8 u9 :=
  cells9_heap x (hb.block _ (cells9_lt x).1) (hb.block _ (cells9_lt x).2.1) (hb.block _ (cells9_lt x).2.2)
theorem cells9_only {E : Nat} {W W' : World} {b1 b2 b3 : Nat} {u1 u2 u3 u4 u5 u6 u7 u8 u9 : Value} (h1 : b1 ≠ E) (h2 : b2 ≠ E) (h3 : b3 ≠ E) (hb : Only E W W') (x : Cells9 W b1 b2 b3 u1 u2 u3 u4 u5 u6 u7 u8 u9) : Cells9 W' b1 b2 b3 u1 u2 u3 u4 u5 u6 u7 u8 u9 :=
  cells9_heap x (hb.block _ (cells9_lt x).1 h1) (hb.block _ (cells9_lt x).2.1 h2) (hb.block _ (cells9_lt x).2.2 h3)
theorem cells9_set {g : Nat} {W : World} {b1 b2 b3 : Nat} {u1 u2 u3 u4 u5 u6 u7 u8 u9 x1 x2 x3 x4 : Value} {j1 j2 j3 j4 : Nat} (h1 : b1 ≠ g) (h2 : b2 ≠ g) (h3 : b3 ≠ g) (x : Cells9 W b1 b2 b3 u1 u2 u3 u4 u5 u6 u7 u8 u9) :
    Cells9 ((((W.setCell ⟨g, j1, none⟩ x1).setCell ⟨g, j2, none⟩ x2).setCell ⟨g, j3, none⟩ x3).setCell ⟨g, j4, none⟩ x4) b1 b2 b3 u1 u2 u3 u4 u5 u6 u7 u8 u9 :=
  cells9_heap x (heap_set4 _ _ _ _ h1 h1 h1 h1) (heap_set4 _ _ _ _ h2 h2 h2 h2) (heap_set4 _ _ _ _ h3 h3 h3 h3)

set_option maxHeartbeats 2000000 in
set_option maxRecDepth 100000 in
theorem renS_walk (F Y E : Nat) (fr d : Int) (hf0 : 0 ≤ fr) (hf1 : fr ≤ 9999) (hd0 : -9999 ≤ d) (hd1 : d ≤ 9999) (hF : F ≠ E) (hY : Y ≠ E) (f : Nat)
    (ih : ∀ (o h n b e : Int) (v : Value) (l : List Tm) (w : World), Tm.sz (.mk o h n l) ≤ f → Tm.sz (.mk o h n l) ≤ 600 → Tm.nums (.mk o h n l) = true → 0 ≤ b → b + (Tm.sz (.mk o h n l) : Int) ≤ 20000 → Lies w (· ≠ E) v l → ShSt F Y E fr d w e →
      Calls Try.prog 91 #[.agg #[.int .i64 o, .int .i64 h, .int .i64 n, v], .int .i64 b, .func (.func 92) #[] #[.pointer (some ⟨F, 0, none⟩), .pointer (some ⟨Y, 0, none⟩), .pointer (some ⟨E, 0, none⟩)]] w (RenS F Y E fr d w b (.mk o h n l) e))
    (o h n b e : Int) (v : Value) (l : List Tm) (w : World) (hf : Tm.sz (.mk o h n l) ≤ f + 1) (h6 : Tm.sz (.mk o h n l) ≤ 600) (hn : Tm.nums (.mk o h n l) = true) (hb0 : 0 ≤ b) (hb1 : b + (Tm.sz (.mk o h n l) : Int) ≤ 20000) (hv : Lies w (· ≠ E) v l) (hs : ShSt F Y E fr d w e) :
    Calls Try.prog 91 #[.agg #[.int .i64 o, .int .i64 h, .int .i64 n, v], .int .i64 b, .func (.func 92) #[] #[.pointer (some ⟨F, 0, none⟩), .pointer (some ⟨Y, 0, none⟩), .pointer (some ⟨E, 0, none⟩)]] w (RenS F Y E fr d w b (.mk o h n l) e) := by
  obtain ⟨ao, bb, off, len, cap, oo, hh, kk, sv, ts, rfl, R⟩ := hv.open
  have hr := R.hr
  have hl := R.hl
  have HL := Lib.hid R.length
  have hnb := Tm.nums_n hn
  have HNL := Lib.hid (Tm.nums_l hn)
  have HS := Lib.hid hs
  have HE : E < w.heap.size := lt_of_block hs.s
  have hszp := Tm.sz_pos (.mk o h n l)
  have call1 := fun (w1 : World) (hs1 : ShSt F Y E fr d w1 e) => shift1_any o h n ao len cap b fr d e F Y E w1 hb0 (by omega) hnb.1 hnb.2 hf0 hf1 hd0 hd1 hs1 hF hY
  obtain ⟨nn, hnn⟩ : ∃ nn, nn = shF d fr b o h n := ⟨_, rfl⟩
  obtain ⟨e1, he1⟩ : ∃ e1, e1 = shG d fr b o h n e := ⟨_, rfl⟩
  rw [← hnn, ← he1] at call1
  have HNN := Lib.hid hnn
  have HE1 := Lib.hid he1
  have HN := Lib.hid hn
  clear hv hs hn hnn he1
  go_enter Try.func91, Try.ntmps91
  go_upto_region 1 with fail
  go_cut [7] (fun p wx => ∃ G : Nat, p = .pointer (some ⟨G, 0, none⟩) ∧ CutR F Y E fr d w o h n nn ao len cap e1 G wx)
  case first =>
    have hbb := two_below w (.cells #[.int .i64 o, .int .i64 h, .int .i64 n, .slice ao len cap] 24) (.cells #[.int .i64 0, .int .i64 0, .int .i64 0, .slice none 0 0] 24)
    have hbE : w.heap.size ≠ E := by omega
    have hWE : w.heap.size + 1 + 1 ≠ E := by omega
    have hbW : w.heap.size ≠ w.heap.size + 1 + 1 := by omega
    have hbz := hbb.drew.alloc (by have := hbb.size; simpa using this) (.cells #[.int .i64 0, .int .i64 0, .int .i64 0, .slice none 0 0] 24)
    have hS0 : Cells4 ((w.alloc (.cells #[.int .i64 o, .int .i64 h, .int .i64 n, .slice ao len cap] 24)).alloc (.cells #[.int .i64 0, .int .i64 0, .int .i64 0, .slice none 0 0] 24)).drew w.heap.size (.int .i64 o) (.int .i64 h) (.int .i64 n) (.slice ao len cap) := by
      refine keep4 (Below.refl _ _).drew ?_
      refine keep4 ((Below.refl _ _).alloc (Nat.le_refl _) _) ?_
      exact ⟨by rw [World.cell?_alloc_at _ _ _ _ rfl]; rfl, by rw [World.cell?_alloc_at _ _ _ _ rfl]; rfl, by rw [World.cell?_alloc_at _ _ _ _ rfl]; rfl, by rw [World.cell?_alloc_at _ _ _ _ rfl]; rfl⟩
    have hS1 : Cells4 (((w.alloc (.cells #[.int .i64 o, .int .i64 h, .int .i64 n, .slice ao len cap] 24)).alloc (.cells #[.int .i64 0, .int .i64 0, .int .i64 0, .slice none 0 0] 24)).alloc (.cells #[.int .i64 0, .int .i64 0, .int .i64 0, .slice none 0 0] 24)).drew w.heap.size (.int .i64 o) (.int .i64 h) (.int .i64 n) (.slice ao len cap) := by
      refine keep4 (Below.refl _ _).drew ?_
      refine keep4 ((Below.refl _ _).alloc (Nat.le_refl _) _) ?_
      exact hS0
    go_region_held3 (fun w' => w'.cell? ⟨w.heap.size, 0, none⟩ = some (.int .i64 o) ∧ w'.cell? ⟨w.heap.size, 1, none⟩ = some (.int .i64 h) ∧ w'.cell? ⟨w.heap.size, 2, none⟩ = some (.int .i64 n) ∧ w'.cell? ⟨w.heap.size, 3, none⟩ = some (.slice ao len cap))
      (first | (with_reducible exact hS0) | (with_reducible exact hS1) | (with_reducible exact keepO hbE ho1 hS0) | (with_reducible exact keepO hbE ho1 hS1) | (with_reducible exact keep4 ((Below.refl _ _).alloc (Nat.le_refl _) _) (keepO hbE ho1 hS0)) | (with_reducible exact keepH (heap_set4 _ _ _ _ hbW hbW hbW hbW) (keepO hbE ho1 hS1)))
      (first | (go_at_call 92; (with_reducible refine (call1 _ ?_).mono ?_); (exact HS.out.below hbb.drew); rintro e w1 ⟨rfl, hs1, ho1⟩) | (go_at_call 92; (with_reducible refine (call1 _ ?_).mono ?_); (exact HS.out.below hbz); rintro e w1 ⟨rfl, hs1, ho1⟩; have z := Lib.hid (newO (s := w.heap.size + 1 + 1) ho1 (by simp) hWE); have z0 := cell_in z.out 0 _ rfl; have z1 := cell_in z.out 1 _ rfl; have z2 := cell_in z.out 2 _ rfl; have z3 := cell_in z.out 3 _ rfl; have f0 := free_in z.out 0; have f1 := free_in z.out 1; have f2 := free_in z.out 2; have f3 := free_in z.out 3))
    · go_wp2_with fail
      go_meet
      case rel => exact ⟨_, rfl, cutA HE hs1 ho1⟩
    · go_wp2_with fail
      go_meet
      case rel => exact ⟨_, rfl, cutB HE z.out hs1 ho1⟩
  case rest =>
    obtain ⟨G, rfl, hcut⟩ := hcut
    have HC := Lib.hid hcut
    clear hcut
    have bx3 := cell_in HC.out.box 3 (.slice ao len cap) rfl
    have y0 := cell_in HC.out.res 0 (.int .i64 0) rfl
    have y1 := cell_in HC.out.res 1 (.int .i64 0) rfl
    have y2 := cell_in HC.out.res 2 (.int .i64 0) rfl
    have y3 := cell_in HC.out.res 3 (.slice none 0 0) rfl
    have yf0 := free_in HC.out.res 0
    have yf1 := free_in HC.out.res 1
    have yf2 := free_in HC.out.res 2
    have yf3 := free_in HC.out.res 3
    have g0 := cell_in HC.out.dot 0 (.int .i64 o) rfl
    have g1 := cell_in HC.out.dot 1 (.int .i64 h) rfl
    have g2 := cell_in HC.out.dot 2 (.int .i64 nn) rfl
    have g3 := cell_in HC.out.dot 3 (.slice none 0 0) rfl
    have gf3 := free_in HC.out.dot 3
    by_cases hlen : len = 0
    · subst hlen
      go_wp2
      refine wp_loop_rounds 1 ?_
      rw [rounds_succ]
      go_wp2
      have hz := set4_at HC.out.res (.int .i64 o) (.int .i64 h) (.int .i64 nn) (.slice none 0 0)
      have z0 := cell_in hz 0 (.int .i64 o) rfl
      have z1 := cell_in hz 1 (.int .i64 h) rfl
      have z2 := cell_in hz 2 (.int .i64 nn) rfl
      have z3 := cell_in hz 3 (.slice none 0 0) rfl
      have hl0 : l = [] := List.eq_nil_of_length_eq_zero HL.out
      subst hl0
      have hoth : ∀ k, k ≠ w.heap.size + 1 → ((((wc.setCell ⟨w.heap.size + 1, 0, none⟩ (.int .i64 o)).setCell ⟨w.heap.size + 1, 1, none⟩ (.int .i64 h)).setCell ⟨w.heap.size + 1, 2, none⟩ (.int .i64 nn)).setCell ⟨w.heap.size + 1, 3, none⟩ (.slice none 0 0)).heap[k]? = wc.heap[k]? := fun k hk => heap_set4 _ _ _ _ hk hk hk hk
      have hFw := lt_of_block HS.out.f
      have hYw := lt_of_block HS.out.y
      refine bodyPost_ret (v := .agg #[.int .i64 o, .int .i64 h, .int .i64 nn, .slice none 0 0]) (by simp [results, Try.results91, go_sem, z0, z1, z2, z3]) rfl (renS_post HNN.out HE1.out (Lies.nil _ _) ?_ ?_)
      · exact HC.out.st.other (by omega) (by omega) (by omega) hoth
      · exact (((HC.out.only.new (by simp) _).new (by simp) _).new (by simp) _).new (by simp) _
    · have hlen0 : 0 < len := by omega
      obtain ⟨i0, hi0, hz0, hz1, hz2⟩ := info_parts tm_info
      have hlen6 : len ≤ 600 := by have := Tm.length_le_szL l; simp only [Tm.sz] at h6; rw [HL.out] at this; omega
      have hbase : w.heap.size + 2 ≤ wc.heap.size := by have := lt_of_block HC.out.dot; have := HC.out.le; omega
      have hm2 : i0.bytes * len ≤ 281474976710656 := by rw [hz2]; omega
      have hm3 : len ≤ maxLen := by unfold maxLen; omega
      have HM2 := Lib.hid hm2
      have HM3 := Lib.hid hm3
      clear hm2 hm3
      go_wp2_with (first | (at_make; refine wpList_make_full _ rfl (.tmp 25) (.tmp 25) 22 rfl (w.heap.size + 2) 24 i0 (.agg #[.int .i64 0, .int .i64 0, .int .i64 0, .slice none 0 0]) 4 Try.underlying22 hi0 hz0 hz1 .i64 .i64 len len len rfl rfl rfl rfl HM2.out HM3.out hbase ?_; intro w2 hown hgrow; have hb2 := below_grown hgrow; have hc2 := Lib.hid (HC.out.below hb2); have bx4 := cell_in hc2.out.box 3 (.slice ao len cap) rfl; have g4 := cell_in hc2.out.dot 3 (.slice none 0 0) rfl; have gf4 := free_in hc2.out.dot 3; have bx5 := cell_in ((Below.heap_setCell w2 ⟨G, 3, none⟩ (.slice (some ⟨wc.heap.size, 0, none⟩) len len) w.heap.size (by have := hc2.out.le; show w.heap.size ≠ G; omega)).trans hc2.out.box) 3 (.slice ao len cap) rfl))
      have hFw := lt_of_block HS.out.f
      have hYw := lt_of_block HS.out.y
      have hGg : G < wc.heap.size := lt_of_block HC.out.dot
      obtain ⟨vs0, hfill⟩ := FillR.start (b := b) (l := l) HE HL.out hc2.out hFw hYw hGg hown
      have HF0 := Lib.hid hfill
      clear hfill hown
      go_loopw [31] (fun i wr => ∃ k : Nat, k ≤ len ∧ i = .int .i64 k ∧ ∃ vs, FillR F Y E fr d w o h n nn b ao len cap l e1 G wc.heap.size k vs wr) (fun i _ => len - (intOf i).toNat)
      case atStart => exact ⟨0, Nat.zero_le _, rfl, vs0, HF0.out⟩
      case round =>
        clear bx3 y0 y1 y2 y3 yf0 yf1 yf2 yf3 g0 g1 g2 g3 gf3 bx4 g4 gf4 bx5 HF0 HM2 HM3 hb2 hgrow
        obtain ⟨k, hk, rfl, vs, M⟩ := hrel
        by_cases hlt : k < len
        · obtain rfl := R.hao (by omega)
          obtain ⟨d0, d1, d2, d3, hsub⟩ := R.atO M.only k hlt
          obtain ⟨a2, n2, m2, hs2⟩ := hsub.isSlice
          rw [hs2] at d3 hsub
          clear hs2
          have hszk := R.size hf k hlt
          have hs6 := R.size_lt (x := o) (y := h) (z := n) k hlt
          have hnk := Tm.numsL_mem HNL.out (R.mem k hlt)
          have hbl := Tm.belowN_bd o k
          have hkl : k < l.length := by rw [HL.out]; exact hlt
          have hrt := Tm.renTo_step (shF d fr) b o l k hkl
          have het := Tm.errTo_step (shG d fr) b o l k hkl e1
          rw [R.get k hlt] at hrt het
          have HRT := Lib.hid hrt
          have HET := Lib.hid het
          have HNK := Lib.hid hnk
          have HM := Lib.hid M
          have hGE : G ≠ E := by have := M.le; omega
          have hwE : w.heap.size ≠ E := by omega
          have hrE : wr.heap.size ≠ E := by have := M.only.size; omega
          have hGg' : G ≠ wc.heap.size := by omega
          have hwg : w.heap.size ≠ wc.heap.size := by omega
          have hrg : wr.heap.size ≠ wc.heap.size := by have := M.row.lt; omega
          have hk0 : (0 : Int) ≤ (k : Int) := by omega
          have hk1 : (k : Int) < (len : Int) := by omega
          have hbn0 : 0 ≤ b + Tm.belowN o k := by omega
          have hbn1 : b + Tm.belowN o k + (Tm.sz (.mk (oo k) (hh k) (kk k) (ts k)) : Int) ≤ 20000 := by omega
          have hs7 : Tm.sz (.mk (oo k) (hh k) (kk k) (ts k)) ≤ 600 := by omega
          have hb2 : b ≤ 20000 := by omega
          have hbX : Below wr.heap.size wr (wr.alloc (.cells #[.int .i64 (oo k), .int .i64 (hh k), .int .i64 (kk k), .slice a2 n2 m2] 24)).drew := ((Below.refl _ _).alloc (Nat.le_refl _) _).drew
          have hx0 : Cells9 (wr.alloc (.cells #[.int .i64 (oo k), .int .i64 (hh k), .int .i64 (kk k), .slice a2 n2 m2] 24)).drew G wr.heap.size w.heap.size (.slice (some ⟨wc.heap.size, 0, none⟩) len len) (.int .i64 (oo k)) (.int .i64 (hh k)) (.int .i64 (kk k)) (.slice a2 n2 m2) (.int .i64 o) (.int .i64 h) (.int .i64 n) (.slice (some ⟨bb, off, none⟩) len cap) := by
            have e1 := heap_kept hbX M.dot
            have e3 := heap_kept hbX M.box
            have e2 : (wr.alloc (.cells #[.int .i64 (oo k), .int .i64 (hh k), .int .i64 (kk k), .slice a2 n2 m2] 24)).drew.heap[wr.heap.size]? = some (.cells #[.int .i64 (oo k), .int .i64 (hh k), .int .i64 (kk k), .slice a2 n2 m2] 24 (0, 0)) := heap_alloc_new wr _
            exact ⟨cell_in e1 3 _ rfl, cell_in e2 0 _ rfl, cell_in e2 1 _ rfl, cell_in e2 2 _ rfl, cell_in e2 3 _ rfl, cell_in e3 0 _ rfl, cell_in e3 1 _ rfl, cell_in e3 2 _ rfl, cell_in e3 3 _ rfl⟩
          have hkr := Lib.hid (show k < (Tm.renTo (shF d fr) b o l k ++ List.replicate (len - k) Tm.zero).length by rw [FillR.lenk M hk]; exact hlt)
          clear M hrt het hnk R
          go_wp2_with fail
          clear d0 d1 d2 d3
          go_region_held3 (fun W => W.cell? ⟨G, 3, none⟩ = some (.slice (some ⟨wc.heap.size, 0, none⟩) len len) ∧ W.cell? ⟨wr.heap.size, 0, none⟩ = some (.int .i64 (oo k)) ∧ W.cell? ⟨wr.heap.size, 1, none⟩ = some (.int .i64 (hh k)) ∧ W.cell? ⟨wr.heap.size, 2, none⟩ = some (.int .i64 (kk k)) ∧ W.cell? ⟨wr.heap.size, 3, none⟩ = some (.slice a2 n2 m2) ∧ W.cell? ⟨w.heap.size, 0, none⟩ = some (.int .i64 o) ∧ W.cell? ⟨w.heap.size, 1, none⟩ = some (.int .i64 h) ∧ W.cell? ⟨w.heap.size, 2, none⟩ = some (.int .i64 n) ∧ W.cell? ⟨w.heap.size, 3, none⟩ = some (.slice (some ⟨bb, off, none⟩) len cap))
            (first | (with_reducible exact hx0) | (with_reducible exact cells9_below hb3 hx0) | (with_reducible exact cells9_only hGE hrE hwE ho4 (cells9_below hb3 hx0)) | (with_reducible exact cells9_set hGg' hrg hwg (cells9_only hGE hrE hwE ho4 (cells9_below hb3 hx0))))
            (first | (go_at_call 96; (with_reducible refine (belowT_any o h n _ len cap k b _ hb0 hb2).mono ?_); rintro e w3 ⟨rfl, hb3⟩; have hd3 := hbX.trans (hb3.mono hbX.size)) | (go_at_call 91; (with_reducible refine (ih (oo k) (hh k) (kk k) (b + Tm.belowN o k) (Tm.errTo (shG d fr) b o l k e1) (.slice a2 n2 m2) (ts k) _ hszk hs7 HNK.out hbn0 hbn1 ?_ ?_).mono ?_); (exact hsub.keep (by assumption)); (exact HM.out.st.below (by assumption)); rintro e w4 ⟨v', rfl, ho4, hs4, hx⟩; obtain ⟨a3, n3, m3, rfl⟩ := hx.isSlice; have hOO := Lib.hid ((Only.below hd3 E).trans ho4); have hrw := Lib.hid (FillR.rowO HE HM.out hOO.out); obtain ⟨⟨q0, p0⟩, ⟨q1, p1⟩, ⟨q2, p2⟩, ⟨q3, p3⟩⟩ := RowF.cells hrw.out k hkr.out; have f0 := RowF.free hrw.out (k * 4); have f1 := RowF.free hrw.out (k * 4 + 1); have f2 := RowF.free hrw.out (k * 4 + 2); have f3 := RowF.free hrw.out (k * 4 + 3)))
          go_wp2
          go_roundw
          case rel => exact ⟨k + 1, by omega, by go_num, FillR.step (t' := Tm.ren (shF d fr) (b + Tm.belowN o k) (.mk (oo k) (hh k) (kk k) (ts k))) HE HM.out hlt hFw hYw hOO.out (by rw [HET.out]; exact hs4) HRT.out (hx.more fun _ _ hS => Nat.le_trans hd3.size hS) (ren_fit HNK.out hd0 hd1)⟩
          case measure => simp [intOf]; omega
        · obtain rfl : k = len := by omega
          have HM := Lib.hid M
          have hGw := M.le
          have y0 := cell_in M.res 0 (.int .i64 0) rfl
          have y1 := cell_in M.res 1 (.int .i64 0) rfl
          have y2 := cell_in M.res 2 (.int .i64 0) rfl
          have y3 := cell_in M.res 3 (.slice none 0 0) rfl
          have yf0 := free_in M.res 0
          have yf1 := free_in M.res 1
          have yf2 := free_in M.res 2
          have yf3 := free_in M.res 3
          have g0 := cell_in M.dot 0 (.int .i64 o) rfl
          have g1 := cell_in M.dot 1 (.int .i64 h) rfl
          have g2 := cell_in M.dot 2 (.int .i64 nn) rfl
          have g3 := cell_in M.dot 3 (.slice (some ⟨wc.heap.size, 0, none⟩) k k) rfl
          have hz := set4_at M.res (.int .i64 o) (.int .i64 h) (.int .i64 nn) (.slice (some ⟨wc.heap.size, 0, none⟩) k k)
          have z0 := cell_in hz 0 (.int .i64 o) rfl
          have z1 := cell_in hz 1 (.int .i64 h) rfl
          have z2 := cell_in hz 2 (.int .i64 nn) rfl
          have z3 := cell_in hz 3 (.slice (some ⟨wc.heap.size, 0, none⟩) k k) rfl
          have ha1 := Tm.renTo_all (shF d fr) b o l k (by rw [HL.out]; exact Nat.le_refl _)
          have ha2 := Tm.errTo_all (shG d fr) b o l k (by rw [HL.out]; exact Nat.le_refl _) e1
          have HA1 := Lib.hid ha1
          have HA2 := Lib.hid ha2
          have HZ := Lib.hid (And.intro z0 (And.intro z1 (And.intro z2 z3)))
          clear M hz ha1 ha2 z0 z1 z2 z3
          go_wp2
          obtain ⟨z0, z1, z2, z3⟩ := HZ.out
          have hoth : ∀ j, j ≠ w.heap.size + 1 → ((((wr.setCell ⟨w.heap.size + 1, 0, none⟩ (.int .i64 o)).setCell ⟨w.heap.size + 1, 1, none⟩ (.int .i64 h)).setCell ⟨w.heap.size + 1, 2, none⟩ (.int .i64 nn)).setCell ⟨w.heap.size + 1, 3, none⟩ (.slice (some ⟨wc.heap.size, 0, none⟩) k k)).heap[j]? = wr.heap[j]? := fun j hj => heap_set4 _ _ _ _ hj hj hj hj
          refine bodyPost_ret (v := .agg #[.int .i64 o, .int .i64 h, .int .i64 nn, .slice (some ⟨wc.heap.size, 0, none⟩) k k]) (by simp [results, Try.results91, go_sem, z0, z1, z2, z3]) rfl (renS_post HNN.out HE1.out ?_ ?_ ?_)
          · rw [← HA1.out]
            have hrow := HM.out.row
            rw [Nat.sub_self, List.replicate_zero, List.append_nil] at hrow
            have hly := hrow.lies
            rw [Tm.renTo_length _ _ _ _ _ (by rw [HL.out]; exact Nat.le_refl _)] at hly
            exact (hly.more (S' := fun j => w.heap.size + 2 ≤ j) fun j _ hS => hS).still (fun j hS _ => hoth j (by omega)) |>.more fun j _ hS => by omega
          · rw [← HA2.out]; exact HM.out.st.other (by omega) (by omega) (by omega) hoth
          · exact (((HM.out.only.new (by simp) _).new (by simp) _).new (by simp) _).new (by simp) _

theorem renS_calls (F Y E : Nat) (fr d : Int) (hf0 : 0 ≤ fr) (hf1 : fr ≤ 9999) (hd0 : -9999 ≤ d) (hd1 : d ≤ 9999) (hF : F ≠ E) (hY : Y ≠ E) : ∀ (f : Nat) (o h n b e : Int) (v : Value) (l : List Tm) (w : World), Tm.sz (.mk o h n l) ≤ f → Tm.sz (.mk o h n l) ≤ 600 → Tm.nums (.mk o h n l) = true → 0 ≤ b → b + (Tm.sz (.mk o h n l) : Int) ≤ 20000 → Lies w (· ≠ E) v l → ShSt F Y E fr d w e →
      Calls Try.prog 91 #[.agg #[.int .i64 o, .int .i64 h, .int .i64 n, v], .int .i64 b, .func (.func 92) #[] #[.pointer (some ⟨F, 0, none⟩), .pointer (some ⟨Y, 0, none⟩), .pointer (some ⟨E, 0, none⟩)]] w (RenS F Y E fr d w b (.mk o h n l) e)
  | 0, o, h, n, _, _, _, l, _, hf, _, _, _, _, _, _ => by have := Tm.sz_pos (.mk o h n l); omega
  | f + 1, o, h, n, b, e, v, l, w, hf, h6, hn, hb0, hb1, hv, hs => renS_walk F Y E fr d hf0 hf1 hd0 hd1 hF hY f (renS_calls F Y E fr d hf0 hf1 hd0 hd1 hF hY f) o h n b e v l w hf h6 hn hb0 hb1 hv hs

end Go.Proofs.Ytieakippgeehgaa

namespace Go.Proofs.Ytieakippgeehgaa
open Go.RowKit
set_option linter.unusedSimpArgs false
set_option linter.unusedVariables false

/-- are the arguments of Shift valid? -/
def shiftArgs (d fr : Int) (t : Tm) : Bool := Tm.proper t && decide (-9999 ≤ d) && decide (d ≤ 9999) && decide (0 ≤ fr) && decide (fr ≤ 9999)
/-- what Shift returns: a term and an error -/
def shiftOut (d fr : Int) (t : Tm) : Tm × Int :=
  if shiftArgs d fr t then (if Tm.errT (shG d fr) 0 t 0 = 0 then (Tm.ren (shF d fr) 0 t, 0) else (Tm.zero, Tm.errT (shG d fr) 0 t 0)) else (Tm.zero, 2)

/-- A call gives a term in new memory, and an error. -/
def GivesE (w : World) (x : Tm × Int) (e : Ending) (w' : World) : Prop :=
  ∃ v, e = .returned (.tuple #[.agg #[.int .i64 x.1.op, .int .i64 x.1.hd, .int .i64 x.1.n, v], .int .i64 x.2]) ∧ Below w.heap.size w w' ∧ Lies w' (w.heap.size ≤ ·) v x.1.args

theorem four_blocks (w : World) (c1 c2 c3 c4 : Array Value) (t1 t2 t3 t4 : TypeId) :
    ((((w.alloc (.cells c1 t1)).alloc (.cells c2 t2)).alloc (.cells c3 t3)).alloc (.cells c4 t4)).heap[w.heap.size]? = some (.cells c1 t1 (0, 0)) ∧
    ((((w.alloc (.cells c1 t1)).alloc (.cells c2 t2)).alloc (.cells c3 t3)).alloc (.cells c4 t4)).heap[w.heap.size + 1]? = some (.cells c2 t2 (0, 0)) ∧
    ((((w.alloc (.cells c1 t1)).alloc (.cells c2 t2)).alloc (.cells c3 t3)).alloc (.cells c4 t4)).heap[w.heap.size + 1 + 1]? = some (.cells c3 t3 (0, 0)) ∧
    ((((w.alloc (.cells c1 t1)).alloc (.cells c2 t2)).alloc (.cells c3 t3)).alloc (.cells c4 t4)).heap[w.heap.size + 1 + 1 + 1]? = some (.cells c4 t4 (0, 0)) ∧
    Below w.heap.size w ((((w.alloc (.cells c1 t1)).alloc (.cells c2 t2)).alloc (.cells c3 t3)).alloc (.cells c4 t4)) ∧ ((((w.alloc (.cells c1 t1)).alloc (.cells c2 t2)).alloc (.cells c3 t3)).alloc (.cells c4 t4)).heap.size = w.heap.size + 4 := by
  have h2 := two_blocks w c1 c2 t1 t2
  have h3 := two_blocks ((w.alloc (.cells c1 t1)).alloc (.cells c2 t2)) c3 c4 t3 t4
  have e2 : ((w.alloc (.cells c1 t1)).alloc (.cells c2 t2)).heap.size = w.heap.size + 1 + 1 := by simp
  rw [e2] at h3
  refine ⟨?_, ?_, h3.1, h3.2, (two_below w _ _).trans ((two_below _ _ _).mono (by rw [e2]; omega)), by simp⟩
  · rw [(two_below _ _ _).block _ (by rw [e2]; omega)]; exact h2.1
  · rw [(two_below _ _ _).block _ (by rw [e2]; omega)]; exact h2.2

theorem givesE_zero {w w' : World} {x : Int} {y : Tm × Int} (hy : y = (Tm.zero, x)) (hb : Below w.heap.size w w') : GivesE w y (.returned (.tuple #[.agg #[.int .i64 0, .int .i64 0, .int .i64 0, .slice none 0 0], .int .i64 x])) w' := by
  subst hy
  exact ⟨_, rfl, hb, Lies.nil _ _⟩

set_option maxHeartbeats 2000000 in
set_option maxRecDepth 100000 in
theorem shift_bad (o h n d fr : Int) (v : Value) (l : List Tm) (w : World) (hv : Lies w (fun _ => True) v l) (e : shiftArgs d fr (.mk o h n l) = false) (hd : I64 d) (hf : I64 fr) :
    Calls Try.prog 82 #[.agg #[.int .i64 o, .int .i64 h, .int .i64 n, v], .int .i64 d, .int .i64 fr] w (GivesE w (shiftOut d fr (.mk o h n l))) := by
  obtain ⟨a2, n2, m2, rfl⟩ := hv.isSlice
  have hy : shiftOut d fr (.mk o h n l) = (Tm.zero, 2) := by unfold shiftOut; rw [e]; rfl
  have HY := Lib.hid hy
  have H4 := Lib.hid (four_blocks w #[.int .i64 o, .int .i64 h, .int .i64 n, .slice a2 n2 m2] #[.int .i64 d] #[.int .i64 fr] #[.int .i64 0, .int .i64 0, .int .i64 0, .slice none 0 0] 24 3 3 24)
  have call := isProper_any o h n _ l _ (hv.keep H4.out.2.2.2.2.1)
  have ways : Tm.proper (.mk o h n l) = false ∨ (Tm.proper (.mk o h n l) = true ∧ d < -9999) ∨ (Tm.proper (.mk o h n l) = true ∧ -9999 ≤ d ∧ 9999 < d) ∨ (Tm.proper (.mk o h n l) = true ∧ -9999 ≤ d ∧ d ≤ 9999 ∧ fr < 0) ∨ (Tm.proper (.mk o h n l) = true ∧ -9999 ≤ d ∧ d ≤ 9999 ∧ 0 ≤ fr ∧ 9999 < fr) := by
    unfold shiftArgs at e
    rcases hp : Tm.proper (.mk o h n l) with _ | _
    · exact .inl rfl
    · right
      rw [hp] at e
      simp only [Bool.true_and, Bool.and_eq_false_iff, decide_eq_false_iff_not] at e
      simp only [true_and]
      omega
  clear hy e hv
  rcases ways with hp | ⟨hp, k1⟩ | ⟨hp, k1, k2⟩ | ⟨hp, k1, k2, k3⟩ | ⟨hp, k1, k2, k3, k4⟩
  all_goals
    rw [hp] at call
    clear hp
    go_enter Try.func82, Try.ntmps82
    go_wp2_with (go_at_call 83; (with_reducible refine call.mono ?_); rintro e w1 ⟨rfl, hb1⟩; have r1 := cell_of_one (heap_kept hb1 H4.out.2.1); have r2 := cell_of_one (heap_kept hb1 H4.out.2.2.1); have hz := Lib.hid (heap_kept hb1 H4.out.2.2.2.1); have z0 := cell_in hz.out 0 (.int .i64 0) rfl; have z1 := cell_in hz.out 1 (.int .i64 0) rfl; have z2 := cell_in hz.out 2 (.int .i64 0) rfl; have z3 := cell_in hz.out 3 (.slice none 0 0) rfl; have f0 := free_in hz.out 0; have f1 := free_in hz.out 1; have f2 := free_in hz.out 2; have f3 := free_in hz.out 3)
    have hq := set4_at hz.out (.int .i64 0) (.int .i64 0) (.int .i64 0) (.slice none 0 0)
    have q0 := cell_in hq 0 (.int .i64 0) rfl
    have q1 := cell_in hq 1 (.int .i64 0) rfl
    have q2 := cell_in hq 2 (.int .i64 0) rfl
    have q3 := cell_in hq 3 (.slice none 0 0) rfl
    have hbw : Below w.heap.size w w1 := H4.out.2.2.2.2.1.trans (hb1.mono (by have := H4.out.2.2.2.2.2; omega))
    refine bodyPost_ret (v := .tuple #[.agg #[.int .i64 0, .int .i64 0, .int .i64 0, .slice none 0 0], .int .i64 2]) (by simp [results, Try.results82, go_sem, q0, q1, q2, q3]) rfl (givesE_zero HY.out ?_)
    exact (((hbw.setCell (by simp; omega) _).setCell (by simp; omega) _).setCell (by simp; omega) _).setCell (by simp; omega) _

set_option maxHeartbeats 4000000 in
set_option maxRecDepth 100000 in
theorem shift_good (o h n d fr : Int) (v : Value) (l : List Tm) (w : World) (hv : Lies w (fun _ => True) v l) (hp : Tm.proper (.mk o h n l) = true) (hd0 : -9999 ≤ d) (hd1 : d ≤ 9999) (hf0 : 0 ≤ fr) (hf1 : fr ≤ 9999) :
    Calls Try.prog 82 #[.agg #[.int .i64 o, .int .i64 h, .int .i64 n, v], .int .i64 d, .int .i64 fr] w (GivesE w (shiftOut d fr (.mk o h n l))) := by
  obtain ⟨a2, n2, m2, rfl⟩ := hv.isSlice
  have hsa : shiftArgs d fr (.mk o h n l) = true := by simp [shiftArgs, hp, hd0, hd1, hf0, hf1]
  have H4 := Lib.hid (four_blocks w #[.int .i64 o, .int .i64 h, .int .i64 n, .slice a2 n2 m2] #[.int .i64 d] #[.int .i64 fr] #[.int .i64 0, .int .i64 0, .int .i64 0, .slice none 0 0] 24 3 3 24)
  have call := isProper_any o h n _ l _ (hv.keep H4.out.2.2.2.2.1)
  rw [hp] at call
  have h6 := Tm.proper_sz hp
  have hnum : Tm.nums (.mk o h n l) = true := by
    unfold Tm.proper at hp
    simp only [Bool.and_eq_true] at hp
    exact Tm.nums_of_formed _ 1 hp.2
  obtain ⟨x, hx⟩ : ∃ x, x = Tm.errT (shG d fr) 0 (.mk o h n l) 0 := ⟨_, rfl⟩
  obtain ⟨t', ht'⟩ : ∃ t', t' = Tm.ren (shF d fr) 0 (.mk o h n l) := ⟨_, rfl⟩
  have hy : shiftOut d fr (.mk o h n l) = if x = 0 then (t', 0) else (Tm.zero, x) := by unfold shiftOut; rw [hsa, ← hx, ← ht']; rfl
  have call2 : ∀ (E : Nat) (w2 : World), Lies w2 (· ≠ E) (.slice a2 n2 m2) l → w.heap.size + 1 + 1 ≠ E → w.heap.size + 1 ≠ E → ShSt (w.heap.size + 1 + 1) (w.heap.size + 1) E fr d w2 0 →
      Calls Try.prog 91 #[.agg #[.int .i64 o, .int .i64 h, .int .i64 n, .slice a2 n2 m2], .int .i64 0, .func (.func 92) #[] #[.pointer (some ⟨w.heap.size + 1 + 1, 0, none⟩), .pointer (some ⟨w.heap.size + 1, 0, none⟩), .pointer (some ⟨E, 0, none⟩)]] w2
        fun e' w' => ∃ v', e' = .returned (.agg #[.int .i64 t'.op, .int .i64 t'.hd, .int .i64 t'.n, v']) ∧ Only E w2 w' ∧ ShSt (w.heap.size + 1 + 1) (w.heap.size + 1) E fr d w' x ∧ Lies w' (w2.heap.size ≤ ·) v' t'.args := by
    intro E w2 hl h1 h2 hs
    have c := renS_calls (w.heap.size + 1 + 1) (w.heap.size + 1) E fr d hf0 hf1 hd0 hd1 h1 h2 _ o h n 0 0 _ l w2 (Nat.le_refl _) h6 hnum (by omega) (by omega) hl hs
    rw [hx, ht']
    exact c
  have HY := Lib.hid hy
  have HX := Lib.hid hx
  have HV := Lib.hid hv
  clear hy hx ht' hv hp hsa hnum h6
  go_enter Try.func82, Try.ntmps82
  go_wp2_with (go_at_call 83; (with_reducible refine call.mono ?_); rintro e w1 ⟨rfl, hb1⟩; have r1 := cell_of_one (heap_kept hb1 H4.out.2.1); have r2 := cell_of_one (heap_kept hb1 H4.out.2.2.1); have hbx := Lib.hid (heap_kept ((Below.refl _ _).alloc (Nat.le_refl _) (.cells #[.int .i64 0] 30)) (heap_kept hb1 H4.out.1)); have z0 := cell_in hbx.out 0 (.int .i64 o) rfl; have z1 := cell_in hbx.out 1 (.int .i64 h) rfl; have z2 := cell_in hbx.out 2 (.int .i64 n) rfl; have z3 := cell_in hbx.out 3 (.slice a2 n2 m2) rfl)
  have hbw : Below w.heap.size w w1 := H4.out.2.2.2.2.1.trans (hb1.mono (by have := H4.out.2.2.2.2.2; omega))
  have hsz : w.heap.size + 4 ≤ w1.heap.size := by have := hb1.size; have := H4.out.2.2.2.2.2; omega
  have hba := (Below.refl w1.heap.size w1).alloc (Nat.le_refl _) (.cells #[.int .i64 0] 30)
  have hst : ShSt (w.heap.size + 1 + 1) (w.heap.size + 1) w1.heap.size fr d (w1.alloc (.cells #[.int .i64 0] 30)) 0 :=
    ⟨heap_kept hba (heap_kept hb1 H4.out.2.2.1), heap_kept hba (heap_kept hb1 H4.out.2.1), heap_alloc_new _ _⟩
  have call3 := call2 w1.heap.size (w1.alloc (.cells #[.int .i64 0] 30)) ((((HV.out.more (S' := fun b => b < w.heap.size) fun b hb _ => hb).keep hbw).keep hba).more fun b _ hS => by show b ≠ _; omega) (by omega) (by omega) hst
  have HR := Lib.hid (heap_kept hb1 H4.out.2.2.2.1)
  clear call2 r1 r2 hst
  have HA := Lib.hid hba
  clear hba
  by_cases hx0 : x = 0
  · subst hx0
    go_wp2_with (go_at_call 91; (with_reducible refine call3.mono ?_); rintro e w2 ⟨v', rfl, ho2, hs2, hx⟩; obtain ⟨a3, n3, m3, rfl⟩ := hx.isSlice; have hbz := Lib.hid ((Below.refl w2.heap.size w2).alloc (Nat.le_refl _) (.cells #[.int .i64 t'.op, .int .i64 t'.hd, .int .i64 t'.n, .slice a3 n3 m3] 24)); have ce := cell_of_one (heap_kept hbz.out hs2.s); have hry := Lib.hid (heap_kept hbz.out ((ho2.block (w.heap.size + 1 + 1 + 1) (by simp; omega) (by omega)).trans (heap_kept HA.out HR.out))); have y0 := cell_in hry.out 0 (.int .i64 0) rfl; have y1 := cell_in hry.out 1 (.int .i64 0) rfl; have y2 := cell_in hry.out 2 (.int .i64 0) rfl; have y3 := cell_in hry.out 3 (.slice none 0 0) rfl; have f0 := free_in hry.out 0; have f1 := free_in hry.out 1; have f2 := free_in hry.out 2; have f3 := free_in hry.out 3)
    have hq := set4_at hry.out (.int .i64 t'.op) (.int .i64 t'.hd) (.int .i64 t'.n) (.slice a3 n3 m3)
    have q0 := cell_in hq 0 (.int .i64 t'.op) rfl
    have q1 := cell_in hq 1 (.int .i64 t'.hd) rfl
    have q2 := cell_in hq 2 (.int .i64 t'.n) rfl
    have q3 := cell_in hq 3 (.slice a3 n3 m3) rfl
    have hs2z : w1.heap.size + 1 ≤ w2.heap.size := by have := ho2.size; simpa using this
    have hbb := ((ho2.fresh ((Below.refl w.heap.size w).trans (hbw.trans (HA.out.mono (by omega)))) (by omega)).trans (hbz.out.mono (by omega)))
    have hoth : ∀ j, j ≠ w.heap.size + 1 + 1 + 1 → _ := fun j hj => heap_set4 (w := w2.alloc (.cells #[.int .i64 t'.op, .int .i64 t'.hd, .int .i64 t'.n, .slice a3 n3 m3] 24)) (p1 := ⟨w.heap.size + 1 + 1 + 1, 0, none⟩) (p2 := ⟨w.heap.size + 1 + 1 + 1, 1, none⟩) (p3 := ⟨w.heap.size + 1 + 1 + 1, 2, none⟩) (p4 := ⟨w.heap.size + 1 + 1 + 1, 3, none⟩) (.int .i64 t'.op) (.int .i64 t'.hd) (.int .i64 t'.n) (.slice a3 n3 m3) hj hj hj hj
    refine bodyPost_ret (v := .tuple #[.agg #[.int .i64 t'.op, .int .i64 t'.hd, .int .i64 t'.n, .slice a3 n3 m3], .int .i64 0]) (by simp [results, Try.results82, go_sem, q0, q1, q2, q3]) rfl ?_
    rw [show shiftOut d fr (.mk o h n l) = (t', 0) from by rw [HY.out]; simp]
    refine ⟨_, rfl, (((hbb.setCell (by simp; omega) _).setCell (by simp; omega) _).setCell (by simp; omega) _).setCell (by simp; omega) _, ?_⟩
    have hlx := (hx.keep hbz.out).more (S' := fun b => w1.heap.size + 1 ≤ b) (fun b _ hS => by simpa using hS)
    exact (hlx.still fun j hS _ => hoth j (by omega)).more fun j _ hS => by omega
  · have hxb : (x != 0) = true := by rw [bne_iff_ne]; exact hx0
    have hnz : Hid (¬ x = 0) := hx0
    clear hx0
    go_wp2_with (go_at_call 91; (with_reducible refine call3.mono ?_); rintro e w2 ⟨v', rfl, ho2, hs2, hx⟩; obtain ⟨a3, n3, m3, rfl⟩ := hx.isSlice; have hbz := Lib.hid ((Below.refl w2.heap.size w2).alloc (Nat.le_refl _) (.cells #[.int .i64 t'.op, .int .i64 t'.hd, .int .i64 t'.n, .slice a3 n3 m3] 24)); have ce := cell_of_one (heap_kept hbz.out hs2.s); have hry := Lib.hid (heap_kept hbz.out ((ho2.block (w.heap.size + 1 + 1 + 1) (by simp; omega) (by omega)).trans (heap_kept HA.out HR.out))); have y0 := cell_in hry.out 0 (.int .i64 0) rfl; have y1 := cell_in hry.out 1 (.int .i64 0) rfl; have y2 := cell_in hry.out 2 (.int .i64 0) rfl; have y3 := cell_in hry.out 3 (.slice none 0 0) rfl; have f0 := free_in hry.out 0; have f1 := free_in hry.out 1; have f2 := free_in hry.out 2; have f3 := free_in hry.out 3)
    go_region
    all_goals go_wp2
    have hq := set4_at hry.out (.int .i64 0) (.int .i64 0) (.int .i64 0) (.slice none 0 0)
    have q0 := cell_in hq 0 (.int .i64 0) rfl
    have q1 := cell_in hq 1 (.int .i64 0) rfl
    have q2 := cell_in hq 2 (.int .i64 0) rfl
    have q3 := cell_in hq 3 (.slice none 0 0) rfl
    have hs2z : w1.heap.size + 1 ≤ w2.heap.size := by have := ho2.size; simpa using this
    have hbb := ((ho2.fresh ((Below.refl w.heap.size w).trans (hbw.trans (HA.out.mono (by omega)))) (by omega)).trans (hbz.out.mono (by omega)))
    refine bodyPost_ret (v := .tuple #[.agg #[.int .i64 0, .int .i64 0, .int .i64 0, .slice none 0 0], .int .i64 x]) (by simp [results, Try.results82, go_sem, q0, q1, q2, q3]) rfl (givesE_zero (by rw [HY.out, if_neg hnz.out]) ?_)
    exact ((((hbb.setCell (by simp; omega) _).setCell (by simp; omega) _).setCell (by simp; omega) _).setCell (by simp; omega) _).drew

theorem shift_any (o h n d fr : Int) (v : Value) (l : List Tm) (w : World) (hv : Lies w (fun _ => True) v l) (hd : I64 d) (hf : I64 fr) :
    Calls Try.prog 82 #[.agg #[.int .i64 o, .int .i64 h, .int .i64 n, v], .int .i64 d, .int .i64 fr] w (GivesE w (shiftOut d fr (.mk o h n l))) := by
  rcases e : shiftArgs d fr (.mk o h n l) with _ | _
  · exact shift_bad o h n d fr v l w hv e hd hf
  · simp only [shiftArgs, Bool.and_eq_true, decide_eq_true_eq] at e
    exact shift_good o h n d fr v l w hv e.1.1.1.1 e.1.1.1.2 e.1.1.2 e.1.2 e.2

end Go.Proofs.Ytieakippgeehgaa

namespace Go.Proofs.Ytieakippgeehgaa
open Go.RowKit
set_option linter.unusedSimpArgs false
set_option linter.unusedVariables false

theorem Lies.one {w : World} {S : Nat → Prop} {o h n : Int} {v : Value} {l : List Tm} {b : Nat} {t : TypeId} (hb : w.heap[b]? = some (.cells #[.int .i64 o, .int .i64 h, .int .i64 n, v] t (0, 0))) (hS : S b) (ho : I64 o) (hh : I64 h) (hn : I64 n) (hv : Lies w S v l) :
    Lies w S (.slice (some ⟨b, 0, none⟩) 1 1) [.mk o h n l] := by
  have row := Lies.row (w := w) (S := S) (some ⟨b, 0, none⟩) b 0 1 1 (fun _ => o) (fun _ => h) (fun _ => n) (fun _ => v) (fun _ => l) (fun _ => rfl) (fun _ => hS) (Nat.le_refl _) (by omega)
    (fun i hi => by obtain rfl : i = 0 := by omega
                    exact cell_in hb 0 _ rfl) (fun i hi => by obtain rfl : i = 0 := by omega
                                                              exact cell_in hb 1 _ rfl)
    (fun i hi => by obtain rfl : i = 0 := by omega
                    exact cell_in hb 2 _ rfl) (fun i hi => by obtain rfl : i = 0 := by omega
                                                              exact cell_in hb 3 _ rfl)
    (fun _ _ => ho) (fun _ _ => hh) (fun _ _ => hn) (fun _ _ => hv)
  simpa using row

theorem below_next {w a b : World} (h : Below w.heap.size w a) (hb : Below a.heap.size a b) : Below w.heap.size w b := h.trans (hb.mono h.size)
theorem below_al {w a : World} (h : Below w.heap.size w a) (o : Obj) : Below w.heap.size w (a.alloc o) := h.alloc h.size o
theorem i64_small {n : Int} (h0 : 0 ≤ n) (h1 : n ≤ 1000000) : I64 n := ⟨by omega, by omega⟩
end Go.Proofs.Ytieakippgeehgaa
