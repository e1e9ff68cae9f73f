/- The contract of term.Compare: the order of two proper terms, or ErrArg. -/
import Derived.Test.YtnooeaefldklaaaTmOrdF
import Derived.Test.YtnooeaefldklaaaTmSize
import Derived.Test.YtnooeaefldklaaaTmBack
namespace Go.Proofs.Ytnooeaefldklaaa
open Go.RowKit
set_option linter.unusedSimpArgs false
set_option linter.unusedVariables false

def cmpEnd (a b : Tm) : Ending := if Tm.proper a && Tm.proper b then .returned (.tuple #[.int .i64 (Tm.ord a b), .int .i64 0]) else .returned (.tuple #[.int .i64 0, .int .i64 2])

theorem blocks2 {w : World} {x y : Array Value} {t : TypeId} : ((w.alloc (.cells x t)).alloc (.cells y t)).heap[w.heap.size]? = some (.cells x t (0, 0)) ∧ ((w.alloc (.cells x t)).alloc (.cells y t)).heap[w.heap.size + 1]? = some (.cells y t (0, 0)) := by
  constructor
  · exact heap_kept ((Below.refl _ _).alloc (Nat.le_refl _) _) (heap_alloc_new w (.cells x t))
  · have := heap_alloc_new (w.alloc (.cells x t)) (.cells y t)
    simpa using this

set_option maxHeartbeats 1000000 in
set_option maxRecDepth 100000 in
theorem cmpC_t (a b : Tm) (v v' : Value) (w : World) (hv : Lies w (fun _ => True) v a.args) (hv' : Lies w (fun _ => True) v' b.args) :
    Calls Try.prog 44 #[.agg #[.int .i64 a.op, .int .i64 a.hd, .int .i64 a.n, v], .agg #[.int .i64 b.op, .int .i64 b.hd, .int .i64 b.n, v']] w
      fun e w' => e = cmpEnd a b ∧ Below w.heap.size w w' := by
  obtain ⟨a2, n2, m2, rfl⟩ := hv.isSlice
  obtain ⟨a3, n3, m3, rfl⟩ := hv'.isSlice
  have hB0 := two_below w (.cells #[.int .i64 a.op, .int .i64 a.hd, .int .i64 a.n, .slice a2 n2 m2] 24) (.cells #[.int .i64 b.op, .int .i64 b.hd, .int .i64 b.n, .slice a3 n3 m3] 24)
  obtain ⟨hA, hB⟩ := blocks2 (w := w) (x := #[.int .i64 a.op, .int .i64 a.hd, .int .i64 a.n, .slice a2 n2 m2]) (y := #[.int .i64 b.op, .int .i64 b.hd, .int .i64 b.n, .slice a3 n3 m3]) (t := 24)
  have c1 : ∀ w1, Below w.heap.size w w1 → Calls Try.prog 47 #[.agg #[.int .i64 a.op, .int .i64 a.hd, .int .i64 a.n, .slice a2 n2 m2]] w1 fun e w' => e = .returned (.bool (Tm.proper a)) ∧ Below w1.heap.size w1 w' := fun w1 hb => by
    have := isProper_any a.op a.hd a.n _ a.args w1 (hv.keep hb)
    rwa [Tm.eta] at this
  have c2 : ∀ w1, Below w.heap.size w w1 → Calls Try.prog 47 #[.agg #[.int .i64 b.op, .int .i64 b.hd, .int .i64 b.n, .slice a3 n3 m3]] w1 fun e w' => e = .returned (.bool (Tm.proper b)) ∧ Below w1.heap.size w1 w' := fun w1 hb => by
    have := isProper_any b.op b.hd b.n _ b.args w1 (hv'.keep hb)
    rwa [Tm.eta] at this
  have c3 : ∀ w1, Below w.heap.size w w1 → Calls Try.prog 75 #[.agg #[.int .i64 a.op, .int .i64 a.hd, .int .i64 a.n, .slice a2 n2 m2], .agg #[.int .i64 b.op, .int .i64 b.hd, .int .i64 b.n, .slice a3 n3 m3]] w1 fun e w' => e = .returned (.int .i64 (Tm.ord a b)) ∧ Below w1.heap.size w1 w' := fun w1 hb => by
    have := cmpT_calls _ a.op a.hd a.n b.op b.hd b.n _ _ a.args b.args w1 (Nat.le_refl _) (hv.keep hb) (hv'.keep hb)
    rwa [Tm.eta, Tm.eta] at this
  have HA := Lib.hid hA
  have HB := Lib.hid hB
  obtain ⟨p0, p1, p2, p3⟩ := tBlock hA
  clear hv hv' hA hB
  unfold cmpEnd
  rcases hp : Tm.proper a with _ | _
  · rw [hp] at c1
    simp only [Bool.false_and, Bool.false_eq_true, if_false]
    clear hp
    go_enter Try.func44, Try.ntmps44
    go_wp2_with fail
    refine (c1 _ hB0).mono ?_
    rintro e w1 ⟨rfl, hb1⟩
    go_wp2_with fail
    go_ret2
    exact ⟨rfl, below_next hB0 hb1⟩
  · rw [hp] at c1
    rcases hq : Tm.proper b with _ | _
    · rw [hq] at c2
      simp only [Bool.and_false, Bool.false_eq_true, if_false]
      clear hp hq
      go_enter Try.func44, Try.ntmps44
      go_wp2_with fail
      refine (c1 _ hB0).mono ?_
      rintro e w1 ⟨rfl, hb1⟩
      obtain ⟨r0, r1, r2, r3⟩ := tBlock (heap_kept hb1 HB.out)
      have B1 := below_next hB0 hb1
      clear p0 p1 p2 p3
      go_wp2_with fail
      refine (c2 _ B1).mono ?_
      rintro e w2 ⟨rfl, hb2⟩
      go_wp2_with fail
      go_ret2
      exact ⟨rfl, below_next B1 hb2⟩
    · rw [hq] at c2
      simp only [Bool.and_self, if_true]
      clear hp hq
      go_enter Try.func44, Try.ntmps44
      go_wp2_with fail
      refine (c1 _ hB0).mono ?_
      rintro e w1 ⟨rfl, hb1⟩
      obtain ⟨r0, r1, r2, r3⟩ := tBlock (heap_kept hb1 HB.out)
      have B1 := below_next hB0 hb1
      clear p0 p1 p2 p3
      go_wp2_with fail
      refine (c2 _ B1).mono ?_
      rintro e w2 ⟨rfl, hb2⟩
      obtain ⟨s0, s1, s2, s3⟩ := tBlock (heap_kept hb2 (heap_kept hb1 HB.out))
      obtain ⟨t0, t1, t2, t3⟩ := tBlock (heap_kept hb2 (heap_kept hb1 HA.out))
      have B2 := below_next B1 hb2
      clear r0 r1 r2 r3
      go_wp2_with fail
      refine (c3 _ B2).mono ?_
      rintro e w3 ⟨rfl, hb3⟩
      go_wp2_with fail
      go_ret2
      exact ⟨rfl, below_next B2 hb3⟩

end Go.Proofs.Ytnooeaefldklaaa
