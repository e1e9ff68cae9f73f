/- The contract of term.Shift. -/
import Derived.Test.YtomahhdhnlfabaaTmRenS
import Derived.Test.YtomahhdhnlfabaaTmSize
import Derived.Test.YtomahhdhnlfabaaTmOpen
namespace Go.Proofs.Ytomahhdhnlfabaa
open Go.RowKit
set_option linter.unusedSimpArgs false
set_option linter.unusedVariables false

/-- are the arguments of Shift valid? -/
def shiftArgs (d fr : Int) (t : Tm) : Bool := Tm.proper t && decide (-9999 ≤ d) && decide (d ≤ 9999) && decide (0 ≤ fr) && decide (fr ≤ 9999)
/-- what Shift returns: a term and an error -/
def shiftOut (d fr : Int) (t : Tm) : Tm × Int :=
  if shiftArgs d fr t then (if Tm.errT (shG d fr) 0 t 0 = 0 then (Tm.ren (shF d fr) 0 t, 0) else (Tm.zero, Tm.errT (shG d fr) 0 t 0)) else (Tm.zero, 2)

/-- A call gives a term in new memory, and an error. -/
def GivesE (w : World) (x : Tm × Int) (e : Ending) (w' : World) : Prop :=
  ∃ v, e = .returned (.tuple #[.agg #[.int .i64 x.1.op, .int .i64 x.1.hd, .int .i64 x.1.n, v], .int .i64 x.2]) ∧ Below w.heap.size w w' ∧ Lies w' (w.heap.size ≤ ·) v x.1.args

theorem four_blocks (w : World) (c1 c2 c3 c4 : Array Value) (t1 t2 t3 t4 : TypeId) :
    ((((w.alloc (.cells c1 t1)).alloc (.cells c2 t2)).alloc (.cells c3 t3)).alloc (.cells c4 t4)).heap[w.heap.size]? = some (.cells c1 t1 (0, 0)) ∧
    ((((w.alloc (.cells c1 t1)).alloc (.cells c2 t2)).alloc (.cells c3 t3)).alloc (.cells c4 t4)).heap[w.heap.size + 1]? = some (.cells c2 t2 (0, 0)) ∧
    ((((w.alloc (.cells c1 t1)).alloc (.cells c2 t2)).alloc (.cells c3 t3)).alloc (.cells c4 t4)).heap[w.heap.size + 1 + 1]? = some (.cells c3 t3 (0, 0)) ∧
    ((((w.alloc (.cells c1 t1)).alloc (.cells c2 t2)).alloc (.cells c3 t3)).alloc (.cells c4 t4)).heap[w.heap.size + 1 + 1 + 1]? = some (.cells c4 t4 (0, 0)) ∧
    Below w.heap.size w ((((w.alloc (.cells c1 t1)).alloc (.cells c2 t2)).alloc (.cells c3 t3)).alloc (.cells c4 t4)) ∧ ((((w.alloc (.cells c1 t1)).alloc (.cells c2 t2)).alloc (.cells c3 t3)).alloc (.cells c4 t4)).heap.size = w.heap.size + 4 := by
  have h2 := two_blocks w c1 c2 t1 t2
  have h3 := two_blocks ((w.alloc (.cells c1 t1)).alloc (.cells c2 t2)) c3 c4 t3 t4
  have e2 : ((w.alloc (.cells c1 t1)).alloc (.cells c2 t2)).heap.size = w.heap.size + 1 + 1 := by simp
  rw [e2] at h3
  refine ⟨?_, ?_, h3.1, h3.2, (two_below w _ _).trans ((two_below _ _ _).mono (by rw [e2]; omega)), by simp⟩
  · rw [(two_below _ _ _).block _ (by rw [e2]; omega)]; exact h2.1
  · rw [(two_below _ _ _).block _ (by rw [e2]; omega)]; exact h2.2

theorem givesE_zero {w w' : World} {x : Int} {y : Tm × Int} (hy : y = (Tm.zero, x)) (hb : Below w.heap.size w w') : GivesE w y (.returned (.tuple #[.agg #[.int .i64 0, .int .i64 0, .int .i64 0, .slice none 0 0], .int .i64 x])) w' := by
  subst hy
  exact ⟨_, rfl, hb, Lies.nil _ _⟩

set_option maxHeartbeats 2000000 in
set_option maxRecDepth 100000 in
theorem shift_bad (o h n d fr : Int) (v : Value) (l : List Tm) (w : World) (hv : Lies w (fun _ => True) v l) (e : shiftArgs d fr (.mk o h n l) = false) (hd : I64 d) (hf : I64 fr) :
    Calls Try.prog 54 #[.agg #[.int .i64 o, .int .i64 h, .int .i64 n, v], .int .i64 d, .int .i64 fr] w (GivesE w (shiftOut d fr (.mk o h n l))) := by
  obtain ⟨a2, n2, m2, rfl⟩ := hv.isSlice
  have hy : shiftOut d fr (.mk o h n l) = (Tm.zero, 2) := by unfold shiftOut; rw [e]; rfl
  have HY := Lib.hid hy
  have H4 := Lib.hid (four_blocks w #[.int .i64 o, .int .i64 h, .int .i64 n, .slice a2 n2 m2] #[.int .i64 d] #[.int .i64 fr] #[.int .i64 0, .int .i64 0, .int .i64 0, .slice none 0 0] 24 3 3 24)
  have call := isProper_any o h n _ l _ (hv.keep H4.out.2.2.2.2.1)
  have ways : Tm.proper (.mk o h n l) = false ∨ (Tm.proper (.mk o h n l) = true ∧ d < -9999) ∨ (Tm.proper (.mk o h n l) = true ∧ -9999 ≤ d ∧ 9999 < d) ∨ (Tm.proper (.mk o h n l) = true ∧ -9999 ≤ d ∧ d ≤ 9999 ∧ fr < 0) ∨ (Tm.proper (.mk o h n l) = true ∧ -9999 ≤ d ∧ d ≤ 9999 ∧ 0 ≤ fr ∧ 9999 < fr) := by
    unfold shiftArgs at e
    rcases hp : Tm.proper (.mk o h n l) with _ | _
    · exact .inl rfl
    · right
      rw [hp] at e
      simp only [Bool.true_and, Bool.and_eq_false_iff, decide_eq_false_iff_not] at e
      simp only [true_and]
      omega
  clear hy e hv
  rcases ways with hp | ⟨hp, k1⟩ | ⟨hp, k1, k2⟩ | ⟨hp, k1, k2, k3⟩ | ⟨hp, k1, k2, k3, k4⟩
  all_goals
    rw [hp] at call
    clear hp
    go_enter Try.func54, Try.ntmps54
    go_wp2_with (go_at_call 44; (with_reducible refine call.mono ?_); rintro e w1 ⟨rfl, hb1⟩; have r1 := cell_of_one (heap_kept hb1 H4.out.2.1); have r2 := cell_of_one (heap_kept hb1 H4.out.2.2.1); have hz := Lib.hid (heap_kept hb1 H4.out.2.2.2.1); have z0 := cell_in hz.out 0 (.int .i64 0) rfl; have z1 := cell_in hz.out 1 (.int .i64 0) rfl; have z2 := cell_in hz.out 2 (.int .i64 0) rfl; have z3 := cell_in hz.out 3 (.slice none 0 0) rfl; have f0 := free_in hz.out 0; have f1 := free_in hz.out 1; have f2 := free_in hz.out 2; have f3 := free_in hz.out 3)
    have hq := set4_at hz.out (.int .i64 0) (.int .i64 0) (.int .i64 0) (.slice none 0 0)
    have q0 := cell_in hq 0 (.int .i64 0) rfl
    have q1 := cell_in hq 1 (.int .i64 0) rfl
    have q2 := cell_in hq 2 (.int .i64 0) rfl
    have q3 := cell_in hq 3 (.slice none 0 0) rfl
    have hbw : Below w.heap.size w w1 := H4.out.2.2.2.2.1.trans (hb1.mono (by have := H4.out.2.2.2.2.2; omega))
    refine bodyPost_ret (v := .tuple #[.agg #[.int .i64 0, .int .i64 0, .int .i64 0, .slice none 0 0], .int .i64 2]) (by simp [results, Try.results54, go_sem, q0, q1, q2, q3]) rfl (givesE_zero HY.out ?_)
    exact (((hbw.setCell (by simp; omega) _).setCell (by simp; omega) _).setCell (by simp; omega) _).setCell (by simp; omega) _

set_option maxHeartbeats 4000000 in
set_option maxRecDepth 100000 in
theorem shift_good (o h n d fr : Int) (v : Value) (l : List Tm) (w : World) (hv : Lies w (fun _ => True) v l) (hp : Tm.proper (.mk o h n l) = true) (hd0 : -9999 ≤ d) (hd1 : d ≤ 9999) (hf0 : 0 ≤ fr) (hf1 : fr ≤ 9999) :
    Calls Try.prog 54 #[.agg #[.int .i64 o, .int .i64 h, .int .i64 n, v], .int .i64 d, .int .i64 fr] w (GivesE w (shiftOut d fr (.mk o h n l))) := by
  obtain ⟨a2, n2, m2, rfl⟩ := hv.isSlice
  have hsa : shiftArgs d fr (.mk o h n l) = true := by simp [shiftArgs, hp, hd0, hd1, hf0, hf1]
  have H4 := Lib.hid (four_blocks w #[.int .i64 o, .int .i64 h, .int .i64 n, .slice a2 n2 m2] #[.int .i64 d] #[.int .i64 fr] #[.int .i64 0, .int .i64 0, .int .i64 0, .slice none 0 0] 24 3 3 24)
  have call := isProper_any o h n _ l _ (hv.keep H4.out.2.2.2.2.1)
  rw [hp] at call
  have h6 := Tm.proper_sz hp
  have hnum : Tm.nums (.mk o h n l) = true := by
    unfold Tm.proper at hp
    simp only [Bool.and_eq_true] at hp
    exact Tm.nums_of_formed _ 1 hp.2
  obtain ⟨x, hx⟩ : ∃ x, x = Tm.errT (shG d fr) 0 (.mk o h n l) 0 := ⟨_, rfl⟩
  obtain ⟨t', ht'⟩ : ∃ t', t' = Tm.ren (shF d fr) 0 (.mk o h n l) := ⟨_, rfl⟩
  have hy : shiftOut d fr (.mk o h n l) = if x = 0 then (t', 0) else (Tm.zero, x) := by unfold shiftOut; rw [hsa, ← hx, ← ht']; rfl
  have call2 : ∀ (E : Nat) (w2 : World), Lies w2 (· ≠ E) (.slice a2 n2 m2) l → w.heap.size + 1 + 1 ≠ E → w.heap.size + 1 ≠ E → ShSt (w.heap.size + 1 + 1) (w.heap.size + 1) E fr d w2 0 →
      Calls Try.prog 90 #[.agg #[.int .i64 o, .int .i64 h, .int .i64 n, .slice a2 n2 m2], .int .i64 0, .func (.func 91) #[] #[.pointer (some ⟨w.heap.size + 1 + 1, 0, none⟩), .pointer (some ⟨w.heap.size + 1, 0, none⟩), .pointer (some ⟨E, 0, none⟩)]] w2
        fun e' w' => ∃ v', e' = .returned (.agg #[.int .i64 t'.op, .int .i64 t'.hd, .int .i64 t'.n, v']) ∧ Only E w2 w' ∧ ShSt (w.heap.size + 1 + 1) (w.heap.size + 1) E fr d w' x ∧ Lies w' (w2.heap.size ≤ ·) v' t'.args := by
    intro E w2 hl h1 h2 hs
    have c := renS_calls (w.heap.size + 1 + 1) (w.heap.size + 1) E fr d hf0 hf1 hd0 hd1 h1 h2 _ o h n 0 0 _ l w2 (Nat.le_refl _) h6 hnum (by omega) (by omega) hl hs
    rw [hx, ht']
    exact c
  have HY := Lib.hid hy
  have HX := Lib.hid hx
  have HV := Lib.hid hv
  clear hy hx ht' hv hp hsa hnum h6
  go_enter Try.func54, Try.ntmps54
  go_wp2_with (go_at_call 44; (with_reducible refine call.mono ?_); rintro e w1 ⟨rfl, hb1⟩; have r1 := cell_of_one (heap_kept hb1 H4.out.2.1); have r2 := cell_of_one (heap_kept hb1 H4.out.2.2.1); have hbx := Lib.hid (heap_kept ((Below.refl _ _).alloc (Nat.le_refl _) (.cells #[.int .i64 0] 28)) (heap_kept hb1 H4.out.1)); have z0 := cell_in hbx.out 0 (.int .i64 o) rfl; have z1 := cell_in hbx.out 1 (.int .i64 h) rfl; have z2 := cell_in hbx.out 2 (.int .i64 n) rfl; have z3 := cell_in hbx.out 3 (.slice a2 n2 m2) rfl)
  have hbw : Below w.heap.size w w1 := H4.out.2.2.2.2.1.trans (hb1.mono (by have := H4.out.2.2.2.2.2; omega))
  have hsz : w.heap.size + 4 ≤ w1.heap.size := by have := hb1.size; have := H4.out.2.2.2.2.2; omega
  have hba := (Below.refl w1.heap.size w1).alloc (Nat.le_refl _) (.cells #[.int .i64 0] 28)
  have hst : ShSt (w.heap.size + 1 + 1) (w.heap.size + 1) w1.heap.size fr d (w1.alloc (.cells #[.int .i64 0] 28)) 0 :=
    ⟨heap_kept hba (heap_kept hb1 H4.out.2.2.1), heap_kept hba (heap_kept hb1 H4.out.2.1), heap_alloc_new _ _⟩
  have call3 := call2 w1.heap.size (w1.alloc (.cells #[.int .i64 0] 28)) ((((HV.out.more (S' := fun b => b < w.heap.size) fun b hb _ => hb).keep hbw).keep hba).more fun b _ hS => by show b ≠ _; omega) (by omega) (by omega) hst
  have HR := Lib.hid (heap_kept hb1 H4.out.2.2.2.1)
  clear call2 r1 r2 hst
  have HA := Lib.hid hba
  clear hba
  by_cases hx0 : x = 0
  · subst hx0
    go_wp2_with (go_at_call 90; (with_reducible refine call3.mono ?_); rintro e w2 ⟨v', rfl, ho2, hs2, hx⟩; obtain ⟨a3, n3, m3, rfl⟩ := hx.isSlice; have hbz := Lib.hid ((Below.refl w2.heap.size w2).alloc (Nat.le_refl _) (.cells #[.int .i64 t'.op, .int .i64 t'.hd, .int .i64 t'.n, .slice a3 n3 m3] 24)); have ce := cell_of_one (heap_kept hbz.out hs2.s); have hry := Lib.hid (heap_kept hbz.out ((ho2.block (w.heap.size + 1 + 1 + 1) (by simp; omega) (by omega)).trans (heap_kept HA.out HR.out))); have y0 := cell_in hry.out 0 (.int .i64 0) rfl; have y1 := cell_in hry.out 1 (.int .i64 0) rfl; have y2 := cell_in hry.out 2 (.int .i64 0) rfl; have y3 := cell_in hry.out 3 (.slice none 0 0) rfl; have f0 := free_in hry.out 0; have f1 := free_in hry.out 1; have f2 := free_in hry.out 2; have f3 := free_in hry.out 3)
    have hq := set4_at hry.out (.int .i64 t'.op) (.int .i64 t'.hd) (.int .i64 t'.n) (.slice a3 n3 m3)
    have q0 := cell_in hq 0 (.int .i64 t'.op) rfl
    have q1 := cell_in hq 1 (.int .i64 t'.hd) rfl
    have q2 := cell_in hq 2 (.int .i64 t'.n) rfl
    have q3 := cell_in hq 3 (.slice a3 n3 m3) rfl
    have hs2z : w1.heap.size + 1 ≤ w2.heap.size := by have := ho2.size; simpa using this
    have hbb := ((ho2.fresh ((Below.refl w.heap.size w).trans (hbw.trans (HA.out.mono (by omega)))) (by omega)).trans (hbz.out.mono (by omega)))
    have hoth : ∀ j, j ≠ w.heap.size + 1 + 1 + 1 → _ := fun j hj => heap_set4 (w := w2.alloc (.cells #[.int .i64 t'.op, .int .i64 t'.hd, .int .i64 t'.n, .slice a3 n3 m3] 24)) (p1 := ⟨w.heap.size + 1 + 1 + 1, 0, none⟩) (p2 := ⟨w.heap.size + 1 + 1 + 1, 1, none⟩) (p3 := ⟨w.heap.size + 1 + 1 + 1, 2, none⟩) (p4 := ⟨w.heap.size + 1 + 1 + 1, 3, none⟩) (.int .i64 t'.op) (.int .i64 t'.hd) (.int .i64 t'.n) (.slice a3 n3 m3) hj hj hj hj
    refine bodyPost_ret (v := .tuple #[.agg #[.int .i64 t'.op, .int .i64 t'.hd, .int .i64 t'.n, .slice a3 n3 m3], .int .i64 0]) (by simp [results, Try.results54, go_sem, q0, q1, q2, q3]) rfl ?_
    rw [show shiftOut d fr (.mk o h n l) = (t', 0) from by rw [HY.out]; simp]
    refine ⟨_, rfl, (((hbb.setCell (by simp; omega) _).setCell (by simp; omega) _).setCell (by simp; omega) _).setCell (by simp; omega) _, ?_⟩
    have hlx := (hx.keep hbz.out).more (S' := fun b => w1.heap.size + 1 ≤ b) (fun b _ hS => by simpa using hS)
    exact (hlx.still fun j hS _ => hoth j (by omega)).more fun j _ hS => by omega
  · have hxb : (x != 0) = true := by rw [bne_iff_ne]; exact hx0
    have hnz : Hid (¬ x = 0) := hx0
    clear hx0
    go_wp2_with (go_at_call 90; (with_reducible refine call3.mono ?_); rintro e w2 ⟨v', rfl, ho2, hs2, hx⟩; obtain ⟨a3, n3, m3, rfl⟩ := hx.isSlice; have hbz := Lib.hid ((Below.refl w2.heap.size w2).alloc (Nat.le_refl _) (.cells #[.int .i64 t'.op, .int .i64 t'.hd, .int .i64 t'.n, .slice a3 n3 m3] 24)); have ce := cell_of_one (heap_kept hbz.out hs2.s); have hry := Lib.hid (heap_kept hbz.out ((ho2.block (w.heap.size + 1 + 1 + 1) (by simp; omega) (by omega)).trans (heap_kept HA.out HR.out))); have y0 := cell_in hry.out 0 (.int .i64 0) rfl; have y1 := cell_in hry.out 1 (.int .i64 0) rfl; have y2 := cell_in hry.out 2 (.int .i64 0) rfl; have y3 := cell_in hry.out 3 (.slice none 0 0) rfl; have f0 := free_in hry.out 0; have f1 := free_in hry.out 1; have f2 := free_in hry.out 2; have f3 := free_in hry.out 3)
    go_region
    all_goals go_wp2
    have hq := set4_at hry.out (.int .i64 0) (.int .i64 0) (.int .i64 0) (.slice none 0 0)
    have q0 := cell_in hq 0 (.int .i64 0) rfl
    have q1 := cell_in hq 1 (.int .i64 0) rfl
    have q2 := cell_in hq 2 (.int .i64 0) rfl
    have q3 := cell_in hq 3 (.slice none 0 0) rfl
    have hs2z : w1.heap.size + 1 ≤ w2.heap.size := by have := ho2.size; simpa using this
    have hbb := ((ho2.fresh ((Below.refl w.heap.size w).trans (hbw.trans (HA.out.mono (by omega)))) (by omega)).trans (hbz.out.mono (by omega)))
    refine bodyPost_ret (v := .tuple #[.agg #[.int .i64 0, .int .i64 0, .int .i64 0, .slice none 0 0], .int .i64 x]) (by simp [results, Try.results54, go_sem, q0, q1, q2, q3]) rfl (givesE_zero (by rw [HY.out, if_neg hnz.out]) ?_)
    exact ((((hbb.setCell (by simp; omega) _).setCell (by simp; omega) _).setCell (by simp; omega) _).setCell (by simp; omega) _).drew

theorem shift_any (o h n d fr : Int) (v : Value) (l : List Tm) (w : World) (hv : Lies w (fun _ => True) v l) (hd : I64 d) (hf : I64 fr) :
    Calls Try.prog 54 #[.agg #[.int .i64 o, .int .i64 h, .int .i64 n, v], .int .i64 d, .int .i64 fr] w (GivesE w (shiftOut d fr (.mk o h n l))) := by
  rcases e : shiftArgs d fr (.mk o h n l) with _ | _
  · exact shift_bad o h n d fr v l w hv e hd hf
  · simp only [shiftArgs, Bool.and_eq_true, decide_eq_true_eq] at e
    exact shift_good o h n d fr v l w hv e.1.1.1.1 e.1.1.1.2 e.1.1.2 e.1.2 e.2

end Go.Proofs.Ytomahhdhnlfabaa
