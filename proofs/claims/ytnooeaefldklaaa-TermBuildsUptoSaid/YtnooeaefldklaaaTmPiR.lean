/- The contract of the reference's Pi. -/
import Derived.Test.YtnooeaefldklaaaTmJoin
import Derived.Test.YtnooeaefldklaaaTmArrow
import Derived.Test.YtnooeaefldklaaaTmSplitP
import Derived.Test.YtnooeaefldklaaaTmBackP
namespace Go.Proofs.Ytnooeaefldklaaa
open Go.RowKit
set_option linter.unusedSimpArgs false
set_option linter.unusedVariables false

/-- A call gives a term: what was in S, or new blocks. -/
def GivesS (S : Nat → Prop) (w : World) (t : Tm) (e : Ending) (w' : World) : Prop :=
  ∃ a n m, e = .returned (.agg #[.int .i64 t.op, .int .i64 t.hd, .int .i64 t.n, .slice a n m]) ∧ Below w.heap.size w w' ∧ Lies w' (fun b => S b ∨ w.heap.size ≤ b) (.slice a n m) t.args
theorem heap_at {X : World} {ob : Obj} {k : Nat} (h : X.heap.size = k) : (X.alloc ob).heap[k]? = some ob := by
  subst h; exact heap_alloc_new X ob

set_option maxHeartbeats 2000000 in
set_option maxRecDepth 100000 in
theorem pi_any (S : Nat → Prop) (a b : Tm) (v v' : Value) (w : World) (hv : Lies w S v a.args) (hv' : Lies w S v' b.args) (fa : a.fit) (fb : b.fit) :
    Calls Try.prog 63 #[.agg #[.int .i64 a.op, .int .i64 a.hd, .int .i64 a.n, v], .agg #[.int .i64 b.op, .int .i64 b.hd, .int .i64 b.n, v']] w (GivesS S w (Tm.pi a b)) := by
  obtain ⟨a2, n2, m2, rfl⟩ := hv.isSlice
  obtain ⟨a3, n3, m3, rfl⟩ := hv'.isSlice
  have H3 := Lib.hid (three_blocks w #[.int .i64 a.op, .int .i64 a.hd, .int .i64 a.n, .slice a2 n2 m2] #[.int .i64 b.op, .int .i64 b.hd, .int .i64 b.n, .slice a3 n3 m3] #[.int .i64 2, .int .i64 0, .int .i64 0, .slice (some ⟨w.heap.size + 1 + 1 + 1, 0, none⟩) 2 2] 24 24 24)
  have HV := Lib.hid hv
  have HV' := Lib.hid hv'
  clear hv hv'
  go_enter Try.func63, Try.ntmps63
  go_wp2_with fail
  generalize hW : ((w.alloc (.cells #[.int .i64 a.op, .int .i64 a.hd, .int .i64 a.n, .slice a2 n2 m2] 24)).alloc (.cells #[.int .i64 b.op, .int .i64 b.hd, .int .i64 b.n, .slice a3 n3 m3] 24)).alloc (.cells #[.int .i64 2, .int .i64 0, .int .i64 0, .slice (some ⟨w.heap.size + 1 + 1 + 1, 0, none⟩) 2 2] 24) = W at H3 ⊢
  obtain ⟨_, _, h2, hb, hs⟩ := H3.out
  have hn := heap_at (X := W) (ob := .cells #[.int .i64 a.op, .int .i64 a.hd, .int .i64 a.n, .slice a2 n2 m2, .int .i64 b.op, .int .i64 b.hd, .int .i64 b.n, .slice a3 n3 m3] 24) hs
  have h1 := one_below W (.cells #[.int .i64 a.op, .int .i64 a.hd, .int .i64 a.n, .slice a2 n2 m2, .int .i64 b.op, .int .i64 b.hd, .int .i64 b.n, .slice a3 n3 m3] 24)
  have hB := hb.trans (h1.mono hb.size)
  obtain ⟨z0, z1, z2, z3⟩ := cells4_of (heap_kept h1 h2)
  refine bodyPost_ret (v := .agg #[.int .i64 2, .int .i64 0, .int .i64 0, .slice (some ⟨w.heap.size + 1 + 1 + 1, 0, none⟩) 2 2]) (by simp [results, Try.results63, go_sem, z0, z1, z2, z3]) rfl ⟨_, _, _, rfl, hB, ?_⟩
  exact Lies.two (S := fun b => S b ∨ w.heap.size ≤ b) (.inr (by omega)) hn fa fb ((HV.out.keep hB).more fun _ _ h => .inl h) ((HV'.out.keep hB).more fun _ _ h => .inl h)

/-- what the reference's Arrow returns -/
theorem arrowOut_ref (a b : Tm) : arrowOut a b = if Tm.proper a && Tm.proper b then joinEnd (Tm.pi a (Tm.moved 1 0 b)) else (Tm.zero, 2) := by
  unfold arrowOut
  rcases ha : Tm.proper a with _ | _
  · rfl
  · rcases hb : Tm.proper b with _ | _
    · rfl
    · simp only [Bool.and_self, if_true]
      rw [shift_same, shiftRef_up hb (by omega) (by omega) (by omega) (by omega)]
      rcases hq : Tm.proper (Tm.moved 1 0 b) with _ | _
      · have hn : ¬ Tm.proper (Tm.pi a (Tm.moved 1 0 b)) = true := by
          intro h
          unfold Tm.proper at h
          simp only [Bool.and_eq_true, decide_eq_true_eq] at h
          obtain ⟨h1, h2⟩ := h
          unfold Tm.pi at h1 h2
          simp only [Tm.formed, Tm.formedL, Bool.and_eq_true, decide_eq_true_eq] at h2
          simp [Tm.sz, Tm.szL] at h1
          have hd := Tm.formed_down _ 1 h2.2.2.1
          have : Tm.proper (Tm.moved 1 0 b) = true := Tm.proper_of (by omega) hd
          rw [hq] at this; cases this
        unfold joinEnd
        rw [if_neg hn]; simp
      · simp only [if_true]
        have h1 : ([a].all Tm.proper && Tm.proper (Tm.moved 1 0 b)) = true := by simp [ha, hq]
        unfold joinOut
        rw [if_pos h1, if_neg (by simp)]
        rfl

namespace Tm
mutual
/-- no operator in it is 0 -/
def nz : Tm → Bool
  | .mk o _ _ l => (o != 0) && nzL l
def nzL : List Tm → Bool
  | [] => true
  | t :: l => nz t && nzL l
end
theorem nzL_all : ∀ l : List Tm, nzL l = l.all nz
  | [] => rfl
  | t :: l => by simp only [nzL, List.all_cons, nzL_all l]
mutual
theorem nz_formed : ∀ (t : Tm) (d : Nat), formed t d = true → nz t = true
  | .mk o h n l, d, hf => by
    simp only [formed, Bool.and_eq_true] at hf
    simp only [nz, Bool.and_eq_true, bne_iff_ne]
    refine ⟨fun e => ?_, nzL_formed l (d + 1) hf.2⟩
    rw [e] at hf
    have := hf.1.2
    simp [headOk] at this
theorem nzL_formed : ∀ (l : List Tm) (d : Nat), formedL l d = true → nzL l = true
  | [], _, _ => rfl
  | t :: l, d, hf => by
    simp only [formedL, Bool.and_eq_true] at hf
    simp [nzL, nz_formed t d hf.1, nzL_formed l d hf.2]
end
mutual
theorem nz_moved (a : Int) : ∀ (t : Tm) (b : Int), nz (moved a b t) = nz t
  | .mk o h n l, b => by simp only [moved, nz, nzL_moved a l b o 0]
theorem nzL_moved (a : Int) : ∀ (l : List Tm) (b o : Int) (i : Nat), nzL (movedL a b o i l) = nzL l
  | [], _, _, _ => rfl
  | t :: l, b, o, i => by simp only [movedL, nzL, nz_moved a t, nzL_moved a l b o (i + 1)]
end
end Tm
/-- what has no operator 0 does not lie in a block that holds the zero term -/
theorem Lies.shunN {W W' : World} {S : Nat → Prop} {z : Nat} (hz : ∀ j u, W.cell? ⟨z, j, none⟩ = some u → j ≤ 3 ∧ (j = 0 → u = .int .i64 0)) (hk : ∀ b j u, b ≠ z → W.cell? ⟨b, j, none⟩ = some u → W'.cell? ⟨b, j, none⟩ = some u) {v : Value} {l : List Tm} (h : Lies W S v l) : Tm.nzL l = true → Lies W' S v l := by
  induction h with
  | row ao b off len cap o h k sv ts hao hS hl hr c0 c1 c2 c3 r0 r1 r2 _ ih =>
    intro hf
    have hfi : ∀ i, i < len → Tm.nz (.mk (o i) (h i) (k i) (ts i)) = true := by
      intro i hi
      rw [Tm.nzL_all, List.all_eq_true] at hf
      exact hf _ (List.mem_map.2 ⟨i, List.mem_range.2 hi, rfl⟩)
    have hbz : ∀ i, i < len → b ≠ z := by
      rintro i hi rfl
      have h3 := (hz _ _ (c3 i hi)).1
      have h0 := (hz _ _ (c0 i hi)).2 (by omega)
      simp only [Value.int.injEq, true_and] at h0
      have := hfi i hi
      simp [Tm.nz, h0] at this
    exact .row ao b off len cap o h k sv ts hao hS hl hr (fun i hi => hk _ _ _ (hbz i hi) (c0 i hi)) (fun i hi => hk _ _ _ (hbz i hi) (c1 i hi)) (fun i hi => hk _ _ _ (hbz i hi) (c2 i hi)) (fun i hi => hk _ _ _ (hbz i hi) (c3 i hi)) r0 r1 r2
      (fun i hi => ih i hi (by have := hfi i hi; simp only [Tm.nz, Bool.and_eq_true] at this; exact this.2))
end Go.Proofs.Ytnooeaefldklaaa
