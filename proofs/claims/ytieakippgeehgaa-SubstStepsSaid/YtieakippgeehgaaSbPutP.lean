/- The reference's apply: what its regions read; put where it is full. -/
import Derived.Test.YtieakippgeehgaaSbPutT
import Derived.Test.YtieakippgeehgaaSbGb
namespace Go.Proofs.Ytieakippgeehgaa.Sb
open Go.RowKit
set_option linter.unusedSimpArgs false
set_option linter.unusedVariables false

theorem tmTail {w : World} {S : Nat → Prop} {ao ao' : Option Addr} {b off len cap : Nat} {o h k : Nat → Int} {sv : Nat → Value} {ts : Nat → List Tm} {l : List Tm} (R : RowAt w S ao b off len cap o h k sv ts l) (h0 : 0 < len) (ha : 0 < len - 1 → ao' = some ⟨b, off + 4, none⟩) :
    Lies w S (.slice ao' (len - 1) (cap - 1)) l.tail := by
  obtain ⟨n, rfl⟩ : ∃ n, len = n + 1 := ⟨len - 1, by omega⟩
  have e : l.tail = (List.range n).map fun i => .mk (o (i + 1)) (h (i + 1)) (k (i + 1)) (ts (i + 1)) := by
    rw [R.isRow, List.range_succ_eq_map]; simp
  have h := Lies.row (w := w) (S := S) ao' b (off + 4) n (cap - 1) (fun i => o (i + 1)) (fun i => h (i + 1)) (fun i => k (i + 1)) (fun i => sv (i + 1)) (fun i => ts (i + 1)) ha (fun _ => R.hS (by omega)) (by have := R.hl; omega) (by have := R.hr; omega)
    (fun i hi => by have := R.c0 (i + 1) (by omega); rwa [show off + (i + 1) * 4 = off + 4 + i * 4 by omega] at this)
    (fun i hi => by have := R.c1 (i + 1) (by omega); rwa [show off + (i + 1) * 4 + 1 = off + 4 + i * 4 + 1 by omega] at this)
    (fun i hi => by have := R.c2 (i + 1) (by omega); rwa [show off + (i + 1) * 4 + 2 = off + 4 + i * 4 + 2 by omega] at this)
    (fun i hi => by have := R.c3 (i + 1) (by omega); rwa [show off + (i + 1) * 4 + 3 = off + 4 + i * 4 + 3 by omega] at this)
    (fun i hi => R.r0 (i + 1) (by omega)) (fun i hi => R.r1 (i + 1) (by omega)) (fun i hi => R.r2 (i + 1) (by omega)) (fun i hi => R.sub (i + 1) (by omega))
  rw [e]; exact h

theorem GivesR.stored {Sf : Nat → Prop} {w w1 w2 : World} {C X : Nat} {r : Out Tm} {e : Ending} (hG : GivesR (fun b => Sf b ∧ b ≠ X) w1 C r e w2) (hX : w.heap.size ≤ X) (hC : C < w.heap.size) (h1 : Only C w w1) (u0 u1 u2 u3 : Value) :
    GivesR Sf w C r e ((((w2.setCell ⟨X, 0, none⟩ u0).setCell ⟨X, 1, none⟩ u1).setCell ⟨X, 2, none⟩ u2).setCell ⟨X, 3, none⟩ u3) := by
  have ho : Only C w w2 → Only C w ((((w2.setCell ⟨X, 0, none⟩ u0).setCell ⟨X, 1, none⟩ u1).setCell ⟨X, 2, none⟩ u2).setCell ⟨X, 3, none⟩ u3) := fun h =>
    (((h.new (p := ⟨X, 0, none⟩) hX _).new (p := ⟨X, 1, none⟩) hX _).new (p := ⟨X, 2, none⟩) hX _).new (p := ⟨X, 3, none⟩) hX _
  unfold GivesR at hG ⊢
  rcases r with ⟨t, c⟩ | x
  · obtain ⟨v, rfl, h2, hc, L⟩ := hG
    exact ⟨v, rfl, ho (h1.trans h2), (set4_other _ _ _ _ (by omega)).trans hc, (L.still fun b hS _ => set4_other _ _ _ _ hS.2).more fun b _ hS => hS.1⟩
  · obtain ⟨rfl, h2⟩ := hG
    exact ⟨rfl, ho (h1.trans h2)⟩

/-- what the region of apply's put reads -/
abbrev CellsPa (W : World) (T b bo p po E q qo : Nat) (ta e0 e1 e2 e3 a0 a1 a2 a3 s0 q0 q1 : Value) : Prop :=
  W.cell? ⟨T, 3, none⟩ = some ta ∧ W.cell? ⟨b, bo, none⟩ = some e0 ∧ W.cell? ⟨b, bo + 1, none⟩ = some e1 ∧ W.cell? ⟨b, bo + 2, none⟩ = some e2 ∧ W.cell? ⟨b, bo + 3, none⟩ = some e3 ∧
  W.cell? ⟨p, po, none⟩ = some a0 ∧ W.cell? ⟨p, po + 1, none⟩ = some a1 ∧ W.cell? ⟨p, po + 2, none⟩ = some a2 ∧ W.cell? ⟨p, po + 3, none⟩ = some a3 ∧ W.cell? ⟨E, 0, none⟩ = some s0 ∧ W.cell? ⟨q, qo, none⟩ = some q0 ∧ W.cell? ⟨q, qo + 1, none⟩ = some q1
/-- what the region of apply's apply reads -/
abbrev CellsPb (W : World) (X E : Nat) (x0 x1 x2 x3 s0 s1 : Value) : Prop :=
  W.cell? ⟨X, 0, none⟩ = some x0 ∧ W.cell? ⟨X, 1, none⟩ = some x1 ∧ W.cell? ⟨X, 2, none⟩ = some x2 ∧ W.cell? ⟨X, 3, none⟩ = some x3 ∧ W.cell? ⟨E, 0, none⟩ = some s0 ∧ W.cell? ⟨E, 1, none⟩ = some s1
section
variable {W W' : World} {T b bo p po E q qo C X : Nat} {ta e0 e1 e2 e3 a0 a1 a2 a3 s0 s1 q0 q1 x0 x1 x2 x3 : Value}
theorem cellsPa_by (hT : W'.heap[T]? = W.heap[T]?) (hb : W'.heap[b]? = W.heap[b]?) (hp : W'.heap[p]? = W.heap[p]?) (hE : W'.heap[E]? = W.heap[E]?) (hq : W'.heap[q]? = W.heap[q]?) (x : CellsPa W T b bo p po E q qo ta e0 e1 e2 e3 a0 a1 a2 a3 s0 q0 q1) : CellsPa W' T b bo p po E q qo ta e0 e1 e2 e3 a0 a1 a2 a3 s0 q0 q1 := by
  have go : ∀ k, W'.heap[k]? = W.heap[k]? → ∀ j u, W.cell? ⟨k, j, none⟩ = some u → W'.cell? ⟨k, j, none⟩ = some u := fun k hk j u e => by rw [World.cell?_of_block (w := W) hk]; exact e
  obtain ⟨y1, y2, y3, y4, y5, y6, y7, y8, y9, y10, y11, y12⟩ := x
  exact ⟨go _ hT _ _ y1, go _ hb _ _ y2, go _ hb _ _ y3, go _ hb _ _ y4, go _ hb _ _ y5, go _ hp _ _ y6, go _ hp _ _ y7, go _ hp _ _ y8, go _ hp _ _ y9, go _ hE _ _ y10, go _ hq _ _ y11, go _ hq _ _ y12⟩
theorem cellsPa_below (hb : Below W.heap.size W W') (x : CellsPa W T b bo p po E q qo ta e0 e1 e2 e3 a0 a1 a2 a3 s0 q0 q1) : CellsPa W' T b bo p po E q qo ta e0 e1 e2 e3 a0 a1 a2 a3 s0 q0 q1 := by
  obtain ⟨y1, y2, y3, y4, y5, y6, y7, y8, y9, y10, y11, y12⟩ := x
  exact ⟨kept_cell hb y1, kept_cell hb y2, kept_cell hb y3, kept_cell hb y4, kept_cell hb y5, kept_cell hb y6, kept_cell hb y7, kept_cell hb y8, kept_cell hb y9, kept_cell hb y10, kept_cell hb y11, kept_cell hb y12⟩
theorem cellsPa_only (h : T ≠ C ∧ b ≠ C ∧ p ≠ C ∧ E ≠ C ∧ q ≠ C) (l : T < W.heap.size ∧ b < W.heap.size ∧ p < W.heap.size ∧ E < W.heap.size ∧ q < W.heap.size) (ho : Only C W W') (x : CellsPa W T b bo p po E q qo ta e0 e1 e2 e3 a0 a1 a2 a3 s0 q0 q1) : CellsPa W' T b bo p po E q qo ta e0 e1 e2 e3 a0 a1 a2 a3 s0 q0 q1 :=
  cellsPa_by (ho.block _ l.1 h.1) (ho.block _ l.2.1 h.2.1) (ho.block _ l.2.2.1 h.2.2.1) (ho.block _ l.2.2.2.1 h.2.2.2.1) (ho.block _ l.2.2.2.2 h.2.2.2.2) x
theorem cellsPa_four {u0 u1 u2 u3 : Value} (h : T ≠ X ∧ b ≠ X ∧ p ≠ X ∧ E ≠ X ∧ q ≠ X) (x : CellsPa W T b bo p po E q qo ta e0 e1 e2 e3 a0 a1 a2 a3 s0 q0 q1) : CellsPa ((((W.setCell ⟨X, 0, none⟩ u0).setCell ⟨X, 1, none⟩ u1).setCell ⟨X, 2, none⟩ u2).setCell ⟨X, 3, none⟩ u3) T b bo p po E q qo ta e0 e1 e2 e3 a0 a1 a2 a3 s0 q0 q1 :=
  cellsPa_by (set4_other _ _ _ _ h.1) (set4_other _ _ _ _ h.2.1) (set4_other _ _ _ _ h.2.2.1) (set4_other _ _ _ _ h.2.2.2.1) (set4_other _ _ _ _ h.2.2.2.2) x
theorem cellsPb_below (hb : Below W.heap.size W W') (x : CellsPb W X E x0 x1 x2 x3 s0 s1) : CellsPb W' X E x0 x1 x2 x3 s0 s1 := by
  obtain ⟨y1, y2, y3, y4, y5, y6⟩ := x
  exact ⟨kept_cell hb y1, kept_cell hb y2, kept_cell hb y3, kept_cell hb y4, kept_cell hb y5, kept_cell hb y6⟩
theorem cellsPb_only (h : X ≠ C ∧ E ≠ C) (l : X < W.heap.size ∧ E < W.heap.size) (ho : Only C W W') (x : CellsPb W X E x0 x1 x2 x3 s0 s1) : CellsPb W' X E x0 x1 x2 x3 s0 s1 := by
  have go : ∀ k, W'.heap[k]? = W.heap[k]? → ∀ j u, W.cell? ⟨k, j, none⟩ = some u → W'.cell? ⟨k, j, none⟩ = some u := fun k hk j u e => by rw [World.cell?_of_block (w := W) hk]; exact e
  obtain ⟨y1, y2, y3, y4, y5, y6⟩ := x
  have a := ho.block _ l.1 h.1
  have b := ho.block _ l.2 h.2
  exact ⟨go _ a _ _ y1, go _ a _ _ y2, go _ a _ _ y3, go _ a _ _ y4, go _ b _ _ y5, go _ b _ _ y6⟩
end

set_option maxHeartbeats 8000000 in
set_option maxRecDepth 100000 in
theorem putR_full (C : Nat) (s : Tm) (sv Sv : Value) (cn : Int) (Ss : List Sp.Tm) (o h k : Int) (l : List Tm) (n : Int) (c : Nat) (w : World) (tv : Value)
    (htv : Lies w (· ≠ C) tv l) (hsv : Lies w (· ≠ C) sv s.args) (hSv : Sp.Lies w (· ≠ C) Sv Ss) (hC : cntR C c w) (hc : c ≤ 20000) (hc' : 20000 ≤ c) :
    Calls Try.prog 47 #[.pointer (some ⟨C, 0, none⟩), .agg #[.int .i64 o, .int .i64 h, .int .i64 k, tv], .int .i64 n, .agg #[.int .i64 s.op, .int .i64 s.hd, .int .i64 s.n, sv], .agg #[Sv, .int .i64 cn]] w (GivesR (w.heap.size ≤ ·) w C (put (.mk cn Ss) s n (.mk o h k l) c)) := by
  have hput : put (.mk cn Ss) s n (.mk o h k l) c = .er 5 := by rw [put_eq, if_pos hc']
  obtain ⟨a1, n1, m1, rfl⟩ := htv.isSlice
  obtain ⟨a2, n2, m2, rfl⟩ := hsv.isSlice
  obtain ⟨a3, n3, m3, rfl⟩ := hSv.isSlice
  have h4 := four_blocks w #[.int .i64 o, .int .i64 h, .int .i64 k, .slice a1 n1 m1] #[.int .i64 s.op, .int .i64 s.hd, .int .i64 s.n, .slice a2 n2 m2] #[.slice a3 n3 m3, .int .i64 cn] #[.int .i64 0, .int .i64 0, .int .i64 0, .slice none 0 0] 24 24 27 24
  have hC4 := heap_kept h4.2.2.2.2.1 hC
  have hClt := lt_blk hC
  have c0 := cell_in hC4 0 _ rfl
  have f0 := free_in hC4 0
  have hr := (Below.heap_setCell ((((w.alloc (.cells #[.int .i64 o, .int .i64 h, .int .i64 k, .slice a1 n1 m1] 24)).alloc (.cells #[.int .i64 s.op, .int .i64 s.hd, .int .i64 s.n, .slice a2 n2 m2] 24)).alloc (.cells #[.slice a3 n3 m3, .int .i64 cn] 27)).alloc (.cells #[.int .i64 0, .int .i64 0, .int .i64 0, .slice none 0 0] 24)) ⟨C, 0, none⟩ (.int .i64 ((c : Int) + 1)) (w.heap.size + 1 + 1 + 1) (by show w.heap.size + 1 + 1 + 1 ≠ C; omega)).trans h4.2.2.2.1
  obtain ⟨r0, r1, r2, r3⟩ := c4_of hr
  have g0 := free_in hr 0
  have g1 := free_in hr 1
  have g2 := free_in hr 2
  have g3 := free_in hr 3
  have hoo := (Only.below h4.2.2.2.2.1 C).setCell 0 none (.int .i64 ((c : Int) + 1))
  have HR := Lib.hid hr
  have HO := Lib.hid hoo
  have HPT := Lib.hid hput
  have h1 : (20000 : Int) < (c : Int) + 1 := by omega
  clear h4 hC4 htv hsv hSv hC hr hoo hput hc'
  go_enter Try.func47, Try.ntmps47
  go_wp2_with fail
  obtain ⟨z0, z1, z2, z3⟩ := c4_of (set4_at HR.out (.int .i64 0) (.int .i64 0) (.int .i64 0) (.slice none 0 0))
  refine bodyPost_ret (v := .tuple #[.agg #[.int .i64 0, .int .i64 0, .int .i64 0, .slice none 0 0], .int .i64 5]) (by simp [results, Try.results47, go_sem, z0, z1, z2, z3]) rfl ?_
  unfold GivesR
  rw [HPT.out]
  exact ⟨rfl, (((HO.out.new (p := ⟨w.heap.size + 1 + 1 + 1, 0, none⟩) (by simp; omega) _).new (p := ⟨w.heap.size + 1 + 1 + 1, 1, none⟩) (by simp; omega) _).new (p := ⟨w.heap.size + 1 + 1 + 1, 2, none⟩) (by simp; omega) _).new (p := ⟨w.heap.size + 1 + 1 + 1, 3, none⟩) (by simp; omega) _⟩
end Go.Proofs.Ytieakippgeehgaa.Sb
