/- What the walk of SubstSteps leans on. -/
import Derived.Test.YtieakippgeehgaaSbStM
import Derived.Test.YtieakippgeehgaaSbAwake
import Derived.Test.YtieakippgeehgaaSbMnF
import Derived.Test.YtieakippgeehgaaSbInF
import Derived.Test.YtieakippgeehgaaSmCp0
namespace Go.Proofs.Ytieakippgeehgaa.Sb
open Go.RowKit
set_option linter.unusedSimpArgs false
set_option linter.unusedVariables false

theorem blk_new {X : World} {ob : Obj} {k : Nat} (h : X.heap.size = k) : (X.alloc ob).heap[k]? = some ob := by
  subst h; exact heap_alloc_new X ob
theorem blk_kept {X : World} {ob o' : Obj} {k : Nat} (h : X.heap[k]? = some ob) : (X.alloc o').heap[k]? = some ob := heap_kept (one_below X o') h
theorem blk_drew {X : World} {ob : Obj} {k : Nat} (h : X.heap[k]? = some ob) : X.drew.heap[k]? = some ob := h
theorem old_new {X w10 : World} {ob : Obj} {k : Nat} (hb : Below X.heap.size X w10) (h : X.heap[k]? = some ob) : w10.heap[k]? = some ob ∧ k < X.heap.size := ⟨heap_kept hb h, lt_blk h⟩

theorem below_set4 {n k : Nat} {W X : World} (h : Below n W X) (hk : n ≤ k) (a b c d : Value) : Below n W ((((X.setCell ⟨k, 0, none⟩ a).setCell ⟨k, 1, none⟩ b).setCell ⟨k, 2, none⟩ c).setCell ⟨k, 3, none⟩ d) :=
  (((h.setCell hk _).setCell hk _).setCell hk _).setCell hk _

theorem tmDrop {w : World} {S : Nat → Prop} {ao ao' : Option Addr} {b off len cap : Nat} {o h k : Nat → Int} {sv : Nat → Value} {ts : Nat → List Tm} {l : List Tm} (R : RowAt w S ao b off len cap o h k sv ts l) {m : Nat} (hm : m ≤ len) (ha : 0 < len - m → ao' = some ⟨b, off + m * 4, none⟩) :
    RowAt w S ao' b (off + m * 4) (len - m) (cap - m) (fun i => o (i + m)) (fun i => h (i + m)) (fun i => k (i + m)) (fun i => sv (i + m)) (fun i => ts (i + m)) (l.drop m) :=
  ⟨by rw [R.isRow]
      refine List.ext_getElem (by simp) fun i h1 h2 => ?_
      simp [Nat.add_comm], ha, fun h => R.hS (by omega), by have := R.hl; omega, by have := R.hr; omega,
   fun i hi => by have := R.c0 (i + m) (by omega); rwa [show off + (i + m) * 4 = off + m * 4 + i * 4 by omega] at this,
   fun i hi => by have := R.c1 (i + m) (by omega); rwa [show off + (i + m) * 4 + 1 = off + m * 4 + i * 4 + 1 by omega] at this,
   fun i hi => by have := R.c2 (i + m) (by omega); rwa [show off + (i + m) * 4 + 2 = off + m * 4 + i * 4 + 2 by omega] at this,
   fun i hi => by have := R.c3 (i + m) (by omega); rwa [show off + (i + m) * 4 + 3 = off + m * 4 + i * 4 + 3 by omega] at this,
   fun i hi => R.r0 (i + m) (by omega), fun i hi => R.r1 (i + m) (by omega), fun i hi => R.r2 (i + m) (by omega), fun i hi => R.sub (i + m) (by omega)⟩
theorem tmRow {w : World} {S : Nat → Prop} {ao : Option Addr} {b off len cap : Nat} {o h k : Nat → Int} {sv : Nat → Value} {ts : Nat → List Tm} {l : List Tm} (R : RowAt w S ao b off len cap o h k sv ts l) : Lies w S (.slice ao len cap) l := by
  rw [R.isRow]; exact .row ao b off len cap o h k sv ts R.hao R.hS R.hl R.hr R.c0 R.c1 R.c2 R.c3 R.r0 R.r1 R.r2 R.sub
theorem simple_single {W : World} {S : Nat → Prop} {g : Nat} {cn : Int} {Ss : List Sp.Tm} {Sv : Value} {e : TypeId} (hS : S g) (hg : W.heap[g]? = some (.cells #[Sv, .int .i64 cn] e (0, 0)))
    (fa : -9223372036854775808 ≤ cn ∧ cn ≤ 9223372036854775807) (la : Sp.Lies W S Sv Ss) : Sp.Lies W S (.slice (some ⟨g, 0, none⟩) 1 1) [.mk cn Ss] := by
  have row := Sp.Lies.row (w := W) (S := S) (some ⟨g, 0, none⟩) g 0 1 1 (fun _ => cn) (fun _ => Sv) (fun _ => Ss)
    (fun _ => rfl) (fun _ => hS) (Nat.le_refl _) (by omega)
    (fun i hi => by obtain rfl : i = 0 := by omega
                    exact cell_in hg 0 _ rfl)
    (fun i hi => by obtain rfl : i = 0 := by omega
                    exact cell_in hg 1 _ rfl)
    (fun _ _ => fa) (fun _ _ => la)
  exact row

/-- a box with a term -/
structure TBox (wx : World) (B : Nat) (T : Tm) (v : Value) : Prop where
  h : wx.heap[B]? = some (.cells #[.int .i64 T.op, .int .i64 T.hd, .int .i64 T.n, v] 24 (0, 0))
  l : Lies wx (fun _ => True) v T.args
theorem TBox.keep {wx wy : World} {B : Nat} {T : Tm} {v : Value} (H : TBox wx B T v) (hb : Below wx.heap.size wx wy) : TBox wy B T v := ⟨heap_kept hb H.h, H.l.keep hb⟩
/-- the two boxes of the call -/
structure StV (w W : World) (t : Tm) (tv Sv : Value) (cn : Int) : Prop where
  below : Below w.heap.size w W
  hX : W.heap[w.heap.size]? = some (.cells #[.int .i64 t.op, .int .i64 t.hd, .int .i64 t.n, tv] 24 (0, 0))
  hS : W.heap[w.heap.size + 1]? = some (.cells #[Sv, .int .i64 cn] 27 (0, 0))
theorem StV.keep {w W W' : World} {t : Tm} {tv Sv : Value} {cn : Int} (H : StV w W t tv Sv cn) (hb : Below W.heap.size W W') : StV w W' t tv Sv cn := ⟨below_next H.below hb, heap_kept hb H.hX, heap_kept hb H.hS⟩

/-- a term's box -/
abbrev CellsT4 (W : World) (B : Nat) (so sh sn : Int) (sv : Value) : Prop :=
  W.cell? ⟨B, 0, none⟩ = some (.int .i64 so) ∧ W.cell? ⟨B, 1, none⟩ = some (.int .i64 sh) ∧ W.cell? ⟨B, 2, none⟩ = some (.int .i64 sn) ∧ W.cell? ⟨B, 3, none⟩ = some sv
theorem cellsT4_below {W W' : World} {B : Nat} {so sh sn : Int} {sv : Value} (hb : Below W.heap.size W W') (x : CellsT4 W B so sh sn sv) : CellsT4 W' B so sh sn sv := by
  obtain ⟨x1, x2, x3, x4⟩ := x
  exact ⟨kept_cell hb x1, kept_cell hb x2, kept_cell hb x3, kept_cell hb x4⟩
theorem cellsT4_four {W : World} {B k : Nat} {so sh sn : Int} {sv a b c d : Value} (h : B ≠ k) (x : CellsT4 W B so sh sn sv) : CellsT4 ((((W.setCell ⟨k, 0, none⟩ a).setCell ⟨k, 1, none⟩ b).setCell ⟨k, 2, none⟩ c).setCell ⟨k, 3, none⟩ d) B so sh sn sv := by
  have go : ∀ j u, W.cell? ⟨B, j, none⟩ = some u → ((((W.setCell ⟨k, 0, none⟩ a).setCell ⟨k, 1, none⟩ b).setCell ⟨k, 2, none⟩ c).setCell ⟨k, 3, none⟩ d).cell? ⟨B, j, none⟩ = some u := fun j u e => by rw [World.cell?_of_block (w := W) (set4_other a b c d h)]; exact e
  obtain ⟨x1, x2, x3, x4⟩ := x
  exact ⟨go _ _ x1, go _ _ x2, go _ _ x3, go _ _ x4⟩
/-- the class, the object, the simple type: where the regions read them -/
abbrev CellsS (W : World) (A b bo D : Nat) (a0 a1 a2 a3 e0 e1 e2 e3 s0 s1 : Value) : Prop :=
  W.cell? ⟨D, 0, none⟩ = some s0 ∧ W.cell? ⟨D, 1, none⟩ = some s1 ∧ CellsG W A b bo a0 a1 a2 a3 e0 e1 e2 e3
section
variable {W W' : World} {A b bo D R : Nat} {a0 a1 a2 a3 e0 e1 e2 e3 s0 s1 u0 u1 u2 u3 : Value}
theorem cellsS_below (hb : Below W.heap.size W W') (x : CellsS W A b bo D a0 a1 a2 a3 e0 e1 e2 e3 s0 s1) : CellsS W' A b bo D a0 a1 a2 a3 e0 e1 e2 e3 s0 s1 := ⟨kept_cell hb x.1, kept_cell hb x.2.1, cellsG_below hb x.2.2⟩
theorem cellsS_four (h : A ≠ R ∧ b ≠ R ∧ D ≠ R) (x : CellsS W A b bo D a0 a1 a2 a3 e0 e1 e2 e3 s0 s1) : CellsS ((((W.setCell ⟨R, 0, none⟩ u0).setCell ⟨R, 1, none⟩ u1).setCell ⟨R, 2, none⟩ u2).setCell ⟨R, 3, none⟩ u3) A b bo D a0 a1 a2 a3 e0 e1 e2 e3 s0 s1 := by
  have go : ∀ j u, W.cell? ⟨D, j, none⟩ = some u → ((((W.setCell ⟨R, 0, none⟩ u0).setCell ⟨R, 1, none⟩ u1).setCell ⟨R, 2, none⟩ u2).setCell ⟨R, 3, none⟩ u3).cell? ⟨D, j, none⟩ = some u := fun j u e => by rw [World.cell?_of_block (w := W) (set4_other _ _ _ _ h.2.2)]; exact e
  exact ⟨go _ _ x.1, go _ _ x.2.1, cellsG_four ⟨h.1, h.2.1⟩ x.2.2⟩
end
theorem same_true (S S' : Nat → Prop) (T : Tm) (v v' : Value) (w : World) (hv : Lies w (fun _ => True) v T.args) (hv' : Lies w (fun _ => True) v' T.args) :
    Calls Try.prog 36 #[.agg #[.int .i64 T.op, .int .i64 T.hd, .int .i64 T.n, v], .agg #[.int .i64 T.op, .int .i64 T.hd, .int .i64 T.n, v']] w fun e' w' => e' = .returned (.bool true) ∧ Below w.heap.size w w' := by
  have c := same_any _ _ T.op T.hd T.n T.op T.hd T.n v v' T.args T.args w hv hv'
  rw [(Tm.same_iff _ _).2 rfl] at c
  exact c
end Go.Proofs.Ytieakippgeehgaa.Sb
namespace Go.Proofs.Ytieakippgeehgaa.Sb
open Go.RowKit
theorem gE {F : Nat} {args : Array Value} {wx : World} {T : Tm} {er : Int} (h : Calls Try.prog F args wx (GivesE wx (T, er))) :
    Calls Try.prog F args wx fun e w10 => ∃ a n m, e = .returned (.tuple #[.agg #[.int .i64 T.op, .int .i64 T.hd, .int .i64 T.n, .slice a n m], .int .i64 er]) ∧ Below wx.heap.size wx w10 ∧ Lies w10 (wx.heap.size ≤ ·) (.slice a n m) T.args :=
  h.mono fun e w10 ⟨v, he, hb, L⟩ => by
    obtain ⟨a10, n10, m10, rfl⟩ := L.isSlice
    exact ⟨a10, n10, m10, he, hb, L⟩
end Go.Proofs.Ytieakippgeehgaa.Sb
