/- The contracts of term.below, freeNumber and of the closure that Shift hands on. * The contract of term.renumbered, with the closure of Shift. * The contract of term.Shift. * Small lemmas: a row of one term, worlds one behind the other. Nothing of the program is imported but what other texts bring. -/
import Derived.Test.YteoheeddjddekaaProg
import Derived.Test.YteoheeddjddekaaTmGa
import Derived.Test.YteoheeddjddekaaTmGb
import Derived.BigQuiet
import Derived.Deep.QuietTactic
import Derived.Deep.RegionHeld3
import Derived.Deep.DeepCutAuto
import Derived.Deep.DrawnRows
import Derived.OwnWalk
namespace Go.Proofs.Yteoheeddjddekaa
open Go.RowKit
set_option linter.unusedSimpArgs false
set_option linter.unusedVariables false

set_option maxHeartbeats 1000000 in
set_option maxRecDepth 100000 in
theorem belowT_any (o h n : Int) (a2 : Option Addr) (n2 m2 : Nat) (i : Nat) (b : Int) (w : World) (hb0 : 0 ≤ b) (hb1 : b ≤ 20000) :
    Calls Try.prog 87 #[.agg #[.int .i64 o, .int .i64 h, .int .i64 n, .slice a2 n2 m2], .int .i64 i, .int .i64 b] w fun e w' => e = .returned (.int .i64 (b + Tm.belowN o i)) ∧ Below w.heap.size w w' := by
  by_cases h3 : o = 3
  · subst h3
    go_enter Try.func87, Try.ntmps87
    go_wp2
    go_ret
    exact ⟨rfl, one_below w _⟩
  · by_cases h2 : o = 2
    · subst h2
      by_cases hi : i = 1
      · subst hi
        go_enter Try.func87, Try.ntmps87
        go_wp2
        go_ret
        exact ⟨rfl, one_below w _⟩
      · have E : Hid (b + Tm.belowN 2 i = b) := by show _ = _; simp [Tm.belowN, hi]
        have hi' : ((i : Int) == 1) = false := by rw [beq_eq_false_iff_ne]; omega
        go_enter Try.func87, Try.ntmps87
        go_wp2
        go_ret
        exact ⟨ret_int (by rw [E.out]), one_below w _⟩
    · have E : Hid (b + Tm.belowN o i = b) := by show _ = _; simp [Tm.belowN, h3, h2]
      go_enter Try.func87, Try.ntmps87
      go_wp2
      go_ret
      exact ⟨ret_int (by rw [E.out]), one_below w _⟩

/-- what the closure of Shift says of a node: its new number, and what is noted -/
def shF (d fr : Int) : Int → Int → Int → Int → Int := fun b _ h n => if h == 1 && decide (fr + b ≤ n) then n + d else n
def shG (d fr : Int) : Int → Int → Int → Int → Int → Int := fun b _ h n e => if h == 1 && decide (fr + b ≤ n) then (if n + d < fr + b then 27 else if 9999 < n + d then 5 else e) else e

/-- the cells that the closure has captured -/
structure ShSt (F Y E : Nat) (fr d : Int) (w : World) (e : Int) : Prop where
  f : w.heap[F]? = some (.cells #[.int .i64 fr] 3 (0, 0))
  y : w.heap[Y]? = some (.cells #[.int .i64 d] 3 (0, 0))
  s : w.heap[E]? = some (.cells #[.int .i64 e] 26 (0, 0))

theorem ShSt.below {F Y E : Nat} {fr d e : Int} {w w' : World} (h : ShSt F Y E fr d w e) (hb : Below w.heap.size w w') : ShSt F Y E fr d w' e := ⟨heap_kept hb h.f, heap_kept hb h.y, heap_kept hb h.s⟩
theorem ShSt.note {F Y E : Nat} {fr d e : Int} {w : World} (h : ShSt F Y E fr d w e) (hF : F ≠ E) (hY : Y ≠ E) (x : Int) : ShSt F Y E fr d (w.setCell ⟨E, 0, none⟩ (.int .i64 x)) x :=
  ⟨(Below.heap_setCell _ _ _ _ hF).trans h.f, (Below.heap_setCell _ _ _ _ hY).trans h.y, one_setCell h.s⟩

theorem noted {F Y E : Nat} {fr d e x n' : Int} {w w' : World} (hs : ShSt F Y E fr d w' x) (ho : Only E w w') (he : x = e) {m : Int} (hn : n' = m) : Ending.returned (.int .i64 n') = .returned (.int .i64 m) ∧ ShSt F Y E fr d w' e ∧ Only E w w' :=
  ⟨by rw [hn], he ▸ hs, ho⟩

end Go.Proofs.Yteoheeddjddekaa

namespace Go.Proofs.Yteoheeddjddekaa
open Go.RowKit
set_option linter.unusedSimpArgs false
set_option linter.unusedVariables false

theorem Only.new {B : Nat} {w w1 : World} (h : Only B w w1) {p : Addr} (hp : w.heap.size ≤ p.block) (u : Value) : Only B w (w1.setCell p u) := by
  refine ⟨h.out.os, h.out.tape, h.out.output, by simpa [World.setCell] using h.out.size, fun k hk hn => ?_⟩
  rw [Below.heap_setCell _ _ _ _ (by omega)]
  exact h.out.block k hk hn

theorem tm_info : (Try.prog.info? 25).map (fun i => (i.zero, i.size, i.bytes)) = some (some (.agg #[.int .i64 0, .int .i64 0, .int .i64 0, .slice none 0 0]), 4, 48) := by kernel_rfl

abbrev Cells4 (W : World) (b : Nat) (u1 u2 u3 u4 : Value) : Prop := W.cell? ⟨b, 0, none⟩ = some u1 ∧ W.cell? ⟨b, 1, none⟩ = some u2 ∧ W.cell? ⟨b, 2, none⟩ = some u3 ∧ W.cell? ⟨b, 3, none⟩ = some u4

theorem keep4 {w1 w2 : World} {p1 p2 p3 p4 : Addr} {u1 u2 u3 u4 : Value} (hb : Below w1.heap.size w1 w2)
    (x : w1.cell? p1 = some u1 ∧ w1.cell? p2 = some u2 ∧ w1.cell? p3 = some u3 ∧ w1.cell? p4 = some u4) :
    w2.cell? p1 = some u1 ∧ w2.cell? p2 = some u2 ∧ w2.cell? p3 = some u3 ∧ w2.cell? p4 = some u4 := by
  obtain ⟨x1, x2, x3, x4⟩ := x
  exact ⟨kept_cell hb x1, kept_cell hb x2, kept_cell hb x3, kept_cell hb x4⟩
theorem keepO {E B : Nat} {w1 w2 : World} {u1 u2 u3 u4 : Value} (hn : B ≠ E) (ho : Only E w1 w2)
    (x : w1.cell? ⟨B, 0, none⟩ = some u1 ∧ w1.cell? ⟨B, 1, none⟩ = some u2 ∧ w1.cell? ⟨B, 2, none⟩ = some u3 ∧ w1.cell? ⟨B, 3, none⟩ = some u4) :
    w2.cell? ⟨B, 0, none⟩ = some u1 ∧ w2.cell? ⟨B, 1, none⟩ = some u2 ∧ w2.cell? ⟨B, 2, none⟩ = some u3 ∧ w2.cell? ⟨B, 3, none⟩ = some u4 := by
  obtain ⟨x1, x2, x3, x4⟩ := x
  exact ⟨ho.cell hn x1, ho.cell hn x2, ho.cell hn x3, ho.cell hn x4⟩

theorem newO {E s : Nat} {X w1 : World} {cs : Array Value} {t : TypeId} (ho : Only E (X.alloc (.cells cs t)).drew w1) (hs : X.heap.size = s) (hne : s ≠ E) : w1.heap[s]? = some (.cells cs t (0, 0)) := by
  subst hs
  rw [ho.block _ (show X.heap.size < (X.alloc (.cells cs t)).heap.size by simp) hne]
  exact heap_alloc_new X _

theorem keepH {B : Nat} {w1 w2 : World} {u1 u2 u3 u4 : Value} (hb : w2.heap[B]? = w1.heap[B]?)
    (x : w1.cell? ⟨B, 0, none⟩ = some u1 ∧ w1.cell? ⟨B, 1, none⟩ = some u2 ∧ w1.cell? ⟨B, 2, none⟩ = some u3 ∧ w1.cell? ⟨B, 3, none⟩ = some u4) :
    w2.cell? ⟨B, 0, none⟩ = some u1 ∧ w2.cell? ⟨B, 1, none⟩ = some u2 ∧ w2.cell? ⟨B, 2, none⟩ = some u3 ∧ w2.cell? ⟨B, 3, none⟩ = some u4 := by
  have go : ∀ j u, w1.cell? ⟨B, j, none⟩ = some u → w2.cell? ⟨B, j, none⟩ = some u := fun j u e => by rw [World.cell?_of_block (w := w1) hb]; exact e
  exact ⟨go _ _ x.1, go _ _ x.2.1, go _ _ x.2.2.1, go _ _ x.2.2.2⟩
theorem heap_set4 {w : World} {B : Nat} {p1 p2 p3 p4 : Addr} (x1 x2 x3 x4 : Value) (h1 : B ≠ p1.block) (h2 : B ≠ p2.block) (h3 : B ≠ p3.block) (h4 : B ≠ p4.block) :
    ((((w.setCell p1 x1).setCell p2 x2).setCell p3 x3).setCell p4 x4).heap[B]? = w.heap[B]? := by
  rw [Below.heap_setCell _ _ _ _ h4, Below.heap_setCell _ _ _ _ h3, Below.heap_setCell _ _ _ _ h2, Below.heap_setCell _ _ _ _ h1]

/-- what lies in memory when renumbered has laid its first node -/
structure CutR (F Y E : Nat) (fr d : Int) (w : World) (o h n nn : Int) (ao : Option Addr) (len cap : Nat) (e1 : Int) (G : Nat) (wx : World) : Prop where
  le : w.heap.size + 2 ≤ G
  only : Only E w wx
  st : ShSt F Y E fr d wx e1
  box : wx.heap[w.heap.size]? = some (.cells #[.int .i64 o, .int .i64 h, .int .i64 n, .slice ao len cap] 25 (0, 0))
  res : wx.heap[w.heap.size + 1]? = some (.cells #[.int .i64 0, .int .i64 0, .int .i64 0, .slice none 0 0] 25 (0, 0))
  dot : wx.heap[G]? = some (.cells #[.int .i64 o, .int .i64 h, .int .i64 nn, .slice none 0 0] 25 (0, 0))

section
variable {F Y E : Nat} {fr d : Int} {w w1 : World} {o h n nn e1 : Int} {ao : Option Addr} {len cap : Nat}
theorem two_blocks (w : World) (c1 c2 : Array Value) (t1 t2 : TypeId) : ((w.alloc (.cells c1 t1)).alloc (.cells c2 t2)).heap[w.heap.size]? = some (.cells c1 t1 (0, 0)) ∧ ((w.alloc (.cells c1 t1)).alloc (.cells c2 t2)).heap[w.heap.size + 1]? = some (.cells c2 t2 (0, 0)) := by
  constructor
  · rw [Below.heap_alloc _ _ _ (by simp)]; exact heap_alloc_new _ _
  · have := heap_alloc_new (w.alloc (.cells c1 t1)) (.cells c2 t2)
    simpa using this
theorem cutA (HE : E < w.heap.size) (hs1 : ShSt F Y E fr d w1 e1)
    (ho1 : Only E ((w.alloc (.cells #[.int .i64 o, .int .i64 h, .int .i64 n, .slice ao len cap] 25)).alloc (.cells #[.int .i64 0, .int .i64 0, .int .i64 0, .slice none 0 0] 25)).drew w1) :
    CutR F Y E fr d w o h n nn ao len cap e1 w1.heap.size (w1.alloc (.cells #[.int .i64 o, .int .i64 h, .int .i64 nn, .slice none 0 0] 25)) := by
  have hb := two_blocks w #[.int .i64 o, .int .i64 h, .int .i64 n, .slice ao len cap] #[.int .i64 0, .int .i64 0, .int .i64 0, .slice none 0 0] 25 25
  have hsz : w.heap.size + 2 ≤ w1.heap.size := by
    have h1 := ho1.size
    have h2 : ((w.alloc (.cells #[.int .i64 o, .int .i64 h, .int .i64 n, .slice ao len cap] 25)).alloc (.cells #[.int .i64 0, .int .i64 0, .int .i64 0, .slice none 0 0] 25)).drew.heap.size = w.heap.size + 2 := by
      show ((w.alloc _).alloc _).heap.size = _
      simp
    omega
  have hold : ∀ k, k < w.heap.size + 2 → k ≠ E → (w1.alloc (.cells #[.int .i64 o, .int .i64 h, .int .i64 nn, .slice none 0 0] 25)).heap[k]? = ((w.alloc (.cells #[.int .i64 o, .int .i64 h, .int .i64 n, .slice ao len cap] 25)).alloc (.cells #[.int .i64 0, .int .i64 0, .int .i64 0, .slice none 0 0] 25)).heap[k]? := fun k hk hn => by
    rw [Below.heap_alloc _ _ _ (by omega), ho1.block k (by show k < ((w.alloc _).alloc _).heap.size; simp; omega) hn]; rfl
  refine ⟨hsz, (Only.below (two_below w _ _).drew E).trans (ho1.alloc _), hs1.below ((Below.refl _ _).alloc (Nat.le_refl _) _), ?_, ?_, heap_alloc_new _ _⟩
  · rw [hold _ (by omega) (by omega)]; exact hb.1
  · rw [hold _ (by omega) (by omega)]; exact hb.2
theorem cutB (HE : E < w.heap.size) (hz : w1.heap[w.heap.size + 1 + 1]? = some (.cells #[.int .i64 0, .int .i64 0, .int .i64 0, .slice none 0 0] 25 (0, 0))) (hs1 : ShSt F Y E fr d w1 e1)
    (ho1 : Only E (((w.alloc (.cells #[.int .i64 o, .int .i64 h, .int .i64 n, .slice ao len cap] 25)).alloc (.cells #[.int .i64 0, .int .i64 0, .int .i64 0, .slice none 0 0] 25)).alloc (.cells #[.int .i64 0, .int .i64 0, .int .i64 0, .slice none 0 0] 25)).drew w1) :
    CutR F Y E fr d w o h n nn ao len cap e1 (w.heap.size + 1 + 1) ((((w1.setCell ⟨w.heap.size + 1 + 1, 0, none⟩ (.int .i64 o)).setCell ⟨w.heap.size + 1 + 1, 1, none⟩ (.int .i64 h)).setCell ⟨w.heap.size + 1 + 1, 2, none⟩ (.int .i64 nn)).setCell ⟨w.heap.size + 1 + 1, 3, none⟩ (.slice none 0 0)) := by
  have hb := two_blocks w #[.int .i64 o, .int .i64 h, .int .i64 n, .slice ao len cap] #[.int .i64 0, .int .i64 0, .int .i64 0, .slice none 0 0] 25 25
  have g1 := heap_set_at (j := 0) (.int .i64 o) hz
  have g2 := heap_set_at (j := 1) (.int .i64 h) g1
  have g3 := heap_set_at (j := 2) (.int .i64 nn) g2
  have g4 := heap_set_at (j := 3) (.slice none 0 0) g3
  have hold : ∀ k, k < w.heap.size + 2 → k ≠ E → w1.heap[k]? = ((w.alloc (.cells #[.int .i64 o, .int .i64 h, .int .i64 n, .slice ao len cap] 25)).alloc (.cells #[.int .i64 0, .int .i64 0, .int .i64 0, .slice none 0 0] 25)).heap[k]? := fun k hk hn => by
    rw [ho1.block k (by show k < (((w.alloc _).alloc _).alloc _).heap.size; simp; omega) hn]
    exact Below.heap_alloc _ _ _ (by simp; omega)
  have hset : ∀ k, k ≠ w.heap.size + 1 + 1 → ((((w1.setCell ⟨w.heap.size + 1 + 1, 0, none⟩ (.int .i64 o)).setCell ⟨w.heap.size + 1 + 1, 1, none⟩ (.int .i64 h)).setCell ⟨w.heap.size + 1 + 1, 2, none⟩ (.int .i64 nn)).setCell ⟨w.heap.size + 1 + 1, 3, none⟩ (.slice none 0 0)).heap[k]? = w1.heap[k]? := fun k hk => heap_set4 _ _ _ _ hk hk hk hk
  have hF := lt_of_block hs1.f
  have ho : Only E w w1 := (Only.below (((two_below w _ _).alloc (by simp; omega) _).drew) E).trans ho1
  have hst : ShSt F Y E fr d ((((w1.setCell ⟨w.heap.size + 1 + 1, 0, none⟩ (.int .i64 o)).setCell ⟨w.heap.size + 1 + 1, 1, none⟩ (.int .i64 h)).setCell ⟨w.heap.size + 1 + 1, 2, none⟩ (.int .i64 nn)).setCell ⟨w.heap.size + 1 + 1, 3, none⟩ (.slice none 0 0)) e1 := by
    refine ⟨?_, ?_, ?_⟩
    · rw [hset F (fun h => by subst h; rw [hs1.f] at hz; simp at hz)]; exact hs1.f
    · rw [hset Y (fun h => by subst h; rw [hs1.y] at hz; simp at hz)]; exact hs1.y
    · rw [hset E (by omega)]; exact hs1.s
  refine ⟨Nat.le_refl _, (((ho.new (by simp; omega) _).new (by simp; omega) _).new (by simp; omega) _).new (by simp; omega) _, hst, ?_, ?_, ?_⟩
  · rw [hset _ (by omega), hold _ (by omega) (by omega)]; exact hb.1
  · rw [hset _ (by omega), hold _ (by omega) (by omega)]; exact hb.2
  · rw [g4]; rfl
end

theorem CutR.below {F Y E : Nat} {fr d : Int} {w : World} {o h n nn : Int} {ao : Option Addr} {len cap : Nat} {e1 : Int} {G : Nat} {wx w1 : World} (H : CutR F Y E fr d w o h n nn ao len cap e1 G wx) (hb : Below wx.heap.size wx w1) : CutR F Y E fr d w o h n nn ao len cap e1 G w1 :=
  ⟨H.le, H.only.trans (Only.below hb E), H.st.below hb, heap_kept hb H.box, heap_kept hb H.res, heap_kept hb H.dot⟩

theorem set4_at {w : World} {B : Nat} {a0 a1 a2 a3 : Value} {t : TypeId} (h : w.heap[B]? = some (.cells #[a0, a1, a2, a3] t (0, 0))) (x0 x1 x2 x3 : Value) :
    ((((w.setCell ⟨B, 0, none⟩ x0).setCell ⟨B, 1, none⟩ x1).setCell ⟨B, 2, none⟩ x2).setCell ⟨B, 3, none⟩ x3).heap[B]? = some (.cells #[x0, x1, x2, x3] t (0, 0)) := by
  have g1 := heap_set_at (j := 0) x0 h
  have g2 := heap_set_at (j := 1) x1 g1
  have g3 := heap_set_at (j := 2) x2 g2
  have g4 := heap_set_at (j := 3) x3 g3
  rw [g4]; rfl

/-- what renumbered leaves -/
def RenS (F Y E : Nat) (fr d : Int) (w : World) (b : Int) (t : Tm) (e : Int) (e' : Ending) (w' : World) : Prop :=
  ∃ v', e' = .returned (.agg #[.int .i64 (Tm.ren (shF d fr) b t).op, .int .i64 (Tm.ren (shF d fr) b t).hd, .int .i64 (Tm.ren (shF d fr) b t).n, v']) ∧ Only E w w' ∧ ShSt F Y E fr d w' (Tm.errT (shG d fr) b t e) ∧ Lies w' (w.heap.size ≤ ·) v' (Tm.ren (shF d fr) b t).args

theorem renS_post {F Y E : Nat} {fr d b o h n nn e e1 : Int} {l : List Tm} {w w' : World} {v' : Value} (HNN : nn = shF d fr b o h n) (HE1 : e1 = shG d fr b o h n e) (hargs : Lies w' (w.heap.size ≤ ·) v' (Tm.renL (shF d fr) b o 0 l))
    (hst : ShSt F Y E fr d w' (Tm.errL (shG d fr) b o 0 l e1)) (ho : Only E w w') : RenS F Y E fr d w b (.mk o h n l) e (.returned (.agg #[.int .i64 o, .int .i64 h, .int .i64 nn, v'])) w' := by
  subst HNN HE1
  refine ⟨v', ?_, ho, ?_, ?_⟩
  · simp only [Tm.ren, Tm.op, Tm.hd, Tm.n]
  · simp only [Tm.errT]; exact hst
  · simp only [Tm.ren, Tm.args]; exact hargs

theorem ShSt.other {F Y E B : Nat} {fr d e : Int} {w w' : World} (h : ShSt F Y E fr d w e) (hF : F ≠ B) (hY : Y ≠ B) (hE : E ≠ B) (hb : ∀ k, k ≠ B → w'.heap[k]? = w.heap[k]?) : ShSt F Y E fr d w' e :=
  ⟨(hb F hF).trans h.f, (hb Y hY).trans h.y, (hb E hE).trans h.s⟩

theorem below_grown {w w' : World} (h : w.grownBy w' none) : Below w.heap.size w w' := ⟨h.os, h.tape, h.output, h.size, fun k hk => h.block k hk (by simp)⟩

/-- what lies in memory when the first k parts have been renumbered -/
structure FillR (F Y E : Nat) (fr d : Int) (w : World) (o h n nn b : Int) (ao : Option Addr) (len cap : Nat) (l : List Tm) (e1 : Int) (G g k : Nat) (vs : List Value) (wr : World) : Prop where
  le : w.heap.size + 2 ≤ G
  lt : G < g
  hlen : l.length = len
  only : Only E w wr
  st : ShSt F Y E fr d wr (Tm.errTo (shG d fr) b o l k e1)
  box : wr.heap[w.heap.size]? = some (.cells #[.int .i64 o, .int .i64 h, .int .i64 n, .slice ao len cap] 25 (0, 0))
  res : wr.heap[w.heap.size + 1]? = some (.cells #[.int .i64 0, .int .i64 0, .int .i64 0, .slice none 0 0] 25 (0, 0))
  dot : wr.heap[G]? = some (.cells #[.int .i64 o, .int .i64 h, .int .i64 nn, .slice (some ⟨g, 0, none⟩) len len] 25 (0, 0))
  row : RowF wr (w.heap.size + 2) 25 g (Tm.renTo (shF d fr) b o l k ++ List.replicate (len - k) Tm.zero) vs

section
variable {F Y E : Nat} {fr d : Int} {w w1 w2 : World} {o h n nn b e1 : Int} {ao : Option Addr} {len cap G g k : Nat} {l : List Tm} {vs : List Value}
theorem FillR.start (HE : E < w.heap.size) (hlen : l.length = len) (H : CutR F Y E fr d w o h n nn ao len cap e1 G w1) (hF : F < w.heap.size) (hY : Y < w.heap.size) (hg : G < g)
    (hown : w1.ownsRow (w.heap.size + 2) 25 4 (.slice (some ⟨g, 0, none⟩) len len) len (madeCells #[.int .i64 0, .int .i64 0, .int .i64 0, .slice none 0 0] (len * 4)).toList) :
    ∃ vs, FillR F Y E fr d w o h n nn b ao len cap l e1 G g 0 vs (w1.setCell ⟨G, 3, none⟩ (.slice (some ⟨g, 0, none⟩) len len)) := by
  have hle := H.le
  have hoth : ∀ k, k ≠ G → (w1.setCell ⟨G, 3, none⟩ (.slice (some ⟨g, 0, none⟩) len len)).heap[k]? = w1.heap[k]? := fun k hk => Below.heap_setCell _ _ _ _ hk
  refine ⟨List.replicate len Tm.nilV, H.le, hg, hlen, H.only.new (by simp; omega) _, ?_, ?_, ?_, ?_, ?_⟩
  · rw [Tm.errTo_zero]; exact H.st.other (by omega) (by omega) (by omega) hoth
  · rw [hoth _ (by omega)]; exact H.box
  · rw [hoth _ (by omega)]; exact H.res
  · rw [heap_set_at _ H.dot]; rfl
  · rw [Tm.renTo_zero, List.nil_append, Nat.sub_zero]
    have hm := RowF.made hown
    exact ⟨hm.hb, hm.hl, hm.hn, (hoth g (by omega)).trans hm.hg, fun i hi hi' => by simp only [List.getElem_replicate]; exact Lies.nil _ _, hm.fit⟩

theorem FillR.step {t' : Tm} {v' : Value} (HE : E < w.heap.size) (H : FillR F Y E fr d w o h n nn b ao len cap l e1 G g k vs w1) (hk : k < len) (hF : F < w.heap.size) (hY : Y < w.heap.size)
    (ho : Only E w1 w2) (hst : ShSt F Y E fr d w2 (Tm.errTo (shG d fr) b o l (k + 1) e1)) (ht : Tm.renTo (shF d fr) b o l (k + 1) = Tm.renTo (shF d fr) b o l k ++ [t']) (hv : Lies w2 (w1.heap.size ≤ ·) v' t'.args) (hfit : t'.fit) :
    ∃ vs, FillR F Y E fr d w o h n nn b ao len cap l e1 G g (k + 1) vs ((((w2.setCell ⟨g, k * 4, none⟩ (.int .i64 t'.op)).setCell ⟨g, k * 4 + 1, none⟩ (.int .i64 t'.hd)).setCell ⟨g, k * 4 + 2, none⟩ (.int .i64 t'.n)).setCell ⟨g, k * 4 + 3, none⟩ v') := by
  have hle := H.le
  have hlt := H.lt
  have hglt := H.row.lt
  have hl1 := H.hlen
  have hb : ∀ b, b ≠ E → b < w1.heap.size → w2.heap[b]? = w1.heap[b]? := fun b hn hb => ho.block b hb hn
  have hrow : RowF w2 (w.heap.size + 2) 25 g (Tm.renTo (shF d fr) b o l k ++ List.replicate (len - k) Tm.zero) vs := H.row.keep fun b h1 h2 => hb b (by omega) h2
  have hl0 := Tm.renTo_length (shF d fr) b o l k (by omega)
  have hkl : k < (Tm.renTo (shF d fr) b o l k ++ List.replicate (len - k) Tm.zero).length := by rw [List.length_append, hl0, List.length_replicate]; omega
  have hst2 := hrow.store k hkl t' v' (hv.more fun b _ hS => ⟨by omega, by omega⟩) hfit
  have hset : (Tm.renTo (shF d fr) b o l k ++ List.replicate (len - k) Tm.zero).set k t' = Tm.renTo (shF d fr) b o l (k + 1) ++ List.replicate (len - (k + 1)) Tm.zero := by
    rw [List.set_append_right k t' (by omega), hl0, Nat.sub_self, ht, List.append_assoc]
    congr 1
    rw [show len - k = (len - (k + 1)) + 1 from by omega, List.replicate_succ, List.set_cons_zero]
    rfl
  rw [hset] at hst2
  have hoth : ∀ j, j ≠ g → ((((w2.setCell ⟨g, k * 4, none⟩ (.int .i64 t'.op)).setCell ⟨g, k * 4 + 1, none⟩ (.int .i64 t'.hd)).setCell ⟨g, k * 4 + 2, none⟩ (.int .i64 t'.n)).setCell ⟨g, k * 4 + 3, none⟩ v').heap[j]? = w2.heap[j]? := fun j hj => heap_set4 _ _ _ _ hj hj hj hj
  refine ⟨_, H.le, H.lt, H.hlen, ((((H.only.trans ho).new (by simp; omega) _).new (by simp; omega) _).new (by simp; omega) _).new (by simp; omega) _, hst.other (by omega) (by omega) (by omega) hoth, ?_, ?_, ?_, hst2⟩
  · rw [hoth _ (by omega), hb _ (by omega) (by omega)]; exact H.box
  · rw [hoth _ (by omega), hb _ (by omega) (by omega)]; exact H.res
  · rw [hoth _ (by omega), hb _ (by omega) (by omega)]; exact H.dot
end

theorem FillR.rowO {F Y E : Nat} {fr d : Int} {w w1 w2 : World} {o h n nn b e1 : Int} {ao : Option Addr} {len cap G g k : Nat} {l : List Tm} {vs : List Value} (HE : E < w.heap.size) (H : FillR F Y E fr d w o h n nn b ao len cap l e1 G g k vs w1) (ho : Only E w1 w2) :
    RowF w2 (w.heap.size + 2) 25 g (Tm.renTo (shF d fr) b o l k ++ List.replicate (len - k) Tm.zero) vs := H.row.keep fun b h1 h2 => ho.block b h2 (by omega)
theorem FillR.lenk {F Y E : Nat} {fr d : Int} {w w1 : World} {o h n nn b e1 : Int} {ao : Option Addr} {len cap G g k : Nat} {l : List Tm} {vs : List Value} (H : FillR F Y E fr d w o h n nn b ao len cap l e1 G g k vs w1) (hk : k ≤ len) :
    (Tm.renTo (shF d fr) b o l k ++ List.replicate (len - k) Tm.zero).length = len := by
  rw [List.length_append, Tm.renTo_length _ _ _ _ _ (by rw [H.hlen]; exact hk), List.length_replicate]; omega
theorem ren_fit {d fr b o h n : Int} {l : List Tm} (hn : Tm.nums (.mk o h n l) = true) (h0 : -9999 ≤ d) (h1 : d ≤ 9999) : (Tm.ren (shF d fr) b (.mk o h n l)).fit := by
  simp only [Tm.nums, Bool.and_eq_true, decide_eq_true_eq] at hn
  unfold Tm.fit
  simp only [Tm.ren, Tm.op, Tm.hd, Tm.n]
  refine ⟨by omega, by omega, ?_⟩
  unfold shF
  split <;> omega

abbrev Cells9 (W : World) (b1 b2 b3 : Nat) (u1 u2 u3 u4 u5 u6 u7 u8 u9 : Value) : Prop :=
  W.cell? ⟨b1, 3, none⟩ = some u1 ∧ W.cell? ⟨b2, 0, none⟩ = some u2 ∧ W.cell? ⟨b2, 1, none⟩ = some u3 ∧ W.cell? ⟨b2, 2, none⟩ = some u4 ∧ W.cell? ⟨b2, 3, none⟩ = some u5 ∧ W.cell? ⟨b3, 0, none⟩ = some u6 ∧ W.cell? ⟨b3, 1, none⟩ = some u7 ∧ W.cell? ⟨b3, 2, none⟩ = some u8 ∧ W.cell? ⟨b3, 3, none⟩ = some u9
theorem cells9_heap {W W' : World} {b1 b2 b3 : Nat} {u1 u2 u3 u4 u5 u6 u7 u8 u9 : Value} (x : Cells9 W b1 b2 b3 u1 u2 u3 u4 u5 u6 u7 u8 u9) (h1 : W'.heap[b1]? = W.heap[b1]?) (h2 : W'.heap[b2]? = W.heap[b2]?) (h3 : W'.heap[b3]? = W.heap[b3]?) : Cells9 W' b1 b2 b3 u1 u2 u3 u4 u5 u6 u7 u8 u9 := by
  have go : ∀ {b : Nat} (_ : W'.heap[b]? = W.heap[b]?) {j : Nat} {u : Value} (_ : W.cell? ⟨b, j, none⟩ = some u), W'.cell? ⟨b, j, none⟩ = some u := by
    intro b hb j u e
    rw [World.cell?_of_block (w := W) hb]; exact e
  obtain ⟨x1, x2, x3, x4, x5, x6, x7, x8, x9⟩ := x
  exact ⟨go h1 x1, go h2 x2, go h2 x3, go h2 x4, go h2 x5, go h3 x6, go h3 x7, go h3 x8, go h3 x9⟩
theorem cells9_lt {W : World} {b1 b2 b3 : Nat} {u1 u2 u3 u4 u5 u6 u7 u8 u9 : Value} (x : Cells9 W b1 b2 b3 u1 u2 u3 u4 u5 u6 u7 u8 u9) : b1 < W.heap.size ∧ b2 < W.heap.size ∧ b3 < W.heap.size :=
  ⟨World.block_lt_of_cell? W _ x.1, World.block_lt_of_cell? W _ x.2.1, World.block_lt_of_cell? W _ x.2.2.2.2.2.1⟩
theorem cells9_below {W W' : World} {b1 b2 b3 : Nat} {u1 u2 u3 u4 u5 u6 u7 u8 u9 : Value} (hb : Below W.heap.size W W') (x : Cells9 W b1 b2 b3 u1 u2 u3 u4 u5 u6 u7 u8 u9) : Cells9 W' b1 b2 b3 u1 u2 u3 u4 u5 u6 u7 u8 u9 :=
  cells9_heap x (hb.block _ (cells9_lt x).1) (hb.block _ (cells9_lt x).2.1) (hb.block _ (cells9_lt x).2.2)
theorem cells9_only {E : Nat} {W W' : World} {b1 b2 b3 : Nat} {u1 u2 u3 u4 u5 u6 u7 u8 u9 : Value} (h1 : b1 ≠ E) (h2 : b2 ≠ E) (h3 : b3 ≠ E) (hb : Only E W W') (x : Cells9 W b1 b2 b3 u1 u2 u3 u4 u5 u6 u7 u8 u9) : Cells9 W' b1 b2 b3 u1 u2 u3 u4 u5 u6 u7 u8 u9 :=
  cells9_heap x (hb.block _ (cells9_lt x).1 h1) (hb.block _ (cells9_lt x).2.1 h2) (hb.block _ (cells9_lt x).2.2 h3)
theorem cells9_set {g : Nat} {W : World} {b1 b2 b3 : Nat} {u1 u2 u3 u4 u5 u6 u7 u8 u9 x1 x2 x3 x4 : Value} {j1 j2 j3 j4 : Nat} (h1 : b1 ≠ g) (h2 : b2 ≠ g) (h3 : b3 ≠ g) (x : Cells9 W b1 b2 b3 u1 u2 u3 u4 u5 u6 u7 u8 u9) :
    Cells9 ((((W.setCell ⟨g, j1, none⟩ x1).setCell ⟨g, j2, none⟩ x2).setCell ⟨g, j3, none⟩ x3).setCell ⟨g, j4, none⟩ x4) b1 b2 b3 u1 u2 u3 u4 u5 u6 u7 u8 u9 :=
  cells9_heap x (heap_set4 _ _ _ _ h1 h1 h1 h1) (heap_set4 _ _ _ _ h2 h2 h2 h2) (heap_set4 _ _ _ _ h3 h3 h3 h3)

end Go.Proofs.Yteoheeddjddekaa

namespace Go.Proofs.Yteoheeddjddekaa
open Go.RowKit
set_option linter.unusedSimpArgs false
set_option linter.unusedVariables false

/-- are the arguments of Shift valid? -/
def shiftArgs (d fr : Int) (t : Tm) : Bool := Tm.proper t && decide (-9999 ≤ d) && decide (d ≤ 9999) && decide (0 ≤ fr) && decide (fr ≤ 9999)
/-- what Shift returns: a term and an error -/
def shiftOut (d fr : Int) (t : Tm) : Tm × Int :=
  if shiftArgs d fr t then (if Tm.errT (shG d fr) 0 t 0 = 0 then (Tm.ren (shF d fr) 0 t, 0) else (Tm.zero, Tm.errT (shG d fr) 0 t 0)) else (Tm.zero, 2)

/-- A call gives a term in new memory, and an error. -/
def GivesE (w : World) (x : Tm × Int) (e : Ending) (w' : World) : Prop :=
  ∃ v, e = .returned (.tuple #[.agg #[.int .i64 x.1.op, .int .i64 x.1.hd, .int .i64 x.1.n, v], .int .i64 x.2]) ∧ Below w.heap.size w w' ∧ Lies w' (w.heap.size ≤ ·) v x.1.args

theorem four_blocks (w : World) (c1 c2 c3 c4 : Array Value) (t1 t2 t3 t4 : TypeId) :
    ((((w.alloc (.cells c1 t1)).alloc (.cells c2 t2)).alloc (.cells c3 t3)).alloc (.cells c4 t4)).heap[w.heap.size]? = some (.cells c1 t1 (0, 0)) ∧
    ((((w.alloc (.cells c1 t1)).alloc (.cells c2 t2)).alloc (.cells c3 t3)).alloc (.cells c4 t4)).heap[w.heap.size + 1]? = some (.cells c2 t2 (0, 0)) ∧
    ((((w.alloc (.cells c1 t1)).alloc (.cells c2 t2)).alloc (.cells c3 t3)).alloc (.cells c4 t4)).heap[w.heap.size + 1 + 1]? = some (.cells c3 t3 (0, 0)) ∧
    ((((w.alloc (.cells c1 t1)).alloc (.cells c2 t2)).alloc (.cells c3 t3)).alloc (.cells c4 t4)).heap[w.heap.size + 1 + 1 + 1]? = some (.cells c4 t4 (0, 0)) ∧
    Below w.heap.size w ((((w.alloc (.cells c1 t1)).alloc (.cells c2 t2)).alloc (.cells c3 t3)).alloc (.cells c4 t4)) ∧ ((((w.alloc (.cells c1 t1)).alloc (.cells c2 t2)).alloc (.cells c3 t3)).alloc (.cells c4 t4)).heap.size = w.heap.size + 4 := by
  have h2 := two_blocks w c1 c2 t1 t2
  have h3 := two_blocks ((w.alloc (.cells c1 t1)).alloc (.cells c2 t2)) c3 c4 t3 t4
  have e2 : ((w.alloc (.cells c1 t1)).alloc (.cells c2 t2)).heap.size = w.heap.size + 1 + 1 := by simp
  rw [e2] at h3
  refine ⟨?_, ?_, h3.1, h3.2, (two_below w _ _).trans ((two_below _ _ _).mono (by rw [e2]; omega)), by simp⟩
  · rw [(two_below _ _ _).block _ (by rw [e2]; omega)]; exact h2.1
  · rw [(two_below _ _ _).block _ (by rw [e2]; omega)]; exact h2.2

theorem givesE_zero {w w' : World} {x : Int} {y : Tm × Int} (hy : y = (Tm.zero, x)) (hb : Below w.heap.size w w') : GivesE w y (.returned (.tuple #[.agg #[.int .i64 0, .int .i64 0, .int .i64 0, .slice none 0 0], .int .i64 x])) w' := by
  subst hy
  exact ⟨_, rfl, hb, Lies.nil _ _⟩

end Go.Proofs.Yteoheeddjddekaa

namespace Go.Proofs.Yteoheeddjddekaa
open Go.RowKit
set_option linter.unusedSimpArgs false
set_option linter.unusedVariables false

theorem Lies.one {w : World} {S : Nat → Prop} {o h n : Int} {v : Value} {l : List Tm} {b : Nat} {t : TypeId} (hb : w.heap[b]? = some (.cells #[.int .i64 o, .int .i64 h, .int .i64 n, v] t (0, 0))) (hS : S b) (ho : I64 o) (hh : I64 h) (hn : I64 n) (hv : Lies w S v l) :
    Lies w S (.slice (some ⟨b, 0, none⟩) 1 1) [.mk o h n l] := by
  have row := Lies.row (w := w) (S := S) (some ⟨b, 0, none⟩) b 0 1 1 (fun _ => o) (fun _ => h) (fun _ => n) (fun _ => v) (fun _ => l) (fun _ => rfl) (fun _ => hS) (Nat.le_refl _) (by omega)
    (fun i hi => by obtain rfl : i = 0 := by omega
                    exact cell_in hb 0 _ rfl) (fun i hi => by obtain rfl : i = 0 := by omega
                                                              exact cell_in hb 1 _ rfl)
    (fun i hi => by obtain rfl : i = 0 := by omega
                    exact cell_in hb 2 _ rfl) (fun i hi => by obtain rfl : i = 0 := by omega
                                                              exact cell_in hb 3 _ rfl)
    (fun _ _ => ho) (fun _ _ => hh) (fun _ _ => hn) (fun _ _ => hv)
  simpa using row

theorem below_next {w a b : World} (h : Below w.heap.size w a) (hb : Below a.heap.size a b) : Below w.heap.size w b := h.trans (hb.mono h.size)
theorem below_al {w a : World} (h : Below w.heap.size w a) (o : Obj) : Below w.heap.size w (a.alloc o) := h.alloc h.size o
theorem i64_small {n : Int} (h0 : 0 ≤ n) (h1 : n ≤ 1000000) : I64 n := ⟨by omega, by omega⟩
end Go.Proofs.Yteoheeddjddekaa
