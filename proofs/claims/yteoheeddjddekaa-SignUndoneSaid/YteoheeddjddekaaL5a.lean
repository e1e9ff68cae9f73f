/- The contracts of term.below, freeNumber and of the closure that Shift hands on. * The contract of term.renumbered, with the closure of Shift. * The contract of term.Shift. * Small lemmas: a row of one term, worlds one behind the other. Nothing of the program is imported but what other texts bring. * Slices of ints that are read: what they hold; the contracts of the law's numbers, of slices.Index and Contains. * The contract of the reference's put. * The contracts of the closure that term.numbers hands on and of term.visit: the free numbers. * A region that draws its order, and whose last operation waits for all others: what is said of the world need hold before that operation alone. Nothing of the program is imported. * The contracts of trussref03.below and moved. * The contract of the reference's low. * Plain facts: Shift as the program does it is Shift as the reference does it. Nothing of the program is walked. * The contract of the reference's Shift. -/
import Derived.Test.YteoheeddjddekaaProg
import Derived.Test.YteoheeddjddekaaTmGa
import Derived.Test.YteoheeddjddekaaTmGb
import Derived.BigQuiet
import Derived.Deep.QuietTactic
import Derived.Deep.RegionHeld3
import Derived.Deep.DeepCutAuto
import Derived.Deep.DrawnRows
import Derived.OwnWalk
import Derived.Test.YteoheeddjddekaaTmConP
import Derived.Laws.AppendOwnNone
import Derived.OrdersHeld
import Derived.StillTail
import Derived.Deep.RegionHeld
import Derived.Deep.AppendLies
import Derived.Laws.Pointers
import Derived.IntWalk
namespace Go.Proofs.Yteoheeddjddekaa
open Go.RowKit
set_option linter.unusedSimpArgs false
set_option linter.unusedVariables false

set_option maxHeartbeats 1000000 in
set_option maxRecDepth 100000 in
theorem belowT_any (o h n : Int) (a2 : Option Addr) (n2 m2 : Nat) (i : Nat) (b : Int) (w : World) (hb0 : 0 ≤ b) (hb1 : b ≤ 20000) :
    Calls Try.prog 87 #[.agg #[.int .i64 o, .int .i64 h, .int .i64 n, .slice a2 n2 m2], .int .i64 i, .int .i64 b] w fun e w' => e = .returned (.int .i64 (b + Tm.belowN o i)) ∧ Below w.heap.size w w' := by
  by_cases h3 : o = 3
  · subst h3
    go_enter Try.func87, Try.ntmps87
    go_wp2
    go_ret
    exact ⟨rfl, one_below w _⟩
  · by_cases h2 : o = 2
    · subst h2
      by_cases hi : i = 1
      · subst hi
        go_enter Try.func87, Try.ntmps87
        go_wp2
        go_ret
        exact ⟨rfl, one_below w _⟩
      · have E : Hid (b + Tm.belowN 2 i = b) := by show _ = _; simp [Tm.belowN, hi]
        have hi' : ((i : Int) == 1) = false := by rw [beq_eq_false_iff_ne]; omega
        go_enter Try.func87, Try.ntmps87
        go_wp2
        go_ret
        exact ⟨ret_int (by rw [E.out]), one_below w _⟩
    · have E : Hid (b + Tm.belowN o i = b) := by show _ = _; simp [Tm.belowN, h3, h2]
      go_enter Try.func87, Try.ntmps87
      go_wp2
      go_ret
      exact ⟨ret_int (by rw [E.out]), one_below w _⟩

/-- what the closure of Shift says of a node: its new number, and what is noted -/
def shF (d fr : Int) : Int → Int → Int → Int → Int := fun b _ h n => if h == 1 && decide (fr + b ≤ n) then n + d else n
def shG (d fr : Int) : Int → Int → Int → Int → Int → Int := fun b _ h n e => if h == 1 && decide (fr + b ≤ n) then (if n + d < fr + b then 27 else if 9999 < n + d then 5 else e) else e

/-- the cells that the closure has captured -/
structure ShSt (F Y E : Nat) (fr d : Int) (w : World) (e : Int) : Prop where
  f : w.heap[F]? = some (.cells #[.int .i64 fr] 3 (0, 0))
  y : w.heap[Y]? = some (.cells #[.int .i64 d] 3 (0, 0))
  s : w.heap[E]? = some (.cells #[.int .i64 e] 26 (0, 0))

theorem ShSt.below {F Y E : Nat} {fr d e : Int} {w w' : World} (h : ShSt F Y E fr d w e) (hb : Below w.heap.size w w') : ShSt F Y E fr d w' e := ⟨heap_kept hb h.f, heap_kept hb h.y, heap_kept hb h.s⟩
theorem ShSt.note {F Y E : Nat} {fr d e : Int} {w : World} (h : ShSt F Y E fr d w e) (hF : F ≠ E) (hY : Y ≠ E) (x : Int) : ShSt F Y E fr d (w.setCell ⟨E, 0, none⟩ (.int .i64 x)) x :=
  ⟨(Below.heap_setCell _ _ _ _ hF).trans h.f, (Below.heap_setCell _ _ _ _ hY).trans h.y, one_setCell h.s⟩

theorem noted {F Y E : Nat} {fr d e x n' : Int} {w w' : World} (hs : ShSt F Y E fr d w' x) (ho : Only E w w') (he : x = e) {m : Int} (hn : n' = m) : Ending.returned (.int .i64 n') = .returned (.int .i64 m) ∧ ShSt F Y E fr d w' e ∧ Only E w w' :=
  ⟨by rw [hn], he ▸ hs, ho⟩

end Go.Proofs.Yteoheeddjddekaa

namespace Go.Proofs.Yteoheeddjddekaa
open Go.RowKit
set_option linter.unusedSimpArgs false
set_option linter.unusedVariables false

theorem Only.new {B : Nat} {w w1 : World} (h : Only B w w1) {p : Addr} (hp : w.heap.size ≤ p.block) (u : Value) : Only B w (w1.setCell p u) := by
  refine ⟨h.out.os, h.out.tape, h.out.output, by simpa [World.setCell] using h.out.size, fun k hk hn => ?_⟩
  rw [Below.heap_setCell _ _ _ _ (by omega)]
  exact h.out.block k hk hn

theorem tm_info : (Try.prog.info? 25).map (fun i => (i.zero, i.size, i.bytes)) = some (some (.agg #[.int .i64 0, .int .i64 0, .int .i64 0, .slice none 0 0]), 4, 48) := by kernel_rfl

abbrev Cells4 (W : World) (b : Nat) (u1 u2 u3 u4 : Value) : Prop := W.cell? ⟨b, 0, none⟩ = some u1 ∧ W.cell? ⟨b, 1, none⟩ = some u2 ∧ W.cell? ⟨b, 2, none⟩ = some u3 ∧ W.cell? ⟨b, 3, none⟩ = some u4

theorem keep4 {w1 w2 : World} {p1 p2 p3 p4 : Addr} {u1 u2 u3 u4 : Value} (hb : Below w1.heap.size w1 w2)
    (x : w1.cell? p1 = some u1 ∧ w1.cell? p2 = some u2 ∧ w1.cell? p3 = some u3 ∧ w1.cell? p4 = some u4) :
    w2.cell? p1 = some u1 ∧ w2.cell? p2 = some u2 ∧ w2.cell? p3 = some u3 ∧ w2.cell? p4 = some u4 := by
  obtain ⟨x1, x2, x3, x4⟩ := x
  exact ⟨kept_cell hb x1, kept_cell hb x2, kept_cell hb x3, kept_cell hb x4⟩
theorem keepO {E B : Nat} {w1 w2 : World} {u1 u2 u3 u4 : Value} (hn : B ≠ E) (ho : Only E w1 w2)
    (x : w1.cell? ⟨B, 0, none⟩ = some u1 ∧ w1.cell? ⟨B, 1, none⟩ = some u2 ∧ w1.cell? ⟨B, 2, none⟩ = some u3 ∧ w1.cell? ⟨B, 3, none⟩ = some u4) :
    w2.cell? ⟨B, 0, none⟩ = some u1 ∧ w2.cell? ⟨B, 1, none⟩ = some u2 ∧ w2.cell? ⟨B, 2, none⟩ = some u3 ∧ w2.cell? ⟨B, 3, none⟩ = some u4 := by
  obtain ⟨x1, x2, x3, x4⟩ := x
  exact ⟨ho.cell hn x1, ho.cell hn x2, ho.cell hn x3, ho.cell hn x4⟩

theorem newO {E s : Nat} {X w1 : World} {cs : Array Value} {t : TypeId} (ho : Only E (X.alloc (.cells cs t)).drew w1) (hs : X.heap.size = s) (hne : s ≠ E) : w1.heap[s]? = some (.cells cs t (0, 0)) := by
  subst hs
  rw [ho.block _ (show X.heap.size < (X.alloc (.cells cs t)).heap.size by simp) hne]
  exact heap_alloc_new X _

theorem keepH {B : Nat} {w1 w2 : World} {u1 u2 u3 u4 : Value} (hb : w2.heap[B]? = w1.heap[B]?)
    (x : w1.cell? ⟨B, 0, none⟩ = some u1 ∧ w1.cell? ⟨B, 1, none⟩ = some u2 ∧ w1.cell? ⟨B, 2, none⟩ = some u3 ∧ w1.cell? ⟨B, 3, none⟩ = some u4) :
    w2.cell? ⟨B, 0, none⟩ = some u1 ∧ w2.cell? ⟨B, 1, none⟩ = some u2 ∧ w2.cell? ⟨B, 2, none⟩ = some u3 ∧ w2.cell? ⟨B, 3, none⟩ = some u4 := by
  have go : ∀ j u, w1.cell? ⟨B, j, none⟩ = some u → w2.cell? ⟨B, j, none⟩ = some u := fun j u e => by rw [World.cell?_of_block (w := w1) hb]; exact e
  exact ⟨go _ _ x.1, go _ _ x.2.1, go _ _ x.2.2.1, go _ _ x.2.2.2⟩
theorem heap_set4 {w : World} {B : Nat} {p1 p2 p3 p4 : Addr} (x1 x2 x3 x4 : Value) (h1 : B ≠ p1.block) (h2 : B ≠ p2.block) (h3 : B ≠ p3.block) (h4 : B ≠ p4.block) :
    ((((w.setCell p1 x1).setCell p2 x2).setCell p3 x3).setCell p4 x4).heap[B]? = w.heap[B]? := by
  rw [Below.heap_setCell _ _ _ _ h4, Below.heap_setCell _ _ _ _ h3, Below.heap_setCell _ _ _ _ h2, Below.heap_setCell _ _ _ _ h1]

/-- what lies in memory when renumbered has laid its first node -/
structure CutR (F Y E : Nat) (fr d : Int) (w : World) (o h n nn : Int) (ao : Option Addr) (len cap : Nat) (e1 : Int) (G : Nat) (wx : World) : Prop where
  le : w.heap.size + 2 ≤ G
  only : Only E w wx
  st : ShSt F Y E fr d wx e1
  box : wx.heap[w.heap.size]? = some (.cells #[.int .i64 o, .int .i64 h, .int .i64 n, .slice ao len cap] 25 (0, 0))
  res : wx.heap[w.heap.size + 1]? = some (.cells #[.int .i64 0, .int .i64 0, .int .i64 0, .slice none 0 0] 25 (0, 0))
  dot : wx.heap[G]? = some (.cells #[.int .i64 o, .int .i64 h, .int .i64 nn, .slice none 0 0] 25 (0, 0))

section
variable {F Y E : Nat} {fr d : Int} {w w1 : World} {o h n nn e1 : Int} {ao : Option Addr} {len cap : Nat}
theorem two_blocks (w : World) (c1 c2 : Array Value) (t1 t2 : TypeId) : ((w.alloc (.cells c1 t1)).alloc (.cells c2 t2)).heap[w.heap.size]? = some (.cells c1 t1 (0, 0)) ∧ ((w.alloc (.cells c1 t1)).alloc (.cells c2 t2)).heap[w.heap.size + 1]? = some (.cells c2 t2 (0, 0)) := by
  constructor
  · rw [Below.heap_alloc _ _ _ (by simp)]; exact heap_alloc_new _ _
  · have := heap_alloc_new (w.alloc (.cells c1 t1)) (.cells c2 t2)
    simpa using this
theorem cutA (HE : E < w.heap.size) (hs1 : ShSt F Y E fr d w1 e1)
    (ho1 : Only E ((w.alloc (.cells #[.int .i64 o, .int .i64 h, .int .i64 n, .slice ao len cap] 25)).alloc (.cells #[.int .i64 0, .int .i64 0, .int .i64 0, .slice none 0 0] 25)).drew w1) :
    CutR F Y E fr d w o h n nn ao len cap e1 w1.heap.size (w1.alloc (.cells #[.int .i64 o, .int .i64 h, .int .i64 nn, .slice none 0 0] 25)) := by
  have hb := two_blocks w #[.int .i64 o, .int .i64 h, .int .i64 n, .slice ao len cap] #[.int .i64 0, .int .i64 0, .int .i64 0, .slice none 0 0] 25 25
  have hsz : w.heap.size + 2 ≤ w1.heap.size := by
    have h1 := ho1.size
    have h2 : ((w.alloc (.cells #[.int .i64 o, .int .i64 h, .int .i64 n, .slice ao len cap] 25)).alloc (.cells #[.int .i64 0, .int .i64 0, .int .i64 0, .slice none 0 0] 25)).drew.heap.size = w.heap.size + 2 := by
      show ((w.alloc _).alloc _).heap.size = _
      simp
    omega
  have hold : ∀ k, k < w.heap.size + 2 → k ≠ E → (w1.alloc (.cells #[.int .i64 o, .int .i64 h, .int .i64 nn, .slice none 0 0] 25)).heap[k]? = ((w.alloc (.cells #[.int .i64 o, .int .i64 h, .int .i64 n, .slice ao len cap] 25)).alloc (.cells #[.int .i64 0, .int .i64 0, .int .i64 0, .slice none 0 0] 25)).heap[k]? := fun k hk hn => by
    rw [Below.heap_alloc _ _ _ (by omega), ho1.block k (by show k < ((w.alloc _).alloc _).heap.size; simp; omega) hn]; rfl
  refine ⟨hsz, (Only.below (two_below w _ _).drew E).trans (ho1.alloc _), hs1.below ((Below.refl _ _).alloc (Nat.le_refl _) _), ?_, ?_, heap_alloc_new _ _⟩
  · rw [hold _ (by omega) (by omega)]; exact hb.1
  · rw [hold _ (by omega) (by omega)]; exact hb.2
theorem cutB (HE : E < w.heap.size) (hz : w1.heap[w.heap.size + 1 + 1]? = some (.cells #[.int .i64 0, .int .i64 0, .int .i64 0, .slice none 0 0] 25 (0, 0))) (hs1 : ShSt F Y E fr d w1 e1)
    (ho1 : Only E (((w.alloc (.cells #[.int .i64 o, .int .i64 h, .int .i64 n, .slice ao len cap] 25)).alloc (.cells #[.int .i64 0, .int .i64 0, .int .i64 0, .slice none 0 0] 25)).alloc (.cells #[.int .i64 0, .int .i64 0, .int .i64 0, .slice none 0 0] 25)).drew w1) :
    CutR F Y E fr d w o h n nn ao len cap e1 (w.heap.size + 1 + 1) ((((w1.setCell ⟨w.heap.size + 1 + 1, 0, none⟩ (.int .i64 o)).setCell ⟨w.heap.size + 1 + 1, 1, none⟩ (.int .i64 h)).setCell ⟨w.heap.size + 1 + 1, 2, none⟩ (.int .i64 nn)).setCell ⟨w.heap.size + 1 + 1, 3, none⟩ (.slice none 0 0)) := by
  have hb := two_blocks w #[.int .i64 o, .int .i64 h, .int .i64 n, .slice ao len cap] #[.int .i64 0, .int .i64 0, .int .i64 0, .slice none 0 0] 25 25
  have g1 := heap_set_at (j := 0) (.int .i64 o) hz
  have g2 := heap_set_at (j := 1) (.int .i64 h) g1
  have g3 := heap_set_at (j := 2) (.int .i64 nn) g2
  have g4 := heap_set_at (j := 3) (.slice none 0 0) g3
  have hold : ∀ k, k < w.heap.size + 2 → k ≠ E → w1.heap[k]? = ((w.alloc (.cells #[.int .i64 o, .int .i64 h, .int .i64 n, .slice ao len cap] 25)).alloc (.cells #[.int .i64 0, .int .i64 0, .int .i64 0, .slice none 0 0] 25)).heap[k]? := fun k hk hn => by
    rw [ho1.block k (by show k < (((w.alloc _).alloc _).alloc _).heap.size; simp; omega) hn]
    exact Below.heap_alloc _ _ _ (by simp; omega)
  have hset : ∀ k, k ≠ w.heap.size + 1 + 1 → ((((w1.setCell ⟨w.heap.size + 1 + 1, 0, none⟩ (.int .i64 o)).setCell ⟨w.heap.size + 1 + 1, 1, none⟩ (.int .i64 h)).setCell ⟨w.heap.size + 1 + 1, 2, none⟩ (.int .i64 nn)).setCell ⟨w.heap.size + 1 + 1, 3, none⟩ (.slice none 0 0)).heap[k]? = w1.heap[k]? := fun k hk => heap_set4 _ _ _ _ hk hk hk hk
  have hF := lt_of_block hs1.f
  have ho : Only E w w1 := (Only.below (((two_below w _ _).alloc (by simp; omega) _).drew) E).trans ho1
  have hst : ShSt F Y E fr d ((((w1.setCell ⟨w.heap.size + 1 + 1, 0, none⟩ (.int .i64 o)).setCell ⟨w.heap.size + 1 + 1, 1, none⟩ (.int .i64 h)).setCell ⟨w.heap.size + 1 + 1, 2, none⟩ (.int .i64 nn)).setCell ⟨w.heap.size + 1 + 1, 3, none⟩ (.slice none 0 0)) e1 := by
    refine ⟨?_, ?_, ?_⟩
    · rw [hset F (fun h => by subst h; rw [hs1.f] at hz; simp at hz)]; exact hs1.f
    · rw [hset Y (fun h => by subst h; rw [hs1.y] at hz; simp at hz)]; exact hs1.y
    · rw [hset E (by omega)]; exact hs1.s
  refine ⟨Nat.le_refl _, (((ho.new (by simp; omega) _).new (by simp; omega) _).new (by simp; omega) _).new (by simp; omega) _, hst, ?_, ?_, ?_⟩
  · rw [hset _ (by omega), hold _ (by omega) (by omega)]; exact hb.1
  · rw [hset _ (by omega), hold _ (by omega) (by omega)]; exact hb.2
  · rw [g4]; rfl
end

theorem CutR.below {F Y E : Nat} {fr d : Int} {w : World} {o h n nn : Int} {ao : Option Addr} {len cap : Nat} {e1 : Int} {G : Nat} {wx w1 : World} (H : CutR F Y E fr d w o h n nn ao len cap e1 G wx) (hb : Below wx.heap.size wx w1) : CutR F Y E fr d w o h n nn ao len cap e1 G w1 :=
  ⟨H.le, H.only.trans (Only.below hb E), H.st.below hb, heap_kept hb H.box, heap_kept hb H.res, heap_kept hb H.dot⟩

theorem set4_at {w : World} {B : Nat} {a0 a1 a2 a3 : Value} {t : TypeId} (h : w.heap[B]? = some (.cells #[a0, a1, a2, a3] t (0, 0))) (x0 x1 x2 x3 : Value) :
    ((((w.setCell ⟨B, 0, none⟩ x0).setCell ⟨B, 1, none⟩ x1).setCell ⟨B, 2, none⟩ x2).setCell ⟨B, 3, none⟩ x3).heap[B]? = some (.cells #[x0, x1, x2, x3] t (0, 0)) := by
  have g1 := heap_set_at (j := 0) x0 h
  have g2 := heap_set_at (j := 1) x1 g1
  have g3 := heap_set_at (j := 2) x2 g2
  have g4 := heap_set_at (j := 3) x3 g3
  rw [g4]; rfl

/-- what renumbered leaves -/
def RenS (F Y E : Nat) (fr d : Int) (w : World) (b : Int) (t : Tm) (e : Int) (e' : Ending) (w' : World) : Prop :=
  ∃ v', e' = .returned (.agg #[.int .i64 (Tm.ren (shF d fr) b t).op, .int .i64 (Tm.ren (shF d fr) b t).hd, .int .i64 (Tm.ren (shF d fr) b t).n, v']) ∧ Only E w w' ∧ ShSt F Y E fr d w' (Tm.errT (shG d fr) b t e) ∧ Lies w' (w.heap.size ≤ ·) v' (Tm.ren (shF d fr) b t).args

theorem renS_post {F Y E : Nat} {fr d b o h n nn e e1 : Int} {l : List Tm} {w w' : World} {v' : Value} (HNN : nn = shF d fr b o h n) (HE1 : e1 = shG d fr b o h n e) (hargs : Lies w' (w.heap.size ≤ ·) v' (Tm.renL (shF d fr) b o 0 l))
    (hst : ShSt F Y E fr d w' (Tm.errL (shG d fr) b o 0 l e1)) (ho : Only E w w') : RenS F Y E fr d w b (.mk o h n l) e (.returned (.agg #[.int .i64 o, .int .i64 h, .int .i64 nn, v'])) w' := by
  subst HNN HE1
  refine ⟨v', ?_, ho, ?_, ?_⟩
  · simp only [Tm.ren, Tm.op, Tm.hd, Tm.n]
  · simp only [Tm.errT]; exact hst
  · simp only [Tm.ren, Tm.args]; exact hargs

theorem ShSt.other {F Y E B : Nat} {fr d e : Int} {w w' : World} (h : ShSt F Y E fr d w e) (hF : F ≠ B) (hY : Y ≠ B) (hE : E ≠ B) (hb : ∀ k, k ≠ B → w'.heap[k]? = w.heap[k]?) : ShSt F Y E fr d w' e :=
  ⟨(hb F hF).trans h.f, (hb Y hY).trans h.y, (hb E hE).trans h.s⟩

theorem below_grown {w w' : World} (h : w.grownBy w' none) : Below w.heap.size w w' := ⟨h.os, h.tape, h.output, h.size, fun k hk => h.block k hk (by simp)⟩

/-- what lies in memory when the first k parts have been renumbered -/
structure FillR (F Y E : Nat) (fr d : Int) (w : World) (o h n nn b : Int) (ao : Option Addr) (len cap : Nat) (l : List Tm) (e1 : Int) (G g k : Nat) (vs : List Value) (wr : World) : Prop where
  le : w.heap.size + 2 ≤ G
  lt : G < g
  hlen : l.length = len
  only : Only E w wr
  st : ShSt F Y E fr d wr (Tm.errTo (shG d fr) b o l k e1)
  box : wr.heap[w.heap.size]? = some (.cells #[.int .i64 o, .int .i64 h, .int .i64 n, .slice ao len cap] 25 (0, 0))
  res : wr.heap[w.heap.size + 1]? = some (.cells #[.int .i64 0, .int .i64 0, .int .i64 0, .slice none 0 0] 25 (0, 0))
  dot : wr.heap[G]? = some (.cells #[.int .i64 o, .int .i64 h, .int .i64 nn, .slice (some ⟨g, 0, none⟩) len len] 25 (0, 0))
  row : RowF wr (w.heap.size + 2) 25 g (Tm.renTo (shF d fr) b o l k ++ List.replicate (len - k) Tm.zero) vs

section
variable {F Y E : Nat} {fr d : Int} {w w1 w2 : World} {o h n nn b e1 : Int} {ao : Option Addr} {len cap G g k : Nat} {l : List Tm} {vs : List Value}
theorem FillR.start (HE : E < w.heap.size) (hlen : l.length = len) (H : CutR F Y E fr d w o h n nn ao len cap e1 G w1) (hF : F < w.heap.size) (hY : Y < w.heap.size) (hg : G < g)
    (hown : w1.ownsRow (w.heap.size + 2) 25 4 (.slice (some ⟨g, 0, none⟩) len len) len (madeCells #[.int .i64 0, .int .i64 0, .int .i64 0, .slice none 0 0] (len * 4)).toList) :
    ∃ vs, FillR F Y E fr d w o h n nn b ao len cap l e1 G g 0 vs (w1.setCell ⟨G, 3, none⟩ (.slice (some ⟨g, 0, none⟩) len len)) := by
  have hle := H.le
  have hoth : ∀ k, k ≠ G → (w1.setCell ⟨G, 3, none⟩ (.slice (some ⟨g, 0, none⟩) len len)).heap[k]? = w1.heap[k]? := fun k hk => Below.heap_setCell _ _ _ _ hk
  refine ⟨List.replicate len Tm.nilV, H.le, hg, hlen, H.only.new (by simp; omega) _, ?_, ?_, ?_, ?_, ?_⟩
  · rw [Tm.errTo_zero]; exact H.st.other (by omega) (by omega) (by omega) hoth
  · rw [hoth _ (by omega)]; exact H.box
  · rw [hoth _ (by omega)]; exact H.res
  · rw [heap_set_at _ H.dot]; rfl
  · rw [Tm.renTo_zero, List.nil_append, Nat.sub_zero]
    have hm := RowF.made hown
    exact ⟨hm.hb, hm.hl, hm.hn, (hoth g (by omega)).trans hm.hg, fun i hi hi' => by simp only [List.getElem_replicate]; exact Lies.nil _ _, hm.fit⟩

theorem FillR.step {t' : Tm} {v' : Value} (HE : E < w.heap.size) (H : FillR F Y E fr d w o h n nn b ao len cap l e1 G g k vs w1) (hk : k < len) (hF : F < w.heap.size) (hY : Y < w.heap.size)
    (ho : Only E w1 w2) (hst : ShSt F Y E fr d w2 (Tm.errTo (shG d fr) b o l (k + 1) e1)) (ht : Tm.renTo (shF d fr) b o l (k + 1) = Tm.renTo (shF d fr) b o l k ++ [t']) (hv : Lies w2 (w1.heap.size ≤ ·) v' t'.args) (hfit : t'.fit) :
    ∃ vs, FillR F Y E fr d w o h n nn b ao len cap l e1 G g (k + 1) vs ((((w2.setCell ⟨g, k * 4, none⟩ (.int .i64 t'.op)).setCell ⟨g, k * 4 + 1, none⟩ (.int .i64 t'.hd)).setCell ⟨g, k * 4 + 2, none⟩ (.int .i64 t'.n)).setCell ⟨g, k * 4 + 3, none⟩ v') := by
  have hle := H.le
  have hlt := H.lt
  have hglt := H.row.lt
  have hl1 := H.hlen
  have hb : ∀ b, b ≠ E → b < w1.heap.size → w2.heap[b]? = w1.heap[b]? := fun b hn hb => ho.block b hb hn
  have hrow : RowF w2 (w.heap.size + 2) 25 g (Tm.renTo (shF d fr) b o l k ++ List.replicate (len - k) Tm.zero) vs := H.row.keep fun b h1 h2 => hb b (by omega) h2
  have hl0 := Tm.renTo_length (shF d fr) b o l k (by omega)
  have hkl : k < (Tm.renTo (shF d fr) b o l k ++ List.replicate (len - k) Tm.zero).length := by rw [List.length_append, hl0, List.length_replicate]; omega
  have hst2 := hrow.store k hkl t' v' (hv.more fun b _ hS => ⟨by omega, by omega⟩) hfit
  have hset : (Tm.renTo (shF d fr) b o l k ++ List.replicate (len - k) Tm.zero).set k t' = Tm.renTo (shF d fr) b o l (k + 1) ++ List.replicate (len - (k + 1)) Tm.zero := by
    rw [List.set_append_right k t' (by omega), hl0, Nat.sub_self, ht, List.append_assoc]
    congr 1
    rw [show len - k = (len - (k + 1)) + 1 from by omega, List.replicate_succ, List.set_cons_zero]
    rfl
  rw [hset] at hst2
  have hoth : ∀ j, j ≠ g → ((((w2.setCell ⟨g, k * 4, none⟩ (.int .i64 t'.op)).setCell ⟨g, k * 4 + 1, none⟩ (.int .i64 t'.hd)).setCell ⟨g, k * 4 + 2, none⟩ (.int .i64 t'.n)).setCell ⟨g, k * 4 + 3, none⟩ v').heap[j]? = w2.heap[j]? := fun j hj => heap_set4 _ _ _ _ hj hj hj hj
  refine ⟨_, H.le, H.lt, H.hlen, ((((H.only.trans ho).new (by simp; omega) _).new (by simp; omega) _).new (by simp; omega) _).new (by simp; omega) _, hst.other (by omega) (by omega) (by omega) hoth, ?_, ?_, ?_, hst2⟩
  · rw [hoth _ (by omega), hb _ (by omega) (by omega)]; exact H.box
  · rw [hoth _ (by omega), hb _ (by omega) (by omega)]; exact H.res
  · rw [hoth _ (by omega), hb _ (by omega) (by omega)]; exact H.dot
end

theorem FillR.rowO {F Y E : Nat} {fr d : Int} {w w1 w2 : World} {o h n nn b e1 : Int} {ao : Option Addr} {len cap G g k : Nat} {l : List Tm} {vs : List Value} (HE : E < w.heap.size) (H : FillR F Y E fr d w o h n nn b ao len cap l e1 G g k vs w1) (ho : Only E w1 w2) :
    RowF w2 (w.heap.size + 2) 25 g (Tm.renTo (shF d fr) b o l k ++ List.replicate (len - k) Tm.zero) vs := H.row.keep fun b h1 h2 => ho.block b h2 (by omega)
theorem FillR.lenk {F Y E : Nat} {fr d : Int} {w w1 : World} {o h n nn b e1 : Int} {ao : Option Addr} {len cap G g k : Nat} {l : List Tm} {vs : List Value} (H : FillR F Y E fr d w o h n nn b ao len cap l e1 G g k vs w1) (hk : k ≤ len) :
    (Tm.renTo (shF d fr) b o l k ++ List.replicate (len - k) Tm.zero).length = len := by
  rw [List.length_append, Tm.renTo_length _ _ _ _ _ (by rw [H.hlen]; exact hk), List.length_replicate]; omega
theorem ren_fit {d fr b o h n : Int} {l : List Tm} (hn : Tm.nums (.mk o h n l) = true) (h0 : -9999 ≤ d) (h1 : d ≤ 9999) : (Tm.ren (shF d fr) b (.mk o h n l)).fit := by
  simp only [Tm.nums, Bool.and_eq_true, decide_eq_true_eq] at hn
  unfold Tm.fit
  simp only [Tm.ren, Tm.op, Tm.hd, Tm.n]
  refine ⟨by omega, by omega, ?_⟩
  unfold shF
  split <;> omega

abbrev Cells9 (W : World) (b1 b2 b3 : Nat) (u1 u2 u3 u4 u5 u6 u7 u8 u9 : Value) : Prop :=
  W.cell? ⟨b1, 3, none⟩ = some u1 ∧ W.cell? ⟨b2, 0, none⟩ = some u2 ∧ W.cell? ⟨b2, 1, none⟩ = some u3 ∧ W.cell? ⟨b2, 2, none⟩ = some u4 ∧ W.cell? ⟨b2, 3, none⟩ = some u5 ∧ W.cell? ⟨b3, 0, none⟩ = some u6 ∧ W.cell? ⟨b3, 1, none⟩ = some u7 ∧ W.cell? ⟨b3, 2, none⟩ = some u8 ∧ W.cell? ⟨b3, 3, none⟩ = some u9
theorem cells9_heap {W W' : World} {b1 b2 b3 : Nat} {u1 u2 u3 u4 u5 u6 u7 u8 u9 : Value} (x : Cells9 W b1 b2 b3 u1 u2 u3 u4 u5 u6 u7 u8 u9) (h1 : W'.heap[b1]? = W.heap[b1]?) (h2 : W'.heap[b2]? = W.heap[b2]?) (h3 : W'.heap[b3]? = W.heap[b3]?) : Cells9 W' b1 b2 b3 u1 u2 u3 u4 u5 u6 u7 u8 u9 := by
  have go : ∀ {b : Nat} (_ : W'.heap[b]? = W.heap[b]?) {j : Nat} {u : Value} (_ : W.cell? ⟨b, j, none⟩ = some u), W'.cell? ⟨b, j, none⟩ = some u := by
    intro b hb j u e
    rw [World.cell?_of_block (w := W) hb]; exact e
  obtain ⟨x1, x2, x3, x4, x5, x6, x7, x8, x9⟩ := x
  exact ⟨go h1 x1, go h2 x2, go h2 x3, go h2 x4, go h2 x5, go h3 x6, go h3 x7, go h3 x8, go h3 x9⟩
theorem cells9_lt {W : World} {b1 b2 b3 : Nat} {u1 u2 u3 u4 u5 u6 u7 u8 u9 : Value} (x : Cells9 W b1 b2 b3 u1 u2 u3 u4 u5 u6 u7 u8 u9) : b1 < W.heap.size ∧ b2 < W.heap.size ∧ b3 < W.heap.size :=
  ⟨World.block_lt_of_cell? W _ x.1, World.block_lt_of_cell? W _ x.2.1, World.block_lt_of_cell? W _ x.2.2.2.2.2.1⟩
theorem cells9_below {W W' : World} {b1 b2 b3 : Nat} {u1 u2 u3 u4 u5 u6 u7 u8 u9 : Value} (hb : Below W.heap.size W W') (x : Cells9 W b1 b2 b3 u1 u2 u3 u4 u5 u6 u7 u8 u9) : Cells9 W' b1 b2 b3 u1 u2 u3 u4 u5 u6 u7 u8 u9 :=
  cells9_heap x (hb.block _ (cells9_lt x).1) (hb.block _ (cells9_lt x).2.1) (hb.block _ (cells9_lt x).2.2)
theorem cells9_only {E : Nat} {W W' : World} {b1 b2 b3 : Nat} {u1 u2 u3 u4 u5 u6 u7 u8 u9 : Value} (h1 : b1 ≠ E) (h2 : b2 ≠ E) (h3 : b3 ≠ E) (hb : Only E W W') (x : Cells9 W b1 b2 b3 u1 u2 u3 u4 u5 u6 u7 u8 u9) : Cells9 W' b1 b2 b3 u1 u2 u3 u4 u5 u6 u7 u8 u9 :=
  cells9_heap x (hb.block _ (cells9_lt x).1 h1) (hb.block _ (cells9_lt x).2.1 h2) (hb.block _ (cells9_lt x).2.2 h3)
theorem cells9_set {g : Nat} {W : World} {b1 b2 b3 : Nat} {u1 u2 u3 u4 u5 u6 u7 u8 u9 x1 x2 x3 x4 : Value} {j1 j2 j3 j4 : Nat} (h1 : b1 ≠ g) (h2 : b2 ≠ g) (h3 : b3 ≠ g) (x : Cells9 W b1 b2 b3 u1 u2 u3 u4 u5 u6 u7 u8 u9) :
    Cells9 ((((W.setCell ⟨g, j1, none⟩ x1).setCell ⟨g, j2, none⟩ x2).setCell ⟨g, j3, none⟩ x3).setCell ⟨g, j4, none⟩ x4) b1 b2 b3 u1 u2 u3 u4 u5 u6 u7 u8 u9 :=
  cells9_heap x (heap_set4 _ _ _ _ h1 h1 h1 h1) (heap_set4 _ _ _ _ h2 h2 h2 h2) (heap_set4 _ _ _ _ h3 h3 h3 h3)

end Go.Proofs.Yteoheeddjddekaa

namespace Go.Proofs.Yteoheeddjddekaa
open Go.RowKit
set_option linter.unusedSimpArgs false
set_option linter.unusedVariables false

/-- are the arguments of Shift valid? -/
def shiftArgs (d fr : Int) (t : Tm) : Bool := Tm.proper t && decide (-9999 ≤ d) && decide (d ≤ 9999) && decide (0 ≤ fr) && decide (fr ≤ 9999)
/-- what Shift returns: a term and an error -/
def shiftOut (d fr : Int) (t : Tm) : Tm × Int :=
  if shiftArgs d fr t then (if Tm.errT (shG d fr) 0 t 0 = 0 then (Tm.ren (shF d fr) 0 t, 0) else (Tm.zero, Tm.errT (shG d fr) 0 t 0)) else (Tm.zero, 2)

/-- A call gives a term in new memory, and an error. -/
def GivesE (w : World) (x : Tm × Int) (e : Ending) (w' : World) : Prop :=
  ∃ v, e = .returned (.tuple #[.agg #[.int .i64 x.1.op, .int .i64 x.1.hd, .int .i64 x.1.n, v], .int .i64 x.2]) ∧ Below w.heap.size w w' ∧ Lies w' (w.heap.size ≤ ·) v x.1.args

theorem four_blocks (w : World) (c1 c2 c3 c4 : Array Value) (t1 t2 t3 t4 : TypeId) :
    ((((w.alloc (.cells c1 t1)).alloc (.cells c2 t2)).alloc (.cells c3 t3)).alloc (.cells c4 t4)).heap[w.heap.size]? = some (.cells c1 t1 (0, 0)) ∧
    ((((w.alloc (.cells c1 t1)).alloc (.cells c2 t2)).alloc (.cells c3 t3)).alloc (.cells c4 t4)).heap[w.heap.size + 1]? = some (.cells c2 t2 (0, 0)) ∧
    ((((w.alloc (.cells c1 t1)).alloc (.cells c2 t2)).alloc (.cells c3 t3)).alloc (.cells c4 t4)).heap[w.heap.size + 1 + 1]? = some (.cells c3 t3 (0, 0)) ∧
    ((((w.alloc (.cells c1 t1)).alloc (.cells c2 t2)).alloc (.cells c3 t3)).alloc (.cells c4 t4)).heap[w.heap.size + 1 + 1 + 1]? = some (.cells c4 t4 (0, 0)) ∧
    Below w.heap.size w ((((w.alloc (.cells c1 t1)).alloc (.cells c2 t2)).alloc (.cells c3 t3)).alloc (.cells c4 t4)) ∧ ((((w.alloc (.cells c1 t1)).alloc (.cells c2 t2)).alloc (.cells c3 t3)).alloc (.cells c4 t4)).heap.size = w.heap.size + 4 := by
  have h2 := two_blocks w c1 c2 t1 t2
  have h3 := two_blocks ((w.alloc (.cells c1 t1)).alloc (.cells c2 t2)) c3 c4 t3 t4
  have e2 : ((w.alloc (.cells c1 t1)).alloc (.cells c2 t2)).heap.size = w.heap.size + 1 + 1 := by simp
  rw [e2] at h3
  refine ⟨?_, ?_, h3.1, h3.2, (two_below w _ _).trans ((two_below _ _ _).mono (by rw [e2]; omega)), by simp⟩
  · rw [(two_below _ _ _).block _ (by rw [e2]; omega)]; exact h2.1
  · rw [(two_below _ _ _).block _ (by rw [e2]; omega)]; exact h2.2

theorem givesE_zero {w w' : World} {x : Int} {y : Tm × Int} (hy : y = (Tm.zero, x)) (hb : Below w.heap.size w w') : GivesE w y (.returned (.tuple #[.agg #[.int .i64 0, .int .i64 0, .int .i64 0, .slice none 0 0], .int .i64 x])) w' := by
  subst hy
  exact ⟨_, rfl, hb, Lies.nil _ _⟩

end Go.Proofs.Yteoheeddjddekaa

namespace Go.Proofs.Yteoheeddjddekaa
open Go.RowKit
set_option linter.unusedSimpArgs false
set_option linter.unusedVariables false

theorem Lies.one {w : World} {S : Nat → Prop} {o h n : Int} {v : Value} {l : List Tm} {b : Nat} {t : TypeId} (hb : w.heap[b]? = some (.cells #[.int .i64 o, .int .i64 h, .int .i64 n, v] t (0, 0))) (hS : S b) (ho : I64 o) (hh : I64 h) (hn : I64 n) (hv : Lies w S v l) :
    Lies w S (.slice (some ⟨b, 0, none⟩) 1 1) [.mk o h n l] := by
  have row := Lies.row (w := w) (S := S) (some ⟨b, 0, none⟩) b 0 1 1 (fun _ => o) (fun _ => h) (fun _ => n) (fun _ => v) (fun _ => l) (fun _ => rfl) (fun _ => hS) (Nat.le_refl _) (by omega)
    (fun i hi => by obtain rfl : i = 0 := by omega
                    exact cell_in hb 0 _ rfl) (fun i hi => by obtain rfl : i = 0 := by omega
                                                              exact cell_in hb 1 _ rfl)
    (fun i hi => by obtain rfl : i = 0 := by omega
                    exact cell_in hb 2 _ rfl) (fun i hi => by obtain rfl : i = 0 := by omega
                                                              exact cell_in hb 3 _ rfl)
    (fun _ _ => ho) (fun _ _ => hh) (fun _ _ => hn) (fun _ _ => hv)
  simpa using row

theorem below_next {w a b : World} (h : Below w.heap.size w a) (hb : Below a.heap.size a b) : Below w.heap.size w b := h.trans (hb.mono h.size)
theorem below_al {w a : World} (h : Below w.heap.size w a) (o : Obj) : Below w.heap.size w (a.alloc o) := h.alloc h.size o
theorem i64_small {n : Int} (h0 : 0 ≤ n) (h1 : n ≤ 1000000) : I64 n := ⟨by omega, by omega⟩
end Go.Proofs.Yteoheeddjddekaa

namespace Go.Proofs.Yteoheeddjddekaa
open Go.RowKit
set_option linter.unusedSimpArgs false
set_option linter.unusedVariables false

/-- the value v is a slice that reads as the numbers xs -/
structure IntsAt (w : World) (v : Value) (ao : Option Addr) (b off len cap : Nat) (xs : List Int) : Prop where
  hv : v = .slice ao len cap
  hlen : xs.length = len
  hao : 0 < len → ao = some ⟨b, off, none⟩
  hl : len ≤ cap
  hr : cap ≤ 9223372036854775807
  cells : ∀ i (h : i < xs.length), w.cell? ⟨b, off + i, none⟩ = some (.int .i64 xs[i])
def Ints (w : World) (v : Value) (xs : List Int) : Prop := ∃ ao b off len cap, IntsAt w v ao b off len cap xs

section
variable {w w' : World} {v : Value} {xs ys : List Int}
theorem Ints.below (h : Ints w v xs) (hb : Below w.heap.size w w') : Ints w' v xs := by
  obtain ⟨ao, b, off, len, cap, h⟩ := h
  exact ⟨ao, b, off, len, cap, h.hv, h.hlen, h.hao, h.hl, h.hr, fun i hi => kept_cell hb (h.cells i hi)⟩
theorem Ints.nil (w : World) : Ints w (.slice none 0 0) [] := ⟨none, 0, 0, 0, 0, rfl, rfl, fun h => absurd h (by omega), Nat.le_refl _, by omega, fun i h => absurd h (by simp)⟩
theorem Ints.own {base n : Nat} {e : TypeId} (h : w.ownsRow base e 1 v n (xs.map (Value.int .i64))) (hn : xs.length = n) : Ints w v xs := by
  rcases h.2 with ⟨rfl, h0⟩ | ⟨g, cap, cur, rfl, hb, hh, hle, hmx, hsz, htk⟩
  · have : xs = [] := List.eq_nil_of_length_eq_zero (by omega)
    subst this; exact Ints.nil w
  · refine ⟨_, g, 0, n, cap, rfl, hn, fun _ => rfl, hle, by unfold maxLen at hmx; exact hmx, fun i hi => ?_⟩
    have hc := @World.ownsRow.cells w base e 1 _ n _ h g rfl i (.int .i64 xs[i]) (by simp [hi])
    rw [Addr.add_lit] at hc
    exact hc
end

/-- what slices.Index answers -/
def SomeIdx (w : World) (xs : List Int) (n : Int) (e : Ending) (w' : World) : Prop := ∃ r : Int, e = .returned (.int .i64 r) ∧ -1 ≤ r ∧ r ≤ 9223372036854775807 ∧ (0 ≤ r ↔ n ∈ xs) ∧ w = w'

set_option maxHeartbeats 1000000 in
set_option maxRecDepth 100000 in
theorem index_any (v : Value) (xs : List Int) (n : Int) (w : World) (hv : Ints w v xs) : Calls Try.prog 81 #[v, .int .i64 n] w (SomeIdx w xs n) := by
  obtain ⟨ao, b, off, len, cap, rfl, hlen, hao, hl, hr, hc⟩ := hv
  have HL := Lib.hid hlen
  have HC := Lib.hid hc
  have hl2 : len ≤ 9223372036854775807 := by omega
  clear hlen hc
  go_enter Try.func81, Try.ntmps81
  go_wp2
  go_loop [8] (fun i => ∃ k : Nat, k ≤ len ∧ i = .int .i64 k ∧ n ∉ xs.take k) (fun i => len - (RowKit.intOf i).toNat)
  case atStart => exact ⟨0, Nat.zero_le _, rfl, by simp⟩
  case round =>
    obtain ⟨k, hk, rfl, hno⟩ := hrel
    have HNO := Lib.hid hno
    clear hno
    by_cases hlt : k < len
    · obtain rfl := hao (by omega)
      have hkx : k < xs.length := by rw [HL.out]; exact hlt
      have hck := HC.out k hkx
      obtain ⟨y, hy⟩ : ∃ y, y = xs[k] := ⟨_, rfl⟩
      rw [← hy] at hck
      have HY := Lib.hid hy
      clear hy
      have hk0 : (0 : Int) ≤ (k : Int) := by omega
      have hk1 : (k : Int) < (len : Int) := by omega
      by_cases hn : n = y
      · subst hn
        go_wp2
        go_ret
        refine ⟨k, rfl, by omega, by omega, ⟨fun _ => ?_, fun _ => by omega⟩, rfl⟩
        rw [HY.out]; exact List.getElem_mem _
      · have hb : (n == y) = false := by rw [beq_eq_false_iff_ne]; exact hn
        go_wp2
        go_round
        case rel =>
          refine ⟨k + 1, by omega, by go_num, ?_⟩
          rw [List.take_succ_eq_append_getElem hkx, List.mem_append, List.mem_singleton, ← HY.out]
          rintro (h | h)
          · exact HNO.out h
          · exact hn h
        case measure => simp [RowKit.intOf]; omega
    · obtain rfl : k = len := by omega
      go_wp2
      go_ret
      refine ⟨-1, rfl, by omega, by omega, ⟨fun h => absurd h (by omega), fun h => ?_⟩, rfl⟩
      have := HNO.out
      rw [List.take_of_length_le (by rw [HL.out]; exact Nat.le_refl _)] at this
      exact absurd h this

theorem contains_end {xs : List Int} {n r : Int} (h : 0 ≤ r ↔ n ∈ xs) : Ending.returned (.bool (decide (0 ≤ r))) = .returned (.bool (decide (n ∈ xs))) := by
  rw [decide_eq_decide.2 h]

set_option maxHeartbeats 1000000 in
set_option maxRecDepth 100000 in
theorem contains_any (v : Value) (xs : List Int) (n : Int) (w : World) (hv : Ints w v xs) : Calls Try.prog 60 #[v, .int .i64 n] w fun e w' => e = .returned (.bool (decide (n ∈ xs))) ∧ w = w' := by
  have call := index_any v xs n w hv
  obtain ⟨ao, b, off, len, cap, rfl, _⟩ := hv
  go_enter Try.func60, Try.ntmps60
  go_wp2_with (go_at_call 81; (with_reducible refine call.mono ?_); rintro e w1 ⟨r, rfl, hr0, hr1, hr2, rfl⟩; have HR := Lib.hid hr2; clear hr2)
  go_ret
  exact ⟨contains_end HR.out, rfl⟩

theorem numbers_eq {xs ys : List Int} {k : Nat} (hl : xs.length = ys.length) (hk : xs.length ≤ k) (h : xs.take k = ys.take k) : xs = ys := by
  rwa [List.take_of_length_le hk, List.take_of_length_le (by omega)] at h
theorem numbers_no {xs ys : List Int} {k : Nat} {y z : Int} (hx : k < xs.length) (hy : k < ys.length) (ey : y = xs[k]) (ez : z = ys[k]) (h : ¬ y = z) : Ending.returned (.bool false) = .returned (.bool (decide (xs = ys))) := by
  rw [decide_eq_false]
  intro e
  subst e
  exact h (ey.trans ez.symm)
theorem numbers_not {xs ys : List Int} (h : decide (xs = ys) = false) : Ending.returned (.bool false) = .returned (.bool (decide (xs = ys))) := by rw [h]
theorem numbers_yes {xs ys : List Int} (h : xs = ys) : Ending.returned (.bool true) = .returned (.bool (decide (xs = ys))) := by rw [decide_eq_true h]
theorem take_step {xs ys : List Int} {k : Nat} (hx : k < xs.length) (hy : k < ys.length) (h : xs.take k = ys.take k) (e : xs[k] = ys[k]) : xs.take (k + 1) = ys.take (k + 1) := by
  rw [List.take_succ_eq_append_getElem hx, List.take_succ_eq_append_getElem hy, h, e]

end Go.Proofs.Yteoheeddjddekaa

namespace Go.Proofs.Yteoheeddjddekaa
open Go.RowKit
set_option linter.unusedSimpArgs false
set_option linter.unusedVariables false
namespace Tm
theorem ins_append (n : Int) : ∀ (pre post : List Int), (∀ x ∈ pre, x < n) → ins (pre ++ post) n = pre ++ ins post n
  | [], post, _ => rfl
  | a :: pre, post, h => by
    simp only [List.cons_append, ins]
    rw [if_pos (h a (by simp)), ins_append n pre post (fun x hx => h x (by simp [hx]))]
/-- all of the first k numbers are less -/
def LessTo (xs : List Int) (n : Int) (k : Nat) : Prop := ∀ x ∈ xs.take k, x < n
theorem LessTo.zero (xs : List Int) (n : Int) : LessTo xs n 0 := by intro x hx; simp at hx
theorem LessTo.step {xs : List Int} {n : Int} {k : Nat} (h : LessTo xs n k) (hk : k < xs.length) {y : Int} (hy : y = xs[k]) (e : y < n) : LessTo xs n (k + 1) := by
  intro x hx
  rw [List.take_succ_eq_append_getElem hk, List.mem_append, List.mem_singleton] at hx
  rcases hx with hx | hx
  · exact h x hx
  · rw [hx, ← hy]; exact e
theorem ins_there {xs : List Int} {n : Int} {k : Nat} (h : LessTo xs n k) (hk : k < xs.length) {y : Int} (hy : y = xs[k]) (e : y = n) : ins xs n = xs := by
  have h1 := ins_append n (xs.take k) (xs.drop k) h
  rw [List.take_append_drop] at h1
  rw [h1, List.drop_eq_getElem_cons hk, ← hy, e]
  unfold ins
  rw [if_neg (Int.lt_irrefl n), if_pos rfl]
  have h2 : xs.take k ++ xs.drop k = xs := List.take_append_drop k xs
  rw [List.drop_eq_getElem_cons hk, ← hy, e] at h2
  exact h2
theorem ins_mid {xs : List Int} {n : Int} {k : Nat} (h : LessTo xs n k) (hk : k < xs.length) {y : Int} (hy : y = xs[k]) (e : n < y) : ins xs n = xs.take k ++ [n] ++ xs.drop k := by
  have h1 := ins_append n (xs.take k) (xs.drop k) h
  rw [List.take_append_drop] at h1
  rw [h1, List.drop_eq_getElem_cons hk, ← hy]
  unfold ins
  rw [if_neg (by omega), if_neg (by omega), List.append_assoc]; rfl
theorem ins_end {xs : List Int} {n : Int} {k : Nat} (h : LessTo xs n k) (hk : xs.length ≤ k) : ins xs n = xs.take k ++ [n] ++ xs.drop k := by
  have h1 := ins_append n (xs.take k) (xs.drop k) h
  rw [List.take_append_drop] at h1
  rw [h1, List.drop_eq_nil_of_le hk]
  simp [ins]
end Tm

/-- a slice of numbers that is nil where it has none -/
def IntsN (w : World) (v : Value) (xs : List Int) : Prop := Ints w v xs ∧ (xs = [] → v = .slice none 0 0)
theorem IntsN.below {w w' : World} {v : Value} {xs : List Int} (h : IntsN w v xs) (hb : Below w.heap.size w w') : IntsN w' v xs := ⟨h.1.below hb, h.2⟩
/-- A call gives numbers. -/
def GivesInts (w : World) (xs : List Int) (e : Ending) (w' : World) : Prop := ∃ v, e = .returned v ∧ IntsN w' v xs ∧ Below w.heap.size w w'

theorem int_info : (Try.prog.info? 3).map (fun i => (i.zero, i.size, i.bytes)) = some (some (.int .i64 0), 1, 8) := by kernel_rfl

theorem grown_new {w w1 : World} {base : Nat} {v : Value} {n : Nat} {e : TypeId} {size : Nat} {ys : List Value} (hb : Below w.heap.size w w1) (h : w1.ownsRow w.heap.size e size v n ys) {w2 : World} (hg : w1.grownBy w2 v.ownBlock) : Below w.heap.size w w2 := by
  refine hb.grown hg hb.size fun j hj => ?_
  exact (h.lt j hj).1

theorem news_take {w : World} {b off : Nat} {xs : List Int} (hc : ∀ i (h : i < xs.length), w.cell? ⟨b, off + i, none⟩ = some (.int .i64 xs[i])) (k : Nat) :
    ∀ j u, ((xs.take k).map (Value.int .i64))[j]? = some u → w.cell? ((⟨b, off, none⟩ : Addr).add j) = some u := by
  intro j u hu
  rw [Addr.add_lit]
  have hj : j < ((xs.take k).map (Value.int .i64)).length := (List.getElem?_eq_some_iff.1 hu).1
  have hj' : j < xs.length := by simp at hj; omega
  rw [hc j hj']
  rw [List.getElem?_eq_getElem hj] at hu
  simpa using hu
theorem news_drop {w : World} {b off : Nat} {xs : List Int} (hc : ∀ i (h : i < xs.length), w.cell? ⟨b, off + i, none⟩ = some (.int .i64 xs[i])) (k : Nat) :
    ∀ j u, ((xs.drop k).map (Value.int .i64))[j]? = some u → w.cell? ((⟨b, off + k, none⟩ : Addr).add j) = some u := by
  intro j u hu
  rw [Addr.add_lit]
  have hj : j < ((xs.drop k).map (Value.int .i64)).length := (List.getElem?_eq_some_iff.1 hu).1
  have hj' : k + j < xs.length := by simp at hj; omega
  rw [Nat.add_assoc, hc (k + j) hj']
  rw [List.getElem?_eq_getElem hj] at hu
  simpa using hu
theorem news_int {w : World} {g : Nat} {n : Int} {t : TypeId} {fr : Nat × Nat} (h : w.heap[g]? = some (.cells #[.int .i64 n] t fr)) : ∀ j u, ([Value.int .i64 n] : List Value)[j]? = some u → w.cell? ((⟨g, 0, none⟩ : Addr).add j) = some u := by
  intro j u hu
  rw [Addr.add_lit]
  match j, hu with
  | 0, hu => simp at hu; subst hu; exact cell_in h 0 _ rfl
  | j + 1, hu => simp at hu
theorem news_none {w : World} {a : Addr} {xs : List Int} {k : Nat} (h : xs.length ≤ k) : ∀ j u, ((xs.drop k).map (Value.int .i64))[j]? = some u → w.cell? (a.add j) = some u := by
  intro j u hu
  rw [List.drop_eq_nil_of_le h] at hu
  simp at hu
theorem ints_one (xs : List Int) : ∀ u ∈ xs.map (Value.int .i64), u.oneCell' = true := by
  intro u hu
  obtain ⟨x, _, rfl⟩ := List.mem_map.1 hu
  rfl

set_option maxHeartbeats 2000000 in
set_option maxRecDepth 100000 in
theorem put_nil (n : Int) (w : World) : Calls Try.prog 79 #[.slice none 0 0, .int .i64 n] w (GivesInts w (Tm.ins [] n)) := by
  obtain ⟨i0, hi0, hz0, hz1, hz2⟩ := info_parts int_info
  go_enter Try.func79, Try.ntmps79
  go_wp2
  refine wp_loop_rounds 1 ?_
  rw [rounds_succ]
  go_wp2_with (first
    | (at_builtin; refine wpList_append_own _ rfl (.tmp 39) (.tmp 41) 42 rfl w.heap.size 3 i0 (.int .i64 0) 1 8 Try.underlying42 hi0 hz0 hz1 hz2 rfl (by decide) _ 0 [] rfl (World.ownsRow_nil _ _ _ _) ⟨w.heap.size, 0, none⟩ 1 1 [.int .i64 n] rfl rfl (news_int (heap_alloc_new w _)) (ints_one [n]) (by unfold maxLen; omega) (by omega) (by simp) ?_; intro v1 w1 hown1 hgrow1 hnil1; have HN1 := Lib.hid hnil1; clear hnil1)
    | (at_builtin; refine wpList_append_own_none rfl (.tmp 43) (.tmp 46) 42 rfl w.heap.size 3 i0 1 Try.underlying42 hi0 v1 _ _ rfl hown1 rfl ?_))
  go_ret
  exact ⟨v1, rfl, ⟨Ints.own (xs := [n]) hown1 rfl, fun h => by simp [Tm.ins] at h⟩, (one_below w _).grown hgrow1 (by simp) fun j hj => by cases hj⟩

theorem put_there {w : World} {v : Value} {xs ys : List Int} (h : ys = xs) (hv : Ints w v xs) (h0 : 0 < xs.length) : GivesInts w ys (.returned v) w := by
  subst h
  exact ⟨v, rfl, ⟨hv, fun e => by rw [e] at h0; simp at h0⟩, Below.refl _ _⟩
theorem put_end {w w3 : World} {v3 : Value} {xs ys : List Int} {n : Int} {k len m : Nat} (hi : ys = xs.take k ++ [n] ++ xs.drop k) (hl : xs.length = len) (hk : k ≤ len) (ho : w3.ownsRow w.heap.size 3 1 v3 m ([] ++ (xs.take k).map (Value.int .i64) ++ [.int .i64 n] ++ (xs.drop k).map (Value.int .i64))) (hb : Below w.heap.size w w3) : GivesInts w ys (.returned v3) w3 := by
  have e : ([] ++ (xs.take k).map (Value.int .i64) ++ [.int .i64 n] ++ (xs.drop k).map (Value.int .i64)) = ys.map (Value.int .i64) := by rw [hi]; simp
  rw [e] at ho
  refine ⟨v3, rfl, ⟨Ints.own ho ?_, fun e => ?_⟩, hb⟩
  · have := ho.1
    simpa using this
  · rw [e] at hi; simp at hi

set_option maxHeartbeats 4000000 in
set_option maxRecDepth 100000 in
theorem put_some (b off len cap : Nat) (xs : List Int) (n : Int) (w : World) (hlen : xs.length = len) (h0 : 0 < len) (hl : len ≤ cap) (hr : cap ≤ 9223372036854775807) (hc : ∀ i (h : i < xs.length), w.cell? ⟨b, off + i, none⟩ = some (.int .i64 xs[i])) (hx : xs.length ≤ 100000) :
    Calls Try.prog 79 #[.slice (some ⟨b, off, none⟩) len cap, .int .i64 n] w (GivesInts w (Tm.ins xs n)) := by
  obtain ⟨i0, hi0, hz0, hz1, hz2⟩ := info_parts int_info
  have HL := Lib.hid hlen
  have HC := Lib.hid hc
  have hlx : len ≤ 100000 := by omega
  have hl2 : len ≤ 9223372036854775807 := by omega
  have hcap0 : 0 < cap := by omega
  clear hlen hc hx
  go_enter Try.func79, Try.ntmps79
  go_wp2
  go_loop [5] (fun i => ∃ k : Nat, k ≤ len ∧ i = .int .i64 k ∧ Tm.LessTo xs n k) (fun i => len - (RowKit.intOf i).toNat)
  case atStart => exact ⟨0, Nat.zero_le _, rfl, Tm.LessTo.zero _ _⟩
  case round =>
    obtain ⟨k, hk, rfl, hno⟩ := hrel
    have HNO := Lib.hid hno
    clear hno
    by_cases hlt : k < len
    · have hkx : k < xs.length := by rw [HL.out]; exact hlt
      have hck := HC.out k hkx
      obtain ⟨y, hy⟩ : ∃ y, y = xs[k] := ⟨_, rfl⟩
      rw [← hy] at hck
      have HY := Lib.hid hy
      clear hy
      have hk0 : (0 : Int) ≤ (k : Int) := by omega
      have hk1 : (k : Int) < (len : Int) := by omega
      by_cases hn : y < n
      · go_wp2
        go_round
        case rel => exact ⟨k + 1, by omega, by go_num, HNO.out.step hkx HY.out hn⟩
        case measure => simp [RowKit.intOf]; omega
      · by_cases he : y = n
        · subst he
          go_wp2
          go_ret
          exact put_there (Tm.ins_there HNO.out hkx HY.out rfl) ⟨_, _, _, _, _, rfl, HL.out, fun _ => rfl, hl, hr, HC.out⟩ (by rw [HL.out]; exact h0)
        · have hb1 : (y == n) = false := by rw [beq_eq_false_iff_ne]; exact he
          have hgt : n < y := by omega
          clear he hn
          have hkc : (k : Int) ≤ (cap : Int) := by omega
          have hkc2 : (k : Int) < (cap : Int) := by omega
          have HT : Hid (((xs.take k).map (Value.int .i64)).length = k * 1) := by show _ = _; rw [List.length_map, List.length_take, HL.out]; omega
          have HT2 : Hid (((xs.drop k).map (Value.int .i64)).length = (len - k) * 1) := by show _ = _; rw [List.length_map, List.length_drop, HL.out]; omega
          have HM1 : Hid (0 + k ≤ maxLen) := by show _ ≤ _; unfold maxLen; omega
          have HM2 : Hid ((0 + k) * 8 ≤ 140737488355328) := by show _ ≤ _; omega
          have HM3 : Hid (0 + k + 1 ≤ maxLen) := by show _ ≤ _; unfold maxLen; omega
          have HM4 : Hid ((0 + k + 1) * 8 ≤ 140737488355328) := by show _ ≤ _; omega
          have HM5 : Hid (0 + k + 1 + (len - k) ≤ maxLen) := by show _ ≤ _; unfold maxLen; omega
          have HM6 : Hid ((0 + k + 1 + (len - k)) * 8 ≤ 140737488355328) := by show _ ≤ _; omega
          go_wp2_with (first
            | (at_builtin; refine wpList_append_own _ rfl (.tmp 34) (.tmp 37) 42 rfl w.heap.size 3 i0 (.int .i64 0) 1 8 Try.underlying42 hi0 hz0 hz1 hz2 rfl (by decide) _ 0 [] rfl (World.ownsRow_nil _ _ _ _) ⟨b, off, none⟩ k cap ((xs.take k).map (Value.int .i64)) rfl HT.out (news_take HC.out k) (ints_one _) HM1.out HM2.out (Nat.le_refl _) ?_; intro v1 w1 hown1 hgrow1 hnil1; have hb1' : Below w.heap.size w w1 := (Below.refl _ _).grown hgrow1 (Nat.le_refl _) (fun j hj => by cases hj); have HO1 := Lib.hid hown1; have HB1 := Lib.hid hb1'; clear hnil1 hown1 hb1' hgrow1)
            | (at_builtin; refine wpList_append_own _ rfl (.tmp 39) (.tmp 41) 42 rfl w.heap.size 3 i0 (.int .i64 0) 1 8 Try.underlying42 hi0 hz0 hz1 hz2 rfl (by decide) v1 _ _ rfl (HO1.out.alloc _) ⟨w1.heap.size, 0, none⟩ 1 1 [.int .i64 n] rfl rfl (news_int (heap_alloc_new w1 _)) (ints_one [n]) HM3.out HM4.out (by have := HB1.out.size; simp; omega) ?_; intro v2 w2 hown2 hgrow2 hnil2; have hb2' : Below w.heap.size w w2 := (HB1.out.alloc HB1.out.size _).grown hgrow2 (by have := HB1.out.size; simp; omega) (fun j hj => (HO1.out.lt j hj).1); have HO2 := Lib.hid hown2; have HB2 := Lib.hid hb2'; clear hnil2 hown2 hb2' hgrow2)
            | (at_builtin; refine wpList_append_own _ rfl (.tmp 43) (.tmp 46) 42 rfl w.heap.size 3 i0 (.int .i64 0) 1 8 Try.underlying42 hi0 hz0 hz1 hz2 rfl (by decide) v2 _ _ rfl HO2.out ⟨b, off + k, none⟩ (len - k) (cap - k) ((xs.drop k).map (Value.int .i64)) rfl HT2.out (news_drop (fun i hi => kept_cell HB2.out (HC.out i hi)) k) (ints_one _) HM5.out HM6.out HB2.out.size ?_; intro v3 w3 hown3 hgrow3 hnil3; have hb3' : Below w.heap.size w w3 := HB2.out.grown hgrow3 HB2.out.size (fun j hj => (HO2.out.lt j hj).1); have HO3 := Lib.hid hown3; have HB3 := Lib.hid hb3'; clear hnil3 hown3 hb3' hgrow3))
          go_ret
          exact put_end (Tm.ins_mid HNO.out hkx HY.out hgt) HL.out hk HO3.out HB3.out
    · obtain rfl : k = len := by omega
      by_cases hkc : k < cap
      · have hkc2 : (k : Int) < (cap : Int) := by omega
        have HT : Hid (((xs.take k).map (Value.int .i64)).length = k * 1) := by show _ = _; rw [List.length_map, List.length_take, HL.out]; omega
        have HT2 : Hid (((xs.drop k).map (Value.int .i64)).length = 0 * 1) := by show _ = _; rw [List.length_map, List.length_drop, HL.out]; omega
        have HM1 : Hid (0 + k ≤ maxLen) := by show _ ≤ _; unfold maxLen; omega
        have HM2 : Hid ((0 + k) * 8 ≤ 140737488355328) := by show _ ≤ _; omega
        have HM3 : Hid (0 + k + 1 ≤ maxLen) := by show _ ≤ _; unfold maxLen; omega
        have HM4 : Hid ((0 + k + 1) * 8 ≤ 140737488355328) := by show _ ≤ _; omega
        have HM5 : Hid (0 + k + 1 + 0 ≤ maxLen) := by show _ ≤ _; unfold maxLen; omega
        have HM6 : Hid ((0 + k + 1 + 0) * 8 ≤ 140737488355328) := by show _ ≤ _; omega
        go_wp2_with (first
          | (at_builtin; refine wpList_append_own _ rfl (.tmp 34) (.tmp 37) 42 rfl w.heap.size 3 i0 (.int .i64 0) 1 8 Try.underlying42 hi0 hz0 hz1 hz2 rfl (by decide) _ 0 [] rfl (World.ownsRow_nil _ _ _ _) ⟨b, off, none⟩ k cap ((xs.take k).map (Value.int .i64)) rfl HT.out (news_take HC.out k) (ints_one _) HM1.out HM2.out (Nat.le_refl _) ?_; intro v1 w1 hown1 hgrow1 hnil1; have hb1' : Below w.heap.size w w1 := (Below.refl _ _).grown hgrow1 (Nat.le_refl _) (fun j hj => by cases hj); have HO1 := Lib.hid hown1; have HB1 := Lib.hid hb1'; clear hnil1 hown1 hb1' hgrow1)
          | (at_builtin; refine wpList_append_own _ rfl (.tmp 39) (.tmp 41) 42 rfl w.heap.size 3 i0 (.int .i64 0) 1 8 Try.underlying42 hi0 hz0 hz1 hz2 rfl (by decide) v1 _ _ rfl (HO1.out.alloc _) ⟨w1.heap.size, 0, none⟩ 1 1 [.int .i64 n] rfl rfl (news_int (heap_alloc_new w1 _)) (ints_one [n]) HM3.out HM4.out (by have := HB1.out.size; simp; omega) ?_; intro v2 w2 hown2 hgrow2 hnil2; have hb2' : Below w.heap.size w w2 := (HB1.out.alloc HB1.out.size _).grown hgrow2 (by have := HB1.out.size; simp; omega) (fun j hj => (HO1.out.lt j hj).1); have HO2 := Lib.hid hown2; have HB2 := Lib.hid hb2'; clear hnil2 hown2 hb2' hgrow2)
          | (at_builtin; refine wpList_append_own _ rfl (.tmp 43) (.tmp 46) 42 rfl w.heap.size 3 i0 (.int .i64 0) 1 8 Try.underlying42 hi0 hz0 hz1 hz2 rfl (by decide) v2 _ _ rfl HO2.out ⟨b, off + k, none⟩ 0 (cap - k) ((xs.drop k).map (Value.int .i64)) rfl HT2.out (news_drop (fun i hi => kept_cell HB2.out (HC.out i hi)) k) (ints_one _) HM5.out HM6.out HB2.out.size ?_; intro v3 w3 hown3 hgrow3 hnil3; have hb3' : Below w.heap.size w w3 := HB2.out.grown hgrow3 HB2.out.size (fun j hj => (HO2.out.lt j hj).1); have HO3 := Lib.hid hown3; have HB3 := Lib.hid hb3'; clear hnil3 hown3 hb3' hgrow3))
        go_ret
        exact put_end (Tm.ins_end HNO.out (by rw [HL.out]; exact Nat.le_refl _)) HL.out hk HO3.out HB3.out
      · obtain rfl : k = cap := by omega
        have HT : Hid (((xs.take k).map (Value.int .i64)).length = k * 1) := by show _ = _; rw [List.length_map, List.length_take, HL.out]; omega
        have HT2 : Hid (((xs.drop k).map (Value.int .i64)).length = 0 * 1) := by show _ = _; rw [List.length_map, List.length_drop, HL.out]; omega
        have HM1 : Hid (0 + k ≤ maxLen) := by show _ ≤ _; unfold maxLen; omega
        have HM2 : Hid ((0 + k) * 8 ≤ 140737488355328) := by show _ ≤ _; omega
        have HM3 : Hid (0 + k + 1 ≤ maxLen) := by show _ ≤ _; unfold maxLen; omega
        have HM4 : Hid ((0 + k + 1) * 8 ≤ 140737488355328) := by show _ ≤ _; omega
        have HM5 : Hid (0 + k + 1 + 0 ≤ maxLen) := by show _ ≤ _; unfold maxLen; omega
        have HM6 : Hid ((0 + k + 1 + 0) * 8 ≤ 140737488355328) := by show _ ≤ _; omega
        go_wp2_with (first
          | (at_builtin; refine wpList_append_own _ rfl (.tmp 34) (.tmp 37) 42 rfl w.heap.size 3 i0 (.int .i64 0) 1 8 Try.underlying42 hi0 hz0 hz1 hz2 rfl (by decide) _ 0 [] rfl (World.ownsRow_nil _ _ _ _) ⟨b, off, none⟩ k k ((xs.take k).map (Value.int .i64)) rfl HT.out (news_take HC.out k) (ints_one _) HM1.out HM2.out (Nat.le_refl _) ?_; intro v1 w1 hown1 hgrow1 hnil1; have hb1' : Below w.heap.size w w1 := (Below.refl _ _).grown hgrow1 (Nat.le_refl _) (fun j hj => by cases hj); have HO1 := Lib.hid hown1; have HB1 := Lib.hid hb1'; clear hnil1 hown1 hb1' hgrow1)
          | (at_builtin; refine wpList_append_own _ rfl (.tmp 39) (.tmp 41) 42 rfl w.heap.size 3 i0 (.int .i64 0) 1 8 Try.underlying42 hi0 hz0 hz1 hz2 rfl (by decide) v1 _ _ rfl (HO1.out.alloc _) ⟨w1.heap.size, 0, none⟩ 1 1 [.int .i64 n] rfl rfl (news_int (heap_alloc_new w1 _)) (ints_one [n]) HM3.out HM4.out (by have := HB1.out.size; simp; omega) ?_; intro v2 w2 hown2 hgrow2 hnil2; have hb2' : Below w.heap.size w w2 := (HB1.out.alloc HB1.out.size _).grown hgrow2 (by have := HB1.out.size; simp; omega) (fun j hj => (HO1.out.lt j hj).1); have HO2 := Lib.hid hown2; have HB2 := Lib.hid hb2'; clear hnil2 hown2 hb2' hgrow2)
          | (at_builtin; refine wpList_append_own _ rfl (.tmp 43) (.tmp 46) 42 rfl w.heap.size 3 i0 (.int .i64 0) 1 8 Try.underlying42 hi0 hz0 hz1 hz2 rfl (by decide) v2 _ _ rfl HO2.out ⟨b, off, none⟩ 0 0 ((xs.drop k).map (Value.int .i64)) rfl HT2.out (news_none (by rw [HL.out]; exact Nat.le_refl _)) (ints_one _) HM5.out HM6.out HB2.out.size ?_; intro v3 w3 hown3 hgrow3 hnil3; have hb3' : Below w.heap.size w w3 := HB2.out.grown hgrow3 HB2.out.size (fun j hj => (HO2.out.lt j hj).1); have HO3 := Lib.hid hown3; have HB3 := Lib.hid hb3'; clear hnil3 hown3 hb3' hgrow3))
        go_ret
        exact put_end (Tm.ins_end HNO.out (by rw [HL.out]; exact Nat.le_refl _)) HL.out hk HO3.out HB3.out

theorem put_any (v : Value) (xs : List Int) (n : Int) (w : World) (hv : IntsN w v xs) (hx : xs.length ≤ 100000) : Calls Try.prog 79 #[v, .int .i64 n] w (GivesInts w (Tm.ins xs n)) := by
  obtain ⟨⟨ao, b, off, len, cap, rfl, hlen, hao, hl, hr, hc⟩, hnil⟩ := hv
  by_cases h0 : len = 0
  · have hxs : xs = [] := List.eq_nil_of_length_eq_zero (by omega)
    subst hxs
    have hvn := hnil rfl
    simp only [Value.slice.injEq] at hvn
    obtain ⟨rfl, rfl, rfl⟩ := hvn
    exact put_nil n w
  · obtain rfl := hao (by omega)
    exact put_some b off len cap xs n w hlen (by omega) hl hr hc hx
end Go.Proofs.Yteoheeddjddekaa

namespace Go.Proofs.Yteoheeddjddekaa.VF
open Go.RowKit Go.Maps
set_option linter.unusedSimpArgs false
set_option linter.unusedVariables false

theorem lt_of_block' {w : World} {k : Nat} {o : Obj} (h : w.heap[k]? = some o) : k < w.heap.size := (Array.getElem?_eq_some_iff.1 h).1

def capAt (_ : Nat) (_ : Int) (_ : World) : Prop := True
theorem capAt.below {C : Nat} {x : Int} {w w' : World} (_ : capAt C x w) (_ : Below w.heap.size w w') : capAt C x w' := trivial
theorem capAt.other {C B : Nat} {x : Int} {w w' : World} (_ : capAt C x w) (_ : w.grownBy w' (some B)) (_ : C ≠ B) : capAt C x w' := trivial
def selB (_ b h n : Int) : Bool := (h == 1) && decide (b ≤ n)
def selN (b n : Int) : Int := n - b
def sel (x : Int) : Int → Int → Int → Int → Option Int := fun b _ h n => if selB x b h n then some (selN b n) else none

section
variable {H : Type} {N M B C K : Nat} {x : Int} {acc : List Int} {w w' : World}
end

theorem law : Keyed Try.prog 3 := int_keyed Try.underlying3

abbrev Cells8 (W : World) (b1 b2 : Nat) (u1 u2 u3 u4 u5 u6 u7 u8 : Value) : Prop :=
  W.cell? ⟨b1, 0, none⟩ = some u1 ∧ W.cell? ⟨b1, 1, none⟩ = some u2 ∧ W.cell? ⟨b1, 2, none⟩ = some u3 ∧ W.cell? ⟨b1, 3, none⟩ = some u4 ∧ W.cell? ⟨b2, 0, none⟩ = some u5 ∧ W.cell? ⟨b2, 1, none⟩ = some u6 ∧ W.cell? ⟨b2, 2, none⟩ = some u7 ∧ W.cell? ⟨b2, 3, none⟩ = some u8
theorem cells8_below {W W' : World} {b1 b2 : Nat} {u1 u2 u3 u4 u5 u6 u7 u8 : Value} (hb : Below W.heap.size W W') (x : Cells8 W b1 b2 u1 u2 u3 u4 u5 u6 u7 u8) : Cells8 W' b1 b2 u1 u2 u3 u4 u5 u6 u7 u8 := by
  obtain ⟨x1, x2, x3, x4, x5, x6, x7, x8⟩ := x
  exact ⟨kept_cell hb x1, kept_cell hb x2, kept_cell hb x3, kept_cell hb x4, kept_cell hb x5, kept_cell hb x6, kept_cell hb x7, kept_cell hb x8⟩

theorem cells8_only {E : Nat} {W W' : World} {b1 b2 : Nat} {u1 u2 u3 u4 u5 u6 u7 u8 : Value} (h1 : b1 ≠ E) (h2 : b2 ≠ E) (hb : Only E W W') (x : Cells8 W b1 b2 u1 u2 u3 u4 u5 u6 u7 u8) : Cells8 W' b1 b2 u1 u2 u3 u4 u5 u6 u7 u8 := by
  obtain ⟨x1, x2, x3, x4, x5, x6, x7, x8⟩ := x
  exact ⟨hb.cell h1 x1, hb.cell h1 x2, hb.cell h1 x3, hb.cell h1 x4, hb.cell h2 x5, hb.cell h2 x6, hb.cell h2 x7, hb.cell h2 x8⟩

end Go.Proofs.Yteoheeddjddekaa.VF

namespace Go.Proofs.Yteoheeddjddekaa

section
variable {P : Program} {ops : Array Oper} {st : Oper} {Q : Exit → Act → World → Prop} {md : Region.Mode}

/-- Behind all other operations the last one is run. -/
def lastQ (P : Program) (ops : Array Oper) (Q : Exit → Act → World → Prop) (n : Nat) : Exit → Act → World → Prop
  | .normal, a, w => wpOp P ops Q n (Q .normal) a w
  | e, a, w => Q e a w

theorem lastQ_list {n : Nat} {o : Oper} {a : Act} {w : World} (ho : ops[n]? = some o) (h : wpList P ops Q [o] a w) : lastQ P ops Q n .normal a w := by
  show wpOp P ops Q n (Q .normal) a w
  unfold wpOp
  rw [ho]
  exact h

/-- every guard is one of these operations -/
def guardsB (ops : Array Oper) : Bool := ops.all fun o => match o.guard with | some (g, _) => decide (g < ops.size) | none => true
/-- every operation waits for earlier ones alone -/
def backB (ops : Array Oper) : Bool := (List.range ops.size).all fun j => match ops[j]? with | some o => o.after.all (fun e => decide (e.on < j)) | none => true

theorem backB_spec (h : backB ops = true) {j : Nat} {o : Oper} (ho : ops[j]? = some o) : ∀ e ∈ o.after, e.on < j := by
  intro e he
  have hj : j < ops.size := (Array.getElem?_eq_some_iff.1 ho).1
  have h1 := List.all_eq_true.1 h j (List.mem_range.2 hj)
  rw [ho] at h1
  simpa using (Array.all_eq_true'.1 h1) e he

theorem push_get (i : Nat) (hi : i < ops.size) : (ops.push st)[i]? = ops[i]? := by rw [Array.getElem?_push, if_neg (by omega)]

theorem wanted_push {o : Oper} {i : Nat} (hg : guardsB ops = true) (ho : ops[i]? = some o) (t : Array Value) : Region.wanted o (yielded (ops.push st) t) = Region.wanted o (yielded ops t) := by
  unfold Region.wanted
  cases hgd : o.guard with
  | none => rfl
  | some g =>
    obtain ⟨g, b⟩ := g
    have h1 := (Array.all_eq_true'.1 hg) o (Array.mem_of_getElem? ho)
    rw [hgd] at h1
    have h2 : g < ops.size := by simpa using h1
    simp only [yielded, push_get g h2]

theorem wpOp_push {i : Nat} {K K' : Act → World → Prop} {a : Act} {w : World} (hi : i < ops.size) (hg : guardsB ops = true) (hk : ∀ a w, K' a w → K a w)
    (h : wpOp P ops (lastQ P (ops.push st) Q ops.size) i K' a w) : wpOp P (ops.push st) Q i K a w := by
  unfold wpOp at *
  rw [push_get i hi]
  obtain ⟨o, ho⟩ : ∃ o, ops[i]? = some o := ⟨ops[i], Array.getElem?_eq_getElem hi⟩
  simp only [ho] at h ⊢
  rw [wanted_push hg ho]
  have out : LetsOut (lastQ P (ops.push st) Q ops.size) → LetsOut Q := fun ⟨a, w, h⟩ => ⟨a, w, h⟩
  split
  · rename_i hw
    simp only [hw, if_true] at h
    rcases h with h | ⟨h1, h2⟩
    · refine .inl ?_
      unfold Oper.wp at *
      generalize (execOp a.eval o).run P w = r at *
      cases r with
      | ok n w' =>
        cases n <;> simp only [Oper.upon] at h ⊢
        case value => exact hk _ _ h
        case skip => exact hk _ _ h
        case defer => exact hk _ _ h
        case enter f args =>
          refine Calls.mono h fun e w'' he => ?_
          cases e with
          | returned u => exact hk _ _ he
          | panicked c => exact he
          | outgrown => exact out he
        case row row args => exact Rows.mono h fun u w'' he => hk _ _ he
      | halt x w' => cases x <;> simp only [Oper.upon] at h ⊢ <;> exact h
    · exact .inr ⟨h1, out h2⟩
  · rename_i hw
    simp only [hw] at h
    exact hk _ _ h

theorem getD_push_lt {listed : Array Bool} {i : Nat} (d b : Bool) (hi : i < listed.size) : (listed.push b).getD i d = listed.getD i d := by
  simp [Array.getD, hi, show i < listed.size + 1 by omega, Array.getElem_push_lt hi]

theorem ready_push {listed : Array Bool} (hl : listed.size = ops.size) (hback : backB (ops.push st) = true) {i : Nat} (hi : i < ops.size) :
    i ∈ Region.ready md (ops.push st) (listed.push false) ↔ i ∈ Region.ready md ops listed := by
  rw [mem_ready, mem_ready, push_get i hi, getD_push_lt _ _ (by omega)]
  refine and_congr_right fun _ => exists_congr fun o => and_congr_right fun ho => ?_
  refine forall_congr' fun e => forall_congr' fun he => forall_congr' fun _ => ?_
  have := backB_spec hback (j := i) (o := o) (by rw [push_get i hi]; exact ho) e he
  rw [getD_push_lt _ _ (by omega)]

theorem set_push_lt {listed : Array Bool} {i : Nat} (hi : i < listed.size) : (listed.push false).setIfInBounds i true = (listed.setIfInBounds i true).push false := by
  obtain ⟨l⟩ := listed
  simp only [List.push_toArray, List.setIfInBounds_toArray, List.size_toArray] at hi ⊢
  rw [List.set_append, if_pos hi]

theorem all_listed {listed : Array Bool} (hl : listed.size = ops.size) (hback : backB (ops.push st) = true) (hr : Region.ready md ops listed = []) : ∀ i, i < ops.size → listed.getD i true = true := by
  intro i
  induction i using Nat.strongRecOn with
  | _ i ih =>
    intro hi
    cases hc : listed.getD i true with
    | true => rfl
    | false =>
      exfalso
      have : i ∈ Region.ready md ops listed := by
        rw [mem_ready]
        refine ⟨hc, ops[i], Array.getElem?_eq_getElem hi, fun e he _ => ?_⟩
        have h1 := backB_spec hback (j := i) (o := ops[i]) (by rw [push_get i hi]; exact Array.getElem?_eq_getElem hi) e he
        have h2 := ih e.on h1 (by omega)
        simp [Array.getD, show e.on < listed.size by omega] at h2 ⊢
        exact h2
      rw [hr] at this
      cases this

theorem wpAny_last (hg : guardsB ops = true) (hback : backB (ops.push st) = true) (hs : Region.sinkB md (ops.push st) ops.size = true) (hc : Region.chainB md (ops.push st) ops.size = true) :
    ∀ (f : Nat) (listed : Array Bool) (a : Act) (w : World), listed.size = ops.size → HeadInv md (ops.push st) ops.size (listed.push false) →
      wpAny P md ops (lastQ P (ops.push st) Q ops.size) f listed a w → wpAny P md (ops.push st) Q (f + 1) (listed.push false) a w := by
  have final : ∀ (f : Nat) (listed : Array Bool) (a : Act) (w : World), listed.size = ops.size → Region.ready md ops listed = [] → lastQ P (ops.push st) Q ops.size .normal a w → wpAny P md (ops.push st) Q (f + 1) (listed.push false) a w := by
    intro f listed a w hl hr h
    have hall := all_listed hl hback hr
    have hn : ops.size ∈ Region.ready md (ops.push st) (listed.push false) := by
      rw [mem_ready]
      refine ⟨by rw [← hl]; simp [Array.getD], st, by simp, fun e he _ => ?_⟩
      have h1 := backB_spec hback (j := ops.size) (o := st) (by simp) e he
      have h2 := hall e.on h1
      rw [getD_push_lt _ _ (by omega)]
      simp [Array.getD, show e.on < listed.size by omega] at h2 ⊢
      exact h2
    refine ⟨(fun h0 => by rw [h0] at hn; cases hn), fun i hi => ?_⟩
    by_cases hin : i < ops.size
    · rw [ready_push hl hback hin, hr] at hi; cases hi
    · have hin' : i = ops.size := by
        obtain ⟨_, o, ho, _⟩ := mem_ready.1 hi
        have := (Array.getElem?_eq_some_iff.1 ho).1
        simp at this; omega
      subst hin'
      have done : Region.ready md (ops.push st) ((listed.push false).setIfInBounds ops.size true) = [] := by
        apply List.eq_nil_iff_forall_not_mem.2
        intro j hj
        obtain ⟨h1, o, ho, _⟩ := mem_ready.1 hj
        have hj2 := (Array.getElem?_eq_some_iff.1 ho).1
        simp only [Array.size_push] at hj2
        by_cases hjn : j = ops.size
        · subst hjn
          simp [Array.getD, hl] at h1
        · have h3 := hall j (by omega)
          rw [getD_set_ne true (by omega), getD_push_lt _ _ (by omega), h3] at h1
          cases h1
      refine wpOp_mono (fun a' w' hq => ?_) h
      cases f with
      | zero => exact ⟨done, hq⟩
      | succ f => exact ⟨fun _ => hq, by rw [done]; simp⟩
  intro f
  induction f with
  | zero => intro listed a w hl _ h; exact final 0 listed a w hl h.1 h.2
  | succ f ih =>
    intro listed a w hl inv h
    by_cases hr : Region.ready md ops listed = []
    · exact final _ listed a w hl hr (h.1 hr)
    · have hx : ∃ i0, i0 < ops.size ∧ i0 ∈ Region.ready md ops listed := by
        obtain ⟨i0, hi0⟩ := List.exists_mem_of_ne_nil _ hr
        obtain ⟨_, o, ho, _⟩ := mem_ready.1 hi0
        exact ⟨i0, (Array.getElem?_eq_some_iff.1 ho).1, hi0⟩
      obtain ⟨i0, hi0, hm0⟩ := hx
      refine ⟨(fun h0 => by rw [← ready_push hl hback hi0, h0] at hm0; cases hm0), fun i hi => ?_⟩
      by_cases hin : i < ops.size
      · refine wpOp_push hin hg (fun a' w' hk => ?_) (h.2 i ((ready_push hl hback hin).1 hi))
        have e := set_push_lt (listed := listed) (i := i) (by omega)
        rw [e]
        exact ih _ _ _ (by simp [hl]) (by rw [← e]; exact inv.set hi hin) hk
      · exfalso
        have hu : (listed.push false).getD i0 true = false := (mem_ready.1 ((ready_push hl hback hi0).2 hm0)).1
        exact tail_waits hs hc (by simp) inv (ops.size - i0) i0 rfl hi0 hu i (by omega) hi

/-- THE BEGINNING: the region without its last operation, under S; behind it the last one. -/
theorem wp_region_last {S : World → Prop} {id : Nat} {all : Array Oper} {a : Act} {w : World} (hm : P.follows .mixedOrders = true) (he : all = ops.push st) (hg : guardsB ops = true) (hback : backB all = true)
    (hs : Region.sinkB .any all ops.size = true) (hc : Region.chainB .any all ops.size = true) (hS : S w.drew)
    (h : S w.drew → wpAnyH P .any ops (lastQ P all Q ops.size) S ops.size (Array.replicate ops.size false) a w.drew) : (Code.region id all true).wp P Q a w := by
  subst he
  refine wp_region_any hm ?_
  have e : Array.replicate (ops.push st).size false = (Array.replicate ops.size false).push false := by simp [Array.replicate_succ]
  rw [e, Array.size_push]
  refine wpAny_last hg hback hs hc ops.size _ a _ (by simp) ⟨by simp, fun j oj _ hl => ?_, fun t ht ht' => ?_⟩ (wpAny_of_held _ _ _ _ (h hS))
  · exfalso
    rw [← e, getD_replicate_false] at hl
    cases hl
  · simp only [Array.size_push] at ht'
    obtain rfl : t = ops.size := by omega
    simp [Array.getD, Array.getElem_push]

theorem wp_region_last_of {S : World → Prop} {id : Nat} {all : Array Oper} {a : Act} {w : World} (hm : P.follows .mixedOrders = true) (he : all.pop = ops) (hl : all.back? = some st) (hg : guardsB ops = true) (hback : backB all = true)
    (hs : Region.sinkB .any all ops.size = true) (hc : Region.chainB .any all ops.size = true) (hS : S w.drew)
    (h : S w.drew → wpAnyH P .any ops (lastQ P all Q ops.size) S ops.size (Array.replicate ops.size false) a w.drew) : (Code.region id all true).wp P Q a w := by
  have e : all = ops.push st := by
    subst he
    obtain ⟨l⟩ := all
    simp only [List.back?_toArray] at hl
    simp only [List.pop_toArray, List.push_toArray]
    congr 1
    rw [List.getLast?_eq_some_iff] at hl
    obtain ⟨ys, rfl⟩ := hl
    simp
  exact wp_region_last hm e hg hback hs hc hS h

end
end Go.Proofs.Yteoheeddjddekaa

namespace Go.Proofs.Yteoheeddjddekaa
open Go.RowKit
set_option linter.unusedSimpArgs false
set_option linter.unusedVariables false

set_option maxHeartbeats 400000 in
theorem below_any (o h n : Int) (v : Value) (i : Nat) (w : World) :
    Calls Try.prog 80 #[.agg #[.int .i64 o, .int .i64 h, .int .i64 n, v], .int .i64 i] w fun e w' => e = .returned (.int .i64 (Tm.belowN o i)) ∧ Below w.heap.size w w' := by
  by_cases h3 : o = 3
  · subst h3
    go_enter Try.func80, Try.ntmps80
    go_wp2
    go_ret
    exact ⟨rfl, one_below w _⟩
  · by_cases h2 : o = 2
    · subst h2
      by_cases hi : i = 1
      · subst hi
        go_enter Try.func80, Try.ntmps80
        go_wp2
        go_ret
        exact ⟨rfl, one_below w _⟩
      · have e : Tm.belowN 2 i = 0 := by simp [Tm.belowN, hi]
        have E := Lib.hid e
        have hi' : ((i : Int) == 1) = false := by rw [beq_eq_false_iff_ne]; omega
        clear e
        go_enter Try.func80, Try.ntmps80
        go_wp2
        go_ret
        exact ⟨ret_int (by rw [E.out]), one_below w _⟩
    · have e : Tm.belowN o i = 0 := by simp [Tm.belowN, h3, h2]
      have E := Lib.hid e
      clear e
      go_enter Try.func80, Try.ntmps80
      go_wp2
      go_ret
      exact ⟨ret_int (by rw [E.out]), one_below w _⟩

/-- A call gives a term in new memory. -/
def GivesT (w : World) (t : Tm) (e : Ending) (w' : World) : Prop :=
  ∃ v, e = .returned (.agg #[.int .i64 t.op, .int .i64 t.hd, .int .i64 t.n, v]) ∧ Below w.heap.size w w' ∧ Lies w' (w.heap.size ≤ ·) v t.args

section
variable {W W' : World} {p1 p2 p3 p4 p5 p6 p7 p8 p9 : Addr} {u1 u2 u3 u4 u5 u6 u7 u8 u9 : Value}
abbrev CellsP9 (W : World) (p1 p2 p3 p4 p5 p6 p7 p8 p9 : Addr) (u1 u2 u3 u4 u5 u6 u7 u8 u9 : Value) : Prop :=
  W.cell? p1 = some u1 ∧ W.cell? p2 = some u2 ∧ W.cell? p3 = some u3 ∧ W.cell? p4 = some u4 ∧ W.cell? p5 = some u5 ∧ W.cell? p6 = some u6 ∧ W.cell? p7 = some u7 ∧ W.cell? p8 = some u8 ∧ W.cell? p9 = some u9
theorem cellsP9_below (hb : Below W.heap.size W W') (x : CellsP9 W p1 p2 p3 p4 p5 p6 p7 p8 p9 u1 u2 u3 u4 u5 u6 u7 u8 u9) : CellsP9 W' p1 p2 p3 p4 p5 p6 p7 p8 p9 u1 u2 u3 u4 u5 u6 u7 u8 u9 := by
  obtain ⟨x1, x2, x3, x4, x5, x6, x7, x8, x9⟩ := x
  exact ⟨kept_cell hb x1, kept_cell hb x2, kept_cell hb x3, kept_cell hb x4, kept_cell hb x5, kept_cell hb x6, kept_cell hb x7, kept_cell hb x8, kept_cell hb x9⟩
theorem cellsP9_far {B : Nat} {row : Option Nat} (hg : W.grownBy W' row) (hr : ∀ k, row = some k → B ≤ k) (hp : ∀ p, (p = p1 ∨ p = p2 ∨ p = p3 ∨ p = p4 ∨ p = p5 ∨ p = p6 ∨ p = p7 ∨ p = p8 ∨ p = p9) → p.block < B)
    (x : CellsP9 W p1 p2 p3 p4 p5 p6 p7 p8 p9 u1 u2 u3 u4 u5 u6 u7 u8 u9) : CellsP9 W' p1 p2 p3 p4 p5 p6 p7 p8 p9 u1 u2 u3 u4 u5 u6 u7 u8 u9 := by
  obtain ⟨x1, x2, x3, x4, x5, x6, x7, x8, x9⟩ := x
  exact ⟨far_cell hg x1 hr (hp _ (by simp)), far_cell hg x2 hr (hp _ (by simp)), far_cell hg x3 hr (hp _ (by simp)), far_cell hg x4 hr (hp _ (by simp)), far_cell hg x5 hr (hp _ (by simp)), far_cell hg x6 hr (hp _ (by simp)), far_cell hg x7 hr (hp _ (by simp)), far_cell hg x8 hr (hp _ (by simp)), far_cell hg x9 hr (hp _ (by simp))⟩
end

theorem lies_one {w : World} {S : Nat → Prop} {v : Value} {l : List Tm} (h : Lies w S v l) : v.oneCell' = true := by
  obtain ⟨ao, b, off, len, cap, oo, hh, kk, sv, ts, rfl, R⟩ := h.open; rfl

end Go.Proofs.Yteoheeddjddekaa

namespace Go.Proofs.Yteoheeddjddekaa
open Go.RowKit
set_option linter.unusedSimpArgs false
set_option linter.unusedVariables false
namespace Tm
mutual
/-- has a free variable a number from a to b? -/
def low : Int → Int → Tm → Bool
  | a, b, .mk o h n l => (o == 4 && h == 1 && decide (a ≤ n) && decide (n ≤ b)) || lowL a b o 0 l
def lowL : Int → Int → Int → Nat → List Tm → Bool
  | _, _, _, _, [] => false
  | a, b, o, i, t :: l => low (a + belowN o i) (b + belowN o i) t || lowL a b o (i + 1) l
end
theorem lowL_snoc (a b o : Int) : ∀ (l : List Tm) (i : Nat) (t : Tm), lowL a b o i (l ++ [t]) = (lowL a b o i l || low (a + belowN o (i + l.length)) (b + belowN o (i + l.length)) t)
  | [], i, t => by simp [lowL]
  | x :: l, i, t => by
    simp only [List.cons_append, lowL, lowL_snoc a b o l (i + 1) t, List.length_cons]
    rw [show i + 1 + l.length = i + (l.length + 1) by omega, Bool.or_assoc]
theorem lowL_append (a b o : Int) : ∀ (l m : List Tm) (i : Nat), lowL a b o i l = true → lowL a b o i (l ++ m) = true
  | x :: l, m, i, h => by
    simp only [List.cons_append, lowL, Bool.or_eq_true] at h ⊢
    rcases h with h | h
    · exact .inl h
    · exact .inr (lowL_append a b o l m (i + 1) h)
  | [], m, i, h => by simp [lowL] at h
/-- none of the first k parts has one -/
def LowTo (a b o : Int) (l : List Tm) (k : Nat) : Prop := lowL a b o 0 (l.take k) = false
theorem LowTo.zero (a b o : Int) (l : List Tm) : LowTo a b o l 0 := by simp [LowTo, lowL]
theorem LowTo.step {a b o : Int} {l : List Tm} {k : Nat} (h : LowTo a b o l k) (hk : k < l.length) (e : low (a + belowN o k) (b + belowN o k) l[k] = false) : LowTo a b o l (k + 1) := by
  unfold LowTo at *
  rw [List.take_succ_eq_append_getElem hk, lowL_snoc, h, List.length_take, Nat.min_eq_left (by omega), Nat.zero_add, e]; rfl
theorem LowTo.hit {a b o : Int} {l : List Tm} {k : Nat} (hk : k < l.length) (e : low (a + belowN o k) (b + belowN o k) l[k] = true) : lowL a b o 0 l = true := by
  have h : lowL a b o 0 (l.take (k + 1)) = true := by
    rw [List.take_succ_eq_append_getElem hk, lowL_snoc, List.length_take, Nat.min_eq_left (by omega), Nat.zero_add, e, Bool.or_true]
  have := lowL_append a b o (l.take (k + 1)) (l.drop (k + 1)) 0 h
  rwa [List.take_append_drop] at this
theorem LowTo.all {a b o : Int} {l : List Tm} {k : Nat} (h : LowTo a b o l k) (hk : l.length ≤ k) : lowL a b o 0 l = false := by
  unfold LowTo at h; rwa [List.take_of_length_le hk] at h
end Tm

end Go.Proofs.Yteoheeddjddekaa

namespace Go.Proofs.Yteoheeddjddekaa
open Go.RowKit
namespace Tm

theorem headOk_var {o n : Int} {len : Nat} {h : Int} (e : headOk o h n len = true) (h1 : (h == 1) = true) : (o == 4) = true := by
  have h1' : h = 1 := by simpa using h1
  rcases headOk_yes o h n len e with ⟨_, _, rfl, _⟩ | ⟨_, _, rfl, _⟩ | ⟨_, _, rfl, _⟩ | ⟨rfl, _⟩
  · omega
  · omega
  · omega
  · rfl

theorem formed_parts {o h n : Int} {l : List Tm} {dp : Nat} (hf : formed (.mk o h n l) dp = true) : dp ≤ 40 ∧ headOk o h n l.length = true ∧ formedL l (dp + 1) = true := by
  simp only [formed, Bool.and_eq_true, decide_eq_true_eq] at hf
  exact ⟨hf.1.1, hf.1.2, hf.2⟩

mutual
theorem ren_moved (d fr : Int) : ∀ (t : Tm) (b : Int) (dp : Nat), formed t dp = true → ren (shF d fr) b t = moved d (fr + b) t
  | .mk o h n l, b, dp, hf => by
    obtain ⟨_, h2, h3⟩ := formed_parts hf
    simp only [ren, moved, renL_moved d fr l b o 0 (dp + 1) h3, shF]
    congr 1
    rcases h1 : (h == 1) with _ | _
    · simp
    · simp [headOk_var h2 h1]
theorem renL_moved (d fr : Int) : ∀ (l : List Tm) (b o : Int) (i dp : Nat), formedL l dp = true → renL (shF d fr) b o i l = movedL d (fr + b) o i l
  | [], _, _, _, _, _ => rfl
  | t :: l, b, o, i, dp, hf => by
    simp only [formedL, Bool.and_eq_true] at hf
    simp only [renL, movedL, ren_moved d fr t (b + belowN o i) dp hf.1, renL_moved d fr l b o (i + 1) dp hf.2, Int.add_assoc]
end

mutual
theorem err_low (d fr : Int) (hd : d < 0) : ∀ (t : Tm) (b e : Int) (dp : Nat), formed t dp = true → errT (shG d fr) b t e = if low (fr + b) (fr + b - d - 1) t then 27 else e
  | .mk o h n l, b, e, dp, hf => by
    obtain ⟨_, h2, h3⟩ := formed_parts hf
    have hn : n ≤ 9999 := by rcases headOk_yes o h n l.length h2 with ⟨_, _, _, rfl⟩ | ⟨_, _, _, rfl⟩ | ⟨_, _, _, rfl⟩ | ⟨_, _, _, _, h⟩ <;> omega
    simp only [errT, low, errL_low d fr hd l b o 0 _ (dp + 1) h3]
    rcases Bool.eq_false_or_eq_true (h == 1) with h1 | h1
    rotate_left
    · simp [shG, h1]
    · have ho := headOk_var h2 h1
      simp only [shG, h1, ho, Bool.true_and]
      by_cases c1 : fr + b ≤ n
      · by_cases c2 : n + d < fr + b
        · have c3 : n ≤ fr + b - d - 1 := by omega
          simp [c1, c2, c3]
        · have c3 : ¬ n ≤ fr + b - d - 1 := by omega
          have c4 : ¬ 9999 < n + d := by omega
          simp [c1, c2, c3, c4]
      · simp [c1]
theorem errL_low (d fr : Int) (hd : d < 0) : ∀ (l : List Tm) (b o : Int) (i : Nat) (e : Int) (dp : Nat), formedL l dp = true → errL (shG d fr) b o i l e = if lowL (fr + b) (fr + b - d - 1) o i l then 27 else e
  | [], _, _, _, _, _, _ => rfl
  | t :: l, b, o, i, e, dp, hf => by
    simp only [formedL, Bool.and_eq_true] at hf
    simp only [errL, lowL, err_low d fr hd t (b + belowN o i) e dp hf.1, errL_low d fr hd l b o (i + 1) _ dp hf.2]
    rw [show fr + (b + belowN o i) = fr + b + belowN o i from by omega, show fr + b + belowN o i - d - 1 = fr + b - d - 1 + belowN o i from by omega]
    rcases Bool.eq_false_or_eq_true (low (fr + b + belowN o i) (fr + b - d - 1 + belowN o i) t) with h1 | h1 <;> rcases Bool.eq_false_or_eq_true (lowL (fr + b) (fr + b - d - 1) o (i + 1) l) with h2 | h2 <;> simp [h1, h2]
end

theorem headOk_num {o h n n' : Int} {len : Nat} (e : headOk o h n len = true) (h1 : (h == 1) = true) : headOk o h n' len = (decide (0 ≤ n') && decide (n' ≤ 9999)) := by
  have ho := headOk_var e h1
  have ho' : o = 4 := by simpa using ho
  have h1' : h = 1 := by simpa using h1
  subst ho' h1'
  simp [headOk]

mutual
theorem moved_formed (d fr : Int) : ∀ (t : Tm) (b : Int) (dp : Nat), formed t dp = true → 0 ≤ fr + b → (d < 0 → low (fr + b) (fr + b - d - 1) t = false) →
    ∀ e, errT (shG d fr) b t e = if formed (moved d (fr + b) t) dp then e else 5
  | .mk o h n l, b, dp, hf, h0, hlow, e => by
    obtain ⟨h1, h2, h3⟩ := formed_parts hf
    have hn : 0 ≤ n ∧ n ≤ 9999 := by rcases headOk_yes o h n l.length h2 with ⟨_, _, _, rfl⟩ | ⟨_, _, _, rfl⟩ | ⟨_, _, _, rfl⟩ | ⟨_, _, _, _, _⟩ <;> omega
    have hlowL : d < 0 → lowL (fr + b) (fr + b - d - 1) o 0 l = false := fun hd => by
      have := hlow hd
      simp only [low, Bool.or_eq_false_iff] at this
      exact this.2
    have hlowN : d < 0 → (h == 1) = true → ¬ (fr + b ≤ n ∧ n ≤ fr + b - d - 1) := fun hd hh => by
      have := hlow hd
      have ho := headOk_var h2 hh
      simp only [low, Bool.or_eq_false_iff, hh, ho, Bool.true_and, Bool.and_eq_false_iff, decide_eq_false_iff_not] at this
      intro hc
      rcases this.1 with h | h
      · exact h hc.1
      · exact h hc.2
    simp only [errT, movedL_formed d fr l b o 0 (dp + 1) h3 h0 hlowL, moved, formed, movedL_length]
    rcases hh : (h == 1) with _ | _
    · simp [shG, hh, h1, h2]
    · have ho := headOk_var h2 hh
      rw [headOk_num h2 hh]
      simp only [shG, hh, ho, Bool.true_and]
      by_cases c1 : fr + b ≤ n
      · have c2 : ¬ n + d < fr + b := fun c => by
          by_cases hd : d < 0
          · exact hlowN hd hh ⟨c1, by omega⟩
          · omega
        by_cases c3 : 9999 < n + d
        · have c4 : ¬ n + d ≤ 9999 := by omega
          simp [c1, c2, c3, c4]
        · have c4 : n + d ≤ 9999 := by omega
          have c5 : 0 ≤ n + d := by omega
          simp [c1, c2, c3, c4, c5, h1]
      · simp [c1, h1, hn]
theorem movedL_formed (d fr : Int) : ∀ (l : List Tm) (b o : Int) (i dp : Nat), formedL l dp = true → 0 ≤ fr + b → (d < 0 → lowL (fr + b) (fr + b - d - 1) o i l = false) →
    ∀ e, errL (shG d fr) b o i l e = if formedL (movedL d (fr + b) o i l) dp then e else 5
  | [], _, _, _, _, _, _, _, _ => rfl
  | t :: l, b, o, i, dp, hf, h0, hlow, e => by
    simp only [formedL, Bool.and_eq_true] at hf
    have hb := belowN_bd o i
    have l1 : d < 0 → low (fr + (b + belowN o i)) (fr + (b + belowN o i) - d - 1) t = false := fun hd => by
      have := hlow hd
      simp only [lowL, Bool.or_eq_false_iff] at this
      rw [show fr + (b + belowN o i) = fr + b + belowN o i from by omega, show fr + b + belowN o i - d - 1 = fr + b - d - 1 + belowN o i from by omega]
      exact this.1
    have l2 : d < 0 → lowL (fr + b) (fr + b - d - 1) o (i + 1) l = false := fun hd => by
      have := hlow hd
      simp only [lowL, Bool.or_eq_false_iff] at this
      exact this.2
    simp only [errL, movedL, formedL, moved_formed d fr t (b + belowN o i) dp hf.1 (by omega) l1, movedL_formed d fr l b o (i + 1) dp hf.2 h0 l2, Int.add_assoc]
    rcases formed (moved d (fr + (b + belowN o i)) t) dp with _ | _ <;> rcases formedL (movedL d (fr + b) o (i + 1) l) dp with _ | _ <;> rfl
end

mutual
theorem moved_sz (d : Int) : ∀ (t : Tm) (fr : Int), sz (moved d fr t) = sz t
  | .mk o h n l, fr => by simp only [moved, sz, movedL_sz d l fr o 0]
theorem movedL_sz (d : Int) : ∀ (l : List Tm) (fr o : Int) (i : Nat), szL (movedL d fr o i l) = szL l
  | [], _, _, _ => rfl
  | t :: l, fr, o, i => by simp only [movedL, szL, moved_sz d t, movedL_sz d l fr o (i + 1)]
end
end Tm

/-- what the reference's Shift returns -/
def shiftRef (d fr : Int) (t : Tm) : Tm × Int :=
  if shiftArgs d fr t then (if d < 0 ∧ Tm.low fr (fr - d - 1) t = true then (Tm.zero, 27) else if Tm.proper (Tm.moved d fr t) then (Tm.moved d fr t, 0) else (Tm.zero, 5)) else (Tm.zero, 2)

theorem shift_same (d fr : Int) (t : Tm) : shiftOut d fr t = shiftRef d fr t := by
  unfold shiftOut shiftRef
  rcases hs : shiftArgs d fr t with _ | _
  · rfl
  · have hs' := hs
    simp only [shiftArgs, Bool.and_eq_true, decide_eq_true_eq] at hs'
    obtain ⟨⟨⟨⟨hp, hd0⟩, hd1⟩, hf0⟩, hf1⟩ := hs'
    have hpf := hp
    simp only [Tm.proper, Bool.and_eq_true, decide_eq_true_eq] at hpf
    have hr := Tm.ren_moved d fr t 0 1 hpf.2
    rw [Int.add_zero] at hr
    have hpm : Tm.proper (Tm.moved d fr t) = Tm.formed (Tm.moved d fr t) 1 := by
      unfold Tm.proper
      rw [Tm.moved_sz, decide_eq_true hpf.1, Bool.true_and]
    simp only [if_true]
    rw [hr, hpm]
    by_cases hlow : d < 0 ∧ Tm.low fr (fr - d - 1) t = true
    · have he := Tm.err_low d fr hlow.1 t 0 0 1 hpf.2
      rw [Int.add_zero, hlow.2] at he
      rw [if_pos hlow, he]
      rfl
    · rw [if_neg hlow]
      have he := Tm.moved_formed d fr t 0 1 hpf.2 (by omega) (fun hd => by
        rw [Int.add_zero]
        rcases h : Tm.low fr (fr - d - 1) t with _ | _
        · rfl
        · exact absurd ⟨hd, h⟩ hlow) 0
      rw [Int.add_zero] at he
      rw [he]
      rcases Tm.formed (Tm.moved d fr t) 1 with _ | _ <;> rfl
end Go.Proofs.Yteoheeddjddekaa

namespace Go.Proofs.Yteoheeddjddekaa
open Go.RowKit
set_option linter.unusedSimpArgs false
set_option linter.unusedVariables false

/-- the end of a call that returns a zero term and an error behind its result's block -/
theorem ends_zero {w w1 : World} {x : Int} {y : Tm × Int} (hy : y = (Tm.zero, x)) (hb : Below w.heap.size w w1) : GivesE w y (.returned (.tuple #[.agg #[.int .i64 0, .int .i64 0, .int .i64 0, .slice none 0 0], .int .i64 x]))
    ((((w1.setCell ⟨w.heap.size + 1, 0, none⟩ (.int .i64 0)).setCell ⟨w.heap.size + 1, 1, none⟩ (.int .i64 0)).setCell ⟨w.heap.size + 1, 2, none⟩ (.int .i64 0)).setCell ⟨w.heap.size + 1, 3, none⟩ (.slice none 0 0)) :=
  givesE_zero hy ((((hb.setCell (by simp) _).setCell (by simp) _).setCell (by simp) _).setCell (by simp) _)

end Go.Proofs.Yteoheeddjddekaa
