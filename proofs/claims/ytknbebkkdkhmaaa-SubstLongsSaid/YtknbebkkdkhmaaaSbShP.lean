/- What a long form is a form of, as a plain function on terms; and the loop that takes the TLams off. -/
import Derived.Test.YtknbebkkdkhmaaaSbGc
namespace Go.Proofs.Ytknbebkkdkhmaaa.Sb
open Go.RowKit
set_option linter.unusedSimpArgs false
set_option linter.unusedVariables false

mutual
/-- the head of which a term below so many TLams is the long form -/
def short : Nat → Tm → Int × Int × Bool
  | c, .mk o h n l =>
    if o == 3 then short1 c l
    else if o == 4 && l.length == c && shortL c 0 l then (if h == 1 then (h, n - c, decide ((c : Int) ≤ n)) else (h, n, true))
    else (0, 0, false)
def short1 : Nat → List Tm → Int × Int × Bool
  | c, [b] => short (c + 1) b
  | _, _ => (0, 0, false)
def shortL : Nat → Nat → List Tm → Bool
  | _, _, [] => true
  | c, i, a :: l => ((short 0 a).2.2 && (short 0 a).1 == 1 && (short 0 a).2.1 == (c : Int) - 1 - i) && shortL c (i + 1) l
end
/-- is a part the long form of its variable? -/
def shortAt (c i : Nat) (a : Tm) : Bool := (short 0 a).2.2 && (short 0 a).1 == 1 && (short 0 a).2.1 == (c : Int) - 1 - i
theorem shortL_cons (c i : Nat) (a : Tm) (l : List Tm) : shortL c i (a :: l) = (shortAt c i a && shortL c (i + 1) l) := by simp only [shortL, shortAt]
theorem shortL_snoc (c : Nat) : ∀ (l : List Tm) (i : Nat) (a : Tm), shortL c i (l ++ [a]) = (shortL c i l && shortAt c (i + l.length) a)
  | [], i, a => by simp [shortL, shortAt]
  | b :: l, i, a => by
    simp only [List.cons_append, shortL_cons, shortL_snoc c l (i + 1) a, List.length_cons]
    rw [show i + 1 + l.length = i + (l.length + 1) by omega, Bool.and_assoc]
theorem shortL_append (c : Nat) : ∀ (l m : List Tm) (i : Nat), shortL c i l = false → shortL c i (l ++ m) = false
  | b :: l, m, i, h => by
    simp only [List.cons_append, shortL_cons, Bool.and_eq_false_iff] at h ⊢
    rcases h with h | h
    · exact .inl h
    · exact .inr (shortL_append c l m (i + 1) h)
  | [], m, i, h => by simp [shortL] at h
/-- the first parts are -/
def ShTo (c : Nat) (l : List Tm) (k : Nat) : Prop := shortL c 0 (l.take k) = true
theorem ShTo.zero (c : Nat) (l : List Tm) : ShTo c l 0 := by simp [ShTo, shortL]
theorem ShTo.step {c : Nat} {l : List Tm} {k : Nat} (h : ShTo c l k) (hk : k < l.length) (e : shortAt c k l[k] = true) : ShTo c l (k + 1) := by
  unfold ShTo at *
  rw [List.take_succ_eq_append_getElem hk, shortL_snoc, h, List.length_take, Nat.min_eq_left (by omega), Nat.zero_add, e]; rfl
theorem ShTo.hit {c : Nat} {l : List Tm} {k : Nat} (hk : k < l.length) (e : shortAt c k l[k] = false) : shortL c 0 l = false := by
  have h : shortL c 0 (l.take (k + 1)) = false := by
    rw [List.take_succ_eq_append_getElem hk, shortL_snoc, List.length_take, Nat.min_eq_left (by omega), Nat.zero_add, e, Bool.and_false]
  have := shortL_append c (l.take (k + 1)) (l.drop (k + 1)) 0 h
  rwa [List.take_append_drop] at this
theorem ShTo.all {c : Nat} {l : List Tm} {k : Nat} (h : ShTo c l k) (hk : l.length ≤ k) : shortL c 0 l = true := by
  unfold ShTo at h; rwa [List.take_of_length_le hk] at h

theorem short_lam (c : Nat) (h n : Int) (b : Tm) : short c (.mk 3 h n [b]) = short (c + 1) b := by
  simp only [short, short1]; rfl
theorem short_op {c : Nat} {o h n : Int} {l : List Tm} (h3 : (o == 3) = false) (h4 : (o == 4) = false) : short c (.mk o h n l) = (0, 0, false) := by
  simp only [short, h3, h4, Bool.false_and, Bool.false_eq_true, if_false]
theorem short_len {c : Nat} {o h n : Int} {l : List Tm} (h3 : (o == 3) = false) (hl : l.length ≠ c) : short c (.mk o h n l) = (0, 0, false) := by
  have e : (l.length == c) = false := by simpa using hl
  simp only [short, h3, e, Bool.false_and, Bool.and_false, Bool.false_eq_true, if_false]
theorem short_bad {c : Nat} {o h n : Int} {l : List Tm} (h3 : (o == 3) = false) (hl : shortL c 0 l = false) : short c (.mk o h n l) = (0, 0, false) := by
  simp only [short, h3, hl, Bool.and_false, Bool.false_eq_true, if_false]
theorem short_var {c : Nat} {n : Int} {l : List Tm} (hl : l.length = c) (hs : shortL c 0 l = true) : short c (.mk 4 1 n l) = (1, n - c, decide ((c : Int) ≤ n)) := by
  have e : (l.length == c) = true := by simpa using hl
  simp only [short, e, hs]; rfl
theorem short_con {c : Nat} {h n : Int} {l : List Tm} (hl : l.length = c) (hs : shortL c 0 l = true) (hh : (h == 1) = false) : short c (.mk 4 h n l) = (h, n, true) := by
  have e : (l.length == c) = true := by simpa using hl
  simp only [short, e, hs, hh]; rfl

/-- what a call of short leaves -/
def GivesS (w : World) (x : Int × Int × Bool) (e : Ending) (w' : World) : Prop := e = .returned (.tuple #[.int .i64 x.1, .int .i64 x.2.1, .bool x.2.2]) ∧ Below w.heap.size w w'
theorem givesS_of {w w' : World} {x y : Int × Int × Bool} (h : x = y) (hb : Below w.heap.size w w') : GivesS w x (.returned (.tuple #[.int .i64 y.1, .int .i64 y.2.1, .bool y.2.2])) w' := by subst h; exact ⟨rfl, hb⟩

/-- the loop that takes TLams off -/
structure ShSt (w wr : World) (t : Tm) (k : Nat) (t' : Tm) (v' : Value) : Prop where
  below : Below w.heap.size w wr
  box : wr.heap[w.heap.size]? = some (.cells #[.int .i64 t'.op, .int .i64 t'.hd, .int .i64 t'.n, v'] 24 (0, 0))
  lies : Lies wr (· < w.heap.size) v' t'.args
  eq : short 0 t = short k t'
  pr : Tm.proper t' = true
  sz : k + Tm.sz t' ≤ Tm.sz t
theorem ShSt.start {w : World} {t : Tm} {v : Value} (hv : Lies w (fun _ => True) v t.args) (hp : Tm.proper t = true) : ShSt w (w.alloc (.cells #[.int .i64 t.op, .int .i64 t.hd, .int .i64 t.n, v] 24)) t 0 t v :=
  ⟨one_below _ _, heap_alloc_new _ _, (hv.more fun b hlt _ => hlt).keep (one_below _ _), rfl, hp, by omega⟩
theorem ShSt.keep {w wr wr' : World} {t : Tm} {k : Nat} {t' : Tm} {v' : Value} (H : ShSt w wr t k t' v') (hb : Below wr.heap.size wr wr') : ShSt w wr' t k t' v' :=
  ⟨below_next H.below hb, heap_kept hb H.box, H.lies.keep hb, H.eq, H.pr, H.sz⟩
theorem ShSt.step {w wr : World} {t : Tm} {k : Nat} {b : Tm} {v' v : Value} {h n : Int} (H : ShSt w wr t k (.mk 3 h n [b]) v') (hv : Lies wr (· < w.heap.size) v b.args) :
    ShSt w ((((wr.setCell ⟨w.heap.size, 0, none⟩ (.int .i64 b.op)).setCell ⟨w.heap.size, 1, none⟩ (.int .i64 b.hd)).setCell ⟨w.heap.size, 2, none⟩ (.int .i64 b.n)).setCell ⟨w.heap.size, 3, none⟩ v) t (k + 1) b v := by
  have h4 : w.heap.size ≤ w.heap.size := Nat.le_refl _
  refine ⟨(((H.below.setCell h4 _).setCell h4 _).setCell h4 _).setCell h4 _, set4_at H.box _ _ _ _, hv.still fun b' hS _ => set4_other _ _ _ _ (by have hS' : b' < w.heap.size := hS; omega), ?_, ?_, ?_⟩
  · rw [H.eq, short_lam]
  · exact Tm.proper_parts H.pr b (by simp)
  · have := H.sz
    simp only [Tm.sz, Tm.szL] at this ⊢
    omega
end Go.Proofs.Ytknbebkkdkhmaaa.Sb
