/- The reference's put and apply: what is asked of them, and the memory of put's loop. -/
import Derived.Test.YtieakippgeehgaaSbSmR
import Derived.Test.YtieakippgeehgaaSbGd
namespace Go.Proofs.Ytieakippgeehgaa.Sb
open Go.RowKit
set_option linter.unusedSimpArgs false
set_option linter.unusedVariables false

abbrev cntR (C c : Nat) (w : World) : Prop := w.heap[C]? = some (.cells #[.int .i64 c] 85 (0, 0))
/-- what a call of the reference leaves: a term and the count, or an error -/
def GivesR (Sf : Nat → Prop) (w : World) (C : Nat) (r : Out Tm) (e : Ending) (w' : World) : Prop :=
  match r with
  | .ok t c => ∃ v, e = .returned (.tuple #[.agg #[.int .i64 t.op, .int .i64 t.hd, .int .i64 t.n, v], .int .i64 0]) ∧ Only C w w' ∧ cntR C c w' ∧ Lies w' Sf v t.args
  | .er x => e = .returned (.tuple #[.agg #[.int .i64 0, .int .i64 0, .int .i64 0, .slice none 0 0], .int .i64 x]) ∧ Only C w w'

def PutROk (C : Nat) (s : Tm) (sv Sv : Value) (cn : Int) (Ss : List Sp.Tm) (t : Tm) : Prop :=
  ∀ (n : Int) (c : Nat) (w : World) (tv : Value), Lies w (· ≠ C) tv t.args → Lies w (· ≠ C) sv s.args → Sp.Lies w (· ≠ C) Sv Ss → cntR C c w → c ≤ 20000 → 0 ≤ n → n + (Tm.sz t : Nat) ≤ 11000 → Tm.proper t = true →
    Calls Try.prog 47 #[.pointer (some ⟨C, 0, none⟩), .agg #[.int .i64 t.op, .int .i64 t.hd, .int .i64 t.n, tv], .int .i64 n, .agg #[.int .i64 s.op, .int .i64 s.hd, .int .i64 s.n, sv], .agg #[Sv, .int .i64 cn]] w (GivesR (w.heap.size ≤ ·) w C (put (.mk cn Ss) s n t c))

def AppROk (C : Nat) (cn : Int) (Ss : List Sp.Tm) : Prop :=
  ∀ (Sf : Nat → Prop) (f : Tm) (fv lv Sv : Value) (sp : List Tm) (c : Nat) (w : World), (∀ b, w.heap.size ≤ b → Sf b) → ¬ Sf C → Lies w Sf fv f.args → Lies w (· ≠ C) lv sp → Sp.Lies w (· ≠ C) Sv Ss → cntR C c w → c ≤ 20000 → Tm.proper f = true → (∀ t ∈ sp, Tm.proper t = true) → sp.length ≤ 600 →
    Calls Try.prog 55 #[.pointer (some ⟨C, 0, none⟩), .agg #[.int .i64 f.op, .int .i64 f.hd, .int .i64 f.n, fv], lv, .agg #[Sv, .int .i64 cn]] w (GivesR Sf w C (app Ss f sp c))

theorem proper_fit {t : Tm} (h : Tm.proper t = true) : t.fit := by
  obtain ⟨o, hd, n, l⟩ := t
  have hf := (Tm.proper_two h).2
  simp only [Tm.formed, Bool.and_eq_true] at hf
  have := Tm.headOk_yes _ _ _ _ hf.1.2
  refine ⟨⟨?_, ?_⟩, ⟨?_, ?_⟩, ⟨?_, ?_⟩⟩ <;> simp only [Tm.op, Tm.hd, Tm.n] <;> omega

/-- what the region of put's call reads -/
abbrev CellsR (W : World) (T b off E F : Nat) (ta e0 e1 e2 e3 s0 s1 s2 s3 q0 q1 : Value) : Prop :=
  W.cell? ⟨T, 3, none⟩ = some ta ∧ W.cell? ⟨b, off, none⟩ = some e0 ∧ W.cell? ⟨b, off + 1, none⟩ = some e1 ∧ W.cell? ⟨b, off + 2, none⟩ = some e2 ∧ W.cell? ⟨b, off + 3, none⟩ = some e3 ∧
  W.cell? ⟨E, 0, none⟩ = some s0 ∧ W.cell? ⟨E, 1, none⟩ = some s1 ∧ W.cell? ⟨E, 2, none⟩ = some s2 ∧ W.cell? ⟨E, 3, none⟩ = some s3 ∧ W.cell? ⟨F, 0, none⟩ = some q0 ∧ W.cell? ⟨F, 1, none⟩ = some q1
section
variable {W W' : World} {T b off E F C X : Nat} {ta e0 e1 e2 e3 s0 s1 s2 s3 q0 q1 a1 a2 a3 a4 : Value}
theorem cellsR_by (hT : W'.heap[T]? = W.heap[T]?) (hb : W'.heap[b]? = W.heap[b]?) (hE : W'.heap[E]? = W.heap[E]?) (hF : W'.heap[F]? = W.heap[F]?) (x : CellsR W T b off E F ta e0 e1 e2 e3 s0 s1 s2 s3 q0 q1) : CellsR W' T b off E F ta e0 e1 e2 e3 s0 s1 s2 s3 q0 q1 := by
  have go : ∀ k, W'.heap[k]? = W.heap[k]? → ∀ j u, W.cell? ⟨k, j, none⟩ = some u → W'.cell? ⟨k, j, none⟩ = some u := fun k hk j u e => by rw [World.cell?_of_block (w := W) hk]; exact e
  obtain ⟨x1, x2, x3, x4, x5, x6, x7, x8, x9, x10, x11⟩ := x
  exact ⟨go _ hT _ _ x1, go _ hb _ _ x2, go _ hb _ _ x3, go _ hb _ _ x4, go _ hb _ _ x5, go _ hE _ _ x6, go _ hE _ _ x7, go _ hE _ _ x8, go _ hE _ _ x9, go _ hF _ _ x10, go _ hF _ _ x11⟩
theorem cellsR_below (hb : Below W.heap.size W W') (x : CellsR W T b off E F ta e0 e1 e2 e3 s0 s1 s2 s3 q0 q1) : CellsR W' T b off E F ta e0 e1 e2 e3 s0 s1 s2 s3 q0 q1 := by
  obtain ⟨x1, x2, x3, x4, x5, x6, x7, x8, x9, x10, x11⟩ := x
  exact ⟨kept_cell hb x1, kept_cell hb x2, kept_cell hb x3, kept_cell hb x4, kept_cell hb x5, kept_cell hb x6, kept_cell hb x7, kept_cell hb x8, kept_cell hb x9, kept_cell hb x10, kept_cell hb x11⟩
theorem cellsR_only (h : T ≠ C ∧ b ≠ C ∧ E ≠ C ∧ F ≠ C) (l : T < W.heap.size ∧ b < W.heap.size ∧ E < W.heap.size ∧ F < W.heap.size) (ho : Only C W W') (x : CellsR W T b off E F ta e0 e1 e2 e3 s0 s1 s2 s3 q0 q1) : CellsR W' T b off E F ta e0 e1 e2 e3 s0 s1 s2 s3 q0 q1 :=
  cellsR_by (ho.block _ l.1 h.1) (ho.block _ l.2.1 h.2.1) (ho.block _ l.2.2.1 h.2.2.1) (ho.block _ l.2.2.2 h.2.2.2) x
theorem cellsR_four (h : T ≠ X ∧ b ≠ X ∧ E ≠ X ∧ F ≠ X) (x : CellsR W T b off E F ta e0 e1 e2 e3 s0 s1 s2 s3 q0 q1) : CellsR ((((W.setCell ⟨X, 0, none⟩ a1).setCell ⟨X, 1, none⟩ a2).setCell ⟨X, 2, none⟩ a3).setCell ⟨X, 3, none⟩ a4) T b off E F ta e0 e1 e2 e3 s0 s1 s2 s3 q0 q1 :=
  cellsR_by (set4_other _ _ _ _ h.1) (set4_other _ _ _ _ h.2.1) (set4_other _ _ _ _ h.2.2.1) (set4_other _ _ _ _ h.2.2.2) x
end

/-- the memory of put's loop -/
structure PSt (w wr : World) (C OB : Nat) (t : Tm) (tv : Value) (s : Tm) (sv Sv : Value) (cn : Int) (v : Value) (ts : List Tm) (cj : Nat) : Prop where
  lO : w.heap.size + 1 + 1 + 1 < OB
  only : Only C w wr
  cnt : cntR C cj wr
  bd : cj ≤ 20000
  tb : wr.heap[w.heap.size]? = some (.cells #[.int .i64 t.op, .int .i64 t.hd, .int .i64 t.n, tv] 24 (0, 0))
  sb : wr.heap[w.heap.size + 1]? = some (.cells #[.int .i64 s.op, .int .i64 s.hd, .int .i64 s.n, sv] 24 (0, 0))
  Sb : wr.heap[w.heap.size + 1 + 1]? = some (.cells #[Sv, .int .i64 cn] 27 (0, 0))
  rb : wr.heap[w.heap.size + 1 + 1 + 1]? = some (.cells #[.int .i64 0, .int .i64 0, .int .i64 0, .slice none 0 0] 24 (0, 0))
  ob : wr.heap[OB]? = some (.cells #[.int .i64 t.op, .int .i64 t.hd, .int .i64 t.n, v] 24 (0, 0))
  row : Built wr (OB + 1) 24 v ts

theorem PSt.start {w w5 : World} {C : Nat} {t s : Tm} {tv sv Sv : Value} {cn : Int} {c : Nat} (hCw : C < w.heap.size) (ho : Only C w w5) (hsz : w.heap.size + 4 ≤ w5.heap.size) (hc : cntR C c w5) (hcb : c ≤ 20000)
    (tb : w5.heap[w.heap.size]? = some (.cells #[.int .i64 t.op, .int .i64 t.hd, .int .i64 t.n, tv] 24 (0, 0)))
    (sb : w5.heap[w.heap.size + 1]? = some (.cells #[.int .i64 s.op, .int .i64 s.hd, .int .i64 s.n, sv] 24 (0, 0)))
    (Sb : w5.heap[w.heap.size + 1 + 1]? = some (.cells #[Sv, .int .i64 cn] 27 (0, 0)))
    (rb : w5.heap[w.heap.size + 1 + 1 + 1]? = some (.cells #[.int .i64 0, .int .i64 0, .int .i64 0, .slice none 0 0] 24 (0, 0))) :
    PSt w (w5.alloc (.cells #[.int .i64 t.op, .int .i64 t.hd, .int .i64 t.n, .slice none 0 0] 24)) C w5.heap.size t tv s sv Sv cn (.slice none 0 0) [] c := by
  have hb := one_below w5 (.cells #[.int .i64 t.op, .int .i64 t.hd, .int .i64 t.n, .slice none 0 0] 24)
  exact ⟨by omega, ho.alloc _, heap_kept hb hc, hcb, heap_kept hb tb, heap_kept hb sb, heap_kept hb Sb, heap_kept hb rb, heap_alloc_new _ _, Built.nil _ _ _⟩

theorem PSt.ones {w wr wx : World} {C OB : Nat} {t s : Tm} {tv sv Sv v : Value} {cn : Int} {ts : List Tm} {cj c' : Nat} (M : PSt w wr C OB t tv s sv Sv cn v ts cj) (hCw : C < w.heap.size) (ho : Only C wr wx) (hc : cntR C c' wx) (hcb : c' ≤ 20000) : PSt w wx C OB t tv s sv Sv cn v ts c' :=
  ⟨M.lO, M.only.trans ho, hc, hcb, Only.keepBlock ho M.tb (by omega), Only.keepBlock ho M.sb (by omega), Only.keepBlock ho M.Sb (by omega), Only.keepBlock ho M.rb (by omega), Only.keepBlock ho M.ob (by have := M.lO; omega), M.row.keep fun b hb hlt => ho.block b hlt (by have := M.lO; omega)⟩

theorem PSt.next {w wx w3 : World} {C OB : Nat} {t s x : Tm} {tv sv Sv v xv : Value} {cn : Int} {ts : List Tm} {cj g cap : Nat} {vs : List Value} {ob : Obj} (M : PSt w wx C OB t tv s sv Sv cn v ts cj) (hCw : C < w.heap.size)
    (hx : Lies wx (fun b => OB + 1 ≤ b ∧ v.ownBlock ≠ some b) xv x.args) (hft : x.fit) (hvl : ts.length = vs.length)
    (hsub : ∀ i (h : i < ts.length) (h' : i < vs.length), Lies wx (fun b => OB + 1 ≤ b ∧ v.ownBlock ≠ some b) vs[i] ts[i].args)
    (hown3 : w3.ownsRow (OB + 1) 24 4 (.slice (some ⟨g, 0, none⟩) (ts.length + 1) cap) (ts.length + 1) (flat ts vs ++ [.int .i64 x.op, .int .i64 x.hd, .int .i64 x.n, xv]))
    (hgrow : (wx.alloc ob).grownBy w3 v.ownBlock) (hat : v.ownBlock = some g ∨ g = wx.heap.size + 1) :
    PSt w (w3.setCell ⟨OB, 3, none⟩ (.slice (some ⟨g, 0, none⟩) (ts.length + 1) cap)) C OB t tv s sv Sv cn (.slice (some ⟨g, 0, none⟩) (ts.length + 1) cap) (ts ++ [x]) cj := by
  have hlt := M.row.lt
  have s0 := lt_blk M.ob
  have sa : (wx.alloc ob).heap.size = wx.heap.size + 1 := by simp
  have old : ∀ k, k < wx.heap.size → k < OB + 1 → w3.heap[k]? = wx.heap[k]? := fun k hk hk2 => by
    rw [hgrow.block k (by omega) (fun e => by have := (hlt k e.symm).1; omega), Below.heap_alloc wx ob k (by omega)]
  have hsw := M.only.size
  have s3 := hgrow.size
  rw [sa] at s3
  have set : ∀ k, k ≠ OB → (w3.setCell ⟨OB, 3, none⟩ (.slice (some ⟨g, 0, none⟩) (ts.length + 1) cap)).heap[k]? = w3.heap[k]? := fun k hk => Below.heap_setCell _ _ _ _ (by simpa using hk)
  have lO := M.lO
  refine ⟨lO, ⟨?_, ?_, ?_, ?_, ?_⟩, ?_, M.bd, ?_, ?_, ?_, ?_, ?_, ?_⟩
  · exact hgrow.os.trans M.only.out.os
  · exact hgrow.tape.trans M.only.out.tape
  · exact hgrow.output.trans M.only.out.output
  · simp [World.setCell]; omega
  · intro k hk hne
    have hne' : k ≠ C := by simpa using hne
    rw [set k (by omega), old k (by omega) (by omega)]
    exact M.only.block k hk hne'
  · exact ((set C (by omega)).trans (old C (by omega) (by omega))).trans M.cnt
  · rw [set _ (by omega), old _ (by omega) (by omega)]; exact M.tb
  · rw [set _ (by omega), old _ (by omega) (by omega)]; exact M.sb
  · rw [set _ (by omega), old _ (by omega) (by omega)]; exact M.Sb
  · rw [set _ (by omega), old _ (by omega) (by omega)]; exact M.rb
  · rw [heap_set_at _ ((old _ (by omega) (by omega)).trans M.ob)]; simp
  · exact Built.setCell (Built.push (w := wx.alloc ob) hvl (fun i h h' => (hsub i h h').keep ((Below.refl _ _).alloc (Nat.le_refl _) _)) M.row.fit hft (hx.keep ((Below.refl _ _).alloc (Nat.le_refl _) ob)) hown3 hgrow (by rw [sa]; exact hat)) (by simp) _

theorem use_fact {p q : Prop} (h : p) (f : p → q) : q := f h
theorem lies_shift {w2 wr : World} {C : Nat} (h : Only C wr w2) : ∀ b, b < w2.heap.size → wr.heap.size + 1 ≤ b → wr.heap.size ≤ b ∧ b ≠ wr.heap.size := fun b _ hb => by omega
theorem PXE.set {wr w2 : World} {C : Nat} {a b c d : Value} (ho : Only C wr w2) : Only C wr ((((w2.setCell ⟨wr.heap.size, 0, none⟩ a).setCell ⟨wr.heap.size, 1, none⟩ b).setCell ⟨wr.heap.size, 2, none⟩ c).setCell ⟨wr.heap.size, 3, none⟩ d) :=
  (((ho.new (p := ⟨wr.heap.size, 0, none⟩) (Nat.le_refl _) _).new (p := ⟨wr.heap.size, 1, none⟩) (Nat.le_refl _) _).new (p := ⟨wr.heap.size, 2, none⟩) (Nat.le_refl _) _).new (p := ⟨wr.heap.size, 3, none⟩) (Nat.le_refl _) _
/-- the box of a part's result -/
structure PX (wr wx : World) (C X : Nat) (x : Tm) (xv : Value) (c' : Nat) : Prop where
  only : Only C wr wx
  cnt : cntR C c' wx
  hX : wx.heap[X]? = some (.cells #[.int .i64 x.op, .int .i64 x.hd, .int .i64 x.n, xv] 24 (0, 0))
  bX : wr.heap.size ≤ X
  lies : Lies wx (wr.heap.size ≤ ·) xv x.args
theorem PX.new {wr w2 : World} {C : Nat} {x : Tm} {xv : Value} {c' : Nat} (hCl : C < wr.heap.size) (ho : Only C wr w2) (hc : cntR C c' w2) (L : Lies w2 (wr.heap.size ≤ ·) xv x.args) :
    PX wr (w2.alloc (.cells #[.int .i64 x.op, .int .i64 x.hd, .int .i64 x.n, xv] 24)) C w2.heap.size x xv c' :=
  ⟨ho.alloc _, heap_kept (one_below _ _) hc, heap_alloc_new _ _, ho.size, L.keep (one_below _ _)⟩
theorem PX.set {wr w2 : World} {C X : Nat} {x : Tm} {xv a b c d : Value} {c' : Nat} (hCl : C < wr.heap.size) (ho : Only C wr w2) (hc : cntR C c' w2) (hX : w2.heap[X]? = some (.cells #[a, b, c, d] 24 (0, 0))) (bX : wr.heap.size ≤ X) (L : Lies w2 (fun b => wr.heap.size ≤ b ∧ b ≠ X) xv x.args) :
    PX wr ((((w2.setCell ⟨X, 0, none⟩ (.int .i64 x.op)).setCell ⟨X, 1, none⟩ (.int .i64 x.hd)).setCell ⟨X, 2, none⟩ (.int .i64 x.n)).setCell ⟨X, 3, none⟩ xv) C X x xv c' := by
  refine ⟨((((ho.new (p := ⟨X, 0, none⟩) bX _).new (p := ⟨X, 1, none⟩) bX _).new (p := ⟨X, 2, none⟩) bX _).new (p := ⟨X, 3, none⟩) bX _), ?_, set4_at hX _ _ _ _, bX, (L.still fun b hS _ => set4_other _ _ _ _ hS.2).more fun _ _ hS => hS.1⟩
  exact (set4_other _ _ _ _ (by omega)).trans hc
end Go.Proofs.Ytieakippgeehgaa.Sb
