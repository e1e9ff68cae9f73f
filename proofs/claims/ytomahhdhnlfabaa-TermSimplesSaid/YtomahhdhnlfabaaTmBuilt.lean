/- A row of terms that a call is building: what it owns, and how it grows. Nothing of the program is imported. -/
import Derived.Test.YtomahhdhnlfabaaTmPlain
import Derived.Deep.AppendLies
namespace Go.Proofs.Ytomahhdhnlfabaa
open Go.RowKit

/-- the cells of terms whose spines are these values -/
def flat : List Tm → List Value → List Value
  | t :: ts, v :: vs => .int .i64 t.op :: .int .i64 t.hd :: .int .i64 t.n :: v :: flat ts vs
  | _, _ => []

theorem flat_length : ∀ (ts : List Tm) (vs : List Value), ts.length = vs.length → (flat ts vs).length = ts.length * 4
  | [], [], _ => rfl
  | t :: ts, v :: vs, h => by simp only [flat, List.length_cons, flat_length ts vs (by simpa using h)]; omega
  | [], _ :: _, h => by simp at h
  | _ :: _, [], h => by simp at h

theorem flat_snoc : ∀ (ts : List Tm) (vs : List Value) (t : Tm) (v : Value), ts.length = vs.length → flat (ts ++ [t]) (vs ++ [v]) = flat ts vs ++ [.int .i64 t.op, .int .i64 t.hd, .int .i64 t.n, v]
  | [], [], _, _, _ => rfl
  | t :: ts, v :: vs, t', v', h => by simp only [List.cons_append, flat, flat_snoc ts vs t' v' (by simpa using h)]
  | [], _ :: _, _, _, h => by simp at h
  | _ :: _, [], _, _, h => by simp at h

theorem flat_get : ∀ (ts : List Tm) (vs : List Value) (i : Nat) (h : i < ts.length) (h' : i < vs.length),
    (flat ts vs)[i * 4]? = some (.int .i64 ts[i].op) ∧ (flat ts vs)[i * 4 + 1]? = some (.int .i64 ts[i].hd) ∧ (flat ts vs)[i * 4 + 2]? = some (.int .i64 ts[i].n) ∧ (flat ts vs)[i * 4 + 3]? = some vs[i]
  | t :: ts, v :: vs, 0, _, _ => by simp [flat]
  | t :: ts, v :: vs, i + 1, h, h' => by
    have := flat_get ts vs i (by simpa using h) (by simpa using h')
    have e : ∀ j, (i + 1) * 4 + j = (i * 4 + j) + 1 + 1 + 1 + 1 := fun j => by omega
    have e0 : (i + 1) * 4 = i * 4 + 1 + 1 + 1 + 1 := by omega
    simp only [flat, List.getElem_cons_succ]
    rw [e 1, e 2, e 3, e0]
    simp only [List.getElem?_cons_succ]
    exact this
  | [], _, _, h, _ => by simp at h
  | _ :: _, [], _, _, h => by simp at h

/-- what a term's numbers are between -/
def Tm.fit (t : Tm) : Prop := (-9223372036854775808 ≤ t.op ∧ t.op ≤ 9223372036854775807) ∧ (-9223372036854775808 ≤ t.hd ∧ t.hd ≤ 9223372036854775807) ∧ (-9223372036854775808 ≤ t.n ∧ t.n ≤ 9223372036854775807)

/-- The slice value v is the call's own row (in a block from base on), and holds the terms ts; their spines lie in other blocks, from base on too. -/
structure Built (w : World) (base : Nat) (e : TypeId) (v : Value) (ts : List Tm) : Prop where
  has : ∃ vs : List Value, ts.length = vs.length ∧ w.ownsRow base e 4 v ts.length (flat ts vs) ∧ ∀ i (h : i < ts.length) (h' : i < vs.length), Lies w (fun b => base ≤ b ∧ v.ownBlock ≠ some b) vs[i] ts[i].args
  fit : ∀ t ∈ ts, t.fit

theorem Built.nil (w : World) (base : Nat) (e : TypeId) : Built w base e (.slice none 0 0) [] :=
  ⟨⟨[], rfl, World.ownsRow_nil _ _ _ _, fun i h => by simp at h⟩, by simp⟩

/-- Blocks that are there stay as they were. -/
theorem Built.keep {w w' : World} {base : Nat} {e : TypeId} {v : Value} {ts : List Tm} (h : Built w base e v ts) (hb : ∀ b, base ≤ b → b < w.heap.size → w'.heap[b]? = w.heap[b]?) : Built w' base e v ts := by
  obtain ⟨⟨vs, hl, hown, hsub⟩, hfit⟩ := h
  refine ⟨⟨vs, hl, ⟨hown.1, ?_⟩, fun i h h' => (hsub i h h').still fun b hS hlt => hb b hS.1 hlt⟩, hfit⟩
  rcases hown.2 with hn | ⟨g, cap, cur, rfl, hg, hh, rest⟩
  · exact .inl hn
  · exact .inr ⟨g, cap, cur, rfl, hg, (hb g hg (Array.getElem?_eq_some_iff.1 hh).1).trans hh, rest⟩

theorem Built.below {w w' : World} {base : Nat} {e : TypeId} {v : Value} {ts : List Tm} (h : Built w base e v ts) (hb : Below w.heap.size w w') : Built w' base e v ts :=
  h.keep fun b _ hlt => hb.block b hlt
theorem Built.setCell {w : World} {base : Nat} {e : TypeId} {v : Value} {ts : List Tm} (h : Built w base e v ts) {p : Addr} (hp : p.block < base) (u : Value) : Built (w.setCell p u) base e v ts :=
  h.keep fun b hb _ => Below.heap_setCell _ _ _ _ (by omega)

theorem Built.own {w : World} {base : Nat} {e : TypeId} {v : Value} {ts : List Tm} (h : Built w base e v ts) : ∃ vs : List Value, ts.length = vs.length ∧ w.ownsRow base e 4 v ts.length (flat ts vs) ∧
    ∀ i (h : i < ts.length) (h' : i < vs.length), Lies w (fun b => base ≤ b ∧ v.ownBlock ≠ some b) vs[i] ts[i].args := h.has

/-- One more term is appended: what the law on append leaves is a row with one term more. -/
theorem Built.push {w w' : World} {base : Nat} {e : TypeId} {v : Value} {ts : List Tm} {vs : List Value} {g cap : Nat} {t : Tm} {s : Value}
    (hl : ts.length = vs.length) (hsub : ∀ i (h : i < ts.length) (h' : i < vs.length), Lies w (fun b => base ≤ b ∧ v.ownBlock ≠ some b) vs[i] ts[i].args) (hfit : ∀ t ∈ ts, t.fit) (ht : t.fit)
    (hs : Lies w (fun b => base ≤ b ∧ v.ownBlock ≠ some b) s t.args)
    (hown' : w'.ownsRow base e 4 (.slice (some ⟨g, 0, none⟩) (ts.length + 1) cap) (ts.length + 1) (flat ts vs ++ [.int .i64 t.op, .int .i64 t.hd, .int .i64 t.n, s]))
    (hgrow : w.grownBy w' v.ownBlock) (hat : v.ownBlock = some g ∨ g = w.heap.size) : Built w' base e (.slice (some ⟨g, 0, none⟩) (ts.length + 1) cap) (ts ++ [t]) := by
  have move : ∀ {x : Value} {l : List Tm}, Lies w (fun b => base ≤ b ∧ v.ownBlock ≠ some b) x l → Lies w' (fun b => base ≤ b ∧ (Value.slice (some ⟨g, 0, none⟩) (ts.length + 1) cap).ownBlock ≠ some b) x l := by
    intro x l h
    have h2 : Lies w (fun b => base ≤ b ∧ b ≠ g ∧ v.ownBlock ≠ some b) x l := h.more fun b hlt hS => ⟨hS.1, fun e => by
      subst e
      rcases hat with hat | hat
      · exact hS.2 hat
      · omega, hS.2⟩
    refine (h2.still (w' := w') fun b hS hlt => hgrow.block b hlt (fun e => hS.2.2 e.symm)).more fun b _ hS => ⟨hS.1, ?_⟩
    simp only [Value.ownBlock, ne_eq, Option.some.injEq]
    exact fun e => hS.2.1 e.symm
  refine ⟨⟨vs ++ [s], by simp [hl], by rw [flat_snoc ts vs t s hl]; simpa using hown', ?_⟩, ?_⟩
  · intro i h h'
    by_cases hi : i < ts.length
    · rw [List.getElem_append_left hi, List.getElem_append_left (by omega)]
      exact move (hsub i hi (by omega))
    · obtain rfl : i = ts.length := by simp at h; omega
      simp only [List.getElem_append_right (Nat.le_refl _), Nat.sub_self, List.getElem_cons_zero]
      rw [List.getElem_append_right (by omega)]
      simp only [hl, Nat.sub_self, List.getElem_cons_zero]
      rw [← hl]
      exact move hs
  · intro x hx
    rcases List.mem_append.1 hx with hx | hx
    · exact hfit x hx
    · simp at hx; rw [hx]; exact ht

/-- What has been built lies there. -/
theorem Built.lies {w : World} {base : Nat} {e : TypeId} {v : Value} {ts : List Tm} (h : Built w base e v ts) : Lies w (base ≤ ·) v ts := by
  obtain ⟨⟨vs, hl, hown, hsub⟩, hfit⟩ := h
  have hcells := @World.ownsRow.cells w base e 4 v ts.length (flat ts vs) hown
  rcases hown.2 with ⟨rfl, h0⟩ | ⟨g, cap, cur, rfl, hg, hh, hle, hmx, _⟩
  · obtain rfl : ts = [] := List.eq_nil_of_length_eq_zero h0
    exact Lies.nil _ _
  · have hc : ∀ j u, (flat ts vs)[j]? = some u → w.cell? ⟨g, 0 + j, none⟩ = some u := fun j u hu => by
      have := hcells (g := g) (by simp [Value.ownBlock]) j u hu
      rwa [Addr.add_lit] at this
    have hts : ts = (List.range ts.length).map fun i => Tm.mk (ts[i]?.getD (.mk 0 0 0 [])).op (ts[i]?.getD (.mk 0 0 0 [])).hd (ts[i]?.getD (.mk 0 0 0 [])).n (ts[i]?.getD (.mk 0 0 0 [])).args := by
      apply List.ext_getElem
      · simp
      · intro i h1 h2
        simp only [List.getElem_map, List.getElem_range, List.getElem?_eq_getElem h1, Option.getD_some]
        cases ts[i]; rfl
    have hget : ∀ i (h : i < ts.length), ts[i]?.getD (.mk 0 0 0 []) = ts[i] := fun i h => by rw [List.getElem?_eq_getElem h]; rfl
    have hvs : ∀ i (h : i < vs.length), vs[i]?.getD (.slice none 0 0) = vs[i] := fun i h => by rw [List.getElem?_eq_getElem h]; rfl
    have hf := fun i (h : i < ts.length) => flat_get ts vs i h (by omega)
    have hm : cap ≤ 9223372036854775807 := by unfold maxLen at hmx; exact hmx
    have row := Lies.row (w := w) (S := (base ≤ ·)) (some ⟨g, 0, none⟩) g 0 ts.length cap (fun i => (ts[i]?.getD (.mk 0 0 0 [])).op) (fun i => (ts[i]?.getD (.mk 0 0 0 [])).hd) (fun i => (ts[i]?.getD (.mk 0 0 0 [])).n)
      (fun i => vs[i]?.getD (.slice none 0 0)) (fun i => (ts[i]?.getD (.mk 0 0 0 [])).args) (fun _ => rfl) (fun _ => hg) hle hm
      (fun i hi => by rw [hget i hi]; exact hc _ _ (hf i hi).1) (fun i hi => by rw [hget i hi]; have := hc _ _ (hf i hi).2.1; rwa [← Nat.add_assoc] at this)
      (fun i hi => by rw [hget i hi]; have := hc _ _ (hf i hi).2.2.1; rwa [← Nat.add_assoc] at this) (fun i hi => by rw [hvs i (by omega)]; have := hc _ _ (hf i hi).2.2.2; rwa [← Nat.add_assoc] at this)
      (fun i hi => by rw [hget i hi]; exact (hfit _ (List.getElem_mem hi)).1) (fun i hi => by rw [hget i hi]; exact (hfit _ (List.getElem_mem hi)).2.1) (fun i hi => by rw [hget i hi]; exact (hfit _ (List.getElem_mem hi)).2.2)
      (fun i hi => by rw [hget i hi, hvs i (by omega)]; exact (hsub i hi (by omega)).more fun b _ hS => hS.1)
    rw [← hts] at row
    exact row

theorem Built.drew {w : World} {base : Nat} {e : TypeId} {v : Value} {ts : List Tm} (h : Built w base e v ts) : Built w.drew base e v ts := h.keep fun _ _ _ => rfl
theorem Built.lt {w : World} {base : Nat} {e : TypeId} {v : Value} {ts : List Tm} (h : Built w base e v ts) : ∀ k, v.ownBlock = some k → base ≤ k ∧ k < w.heap.size := by
  obtain ⟨vs, _, hown, _⟩ := h.has; exact hown.lt

/-- a cell of a block that is known whole -/
theorem cell_in {w : World} {B : Nat} {cs : Array Value} {t : TypeId} {fr : Nat × Nat} (hb : w.heap[B]? = some (.cells cs t fr)) (j : Nat) (u : Value) (hu : cs[j]? = some u) : w.cell? ⟨B, j, none⟩ = some u := by
  rw [cell_of_row w B j cs t fr hb]; simpa using hu
theorem free_in {w : World} {B : Nat} {cs : Array Value} {t : TypeId} (hb : w.heap[B]? = some (.cells cs t (0, 0))) (j : Nat) : w.frozen? ⟨B, j, none⟩ = false := by
  simp [World.frozen?, hb]
theorem heap_kept {w w' : World} {B : Nat} {o : Obj} (hb : Below w.heap.size w w') (h : w.heap[B]? = some o) : w'.heap[B]? = some o := by
  rw [hb.block B (Array.getElem?_eq_some_iff.1 h).1]; exact h

theorem frozen_kept {w w' : World} (hb : Below w.heap.size w w') {p : Addr} {u : Value} {c : Bool} (e : w.cell? p = some u) (h : w.frozen? p = c) : w'.frozen? p = c :=
  (hb.frozen (World.block_lt_of_cell? w p e)).trans h
theorem far_cell {w w' : World} {row : Option Nat} {B : Nat} {p : Addr} {u : Value} (hg : w.grownBy w' row) (h : w.cell? p = some u) (hr : ∀ k, row = some k → B ≤ k) (hp : p.block < B) : w'.cell? p = some u :=
  hg.cell h (fun e => by have := hr _ e.symm; omega)
theorem far_frozen {w w' : World} {row : Option Nat} {B : Nat} {p : Addr} {u : Value} {c : Bool} (hg : w.grownBy w' row) (h : w.cell? p = some u) (hf : w.frozen? p = c) (hr : ∀ k, row = some k → B ≤ k) (hp : p.block < B) : w'.frozen? p = c :=
  (hg.frozen_far p (World.block_lt_of_cell? w p h) (fun e => by have := hr _ e.symm; omega)).trans hf

/-- A call that builds a term: its argument's box, its result's box, the term being built with the row v, the parts so far. (B: the heap's size when the call began.) -/
structure Building (w wr : World) (e : TypeId) (box res : Array Value) (o h n : Int) (v : Value) (ts : List Tm) : Prop where
  below : Below w.heap.size w wr
  box : wr.heap[w.heap.size]? = some (.cells box e (0, 0))
  res : wr.heap[w.heap.size + 1]? = some (.cells res e (0, 0))
  out : wr.heap[w.heap.size + 1 + 1]? = some (.cells #[.int .i64 o, .int .i64 h, .int .i64 n, v] e (0, 0))
  row : Built wr (w.heap.size + 1 + 1 + 1) e v ts

theorem heap_set_at {w : World} {B j : Nat} {cs : Array Value} {t : TypeId} {fr : Nat × Nat} (u : Value) (h : w.heap[B]? = some (.cells cs t fr)) : (w.setCell ⟨B, j, none⟩ u).heap[B]? = some (.cells (cs.setIfInBounds j u) t fr) := by
  simp [World.setCell, Array.getElem?_modify, h]

theorem Building.start {w : World} {e : TypeId} {o h n : Int} (box res : Array Value) (v : Value) (hv : v = .slice none 0 0) :
    Building w (((w.alloc (.cells box e)).alloc (.cells res e)).alloc (.cells #[.int .i64 o, .int .i64 h, .int .i64 n, v] e)) e box res o h n v [] := by
  subst hv
  refine ⟨(((Below.refl _ _).alloc (Nat.le_refl _) _).alloc (by simp) _).alloc (by simp; omega) _, ?_, ?_, ?_, Built.nil _ _ _⟩
  · rw [heap_alloc_old _ _ _ (by simp; omega), heap_alloc_old _ _ _ (by simp), heap_alloc_new]
  · rw [heap_alloc_old _ _ _ (by simp)]
    have := heap_alloc_new (w.alloc (.cells box e)) (.cells res e)
    simpa using this
  · have := heap_alloc_new ((w.alloc (.cells box e)).alloc (.cells res e)) (.cells #[.int .i64 o, .int .i64 h, .int .i64 n, .slice none 0 0] e)
    simpa using this

theorem Building.step {w wr w1 w2 w3 : World} {e : TypeId} {box res : Array Value} {o h n : Int} {v : Value} {ts : List Tm} {t : Tm} {x : Value} {g cap : Nat} {vs : List Value} {ob : Obj}
    (M : Building w wr e box res o h n v ts) (hb1 : Below wr.heap.size wr w1) (hb2 : Below w1.heap.size w1 w2) (hx : Lies w2 (w1.heap.size ≤ ·) x t.args) (hft : t.fit)
    (hvl : ts.length = vs.length) (hsub : ∀ i (h : i < ts.length) (h' : i < vs.length), Lies w2 (fun b => w.heap.size + 1 + 1 + 1 ≤ b ∧ v.ownBlock ≠ some b) vs[i] ts[i].args)
    (hown3 : w3.ownsRow (w.heap.size + 1 + 1 + 1) e 4 (.slice (some ⟨g, 0, none⟩) (ts.length + 1) cap) (ts.length + 1) (flat ts vs ++ [.int .i64 t.op, .int .i64 t.hd, .int .i64 t.n, x]))
    (hgrow : (w2.alloc ob).grownBy w3 v.ownBlock) (hat : v.ownBlock = some g ∨ g = w2.heap.size + 1) :
    Building w (w3.setCell ⟨w.heap.size + 1 + 1, 3, none⟩ (.slice (some ⟨g, 0, none⟩) (ts.length + 1) cap)) e box res o h n (.slice (some ⟨g, 0, none⟩) (ts.length + 1) cap) (ts ++ [t]) := by
  have hlt := M.row.lt
  have s0 : w.heap.size + 1 + 1 < wr.heap.size := (Array.getElem?_eq_some_iff.1 M.out).1
  have s1 := hb1.size
  have s2 := hb2.size
  have sa : (w2.alloc ob).heap.size = w2.heap.size + 1 := by simp
  have old : ∀ k, k < wr.heap.size → k < w.heap.size + 1 + 1 + 1 → w3.heap[k]? = wr.heap[k]? := fun k hk hk2 => by
    rw [hgrow.block k (by omega) (fun e => by have := (hlt k e.symm).1; omega), heap_alloc_old w2 ob k (by omega), hb2.block k (by omega), hb1.block k hk]
  have b3 : Below w.heap.size w w3 := by
    have b2 := M.below.trans ((hb1.mono (M.below.size)).trans (hb2.mono (by have := M.below.size; omega)))
    exact (b2.alloc (by have := b2.size; omega) ob).grown hgrow (by have := b2.size; omega) (fun k hk => by have := (hlt k hk).1; omega)
  refine ⟨b3.setCell (by simp; omega) _, ?_, ?_, ?_, ?_⟩
  · rw [Below.heap_setCell _ _ _ _ (by simp; omega), old _ (by omega) (by omega)]; exact M.box
  · rw [Below.heap_setCell _ _ _ _ (by simp), old _ (by omega) (by omega)]; exact M.res
  · rw [heap_set_at _ ((old _ (by omega) (by omega)).trans M.out)]; simp
  · refine Built.setCell (Built.push (w := w2.alloc ob) hvl (fun i h h' => (hsub i h h').keep ((Below.refl _ _).alloc (Nat.le_refl _) _)) M.row.fit hft ?_ hown3 hgrow (by rw [sa]; exact hat)) (by simp) _
    refine (hx.keep ((Below.refl _ _).alloc (Nat.le_refl _) ob)).more fun b _ hS => ⟨by omega, fun e => ?_⟩
    have := (hlt b e).2
    omega

end Go.Proofs.Ytomahhdhnlfabaa
