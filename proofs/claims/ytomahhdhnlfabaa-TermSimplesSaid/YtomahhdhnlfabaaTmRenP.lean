/- Renumbering as a plain function on terms; a row of terms that a call made and fills. Nothing of the program is imported. -/
import Derived.Test.YtomahhdhnlfabaaTmMeasP
namespace Go.Proofs.Ytomahhdhnlfabaa
open Go.RowKit
namespace Tm

mutual
/-- each number becomes what f says of it (binders, operator, head, number) -/
def ren (f : Int → Int → Int → Int → Int) : Int → Tm → Tm
  | b, .mk o h n l => .mk o h (f b o h n) (renL f b o 0 l)
def renL (f : Int → Int → Int → Int → Int) : Int → Int → Nat → List Tm → List Tm
  | _, _, _, [] => []
  | b, o, i, t :: l => ren f (b + belowN o i) t :: renL f b o (i + 1) l
end

mutual
/-- what is noted on the way, node by node -/
def errT (g : Int → Int → Int → Int → Int → Int) : Int → Tm → Int → Int
  | b, .mk o h n l, e => errL g b o 0 l (g b o h n e)
def errL (g : Int → Int → Int → Int → Int → Int) : Int → Int → Nat → List Tm → Int → Int
  | _, _, _, [], e => e
  | b, o, i, t :: l, e => errL g b o (i + 1) l (errT g (b + belowN o i) t e)
end

section
variable (f : Int → Int → Int → Int → Int) (g : Int → Int → Int → Int → Int → Int) (b o : Int)
theorem renL_snoc : ∀ (l : List Tm) (i : Nat) (t : Tm), renL f b o i (l ++ [t]) = renL f b o i l ++ [ren f (b + belowN o (i + l.length)) t]
  | [], i, t => by simp [renL]
  | a :: l, i, t => by
    simp only [List.cons_append, renL, renL_snoc l (i + 1) t, List.length_cons]
    rw [show i + 1 + l.length = i + (l.length + 1) by omega]
theorem renL_length : ∀ (l : List Tm) (i : Nat), (renL f b o i l).length = l.length
  | [], _ => rfl
  | _ :: l, i => by simp [renL, renL_length l (i + 1)]
theorem errL_snoc : ∀ (l : List Tm) (i : Nat) (t : Tm) (e : Int), errL g b o i (l ++ [t]) e = errT g (b + belowN o (i + l.length)) t (errL g b o i l e)
  | [], i, t, e => by simp [errL]
  | a :: l, i, t, e => by
    simp only [List.cons_append, errL, errL_snoc l (i + 1) t, List.length_cons]
    rw [show i + 1 + l.length = i + (l.length + 1) by omega]
/-- the first k parts, renumbered; what has been noted behind them -/
def renTo (l : List Tm) (k : Nat) : List Tm := renL f b o 0 (l.take k)
def errTo (l : List Tm) (k : Nat) (e : Int) : Int := errL g b o 0 (l.take k) e
theorem renTo_zero (l : List Tm) : renTo f b o l 0 = [] := by simp [renTo, renL]
theorem errTo_zero (l : List Tm) (e : Int) : errTo g b o l 0 e = e := by simp [errTo, errL]
theorem renTo_length (l : List Tm) (k : Nat) (h : k ≤ l.length) : (renTo f b o l k).length = k := by
  rw [renTo, renL_length, List.length_take]; omega
theorem renTo_step (l : List Tm) (k : Nat) (h : k < l.length) : renTo f b o l (k + 1) = renTo f b o l k ++ [ren f (b + belowN o k) l[k]] := by
  rw [renTo, List.take_succ_eq_append_getElem h, renL_snoc, List.length_take, Nat.min_eq_left (by omega), Nat.zero_add]; rfl
theorem errTo_step (l : List Tm) (k : Nat) (h : k < l.length) (e : Int) : errTo g b o l (k + 1) e = errT g (b + belowN o k) l[k] (errTo g b o l k e) := by
  rw [errTo, List.take_succ_eq_append_getElem h, errL_snoc, List.length_take, Nat.min_eq_left (by omega), Nat.zero_add]; rfl
theorem renTo_all (l : List Tm) (k : Nat) (h : l.length ≤ k) : renTo f b o l k = renL f b o 0 l := by rw [renTo, List.take_of_length_le h]
theorem errTo_all (l : List Tm) (k : Nat) (h : l.length ≤ k) (e : Int) : errTo g b o l k e = errL g b o 0 l e := by rw [errTo, List.take_of_length_le h]
end

def zero : Tm := .mk 0 0 0 []
def nilV : Value := .slice none 0 0
end Tm

theorem flat_set : ∀ (ts : List Tm) (vs : List Value) (k : Nat) (t : Tm) (v : Value), k < ts.length → ts.length = vs.length →
    ((((flat ts vs).set (k * 4) (.int .i64 t.op)).set (k * 4 + 1) (.int .i64 t.hd)).set (k * 4 + 2) (.int .i64 t.n)).set (k * 4 + 3) v = flat (ts.set k t) (vs.set k v)
  | a :: ts, x :: vs, 0, t, v, _, _ => by simp [flat]
  | a :: ts, x :: vs, k + 1, t, v, h, hl => by
    have := flat_set ts vs k t v (by simpa using h) (by simpa using hl)
    have e : ∀ j, (k + 1) * 4 + j = (k * 4 + j) + 1 + 1 + 1 + 1 := fun j => by omega
    have e0 : (k + 1) * 4 = k * 4 + 1 + 1 + 1 + 1 := by omega
    simp only [flat, List.set_cons_succ]
    rw [e 1, e 2, e 3, e0]
    simp only [List.set_cons_succ]
    rw [this]
  | [], _, _, _, _, h, _ => by simp at h
  | _ :: _, [], _, _, _, _, hl => by simp at hl

theorem flat_zero : ∀ n : Nat, flat (List.replicate n Tm.zero) (List.replicate n Tm.nilV) = (List.replicate n [Value.int .i64 0, Value.int .i64 0, Value.int .i64 0, Value.slice none 0 0]).flatten
  | 0 => rfl
  | n + 1 => by
    have h := flat_zero n
    simp only [List.replicate_succ, flat, List.flatten_cons, h]
    rfl

theorem made_flat (n : Nat) : (madeCells #[.int .i64 0, .int .i64 0, .int .i64 0, .slice none 0 0] (n * 4)).toList = flat (List.replicate n Tm.zero) (List.replicate n Tm.nilV) := by
  apply List.ext_getElem?
  intro j
  by_cases hj : j < n * 4
  · have hq : j / 4 < n := by omega
    have h0 := flat_get (List.replicate n Tm.zero) (List.replicate n Tm.nilV) (j / 4) (by simpa using hq) (by simpa using hq)
    have e0 : (madeCells #[.int .i64 0, .int .i64 0, .int .i64 0, .slice none 0 0] (n * 4)).toList[j]? = some (#[Value.int .i64 0, Value.int .i64 0, Value.int .i64 0, Value.slice none 0 0][j % 4]!) := by
      unfold madeCells
      rw [Array.toList_map, List.getElem?_map, Array.toList_range, List.getElem?_range hj]
      rfl
    rw [e0]
    simp only [List.getElem_replicate, Tm.zero, Tm.nilV, Tm.op, Tm.hd, Tm.n] at h0
    have hm : j = j / 4 * 4 + j % 4 := by omega
    have hlt : j % 4 < 4 := by omega
    generalize j % 4 = r at hm hlt ⊢
    rw [hm]
    match r, hlt with
    | 0, _ => rw [Nat.add_zero]; exact h0.1.symm
    | 1, _ => exact h0.2.1.symm
    | 2, _ => exact h0.2.2.1.symm
    | 3, _ => exact h0.2.2.2.symm
  · rw [List.getElem?_eq_none (by rw [Array.length_toList, size_madeCells]; omega), List.getElem?_eq_none (by rw [flat_length _ _ (by simp)]; simp; omega)]

/-- Block G is a row of terms that the call made: it holds ts, their spines vs lie in other blocks from base on. -/
structure RowF (w : World) (base : Nat) (e : TypeId) (G : Nat) (ts : List Tm) (vs : List Value) : Prop where
  hb : base ≤ G
  hl : ts.length = vs.length
  hn : ts.length ≤ 9223372036854775807
  hg : w.heap[G]? = some (.cells (flat ts vs).toArray e (0, 0))
  sub : ∀ i (h : i < ts.length) (h' : i < vs.length), Lies w (fun b => base ≤ b ∧ b ≠ G) vs[i] ts[i].args
  fit : ∀ t ∈ ts, t.fit

section
variable {w w' : World} {base : Nat} {e : TypeId} {G : Nat} {ts : List Tm} {vs : List Value}
theorem RowF.keep (h : RowF w base e G ts vs) (hb : ∀ b, base ≤ b → b < w.heap.size → w'.heap[b]? = w.heap[b]?) : RowF w' base e G ts vs :=
  ⟨h.hb, h.hl, h.hn, (hb G h.hb (Array.getElem?_eq_some_iff.1 h.hg).1).trans h.hg, fun i hi hi' => (h.sub i hi hi').still fun b hS hlt => hb b hS.1 hlt, h.fit⟩
theorem RowF.below (h : RowF w base e G ts vs) (hb : Below w.heap.size w w') : RowF w' base e G ts vs := h.keep fun b _ hlt => hb.block b hlt
/-- A row that was just made. -/
theorem RowF.made {n g : Nat} (h : w.ownsRow base e 4 (.slice (some ⟨g, 0, none⟩) n n) n (madeCells #[.int .i64 0, .int .i64 0, .int .i64 0, .slice none 0 0] (n * 4)).toList) : RowF w base e g (List.replicate n Tm.zero) (List.replicate n Tm.nilV) := by
  have hm := made_flat n
  rcases h.2 with ⟨h0, _⟩ | ⟨g', cap, cur, hv, hb, hh, hle, hmx, hsz, htk⟩
  · cases h0
  · cases hv
    rw [List.take_of_length_le (by rw [Array.length_toList, hsz]; omega), hm] at htk
    refine ⟨hb, by simp, by unfold maxLen at hmx; simpa using hmx, ?_, fun i h h' => ?_, fun t ht => ?_⟩
    · rw [hh, ← htk]
    · simp only [List.getElem_replicate]
      exact Lies.nil _ _
    · rw [(List.mem_replicate.1 ht).2]
      exact ⟨by simp [Tm.zero, Tm.op], by simp [Tm.zero, Tm.hd], by simp [Tm.zero, Tm.n]⟩
theorem RowF.lt (h : RowF w base e G ts vs) : G < w.heap.size := (Array.getElem?_eq_some_iff.1 h.hg).1
theorem RowF.cell (h : RowF w base e G ts vs) (j : Nat) (u : Value) (hu : (flat ts vs)[j]? = some u) : w.cell? ⟨G, j, none⟩ = some u := cell_in h.hg j u (by simpa using hu)
theorem RowF.cells (h : RowF w base e G ts vs) (k : Nat) (hk : k < ts.length) :
    (∃ u, w.cell? ⟨G, k * 4, none⟩ = some u) ∧ (∃ u, w.cell? ⟨G, k * 4 + 1, none⟩ = some u) ∧ (∃ u, w.cell? ⟨G, k * 4 + 2, none⟩ = some u) ∧ (∃ u, w.cell? ⟨G, k * 4 + 3, none⟩ = some u) := by
  have h0 := flat_get ts vs k hk (by rw [← h.hl]; exact hk)
  exact ⟨⟨_, h.cell _ _ h0.1⟩, ⟨_, h.cell _ _ h0.2.1⟩, ⟨_, h.cell _ _ h0.2.2.1⟩, ⟨_, h.cell _ _ h0.2.2.2⟩⟩
theorem RowF.free (h : RowF w base e G ts vs) (j : Nat) : w.frozen? ⟨G, j, none⟩ = false := free_in h.hg j
/-- One term is stored. -/
theorem RowF.store (h : RowF w base e G ts vs) (k : Nat) (hk : k < ts.length) (t : Tm) (v : Value) (hv : Lies w (fun b => base ≤ b ∧ b ≠ G) v t.args) (hf : t.fit) :
    RowF ((((w.setCell ⟨G, k * 4, none⟩ (.int .i64 t.op)).setCell ⟨G, k * 4 + 1, none⟩ (.int .i64 t.hd)).setCell ⟨G, k * 4 + 2, none⟩ (.int .i64 t.n)).setCell ⟨G, k * 4 + 3, none⟩ v) base e G (ts.set k t) (vs.set k v) := by
  have g1 := heap_set_at (j := k * 4) (.int .i64 t.op) h.hg
  have g2 := heap_set_at (j := k * 4 + 1) (.int .i64 t.hd) g1
  have g3 := heap_set_at (j := k * 4 + 2) (.int .i64 t.n) g2
  have g4 := heap_set_at (j := k * 4 + 3) v g3
  have hfl := flat_set ts vs k t v hk h.hl
  simp only [List.setIfInBounds_toArray] at g4
  rw [hfl] at g4
  have other : ∀ b, b ≠ G → ((((w.setCell ⟨G, k * 4, none⟩ (.int .i64 t.op)).setCell ⟨G, k * 4 + 1, none⟩ (.int .i64 t.hd)).setCell ⟨G, k * 4 + 2, none⟩ (.int .i64 t.n)).setCell ⟨G, k * 4 + 3, none⟩ v).heap[b]? = w.heap[b]? := fun b hb => by
    rw [Below.heap_setCell _ _ _ _ hb, Below.heap_setCell _ _ _ _ hb, Below.heap_setCell _ _ _ _ hb, Below.heap_setCell _ _ _ _ hb]
  refine ⟨h.hb, by simp [h.hl], by simpa using h.hn, g4, fun i hi hi' => ?_, fun x hx => ?_⟩
  · by_cases hik : k = i
    · subst hik
      simp only [List.getElem_set_self]
      exact hv.still fun b hS _ => other b hS.2
    · rw [List.getElem_set_ne hik, List.getElem_set_ne hik]
      exact (h.sub i (by simpa using hi) (by simpa using hi')).still fun b hS _ => other b hS.2
  · rcases List.mem_or_eq_of_mem_set hx with hx | rfl
    · exact h.fit x hx
    · exact hf
/-- What was filled lies there. -/
theorem RowF.lies (h : RowF w base e G ts vs) : Lies w (base ≤ ·) (.slice (some ⟨G, 0, none⟩) ts.length ts.length) ts := by
  have hc : ∀ j u, (flat ts vs)[j]? = some u → w.cell? ⟨G, 0 + j, none⟩ = some u := fun j u hu => by rw [Nat.zero_add]; exact h.cell j u hu
  have hts : ts = (List.range ts.length).map fun i => Tm.mk (ts[i]?.getD (.mk 0 0 0 [])).op (ts[i]?.getD (.mk 0 0 0 [])).hd (ts[i]?.getD (.mk 0 0 0 [])).n (ts[i]?.getD (.mk 0 0 0 [])).args := by
    apply List.ext_getElem
    · simp
    · intro i h1 h2
      simp only [List.getElem_map, List.getElem_range, List.getElem?_eq_getElem h1, Option.getD_some]
      cases ts[i]; rfl
  have hget : ∀ i (h : i < ts.length), ts[i]?.getD (.mk 0 0 0 []) = ts[i] := fun i h => by rw [List.getElem?_eq_getElem h]; rfl
  have hvs : ∀ i (h : i < vs.length), vs[i]?.getD (.slice none 0 0) = vs[i] := fun i h => by rw [List.getElem?_eq_getElem h]; rfl
  have hl := h.hl
  have hf := fun i (hi : i < ts.length) => flat_get ts vs i hi (by omega)
  have row := Lies.row (w := w) (S := (base ≤ ·)) (some ⟨G, 0, none⟩) G 0 ts.length ts.length (fun i => (ts[i]?.getD (.mk 0 0 0 [])).op) (fun i => (ts[i]?.getD (.mk 0 0 0 [])).hd) (fun i => (ts[i]?.getD (.mk 0 0 0 [])).n)
    (fun i => vs[i]?.getD (.slice none 0 0)) (fun i => (ts[i]?.getD (.mk 0 0 0 [])).args) (fun _ => rfl) (fun _ => h.hb) (Nat.le_refl _) h.hn
    (fun i hi => by rw [hget i hi]; exact hc _ _ (hf i hi).1) (fun i hi => by rw [hget i hi]; have := hc _ _ (hf i hi).2.1; rwa [← Nat.add_assoc] at this)
    (fun i hi => by rw [hget i hi]; have := hc _ _ (hf i hi).2.2.1; rwa [← Nat.add_assoc] at this) (fun i hi => by rw [hvs i (by omega)]; have := hc _ _ (hf i hi).2.2.2; rwa [← Nat.add_assoc] at this)
    (fun i hi => by rw [hget i hi]; exact (h.fit _ (List.getElem_mem hi)).1) (fun i hi => by rw [hget i hi]; exact (h.fit _ (List.getElem_mem hi)).2.1) (fun i hi => by rw [hget i hi]; exact (h.fit _ (List.getElem_mem hi)).2.2)
    (fun i hi => by rw [hget i hi, hvs i (by omega)]; exact (h.sub i hi (by omega)).more fun b _ hS => hS.1)
  rw [← hts] at row
  exact row
end
end Go.Proofs.Ytomahhdhnlfabaa
