/- Simple types as plain trees, what lies in memory as a list of them, and a stack of them that a call keeps. Nothing of the program is imported. (The names are those of the terms' texts, in a space of their own.) * A row of simple types that a call has built: it owns the row's block. Nothing of the program is imported. * The simple type of a term, plain. Nothing of the program is imported. * Substitution and application as plain functions on terms, with the count of the nodes that are arrived at. Nothing of the program is imported. * Induction over substitution; what a substitution gives is proper. Nothing of the program is imported. * Rows of pieces (terms with their sizes): what a call builds, and what it reads. Nothing of the program is imported. -/
import Derived.Test.YtieakippgeehgaaTmGa
import Derived.Deep.AppendLies
namespace Go.Proofs.Ytieakippgeehgaa.Sp
open Go.RowKit
set_option linter.unusedSimpArgs false
set_option linter.unusedVariables false

/-- A simple type as a tree: its constant and its parts. -/
inductive Tm where
  | mk (n : Int) (args : List Tm)

namespace Tm
def n : Tm → Int | .mk n _ => n
def args : Tm → List Tm | .mk _ l => l

mutual
def sz : Tm → Nat
  | .mk _ l => 1 + szL l
def szL : List Tm → Nat
  | [] => 0
  | t :: l => sz t + szL l
end

mutual
def same : Tm → Tm → Bool
  | .mk n l, .mk n' l' => n == n' && l.length == l'.length && sameL l l'
def sameL : List Tm → List Tm → Bool
  | a :: l, b :: m => same a b && sameL l m
  | _, _ => true
end

mutual
theorem same_iff : ∀ a b : Tm, same a b = true ↔ a = b
  | .mk n l, .mk n' l' => by
    simp only [same, Bool.and_eq_true, beq_iff_eq, mk.injEq]
    constructor
    · rintro ⟨⟨h3, h4⟩, h5⟩
      exact ⟨h3, (sameL_iff l l' h4).1 h5⟩
    · rintro ⟨h3, h4⟩
      subst h4
      exact ⟨⟨h3, rfl⟩, (sameL_iff l l rfl).2 rfl⟩
theorem sameL_iff : ∀ l m : List Tm, l.length = m.length → (sameL l m = true ↔ l = m)
  | [], [], _ => by simp [sameL]
  | a :: l, b :: m, hl => by
    simp only [sameL, Bool.and_eq_true, List.cons.injEq]
    rw [same_iff a b, sameL_iff l m (by simpa using hl)]
  | [], _ :: _, h => by simp at h
  | _ :: _, [], h => by simp at h
end

theorem sz_pos (t : Tm) : 1 ≤ sz t := by cases t; simp [sz]

theorem szL_le_of_mem : ∀ {l : List Tm} {t : Tm}, t ∈ l → sz t ≤ szL l
  | a :: l, t, h => by
    simp only [szL]
    rcases List.mem_cons.1 h with rfl | h
    · omega
    · have := szL_le_of_mem h; omega
theorem szL_append : ∀ l m : List Tm, szL (l ++ m) = szL l + szL m
  | [], m => by simp [szL]
  | a :: l, m => by simp only [List.cons_append, szL, szL_append l m]; omega
theorem length_le_szL : ∀ l : List Tm, l.length ≤ szL l
  | [] => by simp [szL]
  | a :: l => by simp only [List.length_cons, szL]; have := length_le_szL l; have := sz_pos a; omega

theorem sameL_snoc : ∀ (l m : List Tm) (a b : Tm), l.length = m.length → sameL (l ++ [a]) (m ++ [b]) = (sameL l m && same a b)
  | [], [], a, b, _ => by simp [sameL]
  | x :: l, y :: m, a, b, h => by
    simp only [List.cons_append, sameL]
    rw [sameL_snoc l m a b (by simpa using h), Bool.and_assoc]
  | [], _ :: _, _, _, h => by simp at h
  | _ :: _, [], _, _, h => by simp at h
theorem sameL_append : ∀ (l m l' m' : List Tm), l.length = m.length → sameL (l ++ l') (m ++ m') = (sameL l m && sameL l' m')
  | [], [], l', m', _ => by simp [sameL]
  | x :: l, y :: m, l', m', h => by
    simp only [List.cons_append, sameL]
    rw [sameL_append l m l' m' (by simpa using h), Bool.and_assoc]
  | [], _ :: _, _, _, h => by simp at h
  | _ :: _, [], _, _, h => by simp at h

theorem sameL_false : ∀ (k : Nat) (l m : List Tm) (h : k < l.length) (h' : k < m.length), same l[k] m[k] = false → sameL l m = false
  | 0, a :: l, b :: m, _, _, e => by simp at e; simp [sameL, e]
  | k + 1, a :: l, b :: m, h, h', e => by
    have := sameL_false k l m (by simpa using h) (by simpa using h') (by simpa using e)
    simp [sameL, this]
  | _, [], _, h, _, _ => by simp at h
  | _, _ :: _, [], _, h, _ => by simp at h
end Tm

/-- A slice of simple types lies in w, in blocks of S: the value v reads as the list ts. -/
inductive Lies (w : World) (S : Nat → Prop) : Value → List Tm → Prop
  | row (ao : Option Addr) (b off len cap : Nat) (k : Nat → Int) (sv : Nat → Value) (ts : Nat → List Tm)
      (hao : 0 < len → ao = some ⟨b, off, none⟩) (hS : 0 < len → S b) (hl : len ≤ cap) (hr : cap ≤ 9223372036854775807)
      (c0 : ∀ i, i < len → w.cell? ⟨b, off + i * 2, none⟩ = some (sv i))
      (c1 : ∀ i, i < len → w.cell? ⟨b, off + i * 2 + 1, none⟩ = some (.int .i64 (k i)))
      (r2 : ∀ i, i < len → -9223372036854775808 ≤ k i ∧ k i ≤ 9223372036854775807)
      (sub : ∀ i, i < len → Lies w S (sv i) (ts i)) :
      Lies w S (.slice ao len cap) ((List.range len).map fun i => .mk (k i) (ts i))

theorem Lies.nil (w : World) (S : Nat → Prop) : Lies w S (.slice none 0 0) [] := by
  have := Lies.row (w := w) (S := S) none 0 0 0 0 (fun _ => 0) (fun _ => .slice none 0 0) (fun _ => []) (by simp) (by simp) (by simp) (by simp)
    (by simp) (by simp) (by simp) (by simp)
  simpa using this

theorem Lies.still {w w' : World} {S : Nat → Prop} (hb : ∀ b, S b → b < w.heap.size → w'.heap[b]? = w.heap[b]?) {v : Value} {ts : List Tm} (h : Lies w S v ts) : Lies w' S v ts := by
  induction h with
  | row ao b off len cap k sv ts hao hS hl hr c0 c1 r2 _ ih =>
    have go : ∀ {i : Nat}, i < len → ∀ {j : Nat} {u : Value}, w.cell? ⟨b, j, none⟩ = some u → w'.cell? ⟨b, j, none⟩ = some u := fun {i} hi {j u} e => by
      rw [World.cell?_of_block (w := w) (hb b (hS (by omega)) (World.block_lt_of_cell? w _ e))]; exact e
    exact .row ao b off len cap k sv ts hao hS hl hr (fun i hi => go hi (c0 i hi)) (fun i hi => go hi (c1 i hi)) r2 ih
theorem Lies.keep {w w' : World} {S : Nat → Prop} (hb : Below w.heap.size w w') {v : Value} {ts : List Tm} (h : Lies w S v ts) : Lies w' S v ts :=
  h.still fun b _ hlt => hb.block b hlt
theorem Lies.more {w : World} {S S' : Nat → Prop} (hs : ∀ b, b < w.heap.size → S b → S' b) {v : Value} {ts : List Tm} (h : Lies w S v ts) : Lies w S' v ts := by
  induction h with
  | row ao b off len cap k sv ts hao hS hl hr c0 c1 r2 _ ih =>
    exact .row ao b off len cap k sv ts hao (fun h0 => hs b (World.block_lt_of_cell? w _ (c0 0 h0)) (hS h0)) hl hr c0 c1 r2 ih
theorem Lies.isSlice {w : World} {S : Nat → Prop} {v : Value} {l : List Tm} (h : Lies w S v l) : ∃ a n m, v = .slice a n m := by
  cases h; exact ⟨_, _, _, rfl⟩

structure RowAt (w : World) (S : Nat → Prop) (ao : Option Addr) (b off len cap : Nat) (k : Nat → Int) (sv : Nat → Value) (ts : Nat → List Tm) (l : List Tm) : Prop where
  isRow : l = (List.range len).map fun i => .mk (k i) (ts i)
  hao : 0 < len → ao = some ⟨b, off, none⟩
  hS : 0 < len → S b
  hl : len ≤ cap
  hr : cap ≤ 9223372036854775807
  c0 : ∀ i, i < len → w.cell? ⟨b, off + i * 2, none⟩ = some (sv i)
  c1 : ∀ i, i < len → w.cell? ⟨b, off + i * 2 + 1, none⟩ = some (.int .i64 (k i))
  r2 : ∀ i, i < len → -9223372036854775808 ≤ k i ∧ k i ≤ 9223372036854775807
  sub : ∀ i, i < len → Lies w S (sv i) (ts i)

theorem Lies.open {w : World} {S : Nat → Prop} {v : Value} {l : List Tm} (hv : Lies w S v l) :
    ∃ (ao : Option Addr) (b off len cap : Nat) (k : Nat → Int) (sv : Nat → Value) (ts : Nat → List Tm), v = .slice ao len cap ∧ RowAt w S ao b off len cap k sv ts l := by
  cases hv with
  | row ao b off len cap k sv ts hao hS hl hr c0 c1 r2 sub =>
    exact ⟨ao, b, off, len, cap, k, sv, ts, rfl, ⟨rfl, hao, hS, hl, hr, c0, c1, r2, sub⟩⟩

section
variable {w wr : World} {S : Nat → Prop} {ao : Option Addr} {b off len cap : Nat} {k : Nat → Int} {sv : Nat → Value} {ts : Nat → List Tm} {l : List Tm}
theorem RowAt.length (R : RowAt w S ao b off len cap k sv ts l) : l.length = len := by rw [R.isRow]; simp
theorem RowAt.get (R : RowAt w S ao b off len cap k sv ts l) (i : Nat) (hi : i < len) : l[i]'(by rw [R.length]; exact hi) = .mk (k i) (ts i) := by
  have := R.isRow; subst this; simp
theorem RowAt.at (R : RowAt w S ao b off len cap k sv ts l) (hb : Below w.heap.size w wr) (i : Nat) (hi : i < len) :
    wr.cell? ⟨b, off + i * 2, none⟩ = some (sv i) ∧ wr.cell? ⟨b, off + i * 2 + 1, none⟩ = some (.int .i64 (k i)) ∧ Lies wr S (sv i) (ts i) :=
  ⟨kept_cell hb (R.c0 i hi), kept_cell hb (R.c1 i hi), (R.sub i hi).keep hb⟩
theorem RowAt.mem (R : RowAt w S ao b off len cap k sv ts l) (i : Nat) (hi : i < len) : .mk (k i) (ts i) ∈ l := by
  rw [← R.get i hi]; exact List.getElem_mem _
end

/-- the cells of simple types whose parts are these values -/
def flat : List Tm → List Value → List Value
  | t :: ts, v :: vs => v :: .int .i64 t.n :: flat ts vs
  | _, _ => []
theorem flat_length : ∀ (ts : List Tm) (vs : List Value), ts.length = vs.length → (flat ts vs).length = ts.length * 2
  | [], [], _ => rfl
  | t :: ts, v :: vs, h => by simp only [flat, List.length_cons, flat_length ts vs (by simpa using h)]; omega
  | [], _ :: _, h => by simp at h
  | _ :: _, [], h => by simp at h
theorem flat_get : ∀ (ts : List Tm) (vs : List Value) (i : Nat) (h : i < ts.length) (h' : i < vs.length),
    (flat ts vs)[i * 2]? = some vs[i] ∧ (flat ts vs)[i * 2 + 1]? = some (.int .i64 ts[i].n)
  | t :: ts, v :: vs, 0, _, _ => by simp [flat]
  | t :: ts, v :: vs, i + 1, h, h' => by
    have := flat_get ts vs i (by simpa using h) (by simpa using h')
    have e : ∀ j, (i + 1) * 2 + j = (i * 2 + j) + 1 + 1 := fun j => by omega
    have e0 : (i + 1) * 2 = i * 2 + 1 + 1 := by omega
    simp only [flat, List.getElem_cons_succ]
    rw [e 1, e0]
    simp only [List.getElem?_cons_succ]
    exact this
  | [], _, _, h, _ => by simp at h
  | _ :: _, [], _, _, h => by simp at h
theorem flat_append : ∀ (ts ts' : List Tm) (vs vs' : List Value), ts.length = vs.length → flat (ts ++ ts') (vs ++ vs') = flat ts vs ++ flat ts' vs'
  | [], _, [], _, _ => rfl
  | t :: ts, ts', v :: vs, vs', h => by simp only [List.cons_append, flat, flat_append ts ts' vs vs' (by simpa using h)]
  | [], _, _ :: _, _, h => by simp at h
  | _ :: _, _, [], _, h => by simp at h
theorem flat_at {w : World} {b off : Nat} (ts : List Tm) (vs : List Value) (hl : ts.length = vs.length)
    (h : ∀ i (h : i < ts.length) (h' : i < vs.length), w.cell? ⟨b, off + i * 2, none⟩ = some vs[i] ∧ w.cell? ⟨b, off + i * 2 + 1, none⟩ = some (.int .i64 ts[i].n)) :
    ∀ j u, (flat ts vs)[j]? = some u → w.cell? ((⟨b, off, none⟩ : Addr).add j) = some u := by
  intro j u hu
  have hj : j < ts.length * 2 := by rw [← flat_length ts vs hl]; exact (List.getElem?_eq_some_iff.1 hu).1
  have hq : j / 2 < ts.length := by omega
  have h0 := h (j / 2) hq (by omega)
  have hf := flat_get ts vs (j / 2) hq (by omega)
  have hm : j = j / 2 * 2 + j % 2 := by omega
  have hlt : j % 2 < 2 := by omega
  rw [Addr.add_lit]
  generalize j % 2 = r at hm hlt
  rw [hm] at hu ⊢
  match r, hlt with
  | 0, _ => rw [Nat.add_zero] at hu ⊢; rw [hf.1] at hu; rw [← hu]; exact h0.1
  | 1, _ => rw [hf.2] at hu; rw [← hu]; exact h0.2
theorem flat_one : ∀ (ts : List Tm) (vs : List Value), (∀ v ∈ vs, v.oneCell' = true) → ∀ u ∈ flat ts vs, u.oneCell' = true
  | t :: ts, v :: vs, h, u, hu => by
    simp only [flat, List.mem_cons] at hu
    rcases hu with rfl | rfl | hu
    · exact h _ (by simp)
    · rfl
    · exact flat_one ts vs (fun v hv => h v (by simp [hv])) u hu
  | [], _, _, u, hu => by simp [flat] at hu
  | _ :: _, [], _, u, hu => by simp [flat] at hu

def Tm.fit (t : Tm) : Prop := -9223372036854775808 ≤ t.n ∧ t.n ≤ 9223372036854775807

/-- A stack of simple types in a row of the call's own (block g), whose parts lie in blocks older than base. -/
structure Stk (w : World) (base : Nat) (e : TypeId) (g n cap : Nat) (ts : List Tm) (vs : List Value) : Prop where
  len : ts.length = n
  hl : ts.length = vs.length
  own : w.ownsRow base e 2 (.slice (some ⟨g, 0, none⟩) n cap) n (flat ts vs)
  sub : ∀ i (h : i < ts.length) (h' : i < vs.length), Lies w (· < base) vs[i] ts[i].args
  fit : ∀ t ∈ ts, t.fit

section
variable {w w' : World} {base : Nat} {e : TypeId} {g n cap : Nat} {ts : List Tm} {vs : List Value}
theorem Stk.block (H : Stk w base e g n cap ts vs) : base ≤ g ∧ g < w.heap.size := H.own.lt g rfl
theorem Stk.keep (H : Stk w base e g n cap ts vs) (hg : w'.heap[g]? = w.heap[g]?) (hb : ∀ b, b < base → b < w.heap.size → w'.heap[b]? = w.heap[b]?) : Stk w' base e g n cap ts vs := by
  refine ⟨H.len, H.hl, ⟨H.own.1, ?_⟩, fun i h h' => (H.sub i h h').still hb, H.fit⟩
  rcases H.own.2 with hn | ⟨g', cap', cur, hv, hb', hh, rest⟩
  · exact .inl hn
  · have : g' = g := by simpa [Value.ownBlock] using (congrArg Value.ownBlock hv).symm
    subst this
    exact .inr ⟨g', cap', cur, hv, hb', hg.trans hh, rest⟩
theorem Stk.below (H : Stk w base e g n cap ts vs) (hb : Below w.heap.size w w') : Stk w' base e g n cap ts vs := H.keep (hb.block _ H.block.2) fun b _ h => hb.block b h
theorem Stk.other {k : Nat} (H : Stk w base e g n cap ts vs) (hg : w.grownBy w' (some k)) (hk : k ≠ g) (hkb : base ≤ k) : Stk w' base e g n cap ts vs :=
  H.keep (hg.block _ H.block.2 (by simpa using (Ne.symm hk))) fun b h1 h2 => hg.block b h2 (by simp; omega)
theorem Stk.pop {t : Tm} {v : Value} (H : Stk w base e g (n + 1) cap (ts ++ [t]) (vs ++ [v])) : Stk w base e g n cap ts vs := by
  have hlen := H.len
  have hl := H.hl
  simp only [List.length_append, List.length_singleton] at hlen hl
  have hl' : ts.length = vs.length := by omega
  refine ⟨by omega, hl', ⟨by rw [flat_length _ _ hl']; omega, ?_⟩, fun i h h' => ?_, fun t ht => H.fit t (by simp [ht])⟩
  · rcases H.own.2 with ⟨h, _⟩ | ⟨g', cap', cur, hv, hb', hh, hle, hmx, hsz, htk⟩
    · cases h
    · cases hv
      refine .inr ⟨g, cap, cur, rfl, hb', hh, by omega, hmx, hsz, ?_⟩
      rw [flat_append _ _ _ _ hl'] at htk
      have h4 : (flat ts vs).length = n * 2 := by rw [flat_length _ _ hl']; omega
      have := congrArg (List.take (n * 2)) htk
      rwa [List.take_take, Nat.min_eq_left (by omega), List.take_left' h4] at this
  · have := H.sub i (by simp; omega) (by simp; omega)
    rwa [List.getElem_append_left h, List.getElem_append_left h'] at this
theorem Stk.top {t : Tm} {v : Value} (H : Stk w base e g (n + 1) cap (ts ++ [t]) (vs ++ [v])) :
    w.cell? ⟨g, n * 2, none⟩ = some v ∧ w.cell? ⟨g, n * 2 + 1, none⟩ = some (.int .i64 t.n) ∧ Lies w (· < base) v t.args ∧ t.fit ∧ n + 1 ≤ cap ∧ cap ≤ 9223372036854775807 := by
  have hlen := H.len
  have hl := H.hl
  simp only [List.length_append, List.length_singleton] at hlen hl
  have hn : ts.length = n := by omega
  have hv : vs.length = n := by omega
  have hcells := @World.ownsRow.cells w base e 2 _ (n + 1) _ H.own g rfl
  have hf := flat_get (ts ++ [t]) (vs ++ [v]) n (by simp [hn]) (by simp [hv])
  have e1 : (ts ++ [t])[n]'(by simp [hn]) = t := by simp [List.getElem_append_right, hn]
  have e2 : (vs ++ [v])[n]'(by simp [hv]) = v := by simp [List.getElem_append_right, hv]
  rw [e1, e2] at hf
  have hs := H.sub n (by simp [hn]) (by simp [hv])
  rw [e1, e2] at hs
  have go : ∀ j u, (flat (ts ++ [t]) (vs ++ [v]))[j]? = some u → w.cell? ⟨g, j, none⟩ = some u := fun j u hu => by
    have := hcells j u hu
    rw [Addr.add_lit, Nat.zero_add] at this
    exact this
  refine ⟨go _ _ hf.1, go _ _ hf.2, hs, H.fit t (by simp), ?_⟩
  rcases H.own.2 with ⟨h, _⟩ | ⟨g', cap', cur, hv', hb', hh, hle, hmx, _⟩
  · cases h
  · cases hv'; exact ⟨hle, by unfold maxLen at hmx; exact hmx⟩
theorem Stk.push {ts' : List Tm} {vs' : List Value} {g' cap' m : Nat} (H : Stk w base e g n cap ts vs) (hl : ts'.length = vs'.length) (hm : ts'.length = m) (hs : ∀ i (h : i < ts'.length) (h' : i < vs'.length), Lies w (· < base) vs'[i] ts'[i].args) (hf : ∀ t ∈ ts', t.fit)
    (hown : w'.ownsRow base e 2 (.slice (some ⟨g', 0, none⟩) (n + m) cap') (n + m) (flat ts vs ++ flat ts' vs')) (hgrow : w.grownBy w' (some g)) : Stk w' base e g' (n + m) cap' (ts ++ ts') (vs ++ vs') := by
  have hb : ∀ b, b < base → b < w.heap.size → w'.heap[b]? = w.heap[b]? := fun b h1 h2 => hgrow.block b h2 (by have := H.block; simp; omega)
  refine ⟨by simp [H.len, hm], by simp [H.hl, hl], by rw [flat_append _ _ _ _ H.hl]; exact hown, fun i h h' => ?_, fun t ht => ?_⟩
  · by_cases hi : i < ts.length
    · rw [List.getElem_append_left hi, List.getElem_append_left (by rw [← H.hl]; exact hi)]
      exact (H.sub i hi (by rw [← H.hl]; exact hi)).still hb
    · have hvl := H.hl
      rw [List.getElem_append_right (as := ts) (by omega), List.getElem_append_right (as := vs) (by omega)]
      have := hs (i - ts.length) (by simp at h; omega) (by simp at h'; have := H.hl; omega)
      have e : i - vs.length = i - ts.length := by rw [H.hl]
      simp only [e]
      exact this.still hb
  · rcases List.mem_append.1 ht with h | h
    · exact H.fit t h
    · exact hf t h
theorem Stk.one {n : Int} {v : Value} {l : List Tm} {b : Nat} (hb : base ≤ b) (hh : w.heap[b]? = some (.cells #[v, .int .i64 n] e (0, 0))) (hv : Lies w (· < base) v l) (hf : (Tm.mk n l).fit) : Stk w base e b 1 1 [.mk n l] [v] := by
  refine ⟨rfl, rfl, ⟨rfl, .inr ⟨b, 1, _, rfl, hb, hh, Nat.le_refl _, by unfold maxLen; omega, rfl, rfl⟩⟩, ?_, fun t ht => by simp at ht; rw [ht]; exact hf⟩
  intro i h h'
  obtain rfl : i = 0 := by simpa using h
  exact hv
end

/-- the cells of an argument's row, as a source of append -/
theorem RowAt.news {w wr : World} {S : Nat → Prop} {ao : Option Addr} {b off len cap : Nat} {k : Nat → Int} {sv : Nat → Value} {ts : Nat → List Tm} {l : List Tm} (R : RowAt w S ao b off len cap k sv ts l) (hb : Below w.heap.size w wr) :
    ∀ ad, ao = some ad → ∀ j u, (flat l ((List.range len).map sv))[j]? = some u → wr.cell? (ad.add j) = some u := by
  intro ad had j u hu
  have hl := R.length
  by_cases h0 : 0 < len
  · have h1 := R.hao h0
    rw [h1] at had
    cases had
    refine flat_at l _ (by simp [hl]) ?_ j u hu
    intro i hi hi'
    obtain ⟨d0, d1, _⟩ := R.at hb i (by omega)
    have hg := R.get i (by omega)
    rw [hg]
    exact ⟨by simpa using d0, d1⟩
  · have : l = [] := List.eq_nil_of_length_eq_zero (by omega)
    subst this
    simp [flat] at hu
theorem RowAt.one {w : World} {S : Nat → Prop} {ao : Option Addr} {b off len cap : Nat} {k : Nat → Int} {sv : Nat → Value} {ts : Nat → List Tm} {l : List Tm} (R : RowAt w S ao b off len cap k sv ts l) :
    ∀ u ∈ flat l ((List.range len).map sv), u.oneCell' = true := by
  refine flat_one _ _ fun v hv => ?_
  obtain ⟨i, hi, rfl⟩ := List.mem_map.1 hv
  obtain ⟨a, n, m, e⟩ := (R.sub i (by simpa using hi)).isSlice
  rw [e]; rfl
theorem RowAt.subs {w wr : World} {S : Nat → Prop} {ao : Option Addr} {b off len cap : Nat} {k : Nat → Int} {sv : Nat → Value} {ts : Nat → List Tm} {l : List Tm} (R : RowAt w S ao b off len cap k sv ts l) (hb : Below w.heap.size w wr) :
    ∀ i (hi : i < l.length) (hi' : i < ((List.range len).map sv).length), Lies wr S ((List.range len).map sv)[i] l[i].args := by
  intro i hi hi'
  have hl := R.length
  rw [R.get i (by omega)]
  simpa [Tm.args] using (R.sub i (by omega)).keep hb
theorem RowAt.fits {w : World} {S : Nat → Prop} {ao : Option Addr} {b off len cap : Nat} {k : Nat → Int} {sv : Nat → Value} {ts : Nat → List Tm} {l : List Tm} (R : RowAt w S ao b off len cap k sv ts l) : ∀ t ∈ l, t.fit := by
  intro t ht
  rw [R.isRow] at ht
  obtain ⟨i, hi, rfl⟩ := List.mem_map.1 ht
  have hi' : i < len := by simpa using hi
  exact R.r2 i hi'
theorem RowAt.still {w w' : World} {S : Nat → Prop} {ao : Option Addr} {b off len cap : Nat} {k : Nat → Int} {sv : Nat → Value} {ts : Nat → List Tm} {l : List Tm} (R : RowAt w S ao b off len cap k sv ts l) (hb : ∀ b, S b → b < w.heap.size → w'.heap[b]? = w.heap[b]?) :
    RowAt w' S ao b off len cap k sv ts l := by
  have go : ∀ {i : Nat}, i < len → ∀ {j : Nat} {u : Value}, w.cell? ⟨b, j, none⟩ = some u → w'.cell? ⟨b, j, none⟩ = some u := fun {i} hi {j u} e => by
    rw [World.cell?_of_block (w := w) (hb b (R.hS (by omega)) (World.block_lt_of_cell? w _ e))]; exact e
  exact ⟨R.isRow, R.hao, R.hS, R.hl, R.hr, fun i hi => go hi (R.c0 i hi), fun i hi => go hi (R.c1 i hi), R.r2, fun i hi => (R.sub i hi).still hb⟩
end Go.Proofs.Ytieakippgeehgaa.Sp

namespace Go.Proofs.Ytieakippgeehgaa.Sp
open Go.RowKit
set_option linter.unusedSimpArgs false
set_option linter.unusedVariables false

theorem flat_snoc : ∀ (ts : List Tm) (vs : List Value) (t : Tm) (v : Value), ts.length = vs.length → flat (ts ++ [t]) (vs ++ [v]) = flat ts vs ++ [v, .int .i64 t.n]
  | [], [], _, _, _ => rfl
  | t :: ts, v :: vs, t', v', h => by simp only [List.cons_append, flat, flat_snoc ts vs t' v' (by simpa using h)]
  | [], _ :: _, _, _, h => by simp at h
  | _ :: _, [], _, _, h => by simp at h

/-- The slice value v is the call's own row (in a block from base on), and holds the simple types ts; their parts lie in other blocks, of S. -/
structure Built (w : World) (base : Nat) (S : Nat → Prop) (e : TypeId) (v : Value) (ts : List Tm) : Prop where
  has : ∃ vs : List Value, ts.length = vs.length ∧ w.ownsRow base e 2 v ts.length (flat ts vs) ∧ ∀ i (h : i < ts.length) (h' : i < vs.length), Lies w (fun b => S b ∧ v.ownBlock ≠ some b) vs[i] ts[i].args
  fit : ∀ t ∈ ts, t.fit

section
variable {w w' : World} {base : Nat} {S : Nat → Prop} {e : TypeId} {v : Value} {ts : List Tm}
theorem Built.nil (w : World) (base : Nat) (S : Nat → Prop) (e : TypeId) : Built w base S e (.slice none 0 0) [] :=
  ⟨⟨[], rfl, World.ownsRow_nil _ _ _ _, fun i h => by simp at h⟩, by simp⟩

theorem Built.keep (h : Built w base S e v ts) (hb : ∀ b, S b ∨ v.ownBlock = some b → b < w.heap.size → w'.heap[b]? = w.heap[b]?) : Built w' base S e v ts := by
  obtain ⟨⟨vs, hl, hown, hsub⟩, hfit⟩ := h
  refine ⟨⟨vs, hl, ⟨hown.1, ?_⟩, fun i h h' => (hsub i h h').still fun b hS hlt => hb b (.inl hS.1) hlt⟩, hfit⟩
  rcases hown.2 with hn | ⟨g, cap, cur, rfl, hg, hh, rest⟩
  · exact .inl hn
  · exact .inr ⟨g, cap, cur, rfl, hg, (hb g (.inr rfl) (Array.getElem?_eq_some_iff.1 hh).1).trans hh, rest⟩
theorem Built.below (h : Built w base S e v ts) (hb : Below w.heap.size w w') : Built w' base S e v ts :=
  h.keep fun b _ hlt => hb.block b hlt
theorem Built.lt (h : Built w base S e v ts) : ∀ k, v.ownBlock = some k → base ≤ k ∧ k < w.heap.size := by
  obtain ⟨vs, _, hown, _⟩ := h.has; exact hown.lt
theorem Built.low {base' : Nat} {S' : Nat → Prop} (h : Built w base S e v ts) (hb : base' ≤ base) (hS : ∀ b, b < w.heap.size → S b → S' b) : Built w base' S' e v ts := by
  obtain ⟨⟨vs, hl, hown, hsub⟩, hfit⟩ := h
  refine ⟨⟨vs, hl, ⟨hown.1, ?_⟩, fun i h h' => (hsub i h h').more fun b hlt hS' => ⟨hS b hlt hS'.1, hS'.2⟩⟩, hfit⟩
  rcases hown.2 with hn | ⟨g, cap, cur, rfl, hg, rest⟩
  · exact .inl hn
  · exact .inr ⟨g, cap, cur, rfl, by omega, rest⟩

/-- A row of the call's own that holds what it should: built. -/
theorem Built.of {us : List Tm} {vs : List Value} {g cap m : Nat} (hm : us.length = m)
    (hl : us.length = vs.length) (hsub : ∀ i (h : i < us.length) (h' : i < vs.length), Lies w (fun b => S b ∧ v.ownBlock ≠ some b) vs[i] us[i].args) (hfit : ∀ t ∈ us, t.fit)
    (hown' : w'.ownsRow base e 2 (.slice (some ⟨g, 0, none⟩) m cap) m (flat us vs))
    (hgrow : ∀ k, k < w.heap.size → some k ≠ v.ownBlock → w'.heap[k]? = w.heap[k]?) (hat : v.ownBlock = some g ∨ w.heap.size ≤ g) : Built w' base S e (.slice (some ⟨g, 0, none⟩) m cap) us := by
  subst hm
  refine ⟨⟨vs, hl, hown', fun i h h' => ?_⟩, hfit⟩
  have h2 : Lies w (fun b => S b ∧ b ≠ g ∧ v.ownBlock ≠ some b) vs[i] us[i].args := (hsub i h h').more fun b hlt hS => ⟨hS.1, fun e => by
    subst e
    rcases hat with hat | hat
    · exact hS.2 hat
    · omega, hS.2⟩
  refine (h2.still (w' := w') fun b hS hlt => hgrow b hlt (fun e => hS.2.2 e.symm)).more fun b _ hS => ⟨hS.1, ?_⟩
  simp only [Value.ownBlock, ne_eq, Option.some.injEq]
  exact fun e => hS.2.1 e.symm

theorem Built.lies (h : Built w base S e v ts) (hS : ∀ b, base ≤ b → v.ownBlock = some b → S b) : Lies w S v ts := by
  obtain ⟨⟨vs, hl, hown, hsub⟩, hfit⟩ := h
  have hcells := @World.ownsRow.cells w base e 2 v ts.length (flat ts vs) hown
  rcases hown.2 with ⟨rfl, h0⟩ | ⟨g, cap, cur, rfl, hg, hh, hle, hmx, _⟩
  · obtain rfl : ts = [] := List.eq_nil_of_length_eq_zero h0
    exact Lies.nil _ _
  · have hc : ∀ j u, (flat ts vs)[j]? = some u → w.cell? ⟨g, 0 + j, none⟩ = some u := fun j u hu => by
      have := hcells (g := g) (by simp [Value.ownBlock]) j u hu
      rwa [Addr.add_lit] at this
    have hts : ts = (List.range ts.length).map fun i => Tm.mk (ts[i]?.getD (.mk 0 [])).n (ts[i]?.getD (.mk 0 [])).args := by
      apply List.ext_getElem
      · simp
      · intro i h1 h2
        simp only [List.getElem_map, List.getElem_range, List.getElem?_eq_getElem h1, Option.getD_some]
        cases ts[i]; rfl
    have hget : ∀ i (h : i < ts.length), ts[i]?.getD (.mk 0 []) = ts[i] := fun i h => by rw [List.getElem?_eq_getElem h]; rfl
    have hvs : ∀ i (h : i < vs.length), vs[i]?.getD (.slice none 0 0) = vs[i] := fun i h => by rw [List.getElem?_eq_getElem h]; rfl
    have hf := fun i (h : i < ts.length) => flat_get ts vs i h (by omega)
    have hm : cap ≤ 9223372036854775807 := by unfold maxLen at hmx; exact hmx
    have row := Lies.row (w := w) (S := S) (some ⟨g, 0, none⟩) g 0 ts.length cap (fun i => (ts[i]?.getD (.mk 0 [])).n)
      (fun i => vs[i]?.getD (.slice none 0 0)) (fun i => (ts[i]?.getD (.mk 0 [])).args) (fun _ => rfl) (fun _ => hS g hg rfl) hle hm
      (fun i hi => by rw [hvs i (by omega)]; exact hc _ _ (hf i hi).1) (fun i hi => by rw [hget i hi]; have := hc _ _ (hf i hi).2; rwa [← Nat.add_assoc] at this)
      (fun i hi => by rw [hget i hi]; exact hfit _ (List.getElem_mem hi))
      (fun i hi => by rw [hget i hi, hvs i (by omega)]; exact (hsub i hi (by omega)).more fun b _ hS => hS.1)
    rw [← hts] at row
    exact row
theorem Built.isSlice (h : Built w base S e v ts) : ∃ a n m, v = .slice a n m := by
  obtain ⟨vs, _, hown, _⟩ := h.has
  rcases hown.2 with ⟨rfl, _⟩ | ⟨g, cap, cur, rfl, _⟩
  · exact ⟨_, _, _, rfl⟩
  · exact ⟨_, _, _, rfl⟩
theorem Built.len {a : Option Addr} {n m : Nat} (h : Built w base S e (.slice a n m) ts) : ts.length = n := by
  obtain ⟨vs, _, hown, _⟩ := h.has
  rcases hown.2 with ⟨h, h0⟩ | ⟨g, cap, cur, h, _⟩
  · cases h; exact h0
  · cases h; rfl
theorem Lies.len {a : Option Addr} {n m : Nat} {l : List Tm} (h : Lies w S (.slice a n m) l) : l.length = n := by
  obtain ⟨ao, b, off, len, cap, k, sv, ts, e, R⟩ := h.open
  cases e; exact R.length

/-- a literal of one simple type, in a block of its own -/
theorem Built.one {b : Nat} {n : Int} {l : List Tm} (hh : w.heap[b]? = some (.cells #[v, .int .i64 n] e (0, 0))) (hb : base ≤ b) (hv : Lies w (fun k => S k ∧ k ≠ b) v l) (hf : (Tm.mk n l).fit) :
    Built w base S e (.slice (some ⟨b, 0, none⟩) 1 1) [.mk n l] := by
  refine ⟨⟨[v], rfl, ⟨rfl, .inr ⟨b, 1, _, rfl, hb, hh, Nat.le_refl _, by unfold maxLen; omega, rfl, rfl⟩⟩, ?_⟩, fun t ht => by simp at ht; rw [ht]; exact hf⟩
  intro i h h'
  obtain rfl : i = 0 := by simpa using h
  exact hv.more fun k _ hS => ⟨hS.1, fun e => by simp [Value.ownBlock] at e; omega⟩
end
end Go.Proofs.Ytieakippgeehgaa.Sp

namespace Go.Proofs.Ytieakippgeehgaa
set_option linter.unusedSimpArgs false
set_option linter.unusedVariables false

/-- that of a TPi, of those of its parts -/
def Tm.simpJ (x y : Option Sp.Tm) : Option Sp.Tm := match x, y with
  | some x, some y => some (.mk y.n (x :: y.args))
  | _, _ => none

mutual
/-- the simple type of a term, if it has one -/
def Tm.simp : Tm → Option Sp.Tm
  | .mk o h n l => if o = 2 then Tm.simpL l else if h = 2 then some (.mk n []) else none
def Tm.simpL : List Tm → Option Sp.Tm
  | [] => none
  | a :: l => Tm.simpJ (Tm.simp a) (Tm.simpT l)
def Tm.simpT : List Tm → Option Sp.Tm
  | [] => none
  | b :: _ => Tm.simp b
end

theorem Tm.simp_pi (h n : Int) (a b : Tm) : Tm.simp (.mk 2 h n [a, b]) = Tm.simpJ (Tm.simp a) (Tm.simp b) := by
  simp only [Tm.simp, Tm.simpL, Tm.simpT, if_true]
theorem Tm.simp_con (o n : Int) (l : List Tm) (h : ¬ o = 2) : Tm.simp (.mk o 2 n l) = some (.mk n []) := by simp [Tm.simp, h]
theorem Tm.simp_no (o h n : Int) (l : List Tm) (e : ¬ o = 2) (e' : ¬ h = 2) : Tm.simp (.mk o h n l) = none := by simp [Tm.simp, e, e']

/-- what stands for no simple type -/
def spOf : Option Sp.Tm → Sp.Tm | some x => x | none => .mk 0 []

theorem Tm.formed_pi {h n : Int} {l : List Tm} {d : Nat} (e : Tm.formed (.mk 2 h n l) d = true) : ∃ a b, l = [a, b] ∧ Tm.formed a (d + 1) = true ∧ Tm.formed b (d + 1) = true := by
  simp only [Tm.formed, Bool.and_eq_true, decide_eq_true_eq] at e
  obtain ⟨⟨_, hh⟩, hl⟩ := e
  have hh' := Tm.headOk_yes _ _ _ _ hh
  have h2 : l.length = 2 := by omega
  match l, h2 with
  | [a, b], _ =>
    simp only [Tm.formedL, Bool.and_eq_true] at hl
    exact ⟨a, b, rfl, hl.1, hl.2.1⟩

mutual
theorem Tm.simp_fit : ∀ (t : Tm) (d : Nat), Tm.formed t d = true → ∀ s, Tm.simp t = some s → 0 ≤ s.n ∧ s.n ≤ 9999 ∧ Sp.Tm.sz s ≤ Tm.sz t
  | .mk o h n l, d, e, s, hs => by
    have e0 := e
    simp only [Tm.formed, Bool.and_eq_true, decide_eq_true_eq] at e
    obtain ⟨⟨_, hh⟩, hl⟩ := e
    have hh' := Tm.headOk_yes _ _ _ _ hh
    simp only [Tm.simp] at hs
    split at hs
    · obtain ⟨h1, h2, h3⟩ := Tm.simpL_fit l (d + 1) hl s hs
      refine ⟨h1, h2, ?_⟩
      simp only [Tm.sz]; omega
    · split at hs
      · cases hs
        simp only [Sp.Tm.n, Sp.Tm.sz, Sp.Tm.szL, Tm.sz]
        omega
      · cases hs
theorem Tm.simpL_fit : ∀ (l : List Tm) (d : Nat), Tm.formedL l d = true → ∀ s, Tm.simpL l = some s → 0 ≤ s.n ∧ s.n ≤ 9999 ∧ Sp.Tm.sz s ≤ Tm.szL l
  | [], _, _, s, hs => by simp [Tm.simpL] at hs
  | a :: l, d, e, s, hs => by
    simp only [Tm.formedL, Bool.and_eq_true] at e
    simp only [Tm.simpL, Tm.simpJ] at hs
    split at hs
    · rename_i x y hx hy
      cases hs
      obtain ⟨x1, x2, x3⟩ := Tm.simp_fit a d e.1 x hx
      obtain ⟨y1, y2, y3⟩ := Tm.simpT_fit l d e.2 y hy
      refine ⟨y1, y2, ?_⟩
      obtain ⟨yn, ya⟩ := y
      simp only [Sp.Tm.sz, Sp.Tm.szL, Sp.Tm.n, Sp.Tm.args, Tm.szL] at *
      omega
    · cases hs
theorem Tm.simpT_fit : ∀ (l : List Tm) (d : Nat), Tm.formedL l d = true → ∀ s, Tm.simpT l = some s → 0 ≤ s.n ∧ s.n ≤ 9999 ∧ Sp.Tm.sz s ≤ Tm.szL l
  | [], _, _, s, hs => by simp [Tm.simpT] at hs
  | a :: l, d, e, s, hs => by
    simp only [Tm.formedL, Bool.and_eq_true] at e
    simp only [Tm.simpT] at hs
    obtain ⟨x1, x2, x3⟩ := Tm.simp_fit a d e.1 s hs
    refine ⟨x1, x2, ?_⟩
    simp only [Tm.szL]; omega
end
end Go.Proofs.Ytieakippgeehgaa

namespace Go.Proofs.Ytieakippgeehgaa
set_option linter.unusedSimpArgs false
set_option linter.unusedVariables false

/-- what a computation comes to: a value and the count so far, or an error -/
inductive Out (α : Type) where
  | ok (a : α) (c : Nat)
  | er (e : Int)

/-- a result, if it is proper -/
def whole (t : Tm) (c : Nat) : Out Tm := if Tm.proper t then .ok t c else .er 5

theorem Sp.Tm.sz_args (S : Sp.Tm) : Sp.Tm.sz S = 1 + Sp.Tm.szL S.args := by cases S; simp [Sp.Tm.sz, Sp.Tm.args]

mutual
/-- the object s, of the simple type S, put for n in a term -/
def put (S : Sp.Tm) (s : Tm) (n : Int) (t : Tm) (c : Nat) : Out Tm :=
  match t with
  | .mk o h k l =>
    if 20000 ≤ c then .er 5
    else match putL S s n o 0 l (c + 1) with
      | .er e => .er e
      | .ok l' c' =>
        if h = 1 ∧ n ≤ k then
          if k = n then
            if Tm.proper (Tm.moved n 0 s) then app S.args (Tm.moved n 0 s) l' c' else .er 5
          else whole (.mk o h (k - 1) l') c'
        else whole (.mk o h k l') c'
termination_by (Sp.Tm.sz S, Tm.sz t, 0)
decreasing_by
  · simp only [Tm.sz]; apply Prod.Lex.right; apply Prod.Lex.left; omega
  · rw [Sp.Tm.sz_args, Nat.add_comm]; apply Prod.Lex.right; apply Prod.Lex.left; have := Tm.sz_pos (.mk o h k l); omega
def putL (S : Sp.Tm) (s : Tm) (n o : Int) (i : Nat) (l : List Tm) (c : Nat) : Out (List Tm) :=
  match l with
  | [] => .ok [] c
  | t :: l => match put S s (n + Tm.belowN o i) t c with
    | .er e => .er e
    | .ok t' c' => match putL S s n o (i + 1) l c' with
      | .er e => .er e
      | .ok l' c'' => .ok (t' :: l') c''
termination_by (Sp.Tm.sz S, Tm.szL l, 1)
decreasing_by
  · have := Tm.sz_pos t
    simp only [Tm.szL]
    rcases Nat.eq_or_lt_of_le (show Tm.sz t ≤ Tm.sz t + Tm.szL l by omega) with e | e
    · rw [← e]; apply Prod.Lex.right; apply Prod.Lex.right; omega
    · apply Prod.Lex.right; apply Prod.Lex.left; exact e
  · have := Tm.sz_pos t
    simp only [Tm.szL]
    apply Prod.Lex.right; apply Prod.Lex.left; omega
/-- f applied to a list, at these simple types of arguments -/
def app (Ss : List Sp.Tm) (f : Tm) (sp : List Tm) (c : Nat) : Out Tm :=
  match sp with
  | [] => .ok f c
  | a :: sp =>
    if f.op = 3 then
      match f.args, Ss with
      | b :: _, S1 :: Ss' => match put S1 a 0 b c with
        | .er e => .er e
        | .ok x c' => app Ss' x sp c'
      | _, _ => .er 23
    else .er 23
termination_by (Sp.Tm.szL Ss + 1, 0, 0)
decreasing_by
  · apply Prod.Lex.left; simp only [Sp.Tm.szL]; omega
  · apply Prod.Lex.left; have := Sp.Tm.sz_pos S1; simp only [Sp.Tm.szL]; omega
end

theorem put_eq (S : Sp.Tm) (s : Tm) (n o h k : Int) (l : List Tm) (c : Nat) : put S s n (.mk o h k l) c =
    if 20000 ≤ c then .er 5
    else match putL S s n o 0 l (c + 1) with
      | .er e => .er e
      | .ok l' c' =>
        if h = 1 ∧ n ≤ k then
          if k = n then
            if Tm.proper (Tm.moved n 0 s) then app S.args (Tm.moved n 0 s) l' c' else .er 5
          else whole (.mk o h (k - 1) l') c'
        else whole (.mk o h k l') c' := by rw [put]
theorem putL_nil (S : Sp.Tm) (s : Tm) (n o : Int) (i : Nat) (c : Nat) : putL S s n o i [] c = .ok [] c := by rw [putL]
theorem putL_cons (S : Sp.Tm) (s : Tm) (n o : Int) (i : Nat) (t : Tm) (l : List Tm) (c : Nat) : putL S s n o i (t :: l) c = match put S s (n + Tm.belowN o i) t c with
    | .er e => .er e
    | .ok t' c' => match putL S s n o (i + 1) l c' with
      | .er e => .er e
      | .ok l' c'' => .ok (t' :: l') c'' := by rw [putL]
theorem app_nil (Ss : List Sp.Tm) (f : Tm) (c : Nat) : app Ss f [] c = .ok f c := by rw [app]
theorem app_cons (S1 : Sp.Tm) (Ss : List Sp.Tm) (h k : Int) (b a : Tm) (r sp : List Tm) (c : Nat) : app (S1 :: Ss) (.mk 3 h k (b :: r)) (a :: sp) c = match put S1 a 0 b c with
    | .er e => .er e
    | .ok x c' => app Ss x sp c' := by
  conv => lhs; rw [app.eq_def]
  rfl
theorem app_shape (Ss : List Sp.Tm) (f : Tm) (a : Tm) (sp : List Tm) (c : Nat) (h : f.op = 3 → Ss = []) : app Ss f (a :: sp) c = .er 23 := by
  conv => lhs; rw [app.eq_def]
  simp only
  split
  · rename_i ho
    have := h ho
    subst this
    cases f.args <;> rfl
  · rfl

/-- the first k parts with the object put in, one after the other -/
theorem putL_snoc (S : Sp.Tm) (s : Tm) (n o : Int) : ∀ (l : List Tm) (i : Nat) (t : Tm) (c : Nat), putL S s n o i (l ++ [t]) c = match putL S s n o i l c with
    | .er e => .er e
    | .ok l' c' => match put S s (n + Tm.belowN o (i + l.length)) t c' with
      | .er e => .er e
      | .ok t' c'' => .ok (l' ++ [t']) c''
  | [], i, t, c => by
    simp only [List.nil_append, putL_cons, putL_nil, List.length_nil, Nat.add_zero]
  | a :: l, i, t, c => by
    simp only [List.cons_append, putL_cons, List.length_cons]
    cases put S s (n + Tm.belowN o i) a c with
    | er e => rfl
    | ok a' c1 =>
      simp only [putL_snoc S s n o l (i + 1) t c1]
      rw [show i + 1 + l.length = i + (l.length + 1) by omega]
      cases putL S s n o (i + 1) l c1 with
      | er e => rfl
      | ok l1 c2 =>
        simp only
        cases put S s (n + Tm.belowN o (i + (l.length + 1))) t c2 <;> rfl
theorem putL_take_er (S : Sp.Tm) (s : Tm) (n o : Int) (l : List Tm) (c : Nat) (k : Nat) (h : k < l.length) (l' : List Tm) (c' : Nat) (e : Int) (hk : putL S s n o 0 (l.take k) c = .ok l' c') (he : put S s (n + Tm.belowN o k) l[k] c' = .er e) :
    putL S s n o 0 l c = .er e := by
  have hsplit : ∀ (m : List Tm) (i : Nat) (r : List Tm) (c : Nat) (e : Int), putL S s n o i m c = .er e → putL S s n o i (m ++ r) c = .er e := by
    intro m
    induction m with
    | nil => intro i r c e h; rw [putL_nil] at h; cases h
    | cons a m ih =>
      intro i r c e h
      rw [putL_cons] at h
      rw [List.cons_append, putL_cons]
      cases hp : put S s (n + Tm.belowN o i) a c with
      | er e1 => rw [hp] at h; simpa using h
      | ok a' c1 =>
        rw [hp] at h
        simp only at h ⊢
        cases hq : putL S s n o (i + 1) m c1 with
        | er e2 => rw [hq] at h; simp only at h; cases h; rw [ih (i + 1) r c1 e hq]
        | ok l1 c2 => rw [hq] at h; cases h
  have h1 : putL S s n o 0 (l.take (k + 1)) c = .er e := by
    rw [List.take_succ_eq_append_getElem h, putL_snoc, hk]
    simp only [List.length_take, Nat.min_eq_left (Nat.le_of_lt h), Nat.zero_add, he]
  have h2 := hsplit (l.take (k + 1)) 0 (l.drop (k + 1)) c e h1
  rwa [List.take_append_drop] at h2
end Go.Proofs.Ytieakippgeehgaa

namespace Go.Proofs.Ytieakippgeehgaa
set_option linter.unusedSimpArgs false
set_option linter.unusedVariables false

section
variable {P : Sp.Tm → Tm → Int → Tm → Nat → Prop} {PL : Sp.Tm → Tm → Int → Int → Nat → List Tm → Nat → Prop} {PA : List Sp.Tm → Tm → List Tm → Nat → Prop}
mutual
theorem put_ind_t (S : Sp.Tm) (hA : ∀ f sp c, PA S.args f sp c)
    (h1 : ∀ S s n o h k l c, (∀ c, PL S s n o 0 l c) → (∀ f sp c, PA S.args f sp c) → P S s n (.mk o h k l) c)
    (h2 : ∀ S s n o i c, PL S s n o i [] c) (h3 : ∀ S s n o i t l c, (∀ c, P S s (n + Tm.belowN o i) t c) → (∀ c, PL S s n o (i + 1) l c) → PL S s n o i (t :: l) c) : ∀ (t : Tm) s n c, P S s n t c
  | .mk o h k l, s, n, c => h1 S s n o h k l c (fun c => put_ind_l S hA h1 h2 h3 l s n o 0 c) hA
theorem put_ind_l (S : Sp.Tm) (hA : ∀ f sp c, PA S.args f sp c)
    (h1 : ∀ S s n o h k l c, (∀ c, PL S s n o 0 l c) → (∀ f sp c, PA S.args f sp c) → P S s n (.mk o h k l) c)
    (h2 : ∀ S s n o i c, PL S s n o i [] c) (h3 : ∀ S s n o i t l c, (∀ c, P S s (n + Tm.belowN o i) t c) → (∀ c, PL S s n o (i + 1) l c) → PL S s n o i (t :: l) c) : ∀ (l : List Tm) s n o i c, PL S s n o i l c
  | [], s, n, o, i, c => h2 S s n o i c
  | t :: l, s, n, o, i, c => h3 S s n o i t l c (fun c => put_ind_t S hA h1 h2 h3 t s _ c) (fun c => put_ind_l S hA h1 h2 h3 l s n o (i + 1) c)
end

mutual
/-- What holds of substitution when it holds of what it calls, holds. -/
theorem put_ind_S
    (h1 : ∀ S s n o h k l c, (∀ c, PL S s n o 0 l c) → (∀ f sp c, PA S.args f sp c) → P S s n (.mk o h k l) c)
    (h2 : ∀ S s n o i c, PL S s n o i [] c) (h3 : ∀ S s n o i t l c, (∀ c, P S s (n + Tm.belowN o i) t c) → (∀ c, PL S s n o (i + 1) l c) → PL S s n o i (t :: l) c)
    (h4 : ∀ Ss f c, PA Ss f [] c) (h5 : ∀ f a sp c, PA [] f (a :: sp) c) (h6 : ∀ S1 Ss f a sp c, (∀ s n t c, P S1 s n t c) → (∀ f sp c, PA Ss f sp c) → PA (S1 :: Ss) f (a :: sp) c) : ∀ (S : Sp.Tm) s n t c, P S s n t c
  | .mk cn Ss, s, n, t, c => put_ind_t (.mk cn Ss) (fun f sp c => put_ind_A h1 h2 h3 h4 h5 h6 Ss f sp c) h1 h2 h3 t s n c
theorem put_ind_A
    (h1 : ∀ S s n o h k l c, (∀ c, PL S s n o 0 l c) → (∀ f sp c, PA S.args f sp c) → P S s n (.mk o h k l) c)
    (h2 : ∀ S s n o i c, PL S s n o i [] c) (h3 : ∀ S s n o i t l c, (∀ c, P S s (n + Tm.belowN o i) t c) → (∀ c, PL S s n o (i + 1) l c) → PL S s n o i (t :: l) c)
    (h4 : ∀ Ss f c, PA Ss f [] c) (h5 : ∀ f a sp c, PA [] f (a :: sp) c) (h6 : ∀ S1 Ss f a sp c, (∀ s n t c, P S1 s n t c) → (∀ f sp c, PA Ss f sp c) → PA (S1 :: Ss) f (a :: sp) c) : ∀ (Ss : List Sp.Tm) f sp c, PA Ss f sp c
  | Ss, f, [], c => h4 Ss f c
  | [], f, a :: sp, c => h5 f a sp c
  | S1 :: Ss, f, a :: sp, c => h6 S1 Ss f a sp c (fun s n t c => put_ind_S h1 h2 h3 h4 h5 h6 S1 s n t c) (fun f sp c => put_ind_A h1 h2 h3 h4 h5 h6 Ss f sp c)
end
theorem put_ind_L (S : Sp.Tm)
    (h1 : ∀ S s n o h k l c, (∀ c, PL S s n o 0 l c) → (∀ f sp c, PA S.args f sp c) → P S s n (.mk o h k l) c)
    (h2 : ∀ S s n o i c, PL S s n o i [] c) (h3 : ∀ S s n o i t l c, (∀ c, P S s (n + Tm.belowN o i) t c) → (∀ c, PL S s n o (i + 1) l c) → PL S s n o i (t :: l) c)
    (h4 : ∀ Ss f c, PA Ss f [] c) (h5 : ∀ f a sp c, PA [] f (a :: sp) c) (h6 : ∀ S1 Ss f a sp c, (∀ s n t c, P S1 s n t c) → (∀ f sp c, PA Ss f sp c) → PA (S1 :: Ss) f (a :: sp) c) (l : List Tm) (s : Tm) (n o : Int) (i c : Nat) : PL S s n o i l c :=
  put_ind_l S (fun f sp c => put_ind_A h1 h2 h3 h4 h5 h6 S.args f sp c) h1 h2 h3 l s n o i c
end

/-- A result is proper, and the count has not gone past 20000; an error is one of two. -/
def GoodOut (c : Nat) : Out Tm → Prop
  | .ok t c' => Tm.proper t = true ∧ c ≤ c' ∧ c' ≤ 20000
  | .er e => e = 5 ∨ e = 23
def GoodOutL (c m : Nat) : Out (List Tm) → Prop
  | .ok l c' => (∀ t ∈ l, Tm.proper t = true) ∧ l.length = m ∧ c ≤ c' ∧ c' ≤ 20000
  | .er e => e = 5 ∨ e = 23

theorem good_whole {t : Tm} {c0 c : Nat} (h0 : c0 ≤ c) (h : c ≤ 20000) : GoodOut c0 (whole t c) := by
  unfold whole
  split
  · rename_i hp; exact ⟨hp, h0, h⟩
  · exact .inl rfl
mutual
theorem Tm.fdown : ∀ (t : Tm) (d : Nat), Tm.formed t (d + 1) = true → Tm.formed t d = true
  | .mk o h n l, d, e => by
    simp only [Tm.formed, Bool.and_eq_true, decide_eq_true_eq] at e ⊢
    exact ⟨⟨by omega, e.1.2⟩, Tm.fdownL l (d + 1) e.2⟩
theorem Tm.fdownL : ∀ (l : List Tm) (d : Nat), Tm.formedL l (d + 1) = true → Tm.formedL l d = true
  | [], _, _ => rfl
  | t :: l, d, e => by
    simp only [Tm.formedL, Bool.and_eq_true] at e ⊢
    exact ⟨Tm.fdown t d e.1, Tm.fdownL l d e.2⟩
end
theorem Tm.proper_two {t : Tm} (h : Tm.proper t = true) : Tm.sz t ≤ 600 ∧ Tm.formed t 1 = true := by
  simp only [Tm.proper, Bool.and_eq_true, decide_eq_true_eq] at h; exact h
theorem Tm.two_proper {t : Tm} (h1 : Tm.sz t ≤ 600) (h2 : Tm.formed t 1 = true) : Tm.proper t = true := by
  simp only [Tm.proper, Bool.and_eq_true, decide_eq_true_eq]; exact ⟨h1, h2⟩
theorem Tm.proper_parts {o h n : Int} {l : List Tm} (hp : Tm.proper (.mk o h n l) = true) : ∀ t ∈ l, Tm.proper t = true := by
  obtain ⟨hs, hf⟩ := Tm.proper_two hp
  intro t ht
  simp only [Tm.formed, Bool.and_eq_true, decide_eq_true_eq] at hf
  have h1 := Tm.szL_le_of_mem ht
  simp only [Tm.sz] at hs
  have h2 := hf.2
  rw [Tm.formedL_all, List.all_eq_true] at h2
  exact Tm.two_proper (by omega) (Tm.fdown t 1 (h2 t ht))
theorem Tm.proper_lam {h k : Int} {l : List Tm} (hp : Tm.proper (.mk 3 h k l) = true) : ∃ b, l = [b] ∧ h = 0 ∧ k = 0 ∧ Tm.proper b = true := by
  obtain ⟨hs, hf⟩ := Tm.proper_two hp
  simp only [Tm.formed, Bool.and_eq_true, decide_eq_true_eq] at hf
  obtain ⟨⟨_, hh⟩, hl⟩ := hf
  have hh' := Tm.headOk_yes _ _ _ _ hh
  have h2 : l.length = 1 ∧ h = 0 ∧ k = 0 := by omega
  match l, h2 with
  | [b], h2 => exact ⟨b, rfl, h2.2.1, h2.2.2, Tm.proper_parts hp b (by simp)⟩

def PutGood (S : Sp.Tm) (s : Tm) (n : Int) (t : Tm) (c : Nat) : Prop := c ≤ 20000 → Tm.proper t = true → GoodOut c (put S s n t c)
def PutGoodL (S : Sp.Tm) (s : Tm) (n o : Int) (i : Nat) (l : List Tm) (c : Nat) : Prop := c ≤ 20000 → (∀ t ∈ l, Tm.proper t = true) → GoodOutL c l.length (putL S s n o i l c)
def AppGood (Ss : List Sp.Tm) (f : Tm) (sp : List Tm) (c : Nat) : Prop := c ≤ 20000 → Tm.proper f = true → (∀ t ∈ sp, Tm.proper t = true) → GoodOut c (app Ss f sp c)

theorem GoodOut.more {c0 c : Nat} {r : Out Tm} (h : GoodOut c r) (h0 : c0 ≤ c) : GoodOut c0 r := by
  cases r with
  | ok t c' => exact ⟨h.1, by have := h.2.1; omega, h.2.2⟩
  | er e => exact h

theorem pg1 (S : Sp.Tm) (s : Tm) (n o h k : Int) (l : List Tm) (c : Nat) (hl : ∀ c, PutGoodL S s n o 0 l c) (ha : ∀ f sp c, AppGood S.args f sp c) : PutGood S s n (.mk o h k l) c := by
  intro hc hp
  rw [put_eq]
  split
  · exact .inl rfl
  · have h1 := hl (c + 1) (by omega) (Tm.proper_parts hp)
    cases hq : putL S s n o 0 l (c + 1) with
    | er e => rw [hq] at h1; exact h1
    | ok l' c' =>
      rw [hq] at h1
      obtain ⟨g1, g2, g3, g4⟩ := h1
      simp only
      split
      · split
        · split
          · rename_i hps
            exact (ha _ l' c' g4 hps g1).more (by omega)
          · exact .inl rfl
        · exact good_whole (by omega) g4
      · exact good_whole (by omega) g4
theorem pg3 (S : Sp.Tm) (s : Tm) (n o : Int) (i : Nat) (t : Tm) (l : List Tm) (c : Nat) (ht : ∀ c, PutGood S s (n + Tm.belowN o i) t c) (hl : ∀ c, PutGoodL S s n o (i + 1) l c) : PutGoodL S s n o i (t :: l) c := by
  intro hc hp
  rw [putL_cons]
  have h1 := ht c hc (hp t (by simp))
  cases hq : put S s (n + Tm.belowN o i) t c with
  | er e => rw [hq] at h1; exact h1
  | ok t' c' =>
    rw [hq] at h1
    have h2 := hl c' h1.2.2 (fun x hx => hp x (by simp [hx]))
    simp only
    cases hr : putL S s n o (i + 1) l c' with
    | er e => rw [hr] at h2; exact h2
    | ok l' c'' =>
      rw [hr] at h2
      obtain ⟨g1, g2, g3, g4⟩ := h2
      refine ⟨fun x hx => ?_, by simp [g2], by have := h1.2.1; omega, g4⟩
      rcases List.mem_cons.1 hx with rfl | hx
      · exact h1.1
      · exact g1 x hx
theorem pg6 (S1 : Sp.Tm) (Ss : List Sp.Tm) (f a : Tm) (sp : List Tm) (c : Nat) (hS : ∀ s n t c, PutGood S1 s n t c) (hA : ∀ f sp c, AppGood Ss f sp c) : AppGood (S1 :: Ss) f (a :: sp) c := by
  intro hc hf hp
  by_cases ho : f.op = 3
  · obtain ⟨fo, fh, fk, fl⟩ := f
    simp only [Tm.op] at ho
    subst ho
    obtain ⟨b, rfl, rfl, rfl, hb⟩ := Tm.proper_lam hf
    rw [app_cons]
    have h1 := hS a 0 b c hc hb
    cases hq : put S1 a 0 b c with
    | er e => rw [hq] at h1; exact h1
    | ok x c' =>
      rw [hq] at h1
      exact (hA x sp c' h1.2.2 h1.1 (fun x hx => hp x (by simp [hx]))).more h1.2.1
  · rw [app_shape _ _ _ _ _ (fun h => absurd h ho)]; exact .inr rfl

theorem put_good (S : Sp.Tm) (s : Tm) (n : Int) (t : Tm) (c : Nat) : PutGood S s n t c :=
  put_ind_S (P := PutGood) (PL := PutGoodL) (PA := AppGood) (fun S s n o h k l c hl ha => pg1 S s n o h k l c hl ha) (fun S s n o i c hc _ => by rw [putL_nil]; exact ⟨by simp, rfl, Nat.le_refl _, hc⟩)
    (fun S s n o i t l c ht hl => pg3 S s n o i t l c ht hl) (fun Ss f c hc hf _ => by rw [app_nil]; exact ⟨hf, Nat.le_refl _, hc⟩) (fun f a sp c _ _ _ => by rw [app_shape _ _ _ _ _ (fun _ => rfl)]; exact .inr rfl)
    (fun S1 Ss f a sp c hS hA => pg6 S1 Ss f a sp c hS hA) S s n t c
theorem app_good (Ss : List Sp.Tm) (f : Tm) (sp : List Tm) (c : Nat) : AppGood Ss f sp c :=
  put_ind_A (P := PutGood) (PL := PutGoodL) (PA := AppGood) (fun S s n o h k l c hl ha => pg1 S s n o h k l c hl ha) (fun S s n o i c hc _ => by rw [putL_nil]; exact ⟨by simp, rfl, Nat.le_refl _, hc⟩)
    (fun S s n o i t l c ht hl => pg3 S s n o i t l c ht hl) (fun Ss f c hc hf _ => by rw [app_nil]; exact ⟨hf, Nat.le_refl _, hc⟩) (fun f a sp c _ _ _ => by rw [app_shape _ _ _ _ _ (fun _ => rfl)]; exact .inr rfl)
    (fun S1 Ss f a sp c hS hA => pg6 S1 Ss f a sp c hS hA) Ss f sp c
theorem putL_good (S : Sp.Tm) (s : Tm) (n o : Int) (i : Nat) (l : List Tm) (c : Nat) : PutGoodL S s n o i l c :=
  put_ind_L (P := PutGood) (PL := PutGoodL) (PA := AppGood) S (fun S s n o h k l c hl ha => pg1 S s n o h k l c hl ha) (fun S s n o i c hc _ => by rw [putL_nil]; exact ⟨by simp, rfl, Nat.le_refl _, hc⟩)
    (fun S s n o i t l c ht hl => pg3 S s n o i t l c ht hl) (fun Ss f c hc hf _ => by rw [app_nil]; exact ⟨hf, Nat.le_refl _, hc⟩) (fun f a sp c _ _ _ => by rw [app_shape _ _ _ _ _ (fun _ => rfl)]; exact .inr rfl)
    (fun S1 Ss f a sp c hS hA => pg6 S1 Ss f a sp c hS hA) l s n o i c
end Go.Proofs.Ytieakippgeehgaa

namespace Go.Proofs.Ytieakippgeehgaa.Sb
open Go.RowKit
set_option linter.unusedSimpArgs false
set_option linter.unusedVariables false

/-- the cells of pieces whose spines are these values -/
def pcells (t : Tm) (v : Value) : List Value := [.int .i64 t.op, .int .i64 t.hd, .int .i64 t.n, v, .int .i64 (Tm.sz t : Nat), .int .i64 (Tm.depth t : Nat)]
def pflat : List Tm → List Value → List Value
  | t :: ts, v :: vs => .int .i64 t.op :: .int .i64 t.hd :: .int .i64 t.n :: v :: .int .i64 (Tm.sz t : Nat) :: .int .i64 (Tm.depth t : Nat) :: pflat ts vs
  | _, _ => []
theorem pflat_length : ∀ (ts : List Tm) (vs : List Value), ts.length = vs.length → (pflat ts vs).length = ts.length * 6
  | [], [], _ => rfl
  | t :: ts, v :: vs, h => by simp only [pflat, List.length_cons, pflat_length ts vs (by simpa using h)]; omega
  | [], _ :: _, h => by simp at h
  | _ :: _, [], h => by simp at h
theorem pflat_snoc : ∀ (ts : List Tm) (vs : List Value) (t : Tm) (v : Value), ts.length = vs.length → pflat (ts ++ [t]) (vs ++ [v]) = pflat ts vs ++ pcells t v
  | [], [], _, _, _ => rfl
  | t :: ts, v :: vs, t', v', h => by simp only [List.cons_append, pflat, pflat_snoc ts vs t' v' (by simpa using h)]
  | [], _ :: _, _, _, h => by simp at h
  | _ :: _, [], _, _, h => by simp at h
theorem pflat_get : ∀ (ts : List Tm) (vs : List Value) (i : Nat) (h : i < ts.length) (h' : i < vs.length),
    (pflat ts vs)[i * 6]? = some (.int .i64 ts[i].op) ∧ (pflat ts vs)[i * 6 + 1]? = some (.int .i64 ts[i].hd) ∧ (pflat ts vs)[i * 6 + 2]? = some (.int .i64 ts[i].n) ∧ (pflat ts vs)[i * 6 + 3]? = some vs[i] ∧
      (pflat ts vs)[i * 6 + 4]? = some (.int .i64 (Tm.sz ts[i] : Nat)) ∧ (pflat ts vs)[i * 6 + 5]? = some (.int .i64 (Tm.depth ts[i] : Nat))
  | t :: ts, v :: vs, 0, _, _ => by simp [pflat]
  | t :: ts, v :: vs, i + 1, h, h' => by
    have := pflat_get ts vs i (by simpa using h) (by simpa using h')
    have e : ∀ j, (i + 1) * 6 + j = (i * 6 + j) + 1 + 1 + 1 + 1 + 1 + 1 := fun j => by omega
    have e0 : (i + 1) * 6 = i * 6 + 1 + 1 + 1 + 1 + 1 + 1 := by omega
    simp only [pflat, List.getElem_cons_succ]
    rw [e 1, e 2, e 3, e 4, e 5, e0]
    simp only [List.getElem?_cons_succ]
    exact this
  | [], _, _, h, _ => by simp at h
  | _ :: _, [], _, _, h => by simp at h

/-- A row of pieces, opened. -/
structure PAt (w : World) (S : Nat → Prop) (ao : Option Addr) (b off len cap : Nat) (sv : Nat → Value) (ts : List Tm) : Prop where
  length : ts.length = len
  hao : 0 < len → ao = some ⟨b, off, none⟩
  hS : 0 < len → S b
  hl : len ≤ cap
  hr : cap ≤ 9223372036854775807
  c0 : ∀ i (h : i < ts.length), w.cell? ⟨b, off + i * 6, none⟩ = some (.int .i64 ts[i].op)
  c1 : ∀ i (h : i < ts.length), w.cell? ⟨b, off + i * 6 + 1, none⟩ = some (.int .i64 ts[i].hd)
  c2 : ∀ i (h : i < ts.length), w.cell? ⟨b, off + i * 6 + 2, none⟩ = some (.int .i64 ts[i].n)
  c3 : ∀ i (h : i < ts.length), w.cell? ⟨b, off + i * 6 + 3, none⟩ = some (sv i)
  c4 : ∀ i (h : i < ts.length), w.cell? ⟨b, off + i * 6 + 4, none⟩ = some (.int .i64 (Tm.sz ts[i] : Nat))
  c5 : ∀ i (h : i < ts.length), w.cell? ⟨b, off + i * 6 + 5, none⟩ = some (.int .i64 (Tm.depth ts[i] : Nat))
  sub : ∀ i (h : i < ts.length), Lies w S (sv i) ts[i].args

/-- A slice of pieces lies in w, in blocks of S. -/
def PLies (w : World) (S : Nat → Prop) (v : Value) (ts : List Tm) : Prop := ∃ ao b off len cap sv, v = .slice ao len cap ∧ PAt w S ao b off len cap sv ts

theorem PAt.still {w w' : World} {S : Nat → Prop} {ao : Option Addr} {b off len cap : Nat} {sv : Nat → Value} {ts : List Tm} (R : PAt w S ao b off len cap sv ts) (hb : ∀ b, S b → b < w.heap.size → w'.heap[b]? = w.heap[b]?) : PAt w' S ao b off len cap sv ts := by
  have go : ∀ {i : Nat}, i < ts.length → ∀ {j : Nat} {u : Value}, w.cell? ⟨b, j, none⟩ = some u → w'.cell? ⟨b, j, none⟩ = some u := fun {i} hi {j u} e => by
    rw [World.cell?_of_block (w := w) (hb b (R.hS (by have := R.length; omega)) (World.block_lt_of_cell? w _ e))]; exact e
  exact ⟨R.length, R.hao, R.hS, R.hl, R.hr, fun i h => go h (R.c0 i h), fun i h => go h (R.c1 i h), fun i h => go h (R.c2 i h), fun i h => go h (R.c3 i h), fun i h => go h (R.c4 i h), fun i h => go h (R.c5 i h), fun i h => (R.sub i h).still hb⟩
theorem PAt.more {w : World} {S S' : Nat → Prop} {ao : Option Addr} {b off len cap : Nat} {sv : Nat → Value} {ts : List Tm} (R : PAt w S ao b off len cap sv ts) (hs : ∀ b, b < w.heap.size → S b → S' b) : PAt w S' ao b off len cap sv ts :=
  ⟨R.length, R.hao, fun h0 => hs b (World.block_lt_of_cell? w _ (R.c0 0 (by have := R.length; omega))) (R.hS h0), R.hl, R.hr, R.c0, R.c1, R.c2, R.c3, R.c4, R.c5, fun i h => (R.sub i h).more hs⟩
theorem PLies.still {w w' : World} {S : Nat → Prop} {v : Value} {ts : List Tm} (h : PLies w S v ts) (hb : ∀ b, S b → b < w.heap.size → w'.heap[b]? = w.heap[b]?) : PLies w' S v ts := by
  obtain ⟨ao, b, off, len, cap, sv, e, R⟩ := h; exact ⟨ao, b, off, len, cap, sv, e, R.still hb⟩
theorem PLies.keep {w w' : World} {S : Nat → Prop} {v : Value} {ts : List Tm} (h : PLies w S v ts) (hb : Below w.heap.size w w') : PLies w' S v ts := h.still fun b _ hlt => hb.block b hlt
theorem PLies.more {w : World} {S S' : Nat → Prop} {v : Value} {ts : List Tm} (h : PLies w S v ts) (hs : ∀ b, b < w.heap.size → S b → S' b) : PLies w S' v ts := by
  obtain ⟨ao, b, off, len, cap, sv, e, R⟩ := h; exact ⟨ao, b, off, len, cap, sv, e, R.more hs⟩
theorem PLies.isSlice {w : World} {S : Nat → Prop} {v : Value} {ts : List Tm} (h : PLies w S v ts) : ∃ a n m, v = .slice a n m := by
  obtain ⟨ao, b, off, len, cap, sv, e, R⟩ := h; exact ⟨_, _, _, e⟩
theorem PLies.nil (w : World) (S : Nat → Prop) : PLies w S (.slice none 0 0) [] :=
  ⟨none, 0, 0, 0, 0, fun _ => .slice none 0 0, rfl, rfl, by simp, by simp, by simp, by simp, by simp, by simp, by simp, by simp, by simp, by simp, by simp⟩
theorem PAt.at {w wr : World} {S : Nat → Prop} {ao : Option Addr} {b off len cap : Nat} {sv : Nat → Value} {ts : List Tm} (R : PAt w S ao b off len cap sv ts) (hb : Below w.heap.size w wr) (i : Nat) (hi : i < ts.length) :
    wr.cell? ⟨b, off + i * 6, none⟩ = some (.int .i64 ts[i].op) ∧ wr.cell? ⟨b, off + i * 6 + 1, none⟩ = some (.int .i64 ts[i].hd) ∧ wr.cell? ⟨b, off + i * 6 + 2, none⟩ = some (.int .i64 ts[i].n) ∧ wr.cell? ⟨b, off + i * 6 + 3, none⟩ = some (sv i) ∧
      wr.cell? ⟨b, off + i * 6 + 4, none⟩ = some (.int .i64 (Tm.sz ts[i] : Nat)) ∧ wr.cell? ⟨b, off + i * 6 + 5, none⟩ = some (.int .i64 (Tm.depth ts[i] : Nat)) ∧ Lies wr S (sv i) ts[i].args :=
  ⟨kept_cell hb (R.c0 i hi), kept_cell hb (R.c1 i hi), kept_cell hb (R.c2 i hi), kept_cell hb (R.c3 i hi), kept_cell hb (R.c4 i hi), kept_cell hb (R.c5 i hi), (R.sub i hi).keep hb⟩

/-- The slice value v is the call's own row of pieces (in a block from base on); their spines lie in other blocks of S. -/
structure PBuilt (w : World) (base : Nat) (S : Nat → Prop) (e : TypeId) (v : Value) (ts : List Tm) : Prop where
  has : ∃ vs : List Value, ts.length = vs.length ∧ w.ownsRow base e 6 v ts.length (pflat ts vs) ∧ ∀ i (h : i < ts.length) (h' : i < vs.length), Lies w (fun b => S b ∧ v.ownBlock ≠ some b) vs[i] ts[i].args

section
variable {w w' : World} {base : Nat} {S : Nat → Prop} {e : TypeId} {v : Value} {ts : List Tm}
theorem PBuilt.nil (w : World) (base : Nat) (S : Nat → Prop) (e : TypeId) : PBuilt w base S e (.slice none 0 0) [] :=
  ⟨⟨[], rfl, World.ownsRow_nil _ _ _ _, fun i h => by simp at h⟩⟩
theorem PBuilt.keep (h : PBuilt w base S e v ts) (hb : ∀ b, S b ∨ v.ownBlock = some b → b < w.heap.size → w'.heap[b]? = w.heap[b]?) : PBuilt w' base S e v ts := by
  obtain ⟨⟨vs, hl, hown, hsub⟩⟩ := h
  refine ⟨⟨vs, hl, ⟨hown.1, ?_⟩, fun i h h' => (hsub i h h').still fun b hS hlt => hb b (.inl hS.1) hlt⟩⟩
  rcases hown.2 with hn | ⟨g, cap, cur, rfl, hg, hh, rest⟩
  · exact .inl hn
  · exact .inr ⟨g, cap, cur, rfl, hg, (hb g (.inr rfl) (Array.getElem?_eq_some_iff.1 hh).1).trans hh, rest⟩
theorem PBuilt.below (h : PBuilt w base S e v ts) (hb : Below w.heap.size w w') : PBuilt w' base S e v ts := h.keep fun b _ hlt => hb.block b hlt
theorem PBuilt.lt (h : PBuilt w base S e v ts) : ∀ k, v.ownBlock = some k → base ≤ k ∧ k < w.heap.size := by
  obtain ⟨vs, _, hown, _⟩ := h.has; exact hown.lt
theorem PBuilt.own (h : PBuilt w base S e v ts) : ∃ vs : List Value, ts.length = vs.length ∧ w.ownsRow base e 6 v ts.length (pflat ts vs) ∧ ∀ i (h : i < ts.length) (h' : i < vs.length), Lies w (fun b => S b ∧ v.ownBlock ≠ some b) vs[i] ts[i].args := h.has
theorem PBuilt.isSlice (h : PBuilt w base S e v ts) : ∃ a m, v = .slice a ts.length m := by
  obtain ⟨vs, _, hown, _⟩ := h.has
  rcases hown.2 with ⟨rfl, h0⟩ | ⟨g, cap, cur, rfl, _⟩
  · exact ⟨_, _, by rw [h0]⟩
  · exact ⟨_, _, rfl⟩
/-- one more piece -/
theorem PBuilt.push {vs : List Value} {g cap : Nat} {t : Tm} {s : Value}
    (hl : ts.length = vs.length) (hsub : ∀ i (h : i < ts.length) (h' : i < vs.length), Lies w (fun b => S b ∧ v.ownBlock ≠ some b) vs[i] ts[i].args)
    (hs : Lies w (fun b => S b ∧ v.ownBlock ≠ some b) s t.args)
    (hown' : w'.ownsRow base e 6 (.slice (some ⟨g, 0, none⟩) (ts.length + 1) cap) (ts.length + 1) (pflat ts vs ++ pcells t s))
    (hgrow : w.grownBy w' v.ownBlock) (hat : v.ownBlock = some g ∨ g = w.heap.size) : PBuilt w' base S e (.slice (some ⟨g, 0, none⟩) (ts.length + 1) cap) (ts ++ [t]) := by
  have move : ∀ {x : Value} {l : List Tm}, Lies w (fun b => S b ∧ v.ownBlock ≠ some b) x l → Lies w' (fun b => S b ∧ (Value.slice (some ⟨g, 0, none⟩) (ts.length + 1) cap).ownBlock ≠ some b) x l := by
    intro x l h
    have h2 : Lies w (fun b => S b ∧ b ≠ g ∧ v.ownBlock ≠ some b) x l := h.more fun b hlt hS => ⟨hS.1, fun e => by
      subst e
      rcases hat with hat | hat
      · exact hS.2 hat
      · omega, hS.2⟩
    refine (h2.still (w' := w') fun b hS hlt => hgrow.block b hlt (fun e => hS.2.2 e.symm)).more fun b _ hS => ⟨hS.1, ?_⟩
    simp only [Value.ownBlock, ne_eq, Option.some.injEq]
    exact fun e => hS.2.1 e.symm
  refine ⟨⟨vs ++ [s], by simp [hl], by rw [pflat_snoc ts vs t s hl]; simpa using hown', ?_⟩⟩
  intro i h h'
  by_cases hi : i < ts.length
  · rw [List.getElem_append_left hi, List.getElem_append_left (by omega)]
    exact move (hsub i hi (by omega))
  · obtain rfl : i = ts.length := by simp at h; omega
    simp only [List.getElem_append_right (Nat.le_refl _), Nat.sub_self, List.getElem_cons_zero]
    rw [List.getElem_append_right (by omega)]
    simp only [hl, Nat.sub_self, List.getElem_cons_zero]
    rw [← hl]
    exact move hs
theorem PBuilt.lies (h : PBuilt w base S e v ts) (hS : ∀ b, base ≤ b → v.ownBlock = some b → S b) : PLies w S v ts := by
  obtain ⟨⟨vs, hl, hown, hsub⟩⟩ := h
  have hcells := @World.ownsRow.cells w base e 6 v ts.length (pflat ts vs) hown
  rcases hown.2 with ⟨rfl, h0⟩ | ⟨g, cap, cur, rfl, hg, hh, hle, hmx, _⟩
  · obtain rfl : ts = [] := List.eq_nil_of_length_eq_zero h0
    exact PLies.nil _ _
  · have hc : ∀ j u, (pflat ts vs)[j]? = some u → w.cell? ⟨g, 0 + j, none⟩ = some u := fun j u hu => by
      have := hcells (g := g) (by simp [Value.ownBlock]) j u hu
      rwa [Addr.add_lit] at this
    have hvs : ∀ i (h : i < vs.length), vs[i]?.getD (.slice none 0 0) = vs[i] := fun i h => by rw [List.getElem?_eq_getElem h]; rfl
    have hf := fun i (h : i < ts.length) => pflat_get ts vs i h (by omega)
    have hm : cap ≤ 9223372036854775807 := by unfold maxLen at hmx; exact hmx
    refine ⟨some ⟨g, 0, none⟩, g, 0, ts.length, cap, fun i => vs[i]?.getD (.slice none 0 0), rfl, rfl, fun _ => rfl, fun _ => hS g hg rfl, hle, hm,
      fun i hi => hc _ _ (hf i hi).1, fun i hi => by have := hc _ _ (hf i hi).2.1; rwa [← Nat.add_assoc] at this, fun i hi => by have := hc _ _ (hf i hi).2.2.1; rwa [← Nat.add_assoc] at this,
      fun i hi => by rw [hvs i (by omega)]; have := hc _ _ (hf i hi).2.2.2.1; rwa [← Nat.add_assoc] at this, fun i hi => by have := hc _ _ (hf i hi).2.2.2.2.1; rwa [← Nat.add_assoc] at this,
      fun i hi => by have := hc _ _ (hf i hi).2.2.2.2.2; rwa [← Nat.add_assoc] at this, fun i hi => by rw [hvs i (by omega)]; exact (hsub i hi (by omega)).more fun b _ hS => hS.1⟩
end
/-- The slice value v is the call's own row (in a block from base on), and holds the terms ts; their spines lie in other blocks, from base on too. -/
structure RBuilt (w : World) (base : Nat) (S : Nat → Prop) (e : TypeId) (v : Value) (ts : List Tm) : Prop where
  has : ∃ vs : List Value, ts.length = vs.length ∧ w.ownsRow base e 4 v ts.length (flat ts vs) ∧ ∀ i (h : i < ts.length) (h' : i < vs.length), Lies w (fun b => S b ∧ v.ownBlock ≠ some b) vs[i] ts[i].args
  fit : ∀ t ∈ ts, t.fit

theorem RBuilt.nil (w : World) (base : Nat) (S : Nat → Prop) (e : TypeId) : RBuilt w base S e (.slice none 0 0) [] :=
  ⟨⟨[], rfl, World.ownsRow_nil _ _ _ _, fun i h => by simp at h⟩, by simp⟩

/-- Blocks that are there stay as they were. -/
theorem RBuilt.keep {w w' : World} {base : Nat} {S : Nat → Prop} {e : TypeId} {v : Value} {ts : List Tm} (h : RBuilt w base S e v ts) (hb : ∀ b, S b ∨ v.ownBlock = some b → b < w.heap.size → w'.heap[b]? = w.heap[b]?) : RBuilt w' base S e v ts := by
  obtain ⟨⟨vs, hl, hown, hsub⟩, hfit⟩ := h
  refine ⟨⟨vs, hl, ⟨hown.1, ?_⟩, fun i h h' => (hsub i h h').still fun b hS hlt => hb b (.inl hS.1) hlt⟩, hfit⟩
  rcases hown.2 with hn | ⟨g, cap, cur, rfl, hg, hh, rest⟩
  · exact .inl hn
  · exact .inr ⟨g, cap, cur, rfl, hg, (hb g (.inr rfl) (Array.getElem?_eq_some_iff.1 hh).1).trans hh, rest⟩

theorem RBuilt.below {w w' : World} {base : Nat} {S : Nat → Prop} {e : TypeId} {v : Value} {ts : List Tm} (h : RBuilt w base S e v ts) (hb : Below w.heap.size w w') : RBuilt w' base S e v ts :=
  h.keep fun b _ hlt => hb.block b hlt
theorem RBuilt.lt {w : World} {base : Nat} {S : Nat → Prop} {e : TypeId} {v : Value} {ts : List Tm} (h : RBuilt w base S e v ts) : ∀ k, v.ownBlock = some k → base ≤ k ∧ k < w.heap.size := by
  obtain ⟨vs, _, hown, _⟩ := h.has; exact hown.lt
theorem RBuilt.setCell {w : World} {base : Nat} {S : Nat → Prop} {e : TypeId} {v : Value} {ts : List Tm} (h : RBuilt w base S e v ts) {p : Addr} (hp : p.block < base) (hS : ¬ S p.block) (u : Value) : RBuilt (w.setCell p u) base S e v ts :=
  h.keep fun b hb _ => Below.heap_setCell _ _ _ _ (fun e => by
    rcases hb with hb | hb
    · exact hS (e ▸ hb)
    · have := (h.lt b hb).1; omega)
theorem RBuilt.low {w : World} {base base' : Nat} {S S' : Nat → Prop} {e : TypeId} {v : Value} {ts : List Tm} (h : RBuilt w base S e v ts) (hb : base' ≤ base) (hS : ∀ b, b < w.heap.size → S b → S' b) : RBuilt w base' S' e v ts := by
  obtain ⟨⟨vs, hl, hown, hsub⟩, hfit⟩ := h
  refine ⟨⟨vs, hl, ⟨hown.1, ?_⟩, fun i h h' => (hsub i h h').more fun b hlt hS' => ⟨hS b hlt hS'.1, hS'.2⟩⟩, hfit⟩
  rcases hown.2 with hn | ⟨g, cap, cur, rfl, hg, rest⟩
  · exact .inl hn
  · exact .inr ⟨g, cap, cur, rfl, by omega, rest⟩
theorem RBuilt.isSlice {w : World} {base : Nat} {S : Nat → Prop} {e : TypeId} {v : Value} {ts : List Tm} (h : RBuilt w base S e v ts) : ∃ a m, v = .slice a ts.length m := by
  obtain ⟨vs, _, hown, _⟩ := h.has
  rcases hown.2 with ⟨rfl, h0⟩ | ⟨g, cap, cur, rfl, _⟩
  · exact ⟨_, _, by rw [h0]⟩
  · exact ⟨_, _, rfl⟩

theorem RBuilt.own {w : World} {base : Nat} {S : Nat → Prop} {e : TypeId} {v : Value} {ts : List Tm} (h : RBuilt w base S e v ts) : ∃ vs : List Value, ts.length = vs.length ∧ w.ownsRow base e 4 v ts.length (flat ts vs) ∧
    ∀ i (h : i < ts.length) (h' : i < vs.length), Lies w (fun b => S b ∧ v.ownBlock ≠ some b) vs[i] ts[i].args := h.has

/-- One more term is appended: what the law on append leaves is a row with one term more. -/
theorem RBuilt.push {w w' : World} {base : Nat} {S : Nat → Prop} {e : TypeId} {v : Value} {ts : List Tm} {vs : List Value} {g cap : Nat} {t : Tm} {s : Value}
    (hl : ts.length = vs.length) (hsub : ∀ i (h : i < ts.length) (h' : i < vs.length), Lies w (fun b => S b ∧ v.ownBlock ≠ some b) vs[i] ts[i].args) (hfit : ∀ t ∈ ts, t.fit) (ht : t.fit)
    (hs : Lies w (fun b => S b ∧ v.ownBlock ≠ some b) s t.args)
    (hown' : w'.ownsRow base e 4 (.slice (some ⟨g, 0, none⟩) (ts.length + 1) cap) (ts.length + 1) (flat ts vs ++ [.int .i64 t.op, .int .i64 t.hd, .int .i64 t.n, s]))
    (hgrow : w.grownBy w' v.ownBlock) (hat : v.ownBlock = some g ∨ g = w.heap.size) : RBuilt w' base S e (.slice (some ⟨g, 0, none⟩) (ts.length + 1) cap) (ts ++ [t]) := by
  have move : ∀ {x : Value} {l : List Tm}, Lies w (fun b => S b ∧ v.ownBlock ≠ some b) x l → Lies w' (fun b => S b ∧ (Value.slice (some ⟨g, 0, none⟩) (ts.length + 1) cap).ownBlock ≠ some b) x l := by
    intro x l h
    have h2 : Lies w (fun b => S b ∧ b ≠ g ∧ v.ownBlock ≠ some b) x l := h.more fun b hlt hS => ⟨hS.1, fun e => by
      subst e
      rcases hat with hat | hat
      · exact hS.2 hat
      · omega, hS.2⟩
    refine (h2.still (w' := w') fun b hS hlt => hgrow.block b hlt (fun e => hS.2.2 e.symm)).more fun b _ hS => ⟨hS.1, ?_⟩
    simp only [Value.ownBlock, ne_eq, Option.some.injEq]
    exact fun e => hS.2.1 e.symm
  refine ⟨⟨vs ++ [s], by simp [hl], by rw [flat_snoc ts vs t s hl]; simpa using hown', ?_⟩, ?_⟩
  · intro i h h'
    by_cases hi : i < ts.length
    · rw [List.getElem_append_left hi, List.getElem_append_left (by omega)]
      exact move (hsub i hi (by omega))
    · obtain rfl : i = ts.length := by simp at h; omega
      simp only [List.getElem_append_right (Nat.le_refl _), Nat.sub_self, List.getElem_cons_zero]
      rw [List.getElem_append_right (by omega)]
      simp only [hl, Nat.sub_self, List.getElem_cons_zero]
      rw [← hl]
      exact move hs
  · intro x hx
    rcases List.mem_append.1 hx with hx | hx
    · exact hfit x hx
    · simp at hx; rw [hx]; exact ht

/-- What has been built lies there. -/
theorem RBuilt.lies {w : World} {base : Nat} {S : Nat → Prop} {e : TypeId} {v : Value} {ts : List Tm} (h : RBuilt w base S e v ts) (hS : ∀ b, base ≤ b → v.ownBlock = some b → S b) : Lies w S v ts := by
  obtain ⟨⟨vs, hl, hown, hsub⟩, hfit⟩ := h
  have hcells := @World.ownsRow.cells w base e 4 v ts.length (flat ts vs) hown
  rcases hown.2 with ⟨rfl, h0⟩ | ⟨g, cap, cur, rfl, hg, hh, hle, hmx, _⟩
  · obtain rfl : ts = [] := List.eq_nil_of_length_eq_zero h0
    exact Lies.nil _ _
  · have hc : ∀ j u, (flat ts vs)[j]? = some u → w.cell? ⟨g, 0 + j, none⟩ = some u := fun j u hu => by
      have := hcells (g := g) (by simp [Value.ownBlock]) j u hu
      rwa [Addr.add_lit] at this
    have hts : ts = (List.range ts.length).map fun i => Tm.mk (ts[i]?.getD (.mk 0 0 0 [])).op (ts[i]?.getD (.mk 0 0 0 [])).hd (ts[i]?.getD (.mk 0 0 0 [])).n (ts[i]?.getD (.mk 0 0 0 [])).args := by
      apply List.ext_getElem
      · simp
      · intro i h1 h2
        simp only [List.getElem_map, List.getElem_range, List.getElem?_eq_getElem h1, Option.getD_some]
        cases ts[i]; rfl
    have hget : ∀ i (h : i < ts.length), ts[i]?.getD (.mk 0 0 0 []) = ts[i] := fun i h => by rw [List.getElem?_eq_getElem h]; rfl
    have hvs : ∀ i (h : i < vs.length), vs[i]?.getD (.slice none 0 0) = vs[i] := fun i h => by rw [List.getElem?_eq_getElem h]; rfl
    have hf := fun i (h : i < ts.length) => flat_get ts vs i h (by omega)
    have hm : cap ≤ 9223372036854775807 := by unfold maxLen at hmx; exact hmx
    have row := Lies.row (w := w) (S := S) (some ⟨g, 0, none⟩) g 0 ts.length cap (fun i => (ts[i]?.getD (.mk 0 0 0 [])).op) (fun i => (ts[i]?.getD (.mk 0 0 0 [])).hd) (fun i => (ts[i]?.getD (.mk 0 0 0 [])).n)
      (fun i => vs[i]?.getD (.slice none 0 0)) (fun i => (ts[i]?.getD (.mk 0 0 0 [])).args) (fun _ => rfl) (fun _ => hS g hg rfl) hle hm
      (fun i hi => by rw [hget i hi]; exact hc _ _ (hf i hi).1) (fun i hi => by rw [hget i hi]; have := hc _ _ (hf i hi).2.1; rwa [← Nat.add_assoc] at this)
      (fun i hi => by rw [hget i hi]; have := hc _ _ (hf i hi).2.2.1; rwa [← Nat.add_assoc] at this) (fun i hi => by rw [hvs i (by omega)]; have := hc _ _ (hf i hi).2.2.2; rwa [← Nat.add_assoc] at this)
      (fun i hi => by rw [hget i hi]; exact (hfit _ (List.getElem_mem hi)).1) (fun i hi => by rw [hget i hi]; exact (hfit _ (List.getElem_mem hi)).2.1) (fun i hi => by rw [hget i hi]; exact (hfit _ (List.getElem_mem hi)).2.2)
      (fun i hi => by rw [hget i hi, hvs i (by omega)]; exact (hsub i hi (by omega)).more fun b _ hS => hS.1)
    rw [← hts] at row
    exact row


end Go.Proofs.Ytieakippgeehgaa.Sb
