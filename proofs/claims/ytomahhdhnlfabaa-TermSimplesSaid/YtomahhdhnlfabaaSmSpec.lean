/- Simple types as plain trees, what lies in memory as a list of them, and a stack of them that a call keeps. Nothing of the program is imported. (The names are those of the terms' texts, in a space of their own.) -/
import Derived.Test.YtomahhdhnlfabaaTmStk
namespace Go.Proofs.Ytomahhdhnlfabaa.Sp
open Go.RowKit
set_option linter.unusedSimpArgs false
set_option linter.unusedVariables false

/-- A simple type as a tree: its constant and its parts. -/
inductive Tm where
  | mk (n : Int) (args : List Tm)

namespace Tm
def n : Tm → Int | .mk n _ => n
def args : Tm → List Tm | .mk _ l => l

mutual
def sz : Tm → Nat
  | .mk _ l => 1 + szL l
def szL : List Tm → Nat
  | [] => 0
  | t :: l => sz t + szL l
end

mutual
def same : Tm → Tm → Bool
  | .mk n l, .mk n' l' => n == n' && l.length == l'.length && sameL l l'
def sameL : List Tm → List Tm → Bool
  | a :: l, b :: m => same a b && sameL l m
  | _, _ => true
end

mutual
theorem same_iff : ∀ a b : Tm, same a b = true ↔ a = b
  | .mk n l, .mk n' l' => by
    simp only [same, Bool.and_eq_true, beq_iff_eq, mk.injEq]
    constructor
    · rintro ⟨⟨h3, h4⟩, h5⟩
      exact ⟨h3, (sameL_iff l l' h4).1 h5⟩
    · rintro ⟨h3, h4⟩
      subst h4
      exact ⟨⟨h3, rfl⟩, (sameL_iff l l rfl).2 rfl⟩
theorem sameL_iff : ∀ l m : List Tm, l.length = m.length → (sameL l m = true ↔ l = m)
  | [], [], _ => by simp [sameL]
  | a :: l, b :: m, hl => by
    simp only [sameL, Bool.and_eq_true, List.cons.injEq]
    rw [same_iff a b, sameL_iff l m (by simpa using hl)]
  | [], _ :: _, h => by simp at h
  | _ :: _, [], h => by simp at h
end

theorem sz_pos (t : Tm) : 1 ≤ sz t := by cases t; simp [sz]

theorem szL_le_of_mem : ∀ {l : List Tm} {t : Tm}, t ∈ l → sz t ≤ szL l
  | a :: l, t, h => by
    simp only [szL]
    rcases List.mem_cons.1 h with rfl | h
    · omega
    · have := szL_le_of_mem h; omega
theorem szL_append : ∀ l m : List Tm, szL (l ++ m) = szL l + szL m
  | [], m => by simp [szL]
  | a :: l, m => by simp only [List.cons_append, szL, szL_append l m]; omega
theorem length_le_szL : ∀ l : List Tm, l.length ≤ szL l
  | [] => by simp [szL]
  | a :: l => by simp only [List.length_cons, szL]; have := length_le_szL l; have := sz_pos a; omega

theorem sameL_snoc : ∀ (l m : List Tm) (a b : Tm), l.length = m.length → sameL (l ++ [a]) (m ++ [b]) = (sameL l m && same a b)
  | [], [], a, b, _ => by simp [sameL]
  | x :: l, y :: m, a, b, h => by
    simp only [List.cons_append, sameL]
    rw [sameL_snoc l m a b (by simpa using h), Bool.and_assoc]
  | [], _ :: _, _, _, h => by simp at h
  | _ :: _, [], _, _, h => by simp at h
theorem sameL_append : ∀ (l m l' m' : List Tm), l.length = m.length → sameL (l ++ l') (m ++ m') = (sameL l m && sameL l' m')
  | [], [], l', m', _ => by simp [sameL]
  | x :: l, y :: m, l', m', h => by
    simp only [List.cons_append, sameL]
    rw [sameL_append l m l' m' (by simpa using h), Bool.and_assoc]
  | [], _ :: _, _, _, h => by simp at h
  | _ :: _, [], _, _, h => by simp at h

theorem sameL_false : ∀ (k : Nat) (l m : List Tm) (h : k < l.length) (h' : k < m.length), same l[k] m[k] = false → sameL l m = false
  | 0, a :: l, b :: m, _, _, e => by simp at e; simp [sameL, e]
  | k + 1, a :: l, b :: m, h, h', e => by
    have := sameL_false k l m (by simpa using h) (by simpa using h') (by simpa using e)
    simp [sameL, this]
  | _, [], _, h, _, _ => by simp at h
  | _, _ :: _, [], _, h, _ => by simp at h
end Tm

/-- A slice of simple types lies in w, in blocks of S: the value v reads as the list ts. -/
inductive Lies (w : World) (S : Nat → Prop) : Value → List Tm → Prop
  | row (ao : Option Addr) (b off len cap : Nat) (k : Nat → Int) (sv : Nat → Value) (ts : Nat → List Tm)
      (hao : 0 < len → ao = some ⟨b, off, none⟩) (hS : 0 < len → S b) (hl : len ≤ cap) (hr : cap ≤ 9223372036854775807)
      (c0 : ∀ i, i < len → w.cell? ⟨b, off + i * 2, none⟩ = some (sv i))
      (c1 : ∀ i, i < len → w.cell? ⟨b, off + i * 2 + 1, none⟩ = some (.int .i64 (k i)))
      (r2 : ∀ i, i < len → -9223372036854775808 ≤ k i ∧ k i ≤ 9223372036854775807)
      (sub : ∀ i, i < len → Lies w S (sv i) (ts i)) :
      Lies w S (.slice ao len cap) ((List.range len).map fun i => .mk (k i) (ts i))

theorem Lies.nil (w : World) (S : Nat → Prop) : Lies w S (.slice none 0 0) [] := by
  have := Lies.row (w := w) (S := S) none 0 0 0 0 (fun _ => 0) (fun _ => .slice none 0 0) (fun _ => []) (by simp) (by simp) (by simp) (by simp)
    (by simp) (by simp) (by simp) (by simp)
  simpa using this

theorem Lies.still {w w' : World} {S : Nat → Prop} (hb : ∀ b, S b → b < w.heap.size → w'.heap[b]? = w.heap[b]?) {v : Value} {ts : List Tm} (h : Lies w S v ts) : Lies w' S v ts := by
  induction h with
  | row ao b off len cap k sv ts hao hS hl hr c0 c1 r2 _ ih =>
    have go : ∀ {i : Nat}, i < len → ∀ {j : Nat} {u : Value}, w.cell? ⟨b, j, none⟩ = some u → w'.cell? ⟨b, j, none⟩ = some u := fun {i} hi {j u} e => by
      rw [World.cell?_of_block (w := w) (hb b (hS (by omega)) (World.block_lt_of_cell? w _ e))]; exact e
    exact .row ao b off len cap k sv ts hao hS hl hr (fun i hi => go hi (c0 i hi)) (fun i hi => go hi (c1 i hi)) r2 ih
theorem Lies.keep {w w' : World} {S : Nat → Prop} (hb : Below w.heap.size w w') {v : Value} {ts : List Tm} (h : Lies w S v ts) : Lies w' S v ts :=
  h.still fun b _ hlt => hb.block b hlt
theorem Lies.more {w : World} {S S' : Nat → Prop} (hs : ∀ b, b < w.heap.size → S b → S' b) {v : Value} {ts : List Tm} (h : Lies w S v ts) : Lies w S' v ts := by
  induction h with
  | row ao b off len cap k sv ts hao hS hl hr c0 c1 r2 _ ih =>
    exact .row ao b off len cap k sv ts hao (fun h0 => hs b (World.block_lt_of_cell? w _ (c0 0 h0)) (hS h0)) hl hr c0 c1 r2 ih
theorem Lies.isSlice {w : World} {S : Nat → Prop} {v : Value} {l : List Tm} (h : Lies w S v l) : ∃ a n m, v = .slice a n m := by
  cases h; exact ⟨_, _, _, rfl⟩

structure RowAt (w : World) (S : Nat → Prop) (ao : Option Addr) (b off len cap : Nat) (k : Nat → Int) (sv : Nat → Value) (ts : Nat → List Tm) (l : List Tm) : Prop where
  isRow : l = (List.range len).map fun i => .mk (k i) (ts i)
  hao : 0 < len → ao = some ⟨b, off, none⟩
  hS : 0 < len → S b
  hl : len ≤ cap
  hr : cap ≤ 9223372036854775807
  c0 : ∀ i, i < len → w.cell? ⟨b, off + i * 2, none⟩ = some (sv i)
  c1 : ∀ i, i < len → w.cell? ⟨b, off + i * 2 + 1, none⟩ = some (.int .i64 (k i))
  r2 : ∀ i, i < len → -9223372036854775808 ≤ k i ∧ k i ≤ 9223372036854775807
  sub : ∀ i, i < len → Lies w S (sv i) (ts i)

theorem Lies.open {w : World} {S : Nat → Prop} {v : Value} {l : List Tm} (hv : Lies w S v l) :
    ∃ (ao : Option Addr) (b off len cap : Nat) (k : Nat → Int) (sv : Nat → Value) (ts : Nat → List Tm), v = .slice ao len cap ∧ RowAt w S ao b off len cap k sv ts l := by
  cases hv with
  | row ao b off len cap k sv ts hao hS hl hr c0 c1 r2 sub =>
    exact ⟨ao, b, off, len, cap, k, sv, ts, rfl, ⟨rfl, hao, hS, hl, hr, c0, c1, r2, sub⟩⟩

section
variable {w wr : World} {S : Nat → Prop} {ao : Option Addr} {b off len cap : Nat} {k : Nat → Int} {sv : Nat → Value} {ts : Nat → List Tm} {l : List Tm}
theorem RowAt.length (R : RowAt w S ao b off len cap k sv ts l) : l.length = len := by rw [R.isRow]; simp
theorem RowAt.get (R : RowAt w S ao b off len cap k sv ts l) (i : Nat) (hi : i < len) : l[i]'(by rw [R.length]; exact hi) = .mk (k i) (ts i) := by
  have := R.isRow; subst this; simp
theorem RowAt.at (R : RowAt w S ao b off len cap k sv ts l) (hb : Below w.heap.size w wr) (i : Nat) (hi : i < len) :
    wr.cell? ⟨b, off + i * 2, none⟩ = some (sv i) ∧ wr.cell? ⟨b, off + i * 2 + 1, none⟩ = some (.int .i64 (k i)) ∧ Lies wr S (sv i) (ts i) :=
  ⟨kept_cell hb (R.c0 i hi), kept_cell hb (R.c1 i hi), (R.sub i hi).keep hb⟩
theorem RowAt.mem (R : RowAt w S ao b off len cap k sv ts l) (i : Nat) (hi : i < len) : .mk (k i) (ts i) ∈ l := by
  rw [← R.get i hi]; exact List.getElem_mem _
end

/-- the cells of simple types whose parts are these values -/
def flat : List Tm → List Value → List Value
  | t :: ts, v :: vs => v :: .int .i64 t.n :: flat ts vs
  | _, _ => []
theorem flat_length : ∀ (ts : List Tm) (vs : List Value), ts.length = vs.length → (flat ts vs).length = ts.length * 2
  | [], [], _ => rfl
  | t :: ts, v :: vs, h => by simp only [flat, List.length_cons, flat_length ts vs (by simpa using h)]; omega
  | [], _ :: _, h => by simp at h
  | _ :: _, [], h => by simp at h
theorem flat_get : ∀ (ts : List Tm) (vs : List Value) (i : Nat) (h : i < ts.length) (h' : i < vs.length),
    (flat ts vs)[i * 2]? = some vs[i] ∧ (flat ts vs)[i * 2 + 1]? = some (.int .i64 ts[i].n)
  | t :: ts, v :: vs, 0, _, _ => by simp [flat]
  | t :: ts, v :: vs, i + 1, h, h' => by
    have := flat_get ts vs i (by simpa using h) (by simpa using h')
    have e : ∀ j, (i + 1) * 2 + j = (i * 2 + j) + 1 + 1 := fun j => by omega
    have e0 : (i + 1) * 2 = i * 2 + 1 + 1 := by omega
    simp only [flat, List.getElem_cons_succ]
    rw [e 1, e0]
    simp only [List.getElem?_cons_succ]
    exact this
  | [], _, _, h, _ => by simp at h
  | _ :: _, [], _, _, h => by simp at h
theorem flat_append : ∀ (ts ts' : List Tm) (vs vs' : List Value), ts.length = vs.length → flat (ts ++ ts') (vs ++ vs') = flat ts vs ++ flat ts' vs'
  | [], _, [], _, _ => rfl
  | t :: ts, ts', v :: vs, vs', h => by simp only [List.cons_append, flat, flat_append ts ts' vs vs' (by simpa using h)]
  | [], _, _ :: _, _, h => by simp at h
  | _ :: _, _, [], _, h => by simp at h
theorem flat_at {w : World} {b off : Nat} (ts : List Tm) (vs : List Value) (hl : ts.length = vs.length)
    (h : ∀ i (h : i < ts.length) (h' : i < vs.length), w.cell? ⟨b, off + i * 2, none⟩ = some vs[i] ∧ w.cell? ⟨b, off + i * 2 + 1, none⟩ = some (.int .i64 ts[i].n)) :
    ∀ j u, (flat ts vs)[j]? = some u → w.cell? ((⟨b, off, none⟩ : Addr).add j) = some u := by
  intro j u hu
  have hj : j < ts.length * 2 := by rw [← flat_length ts vs hl]; exact (List.getElem?_eq_some_iff.1 hu).1
  have hq : j / 2 < ts.length := by omega
  have h0 := h (j / 2) hq (by omega)
  have hf := flat_get ts vs (j / 2) hq (by omega)
  have hm : j = j / 2 * 2 + j % 2 := by omega
  have hlt : j % 2 < 2 := by omega
  rw [Addr.add_lit]
  generalize j % 2 = r at hm hlt
  rw [hm] at hu ⊢
  match r, hlt with
  | 0, _ => rw [Nat.add_zero] at hu ⊢; rw [hf.1] at hu; rw [← hu]; exact h0.1
  | 1, _ => rw [hf.2] at hu; rw [← hu]; exact h0.2
theorem flat_one : ∀ (ts : List Tm) (vs : List Value), (∀ v ∈ vs, v.oneCell' = true) → ∀ u ∈ flat ts vs, u.oneCell' = true
  | t :: ts, v :: vs, h, u, hu => by
    simp only [flat, List.mem_cons] at hu
    rcases hu with rfl | rfl | hu
    · exact h _ (by simp)
    · rfl
    · exact flat_one ts vs (fun v hv => h v (by simp [hv])) u hu
  | [], _, _, u, hu => by simp [flat] at hu
  | _ :: _, [], _, u, hu => by simp [flat] at hu

def Tm.fit (t : Tm) : Prop := -9223372036854775808 ≤ t.n ∧ t.n ≤ 9223372036854775807

/-- A stack of simple types in a row of the call's own (block g), whose parts lie in blocks older than base. -/
structure Stk (w : World) (base : Nat) (e : TypeId) (g n cap : Nat) (ts : List Tm) (vs : List Value) : Prop where
  len : ts.length = n
  hl : ts.length = vs.length
  own : w.ownsRow base e 2 (.slice (some ⟨g, 0, none⟩) n cap) n (flat ts vs)
  sub : ∀ i (h : i < ts.length) (h' : i < vs.length), Lies w (· < base) vs[i] ts[i].args
  fit : ∀ t ∈ ts, t.fit

section
variable {w w' : World} {base : Nat} {e : TypeId} {g n cap : Nat} {ts : List Tm} {vs : List Value}
theorem Stk.block (H : Stk w base e g n cap ts vs) : base ≤ g ∧ g < w.heap.size := H.own.lt g rfl
theorem Stk.keep (H : Stk w base e g n cap ts vs) (hg : w'.heap[g]? = w.heap[g]?) (hb : ∀ b, b < base → b < w.heap.size → w'.heap[b]? = w.heap[b]?) : Stk w' base e g n cap ts vs := by
  refine ⟨H.len, H.hl, ⟨H.own.1, ?_⟩, fun i h h' => (H.sub i h h').still hb, H.fit⟩
  rcases H.own.2 with hn | ⟨g', cap', cur, hv, hb', hh, rest⟩
  · exact .inl hn
  · have : g' = g := by simpa [Value.ownBlock] using (congrArg Value.ownBlock hv).symm
    subst this
    exact .inr ⟨g', cap', cur, hv, hb', hg.trans hh, rest⟩
theorem Stk.below (H : Stk w base e g n cap ts vs) (hb : Below w.heap.size w w') : Stk w' base e g n cap ts vs := H.keep (hb.block _ H.block.2) fun b _ h => hb.block b h
theorem Stk.other {k : Nat} (H : Stk w base e g n cap ts vs) (hg : w.grownBy w' (some k)) (hk : k ≠ g) (hkb : base ≤ k) : Stk w' base e g n cap ts vs :=
  H.keep (hg.block _ H.block.2 (by simpa using (Ne.symm hk))) fun b h1 h2 => hg.block b h2 (by simp; omega)
theorem Stk.pop {t : Tm} {v : Value} (H : Stk w base e g (n + 1) cap (ts ++ [t]) (vs ++ [v])) : Stk w base e g n cap ts vs := by
  have hlen := H.len
  have hl := H.hl
  simp only [List.length_append, List.length_singleton] at hlen hl
  have hl' : ts.length = vs.length := by omega
  refine ⟨by omega, hl', ⟨by rw [flat_length _ _ hl']; omega, ?_⟩, fun i h h' => ?_, fun t ht => H.fit t (by simp [ht])⟩
  · rcases H.own.2 with ⟨h, _⟩ | ⟨g', cap', cur, hv, hb', hh, hle, hmx, hsz, htk⟩
    · cases h
    · cases hv
      refine .inr ⟨g, cap, cur, rfl, hb', hh, by omega, hmx, hsz, ?_⟩
      rw [flat_append _ _ _ _ hl'] at htk
      have h4 : (flat ts vs).length = n * 2 := by rw [flat_length _ _ hl']; omega
      have := congrArg (List.take (n * 2)) htk
      rwa [List.take_take, Nat.min_eq_left (by omega), List.take_left' h4] at this
  · have := H.sub i (by simp; omega) (by simp; omega)
    rwa [List.getElem_append_left h, List.getElem_append_left h'] at this
theorem Stk.top {t : Tm} {v : Value} (H : Stk w base e g (n + 1) cap (ts ++ [t]) (vs ++ [v])) :
    w.cell? ⟨g, n * 2, none⟩ = some v ∧ w.cell? ⟨g, n * 2 + 1, none⟩ = some (.int .i64 t.n) ∧ Lies w (· < base) v t.args ∧ t.fit ∧ n + 1 ≤ cap ∧ cap ≤ 9223372036854775807 := by
  have hlen := H.len
  have hl := H.hl
  simp only [List.length_append, List.length_singleton] at hlen hl
  have hn : ts.length = n := by omega
  have hv : vs.length = n := by omega
  have hcells := @World.ownsRow.cells w base e 2 _ (n + 1) _ H.own g rfl
  have hf := flat_get (ts ++ [t]) (vs ++ [v]) n (by simp [hn]) (by simp [hv])
  have e1 : (ts ++ [t])[n]'(by simp [hn]) = t := by simp [List.getElem_append_right, hn]
  have e2 : (vs ++ [v])[n]'(by simp [hv]) = v := by simp [List.getElem_append_right, hv]
  rw [e1, e2] at hf
  have hs := H.sub n (by simp [hn]) (by simp [hv])
  rw [e1, e2] at hs
  have go : ∀ j u, (flat (ts ++ [t]) (vs ++ [v]))[j]? = some u → w.cell? ⟨g, j, none⟩ = some u := fun j u hu => by
    have := hcells j u hu
    rw [Addr.add_lit, Nat.zero_add] at this
    exact this
  refine ⟨go _ _ hf.1, go _ _ hf.2, hs, H.fit t (by simp), ?_⟩
  rcases H.own.2 with ⟨h, _⟩ | ⟨g', cap', cur, hv', hb', hh, hle, hmx, _⟩
  · cases h
  · cases hv'; exact ⟨hle, by unfold maxLen at hmx; exact hmx⟩
theorem Stk.push {ts' : List Tm} {vs' : List Value} {g' cap' m : Nat} (H : Stk w base e g n cap ts vs) (hl : ts'.length = vs'.length) (hm : ts'.length = m) (hs : ∀ i (h : i < ts'.length) (h' : i < vs'.length), Lies w (· < base) vs'[i] ts'[i].args) (hf : ∀ t ∈ ts', t.fit)
    (hown : w'.ownsRow base e 2 (.slice (some ⟨g', 0, none⟩) (n + m) cap') (n + m) (flat ts vs ++ flat ts' vs')) (hgrow : w.grownBy w' (some g)) : Stk w' base e g' (n + m) cap' (ts ++ ts') (vs ++ vs') := by
  have hb : ∀ b, b < base → b < w.heap.size → w'.heap[b]? = w.heap[b]? := fun b h1 h2 => hgrow.block b h2 (by have := H.block; simp; omega)
  refine ⟨by simp [H.len, hm], by simp [H.hl, hl], by rw [flat_append _ _ _ _ H.hl]; exact hown, fun i h h' => ?_, fun t ht => ?_⟩
  · by_cases hi : i < ts.length
    · rw [List.getElem_append_left hi, List.getElem_append_left (by rw [← H.hl]; exact hi)]
      exact (H.sub i hi (by rw [← H.hl]; exact hi)).still hb
    · have hvl := H.hl
      rw [List.getElem_append_right (as := ts) (by omega), List.getElem_append_right (as := vs) (by omega)]
      have := hs (i - ts.length) (by simp at h; omega) (by simp at h'; have := H.hl; omega)
      have e : i - vs.length = i - ts.length := by rw [H.hl]
      simp only [e]
      exact this.still hb
  · rcases List.mem_append.1 ht with h | h
    · exact H.fit t h
    · exact hf t h
theorem Stk.one {n : Int} {v : Value} {l : List Tm} {b : Nat} (hb : base ≤ b) (hh : w.heap[b]? = some (.cells #[v, .int .i64 n] e (0, 0))) (hv : Lies w (· < base) v l) (hf : (Tm.mk n l).fit) : Stk w base e b 1 1 [.mk n l] [v] := by
  refine ⟨rfl, rfl, ⟨rfl, .inr ⟨b, 1, _, rfl, hb, hh, Nat.le_refl _, by unfold maxLen; omega, rfl, rfl⟩⟩, ?_, fun t ht => by simp at ht; rw [ht]; exact hf⟩
  intro i h h'
  obtain rfl : i = 0 := by simpa using h
  exact hv
end

/-- the cells of an argument's row, as a source of append -/
theorem RowAt.news {w wr : World} {S : Nat → Prop} {ao : Option Addr} {b off len cap : Nat} {k : Nat → Int} {sv : Nat → Value} {ts : Nat → List Tm} {l : List Tm} (R : RowAt w S ao b off len cap k sv ts l) (hb : Below w.heap.size w wr) :
    ∀ ad, ao = some ad → ∀ j u, (flat l ((List.range len).map sv))[j]? = some u → wr.cell? (ad.add j) = some u := by
  intro ad had j u hu
  have hl := R.length
  by_cases h0 : 0 < len
  · have h1 := R.hao h0
    rw [h1] at had
    cases had
    refine flat_at l _ (by simp [hl]) ?_ j u hu
    intro i hi hi'
    obtain ⟨d0, d1, _⟩ := R.at hb i (by omega)
    have hg := R.get i (by omega)
    rw [hg]
    exact ⟨by simpa using d0, d1⟩
  · have : l = [] := List.eq_nil_of_length_eq_zero (by omega)
    subst this
    simp [flat] at hu
theorem RowAt.one {w : World} {S : Nat → Prop} {ao : Option Addr} {b off len cap : Nat} {k : Nat → Int} {sv : Nat → Value} {ts : Nat → List Tm} {l : List Tm} (R : RowAt w S ao b off len cap k sv ts l) :
    ∀ u ∈ flat l ((List.range len).map sv), u.oneCell' = true := by
  refine flat_one _ _ fun v hv => ?_
  obtain ⟨i, hi, rfl⟩ := List.mem_map.1 hv
  obtain ⟨a, n, m, e⟩ := (R.sub i (by simpa using hi)).isSlice
  rw [e]; rfl
theorem RowAt.subs {w wr : World} {S : Nat → Prop} {ao : Option Addr} {b off len cap : Nat} {k : Nat → Int} {sv : Nat → Value} {ts : Nat → List Tm} {l : List Tm} (R : RowAt w S ao b off len cap k sv ts l) (hb : Below w.heap.size w wr) :
    ∀ i (hi : i < l.length) (hi' : i < ((List.range len).map sv).length), Lies wr S ((List.range len).map sv)[i] l[i].args := by
  intro i hi hi'
  have hl := R.length
  rw [R.get i (by omega)]
  simpa [Tm.args] using (R.sub i (by omega)).keep hb
theorem RowAt.fits {w : World} {S : Nat → Prop} {ao : Option Addr} {b off len cap : Nat} {k : Nat → Int} {sv : Nat → Value} {ts : Nat → List Tm} {l : List Tm} (R : RowAt w S ao b off len cap k sv ts l) : ∀ t ∈ l, t.fit := by
  intro t ht
  rw [R.isRow] at ht
  obtain ⟨i, hi, rfl⟩ := List.mem_map.1 ht
  have hi' : i < len := by simpa using hi
  exact R.r2 i hi'
theorem RowAt.still {w w' : World} {S : Nat → Prop} {ao : Option Addr} {b off len cap : Nat} {k : Nat → Int} {sv : Nat → Value} {ts : Nat → List Tm} {l : List Tm} (R : RowAt w S ao b off len cap k sv ts l) (hb : ∀ b, S b → b < w.heap.size → w'.heap[b]? = w.heap[b]?) :
    RowAt w' S ao b off len cap k sv ts l := by
  have go : ∀ {i : Nat}, i < len → ∀ {j : Nat} {u : Value}, w.cell? ⟨b, j, none⟩ = some u → w'.cell? ⟨b, j, none⟩ = some u := fun {i} hi {j u} e => by
    rw [World.cell?_of_block (w := w) (hb b (R.hS (by omega)) (World.block_lt_of_cell? w _ e))]; exact e
  exact ⟨R.isRow, R.hao, R.hS, R.hl, R.hr, fun i hi => go hi (R.c0 i hi), fun i hi => go hi (R.c1 i hi), R.r2, fun i hi => (R.sub i hi).still hb⟩
end Go.Proofs.Ytomahhdhnlfabaa.Sp
