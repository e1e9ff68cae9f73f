/- A row of simple types that a call has built: it owns the row's block. Nothing of the program is imported. -/
import Derived.Test.YtomahhdhnlfabaaSmSpec
namespace Go.Proofs.Ytomahhdhnlfabaa.Sp
open Go.RowKit
set_option linter.unusedSimpArgs false
set_option linter.unusedVariables false

theorem flat_snoc : ∀ (ts : List Tm) (vs : List Value) (t : Tm) (v : Value), ts.length = vs.length → flat (ts ++ [t]) (vs ++ [v]) = flat ts vs ++ [v, .int .i64 t.n]
  | [], [], _, _, _ => rfl
  | t :: ts, v :: vs, t', v', h => by simp only [List.cons_append, flat, flat_snoc ts vs t' v' (by simpa using h)]
  | [], _ :: _, _, _, h => by simp at h
  | _ :: _, [], _, _, h => by simp at h

/-- The slice value v is the call's own row (in a block from base on), and holds the simple types ts; their parts lie in other blocks, of S. -/
structure Built (w : World) (base : Nat) (S : Nat → Prop) (e : TypeId) (v : Value) (ts : List Tm) : Prop where
  has : ∃ vs : List Value, ts.length = vs.length ∧ w.ownsRow base e 2 v ts.length (flat ts vs) ∧ ∀ i (h : i < ts.length) (h' : i < vs.length), Lies w (fun b => S b ∧ v.ownBlock ≠ some b) vs[i] ts[i].args
  fit : ∀ t ∈ ts, t.fit

section
variable {w w' : World} {base : Nat} {S : Nat → Prop} {e : TypeId} {v : Value} {ts : List Tm}
theorem Built.nil (w : World) (base : Nat) (S : Nat → Prop) (e : TypeId) : Built w base S e (.slice none 0 0) [] :=
  ⟨⟨[], rfl, World.ownsRow_nil _ _ _ _, fun i h => by simp at h⟩, by simp⟩

theorem Built.keep (h : Built w base S e v ts) (hb : ∀ b, S b ∨ v.ownBlock = some b → b < w.heap.size → w'.heap[b]? = w.heap[b]?) : Built w' base S e v ts := by
  obtain ⟨⟨vs, hl, hown, hsub⟩, hfit⟩ := h
  refine ⟨⟨vs, hl, ⟨hown.1, ?_⟩, fun i h h' => (hsub i h h').still fun b hS hlt => hb b (.inl hS.1) hlt⟩, hfit⟩
  rcases hown.2 with hn | ⟨g, cap, cur, rfl, hg, hh, rest⟩
  · exact .inl hn
  · exact .inr ⟨g, cap, cur, rfl, hg, (hb g (.inr rfl) (Array.getElem?_eq_some_iff.1 hh).1).trans hh, rest⟩
theorem Built.below (h : Built w base S e v ts) (hb : Below w.heap.size w w') : Built w' base S e v ts :=
  h.keep fun b _ hlt => hb.block b hlt
theorem Built.lt (h : Built w base S e v ts) : ∀ k, v.ownBlock = some k → base ≤ k ∧ k < w.heap.size := by
  obtain ⟨vs, _, hown, _⟩ := h.has; exact hown.lt
theorem Built.low {base' : Nat} {S' : Nat → Prop} (h : Built w base S e v ts) (hb : base' ≤ base) (hS : ∀ b, b < w.heap.size → S b → S' b) : Built w base' S' e v ts := by
  obtain ⟨⟨vs, hl, hown, hsub⟩, hfit⟩ := h
  refine ⟨⟨vs, hl, ⟨hown.1, ?_⟩, fun i h h' => (hsub i h h').more fun b hlt hS' => ⟨hS b hlt hS'.1, hS'.2⟩⟩, hfit⟩
  rcases hown.2 with hn | ⟨g, cap, cur, rfl, hg, rest⟩
  · exact .inl hn
  · exact .inr ⟨g, cap, cur, rfl, by omega, rest⟩

/-- A row of the call's own that holds what it should: built. -/
theorem Built.of {us : List Tm} {vs : List Value} {g cap m : Nat} (hm : us.length = m)
    (hl : us.length = vs.length) (hsub : ∀ i (h : i < us.length) (h' : i < vs.length), Lies w (fun b => S b ∧ v.ownBlock ≠ some b) vs[i] us[i].args) (hfit : ∀ t ∈ us, t.fit)
    (hown' : w'.ownsRow base e 2 (.slice (some ⟨g, 0, none⟩) m cap) m (flat us vs))
    (hgrow : ∀ k, k < w.heap.size → some k ≠ v.ownBlock → w'.heap[k]? = w.heap[k]?) (hat : v.ownBlock = some g ∨ w.heap.size ≤ g) : Built w' base S e (.slice (some ⟨g, 0, none⟩) m cap) us := by
  subst hm
  refine ⟨⟨vs, hl, hown', fun i h h' => ?_⟩, hfit⟩
  have h2 : Lies w (fun b => S b ∧ b ≠ g ∧ v.ownBlock ≠ some b) vs[i] us[i].args := (hsub i h h').more fun b hlt hS => ⟨hS.1, fun e => by
    subst e
    rcases hat with hat | hat
    · exact hS.2 hat
    · omega, hS.2⟩
  refine (h2.still (w' := w') fun b hS hlt => hgrow b hlt (fun e => hS.2.2 e.symm)).more fun b _ hS => ⟨hS.1, ?_⟩
  simp only [Value.ownBlock, ne_eq, Option.some.injEq]
  exact fun e => hS.2.1 e.symm

theorem Built.lies (h : Built w base S e v ts) (hS : ∀ b, base ≤ b → v.ownBlock = some b → S b) : Lies w S v ts := by
  obtain ⟨⟨vs, hl, hown, hsub⟩, hfit⟩ := h
  have hcells := @World.ownsRow.cells w base e 2 v ts.length (flat ts vs) hown
  rcases hown.2 with ⟨rfl, h0⟩ | ⟨g, cap, cur, rfl, hg, hh, hle, hmx, _⟩
  · obtain rfl : ts = [] := List.eq_nil_of_length_eq_zero h0
    exact Lies.nil _ _
  · have hc : ∀ j u, (flat ts vs)[j]? = some u → w.cell? ⟨g, 0 + j, none⟩ = some u := fun j u hu => by
      have := hcells (g := g) (by simp [Value.ownBlock]) j u hu
      rwa [Addr.add_lit] at this
    have hts : ts = (List.range ts.length).map fun i => Tm.mk (ts[i]?.getD (.mk 0 [])).n (ts[i]?.getD (.mk 0 [])).args := by
      apply List.ext_getElem
      · simp
      · intro i h1 h2
        simp only [List.getElem_map, List.getElem_range, List.getElem?_eq_getElem h1, Option.getD_some]
        cases ts[i]; rfl
    have hget : ∀ i (h : i < ts.length), ts[i]?.getD (.mk 0 []) = ts[i] := fun i h => by rw [List.getElem?_eq_getElem h]; rfl
    have hvs : ∀ i (h : i < vs.length), vs[i]?.getD (.slice none 0 0) = vs[i] := fun i h => by rw [List.getElem?_eq_getElem h]; rfl
    have hf := fun i (h : i < ts.length) => flat_get ts vs i h (by omega)
    have hm : cap ≤ 9223372036854775807 := by unfold maxLen at hmx; exact hmx
    have row := Lies.row (w := w) (S := S) (some ⟨g, 0, none⟩) g 0 ts.length cap (fun i => (ts[i]?.getD (.mk 0 [])).n)
      (fun i => vs[i]?.getD (.slice none 0 0)) (fun i => (ts[i]?.getD (.mk 0 [])).args) (fun _ => rfl) (fun _ => hS g hg rfl) hle hm
      (fun i hi => by rw [hvs i (by omega)]; exact hc _ _ (hf i hi).1) (fun i hi => by rw [hget i hi]; have := hc _ _ (hf i hi).2; rwa [← Nat.add_assoc] at this)
      (fun i hi => by rw [hget i hi]; exact hfit _ (List.getElem_mem hi))
      (fun i hi => by rw [hget i hi, hvs i (by omega)]; exact (hsub i hi (by omega)).more fun b _ hS => hS.1)
    rw [← hts] at row
    exact row
theorem Built.isSlice (h : Built w base S e v ts) : ∃ a n m, v = .slice a n m := by
  obtain ⟨vs, _, hown, _⟩ := h.has
  rcases hown.2 with ⟨rfl, _⟩ | ⟨g, cap, cur, rfl, _⟩
  · exact ⟨_, _, _, rfl⟩
  · exact ⟨_, _, _, rfl⟩
theorem Built.len {a : Option Addr} {n m : Nat} (h : Built w base S e (.slice a n m) ts) : ts.length = n := by
  obtain ⟨vs, _, hown, _⟩ := h.has
  rcases hown.2 with ⟨h, h0⟩ | ⟨g, cap, cur, h, _⟩
  · cases h; exact h0
  · cases h; rfl
theorem Lies.len {a : Option Addr} {n m : Nat} {l : List Tm} (h : Lies w S (.slice a n m) l) : l.length = n := by
  obtain ⟨ao, b, off, len, cap, k, sv, ts, e, R⟩ := h.open
  cases e; exact R.length

/-- a literal of one simple type, in a block of its own -/
theorem Built.one {b : Nat} {n : Int} {l : List Tm} (hh : w.heap[b]? = some (.cells #[v, .int .i64 n] e (0, 0))) (hb : base ≤ b) (hv : Lies w (fun k => S k ∧ k ≠ b) v l) (hf : (Tm.mk n l).fit) :
    Built w base S e (.slice (some ⟨b, 0, none⟩) 1 1) [.mk n l] := by
  refine ⟨⟨[v], rfl, ⟨rfl, .inr ⟨b, 1, _, rfl, hb, hh, Nat.le_refl _, by unfold maxLen; omega, rfl, rfl⟩⟩, ?_⟩, fun t ht => by simp at ht; rw [ht]; exact hf⟩
  intro i h h'
  obtain rfl : i = 0 := by simpa using h
  exact hv.more fun k _ hS => ⟨hS.1, fun e => by simp [Value.ownBlock] at e; omega⟩
end
end Go.Proofs.Ytomahhdhnlfabaa.Sp
