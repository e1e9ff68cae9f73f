/- A row of constants in which two neighbours are exchanged. -/
import Derived.Test.YteoheeddjddekaaSgB1
namespace Go.Proofs.Yteoheeddjddekaa
open Go.RowKit
set_option linter.unusedSimpArgs false
set_option linter.unusedVariables false

/-- values stored one after the other -/
def setAll : Array Value → Nat → List Value → Array Value
  | cs, _, [] => cs
  | cs, a, v :: l => setAll (cs.setIfInBounds a v) (a + 1) l
theorem setAll_size : ∀ (l : List Value) (cs : Array Value) (a : Nat), (setAll cs a l).size = cs.size
  | [], _, _ => rfl
  | v :: l, cs, a => by simp only [setAll, setAll_size l]; simp
theorem setAll_get : ∀ (l : List Value) (cs : Array Value) (a j : Nat), a + l.length ≤ cs.size → (setAll cs a l)[j]? = if a ≤ j ∧ j < a + l.length then l[j - a]? else cs[j]?
  | [], cs, a, j, _ => by simp only [setAll, List.length_nil]; rw [if_neg (by omega)]
  | v :: l, cs, a, j, h => by
    simp only [List.length_cons] at h
    simp only [setAll, List.length_cons]
    rw [setAll_get l _ _ _ (by simp; omega)]
    by_cases h1 : a + 1 ≤ j ∧ j < a + 1 + l.length
    · rw [if_pos h1, if_pos (by omega)]
      obtain ⟨q, hq⟩ : ∃ q, j - a = q + 1 := ⟨j - a - 1, by omega⟩
      rw [hq, List.getElem?_cons_succ]; congr 1; omega
    · rw [if_neg h1]
      by_cases h2 : j = a
      · subst h2
        rw [if_pos (by omega), Nat.sub_self, List.getElem?_cons_zero]
        rw [Array.getElem?_setIfInBounds_self_of_lt (by omega)]
      · rw [if_neg (by omega), Array.getElem?_setIfInBounds_ne (by omega)]

theorem cell_of {w : World} {B j : Nat} {cs : Array Value} {t : TypeId} {fr : Nat × Nat} (hb : w.heap[B]? = some (.cells cs t fr)) {u : Value} (h : w.cell? ⟨B, j, none⟩ = some u) : cs[j]? = some u := by
  simpa [World.cell?, hb] using h

/-- where the constant with the number k stood -/
def swk (i k : Nat) : Nat := if k = i then i + 1 else if k = i + 1 then i else k
theorem swk_lt {i k n : Nat} (hi : i + 1 < n) (hk : k < n) : swk i k < n := by unfold swk; split; omega; split <;> omega
theorem exch_length (l : List Dc) (i : Nat) : (exch l i).length = l.length := by simp [exch]
theorem exch_get {l : List Dc} {i k : Nat} (hi : i + 1 < l.length) (hk : k < l.length) : (exch l i)[k]'(by rw [exch_length]; exact hk) = l[swk i k]'(swk_lt hi hk) := by
  have h := swk_lt hi hk
  simp only [exch, List.getElem_map, List.getElem_range]
  show l.getD (swk i k) _ = _
  rw [List.getD_eq_getElem?_getD, List.getElem?_eq_getElem h]; rfl

theorem exch_lies {W X : World} {g cap i base : Nat} {ms : List Dc} {vs : List Value} {cur : Array Value} (hvl : ms.length = vs.length) (hi : i + 1 < ms.length) (hcur : W.heap[g]? = some (.cells cur 40 (0, 0)))
    (cells : ∀ k (h : k < ms.length) (h' : k < vs.length), W.cell? ⟨g, 0 + k * 6, none⟩ = some (.string ms[k].nm) ∧ W.cell? ⟨g, 0 + k * 6 + 1, none⟩ = some (.int .i64 ms[k].cl.op) ∧ W.cell? ⟨g, 0 + k * 6 + 2, none⟩ = some (.int .i64 ms[k].cl.hd) ∧
      W.cell? ⟨g, 0 + k * 6 + 3, none⟩ = some (.int .i64 ms[k].cl.n) ∧ W.cell? ⟨g, 0 + k * 6 + 4, none⟩ = some vs[k] ∧ W.cell? ⟨g, 0 + k * 6 + 5, none⟩ = some (.int .i64 ms[k].im))
    (hsub : ∀ k (h : k < ms.length) (h' : k < vs.length), Lies W (fun b => base ≤ b ∧ b ≠ g) vs[k] ms[k].cl.args) (hg : base ≤ g) (hf : ∀ d ∈ ms, d.fit) (hcp : ms.length ≤ cap) (hcm : cap ≤ 9223372036854775807)
    (hX : X.heap[g]? = some (.cells (setAll (setAll cur (i * 6) (dcells (ms[i + 1]) (vs[i + 1]'(by omega)))) ((i + 1) * 6) (dcells (ms[i]'(by omega)) (vs[i]'(by omega)))) 40 (0, 0)))
    (hXo : ∀ k, k ≠ g → X.heap[k]? = W.heap[k]?) : DLies X (base ≤ ·) (.slice (some ⟨g, 0, none⟩) ms.length cap) (exch ms i) := by
  have hsz : (i + 2) * 6 ≤ cur.size := by
    have h := cell_of hcur (cells (i + 1) hi (by omega)).2.2.2.2.2
    have := (Array.getElem?_eq_some_iff.1 h).1
    omega
  have hlx : ∀ d v, (dcells d v).length = 6 := fun _ _ => rfl
  have go : ∀ k (hk : k < ms.length) (r : Nat) (hr : r < 6) (u : Value), (dcells (ms[swk i k]'(swk_lt hi hk)) (vs[swk i k]'(by rw [← hvl]; exact swk_lt hi hk)))[r]? = some u → X.cell? ⟨g, 0 + k * 6 + r, none⟩ = some u := by
    intro k hk r hr u hu
    refine cell_in hX _ u ?_
    rw [setAll_get _ _ _ _ (by rw [setAll_size, hlx]; omega), hlx]
    by_cases h1 : k = i + 1
    · subst h1
      rw [if_pos (by omega)]
      have e : swk i (i + 1) = i := by unfold swk; rw [if_neg (by omega), if_pos rfl]
      simp only [e] at hu
      rw [← hu]; congr 1; omega
    · rw [if_neg (by omega), setAll_get _ _ _ _ (by rw [hlx]; omega), hlx]
      by_cases h2 : k = i
      · subst h2
        rw [if_pos (by omega)]
        have e : swk k k = k + 1 := by unfold swk; rw [if_pos rfl]
        simp only [e] at hu
        rw [← hu]; congr 1; omega
      · rw [if_neg (by omega)]
        have e : swk i k = k := by unfold swk; rw [if_neg h2, if_neg h1]
        simp only [e] at hu
        obtain ⟨c0, c1, c2, c3, c4, c5⟩ := cells k hk (by omega)
        rcases (by omega : r = 0 ∨ r = 1 ∨ r = 2 ∨ r = 3 ∨ r = 4 ∨ r = 5) with rfl | rfl | rfl | rfl | rfl | rfl
        · rw [← hu]; exact cell_of hcur c0
        · rw [← hu]; exact cell_of hcur c1
        · rw [← hu]; exact cell_of hcur c2
        · rw [← hu]; exact cell_of hcur c3
        · rw [← hu]; exact cell_of hcur c4
        · rw [← hu]; exact cell_of hcur c5
  have hvk : ∀ k (h : k < ((List.range ms.length).map fun k => vs.getD (swk i k) (.slice none 0 0)).length) (hk : k < ms.length), ((List.range ms.length).map fun k => vs.getD (swk i k) (.slice none 0 0))[k] = vs[swk i k]'(by rw [← hvl]; exact swk_lt hi hk) := fun k h hk => by
    have h' := swk_lt hi hk
    simp only [List.getElem_map, List.getElem_range]
    rw [List.getD_eq_getElem?_getD, List.getElem?_eq_getElem (by omega)]; rfl
  refine DLies.of (S := (base ≤ ·)) (g := g) (off := 0) (exch ms i) ((List.range ms.length).map fun k => vs.getD (swk i k) (.slice none 0 0)) (by simp [exch]) (exch_length _ _) (fun _ => hg) hcp hcm (fun k hk hk' => ?_) (fun d hd => ?_) (fun k hk hk' => ?_)
  · have hk2 : k < ms.length := by rw [exch_length] at hk; exact hk
    rw [exch_get hi hk2, hvk k hk' hk2]
    exact ⟨go k hk2 0 (by omega) _ rfl, go k hk2 1 (by omega) _ rfl, go k hk2 2 (by omega) _ rfl, go k hk2 3 (by omega) _ rfl, go k hk2 4 (by omega) _ rfl, go k hk2 5 (by omega) _ rfl⟩
  · obtain ⟨k, hk, rfl⟩ := List.getElem_of_mem hd
    rw [exch_get hi (by rw [exch_length] at hk; exact hk)]
    exact hf _ (List.getElem_mem _)
  · have hk2 : k < ms.length := by rw [exch_length] at hk; exact hk
    rw [exch_get hi hk2, hvk k hk' hk2]
    exact ((hsub _ (swk_lt hi hk2) (by rw [← hvl]; exact swk_lt hi hk2)).still fun b hS _ => hXo b hS.2).more fun b _ hS => hS.1
end Go.Proofs.Yteoheeddjddekaa
