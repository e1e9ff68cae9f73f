/- The map of the positions of constants: plain facts, and the contract of sign.positions. -/
import Derived.Test.YteoheeddjddekaaSgE
import Derived.Maps.OwnSet
import Derived.Maps.Views
import Derived.MapKept
namespace Go.Proofs.Yteoheeddjddekaa
open Go.RowKit Go.Maps Go.WideMaps
set_option linter.unusedSimpArgs false
set_option linter.unusedVariables false

namespace Sg
/-- the map of the first k names -/
def posD {H : Type} (l : List Dc) : Nat → DataW H
  | 0 => .map []
  | k + 1 => match l[k]? with
    | some d => (posD l k).put (.string d.nm.data.toList) (.lit (.int .i64 k))
    | none => posD l k
variable {H : Type}
theorem keyStr {b : List UInt8} : WideAt.IsKeyLit (.string b) := trivial
theorem posD_step (l : List Dc) (k : Nat) (hk : k < l.length) : (posD l (k + 1) : DataW H) = (posD l k).put (.string l[k].nm.data.toList) (.lit (.int .i64 k)) := by
  simp only [posD, List.getElem?_eq_getElem hk]
theorem str_ne {a b : ByteArray} (h : a ≠ b) : Lit.string a.data.toList ≠ Lit.string b.data.toList := by
  intro e
  injection e with e
  exact h (WideShapes.bytes_inj e)
theorem tidy_posD (l : List Dc) : ∀ k, k ≤ l.length → Tidy (posD l k : DataW H)
  | 0, _ => tidy_empty
  | k + 1, h => by
    rw [posD_step l k (by omega)]
    exact (tidy_posD l k (by omega)).put keyStr _
theorem has_posD (l : List Dc) (s : ByteArray) : ∀ k, k ≤ l.length → (Maps.has (posD l k : DataW H) (.string s.data.toList) = true ↔ s ∈ (l.take k).map Dc.nm)
  | 0, _ => by simp [posD, Maps.has]
  | k + 1, h => by
    rw [posD_step l k (by omega), List.take_succ_eq_append_getElem (show k < l.length by omega), List.map_append, List.mem_append]
    by_cases e : s = l[k].nm
    · subst e
      rw [has_put_same (tidy_posD l k (by omega)).isMap keyStr]; simp
    · rw [has_put_other (str_ne e), has_posD l s k (by omega)]; simp [e]
theorem size_posD_le (l : List Dc) : ∀ k, k ≤ l.length → Maps.size (posD l k : DataW H) ≤ k
  | 0, _ => by simp [posD, Maps.size]
  | k + 1, h => by
    have := size_posD_le l k (by omega)
    rw [posD_step l k (by omega), size_put (tidy_posD l k (by omega))]
    split <;> omega
theorem size_posD (l : List Dc) : ∀ k, k ≤ l.length → (Maps.size (posD l k : DataW H) = k ↔ ((l.take k).map Dc.nm).Nodup)
  | 0, _ => by simp [posD, Maps.size]
  | k + 1, h => by
    have h1 := size_posD_le (H := H) l k (by omega)
    have ih := size_posD l k (by omega)
    have hh := has_posD (H := H) l l[k].nm k (by omega)
    rw [posD_step l k (by omega), size_put (tidy_posD l k (by omega)), List.take_succ_eq_append_getElem (show k < l.length by omega), List.map_append, List.nodup_append]
    by_cases e : Maps.has (posD l k : DataW H) (.string l[k].nm.data.toList) = true
    · rw [if_pos e]
      constructor
      · intro h2; omega
      · rintro ⟨_, _, h2⟩
        exact absurd rfl (h2 _ (hh.1 e) l[k].nm (by simp))
    · rw [if_neg e]
      constructor
      · intro h2
        refine ⟨ih.1 (by omega), by simp, ?_⟩
        intro a ha b hb hab
        simp only [List.map_cons, List.map_nil, List.mem_singleton] at hb
        subst hab hb
        exact e (hh.2 ha)
      · rintro ⟨h2, _, _⟩
        have := ih.2 h2; omega
/-- where a name stands in a list without repeats -/
theorem atKey_posD (l : List Dc) (s : ByteArray) (z : DataW H) : ∀ k, k ≤ l.length → ((l.take k).map Dc.nm).Nodup → ∀ j (hj : j < l.length), j < k → l[j].nm = s → (posD l k : DataW H).atKey (.string s.data.toList) z = .lit (.int .i64 j)
  | 0, _, _, j, _, h, _ => by omega
  | k + 1, h, hn, j, hj, hjk, e => by
    rw [posD_step l k (by omega)]
    rw [List.take_succ_eq_append_getElem (show k < l.length by omega), List.map_append, List.nodup_append] at hn
    by_cases e1 : j = k
    · subst e1; subst e
      exact atKey_put_same (tidy_posD l j (by omega)).isMap keyStr _ _
    · have hm : l[j].nm ∈ (l.take k).map Dc.nm := List.mem_map.2 ⟨l[j], by rw [List.mem_take_iff_getElem]; exact ⟨j, by omega, rfl⟩, rfl⟩
      have hne : s ≠ l[k].nm := by subst e; exact hn.2.2 _ hm _ (by simp)
      rw [atKey_put_other (str_ne hne)]
      exact atKey_posD l s z k (by omega) hn.1 j hj (by omega) e
end Sg

theorem sgMap_law : Keyed Try.prog 9 := string_keyed Try.underlying9
theorem run_makeMap_hint (n : Int) (w : World) : (Instr.makeMap 73 (some (.int .i64 n))).run Try.prog w = .ok (.map (some w.heap.size)) (w.alloc (.map #[] 0)) := by
  simp [Instr.makeMap, run_underlying Try.underlying73, asInt, asIntOf, Result.andThen]

set_option maxHeartbeats 2000000 in
set_option maxRecDepth 100000 in
theorem positions_any {H : Type} (S : Nat → Prop) (l : List Dc) (sv : Value) (w : World) (hl : DLies w S sv l) (hlen : l.length ≤ 1000) :
    Calls Try.prog 40 #[sv] w fun e w' => ∃ B, e = .returned (.map (some B)) ∧ w.heap.size ≤ B ∧ w'.ownsMap Try.prog 9 (plainElem (H := H) Try.prog 3) B l.length (Sg.posD l l.length) ∧ Below w.heap.size w w' := by
  obtain ⟨ao, bb, off, len, cap, nm, oo, hh, kk, sc, tt, im, rfl, R⟩ := hl
  have hrl := R.hl
  have hrc := R.hr
  have HLEN := Lib.hid R.length
  have hln : len ≤ 1000 := by rw [← R.length]; exact hlen
  have hmm := @run_makeMap_hint
  have HR := Lib.hid R
  clear R hlen
  go_enter Try.func40, Try.ntmps40
  go_wp2
  go_loopw [11] (fun i wr => ∃ k : Nat, k ≤ len ∧ i = .int .i64 k ∧ wr.ownsMap Try.prog 9 (plainElem (H := H) Try.prog 3) w.heap.size k (Sg.posD l k) ∧ Below w.heap.size w wr ∧ w.heap.size < wr.heap.size) (fun i _ => len - (RowKit.intOf i).toNat)
  case atStart => exact ⟨0, Nat.zero_le _, rfl, World.ownsMap_made _ _ _ _, one_below w _, by simp⟩
  case round =>
    obtain ⟨k, hk, rfl, hown, hbw, hlt0⟩ := hrel
    by_cases hlt : k < len
    · obtain rfl := HR.out.hao (by omega)
      obtain ⟨d0, d1, d2, d3, d4, d5, hsub⟩ := HR.out.at hbw k hlt
      have hkl : k < l.length := by rw [HLEN.out]; exact hlt
      have hst := Sg.posD_step (H := H) l k hkl
      rw [HR.out.get k hlt] at hst
      have HST := Lib.hid hst
      have HKEY : Hid (keyOf Try.prog 9 (.string (nm k)) = some (.string (nm k).data.toList)) := Lib.hid (keyOf_string_mk Try.underlying9 (by have := HR.out.rn k hlt; unfold maxLen; omega))
      obtain ⟨a9, n9, m9, hsc⟩ := hsub.isSlice
      rw [hsc] at d4
      have HOWN := Lib.hid hown
      have HBW := Lib.hid hbw
      clear hst hsub hown hbw
      go_wp2_with (first
        | (at_mapUpdate; refine wpList_mapUpdate_own _ rfl _ _ _ 73 rfl 9 3 sgMap_law Try.underlying73 _ w.heap.size k _ rfl (HOWN.out.alloc _) (by unfold maxLen; omega) _ _ _ rfl rfl HKEY.out _ [] (plainElem_int Try.underlying3 (WalkArith.wf_i64 (by omega))) ?_; intro w1 hown1 hgrow1)
        | fail)
      go_roundw
      case rel =>
        have hb1 := (HBW.out.alloc (Nat.le_of_lt hlt0) (.cells #[.string (nm k), .int .i64 (oo k), .int .i64 (hh k), .int .i64 (kk k), .slice a9 n9 m9, .int .i64 (im k)] 40))
        refine ⟨k + 1, by omega, by go_num, ?_, hb1.grown hgrow1 hb1.size (fun j hj => by cases hj; exact Nat.le_refl _), ?_⟩
        · rw [HST.out]; exact hown1
        · have := hgrow1.size; simp at this; omega
      case measure => simp [RowKit.intOf]; omega
    · have HN : k = len := by omega
      subst HN
      go_wp2
      go_ret
      exact ⟨_, rfl, Nat.le_refl _, by rw [HLEN.out]; exact hown, hbw⟩
end Go.Proofs.Yteoheeddjddekaa
