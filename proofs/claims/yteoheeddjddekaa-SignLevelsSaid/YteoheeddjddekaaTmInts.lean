/- Slices of ints that are read: what they hold; the contracts of the law's numbers, of slices.Index and Contains. -/
import Derived.Test.YteoheeddjddekaaTmConP
import Derived.Test.YteoheeddjddekaaTmGc
import Derived.Test.YteoheeddjddekaaTmGb
namespace Go.Proofs.Yteoheeddjddekaa
open Go.RowKit
set_option linter.unusedSimpArgs false
set_option linter.unusedVariables false

/-- the value v is a slice that reads as the numbers xs -/
structure IntsAt (w : World) (v : Value) (ao : Option Addr) (b off len cap : Nat) (xs : List Int) : Prop where
  hv : v = .slice ao len cap
  hlen : xs.length = len
  hao : 0 < len → ao = some ⟨b, off, none⟩
  hl : len ≤ cap
  hr : cap ≤ 9223372036854775807
  cells : ∀ i (h : i < xs.length), w.cell? ⟨b, off + i, none⟩ = some (.int .i64 xs[i])
def Ints (w : World) (v : Value) (xs : List Int) : Prop := ∃ ao b off len cap, IntsAt w v ao b off len cap xs

section
variable {w w' : World} {v : Value} {xs ys : List Int}
theorem Ints.below (h : Ints w v xs) (hb : Below w.heap.size w w') : Ints w' v xs := by
  obtain ⟨ao, b, off, len, cap, h⟩ := h
  exact ⟨ao, b, off, len, cap, h.hv, h.hlen, h.hao, h.hl, h.hr, fun i hi => kept_cell hb (h.cells i hi)⟩
theorem Ints.nil (w : World) : Ints w (.slice none 0 0) [] := ⟨none, 0, 0, 0, 0, rfl, rfl, fun h => absurd h (by omega), Nat.le_refl _, by omega, fun i h => absurd h (by simp)⟩
theorem Ints.own {base n : Nat} {e : TypeId} (h : w.ownsRow base e 1 v n (xs.map (Value.int .i64))) (hn : xs.length = n) : Ints w v xs := by
  rcases h.2 with ⟨rfl, h0⟩ | ⟨g, cap, cur, rfl, hb, hh, hle, hmx, hsz, htk⟩
  · have : xs = [] := List.eq_nil_of_length_eq_zero (by omega)
    subst this; exact Ints.nil w
  · refine ⟨_, g, 0, n, cap, rfl, hn, fun _ => rfl, hle, by unfold maxLen at hmx; exact hmx, fun i hi => ?_⟩
    have hc := @World.ownsRow.cells w base e 1 _ n _ h g rfl i (.int .i64 xs[i]) (by simp [hi])
    rw [Addr.add_lit] at hc
    exact hc
end

/-- what slices.Index answers -/
def SomeIdx (w : World) (xs : List Int) (n : Int) (e : Ending) (w' : World) : Prop := ∃ r : Int, e = .returned (.int .i64 r) ∧ -1 ≤ r ∧ r ≤ 9223372036854775807 ∧ (0 ≤ r ↔ n ∈ xs) ∧ w = w'

set_option maxHeartbeats 1000000 in
set_option maxRecDepth 100000 in
theorem index_any (v : Value) (xs : List Int) (n : Int) (w : World) (hv : Ints w v xs) : Calls Try.prog 81 #[v, .int .i64 n] w (SomeIdx w xs n) := by
  obtain ⟨ao, b, off, len, cap, rfl, hlen, hao, hl, hr, hc⟩ := hv
  have HL := Lib.hid hlen
  have HC := Lib.hid hc
  have hl2 : len ≤ 9223372036854775807 := by omega
  clear hlen hc
  go_enter Try.func81, Try.ntmps81
  go_wp2
  go_loop [8] (fun i => ∃ k : Nat, k ≤ len ∧ i = .int .i64 k ∧ n ∉ xs.take k) (fun i => len - (RowKit.intOf i).toNat)
  case atStart => exact ⟨0, Nat.zero_le _, rfl, by simp⟩
  case round =>
    obtain ⟨k, hk, rfl, hno⟩ := hrel
    have HNO := Lib.hid hno
    clear hno
    by_cases hlt : k < len
    · obtain rfl := hao (by omega)
      have hkx : k < xs.length := by rw [HL.out]; exact hlt
      have hck := HC.out k hkx
      obtain ⟨y, hy⟩ : ∃ y, y = xs[k] := ⟨_, rfl⟩
      rw [← hy] at hck
      have HY := Lib.hid hy
      clear hy
      have hk0 : (0 : Int) ≤ (k : Int) := by omega
      have hk1 : (k : Int) < (len : Int) := by omega
      by_cases hn : n = y
      · subst hn
        go_wp2
        go_ret
        refine ⟨k, rfl, by omega, by omega, ⟨fun _ => ?_, fun _ => by omega⟩, rfl⟩
        rw [HY.out]; exact List.getElem_mem _
      · have hb : (n == y) = false := by rw [beq_eq_false_iff_ne]; exact hn
        go_wp2
        go_round
        case rel =>
          refine ⟨k + 1, by omega, by go_num, ?_⟩
          rw [List.take_succ_eq_append_getElem hkx, List.mem_append, List.mem_singleton, ← HY.out]
          rintro (h | h)
          · exact HNO.out h
          · exact hn h
        case measure => simp [RowKit.intOf]; omega
    · obtain rfl : k = len := by omega
      go_wp2
      go_ret
      refine ⟨-1, rfl, by omega, by omega, ⟨fun h => absurd h (by omega), fun h => ?_⟩, rfl⟩
      have := HNO.out
      rw [List.take_of_length_le (by rw [HL.out]; exact Nat.le_refl _)] at this
      exact absurd h this

theorem contains_end {xs : List Int} {n r : Int} (h : 0 ≤ r ↔ n ∈ xs) : Ending.returned (.bool (decide (0 ≤ r))) = .returned (.bool (decide (n ∈ xs))) := by
  rw [decide_eq_decide.2 h]

set_option maxHeartbeats 1000000 in
set_option maxRecDepth 100000 in
theorem contains_any (v : Value) (xs : List Int) (n : Int) (w : World) (hv : Ints w v xs) : Calls Try.prog 60 #[v, .int .i64 n] w fun e w' => e = .returned (.bool (decide (n ∈ xs))) ∧ w = w' := by
  have call := index_any v xs n w hv
  obtain ⟨ao, b, off, len, cap, rfl, _⟩ := hv
  go_enter Try.func60, Try.ntmps60
  go_wp2_with (go_at_call 81; (with_reducible refine call.mono ?_); rintro e w1 ⟨r, rfl, hr0, hr1, hr2, rfl⟩; have HR := Lib.hid hr2; clear hr2)
  go_ret
  exact ⟨contains_end HR.out, rfl⟩

theorem numbers_eq {xs ys : List Int} {k : Nat} (hl : xs.length = ys.length) (hk : xs.length ≤ k) (h : xs.take k = ys.take k) : xs = ys := by
  rwa [List.take_of_length_le hk, List.take_of_length_le (by omega)] at h
theorem numbers_no {xs ys : List Int} {k : Nat} {y z : Int} (hx : k < xs.length) (hy : k < ys.length) (ey : y = xs[k]) (ez : z = ys[k]) (h : ¬ y = z) : Ending.returned (.bool false) = .returned (.bool (decide (xs = ys))) := by
  rw [decide_eq_false]
  intro e
  subst e
  exact h (ey.trans ez.symm)
theorem numbers_not {xs ys : List Int} (h : decide (xs = ys) = false) : Ending.returned (.bool false) = .returned (.bool (decide (xs = ys))) := by rw [h]
theorem numbers_yes {xs ys : List Int} (h : xs = ys) : Ending.returned (.bool true) = .returned (.bool (decide (xs = ys))) := by rw [decide_eq_true h]
theorem take_step {xs ys : List Int} {k : Nat} (hx : k < xs.length) (hy : k < ys.length) (h : xs.take k = ys.take k) (e : xs[k] = ys[k]) : xs.take (k + 1) = ys.take (k + 1) := by
  rw [List.take_succ_eq_append_getElem hx, List.take_succ_eq_append_getElem hy, h, e]

end Go.Proofs.Yteoheeddjddekaa
