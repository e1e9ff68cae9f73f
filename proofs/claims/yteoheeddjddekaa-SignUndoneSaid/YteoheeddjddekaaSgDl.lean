/- slices.Delete of one constant. -/
import Derived.Test.YteoheeddjddekaaSgWo
import Derived.Deep.RegionLaw
import Derived.Laws.IdiomCopy
namespace Go.Proofs.Yteoheeddjddekaa
open Go.RowKit Go.Shelf
set_option linter.unusedSimpArgs false
set_option linter.unusedVariables false

def zero6 : List Value := [.string ⟨#[]⟩, .int .i64 0, .int .i64 0, .int .i64 0, .slice none 0 0, .int .i64 0]
/-- the cells behind the constant i -/
def behind (xs : List Value) (i n : Nat) : List Value := (xs.drop ((i + 1) * 6)).take ((n - (i + 1)) * 6)

theorem zeroDc (w : World) : (zeroValue 40).run Try.prog w = .ok (.agg #[.string ⟨#[]⟩, .int .i64 0, .int .i64 0, .int .i64 0, .slice none 0 0, .int .i64 0]) w := by kernel_rfl

theorem run_clear_one {P : Program} (w : World) (t e ty : TypeId) (z : Value) (ht : P.underlying t = some (.slice e)) (hv : ∀ w, (zeroValue e).run P w = .ok z w) (h1 : ∀ u ∈ z.cells.toList, u.oneCell' = true) (b o c : Nat)
    (hc : ∀ j, j < z.cells.size → (w.cell? ⟨b, o + j, none⟩).isSome = true) (hf : ∀ j, j < z.cells.size → w.frozen? ⟨b, o + j, none⟩ = false) :
    (Builtin.clear_ #[t] ty #[.slice (some ⟨b, o, none⟩) 1 c]).run P w = .ok (.tuple #[]) (w.setCells b o z.cells.toList) := by
  have hzc : (Builtin.zeroCells z.cells 1).toList = z.cells.toList := by
    apply List.ext_getElem
    · simp [Builtin.zeroCells]
    · intro i h1 h2
      simp at h2
      simp [Builtin.zeroCells, Nat.mod_eq_of_lt h2]
      exact getElem!_pos z.cells i h2
  have hst := run_storeCells_cells (P := P) b o z.cells.toList 0 w (by simpa using hc) (by simpa using hf) h1
  simp only [Nat.add_zero] at hst
  simp [Builtin.clear_, run_underlying ht, hv, hzc, hst, Result.andThen]

set_option maxHeartbeats 4000000 in
set_option maxRecDepth 100000 in
theorem delete_any (g n cap i : Nat) (xs : List Value) (w : World) (hi : i < n) (hn : n ≤ 100) (hcap : n ≤ cap) (hm : cap ≤ 9223372036854775807) (hlen : xs.length = n * 6)
    (hc : ∀ j u, xs[j]? = some u → w.cell? ⟨g, j, none⟩ = some u) (hf : ∀ j, j < n * 6 → w.frozen? ⟨g, j, none⟩ = false) (hone : ∀ u ∈ xs, u.oneCell' = true) :
    Calls Try.prog 50 #[.slice (some ⟨g, 0, none⟩) n cap, .int .i64 (i : Int), .int .i64 ((i : Int) + 1)] w fun e w' =>
      e = .returned (.slice (some ⟨g, 0, none⟩) (n - 1) cap) ∧ ∃ W, (W = w ∨ W = w.drew) ∧ w' = (W.setCells g (i * 6) (behind xs i n)).setCells g ((n - 1) * 6) zero6 := by
  obtain ⟨i0, hi0, hz0, hz1, hz2⟩ := info_parts dc_info
  have hbl : (behind xs i n).length = (n - (i + 1)) * 6 := by unfold behind; rw [List.length_take, List.length_drop, hlen]; omega
  have hget : ∀ t u, (behind xs i n)[t]? = some u → t < (n - (i + 1)) * 6 ∧ xs[(i + 1) * 6 + t]? = some u := fun t u h => by
    have ht : t < (n - (i + 1)) * 6 := by rw [← hbl]; exact (List.getElem?_eq_some_iff.1 h).1
    refine ⟨ht, ?_⟩
    unfold behind at h
    rw [List.getElem?_take_of_lt ht, List.getElem?_drop] at h
    exact h
  have hsome : ∀ j, j < n * 6 → (w.cell? ⟨g, j, none⟩).isSome = true := fun j hj => by
    rw [hc j _ (List.getElem?_eq_getElem (by omega))]; rfl
  obtain ⟨A, hA, hsrc⟩ : ∃ A : Addr, (if cap = i + 1 then some (⟨g, 0, none⟩ : Addr) else some ⟨g, (i + 1) * 6, none⟩) = some A ∧ Hid (∀ t u, (behind xs i n)[t]? = some u → w.drew.cell? (A.add t) = some u) := by
    by_cases h : cap = i + 1
    · refine ⟨⟨g, 0, none⟩, by simp [h], fun t u hu => ?_⟩
      have := (hget t u hu).1
      omega
    · refine ⟨⟨g, (i + 1) * 6, none⟩, by simp [h], fun t u hu => ?_⟩
      rw [Addr.add_lit]
      exact hc _ _ (hget t u hu).2
  have s1 : Hid ((behind xs i n).length = (n - (i + 1)) * 6) := hbl
  have s2 : Hid (∀ u ∈ behind xs i n, u.oneCell' = true) := fun u hu => hone u (List.mem_of_mem_drop (List.mem_of_mem_take hu))
  have s3 : Hid (∀ t, t < (behind xs i n).length → (w.drew.cell? ⟨g, 0 + i * 6 + t, none⟩).isSome = true ∧ w.drew.frozen? ⟨g, 0 + i * 6 + t, none⟩ = false) := by
    intro t ht
    rw [hbl] at ht
    rw [Nat.zero_add]
    exact ⟨hsome (i * 6 + t) (by omega), hf (i * 6 + t) (by omega)⟩
  have hic : i ≤ cap := by omega
  have hp0 : (0 : Int) ≤ (i : Int) + 1 := by omega
  have hp1 : (i : Int) + 1 ≤ (n : Int) := by omega
  have hp2 : ((i : Int) + 1).toNat = i + 1 := by omega
  have hp3 : ((i : Int) == (i : Int) + 1) = false := by simp; omega
  have HCL : Hid (∀ ty, (Builtin.clear_ #[22] ty #[.slice (some ⟨g, (n - 1) * 6, none⟩) 1 (cap - (n - 1))]).run Try.prog (w.drew.setCells g (i * 6) (behind xs i n)) = .ok (.tuple #[]) ((w.drew.setCells g (i * 6) (behind xs i n)).setCells g ((n - 1) * 6) zero6)) := Lib.hid (fun ty => by
    refine run_clear_one _ _ 40 ty (.agg #[.string ⟨#[]⟩, .int .i64 0, .int .i64 0, .int .i64 0, .slice none 0 0, .int .i64 0]) Try.underlying22 zeroDc (by intro u hu; simp [Value.cells] at hu; rcases hu with rfl | rfl | rfl | rfl | rfl <;> rfl) g ((n - 1) * 6) _ (fun j hj => ?_) (fun j hj => ?_)
    · have hj6 : j < 6 := hj
      rw [World.cell?_setCells_out _ _ _ _ _ (fun _ _ => .inr (by rw [hbl]; show _ ≤ (n - 1) * 6 + j; omega))]
      exact hsome _ (by omega)
    · have hj6 : j < 6 := hj
      rw [World.frozen?_setCells]
      exact hf _ (by omega))
  have HC := Lib.hid hc
  have HF := Lib.hid hf
  have HS := Lib.hid hsome
  clear hc hf hsome hget hbl hone
  go_enter Try.func50, Try.ntmps50
  go_wp2_with fail
  go_region_law (refine step_append_room rfl (.tmp 22) (.tmp 25) 22 rfl 40 i0 6 Try.underlying22 hi0 hz1 g 0 i cap (by simp [Act.eval, Act.put]) A (n - (i + 1)) (cap - (i + 1)) (behind xs i n) (by simp [Act.eval, Act.put]) s1.out hsrc.out s2.out (by omega) s3.out ?_)
  rw [show i + (n - (i + 1)) = n - 1 by omega]
  try rw [show 0 + i * 6 = i * 6 by omega]
  have hk0 : (0 : Int) ≤ ((n - 1 : Nat) : Int) := by omega
  have hk1 : ((n - 1 : Nat) : Int) ≤ (n : Int) := by omega
  have hk2 : (n : Int) ≤ (cap : Int) := by omega
  have hk3 : ¬ cap = n - 1 := by omega
  have hk4 : n - (n - 1) = 1 := by omega
  have hk5 : n - 1 ≤ n := by omega
  clear hA hp3 hp0 hp1 hp2
  have hcl := HCL.out
  go_wp2_with fail
  go_ret
  exact ⟨rfl, _, .inr rfl, rfl⟩
end Go.Proofs.Yteoheeddjddekaa
