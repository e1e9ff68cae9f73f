/- The contracts of maps.Keys and slices.Sorted at the map that term.numbers makes. -/
import Derived.Test.YteoheeddjddekaaKeysP
import Derived.Test.YteoheeddjddekaaTmInts
namespace Go.Proofs.Yteoheeddjddekaa
open Go.RowKit Go.Maps Go.Sort Go.Shelf
set_option linter.unusedSimpArgs false
set_option linter.unusedVariables false

theorem sortsK (m : Nat) : AnyZI.SortsIn Try.prog Try.sortedA_ren Fence.wide m :=
  ⟨fun blk off cap ss W hH hblk hsz => callsIn_wide.2 (AnyM.slices_Sort_int Try.sortA blk off cap ss W hH hblk hsz),
   fun p cap W => callsIn_wide.2 (AnyM.slices_Sort_int_none Try.sortA p cap W)⟩

theorem keys_any (mb : Option Nat) (W : World) : Calls Try.prog 74 #[.map mb] W fun e w' => e = .returned (.func (.func 90) #[] #[.pointer (some ⟨W.heap.size, 0, none⟩)]) ∧ w' = W.alloc (.cells #[.map mb] 100) :=
  (callsIn_wide (n := 5)).1 (AnyZI.keys_in Try.keysA Fence.wide 5 trivial rfl mb W)

/-- the keys of a set of numbers, sorted: the numbers put in one by one -/
theorem sorted_any {H : Type} (Bm b nn : Nat) (xs : List Int) (W : World) (hBm : W.cell? ⟨Bm, 0, none⟩ = some (.map (some b))) (hn : xs.length ≤ 100000)
    (hown : W.ownsMap Try.prog 3 (plainElem (H := H) Try.prog 4) b nn (setOf (.lit (.bool true)) (xs.map (Lit.int .i64)))) :
    Calls Try.prog 73 #[.func (.func 90) #[] #[.pointer (some ⟨Bm, 0, none⟩)]] W fun e w' => ∃ v, e = .returned v ∧ Ints w' v (Tm.insL [] xs) ∧ Below W.heap.size W w' := by
  have hkl : ∀ x ∈ xs.map (Lit.int .i64), WideAt.IsKeyLit x := by
    intro x hx'
    obtain ⟨a, ha, rfl⟩ := List.mem_map.1 hx'
    exact trivial
  obtain ⟨es, hD, hpw, _⟩ := hown.entries (int_keyed Try.underlying3)
  obtain ⟨es', hD', hko⟩ := hown.keysOf
  obtain rfl : es = es' := by rw [hD] at hD'; simpa using hD'
  have hk : ∀ p ∈ es, ∃ x, p.1 = .int .i64 x := fun p hp => by obtain ⟨v, hv⟩ := hko p hp; obtain ⟨x, _, hx, _⟩ := Maps.keyOf_i64 Try.underlying3 hv; exact ⟨x, hx⟩
  have hm : ∀ x, x ∈ xs ↔ has (.map es) (.int .i64 x) = true := by
    intro x
    rw [← hD, has_setOf _ _ _ hkl, List.any_eq_true]
    constructor
    · intro h
      exact ⟨.int .i64 x, List.mem_map.2 ⟨x, h, rfl⟩, by simp [Lit.sameKey]⟩
    · rintro ⟨y, hy, he⟩
      obtain ⟨a, ha, rfl⟩ := List.mem_map.1 hy
      have : a = x := by simpa [Lit.sameKey] using he
      rwa [← this]
  have hsz : Maps.size (setOf (.lit (.bool true) : DataW H) (xs.map (Lit.int .i64))) ≤ 100000 := by
    have hle : ∀ (ys : List Int) (m : DataW H), Tidy m → Maps.size ((ys.map (Lit.int .i64)).foldl (fun m x => m.put x (.lit (.bool true))) m) ≤ Maps.size m + ys.length := by
      intro ys
      induction ys with
      | nil => intro m _; simp
      | cons y ys ih =>
        intro m ht
        have h1 := ih (m.put (.int .i64 y) (.lit (.bool true))) (ht.put (show WideAt.IsKeyLit (.int .i64 y) from trivial) _)
        have h2 := size_put ht (k := .int .i64 y) (.lit (.bool true))
        simp only [List.map_cons, List.foldl_cons, List.length_cons]
        split at h2 <;> omega
    have := hle xs (.map []) tidy_empty
    have e0 : Maps.size (.map [] : DataW H) = 0 := rfl
    unfold setOf
    omega
  have hseq := AnyZI.keys_gives (ρ := Try.keysA_ren) { Try.keysA with } Fence.wide 2 trivial rfl (by omega) Bm b nn _ W (World.block_lt_of_cell? W _ hBm) hBm hown
  have cS := (callsIn_wide (n := 5)).1 (AnyZI.sorted_in Try.sortedA Fence.wide 5 trivial trivial trivial trivial rfl (by omega) (sortsK _) (enters_of Try.func89 (by kernel_rfl) rfl) 90 #[.pointer (some ⟨Bm, 0, none⟩)] trivial (enters_of Try.func90 (by kernel_rfl) rfl) _ _ (by unfold maxLen; omega) (by omega) _ hseq)
  refine Calls.mono cS ?_
  rintro e w' ⟨v, ss, rfl, hS, hrow, _, hb⟩
  refine ⟨v, rfl, ?_, hb⟩
  rw [hD] at hS
  have hE := Tm.sorted_keys hpw hk hm hS
  have hl : (ss.mergeSort (fun x y => decide (x ≤ y))).length = ss.length := List.length_mergeSort _
  rw [hE] at hrow hl
  exact Ints.own hrow hl
/-- A call gives numbers and an error. -/
def NumE (w : World) (r : List Int × Int) (e : Ending) (w' : World) : Prop := ∃ v, e = .returned (.tuple #[v, .int .i64 r.2]) ∧ Ints w' v r.1 ∧ Below w.heap.size w w'
end Go.Proofs.Yteoheeddjddekaa
