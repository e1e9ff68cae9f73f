/- The law's own helpers: con, arrow, nat, numbers. -/
import Derived.Test.YteoheeddjddekaaSgB3
import Derived.Test.YteoheeddjddekaaSgA3
import Derived.BigQuiet
namespace Go.Proofs.Yteoheeddjddekaa
open Go.RowKit
set_option linter.unusedSimpArgs false
set_option linter.unusedVariables false

set_option maxHeartbeats 1000000 in
set_option maxRecDepth 100000 in
theorem numbers_any (v u : Value) (xs ys : List Int) (w : World) (hv : Ints w v xs) (hu : Ints w u ys) : Calls Try.prog 32 #[v, u] w fun e w' => e = .returned (.bool (decide (xs = ys))) ∧ Below w.heap.size w w' := by
  obtain ⟨ao, b, off, len, cap, rfl, hlen, hao, hl, hr, hc⟩ := hv
  obtain ⟨ao', b', off', len', cap', rfl, hlen', hao', hl', hr', hc'⟩ := hu
  have HL := Lib.hid hlen
  have HC := Lib.hid hc
  have HL' := Lib.hid hlen'
  have HC' := Lib.hid hc'
  have hl2 : len ≤ 9223372036854775807 := by omega
  have hl3 : len' ≤ 9223372036854775807 := by omega
  by_cases hll : len = len'
  · subst hll
    clear hlen hc hlen' hc'
    go_enter Try.func32, Try.ntmps32
    go_wp2
    go_loopw [13] (fun i wr => ∃ k : Nat, k ≤ len ∧ i = .int .i64 k ∧ xs.take k = ys.take k ∧ Below w.heap.size w wr) (fun i _ => len - (RowKit.intOf i).toNat)
    case atStart => exact ⟨0, Nat.zero_le _, rfl, by simp, Below.refl _ _⟩
    case round =>
      obtain ⟨k, hk, rfl, hno, hbr⟩ := hrel
      have HNO := Lib.hid hno
      clear hno
      by_cases hlt : k < len
      · obtain rfl := hao (by omega)
        obtain rfl := hao' (by omega)
        have hkx : k < xs.length := by rw [HL.out]; exact hlt
        have hky : k < ys.length := by rw [HL'.out]; exact hlt
        have hck := kept_cell hbr (HC.out k hkx)
        have hck' := kept_cell hbr (HC'.out k hky)
        obtain ⟨y, hy⟩ : ∃ y, y = xs[k] := ⟨_, rfl⟩
        obtain ⟨z, hz⟩ : ∃ z, z = ys[k] := ⟨_, rfl⟩
        rw [← hy] at hck
        rw [← hz] at hck'
        have HY := Lib.hid hy
        have HZ := Lib.hid hz
        clear hy hz
        have hk0 : (0 : Int) ≤ (k : Int) := by omega
        have hk1 : (k : Int) < (len : Int) := by omega
        by_cases hn : y = z
        · subst hn
          go_wp2
          go_quiet (fail)
          go_wp2
          go_roundw
          case rel => exact ⟨k + 1, by omega, by go_num, take_step hkx hky HNO.out (by rw [← HY.out, ← HZ.out]), below_drawn hbr _⟩
          case measure => simp [RowKit.intOf]; omega
        · have hb : (y != z) = true := by simpa using hn
          have hb1 : (y == z) = false := by rw [beq_eq_false_iff_ne]; exact hn
          go_wp2
          go_quiet (fail)
          go_wp2
          go_ret
          exact ⟨numbers_no hkx hky HY.out HZ.out hn, below_drawn hbr _⟩
      · obtain rfl : k = len := by omega
        go_wp2
        go_ret
        exact ⟨numbers_yes (numbers_eq (by rw [HL.out, HL'.out]) (by rw [HL.out]; exact Nat.le_refl _) HNO.out), hbr⟩
  · have hE : Hid (decide (xs = ys) = false) := by
      show _ = _
      rw [decide_eq_false_iff_not]; intro h; subst h; omega
    have hb : ((len : Int) != (len' : Int)) = true := by simp; omega
    clear hlen hc hlen' hc'
    go_enter Try.func32, Try.ntmps32
    go_wp2
    go_ret
    exact ⟨numbers_not hE.out, Below.refl _ _⟩

set_option maxHeartbeats 1000000 in
set_option maxRecDepth 100000 in
theorem con_any (n : Int) (a2 : Option Addr) (n2 m2 : Nat) (w : World) :
    Calls Try.prog 23 #[.int .i64 n, .slice a2 n2 m2] w fun e w' => e = .returned (.agg #[.int .i64 4, .int .i64 2, .int .i64 n, .slice a2 n2 m2]) ∧ Below w.heap.size w w' := by
  go_enter Try.func23, Try.ntmps23
  go_wp2
  exact bodyPost_ret (v := .agg #[.int .i64 4, .int .i64 2, .int .i64 n, .slice a2 n2 m2]) (by simp [results, Try.results23, go_sem]) rfl ⟨rfl, one_below w _⟩

set_option maxHeartbeats 1000000 in
set_option maxRecDepth 100000 in
theorem arrow0_any (w : World) :
    Calls Try.prog 58 #[.agg #[.int .i64 4, .int .i64 2, .int .i64 0, .slice none 0 0], .agg #[.int .i64 4, .int .i64 2, .int .i64 0, .slice none 0 0]] w fun e w' =>
      ∃ g, e = .returned (.agg #[.int .i64 2, .int .i64 0, .int .i64 0, .slice (some ⟨g, 0, none⟩) 2 2]) ∧ Below w.heap.size w w' ∧ w'.heap[g]? = some (.cells #[.int .i64 4, .int .i64 2, .int .i64 0, .slice none 0 0, .int .i64 4, .int .i64 2, .int .i64 0, .slice none 0 0] 25 (0, 0)) := by
  go_enter Try.func58, Try.ntmps58
  go_wp2
  have h4 := four_blocks w #[.int .i64 4, .int .i64 2, .int .i64 0, .slice none 0 0] #[.int .i64 4, .int .i64 2, .int .i64 0, .slice none 0 0] #[.int .i64 2, .int .i64 0, .int .i64 0, .slice (some ⟨w.heap.size + 1 + 1 + 1, 0, none⟩) 2 2] #[.int .i64 4, .int .i64 2, .int .i64 0, .slice none 0 0, .int .i64 4, .int .i64 2, .int .i64 0, .slice none 0 0] 25 25 25 25
  exact bodyPost_ret (v := .agg #[.int .i64 2, .int .i64 0, .int .i64 0, .slice (some ⟨w.heap.size + 1 + 1 + 1, 0, none⟩) 2 2]) (by simp [results, Try.results58, go_sem]) rfl ⟨_, rfl, h4.2.2.2.2.1, h4.2.2.2.1⟩

/-- the signature of the first example -/
def natL : List Dc := [⟨⟨#[110, 97, 116]⟩, .mk 1 0 0 [], 0⟩, ⟨⟨#[122]⟩, .mk 4 2 0 [], 0⟩, ⟨⟨#[115]⟩, .mk 2 0 0 [.mk 4 2 0 [], .mk 4 2 0 []], 0⟩]
/-- a signature that is handed back, wherever it lies -/
def GivesD0 (w : World) (l : List Dc) (e : Ending) (w' : World) : Prop := ∃ a, e = .returned a ∧ Below w.heap.size w w' ∧ DLies w' (fun _ => True) a l

theorem nat_lies {W : World} {g q : Nat} (hq : W.heap[q]? = some (.cells #[.int .i64 4, .int .i64 2, .int .i64 0, .slice none 0 0, .int .i64 4, .int .i64 2, .int .i64 0, .slice none 0 0] 25 (0, 0)))
    (hg : W.heap[g]? = some (.cells #[.string ⟨#[110, 97, 116]⟩, .int .i64 1, .int .i64 0, .int .i64 0, .slice none 0 0, .int .i64 0, .string ⟨#[122]⟩, .int .i64 4, .int .i64 2, .int .i64 0, .slice none 0 0, .int .i64 0, .string ⟨#[115]⟩, .int .i64 2, .int .i64 0, .int .i64 0, .slice (some ⟨q, 0, none⟩) 2 2, .int .i64 0] 40 (0, 0))) :
    DLies W (fun _ => True) (.slice (some ⟨g, 0, none⟩) 3 3) natL := by
  have hL : Lies W (fun _ => True) (.slice (some ⟨q, 0, none⟩) 2 2) [.mk 4 2 0 [], .mk 4 2 0 []] := by
    have row := Lies.row (w := W) (S := fun _ => True) (some ⟨q, 0, none⟩) q 0 2 2 (fun _ => 4) (fun _ => 2) (fun _ => 0) (fun _ => .slice none 0 0) (fun _ => []) (fun _ => rfl) (fun _ => trivial) (Nat.le_refl _) (by omega)
      (fun i hi => by rcases (by omega : i = 0 ∨ i = 1) with rfl | rfl <;> exact cell_in hq _ _ rfl) (fun i hi => by rcases (by omega : i = 0 ∨ i = 1) with rfl | rfl <;> exact cell_in hq _ _ rfl)
      (fun i hi => by rcases (by omega : i = 0 ∨ i = 1) with rfl | rfl <;> exact cell_in hq _ _ rfl) (fun i hi => by rcases (by omega : i = 0 ∨ i = 1) with rfl | rfl <;> exact cell_in hq _ _ rfl)
      (fun i hi => by omega) (fun i hi => by omega) (fun i hi => by omega) (fun i hi => Lies.nil _ _)
    exact row
  refine DLies.of (g := g) (off := 0) natL [.slice none 0 0, .slice none 0 0, .slice (some ⟨q, 0, none⟩) 2 2] rfl rfl (fun _ => trivial) (by omega) (by omega) (fun k h h' => ?_) (fun d hd => ?_) (fun k h h' => ?_)
  · have h3 : k < 3 := h
    rcases (by omega : k = 0 ∨ k = 1 ∨ k = 2) with rfl | rfl | rfl
    all_goals exact ⟨cell_in hg _ _ rfl, cell_in hg _ _ rfl, cell_in hg _ _ rfl, cell_in hg _ _ rfl, cell_in hg _ _ rfl, cell_in hg _ _ rfl⟩
  · have hz : ∀ n : Int, n = 0 ∨ n = 1 ∨ n = 2 ∨ n = 4 → I64 n := fun n h => ⟨by omega, by omega⟩
    simp only [natL, List.mem_cons, List.not_mem_nil, or_false] at hd
    rcases hd with rfl | rfl | rfl
    · exact ⟨by decide, ⟨hz _ (by simp [Tm.op]), hz _ (by simp [Tm.hd]), hz _ (by simp [Tm.n])⟩, hz _ (by simp)⟩
    · exact ⟨by decide, ⟨hz _ (by simp [Tm.op]), hz _ (by simp [Tm.hd]), hz _ (by simp [Tm.n])⟩, hz _ (by simp)⟩
    · exact ⟨by decide, ⟨hz _ (by simp [Tm.op]), hz _ (by simp [Tm.hd]), hz _ (by simp [Tm.n])⟩, hz _ (by simp)⟩
  · have h3 : k < 3 := h
    rcases (by omega : k = 0 ∨ k = 1 ∨ k = 2) with rfl | rfl | rfl
    · exact Lies.nil _ _
    · exact Lies.nil _ _
    · exact hL

set_option maxHeartbeats 2000000 in
set_option maxRecDepth 100000 in
theorem nat_any (w : World) : Calls Try.prog 31 #[] w (GivesD0 w natL) := by
  go_enter Try.func31, Try.ntmps31
  go_wp2_with fail
  refine (con_any 0 none 0 0 _).mono ?_
  rintro e w1 ⟨rfl, hb1⟩
  have HB1 := Lib.hid hb1
  clear hb1
  go_wp2_with fail
  refine (con_any 0 none 0 0 _).mono ?_
  rintro e w2 ⟨rfl, hb2⟩
  have HB2 := Lib.hid (below_next HB1.out hb2)
  clear hb2
  go_wp2_with fail
  refine (con_any 0 none 0 0 _).mono ?_
  rintro e w3 ⟨rfl, hb3⟩
  have HB3 := Lib.hid (below_next HB2.out hb3)
  clear hb3
  go_wp2_with fail
  refine (arrow0_any _).mono ?_
  rintro e w4 ⟨q, rfl, hb4, hq⟩
  have HB4 := Lib.hid (below_next HB3.out hb4)
  have HQ := Lib.hid hq
  clear hb4 hq
  go_wp2_with fail
  go_ret
  have hba := one_below w4 (.cells #[.string ⟨#[110, 97, 116]⟩, .int .i64 1, .int .i64 0, .int .i64 0, .slice none 0 0, .int .i64 0, .string ⟨#[122]⟩, .int .i64 4, .int .i64 2, .int .i64 0, .slice none 0 0, .int .i64 0, .string ⟨#[115]⟩, .int .i64 2, .int .i64 0, .int .i64 0, .slice (some ⟨q, 0, none⟩) 2 2, .int .i64 0] 40)
  exact ⟨_, rfl, below_next HB4.out hba, nat_lies (heap_kept hba HQ.out) (heap_alloc_new w4 _)⟩

/-- the argument of the last example -/
def natT : Tm := .mk 4 2 2 [.mk 4 2 1 []]
theorem nat_of : ofOut natL 0 = ([1, 2], 0) := by decide +kernel
theorem nat_target : tarOut natL 2 = (0, 0) := by decide +kernel
theorem nat_level : levOut natL natT = (3, 0) := by decide +kernel
theorem nat_swap0 : (swapOut natL 0).2 = 27 := by decide +kernel
theorem nat_swap1 : (swapOut natL 1).2 = 0 ∧ (swapOut natL 1).1.length = 3 ∧ ((swapOut natL 1).1.map Dc.nm)[1]? = some ⟨#[115]⟩ := by decide +kernel
end Go.Proofs.Yteoheeddjddekaa
