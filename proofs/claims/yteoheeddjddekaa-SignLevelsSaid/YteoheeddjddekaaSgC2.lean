/- The law's awake: the first examples come out. -/
import Derived.Test.YteoheeddjddekaaSgC1
namespace Go.Proofs.Yteoheeddjddekaa
open Go.RowKit
set_option linter.unusedSimpArgs false
set_option linter.unusedVariables false

theorem name_at {w : World} {S : Nat → Prop} {a : Value} {l : List Dc} {i n : Nat} {s : ByteArray} (h : DLies w S a l) (hl : l.length = n) (hi : i < n) (hs : (l.map Dc.nm)[i]? = some s) :
    ∃ b off cap, a = .slice (some ⟨b, off, none⟩) n cap ∧ n ≤ cap ∧ cap ≤ 9223372036854775807 ∧ w.cell? ⟨b, off + i * 6, none⟩ = some (.string s) := by
  obtain ⟨ao, b, off, len, cap, nm, o, hh, k, sv, ts, im, rfl, R⟩ := h
  have hlen := R.length
  obtain rfl : len = n := by omega
  obtain rfl := R.hao (by omega)
  refine ⟨b, off, cap, rfl, R.hl, R.hr, ?_⟩
  have hg := R.get i hi
  rw [List.getElem?_map, List.getElem?_eq_getElem (by omega), hg] at hs
  simp only [Option.map_some, Option.some.injEq] at hs
  rw [← hs]
  exact R.c0 i hi

set_option maxHeartbeats 4000000 in
set_option maxRecDepth 100000 in
theorem awake_any (w : World) : Calls Try.prog 11 #[] w fun e w' => e = .returned (.bool true) ∧ Below w.heap.size w w' := by
  go_enter Try.func11, Try.ntmps11
  go_wp2_with fail
  refine (nat_any _).mono ?_
  rintro e w1 ⟨a1, rfl, hb1, hl1⟩
  obtain ⟨p1, m1, rfl, -⟩ := hl1.isSlice
  have c2 := of_any natL 0 _ w1 hl1
  rw [nat_of] at c2
  have HB1 := Lib.hid hb1
  clear hb1 hl1
  go_wp2_with fail
  refine c2.mono ?_
  rintro e w2 ⟨v2, rfl, hi2, hb2⟩
  obtain ⟨p2, n2, m2, rfl⟩ := hi2.isSlice
  have HB2 := Lib.hid (below_next HB1.out hb2)
  have HI2 := Lib.hid hi2
  clear hb2 hi2 c2
  go_wp2_with fail
  refine (nat_any _).mono ?_
  rintro e w3 ⟨a3, rfl, hb3, hl3⟩
  obtain ⟨p3, m3, rfl, -⟩ := hl3.isSlice
  have c4 := target_any _ natL 2 _ w3 hl3
  rw [nat_target] at c4
  have HB3 := Lib.hid (below_next HB2.out hb3)
  have HI3 := Lib.hid (HI2.out.below hb3)
  clear hb3 hl3 HI2
  go_wp2_with fail
  refine c4.mono ?_
  rintro e w4 ⟨rfl, hb4⟩
  have HB4 := Lib.hid (below_next HB3.out hb4)
  have HI4 := Lib.hid (HI3.out.below hb4)
  clear hb4 HI3 c4
  go_wp2_with fail
  refine (nat_any _).mono ?_
  rintro e w5 ⟨a5, rfl, hb5, hl5⟩
  obtain ⟨p5, m5, rfl, -⟩ := hl5.isSlice
  have c6 := swap_any natL 1 _ w5 hl5
  have HB5 := Lib.hid (below_next HB4.out hb5)
  have HI5 := Lib.hid (HI4.out.below hb5)
  clear hb5 hl5 HI4
  go_wp2_with fail
  refine c6.mono ?_
  rintro e w6 ⟨a6, rfl, hb6, hl6⟩
  rw [nat_swap1.1]
  obtain ⟨bs, os, ms, rfl, hms, hmc, hcs⟩ := name_at hl6 nat_swap1.2.1 (by omega) nat_swap1.2.2
  have HB6 := Lib.hid (below_next HB5.out hb6)
  have HI6 := Lib.hid (HI5.out.below hb6)
  have HS6 := Lib.hid hcs
  clear hb6 hl6 HI5 c6 hcs
  go_wp2_with fail
  refine (nat_any _).mono ?_
  rintro e w7 ⟨a7, rfl, hb7, hl7⟩
  obtain ⟨p7, m7, rfl, -⟩ := hl7.isSlice
  have c8 := swap_any natL 0 _ w7 hl7
  have HB7 := Lib.hid (below_next HB6.out hb7)
  have HI7 := Lib.hid (HI6.out.below hb7)
  have HS7 := Lib.hid (kept_cell hb7 HS6.out)
  clear hb7 hl7 HI6 HS6
  go_wp2_with fail
  refine c8.mono ?_
  rintro e w8 ⟨a8, rfl, hb8, hl8⟩
  rw [nat_swap0]
  obtain ⟨p8, m8, rfl, -⟩ := hl8.isSlice
  have HB8 := Lib.hid (below_next HB7.out hb8)
  have HI8 := Lib.hid (HI7.out.below hb8)
  have HS8 := Lib.hid (kept_cell hb8 HS7.out)
  clear hb8 hl8 HI7 HS7 c8
  generalize (swapOut natL 0).1.length = q8 at *
  go_wp2_with fail
  refine (nat_any _).mono ?_
  rintro e w9 ⟨a9, rfl, hb9, hl9⟩
  obtain ⟨p9, m9, rfl, -⟩ := hl9.isSlice
  have HB9 := Lib.hid (below_next HB8.out hb9)
  have HI9 := Lib.hid (HI8.out.below hb9)
  have HS9 := Lib.hid (kept_cell hb9 HS8.out)
  have HL9 := Lib.hid hl9
  clear hb9 hl9 HI8 HS8
  go_wp2_with fail
  refine (con_any 1 none 0 0 _).mono ?_
  rintro e w10 ⟨rfl, hb10⟩
  have hba := one_below w10 (.cells #[.int .i64 4, .int .i64 2, .int .i64 1, .slice none 0 0] 25)
  have hb10' := below_next hb10 hba
  have HB10 := Lib.hid (below_next HB9.out hb10')
  have HI10 := Lib.hid (HI9.out.below hb10')
  have HS10 := Lib.hid (kept_cell hb10' HS9.out)
  have HL10 := Lib.hid (HL9.out.keep hb10')
  have HT10 := Lib.hid (Lies.one (S := fun _ => True) (heap_alloc_new w10 (.cells #[.int .i64 4, .int .i64 2, .int .i64 1, .slice none 0 0] 25)) trivial (i64_small (by omega) (by omega)) (i64_small (by omega) (by omega)) (i64_small (by omega) (by omega)) (Lies.nil _ _))
  clear hb10 hb10' hba HI9 HS9 HL9
  go_wp2_with fail
  refine (con_any 2 (some _) 1 1 _).mono ?_
  rintro e w11 ⟨rfl, hb11⟩
  have HB11 := Lib.hid (below_next HB10.out hb11)
  have HI11 := Lib.hid (HI10.out.below hb11)
  have HS11 := Lib.hid (kept_cell hb11 HS10.out)
  have c12 := level_any natL natT _ _ w11 (HL10.out.keep hb11) (HT10.out.keep hb11)
  rw [nat_level] at c12
  simp only [natT, Tm.op, Tm.hd, Tm.n] at c12
  clear hb11 HI10 HS10 HL10 HT10
  go_wp2_with fail
  refine c12.mono ?_
  rintro e w12 ⟨rfl, hb12⟩
  have HB12 := Lib.hid (below_next HB11.out hb12)
  have HI12 := Lib.hid (HI11.out.below hb12)
  have hcs := kept_cell hb12 HS11.out
  have hba := one_below w12 (.cells #[.int .i64 1, .int .i64 2] 3)
  have hnew := heap_alloc_new w12 (.cells #[.int .i64 1, .int .i64 2] 3)
  have hi12 : Ints (w12.alloc (.cells #[.int .i64 1, .int .i64 2] 3)) (.slice (some ⟨w12.heap.size, 0, none⟩) 2 2) [1, 2] := by
    refine ⟨_, w12.heap.size, 0, 2, 2, rfl, rfl, fun _ => rfl, Nat.le_refl _, by omega, fun i hi => ?_⟩
    have h2 : i < 2 := hi
    rcases (by omega : i = 0 ∨ i = 1) with rfl | rfl
    · exact cell_in hnew 0 _ rfl
    · exact cell_in hnew 1 _ rfl
  have c13 := numbers_any _ _ _ _ _ (HI12.out.below hba) hi12
  simp only [decide_true] at c13
  have HBA := Lib.hid (below_next HB12.out hba)
  have hcs2 := kept_cell hba hcs
  clear hb12 hba hnew hi12 HI11 HS11 c12 hcs
  have hm3 : (1 : Int) < ((3 : Nat) : Int) := by omega
  go_wp2_with fail
  refine c13.mono ?_
  rintro e w13 ⟨rfl, hb13⟩
  have hcs3 := kept_cell hb13 hcs2
  have HB13 := Lib.hid (below_next HBA.out hb13)
  clear hb13 c13 hcs2
  go_wp2_with fail
  go_ret
  exact ⟨rfl, HB13.out⟩
end Go.Proofs.Yteoheeddjddekaa
