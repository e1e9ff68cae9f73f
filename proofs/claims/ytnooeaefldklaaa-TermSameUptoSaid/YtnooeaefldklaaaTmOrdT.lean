/- The contract of term.compare and of slices.CompareFunc over it: the order of two terms that lie in memory. -/
import Derived.Test.YtnooeaefldklaaaTmOrdR
namespace Go.Proofs.Ytnooeaefldklaaa
open Go.RowKit
set_option linter.unusedSimpArgs false
set_option linter.unusedVariables false

theorem Lies.lenOf {w : World} {S : Nat → Prop} {a : Option Addr} {n m : Nat} {l : List Tm} (h : Lies w S (.slice a n m) l) : l.length = n := by
  cases h
  simp
theorem or4_zero {s0 s1 s2 s3 : Int} (h : Tm.or4 s0 s1 s2 s3 0 = 0) (r : Int) : s3 = 0 ∧ Tm.or4 s0 s1 s2 s3 r = r := by
  simp only [Tm.or4, Tm.pick_eq] at h
  obtain ⟨rfl, rfl, rfl, rfl, _⟩ := h
  exact ⟨rfl, by simp [Tm.or4, Tm.pick]⟩
theorem or4_some {s0 s1 s2 s3 : Int} (h : Tm.or4 s0 s1 s2 s3 0 ≠ 0) (r : Int) : Tm.or4 s0 s1 s2 s3 r = Tm.or4 s0 s1 s2 s3 0 := by
  simp only [Tm.or4, Tm.pick] at *
  split
  · split
    · split
      · split
        · simp_all
        · rfl
      · rfl
    · rfl
  · rfl

set_option maxHeartbeats 4000000 in
set_option maxRecDepth 100000 in
theorem cmpT_walk (o h n o' h' n' : Int) (v v' : Value) (l l' : List Tm) (w : World) (hv : Lies w (fun _ => True) v l) (hv' : Lies w (fun _ => True) v' l')
    (hin : l.length = l'.length → ∀ w1, Below w.heap.size w w1 → Calls Try.prog 93 #[v, v', .func (.func 75) #[] #[]] w1 fun e w' => e = .returned (.int .i64 (Tm.ordL l l')) ∧ Below w1.heap.size w1 w') :
    Calls Try.prog 75 #[.agg #[.int .i64 o, .int .i64 h, .int .i64 n, v], .agg #[.int .i64 o', .int .i64 h', .int .i64 n', v']] w fun e w' => e = .returned (.int .i64 (Tm.ord (.mk o h n l) (.mk o' h' n' l'))) ∧ Below w.heap.size w w' := by
  rw [Tm.ord_or4]
  obtain ⟨ao, len, cap, rfl⟩ := hv.isSlice
  obtain ⟨ao', len', cap', rfl⟩ := hv'.isSlice
  have hln : l.length = len := hv.lenOf
  have hln' : l'.length = len' := hv'.lenOf
  rw [hln, hln'] at hin ⊢
  clear hv hv'
  obtain ⟨s0, e0⟩ : ∃ s, s = Tm.sgn o o' := ⟨_, rfl⟩
  obtain ⟨s1, e1⟩ : ∃ s, s = Tm.sgn h h' := ⟨_, rfl⟩
  obtain ⟨s2, e2⟩ : ∃ s, s = Tm.sgn n n' := ⟨_, rfl⟩
  obtain ⟨s3, e3⟩ : ∃ s, s = Tm.sgn len len' := ⟨_, rfl⟩
  rw [← e0, ← e1, ← e2, ← e3]
  have g0 := fun w => cmp_any o o' w
  have g1 := fun w => cmp_any h h' w
  have g2 := fun w => cmp_any n n' w
  have g3 := fun w => cmp_any len len' w
  rw [← e0] at g0
  rw [← e1] at g1
  rw [← e2] at g2
  rw [← e3] at g3
  have E3 := Lib.hid ((Tm.sgn_eq len len').1 ∘ e3.symm.trans)
  clear e0 e1 e2 e3
  go_enter Try.func75, Try.ntmps75
  go_upto_region 1 with fail
  have hb0 := two_below w (.cells #[.int .i64 o, .int .i64 h, .int .i64 n, .slice ao len cap] 24) (.cells #[.int .i64 o', .int .i64 h', .int .i64 n', .slice ao' len' cap'] 24)
  obtain ⟨q, q'⟩ := two_boxes (Below.refl (w.heap.size + 2) ((w.alloc (.cells #[.int .i64 o, .int .i64 h, .int .i64 n, .slice ao len cap] 24)).alloc (.cells #[.int .i64 o', .int .i64 h', .int .i64 n', .slice ao' len' cap'] 24)))
  have hs0 : ((w.alloc (.cells #[.int .i64 o, .int .i64 h, .int .i64 n, .slice ao len cap] 24)).alloc (.cells #[.int .i64 o', .int .i64 h', .int .i64 n', .slice ao' len' cap'] 24)).heap.size = w.heap.size + 2 := by simp
  generalize (w.alloc (.cells #[.int .i64 o, .int .i64 h, .int .i64 n, .slice ao len cap] 24)).alloc (.cells #[.int .i64 o', .int .i64 h', .int .i64 n', .slice ao' len' cap'] 24) = W0 at *
  have hS0 : CellsP8 W0.drew ⟨w.heap.size, 0, none⟩ ⟨w.heap.size, 1, none⟩ ⟨w.heap.size, 2, none⟩ ⟨w.heap.size, 3, none⟩ ⟨w.heap.size + 1, 0, none⟩ ⟨w.heap.size + 1, 1, none⟩ ⟨w.heap.size + 1, 2, none⟩ ⟨w.heap.size + 1, 3, none⟩ (.int .i64 o) (.int .i64 h) (.int .i64 n) (.slice ao len cap) (.int .i64 o') (.int .i64 h') (.int .i64 n') (.slice ao' len' cap') :=
    cellsP8_below (Below.refl _ _).drew ⟨q 0 _ rfl, q 1 _ rfl, q 2 _ rfl, q 3 _ rfl, q' 0 _ rfl, q' 1 _ rfl, q' 2 _ rfl, q' 3 _ rfl⟩
  have hBA := ((Below.refl W0.heap.size W0).alloc (Nat.le_refl _) (.cells #[.int .i64 s0, .int .i64 s1, .int .i64 s2, .int .i64 s3] 3)).drew
  have hS1 : CellsP8 (W0.alloc (.cells #[.int .i64 s0, .int .i64 s1, .int .i64 s2, .int .i64 s3] 3)).drew ⟨w.heap.size, 0, none⟩ ⟨w.heap.size, 1, none⟩ ⟨w.heap.size, 2, none⟩ ⟨w.heap.size, 3, none⟩ ⟨w.heap.size + 1, 0, none⟩ ⟨w.heap.size + 1, 1, none⟩ ⟨w.heap.size + 1, 2, none⟩ ⟨w.heap.size + 1, 3, none⟩ (.int .i64 o) (.int .i64 h) (.int .i64 n) (.slice ao len cap) (.int .i64 o') (.int .i64 h') (.int .i64 n') (.slice ao' len' cap') :=
    cellsP8_below hBA ⟨q 0 _ rfl, q 1 _ rfl, q 2 _ rfl, q 3 _ rfl, q' 0 _ rfl, q' 1 _ rfl, q' 2 _ rfl, q' 3 _ rfl⟩
  clear q q'
  have hrow := heap_alloc_new W0 (.cells #[.int .i64 s0, .int .i64 s1, .int .i64 s2, .int .i64 s3] 3)
  have HB1 := Lib.hid (below_next hb0 hBA)
  have hrow' : (W0.alloc (.cells #[.int .i64 s0, .int .i64 s1, .int .i64 s2, .int .i64 s3] 3)).drew.heap[W0.heap.size]? = some (.cells #[.int .i64 s0, .int .i64 s1, .int .i64 s2, .int .i64 s3] 3 (0, 0)) := hrow
  rw [hs0] at hrow'
  have callO := cmpOr_any s0 s1 s2 s3 (w.heap.size + 2) _ 3 hrow'
  clear hrow hrow'
  go_region_held3 (fun W => CellsP8 W ⟨w.heap.size, 0, none⟩ ⟨w.heap.size, 1, none⟩ ⟨w.heap.size, 2, none⟩ ⟨w.heap.size, 3, none⟩ ⟨w.heap.size + 1, 0, none⟩ ⟨w.heap.size + 1, 1, none⟩ ⟨w.heap.size + 1, 2, none⟩ ⟨w.heap.size + 1, 3, none⟩ (.int .i64 o) (.int .i64 h) (.int .i64 n) (.slice ao len cap) (.int .i64 o') (.int .i64 h') (.int .i64 n') (.slice ao' len' cap'))
    (first | (with_reducible exact hS0) | (with_reducible exact hS1) | (with_reducible exact cellsP8_below hb2 hS1))
    (first | (go_at_call 92; (with_reducible refine (g0 _).mono ?_); rintro e w1 ⟨rfl, rfl⟩) | (go_at_call 92; (with_reducible refine (g1 _).mono ?_); rintro e w1 ⟨rfl, rfl⟩) | (go_at_call 92; (with_reducible refine (g2 _).mono ?_); rintro e w1 ⟨rfl, rfl⟩) | (go_at_call 92; (with_reducible refine (g3 _).mono ?_); rintro e w1 ⟨rfl, rfl⟩) | (go_at_call 91; (with_reducible refine callO.mono ?_); rintro e w2 ⟨rfl, hb2⟩))
  have hB2 := below_next HB1.out hb2
  obtain ⟨y0, y1, y2, y3, y0', y1', y2', y3'⟩ := cellsP8_below hb2 hS1
  clear hS0 hS1 y0 y1 y2 y0' y1' y2' callO hBA hs0 hb0 hb2 g0 g1 g2 g3
  by_cases h0 : Tm.or4 s0 s1 s2 s3 0 = 0
  · obtain ⟨h3, hr⟩ := or4_zero h0 (Tm.ordL l l')
    have hl3 := E3.out h3
    have call := hin (by omega) w2 hB2
    have HR := Lib.hid hr
    rw [h0]
    clear hr h3 h0 E3 hl3 hin
    go_wp2_with fail
    refine call.mono ?_
    rintro e w3 ⟨rfl, hb3⟩
    go_wp2_with fail
    go_ret
    exact ⟨ret_int HR.out.symm, below_next hB2 hb3⟩
  · have HR := Lib.hid (or4_some h0 (Tm.ordL l l'))
    generalize Tm.or4 s0 s1 s2 s3 0 = x at *
    go_wp2_with fail
    go_ret
    exact ⟨ret_int HR.out.symm, hB2⟩

end Go.Proofs.Ytnooeaefldklaaa
