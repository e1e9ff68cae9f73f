/- The contracts of App, Lam, gives, and of awake: the first examples come out. -/
import Derived.Test.YtomahhdhnlfabaaTmShift
namespace Go.Proofs.Ytomahhdhnlfabaa
open Go.RowKit
set_option linter.unusedSimpArgs false
set_option linter.unusedVariables false

theorem Lies.one {w : World} {S : Nat → Prop} {o h n : Int} {v : Value} {l : List Tm} {b : Nat} {t : TypeId} (hb : w.heap[b]? = some (.cells #[.int .i64 o, .int .i64 h, .int .i64 n, v] t (0, 0))) (hS : S b) (ho : I64 o) (hh : I64 h) (hn : I64 n) (hv : Lies w S v l) :
    Lies w S (.slice (some ⟨b, 0, none⟩) 1 1) [.mk o h n l] := by
  have row := Lies.row (w := w) (S := S) (some ⟨b, 0, none⟩) b 0 1 1 (fun _ => o) (fun _ => h) (fun _ => n) (fun _ => v) (fun _ => l) (fun _ => rfl) (fun _ => hS) (Nat.le_refl _) (by omega)
    (fun i hi => by obtain rfl : i = 0 := by omega
                    exact cell_in hb 0 _ rfl) (fun i hi => by obtain rfl : i = 0 := by omega
                                                              exact cell_in hb 1 _ rfl)
    (fun i hi => by obtain rfl : i = 0 := by omega
                    exact cell_in hb 2 _ rfl) (fun i hi => by obtain rfl : i = 0 := by omega
                                                              exact cell_in hb 3 _ rfl)
    (fun _ _ => ho) (fun _ _ => hh) (fun _ _ => hn) (fun _ _ => hv)
  simpa using row

set_option maxHeartbeats 1000000 in
set_option maxRecDepth 100000 in
theorem app_any (h n : Int) (a2 : Option Addr) (n2 m2 : Nat) (w : World) :
    Calls Try.prog 52 #[.int .i64 h, .int .i64 n, .slice a2 n2 m2] w fun e w' => e = .returned (.agg #[.int .i64 4, .int .i64 h, .int .i64 n, .slice a2 n2 m2]) ∧ Below w.heap.size w w' := by
  go_enter Try.func52, Try.ntmps52
  go_wp2
  exact bodyPost_ret (v := .agg #[.int .i64 4, .int .i64 h, .int .i64 n, .slice a2 n2 m2]) (by simp [results, Try.results52, go_sem]) rfl ⟨rfl, one_below w _⟩

set_option maxHeartbeats 1000000 in
set_option maxRecDepth 100000 in
theorem awk1_any (n : Int) (w : World) :
    Calls Try.prog 51 #[.int .i64 n] w fun e w' => e = .returned (.agg #[.int .i64 4, .int .i64 1, .int .i64 n, .slice none 0 0]) ∧ Below w.heap.size w w' := by
  go_enter Try.func51, Try.ntmps51
  go_wp2_with fail
  refine (app_any 1 n none 0 0 _).mono ?_
  rintro e w1 ⟨rfl, hb1⟩
  have hz := heap_kept hb1 (heap_alloc_new w _)
  have y0 := cell_in hz 0 (.int .i64 0) rfl
  have y1 := cell_in hz 1 (.int .i64 0) rfl
  have y2 := cell_in hz 2 (.int .i64 0) rfl
  have y3 := cell_in hz 3 (.slice none 0 0) rfl
  have f0 := free_in hz 0
  have f1 := free_in hz 1
  have f2 := free_in hz 2
  have f3 := free_in hz 3
  have HZ := Lib.hid hz
  clear hz
  go_wp2
  have hq := set4_at HZ.out (.int .i64 4) (.int .i64 1) (.int .i64 n) (.slice none 0 0)
  have q0 := cell_in hq 0 (.int .i64 4) rfl
  have q1 := cell_in hq 1 (.int .i64 1) rfl
  have q2 := cell_in hq 2 (.int .i64 n) rfl
  have q3 := cell_in hq 3 (.slice none 0 0) rfl
  have hbw := (one_below w _).trans (hb1.mono (by simp))
  exact bodyPost_ret (v := .agg #[.int .i64 4, .int .i64 1, .int .i64 n, .slice none 0 0]) (by simp [results, Try.results51, go_sem, q0, q1, q2, q3]) rfl
    ⟨rfl, (((hbw.setCell (by simp) _).setCell (by simp) _).setCell (by simp) _).setCell (by simp) _⟩

set_option maxHeartbeats 1000000 in
set_option maxRecDepth 100000 in
theorem lam_any (S : Nat → Prop) (o h n : Int) (v : Value) (l : List Tm) (w : World) (hv : Lies w S v l) (ho : I64 o) (hh : I64 h) (hn : I64 n) :
    Calls Try.prog 55 #[.agg #[.int .i64 o, .int .i64 h, .int .i64 n, v]] w fun e w' => ∃ b, e = .returned (.agg #[.int .i64 3, .int .i64 0, .int .i64 0, .slice (some ⟨b, 0, none⟩) 1 1]) ∧ Below w.heap.size w w' ∧ Lies w' (fun b => S b ∨ w.heap.size ≤ b) (.slice (some ⟨b, 0, none⟩) 1 1) [.mk o h n l] := by
  obtain ⟨a2, n2, m2, rfl⟩ := hv.isSlice
  have HV := Lib.hid hv
  clear hv
  go_enter Try.func55, Try.ntmps55
  go_wp2
  have h3 := (two_below w (.cells #[.int .i64 o, .int .i64 h, .int .i64 n, .slice a2 n2 m2] 24) (.cells #[.int .i64 3, .int .i64 0, .int .i64 0, .slice (some ⟨w.heap.size + 1 + 1, 0, none⟩) 1 1] 24)).alloc (by simp; omega) (.cells #[.int .i64 o, .int .i64 h, .int .i64 n, .slice a2 n2 m2] 24)
  refine bodyPost_ret (v := .agg #[.int .i64 3, .int .i64 0, .int .i64 0, .slice (some ⟨w.heap.size + 1 + 1, 0, none⟩) 1 1]) (by simp [results, Try.results55, go_sem]) rfl ⟨_, rfl, h3, ?_⟩
  have hn3 := heap_alloc_new ((w.alloc (.cells #[.int .i64 o, .int .i64 h, .int .i64 n, .slice a2 n2 m2] 24)).alloc (.cells #[.int .i64 3, .int .i64 0, .int .i64 0, .slice (some ⟨w.heap.size + 1 + 1, 0, none⟩) 1 1] 24)) (.cells #[.int .i64 o, .int .i64 h, .int .i64 n, .slice a2 n2 m2] 24)
  have e2 : ((w.alloc (.cells #[.int .i64 o, .int .i64 h, .int .i64 n, .slice a2 n2 m2] 24)).alloc (.cells #[.int .i64 3, .int .i64 0, .int .i64 0, .slice (some ⟨w.heap.size + 1 + 1, 0, none⟩) 1 1] 24)).heap.size = w.heap.size + 1 + 1 := by simp
  rw [e2] at hn3
  exact Lies.one hn3 (.inr (by omega)) ho hh hn ((HV.out.keep h3).more fun b _ hS => .inl hS)

set_option maxHeartbeats 1000000 in
set_option maxRecDepth 100000 in
theorem gives_any (S S' : Nat → Prop) (o h n o' h' n' e f : Int) (v v' : Value) (l l' : List Tm) (w : World) (hv : Lies w S v l) (hv' : Lies w S' v' l') :
    Calls Try.prog 56 #[.agg #[.int .i64 o, .int .i64 h, .int .i64 n, v], .int .i64 e, .agg #[.int .i64 o', .int .i64 h', .int .i64 n', v'], .int .i64 f] w
      fun e' w' => e' = .returned (.bool (Tm.same (.mk o h n l) (.mk o' h' n' l') && (e == f))) ∧ Below w.heap.size w w' := by
  obtain ⟨a2, n2, m2, rfl⟩ := hv.isSlice
  obtain ⟨a3, n3, m3, rfl⟩ := hv'.isSlice
  have h2 := two_below w (.cells #[.int .i64 o, .int .i64 h, .int .i64 n, .slice a2 n2 m2] 24) (.cells #[.int .i64 o', .int .i64 h', .int .i64 n', .slice a3 n3 m3] 24)
  have call := same_any S S' o h n o' h' n' _ _ l l' _ (hv.keep h2) (hv'.keep h2)
  clear hv hv'
  rcases hs : Tm.same (.mk o h n l) (.mk o' h' n' l') with _ | _
  all_goals
    rw [hs] at call
    clear hs
    rcases hef : (e == f) with _ | _
    all_goals
      go_enter Try.func56, Try.ntmps56
      go_wp2_with (go_at_call 42; (with_reducible refine call.mono ?_); rintro e w1 ⟨rfl, hb1⟩)
      go_ret
      exact ⟨rfl, h2.trans (hb1.mono (by simp; omega))⟩

/-- the examples' terms -/
def awkS : Tm := .mk 4 2 2 [.mk 4 2 2 [.mk 4 1 0 []]]
theorem awkS_size : sizeOf (.mk 4 2 2 [.mk 4 2 2 [.mk 4 1 0 []]]) = .returned (.tuple #[.int .i64 3, .int .i64 3, .int .i64 0]) := by
  have h1 : Tm.proper awkS = true := by decide +kernel
  have h2 : Tm.sz awkS = 3 := by decide +kernel
  have h3 : Tm.depth awkS = 3 := by decide +kernel
  show sizeOf awkS = _
  unfold sizeOf
  rw [h1, h2, h3]; rfl
theorem awkS_shift : shiftOut 2 0 (.mk 3 0 0 [.mk 4 1 0 [.mk 4 1 1 []]]) = (.mk 3 0 0 [.mk 4 1 0 [.mk 4 1 3 []]], 0) := by
  have h1 : shiftArgs 2 0 (.mk 3 0 0 [.mk 4 1 0 [.mk 4 1 1 []]]) = true := by decide +kernel
  have h2 : Tm.errT (shG 2 0) 0 (.mk 3 0 0 [.mk 4 1 0 [.mk 4 1 1 []]]) 0 = 0 := by decide +kernel
  have h3 : Tm.same (Tm.ren (shF 2 0) 0 (.mk 3 0 0 [.mk 4 1 0 [.mk 4 1 1 []]])) (.mk 3 0 0 [.mk 4 1 0 [.mk 4 1 3 []]]) = true := by decide +kernel
  unfold shiftOut
  rw [h1, h2, (Tm.same_iff _ _).1 h3]; rfl

theorem below_next {w a b : World} (h : Below w.heap.size w a) (hb : Below a.heap.size a b) : Below w.heap.size w b := h.trans (hb.mono h.size)
theorem below_al {w a : World} (h : Below w.heap.size w a) (o : Obj) : Below w.heap.size w (a.alloc o) := h.alloc h.size o
theorem i64_small {n : Int} (h0 : 0 ≤ n) (h1 : n ≤ 1000000) : I64 n := ⟨by omega, by omega⟩

theorem gives_awk (S S' : Nat → Prop) (v v' : Value) (w : World) (hv : Lies w S v [.mk 4 1 0 [.mk 4 1 3 []]]) (hv' : Lies w S' v' [.mk 4 1 0 [.mk 4 1 3 []]]) :
    Calls Try.prog 56 #[.agg #[.int .i64 3, .int .i64 0, .int .i64 0, v], .int .i64 0, .agg #[.int .i64 3, .int .i64 0, .int .i64 0, v'], .int .i64 0] w fun e' w' => e' = .returned (.bool true) ∧ Below w.heap.size w w' := by
  have h : (Tm.same (.mk 3 0 0 [.mk 4 1 0 [.mk 4 1 3 []]]) (.mk 3 0 0 [.mk 4 1 0 [.mk 4 1 3 []]]) && ((0 : Int) == 0)) = true := by decide +kernel
  have c := gives_any S S' 3 0 0 3 0 0 0 0 v v' _ _ w hv hv'
  rw [h] at c
  exact c

set_option maxHeartbeats 2000000 in
set_option maxRecDepth 100000 in
theorem awake_any (w : World) : Calls Try.prog 20 #[] w fun e w' => e = .returned (.bool true) ∧ Below w.heap.size w w' := by
  go_enter Try.func20, Try.ntmps20
  go_wp2_with fail
  refine (awk1_any 0 _).mono ?_
  rintro e w1 ⟨rfl, hb1⟩
  have L1 : Lies (w1.alloc (.cells #[.int .i64 4, .int .i64 1, .int .i64 0, .slice none 0 0] 24)) (fun _ => True) (.slice (some ⟨w1.heap.size, 0, none⟩) 1 1) [.mk 4 1 0 []] :=
    Lies.one (heap_alloc_new w1 _) trivial (i64_small (by omega) (by omega)) (i64_small (by omega) (by omega)) (i64_small (by omega) (by omega)) (Lies.nil _ _)
  have B1 := below_al hb1 (.cells #[.int .i64 4, .int .i64 1, .int .i64 0, .slice none 0 0] 24)
  go_wp2_with fail
  refine (app_any 2 2 _ 1 1 _).mono ?_
  rintro e w2 ⟨rfl, hb2⟩
  have B2 := below_al (below_next B1 hb2) (.cells #[.int .i64 4, .int .i64 2, .int .i64 2, .slice (some ⟨w1.heap.size, 0, none⟩) 1 1] 24)
  have L2 : Lies (w2.alloc (.cells #[.int .i64 4, .int .i64 2, .int .i64 2, .slice (some ⟨w1.heap.size, 0, none⟩) 1 1] 24)) (fun _ => True) (.slice (some ⟨w2.heap.size, 0, none⟩) 1 1) [.mk 4 2 2 [.mk 4 1 0 []]] :=
    Lies.one (heap_alloc_new w2 _) trivial (i64_small (by omega) (by omega)) (i64_small (by omega) (by omega)) (i64_small (by omega) (by omega)) ((L1.keep hb2).keep ((Below.refl _ _).alloc (Nat.le_refl _) _))
  clear hb1 hb2 L1 B1
  go_wp2_with fail
  refine (app_any 2 2 _ 1 1 _).mono ?_
  rintro e w3 ⟨rfl, hb3⟩
  have B3 := below_al (below_next B2 hb3) (.cells #[.int .i64 4, .int .i64 2, .int .i64 2, .slice (some ⟨w2.heap.size, 0, none⟩) 1 1] 24)
  have c4 := size_any 4 2 2 _ _ (w3.alloc (.cells #[.int .i64 4, .int .i64 2, .int .i64 2, .slice (some ⟨w2.heap.size, 0, none⟩) 1 1] 24)) ((L2.keep hb3).keep ((Below.refl _ _).alloc (Nat.le_refl _) _))
  rw [awkS_size] at c4
  clear hb3 L2 B2
  go_wp2_with fail
  refine c4.mono ?_
  rintro e w4 ⟨rfl, hb4⟩
  have B4 := below_next B3 hb4
  clear c4 hb4 B3
  go_wp2_with fail
  refine (awk1_any 1 _).mono ?_
  rintro e w5 ⟨rfl, hb5⟩
  have B5 := below_al (below_next B4 hb5) (.cells #[.int .i64 4, .int .i64 1, .int .i64 1, .slice none 0 0] 24)
  have L5 : Lies (w5.alloc (.cells #[.int .i64 4, .int .i64 1, .int .i64 1, .slice none 0 0] 24)) (fun _ => True) (.slice (some ⟨w5.heap.size, 0, none⟩) 1 1) [.mk 4 1 1 []] :=
    Lies.one (heap_alloc_new w5 _) trivial (i64_small (by omega) (by omega)) (i64_small (by omega) (by omega)) (i64_small (by omega) (by omega)) (Lies.nil _ _)
  clear hb5 B4
  go_wp2_with fail
  refine (app_any 1 0 _ 1 1 _).mono ?_
  rintro e w6 ⟨rfl, hb6⟩
  have B6 := below_next B5 hb6
  have c6 := lam_any _ 4 1 0 _ _ w6 (L5.keep hb6) (i64_small (by omega) (by omega)) (i64_small (by omega) (by omega)) (i64_small (by omega) (by omega))
  clear L5 hb6 B5
  go_wp2_with fail
  refine c6.mono ?_
  rintro e w7 ⟨b7, rfl, hb7, L7⟩
  have B7 := below_next B6 hb7
  have c6' := shift_any 3 0 0 2 0 _ _ w7 (L7.more fun _ _ _ => trivial) (i64_small (by omega) (by omega)) (i64_small (by omega) (by omega))
  rw [awkS_shift] at c6'
  have c7 : Calls Try.prog 54 #[.agg #[.int .i64 3, .int .i64 0, .int .i64 0, .slice (some ⟨b7, 0, none⟩) 1 1], .int .i64 2, .int .i64 0] w7 (fun e w' => ∃ v, e = .returned (.tuple #[.agg #[.int .i64 3, .int .i64 0, .int .i64 0, v], .int .i64 0]) ∧ Below w7.heap.size w7 w' ∧ Lies w' (w7.heap.size ≤ ·) v [.mk 4 1 0 [.mk 4 1 3 []]]) := c6'
  clear c6'
  clear L7 hb7 B6 c6
  go_wp2_with fail
  refine c7.mono ?_
  rintro e w8 ⟨v8, rfl, hb8, L8⟩
  obtain ⟨a8, n8, m8, rfl⟩ := L8.isSlice
  have B8 := below_next B7 hb8
  clear c7 hb8 B7
  have hbx : Below w8.heap.size w8 (w8.alloc (.cells #[.int .i64 3, .int .i64 0, .int .i64 0, .slice a8 n8 m8] 24)).drew := ((Below.refl _ _).alloc (Nat.le_refl _) _).drew
  have hx0 : Cells4 (w8.alloc (.cells #[.int .i64 3, .int .i64 0, .int .i64 0, .slice a8 n8 m8] 24)).drew w8.heap.size (.int .i64 3) (.int .i64 0) (.int .i64 0) (.slice a8 n8 m8) := by
    have hz : (w8.alloc (.cells #[.int .i64 3, .int .i64 0, .int .i64 0, .slice a8 n8 m8] 24)).drew.heap[w8.heap.size]? = some (.cells #[.int .i64 3, .int .i64 0, .int .i64 0, .slice a8 n8 m8] 24 (0, 0)) := heap_alloc_new w8 _
    exact ⟨cell_in hz 0 _ rfl, cell_in hz 1 _ rfl, cell_in hz 2 _ rfl, cell_in hz 3 _ rfl⟩
  have BX := Lib.hid (below_next B8 hbx)
  have LX := Lib.hid (L8.keep hbx)
  clear B8 L8 hbx
  have i4 : I64 4 := i64_small (by omega) (by omega)
  have i1 : I64 1 := i64_small (by omega) (by omega)
  have i0 : I64 0 := i64_small (by omega) (by omega)
  go_wp2_with fail
  go_region_held3 (fun W => W.cell? ⟨w8.heap.size, 0, none⟩ = some (.int .i64 3) ∧ W.cell? ⟨w8.heap.size, 1, none⟩ = some (.int .i64 0) ∧ W.cell? ⟨w8.heap.size, 2, none⟩ = some (.int .i64 0) ∧ W.cell? ⟨w8.heap.size, 3, none⟩ = some (.slice a8 n8 m8))
    (first | (with_reducible exact hx0) | (with_reducible exact hx9) | (with_reducible exact keep4 ((Below.refl _ _).alloc (Nat.le_refl _) _) hx9) | (with_reducible exact hx10) | (with_reducible exact hx11) | (with_reducible exact hx12))
    (first | (go_at_call 51; (with_reducible refine (awk1_any 3 _).mono ?_); rintro e w9 ⟨rfl, hb9⟩; have hx9 := keep4 hb9 hx0) | (go_at_call 52; (with_reducible refine (app_any 1 0 _ 1 1 _).mono ?_); rintro e w10 ⟨rfl, hb10⟩; have L10 := (Lies.one (S := fun _ => True) (heap_alloc_new w9 (.cells #[.int .i64 4, .int .i64 1, .int .i64 3, .slice none 0 0] 24)) trivial (i64_small (by omega) (by omega)) (i64_small (by omega) (by omega)) (i64_small (by omega) (by omega)) (Lies.nil _ _)).keep hb10; have hx10 := keep4 hb10 (keep4 ((Below.refl _ _).alloc (Nat.le_refl _) _) hx9)) | (go_at_call 55; (with_reducible refine (lam_any _ 4 1 0 _ _ _ L10 i4 i1 i0).mono ?_); rintro e w11 ⟨b11, rfl, hb11, L11⟩; have hx11 := keep4 hb11 hx10; have L11' := ((LX.out.keep hb9).keep ((Below.refl _ _).alloc (Nat.le_refl _) (.cells #[.int .i64 4, .int .i64 1, .int .i64 3, .slice none 0 0] 24))).keep hb10 |>.keep hb11) | (go_at_call 56; (with_reducible refine (gives_awk _ _ _ _ _ L11' L11).mono ?_); rintro e w12 ⟨rfl, hb12⟩; have hx12 := keep4 hb12 hx11))
  go_wp2
  go_ret
  exact ⟨rfl, below_next (below_next (below_next (below_al (below_next BX.out hb9) _) hb10) hb11) hb12⟩

end Go.Proofs.Ytomahhdhnlfabaa
