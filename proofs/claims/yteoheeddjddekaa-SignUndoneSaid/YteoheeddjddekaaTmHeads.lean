/- The contract of the reference's heads. -/
import Derived.Test.YteoheeddjddekaaL5a
namespace Go.Proofs.Yteoheeddjddekaa
open Go.RowKit
set_option linter.unusedSimpArgs false
set_option linter.unusedVariables false

/-- which number the reference finds at a node -/
def rsel (x : Int) : Int → Int → Int → Int → Option Int := fun b o h n => if o == 4 && h == x then (if x = 1 then (if b ≤ n then some (n - b) else none) else some n) else none

theorem IntsN.isSlice {w : World} {v : Value} {xs : List Int} (h : IntsN w v xs) : ∃ a n m, v = .slice a n m := by
  obtain ⟨⟨_, _, _, _, _, h⟩, _⟩ := h
  exact ⟨_, _, _, h.hv⟩

abbrev Cells8 (W : World) (b1 b2 : Nat) (j : Nat) (u1 u2 u3 u4 u5 u6 u7 u8 : Value) : Prop :=
  W.cell? ⟨b1, j, none⟩ = some u1 ∧ W.cell? ⟨b1, j + 1, none⟩ = some u2 ∧ W.cell? ⟨b1, j + 2, none⟩ = some u3 ∧ W.cell? ⟨b1, j + 3, none⟩ = some u4 ∧ W.cell? ⟨b2, 0, none⟩ = some u5 ∧ W.cell? ⟨b2, 1, none⟩ = some u6 ∧ W.cell? ⟨b2, 2, none⟩ = some u7 ∧ W.cell? ⟨b2, 3, none⟩ = some u8
theorem cells8_below {W W' : World} {b1 b2 j : Nat} {u1 u2 u3 u4 u5 u6 u7 u8 : Value} (hb : Below W.heap.size W W') (x : Cells8 W b1 b2 j u1 u2 u3 u4 u5 u6 u7 u8) : Cells8 W' b1 b2 j u1 u2 u3 u4 u5 u6 u7 u8 := by
  obtain ⟨x1, x2, x3, x4, x5, x6, x7, x8⟩ := x
  exact ⟨kept_cell hb x1, kept_cell hb x2, kept_cell hb x3, kept_cell hb x4, kept_cell hb x5, kept_cell hb x6, kept_cell hb x7, kept_cell hb x8⟩

/-- what lies in memory when the first k parts have been asked -/
structure HTo (x : Int) (w : World) (xs : List Int) (o h n b : Int) (ao : Option Addr) (len cap : Nat) (l : List Tm) (k : Nat) (y : Value) (wr : World) : Prop where
  ints : IntsN wr y (Tm.insL xs (Tm.hdsTo (rsel x) b o h n l k))
  below : Below w.heap.size w wr
  box : wr.heap[w.heap.size]? = some (.cells #[.int .i64 o, .int .i64 h, .int .i64 n, .slice ao len cap] 25 (0, 0))
theorem HTo.step {x : Int} {w wr w' : World} {xs : List Int} {o h n b : Int} {ao : Option Addr} {len cap : Nat} {l : List Tm} {k : Nat} {y y' : Value} {zs : List Int} (H : HTo x w xs o h n b ao len cap l k y wr)
    (e : Tm.hdsTo (rsel x) b o h n l (k + 1) = Tm.hdsTo (rsel x) b o h n l k ++ zs) (hi : IntsN w' y' (Tm.insL (Tm.insL xs (Tm.hdsTo (rsel x) b o h n l k)) zs)) (hb : Below wr.heap.size wr w') : HTo x w xs o h n b ao len cap l (k + 1) y' w' :=
  ⟨by rw [e, Tm.insL_append]; exact hi, H.below.trans (hb.mono H.below.size), heap_kept hb H.box⟩
theorem HTo.done {x : Int} {w wr : World} {xs : List Int} {o h n b : Int} {ao : Option Addr} {len cap : Nat} {l : List Tm} {k : Nat} {y : Value} (H : HTo x w xs o h n b ao len cap l k y wr)
    (e : Tm.hdsTo (rsel x) b o h n l k = Tm.hds (rsel x) b (.mk o h n l)) : GivesInts w (Tm.insL xs (Tm.hds (rsel x) b (.mk o h n l))) (.returned y) wr :=
  ⟨y, rfl, by rw [← e]; exact H.ints, H.below⟩
theorem HTo.start {x : Int} {w w1 : World} {xs zs : List Int} {o h n b : Int} {ao : Option Addr} {len cap : Nat} {l : List Tm} {y : Value} (e : (rsel x b o h n).toList = zs) (hi : IntsN w1 y (Tm.insL xs zs))
    (hb : Below (w.alloc (.cells #[.int .i64 o, .int .i64 h, .int .i64 n, .slice ao len cap] 25)).heap.size (w.alloc (.cells #[.int .i64 o, .int .i64 h, .int .i64 n, .slice ao len cap] 25)) w1) : HTo x w xs o h n b ao len cap l 0 y w1 :=
  ⟨by rw [Tm.hdsTo_zero, e]; exact hi, (one_below w _).trans (hb.mono (by simp)), heap_kept hb (heap_alloc_new w _)⟩

set_option maxHeartbeats 4000000 in
set_option maxRecDepth 100000 in
theorem heads_walk (S : Nat → Prop) (x : Int) (hx1 : 1 ≤ x) (hx2 : x ≤ 3) (f : Nat) (ih : ∀ (o h n b : Int) (v : Value) (l : List Tm) (u : Value) (xs : List Int) (w : World), Tm.sz (.mk o h n l) ≤ f → 0 ≤ b → b + (Tm.sz (.mk o h n l) : Int) ≤ 1000000 → xs.length + Tm.sz (.mk o h n l) ≤ 100000 → Tm.nums (.mk o h n l) = true → Lies w S v l → IntsN w u xs →
      Calls Try.prog 59 #[.agg #[.int .i64 o, .int .i64 h, .int .i64 n, v], .int .i64 x, .int .i64 b, u] w (GivesInts w (Tm.insL xs (Tm.hds (rsel x) b (.mk o h n l)))))
    (o h n b : Int) (v : Value) (l : List Tm) (u : Value) (xs : List Int) (w : World) (hf : Tm.sz (.mk o h n l) ≤ f + 1) (hb0 : 0 ≤ b) (hb1 : b + (Tm.sz (.mk o h n l) : Int) ≤ 1000000) (hxs : xs.length + Tm.sz (.mk o h n l) ≤ 100000) (hn : Tm.nums (.mk o h n l) = true) (hv : Lies w S v l) (hu : IntsN w u xs) :
    Calls Try.prog 59 #[.agg #[.int .i64 o, .int .i64 h, .int .i64 n, v], .int .i64 x, .int .i64 b, u] w (GivesInts w (Tm.insL xs (Tm.hds (rsel x) b (.mk o h n l)))) := by
  obtain ⟨ao, bb, off, len, cap, oo, hh, kk, sv, ts, rfl, R⟩ := hv.open
  obtain ⟨au, nu, mu, rfl⟩ := hu.isSlice
  have hr := R.hr
  have hl := R.hl
  have HL := Lib.hid R.length
  have hszp := Tm.sz_pos (.mk o h n l)
  have hnb := Tm.nums_n hn
  have HNL := Lib.hid (Tm.nums_l hn)
  have hboxb := one_below w (.cells #[.int .i64 o, .int .i64 h, .int .i64 n, .slice ao len cap] 25)
  have HU := Lib.hid (hu.below hboxb)
  have HBX := Lib.hid hboxb
  have hlx : xs.length ≤ 100000 := by omega
  clear hv hu hn hboxb
  have ways : (o == 4) = false ∨ ((o == 4) = true ∧ (h == x) = false) ∨ ((o == 4) = true ∧ (h == x) = true ∧ (x != 1) = true) ∨ ((o == 4) = true ∧ (h == x) = true ∧ x = 1 ∧ n < b) ∨ ((o == 4) = true ∧ (h == x) = true ∧ x = 1 ∧ b ≤ n) := by
    rcases (o == 4) with _ | _
    · exact .inl rfl
    · rcases (h == x) with _ | _
      · exact .inr (.inl ⟨rfl, rfl⟩)
      · by_cases h1 : x = 1
        · by_cases h2 : n < b
          · exact .inr (.inr (.inr (.inl ⟨rfl, rfl, h1, h2⟩)))
          · exact .inr (.inr (.inr (.inr ⟨rfl, rfl, h1, by omega⟩)))
        · exact .inr (.inr (.inl ⟨rfl, rfl, by simpa using h1⟩))
  rcases ways with e1 | ⟨e1, e2⟩ | ⟨e1, e2, e3⟩ | ⟨e1, e2, rfl, e3⟩ | ⟨e1, e2, rfl, e3⟩
  · have E : Hid ((rsel x b o h n).toList = []) := by show _ = _; simp [rsel, e1]
    go_enter Try.func59, Try.ntmps59
    go_wp2
    have hst0 : HTo x w xs o h n b ao len cap l 0 (.slice au nu mu) (w.alloc (.cells #[.int .i64 o, .int .i64 h, .int .i64 n, .slice ao len cap] 25)) := HTo.start E.out HU.out (Below.refl _ _)
    have ST := Lib.hid hst0
    clear hst0
    go_loopw [3, 9] (fun y i wr => ∃ k : Nat, k ≤ len ∧ i = .int .i64 k ∧ HTo x w xs o h n b ao len cap l k y wr) (fun _ i _ => len - (RowKit.intOf i).toNat)
    case atStart => exact ⟨0, Nat.zero_le _, rfl, ST.out⟩
    case round =>
      obtain ⟨k, hk, rfl, T⟩ := hrel
      obtain ⟨ay, ny, my, rfl⟩ := T.ints.isSlice
      have q0 := cell_in T.box 0 (.int .i64 o) rfl
      have q1 := cell_in T.box 1 (.int .i64 h) rfl
      have q2 := cell_in T.box 2 (.int .i64 n) rfl
      have q3 := cell_in T.box 3 (.slice ao len cap) rfl
      have HT := Lib.hid T
      have hbw := T.below
      clear T ST
      by_cases hlt : k < len
      · obtain rfl := R.hao (by omega)
        obtain ⟨d0, d1, d2, d3, hsub⟩ := R.at hbw k hlt
        obtain ⟨a2, n2, m2, hs2⟩ := hsub.isSlice
        rw [hs2] at d3 hsub
        clear hs2
        have hszk := R.size hf k hlt
        have hs6 := R.size_lt (x := o) (y := h) (z := n) k hlt
        have hbl := Tm.belowN_bd o k
        have hkl : k < l.length := by rw [HL.out]; exact hlt
        have hst := Tm.hdsTo_step (rsel x) b o h n l k hkl
        have htk := Tm.szL_take l k hkl
        have hle := Tm.szL_take_le l (k + 1)
        have hln := Tm.hdsTo_length (rsel x) b o h n l k
        have hll := Tm.insL_length (Tm.hdsTo (rsel x) b o h n l k) xs
        rw [R.get k hlt] at hst htk
        have HST := Lib.hid hst
        have hszl : Tm.sz (.mk o h n l) = 1 + Tm.szL l := by simp [Tm.sz]
        have hnk := Tm.numsL_mem HNL.out (R.mem k hlt)
        have hbn0 : 0 ≤ b + Tm.belowN o k := by omega
        have hbn1 : b + Tm.belowN o k + (Tm.sz (.mk (oo k) (hh k) (kk k) (ts k)) : Int) ≤ 1000000 := by omega
        have hxk : (Tm.insL xs (Tm.hdsTo (rsel x) b o h n l k)).length + Tm.sz (.mk (oo k) (hh k) (kk k) (ts k)) ≤ 100000 := by omega
        have call := fun (w1 : World) (hb : Below wr.heap.size wr w1) => ih (oo k) (hh k) (kk k) (b + Tm.belowN o k) (.slice a2 n2 m2) (ts k) (.slice ay ny my) (Tm.insL xs (Tm.hdsTo (rsel x) b o h n l k)) w1 hszk hbn0 hbn1 hxk hnk (hsub.keep hb) (HT.out.ints.below hb)
        have hxb : Below wr.heap.size wr wr.drew := (Below.refl _ _).drew
        have hx0 : Cells8 wr.drew bb w.heap.size (off + k * 4) (.int .i64 (oo k)) (.int .i64 (hh k)) (.int .i64 (kk k)) (.slice a2 n2 m2) (.int .i64 o) (.int .i64 h) (.int .i64 n) (.slice (some ⟨bb, off, none⟩) len cap) :=
          cells8_below hxb ⟨d0, d1, d2, d3, q0, q1, q2, q3⟩
        have hk0 : (0 : Int) ≤ (k : Int) := by omega
        have hk1 : (k : Int) < (len : Int) := by omega
        have hwr : IntKind.i64.wrap (b + Tm.belowN o k) = b + Tm.belowN o k := IntWalk.i64_in _ (by omega)
        clear ih R hsub hst htk hle hln hll hszl hnk hxk hszk hs6
        go_wp2_with fail
        clear d0 d1 d2 d3 q0 q1 q2 q3
        go_region_held3 (fun W => Cells8 W bb w.heap.size (off + k * 4) (.int .i64 (oo k)) (.int .i64 (hh k)) (.int .i64 (kk k)) (.slice a2 n2 m2) (.int .i64 o) (.int .i64 h) (.int .i64 n) (.slice (some ⟨bb, off, none⟩) len cap))
          (first | (with_reducible exact hx0) | (with_reducible exact cells8_below hb3 hx0) | (with_reducible exact cells8_below hb4 (cells8_below hb3 hx0)))
          (first | (go_at_call 80; (with_reducible refine (below_any o h n _ k _).mono ?_); rintro e w3 ⟨rfl, hb3⟩; have hd3 := hxb.trans (hb3.mono hxb.size)) | (go_at_call 59; (with_reducible refine (call _ ?_).mono ?_); (exact hd3); rintro e w4 ⟨v4, rfl, hi4, hb4⟩; obtain ⟨a4, n4, m4, rfl⟩ := hi4.isSlice))
        clear hwr
        go_wp2
        go_roundw
        case rel => exact ⟨k + 1, by omega, by go_num, HT.out.step HST.out hi4 (hd3.trans (hb4.mono hd3.size))⟩
        case measure => simp [RowKit.intOf]; omega
      · obtain rfl : k = len := by omega
        have hall := Tm.hdsTo_all (rsel x) b o h n l k (by rw [HL.out]; exact Nat.le_refl _)
        have HA := Lib.hid hall
        clear hall
        go_wp2
        go_ret
        exact HT.out.done HA.out
  · have E : Hid ((rsel x b o h n).toList = []) := by show _ = _; simp [rsel, e1, e2]
    go_enter Try.func59, Try.ntmps59
    go_wp2
    have hst0 : HTo x w xs o h n b ao len cap l 0 (.slice au nu mu) (w.alloc (.cells #[.int .i64 o, .int .i64 h, .int .i64 n, .slice ao len cap] 25)) := HTo.start E.out HU.out (Below.refl _ _)
    have ST := Lib.hid hst0
    clear hst0
    go_loopw [3, 9] (fun y i wr => ∃ k : Nat, k ≤ len ∧ i = .int .i64 k ∧ HTo x w xs o h n b ao len cap l k y wr) (fun _ i _ => len - (RowKit.intOf i).toNat)
    case atStart => exact ⟨0, Nat.zero_le _, rfl, ST.out⟩
    case round =>
      obtain ⟨k, hk, rfl, T⟩ := hrel
      obtain ⟨ay, ny, my, rfl⟩ := T.ints.isSlice
      have q0 := cell_in T.box 0 (.int .i64 o) rfl
      have q1 := cell_in T.box 1 (.int .i64 h) rfl
      have q2 := cell_in T.box 2 (.int .i64 n) rfl
      have q3 := cell_in T.box 3 (.slice ao len cap) rfl
      have HT := Lib.hid T
      have hbw := T.below
      clear T ST
      by_cases hlt : k < len
      · obtain rfl := R.hao (by omega)
        obtain ⟨d0, d1, d2, d3, hsub⟩ := R.at hbw k hlt
        obtain ⟨a2, n2, m2, hs2⟩ := hsub.isSlice
        rw [hs2] at d3 hsub
        clear hs2
        have hszk := R.size hf k hlt
        have hs6 := R.size_lt (x := o) (y := h) (z := n) k hlt
        have hbl := Tm.belowN_bd o k
        have hkl : k < l.length := by rw [HL.out]; exact hlt
        have hst := Tm.hdsTo_step (rsel x) b o h n l k hkl
        have htk := Tm.szL_take l k hkl
        have hle := Tm.szL_take_le l (k + 1)
        have hln := Tm.hdsTo_length (rsel x) b o h n l k
        have hll := Tm.insL_length (Tm.hdsTo (rsel x) b o h n l k) xs
        rw [R.get k hlt] at hst htk
        have HST := Lib.hid hst
        have hszl : Tm.sz (.mk o h n l) = 1 + Tm.szL l := by simp [Tm.sz]
        have hnk := Tm.numsL_mem HNL.out (R.mem k hlt)
        have hbn0 : 0 ≤ b + Tm.belowN o k := by omega
        have hbn1 : b + Tm.belowN o k + (Tm.sz (.mk (oo k) (hh k) (kk k) (ts k)) : Int) ≤ 1000000 := by omega
        have hxk : (Tm.insL xs (Tm.hdsTo (rsel x) b o h n l k)).length + Tm.sz (.mk (oo k) (hh k) (kk k) (ts k)) ≤ 100000 := by omega
        have call := fun (w1 : World) (hb : Below wr.heap.size wr w1) => ih (oo k) (hh k) (kk k) (b + Tm.belowN o k) (.slice a2 n2 m2) (ts k) (.slice ay ny my) (Tm.insL xs (Tm.hdsTo (rsel x) b o h n l k)) w1 hszk hbn0 hbn1 hxk hnk (hsub.keep hb) (HT.out.ints.below hb)
        have hxb : Below wr.heap.size wr wr.drew := (Below.refl _ _).drew
        have hx0 : Cells8 wr.drew bb w.heap.size (off + k * 4) (.int .i64 (oo k)) (.int .i64 (hh k)) (.int .i64 (kk k)) (.slice a2 n2 m2) (.int .i64 o) (.int .i64 h) (.int .i64 n) (.slice (some ⟨bb, off, none⟩) len cap) :=
          cells8_below hxb ⟨d0, d1, d2, d3, q0, q1, q2, q3⟩
        have hk0 : (0 : Int) ≤ (k : Int) := by omega
        have hk1 : (k : Int) < (len : Int) := by omega
        have hwr : IntKind.i64.wrap (b + Tm.belowN o k) = b + Tm.belowN o k := IntWalk.i64_in _ (by omega)
        clear ih R hsub hst htk hle hln hll hszl hnk hxk hszk hs6
        go_wp2_with fail
        clear d0 d1 d2 d3 q0 q1 q2 q3
        go_region_held3 (fun W => Cells8 W bb w.heap.size (off + k * 4) (.int .i64 (oo k)) (.int .i64 (hh k)) (.int .i64 (kk k)) (.slice a2 n2 m2) (.int .i64 o) (.int .i64 h) (.int .i64 n) (.slice (some ⟨bb, off, none⟩) len cap))
          (first | (with_reducible exact hx0) | (with_reducible exact cells8_below hb3 hx0) | (with_reducible exact cells8_below hb4 (cells8_below hb3 hx0)))
          (first | (go_at_call 80; (with_reducible refine (below_any o h n _ k _).mono ?_); rintro e w3 ⟨rfl, hb3⟩; have hd3 := hxb.trans (hb3.mono hxb.size)) | (go_at_call 59; (with_reducible refine (call _ ?_).mono ?_); (exact hd3); rintro e w4 ⟨v4, rfl, hi4, hb4⟩; obtain ⟨a4, n4, m4, rfl⟩ := hi4.isSlice))
        clear hwr
        go_wp2
        go_roundw
        case rel => exact ⟨k + 1, by omega, by go_num, HT.out.step HST.out hi4 (hd3.trans (hb4.mono hd3.size))⟩
        case measure => simp [RowKit.intOf]; omega
      · obtain rfl : k = len := by omega
        have hall := Tm.hdsTo_all (rsel x) b o h n l k (by rw [HL.out]; exact Nat.le_refl _)
        have HA := Lib.hid hall
        clear hall
        go_wp2
        go_ret
        exact HT.out.done HA.out
  · have E : Hid ((rsel x b o h n).toList = [n]) := by show _ = _; simp [rsel, e1, e2, (by simpa using e3 : ¬ x = 1)]
    have call := put_any (.slice au nu mu) xs (n) _ HU.out hlx
    go_enter Try.func59, Try.ntmps59
    go_wp2_with (go_at_call 79; (with_reducible refine call.mono ?_); rintro e w1 ⟨v1, rfl, hi1, hb1'⟩; obtain ⟨a1, n1, m1, rfl⟩ := hi1.isSlice; have z := Lib.hid (heap_kept hb1' (heap_alloc_new w _)))
    have hst0 : HTo x w xs o h n b ao len cap l 0 (.slice a1 n1 m1) w1 := HTo.start E.out hi1 hb1'
    clear call hi1
    have ST := Lib.hid hst0
    clear hst0
    go_loopw [3, 9] (fun y i wr => ∃ k : Nat, k ≤ len ∧ i = .int .i64 k ∧ HTo x w xs o h n b ao len cap l k y wr) (fun _ i _ => len - (RowKit.intOf i).toNat)
    case atStart => exact ⟨0, Nat.zero_le _, rfl, ST.out⟩
    case round =>
      obtain ⟨k, hk, rfl, T⟩ := hrel
      obtain ⟨ay, ny, my, rfl⟩ := T.ints.isSlice
      have q0 := cell_in T.box 0 (.int .i64 o) rfl
      have q1 := cell_in T.box 1 (.int .i64 h) rfl
      have q2 := cell_in T.box 2 (.int .i64 n) rfl
      have q3 := cell_in T.box 3 (.slice ao len cap) rfl
      have HT := Lib.hid T
      have hbw := T.below
      clear T ST
      by_cases hlt : k < len
      · obtain rfl := R.hao (by omega)
        obtain ⟨d0, d1, d2, d3, hsub⟩ := R.at hbw k hlt
        obtain ⟨a2, n2, m2, hs2⟩ := hsub.isSlice
        rw [hs2] at d3 hsub
        clear hs2
        have hszk := R.size hf k hlt
        have hs6 := R.size_lt (x := o) (y := h) (z := n) k hlt
        have hbl := Tm.belowN_bd o k
        have hkl : k < l.length := by rw [HL.out]; exact hlt
        have hst := Tm.hdsTo_step (rsel x) b o h n l k hkl
        have htk := Tm.szL_take l k hkl
        have hle := Tm.szL_take_le l (k + 1)
        have hln := Tm.hdsTo_length (rsel x) b o h n l k
        have hll := Tm.insL_length (Tm.hdsTo (rsel x) b o h n l k) xs
        rw [R.get k hlt] at hst htk
        have HST := Lib.hid hst
        have hszl : Tm.sz (.mk o h n l) = 1 + Tm.szL l := by simp [Tm.sz]
        have hnk := Tm.numsL_mem HNL.out (R.mem k hlt)
        have hbn0 : 0 ≤ b + Tm.belowN o k := by omega
        have hbn1 : b + Tm.belowN o k + (Tm.sz (.mk (oo k) (hh k) (kk k) (ts k)) : Int) ≤ 1000000 := by omega
        have hxk : (Tm.insL xs (Tm.hdsTo (rsel x) b o h n l k)).length + Tm.sz (.mk (oo k) (hh k) (kk k) (ts k)) ≤ 100000 := by omega
        have call := fun (w1 : World) (hb : Below wr.heap.size wr w1) => ih (oo k) (hh k) (kk k) (b + Tm.belowN o k) (.slice a2 n2 m2) (ts k) (.slice ay ny my) (Tm.insL xs (Tm.hdsTo (rsel x) b o h n l k)) w1 hszk hbn0 hbn1 hxk hnk (hsub.keep hb) (HT.out.ints.below hb)
        have hxb : Below wr.heap.size wr wr.drew := (Below.refl _ _).drew
        have hx0 : Cells8 wr.drew bb w.heap.size (off + k * 4) (.int .i64 (oo k)) (.int .i64 (hh k)) (.int .i64 (kk k)) (.slice a2 n2 m2) (.int .i64 o) (.int .i64 h) (.int .i64 n) (.slice (some ⟨bb, off, none⟩) len cap) :=
          cells8_below hxb ⟨d0, d1, d2, d3, q0, q1, q2, q3⟩
        have hk0 : (0 : Int) ≤ (k : Int) := by omega
        have hk1 : (k : Int) < (len : Int) := by omega
        have hwr : IntKind.i64.wrap (b + Tm.belowN o k) = b + Tm.belowN o k := IntWalk.i64_in _ (by omega)
        clear ih R hsub hst htk hle hln hll hszl hnk hxk hszk hs6
        go_wp2_with fail
        clear d0 d1 d2 d3 q0 q1 q2 q3
        go_region_held3 (fun W => Cells8 W bb w.heap.size (off + k * 4) (.int .i64 (oo k)) (.int .i64 (hh k)) (.int .i64 (kk k)) (.slice a2 n2 m2) (.int .i64 o) (.int .i64 h) (.int .i64 n) (.slice (some ⟨bb, off, none⟩) len cap))
          (first | (with_reducible exact hx0) | (with_reducible exact cells8_below hb3 hx0) | (with_reducible exact cells8_below hb4 (cells8_below hb3 hx0)))
          (first | (go_at_call 80; (with_reducible refine (below_any o h n _ k _).mono ?_); rintro e w3 ⟨rfl, hb3⟩; have hd3 := hxb.trans (hb3.mono hxb.size)) | (go_at_call 59; (with_reducible refine (call _ ?_).mono ?_); (exact hd3); rintro e w4 ⟨v4, rfl, hi4, hb4⟩; obtain ⟨a4, n4, m4, rfl⟩ := hi4.isSlice))
        clear hwr
        go_wp2
        go_roundw
        case rel => exact ⟨k + 1, by omega, by go_num, HT.out.step HST.out hi4 (hd3.trans (hb4.mono hd3.size))⟩
        case measure => simp [RowKit.intOf]; omega
      · obtain rfl : k = len := by omega
        have hall := Tm.hdsTo_all (rsel x) b o h n l k (by rw [HL.out]; exact Nat.le_refl _)
        have HA := Lib.hid hall
        clear hall
        go_wp2
        go_ret
        exact HT.out.done HA.out
  · have E : Hid ((rsel 1 b o h n).toList = []) := by show _ = _; simp [rsel, e1, e2]; omega
    go_enter Try.func59, Try.ntmps59
    go_wp2
    have hst0 : HTo 1 w xs o h n b ao len cap l 0 (.slice au nu mu) (w.alloc (.cells #[.int .i64 o, .int .i64 h, .int .i64 n, .slice ao len cap] 25)) := HTo.start E.out HU.out (Below.refl _ _)
    have ST := Lib.hid hst0
    clear hst0
    go_loopw [3, 9] (fun y i wr => ∃ k : Nat, k ≤ len ∧ i = .int .i64 k ∧ HTo 1 w xs o h n b ao len cap l k y wr) (fun _ i _ => len - (RowKit.intOf i).toNat)
    case atStart => exact ⟨0, Nat.zero_le _, rfl, ST.out⟩
    case round =>
      obtain ⟨k, hk, rfl, T⟩ := hrel
      obtain ⟨ay, ny, my, rfl⟩ := T.ints.isSlice
      have q0 := cell_in T.box 0 (.int .i64 o) rfl
      have q1 := cell_in T.box 1 (.int .i64 h) rfl
      have q2 := cell_in T.box 2 (.int .i64 n) rfl
      have q3 := cell_in T.box 3 (.slice ao len cap) rfl
      have HT := Lib.hid T
      have hbw := T.below
      clear T ST
      by_cases hlt : k < len
      · obtain rfl := R.hao (by omega)
        obtain ⟨d0, d1, d2, d3, hsub⟩ := R.at hbw k hlt
        obtain ⟨a2, n2, m2, hs2⟩ := hsub.isSlice
        rw [hs2] at d3 hsub
        clear hs2
        have hszk := R.size hf k hlt
        have hs6 := R.size_lt (x := o) (y := h) (z := n) k hlt
        have hbl := Tm.belowN_bd o k
        have hkl : k < l.length := by rw [HL.out]; exact hlt
        have hst := Tm.hdsTo_step (rsel 1) b o h n l k hkl
        have htk := Tm.szL_take l k hkl
        have hle := Tm.szL_take_le l (k + 1)
        have hln := Tm.hdsTo_length (rsel 1) b o h n l k
        have hll := Tm.insL_length (Tm.hdsTo (rsel 1) b o h n l k) xs
        rw [R.get k hlt] at hst htk
        have HST := Lib.hid hst
        have hszl : Tm.sz (.mk o h n l) = 1 + Tm.szL l := by simp [Tm.sz]
        have hnk := Tm.numsL_mem HNL.out (R.mem k hlt)
        have hbn0 : 0 ≤ b + Tm.belowN o k := by omega
        have hbn1 : b + Tm.belowN o k + (Tm.sz (.mk (oo k) (hh k) (kk k) (ts k)) : Int) ≤ 1000000 := by omega
        have hxk : (Tm.insL xs (Tm.hdsTo (rsel 1) b o h n l k)).length + Tm.sz (.mk (oo k) (hh k) (kk k) (ts k)) ≤ 100000 := by omega
        have call := fun (w1 : World) (hb : Below wr.heap.size wr w1) => ih (oo k) (hh k) (kk k) (b + Tm.belowN o k) (.slice a2 n2 m2) (ts k) (.slice ay ny my) (Tm.insL xs (Tm.hdsTo (rsel 1) b o h n l k)) w1 hszk hbn0 hbn1 hxk hnk (hsub.keep hb) (HT.out.ints.below hb)
        have hxb : Below wr.heap.size wr wr.drew := (Below.refl _ _).drew
        have hx0 : Cells8 wr.drew bb w.heap.size (off + k * 4) (.int .i64 (oo k)) (.int .i64 (hh k)) (.int .i64 (kk k)) (.slice a2 n2 m2) (.int .i64 o) (.int .i64 h) (.int .i64 n) (.slice (some ⟨bb, off, none⟩) len cap) :=
          cells8_below hxb ⟨d0, d1, d2, d3, q0, q1, q2, q3⟩
        have hk0 : (0 : Int) ≤ (k : Int) := by omega
        have hk1 : (k : Int) < (len : Int) := by omega
        have hwr : IntKind.i64.wrap (b + Tm.belowN o k) = b + Tm.belowN o k := IntWalk.i64_in _ (by omega)
        clear ih R hsub hst htk hle hln hll hszl hnk hxk hszk hs6
        go_wp2_with fail
        clear d0 d1 d2 d3 q0 q1 q2 q3
        go_region_held3 (fun W => Cells8 W bb w.heap.size (off + k * 4) (.int .i64 (oo k)) (.int .i64 (hh k)) (.int .i64 (kk k)) (.slice a2 n2 m2) (.int .i64 o) (.int .i64 h) (.int .i64 n) (.slice (some ⟨bb, off, none⟩) len cap))
          (first | (with_reducible exact hx0) | (with_reducible exact cells8_below hb3 hx0) | (with_reducible exact cells8_below hb4 (cells8_below hb3 hx0)))
          (first | (go_at_call 80; (with_reducible refine (below_any o h n _ k _).mono ?_); rintro e w3 ⟨rfl, hb3⟩; have hd3 := hxb.trans (hb3.mono hxb.size)) | (go_at_call 59; (with_reducible refine (call _ ?_).mono ?_); (exact hd3); rintro e w4 ⟨v4, rfl, hi4, hb4⟩; obtain ⟨a4, n4, m4, rfl⟩ := hi4.isSlice))
        clear hwr
        go_wp2
        go_roundw
        case rel => exact ⟨k + 1, by omega, by go_num, HT.out.step HST.out hi4 (hd3.trans (hb4.mono hd3.size))⟩
        case measure => simp [RowKit.intOf]; omega
      · obtain rfl : k = len := by omega
        have hall := Tm.hdsTo_all (rsel 1) b o h n l k (by rw [HL.out]; exact Nat.le_refl _)
        have HA := Lib.hid hall
        clear hall
        go_wp2
        go_ret
        exact HT.out.done HA.out
  · have E : Hid ((rsel 1 b o h n).toList = [n - b]) := by show _ = _; simp [rsel, e1, e2, e3]
    have call := put_any (.slice au nu mu) xs (n - b) _ HU.out hlx
    go_enter Try.func59, Try.ntmps59
    go_wp2_with (go_at_call 79; (with_reducible refine call.mono ?_); rintro e w1 ⟨v1, rfl, hi1, hb1'⟩; obtain ⟨a1, n1, m1, rfl⟩ := hi1.isSlice; have z := Lib.hid (heap_kept hb1' (heap_alloc_new w _)))
    have hst0 : HTo 1 w xs o h n b ao len cap l 0 (.slice a1 n1 m1) w1 := HTo.start E.out hi1 hb1'
    clear call hi1
    have ST := Lib.hid hst0
    clear hst0
    go_loopw [3, 9] (fun y i wr => ∃ k : Nat, k ≤ len ∧ i = .int .i64 k ∧ HTo 1 w xs o h n b ao len cap l k y wr) (fun _ i _ => len - (RowKit.intOf i).toNat)
    case atStart => exact ⟨0, Nat.zero_le _, rfl, ST.out⟩
    case round =>
      obtain ⟨k, hk, rfl, T⟩ := hrel
      obtain ⟨ay, ny, my, rfl⟩ := T.ints.isSlice
      have q0 := cell_in T.box 0 (.int .i64 o) rfl
      have q1 := cell_in T.box 1 (.int .i64 h) rfl
      have q2 := cell_in T.box 2 (.int .i64 n) rfl
      have q3 := cell_in T.box 3 (.slice ao len cap) rfl
      have HT := Lib.hid T
      have hbw := T.below
      clear T ST
      by_cases hlt : k < len
      · obtain rfl := R.hao (by omega)
        obtain ⟨d0, d1, d2, d3, hsub⟩ := R.at hbw k hlt
        obtain ⟨a2, n2, m2, hs2⟩ := hsub.isSlice
        rw [hs2] at d3 hsub
        clear hs2
        have hszk := R.size hf k hlt
        have hs6 := R.size_lt (x := o) (y := h) (z := n) k hlt
        have hbl := Tm.belowN_bd o k
        have hkl : k < l.length := by rw [HL.out]; exact hlt
        have hst := Tm.hdsTo_step (rsel 1) b o h n l k hkl
        have htk := Tm.szL_take l k hkl
        have hle := Tm.szL_take_le l (k + 1)
        have hln := Tm.hdsTo_length (rsel 1) b o h n l k
        have hll := Tm.insL_length (Tm.hdsTo (rsel 1) b o h n l k) xs
        rw [R.get k hlt] at hst htk
        have HST := Lib.hid hst
        have hszl : Tm.sz (.mk o h n l) = 1 + Tm.szL l := by simp [Tm.sz]
        have hnk := Tm.numsL_mem HNL.out (R.mem k hlt)
        have hbn0 : 0 ≤ b + Tm.belowN o k := by omega
        have hbn1 : b + Tm.belowN o k + (Tm.sz (.mk (oo k) (hh k) (kk k) (ts k)) : Int) ≤ 1000000 := by omega
        have hxk : (Tm.insL xs (Tm.hdsTo (rsel 1) b o h n l k)).length + Tm.sz (.mk (oo k) (hh k) (kk k) (ts k)) ≤ 100000 := by omega
        have call := fun (w1 : World) (hb : Below wr.heap.size wr w1) => ih (oo k) (hh k) (kk k) (b + Tm.belowN o k) (.slice a2 n2 m2) (ts k) (.slice ay ny my) (Tm.insL xs (Tm.hdsTo (rsel 1) b o h n l k)) w1 hszk hbn0 hbn1 hxk hnk (hsub.keep hb) (HT.out.ints.below hb)
        have hxb : Below wr.heap.size wr wr.drew := (Below.refl _ _).drew
        have hx0 : Cells8 wr.drew bb w.heap.size (off + k * 4) (.int .i64 (oo k)) (.int .i64 (hh k)) (.int .i64 (kk k)) (.slice a2 n2 m2) (.int .i64 o) (.int .i64 h) (.int .i64 n) (.slice (some ⟨bb, off, none⟩) len cap) :=
          cells8_below hxb ⟨d0, d1, d2, d3, q0, q1, q2, q3⟩
        have hk0 : (0 : Int) ≤ (k : Int) := by omega
        have hk1 : (k : Int) < (len : Int) := by omega
        have hwr : IntKind.i64.wrap (b + Tm.belowN o k) = b + Tm.belowN o k := IntWalk.i64_in _ (by omega)
        clear ih R hsub hst htk hle hln hll hszl hnk hxk hszk hs6
        go_wp2_with fail
        clear d0 d1 d2 d3 q0 q1 q2 q3
        go_region_held3 (fun W => Cells8 W bb w.heap.size (off + k * 4) (.int .i64 (oo k)) (.int .i64 (hh k)) (.int .i64 (kk k)) (.slice a2 n2 m2) (.int .i64 o) (.int .i64 h) (.int .i64 n) (.slice (some ⟨bb, off, none⟩) len cap))
          (first | (with_reducible exact hx0) | (with_reducible exact cells8_below hb3 hx0) | (with_reducible exact cells8_below hb4 (cells8_below hb3 hx0)))
          (first | (go_at_call 80; (with_reducible refine (below_any o h n _ k _).mono ?_); rintro e w3 ⟨rfl, hb3⟩; have hd3 := hxb.trans (hb3.mono hxb.size)) | (go_at_call 59; (with_reducible refine (call _ ?_).mono ?_); (exact hd3); rintro e w4 ⟨v4, rfl, hi4, hb4⟩; obtain ⟨a4, n4, m4, rfl⟩ := hi4.isSlice))
        clear hwr
        go_wp2
        go_roundw
        case rel => exact ⟨k + 1, by omega, by go_num, HT.out.step HST.out hi4 (hd3.trans (hb4.mono hd3.size))⟩
        case measure => simp [RowKit.intOf]; omega
      · obtain rfl : k = len := by omega
        have hall := Tm.hdsTo_all (rsel 1) b o h n l k (by rw [HL.out]; exact Nat.le_refl _)
        have HA := Lib.hid hall
        clear hall
        go_wp2
        go_ret
        exact HT.out.done HA.out

theorem heads_calls (S : Nat → Prop) (x : Int) (hx1 : 1 ≤ x) (hx2 : x ≤ 3) : ∀ (f : Nat) (o h n b : Int) (v : Value) (l : List Tm) (u : Value) (xs : List Int) (w : World), Tm.sz (.mk o h n l) ≤ f → 0 ≤ b → b + (Tm.sz (.mk o h n l) : Int) ≤ 1000000 → xs.length + Tm.sz (.mk o h n l) ≤ 100000 → Tm.nums (.mk o h n l) = true → Lies w S v l → IntsN w u xs →
      Calls Try.prog 59 #[.agg #[.int .i64 o, .int .i64 h, .int .i64 n, v], .int .i64 x, .int .i64 b, u] w (GivesInts w (Tm.insL xs (Tm.hds (rsel x) b (.mk o h n l))))
  | 0, o, h, n, _, _, l, _, _, _, hf, _, _, _, _, _, _ => by have := Tm.sz_pos (.mk o h n l); omega
  | f + 1, o, h, n, b, v, l, u, xs, w, hf, hb0, hb1, hxs, hn, hv, hu => heads_walk S x hx1 hx2 f (heads_calls S x hx1 hx2 f) o h n b v l u xs w hf hb0 hb1 hxs hn hv hu
end Go.Proofs.Yteoheeddjddekaa
