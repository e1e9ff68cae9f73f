/- The contract of trussref03.Compare: the order of two terms that lie in memory. -/
import Derived.Test.YtnooeaefldklaaaTmOrdA
import Derived.Test.YtnooeaefldklaaaTmSameT
namespace Go.Proofs.Ytnooeaefldklaaa
open Go.RowKit
set_option linter.unusedSimpArgs false
set_option linter.unusedVariables false

theorem ordL_at {len k : Nat} {g g' : Nat → Tm} (hk : k < len) : Tm.ordL (((List.range len).map g).drop k) (((List.range len).map g').drop k) = Tm.pick (Tm.ord (g k) (g' k)) (Tm.ordL (((List.range len).map g).drop (k + 1)) (((List.range len).map g').drop (k + 1))) := by
  rw [List.drop_eq_getElem_cons (by simpa using hk), List.drop_eq_getElem_cons (l := (List.range len).map g') (by simpa using hk), Tm.ordL]
  simp
theorem ordL_end {len : Nat} {g g' : Nat → Tm} : Tm.ordL (((List.range len).map g).drop len) (((List.range len).map g').drop len) = 0 := by
  rw [List.drop_of_length_le (by simp), List.drop_of_length_le (by simp), Tm.ordL]

set_option maxHeartbeats 4000000 in
set_option maxRecDepth 100000 in
theorem cmpR_walk (S S' : Nat → Prop) (f : Nat) (ih : ∀ (o h n o' h' n' : Int) (v v' : Value) (l l' : List Tm) (w : World), Tm.sz (.mk o h n l) ≤ f → Lies w S v l → Lies w S' v' l' →
      Calls Try.prog 45 #[.agg #[.int .i64 o, .int .i64 h, .int .i64 n, v], .agg #[.int .i64 o', .int .i64 h', .int .i64 n', v']] w fun e w' => e = .returned (.int .i64 (Tm.ord (.mk o h n l) (.mk o' h' n' l'))) ∧ Below w.heap.size w w')
    (o h n o' h' n' : Int) (v v' : Value) (l l' : List Tm) (w : World) (hf : Tm.sz (.mk o h n l) ≤ f + 1) (hv : Lies w S v l) (hv' : Lies w S' v' l') :
    Calls Try.prog 45 #[.agg #[.int .i64 o, .int .i64 h, .int .i64 n, v], .agg #[.int .i64 o', .int .i64 h', .int .i64 n', v']] w fun e w' => e = .returned (.int .i64 (Tm.ord (.mk o h n l) (.mk o' h' n' l'))) ∧ Below w.heap.size w w' := by
  rw [Tm.ord_or4]
  cases hv with
  | row ao b off len cap oo hh kk sv ts hao hS hl hr c0 c1 c2 c3 r0 r1 r2 sub =>
  cases hv' with
  | row ao' b' off' len' cap' oo' hh' kk' sv' ts' hao' hS' hl' hr' c0' c1' c2' c3' r0' r1' r2' sub' =>
  simp only [List.length_map, List.length_range]
  obtain ⟨s0, e0⟩ : ∃ s, s = Tm.sgn o o' := ⟨_, rfl⟩
  obtain ⟨s1, e1⟩ : ∃ s, s = Tm.sgn h h' := ⟨_, rfl⟩
  obtain ⟨s2, e2⟩ : ∃ s, s = Tm.sgn n n' := ⟨_, rfl⟩
  obtain ⟨s3, e3⟩ : ∃ s, s = Tm.sgn len len' := ⟨_, rfl⟩
  rw [← e0, ← e1, ← e2, ← e3]
  have g0 := fun w => sign_any o o' w
  have g1 := fun w => sign_any h h' w
  have g2 := fun w => sign_any n n' w
  have g3 := fun w => sign_any len len' w
  rw [← e0] at g0
  rw [← e1] at g1
  rw [← e2] at g2
  rw [← e3] at g3
  have E3 := Lib.hid ((Tm.sgn_eq len len').1 ∘ e3.symm.trans)
  clear e0 e1 e2 e3
  go_enter Try.func45, Try.ntmps45
  go_upto_region 1 with fail
  have hb0 := two_below w (.cells #[.int .i64 o, .int .i64 h, .int .i64 n, .slice ao len cap] 24) (.cells #[.int .i64 o', .int .i64 h', .int .i64 n', .slice ao' len' cap'] 24)
  obtain ⟨q, q'⟩ := two_boxes (Below.refl (w.heap.size + 2) ((w.alloc (.cells #[.int .i64 o, .int .i64 h, .int .i64 n, .slice ao len cap] 24)).alloc (.cells #[.int .i64 o', .int .i64 h', .int .i64 n', .slice ao' len' cap'] 24)))
  have hs0 : ((w.alloc (.cells #[.int .i64 o, .int .i64 h, .int .i64 n, .slice ao len cap] 24)).alloc (.cells #[.int .i64 o', .int .i64 h', .int .i64 n', .slice ao' len' cap'] 24)).heap.size = w.heap.size + 2 := by simp
  generalize (w.alloc (.cells #[.int .i64 o, .int .i64 h, .int .i64 n, .slice ao len cap] 24)).alloc (.cells #[.int .i64 o', .int .i64 h', .int .i64 n', .slice ao' len' cap'] 24) = W0 at *
  have hS0 : CellsP8 W0.drew ⟨w.heap.size, 0, none⟩ ⟨w.heap.size, 1, none⟩ ⟨w.heap.size, 2, none⟩ ⟨w.heap.size, 3, none⟩ ⟨w.heap.size + 1, 0, none⟩ ⟨w.heap.size + 1, 1, none⟩ ⟨w.heap.size + 1, 2, none⟩ ⟨w.heap.size + 1, 3, none⟩ (.int .i64 o) (.int .i64 h) (.int .i64 n) (.slice ao len cap) (.int .i64 o') (.int .i64 h') (.int .i64 n') (.slice ao' len' cap') :=
    cellsP8_below (Below.refl _ _).drew ⟨q 0 _ rfl, q 1 _ rfl, q 2 _ rfl, q 3 _ rfl, q' 0 _ rfl, q' 1 _ rfl, q' 2 _ rfl, q' 3 _ rfl⟩
  have hBA := ((Below.refl W0.heap.size W0).alloc (Nat.le_refl _) (.cells #[.int .i64 s0, .int .i64 s1, .int .i64 s2, .int .i64 s3] 3)).drew
  have hS1 : CellsP8 (W0.alloc (.cells #[.int .i64 s0, .int .i64 s1, .int .i64 s2, .int .i64 s3] 3)).drew ⟨w.heap.size, 0, none⟩ ⟨w.heap.size, 1, none⟩ ⟨w.heap.size, 2, none⟩ ⟨w.heap.size, 3, none⟩ ⟨w.heap.size + 1, 0, none⟩ ⟨w.heap.size + 1, 1, none⟩ ⟨w.heap.size + 1, 2, none⟩ ⟨w.heap.size + 1, 3, none⟩ (.int .i64 o) (.int .i64 h) (.int .i64 n) (.slice ao len cap) (.int .i64 o') (.int .i64 h') (.int .i64 n') (.slice ao' len' cap') :=
    cellsP8_below hBA ⟨q 0 _ rfl, q 1 _ rfl, q 2 _ rfl, q 3 _ rfl, q' 0 _ rfl, q' 1 _ rfl, q' 2 _ rfl, q' 3 _ rfl⟩
  clear q q'
  go_region_held3 (fun W => CellsP8 W ⟨w.heap.size, 0, none⟩ ⟨w.heap.size, 1, none⟩ ⟨w.heap.size, 2, none⟩ ⟨w.heap.size, 3, none⟩ ⟨w.heap.size + 1, 0, none⟩ ⟨w.heap.size + 1, 1, none⟩ ⟨w.heap.size + 1, 2, none⟩ ⟨w.heap.size + 1, 3, none⟩ (.int .i64 o) (.int .i64 h) (.int .i64 n) (.slice ao len cap) (.int .i64 o') (.int .i64 h') (.int .i64 n') (.slice ao' len' cap'))
    (first | (with_reducible exact hS0) | (with_reducible exact hS1))
    (first | (go_at_call 76; (with_reducible refine (g0 _).mono ?_); rintro e w1 ⟨rfl, rfl⟩) | (go_at_call 76; (with_reducible refine (g1 _).mono ?_); rintro e w1 ⟨rfl, rfl⟩) | (go_at_call 76; (with_reducible refine (g2 _).mono ?_); rintro e w1 ⟨rfl, rfl⟩) | (go_at_call 76; (with_reducible refine (g3 _).mono ?_); rintro e w1 ⟨rfl, rfl⟩))
  have hrow := heap_alloc_new W0 (.cells #[.int .i64 s0, .int .i64 s1, .int .i64 s2, .int .i64 s3] 3)
  have HB1 := Lib.hid (below_next hb0 hBA)
  have hrow' : (W0.alloc (.cells #[.int .i64 s0, .int .i64 s1, .int .i64 s2, .int .i64 s3] 3)).drew.heap[W0.heap.size]? = some (.cells #[.int .i64 s0, .int .i64 s1, .int .i64 s2, .int .i64 s3] 3 (0, 0)) := hrow
  generalize (W0.alloc (.cells #[.int .i64 s0, .int .i64 s1, .int .i64 s2, .int .i64 s3] 3)).drew = W1 at *
  rw [hs0] at hrow'
  have c : ∀ k, k < 4 → W1.cell? ⟨w.heap.size + 2, k, none⟩ = some (.int .i64 (Tm.hd4 s0 s1 s2 s3 k)) := fun k hk => by
    rcases (by omega : k = 0 ∨ k = 1 ∨ k = 2 ∨ k = 3) with rfl | rfl | rfl | rfl
    · exact cell_in hrow' 0 _ rfl
    · exact cell_in hrow' 1 _ rfl
    · exact cell_in hrow' 2 _ rfl
    · exact cell_in hrow' 3 _ rfl
  have C := Lib.hid c
  have HS1 := Lib.hid hS1
  have HSUB := Lib.hid sub
  have HSUB' := Lib.hid sub'
  clear hS0 hS1 c hrow hrow' hBA hs0 hb0 g0 g1 g2 g3
  go_wp2_with fail
  go_loopw [6] (fun i wr => ∃ k : Nat, k ≤ 4 ∧ i = .int .i64 k ∧ Hid (∀ j, j < k → Tm.hd4 s0 s1 s2 s3 j = 0) ∧ wr = W1) (fun i _ => 4 - (intOf i).toNat)
  case atStart => exact ⟨0, Nat.zero_le _, rfl, Lib.hid (fun j hj => by omega), rfl⟩
  case round =>
    obtain ⟨k, hk, rfl, hz, rfl⟩ := hrel
    by_cases hlt : k < 4
    · have ck := C.out k hlt
      by_cases h0 : Tm.hd4 s0 s1 s2 s3 k = 0
      · have HN := Lib.hid (Tm.hd4_step hz.out h0)
        rw [h0] at ck
        clear h0
        go_wp2_with fail
        go_roundw
        case rel => exact ⟨k + 1, by omega, by go_num, HN, trivial⟩
        case measure => simp [intOf]; omega
      · have hr := Tm.or4_at (r := Tm.ordL ((List.range len).map fun i => .mk (oo i) (hh i) (kk i) (ts i)) ((List.range len').map fun i => .mk (oo' i) (hh' i) (kk' i) (ts' i))) hlt hz.out h0
        have HR := Lib.hid hr
        clear hr hz
        generalize Tm.hd4 s0 s1 s2 s3 k = x at *
        go_wp2_with fail
        go_ret
        exact ⟨ret_int HR.out.symm, HB1.out⟩
    · obtain rfl : k = 4 := by omega
      have hl3 : (len : Int) = len' := E3.out (hz.out 3 (by omega))
      have hln : len = len' := by omega
      subst hln
      have HR := Lib.hid (Tm.or4_all (r := Tm.ordL ((List.range len).map fun i => .mk (oo i) (hh i) (kk i) (ts i)) ((List.range len).map fun i => .mk (oo' i) (hh' i) (kk' i) (ts' i))) hz.out)
      clear hz C E3 hl3
      obtain ⟨W1, rfl⟩ : ∃ x : World, x = wr := ⟨_, rfl⟩
      obtain ⟨y0, y1, y2, y3, y0', y1', y2', y3'⟩ := HS1.out
      rw [show ((4 : Nat) : Int) = 4 from rfl]
      go_wp2_with fail
      go_loopw [7, 8] (fun i _ wr => ∃ k : Nat, k ≤ len ∧ i = .int .i64 k ∧ Below W1.heap.size W1 wr ∧ Hid (Tm.ordL ((List.range len).map fun i => .mk (oo i) (hh i) (kk i) (ts i)) ((List.range len).map fun i => .mk (oo' i) (hh' i) (kk' i) (ts' i)) = Tm.ordL (((List.range len).map fun i => .mk (oo i) (hh i) (kk i) (ts i)).drop k) (((List.range len).map fun i => .mk (oo' i) (hh' i) (kk' i) (ts' i)).drop k)))
        (fun i _ _ => len - (intOf i).toNat)
      case atStart => exact ⟨0, Nat.zero_le _, rfl, Below.refl _ _, rfl⟩
      case round =>
        obtain ⟨k, hk, rfl, hb, hs⟩ := hrel
        have hbw := below_next HB1.out hb
        obtain ⟨q0, q1, q2, q3, q0', q1', q2', q3'⟩ := cellsP8_below hb HS1.out
        clear y0 y1 y2 y3 y0' y1' y2' y3' q0 q1 q2 q0' q1' q2'
        by_cases hlt : k < len
        · obtain rfl := hao (by omega)
          obtain rfl := hao' (by omega)
          have g := fun {p : Addr} {u : Value} => kept_cell hbw (p := p) (u := u)
          have d0 := g (c0 k hlt)
          have d1 := g (c1 k hlt)
          have d2 := g (c2 k hlt)
          have d3 := g (c3 k hlt)
          have d0' := g (c0' k hlt)
          have d1' := g (c1' k hlt)
          have d2' := g (c2' k hlt)
          have d3' := g (c3' k hlt)
          clear g c0 c1 c2 c3 c0' c1' c2' c3'
          have hsub := (HSUB.out k hlt).keep hbw
          have hsub' := (HSUB'.out k hlt).keep hbw
          have HN := Lib.hid (hs.out.trans (ordL_at (g := fun i => .mk (oo i) (hh i) (kk i) (ts i)) (g' := fun i => .mk (oo' i) (hh' i) (kk' i) (ts' i)) hlt))
          go_wp2_with fail
          go_still_tail 10, (by kernel_rfl)
          change wpList _ _ _ _ _ wr.drew
          have hsz : Tm.sz (.mk (oo k) (hh k) (kk k) (ts k)) ≤ f := size_part hf hlt
          have call := ih (oo k) (hh k) (kk k) (oo' k) (hh' k) (kk' k) (sv k) (sv' k) (ts k) (ts' k) wr.drew hsz (hsub.keep (Below.refl _ _).drew) (hsub'.keep (Below.refl _ _).drew)
          by_cases h0 : Tm.ord (.mk (oo k) (hh k) (kk k) (ts k)) (.mk (oo' k) (hh' k) (kk' k) (ts' k)) = 0
          · rw [h0] at call
            have HN' : Hid _ := Lib.hid (HN.out.trans (by rw [h0, Tm.pick, if_pos rfl]))
            clear hs HN h0
            go_wp2_with (go_at_call 45; refine call.mono ?_; rintro e w1 ⟨rfl, hb1⟩)
            go_roundw
            case rel => exact ⟨k + 1, by omega, by go_num, hb.trans (((Below.refl _ _).drew).trans (hb1.mono (by have := hb.size; simpa using this))), HN'⟩
            case measure => simp [intOf]; omega
          · have HN' : Hid _ := Lib.hid (HN.out.trans (by rw [Tm.pick, if_neg h0]))
            clear hs HN
            generalize Tm.ord (.mk (oo k) (hh k) (kk k) (ts k)) (.mk (oo' k) (hh' k) (kk' k) (ts' k)) = x at *
            go_wp2_with (go_at_call 45; refine call.mono ?_; rintro e w1 ⟨rfl, hb1⟩)
            go_ret
            exact ⟨ret_int (by rw [HR.out, HN'.out]), hbw.trans (((Below.refl _ _).drew).trans (hb1.mono hbw.size))⟩
        · obtain rfl : k = len := by omega
          have HN := Lib.hid (hs.out.trans ordL_end)
          clear hs c0 c1 c2 c3 c0' c1' c2' c3'
          go_wp2_with fail
          go_ret
          exact ⟨ret_int (by rw [HR.out, HN.out]), hbw⟩

/-- R.Compare is the order of two terms that lie in memory. -/
theorem cmpR_calls (S S' : Nat → Prop) : ∀ (f : Nat) (o h n o' h' n' : Int) (v v' : Value) (l l' : List Tm) (w : World), Tm.sz (.mk o h n l) ≤ f → Lies w S v l → Lies w S' v' l' →
    Calls Try.prog 45 #[.agg #[.int .i64 o, .int .i64 h, .int .i64 n, v], .agg #[.int .i64 o', .int .i64 h', .int .i64 n', v']] w fun e w' => e = .returned (.int .i64 (Tm.ord (.mk o h n l) (.mk o' h' n' l'))) ∧ Below w.heap.size w w'
  | 0, o, h, n, _, _, _, _, _, l, _, _, hf, _, _ => by have := Tm.sz_pos (.mk o h n l); omega
  | f + 1, o, h, n, o', h', n', v, v', l, l', w, hf, hv, hv' => cmpR_walk S S' f (cmpR_calls S S' f) o h n o' h' n' v v' l l' w hf hv hv'

end Go.Proofs.Ytnooeaefldklaaa
