/- The contract of slices.CompareFunc over term.compare, and of term.Compare. -/
import Derived.Test.YtnooeaefldklaaaTmOrdT
namespace Go.Proofs.Ytnooeaefldklaaa
open Go.RowKit
set_option linter.unusedSimpArgs false
set_option linter.unusedVariables false

set_option maxHeartbeats 4000000 in
set_option maxRecDepth 100000 in
theorem cmpF_any (f : Nat) (ih : ∀ (o h n o' h' n' : Int) (v v' : Value) (l l' : List Tm) (w : World), Tm.sz (.mk o h n l) ≤ f → Lies w (fun _ => True) v l → Lies w (fun _ => True) v' l' →
      Calls Try.prog 75 #[.agg #[.int .i64 o, .int .i64 h, .int .i64 n, v], .agg #[.int .i64 o', .int .i64 h', .int .i64 n', v']] w fun e w' => e = .returned (.int .i64 (Tm.ord (.mk o h n l) (.mk o' h' n' l'))) ∧ Below w.heap.size w w')
    (v v' : Value) (l l' : List Tm) (w : World) (hf : Tm.szL l ≤ f) (hv : Lies w (fun _ => True) v l) (hv' : Lies w (fun _ => True) v' l') (hlen : l.length = l'.length) :
    Calls Try.prog 93 #[v, v', .func (.func 75) #[] #[]] w fun e w' => e = .returned (.int .i64 (Tm.ordL l l')) ∧ Below w.heap.size w w' := by
  cases hv with
  | row ao b off len cap oo hh kk sv ts hao hS hl hr c0 c1 c2 c3 r0 r1 r2 sub =>
  cases hv' with
  | row ao' b' off' len' cap' oo' hh' kk' sv' ts' hao' hS' hl' hr' c0' c1' c2' c3' r0' r1' r2' sub' =>
  have el : len = len' := by simpa using hlen
  subst el
  clear hlen
  have HSUB := Lib.hid sub
  have HSUB' := Lib.hid sub'
  have hsz : ∀ k, k < len → Tm.sz (.mk (oo k) (hh k) (kk k) (ts k)) ≤ f := fun k hk =>
    Nat.le_trans (Tm.szL_le_of_mem (l := (List.range len).map fun i => .mk (oo i) (hh i) (kk i) (ts i)) (List.mem_map.2 ⟨k, by simpa using hk, rfl⟩)) hf
  have HSZ := Lib.hid hsz
  clear hsz hf sub sub'
  go_enter Try.func93, Try.ntmps93
  go_wp2_with fail
  go_loopw [7, 8, 9, 10, 13] (fun _ _ _ _ i wr => ∃ k : Nat, k ≤ len ∧ i = .int .i64 k ∧ Below w.heap.size w wr ∧ Hid (Tm.ordL ((List.range len).map fun i => .mk (oo i) (hh i) (kk i) (ts i)) ((List.range len).map fun i => .mk (oo' i) (hh' i) (kk' i) (ts' i)) = Tm.ordL (((List.range len).map fun i => .mk (oo i) (hh i) (kk i) (ts i)).drop k) (((List.range len).map fun i => .mk (oo' i) (hh' i) (kk' i) (ts' i)).drop k)))
    (fun _ _ _ _ i _ => len - (intOf i).toNat)
  case atStart => exact ⟨0, Nat.zero_le _, rfl, Below.refl _ _, rfl⟩
  case round =>
    obtain ⟨k, hk, rfl, hb, hs⟩ := hrel
    by_cases hlt : k < len
    · obtain rfl := hao (by omega)
      obtain rfl := hao' (by omega)
      have g := fun {p : Addr} {u : Value} => kept_cell hb (p := p) (u := u)
      have d0 := g (c0 k hlt)
      have d1 := g (c1 k hlt)
      have d2 := g (c2 k hlt)
      have d3 := g (c3 k hlt)
      have hu := HSUB.out k hlt
      have hu' := HSUB'.out k hlt
      obtain ⟨a3, n3, m3, e3⟩ := hu.isSlice
      obtain ⟨a4, n4, m4, e4⟩ := hu'.isSlice
      rw [e3] at d3 hu
      rw [e4] at hu'
      have b2 := two_below wr (.cells #[.int .i64 (oo k), .int .i64 (hh k), .int .i64 (kk k), .slice a3 n3 m3] 24) (.cells #[.int .i64 (oo' k), .int .i64 (hh' k), .int .i64 (kk' k), .slice a4 n4 m4] 24)
      have b1 := one_below wr (.cells #[.int .i64 (oo k), .int .i64 (hh k), .int .i64 (kk k), .slice a3 n3 m3] 24)
      have g1 := fun {p : Addr} {u : Value} => kept_cell (below_next hb b1) (p := p) (u := u)
      have d0' := g1 (c0' k hlt)
      have d1' := g1 (c1' k hlt)
      have d2' := g1 (c2' k hlt)
      have d3' := g1 (c3' k hlt)
      rw [e4] at d3'
      clear g g1 c0 c1 c2 c3 c0' c1' c2' c3'
      have HN := Lib.hid (hs.out.trans (ordL_at (g := fun i => .mk (oo i) (hh i) (kk i) (ts i)) (g' := fun i => .mk (oo' i) (hh' i) (kk' i) (ts' i)) hlt))
      have hB := below_next hb b2
      have call := ih (oo k) (hh k) (kk k) (oo' k) (hh' k) (kk' k) (.slice a3 n3 m3) (.slice a4 n4 m4) (ts k) (ts' k) _ (HSZ.out k hlt) (hu.keep hB) (hu'.keep hB)
      clear hs e3 e4 hu hu'
      go_wp2_with fail
      by_cases h0 : Tm.ord (.mk (oo k) (hh k) (kk k) (ts k)) (.mk (oo' k) (hh' k) (kk' k) (ts' k)) = 0
      · rw [h0] at call
        have HN' : Hid _ := Lib.hid (HN.out.trans (by rw [h0, Tm.pick, if_pos rfl]))
        clear HN h0
        refine call.mono ?_
        rintro e w1 ⟨rfl, hb1⟩
        go_wp2_with fail
        go_roundw
        case rel => exact ⟨k + 1, by omega, by go_num, below_next hB hb1, HN'⟩
        case measure => simp [intOf]; omega
      · have HN' : Hid _ := Lib.hid (HN.out.trans (by rw [Tm.pick, if_neg h0]))
        clear HN
        generalize Tm.ord (.mk (oo k) (hh k) (kk k) (ts k)) (.mk (oo' k) (hh' k) (kk' k) (ts' k)) = x at *
        refine call.mono ?_
        rintro e w1 ⟨rfl, hb1⟩
        go_wp2_with fail
        go_ret
        exact ⟨ret_int HN'.out.symm, below_next hB hb1⟩
    · obtain rfl : k = len := by omega
      have HN := Lib.hid (hs.out.trans ordL_end)
      clear hs c0 c1 c2 c3 c0' c1' c2' c3'
      go_wp2_with fail
      go_ret
      exact ⟨ret_int HN.out.symm, hb⟩

/-- term.compare is the order of two terms that lie in memory. -/
theorem cmpT_calls : ∀ (f : Nat) (o h n o' h' n' : Int) (v v' : Value) (l l' : List Tm) (w : World), Tm.sz (.mk o h n l) ≤ f → Lies w (fun _ => True) v l → Lies w (fun _ => True) v' l' →
    Calls Try.prog 75 #[.agg #[.int .i64 o, .int .i64 h, .int .i64 n, v], .agg #[.int .i64 o', .int .i64 h', .int .i64 n', v']] w fun e w' => e = .returned (.int .i64 (Tm.ord (.mk o h n l) (.mk o' h' n' l'))) ∧ Below w.heap.size w w'
  | 0, o, h, n, _, _, _, _, _, l, _, _, hf, _, _ => by have := Tm.sz_pos (.mk o h n l); omega
  | f + 1, o, h, n, o', h', n', v, v', l, l', w, hf, hv, hv' =>
    cmpT_walk o h n o' h' n' v v' l l' w hv hv' fun hl w1 hb => cmpF_any f (cmpT_calls f) v v' l l' w1 (by simp only [Tm.sz] at hf; omega) (hv.keep hb) (hv'.keep hb) hl

end Go.Proofs.Ytnooeaefldklaaa
