/- The contract of the reference's SameAll, for two rows of the same terms. -/
import Derived.Test.YtnooeaefldklaaaTmSame
import Derived.Test.YtnooeaefldklaaaTmBack
namespace Go.Proofs.Ytnooeaefldklaaa
open Go.RowKit
set_option linter.unusedSimpArgs false
set_option linter.unusedVariables false

abbrev Cells44 (W : World) (b j c m : Nat) (u1 u2 u3 u4 u5 u6 u7 u8 : Value) : Prop :=
  (W.cell? ⟨b, j, none⟩ = some u1 ∧ W.cell? ⟨b, j + 1, none⟩ = some u2 ∧ W.cell? ⟨b, j + 2, none⟩ = some u3 ∧ W.cell? ⟨b, j + 3, none⟩ = some u4) ∧ W.cell? ⟨c, m, none⟩ = some u5 ∧ W.cell? ⟨c, m + 1, none⟩ = some u6 ∧ W.cell? ⟨c, m + 2, none⟩ = some u7 ∧ W.cell? ⟨c, m + 3, none⟩ = some u8
theorem cells44_below {W W' : World} {b j c m : Nat} {u1 u2 u3 u4 u5 u6 u7 u8 : Value} (hb : Below W.heap.size W W') (x : Cells44 W b j c m u1 u2 u3 u4 u5 u6 u7 u8) : Cells44 W' b j c m u1 u2 u3 u4 u5 u6 u7 u8 := by
  obtain ⟨⟨x1, x2, x3, x4⟩, x5, x6, x7, x8⟩ := x
  exact ⟨⟨kept_cell hb x1, kept_cell hb x2, kept_cell hb x3, kept_cell hb x4⟩, kept_cell hb x5, kept_cell hb x6, kept_cell hb x7, kept_cell hb x8⟩

set_option maxHeartbeats 4000000 in
set_option maxRecDepth 100000 in
theorem sameAll_true (v v' : Value) (ds : List Tm) (w : World) (hv : Lies w (fun _ => True) v ds) (hv' : Lies w (fun _ => True) v' ds) :
    Calls Try.prog 38 #[v, v'] w fun e w' => e = .returned (.bool true) ∧ Below w.heap.size w w' := by
  obtain ⟨ad, bb, off, len, cap, oo, hh, kk, sv, ts, rfl, R⟩ := hv.open
  obtain ⟨ad', bb', off', len', cap', oo', hh', kk', sv', ts', rfl, R'⟩ := hv'.open
  obtain rfl : len = len' := by rw [← R.length, ← R'.length]
  have hl9 : len ≤ 9223372036854775807 := Nat.le_trans R.hl R.hr
  have HR := Lib.hid R
  have HR' := Lib.hid R'
  clear hv hv' R R'
  go_enter Try.func38, Try.ntmps38
  go_wp2_with fail
  go_loopw [5] (fun i wr => ∃ k : Nat, k ≤ len ∧ i = .int .i64 k ∧ Below w.heap.size w wr) (fun i _ => len - (RowKit.intOf i).toNat)
  case atStart => exact ⟨0, Nat.zero_le _, rfl, Below.refl _ _⟩
  case round =>
    obtain ⟨k, hk, rfl, hbr⟩ := hrel
    by_cases hlt : k < len
    · obtain rfl := HR.out.hao (by omega)
      obtain rfl := HR'.out.hao (by omega)
      obtain ⟨d0, d1, d2, d3, hs⟩ := HR.out.at hbr k hlt
      obtain ⟨e0, e1, e2, e3, hs'⟩ := HR'.out.at hbr k hlt
      have heq : Tm.mk (oo k) (hh k) (kk k) (ts k) = .mk (oo' k) (hh' k) (kk' k) (ts' k) := (HR.out.get k hlt).symm.trans (HR'.out.get k hlt)
      have ca := fun (w1 : World) (hb : Below wr.heap.size wr w1) => same_any (fun _ => True) (fun _ => True) (oo k) (hh k) (kk k) (oo' k) (hh' k) (kk' k) (sv k) (sv' k) (ts k) (ts' k) w1 (hs.keep hb) (hs'.keep hb)
      rw [(Tm.same_iff _ _).2 heq] at ca
      obtain ⟨a6, n6, m6, hsv⟩ := hs.isSlice
      obtain ⟨a7, n7, m7, hsv'⟩ := hs'.isSlice
      rw [hsv] at d3 ca
      rw [hsv'] at e3 ca
      have hdr : Below wr.heap.size wr wr.drew := (Below.refl _ _).drew
      have hx0 : Cells44 wr.drew bb (off + k * 4) bb' (off' + k * 4) (.int .i64 (oo k)) (.int .i64 (hh k)) (.int .i64 (kk k)) (.slice a6 n6 m6) (.int .i64 (oo' k)) (.int .i64 (hh' k)) (.int .i64 (kk' k)) (.slice a7 n7 m7) := cells44_below hdr ⟨⟨d0, d1, d2, d3⟩, e0, e1, e2, e3⟩
      have hk0 : (0 : Int) ≤ (k : Int) := by omega
      have hk1 : (k : Int) < (len : Int) := by omega
      clear heq hs hs'
      go_wp2_with fail
      clear d0 d1 d2 d3 e0 e1 e2 e3
      go_region_held3 (fun W => Cells44 W bb (off + k * 4) bb' (off' + k * 4) (.int .i64 (oo k)) (.int .i64 (hh k)) (.int .i64 (kk k)) (.slice a6 n6 m6) (.int .i64 (oo' k)) (.int .i64 (hh' k)) (.int .i64 (kk' k)) (.slice a7 n7 m7))
        (first | (with_reducible exact hx0) | (with_reducible exact cells44_below hb8 hx0))
        (first | (go_at_call 36; (with_reducible refine (ca _ hdr).mono ?_); rintro e w8 ⟨rfl, hb8⟩))
      have hb8' : Below wr.heap.size wr w8 := hdr.trans hb8
      go_wp2_with fail
      go_roundw
      case rel => exact ⟨k + 1, by omega, by go_num, hbr.trans (hb8'.mono hbr.size)⟩
      case measure => simp [RowKit.intOf]; omega
    · obtain rfl : k = len := by omega
      go_wp2_with fail
      go_ret
      exact ⟨rfl, hbr⟩
end Go.Proofs.Ytnooeaefldklaaa
