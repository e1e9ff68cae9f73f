/- The contracts of trussref03.nodes, formed, Proper, Depth, Size. -/
import Derived.Test.YtomahhdhnlfabaaProg
import Derived.Test.YtomahhdhnlfabaaTmPlain
import Derived.Test.YtomahhdhnlfabaaTmSame
namespace Go.Proofs.Ytomahhdhnlfabaa
open Go.RowKit
set_option linter.unusedSimpArgs false
set_option linter.unusedVariables false

theorem ret_int {k : IntKind} {a b : Int} (h : a = b) : Ending.returned (.int k a) = .returned (.int k b) := by rw [h]

theorem one_box {w : World} {x : Array Value} {t : TypeId} {wr : World} (hb : Below (w.heap.size + 1) (w.alloc (.cells x t)) wr) :
    (∀ i u, x[i]? = some u → wr.cell? ⟨w.heap.size, i, none⟩ = some u) := by
  intro i u hu
  rw [hb.cell (by simp), World.cell?_alloc_at _ _ _ _ rfl]; exact hu
theorem one_below (w : World) (p : Obj) : Below w.heap.size w (w.alloc p) := (Below.refl _ _).alloc (Nat.le_refl _) _

/-- the four cells of a term that was boxed, behind a call -/
theorem box4 {w w1 : World} {x y z u : Value} {t : TypeId} (hb : Below (w.alloc (.cells #[x, y, z, u] t)).heap.size (w.alloc (.cells #[x, y, z, u] t)) w1) :
    w1.cell? ⟨w.heap.size, 0, none⟩ = some x ∧ w1.cell? ⟨w.heap.size, 1, none⟩ = some y ∧ w1.cell? ⟨w.heap.size, 2, none⟩ = some z ∧ w1.cell? ⟨w.heap.size, 3, none⟩ = some u := by
  have hq : Below (w.heap.size + 1) (w.alloc (.cells #[x, y, z, u] t)) w1 := by simpa using hb
  exact ⟨one_box hq 0 _ rfl, one_box hq 1 _ rfl, one_box hq 2 _ rfl, one_box hq 3 _ rfl⟩

set_option maxHeartbeats 400000 in
set_option maxRecDepth 100000 in
theorem nodes_walk (S : Nat → Prop) (f : Nat) (ih : ∀ (o h n most : Int) (v : Value) (l : List Tm) (w : World), Tm.sz (.mk o h n l) ≤ f → Lies w S v l → 0 ≤ most → most ≤ 600 →
      Calls Try.prog 46 #[.agg #[.int .i64 o, .int .i64 h, .int .i64 n, v], .int .i64 most] w fun e w' => e = .returned (.int .i64 (Tm.cnt (.mk o h n l) most)) ∧ Below w.heap.size w w')
    (o h n most : Int) (v : Value) (l : List Tm) (w : World) (hf : Tm.sz (.mk o h n l) ≤ f + 1) (hv : Lies w S v l) (hm0 : 0 ≤ most) (hm1 : most ≤ 600) :
    Calls Try.prog 46 #[.agg #[.int .i64 o, .int .i64 h, .int .i64 n, v], .int .i64 most] w fun e w' => e = .returned (.int .i64 (Tm.cnt (.mk o h n l) most)) ∧ Below w.heap.size w w' := by
  obtain ⟨ao, b, off, len, cap, oo, hh, kk, sv, ts, rfl, R⟩ := hv.open
  have HZ := Lib.hid (Tm.cntTo_zero l most hm0)
  have hr := R.hr
  have hl := R.hl
  clear hv
  go_enter Try.func46, Try.ntmps46
  go_wp2
  go_loopw [5, 6] (fun m i wr => ∃ k : Nat, k ≤ len ∧ i = .int .i64 k ∧ m = .int .i64 (Tm.cntTo l k most) ∧ Below (w.heap.size + 1) (w.alloc (.cells #[.int .i64 o, .int .i64 h, .int .i64 n, .slice ao len cap] 24)) wr)
    (fun _ i _ => len - (intOf i).toNat)
  case atStart => exact ⟨0, Nat.zero_le _, rfl, by rw [HZ.out], Below.refl _ _⟩
  case round =>
    obtain ⟨k, hk, rfl, rfl, hb⟩ := hrel
    have q3 := one_box hb 3 _ rfl
    have hbw := (one_below w _).trans (hb.mono (by omega))
    have hbd := Tm.cntTo_bd l k most hm0
    have hlen := R.length
    by_cases hlt : k < len
    · by_cases hle : Tm.cntTo l k most ≤ most
      · obtain rfl := R.hao (by omega)
        obtain ⟨d0, d1, d2, d3, hsub⟩ := R.at hbw k hlt
        have hst := Tm.cntTo_step l k most (by omega) hle
        rw [R.get k hlt] at hst
        have HST := Lib.hid hst
        have hc := Tm.cnt_bd (.mk (oo k) (hh k) (kk k) (ts k)) (most - Tm.cntTo l k most) (by omega)
        have call := ih (oo k) (hh k) (kk k) (most - Tm.cntTo l k most) (sv k) (ts k) wr (R.size hf k hlt) hsub (by omega) (by omega)
        clear hst ih hlen
        go_wp2_with (go_at_call 46; refine call.mono ?_; rintro e w1 ⟨rfl, hb1⟩)
        go_roundw
        case rel => exact ⟨k + 1, by omega, by go_num, by rw [← HST.out], hb.trans (hb1.mono (by simpa using hb.size))⟩
        case measure => simp [intOf]; omega
      · have HF := Lib.hid (Tm.cntTo_full o h n l k most (.inr (by omega)))
        clear hlen
        go_wp2
        go_ret
        exact ⟨ret_int (by rw [← HF.out]), hbw⟩
    · have HF := Lib.hid (Tm.cntTo_full o h n l k most (.inl (by omega)))
      clear hlen
      go_wp2
      go_ret
      exact ⟨ret_int (by rw [← HF.out]), hbw⟩

theorem nodes_calls (S : Nat → Prop) : ∀ (f : Nat) (o h n most : Int) (v : Value) (l : List Tm) (w : World), Tm.sz (.mk o h n l) ≤ f → Lies w S v l → 0 ≤ most → most ≤ 600 →
      Calls Try.prog 46 #[.agg #[.int .i64 o, .int .i64 h, .int .i64 n, v], .int .i64 most] w fun e w' => e = .returned (.int .i64 (Tm.cnt (.mk o h n l) most)) ∧ Below w.heap.size w w'
  | 0, o, h, n, _, _, l, _, hf, _, _, _ => by have := Tm.sz_pos (.mk o h n l); omega
  | f + 1, o, h, n, most, v, l, w, hf, hv, h0, h1 => nodes_walk S f (nodes_calls S f) o h n most v l w hf hv h0 h1

end Go.Proofs.Ytomahhdhnlfabaa
