/- The contract of trussref03.formed. -/
import Derived.Test.YtomahhdhnlfabaaProg
import Derived.Test.YtomahhdhnlfabaaTmPlain
import Derived.Test.YtomahhdhnlfabaaTmProper
namespace Go.Proofs.Ytomahhdhnlfabaa
open Go.RowKit
set_option linter.unusedSimpArgs false
set_option linter.unusedVariables false

set_option maxHeartbeats 400000 in
set_option maxRecDepth 100000 in
theorem formed_bad (o h n : Int) (d : Nat) (v : Value) (l : List Tm) (w : World) (S : Nat → Prop) (hv : Lies w S v l) (e : ¬ d ≤ 40 ∨ (d ≤ 40 ∧ Tm.headOk o h n l.length = false)) :
    Calls Try.prog 47 #[.agg #[.int .i64 o, .int .i64 h, .int .i64 n, v], .int .i64 d] w fun e w' => e = .returned (.bool false) ∧ Below w.heap.size w w' := by
  obtain ⟨ao, b, off, len, cap, oo, hh, kk, sv, ts, rfl, R⟩ := hv.open
  rw [R.length] at e
  clear hv
  rcases e with e | ⟨e0, e⟩
  · go_enter Try.func47, Try.ntmps47
    go_wp2
    go_ret
    exact ⟨rfl, one_below w _⟩
  · rcases Tm.headOk_no o h n len e with ⟨rfl, e | ⟨e1, e⟩ | ⟨e1, e2, e⟩⟩ | ⟨rfl, e | ⟨e1, e⟩ | ⟨e1, e2, e⟩⟩ | ⟨rfl, e | ⟨e1, e⟩ | ⟨e1, e2, e⟩⟩ | ⟨rfl, e | ⟨e1, e⟩ | ⟨e1, e2, e⟩ | ⟨e1, e2, e3, e⟩⟩ | ⟨e1, e2, e3, e⟩
    all_goals
      go_enter Try.func47, Try.ntmps47
      go_wp2
      go_ret
      exact ⟨rfl, one_below w _⟩

set_option maxHeartbeats 1000000 in
set_option maxRecDepth 100000 in
theorem formed_good (S : Nat → Prop) (f : Nat) (ih : ∀ (o h n : Int) (d : Nat) (v : Value) (l : List Tm) (w : World), Tm.sz (.mk o h n l) ≤ f → Lies w S v l → d ≤ 41 →
      Calls Try.prog 47 #[.agg #[.int .i64 o, .int .i64 h, .int .i64 n, v], .int .i64 d] w fun e w' => e = .returned (.bool (Tm.formed (.mk o h n l) d)) ∧ Below w.heap.size w w')
    (o h n : Int) (d : Nat) (v : Value) (l : List Tm) (w : World) (hf : Tm.sz (.mk o h n l) ≤ f + 1) (hv : Lies w S v l) (hd : d ≤ 40) (e : Tm.headOk o h n l.length = true) :
    Calls Try.prog 47 #[.agg #[.int .i64 o, .int .i64 h, .int .i64 n, v], .int .i64 d] w fun e w' => e = .returned (.bool (Tm.formedL l (d + 1))) ∧ Below w.heap.size w w' := by
  obtain ⟨ao, b, off, len, cap, oo, hh, kk, sv, ts, rfl, R⟩ := hv.open
  rw [R.length] at e
  have hr := R.hr
  have hl := R.hl
  clear hv
  rcases Tm.headOk_yes o h n len e with ⟨rfl, e1, rfl, rfl⟩ | ⟨rfl, e1, rfl, rfl⟩ | ⟨rfl, e1, rfl, rfl⟩ | ⟨rfl, g1, g2, g3, g4⟩
  all_goals
    (try have L0 : (((len : Nat) : Int) != 0) = false := by rw [bne_eq_false_iff_eq]; omega)
    (try have L1 : (((len : Nat) : Int) != 1) = false := by rw [bne_eq_false_iff_eq]; omega)
    (try have L2 : (((len : Nat) : Int) != 2) = false := by rw [bne_eq_false_iff_eq]; omega)
    (try clear e1)
    clear e
    go_enter Try.func47, Try.ntmps47
    go_wp2
    go_loopw [5] (fun i wr => ∃ k : Nat, k ≤ len ∧ i = .int .i64 k ∧ Below w.heap.size w wr ∧ wr.cell? ⟨w.heap.size, 3, none⟩ = some (.slice ao len cap) ∧ Tm.FormedTo l (d + 1) k)
      (fun i _ => len - (intOf i).toNat)
    case atStart => exact ⟨0, Nat.zero_le _, rfl, one_below w _, by rw [World.cell?_alloc_at _ _ _ _ rfl]; rfl, Tm.FormedTo.zero _ _⟩
    case round =>
      obtain ⟨k, hk, rfl, hbw, q3, hp⟩ := hrel
      by_cases hlt : k < len
      · obtain rfl := R.hao (by omega)
        obtain ⟨d0, d1, d2, d3, hsub⟩ := R.at hbw k hlt
        have call := ih (oo k) (hh k) (kk k) (d + 1) (sv k) (ts k) wr (R.size hf k hlt) hsub (by omega)
        rcases hr' : Tm.formed (.mk (oo k) (hh k) (kk k) (ts k)) (d + 1) with _ | _
        · have HF := Lib.hid (Tm.formedL_fail l (d + 1) k (by rw [R.length]; exact hlt) (by rw [R.get k hlt]; exact hr'))
          rw [hr'] at call
          clear hr' ih hp
          go_wp2_with (go_at_call 47; refine call.mono ?_; rintro e w1 ⟨rfl, hb1⟩)
          go_ret
          exact ⟨ret_bool (a := false) (by rw [HF.out]), hbw.trans (hb1.mono hbw.size)⟩
        · have HP := Lib.hid (hp.step (by rw [R.length]; exact hlt) (by rw [R.get k hlt]; exact hr'))
          rw [hr'] at call
          clear hr' ih hp
          go_wp2_with (go_at_call 47; refine call.mono ?_; rintro e w1 ⟨rfl, hb1⟩)
          go_roundw
          case rel => exact ⟨k + 1, by omega, by go_num, hbw.trans (hb1.mono hbw.size), kept_cell hb1 q3, HP.out⟩
          case measure => simp [intOf]; omega
      · have HP := Lib.hid (hp.all (by rw [R.length]; omega))
        clear hp
        go_wp2
        go_ret
        exact ⟨ret_bool (a := true) (by rw [HP.out]), hbw⟩

theorem formed_calls (S : Nat → Prop) : ∀ (f : Nat) (o h n : Int) (d : Nat) (v : Value) (l : List Tm) (w : World), Tm.sz (.mk o h n l) ≤ f → Lies w S v l → d ≤ 41 →
      Calls Try.prog 47 #[.agg #[.int .i64 o, .int .i64 h, .int .i64 n, v], .int .i64 d] w fun e w' => e = .returned (.bool (Tm.formed (.mk o h n l) d)) ∧ Below w.heap.size w w'
  | 0, o, h, n, _, _, l, _, hf, _, _ => by have := Tm.sz_pos (.mk o h n l); omega
  | f + 1, o, h, n, d, v, l, w, hf, hv, hd => by
    by_cases h0 : d ≤ 40
    · rcases e : Tm.headOk o h n l.length with _ | _
      · have es : Tm.formed (.mk o h n l) d = false := by simp [Tm.formed, e]
        rw [es]
        exact formed_bad o h n d v l w S hv (.inr ⟨h0, e⟩)
      · have es : Tm.formed (.mk o h n l) d = Tm.formedL l (d + 1) := by simp [Tm.formed, e, h0]
        rw [es]
        exact formed_good S f (formed_calls S f) o h n d v l w hf hv h0 e
    · have es : Tm.formed (.mk o h n l) d = false := by simp [Tm.formed, h0]
      rw [es]
      exact formed_bad o h n d v l w S hv (.inl h0)

set_option maxHeartbeats 400000 in
/-- Proper answers whether a term is proper. -/
theorem proper_any (S : Nat → Prop) (o h n : Int) (v : Value) (l : List Tm) (w : World) (hv : Lies w S v l) :
    Calls Try.prog 16 #[.agg #[.int .i64 o, .int .i64 h, .int .i64 n, v]] w fun e w' => e = .returned (.bool (Tm.proper (.mk o h n l))) ∧ Below w.heap.size w w' := by
  have c1 := fun w1 hb => nodes_calls S _ o h n 600 v l w1 (Nat.le_refl _) (hv.keep (w' := w1) hb) (by omega) (by omega)
  have c2 : ∀ w1, Below w.heap.size w w1 → Calls Try.prog 47 #[.agg #[.int .i64 o, .int .i64 h, .int .i64 n, v], .int .i64 1] w1 fun e w' => e = .returned (.bool (Tm.formed (.mk o h n l) 1)) ∧ Below w1.heap.size w1 w' :=
    fun w1 hb => formed_calls S _ o h n 1 v l w1 (Nat.le_refl _) (hv.keep (w' := w1) hb) (by omega)
  obtain ⟨c, hc⟩ : ∃ c, c = Tm.cnt (.mk o h n l) 600 := ⟨_, rfl⟩
  obtain ⟨r, hr⟩ : ∃ r, r = Tm.formed (.mk o h n l) 1 := ⟨_, rfl⟩
  have hp : Tm.proper (.mk o h n l) = (decide (c ≤ 600) && r) := by
    unfold Tm.proper; rw [hr, hc]; unfold Tm.cnt; congr 1; split <;> simp <;> omega
  have HP := Lib.hid hp
  rw [← hc] at c1
  rw [← hr] at c2
  clear hc hr hp
  go_enter Try.func16, Try.ntmps16
  rcases hc6 : decide (c ≤ 600) with _ | _
  · have hc7 : ¬ c ≤ 600 := by simpa using hc6
    rw [hc6] at HP
    have HQ := Lib.hid HP
    clear HP hc6
    go_wp2_with (go_at_call 46; (with_reducible refine (c1 _ ?_).mono ?_); (exact one_below w _); rintro e w1 ⟨rfl, hb1⟩)
    go_ret
    exact ⟨ret_bool (a := false) (by rw [HQ.out.out]; rfl), (one_below w _).trans (hb1.mono (by simp))⟩
  · have hc7 : c ≤ 600 := by simpa using hc6
    rw [hc6] at HP
    have HQ := Lib.hid HP
    clear HP hc6
    go_wp2_with (go_at_call 46; (with_reducible refine (c1 _ ?_).mono ?_); (exact one_below w _); rintro e w1 ⟨rfl, hb1⟩; obtain ⟨q0, q1, q2, q3⟩ := box4 hb1)
    have hw1 : Below w.heap.size w w1 := (one_below w _).trans (hb1.mono (by simp))
    have call := c2 w1 hw1
    clear c1 c2
    go_wp2_with (go_at_call 47; (with_reducible refine call.mono ?_); rintro e w2 ⟨rfl, hb2⟩)
    go_ret
    exact ⟨ret_bool (a := r) (by rw [HQ.out.out]; simp), hw1.trans (hb2.mono hw1.size)⟩

end Go.Proofs.Ytomahhdhnlfabaa
