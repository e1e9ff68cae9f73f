/- The contract of the method measure. -/
import Derived.Test.YtomahhdhnlfabaaTmNode
namespace Go.Proofs.Ytomahhdhnlfabaa
open Go.RowKit
set_option linter.unusedSimpArgs false
set_option linter.unusedVariables false

/-- what measure leaves: the answer, and the counts if it is yes -/
def Measured (w : World) (B : Nat) (t : Tm) (c d lev : Nat) (e : Ending) (w' : World) : Prop :=
  e = .returned (.bool (Tm.mOk t c lev)) ∧ Only B w w' ∧ ∃ c' d' : Int, w'.heap[B]? = some (.cells #[.int .i64 c', .int .i64 d'] 113 (0, 0)) ∧ (Tm.mOk t c lev = true → c' = ((c + Tm.sz t : Nat) : Int) ∧ d' = ((max d (lev + Tm.depth t - 1) : Nat) : Int))

theorem measured_no {w w' : World} {B : Nat} {t : Tm} {c d lev : Nat} {x y : Int} (hno : Tm.mOk t c lev = false) (ho : Only B w w') (hb : w'.heap[B]? = some (.cells #[.int .i64 x, .int .i64 y] 113 (0, 0))) :
    Measured w B t c d lev (.returned (.bool false)) w' :=
  ⟨by rw [hno], ho, x, y, hb, fun h => by rw [hno] at h; cases h⟩
theorem measured_yes {w w' : World} {B : Nat} {t : Tm} {c d lev : Nat} {x y : Int} (hyes : Tm.mOk t c lev = true) (ho : Only B w w') (hb : w'.heap[B]? = some (.cells #[.int .i64 x, .int .i64 y] 113 (0, 0)))
    (hx : x = ((c + Tm.sz t : Nat) : Int)) (hy : y = ((max d (lev + Tm.depth t - 1) : Nat) : Int)) : Measured w B t c d lev (.returned (.bool true)) w' :=
  ⟨by rw [hyes], ho, x, y, hb, fun _ => ⟨hx, hy⟩⟩

theorem set_two {w : World} {B : Nat} {x0 y0 : Value} {t : TypeId} (hB : w.heap[B]? = some (.cells #[x0, y0] t (0, 0))) (x y : Value) (o : Obj) :
    (((w.setCell ⟨B, 0, none⟩ x).setCell ⟨B, 1, none⟩ y).alloc o).heap[B]? = some (.cells #[x, y] t (0, 0)) ∧ Only B w (((w.setCell ⟨B, 0, none⟩ x).setCell ⟨B, 1, none⟩ y).alloc o) := by
  have h1 := heap_set_at (j := 0) x hB
  have h2 := heap_set_at (j := 1) y h1
  have hlt := (Array.getElem?_eq_some_iff.1 h2).1
  refine ⟨?_, (((Only.refl B w).setCell 0 none x).setCell 1 none y).alloc o⟩
  rw [Below.heap_alloc _ _ _ hlt, h2]
  rfl

/-- the depth that has been met behind the first k parts -/
def Tm.dTo (l : List Tm) (d lev k : Nat) : Nat := max d (lev + Tm.depthL (l.take k))
theorem Tm.dTo_zero (l : List Tm) (d lev : Nat) : Tm.dTo l d lev 0 = max d lev := by simp [Tm.dTo, Tm.depthL]
theorem Tm.dTo_step (l : List Tm) (d lev k : Nat) (h : k < l.length) : max (Tm.dTo l d lev k) (lev + 1 + Tm.depth l[k] - 1) = Tm.dTo l d lev (k + 1) := by
  unfold Tm.dTo
  rw [Tm.depthL_take l k h]
  have := Tm.depth_pos l[k]
  omega
theorem Tm.dTo_all (o h n : Int) (l : List Tm) (d lev k : Nat) (hk : l.length ≤ k) : Tm.dTo l d lev k = max d (lev + Tm.depth (.mk o h n l) - 1) := by
  unfold Tm.dTo
  rw [List.take_of_length_le hk]
  simp only [Tm.depth]
  omega

theorem two_eq {w : World} {B : Nat} {t : TypeId} {a b a' b' : Int} (h : w.heap[B]? = some (.cells #[.int .i64 a, .int .i64 b] t (0, 0))) (ha : a = a') (hb : b = b') : w.heap[B]? = some (.cells #[.int .i64 a', .int .i64 b'] t (0, 0)) := by
  subst ha hb; exact h
theorem max_lt {d lev : Nat} (h : d < lev) {x : Nat} (hx : x = max d lev) : (lev : Int) = (x : Int) := by subst hx; rw [Nat.max_eq_right (by omega)]
theorem max_ge {d lev : Nat} (h : ¬ d < lev) {x : Nat} (hx : x = max d lev) : (d : Int) = (x : Int) := by subst hx; rw [Nat.max_eq_left (by omega)]

/-- a cell of a block that was just made, behind a call -/
theorem new_at {X w1 : World} {cs : Array Value} {t : TypeId} {s j : Nat} {u : Value} (hb : Below (X.alloc (.cells cs t)).heap.size (X.alloc (.cells cs t)) w1) (hs : X.heap.size = s) (hu : cs[j]? = some u) : w1.cell? ⟨s, j, none⟩ = some u := by
  subst hs
  rw [hb.cell (by simp), World.cell?_alloc_at _ _ _ _ rfl]; exact hu

set_option maxHeartbeats 2000000 in
set_option maxRecDepth 100000 in
theorem measure_bad (o h n : Int) (v : Value) (l : List Tm) (w : World) (B c d lev : Nat) (hv : Lies w (· ≠ B) v l) (hB : w.heap[B]? = some (.cells #[.int .i64 c, .int .i64 d] 113 (0, 0))) (hc : c ≤ 600) (hlev : lev ≤ 41)
    (e : 600 ≤ c ∨ (c < 600 ∧ 40 < lev) ∨ (c < 600 ∧ lev ≤ 40 ∧ Tm.headOk o h n l.length = false)) :
    Calls Try.prog 88 #[.pointer (some ⟨B, 0, none⟩), .agg #[.int .i64 o, .int .i64 h, .int .i64 n, v], .int .i64 lev] w (Measured w B (.mk o h n l) c d lev) := by
  obtain ⟨ao, b, off, len, cap, oo, hh, kk, sv, ts, rfl, R⟩ := hv.open
  have hlen := R.length
  obtain ⟨c0, c1, f0, f1, hlt⟩ := two_cells hB
  have HB := Lib.hid hB
  clear hv R hB
  rcases e with e | ⟨e1, e2⟩ | ⟨e1, e2, e3⟩
  · have HE := Lib.hid (Tm.mOk_many o h n l c lev (by omega))
    clear hlen
    by_cases hdl : d < lev
    all_goals
      go_enter Try.func88, Try.ntmps88
      go_wp2
      go_ret
      exact measured_no HE.out (set_two HB.out _ _ _).2 (set_two HB.out _ _ _).1
  · have HE := Lib.hid (Tm.mOk_deep o h n l c lev (by omega))
    clear hlen
    by_cases hdl : d < lev
    all_goals
      go_enter Try.func88, Try.ntmps88
      go_wp2
      go_ret
      exact measured_no HE.out (set_two HB.out _ _ _).2 (set_two HB.out _ _ _).1
  · have HE := Lib.hid (Tm.mOk_head o h n l c lev e3)
    rw [hlen] at e3
    have call := fun w1 => isNode_any o h n ao len cap w1
    rw [e3] at call
    clear e3 hlen
    by_cases hdl : d < lev
    all_goals
      go_enter Try.func88, Try.ntmps88
      go_wp2_with (go_at_call 104; (with_reducible refine (call _).mono ?_); rintro e w1 ⟨rfl, hb1⟩)
      go_ret
      exact measured_no HE.out ((set_two HB.out _ _ _).2.trans (Only.below hb1 B)) (heap_kept hb1 (set_two HB.out _ _ _).1)

set_option maxHeartbeats 2000000 in
set_option maxRecDepth 100000 in
theorem measure_walk (f : Nat) (B : Nat) (ih : ∀ (o h n : Int) (v : Value) (l : List Tm) (w : World) (c d lev : Nat), Tm.sz (.mk o h n l) ≤ f → Lies w (· ≠ B) v l → w.heap[B]? = some (.cells #[.int .i64 c, .int .i64 d] 113 (0, 0)) → c ≤ 600 → lev ≤ 41 →
      Calls Try.prog 88 #[.pointer (some ⟨B, 0, none⟩), .agg #[.int .i64 o, .int .i64 h, .int .i64 n, v], .int .i64 lev] w (Measured w B (.mk o h n l) c d lev))
    (o h n : Int) (v : Value) (l : List Tm) (w : World) (c d lev : Nat) (hf : Tm.sz (.mk o h n l) ≤ f + 1) (hv : Lies w (· ≠ B) v l) (hB : w.heap[B]? = some (.cells #[.int .i64 c, .int .i64 d] 113 (0, 0))) (hc : c < 600) (hlev : lev ≤ 40)
    (e : Tm.headOk o h n l.length = true) :
    Calls Try.prog 88 #[.pointer (some ⟨B, 0, none⟩), .agg #[.int .i64 o, .int .i64 h, .int .i64 n, v], .int .i64 lev] w (Measured w B (.mk o h n l) c d lev) := by
  obtain ⟨ao, b, off, len, cap, oo, hh, kk, sv, ts, rfl, R⟩ := hv.open
  have hlen := R.length
  have hr := R.hr
  have hl := R.hl
  obtain ⟨c0, c1, f0, f1, hlt⟩ := two_cells hB
  have HB := Lib.hid hB
  have HH := Lib.hid e
  rw [hlen] at e
  have call1 := fun w1 => isNode_any o h n ao len cap w1
  rw [e] at call1
  have HL := Lib.hid hlen
  have HF := Lib.hid hf
  clear hv hB e hlen hf
  by_cases hdl : d < lev
  all_goals
    go_enter Try.func88, Try.ntmps88
    go_wp2_with (first | (go_at_call 104; (with_reducible refine (call1 _).mono ?_); rintro e w1 ⟨rfl, hb1⟩; have q3 := new_at (j := 3) (s := w.heap.size) hb1 (by simp) rfl))
    have hO := (set_two HB.out _ _ _).2.trans (Only.below hb1 B)
    have hK := heap_kept hb1 (set_two HB.out _ _ _).1
    have H0 := Lib.hid (Tm.dTo_zero l d lev)
    go_loopw [42] (fun i wr => ∃ k : Nat, k ≤ len ∧ i = .int .i64 k ∧ Only B w wr ∧ wr.heap[B]? = some (.cells #[.int .i64 ((c + 1 + Tm.szL (l.take k) : Nat) : Int), .int .i64 (Tm.dTo l d lev k : Nat)] 113 (0, 0)) ∧ c + 1 + Tm.szL (l.take k) ≤ 600 ∧ Tm.FormedTo l (lev + 1) k)
      (fun i _ => len - (intOf i).toNat)
    case atStart =>
      exact ⟨0, Nat.zero_le _, rfl, hO, two_eq hK (by simp [Tm.szL]) (by first | exact max_lt hdl H0.out | exact max_ge hdl H0.out), by simp [Tm.szL]; omega, Tm.FormedTo.zero _ _⟩
    case round =>
      clear hO hK
      obtain ⟨k, hk, rfl, hO, hK, hck, hp⟩ := hrel
      by_cases hlt : k < len
      · obtain rfl := R.hao (by omega)
        obtain ⟨d0, d1, d2, d3, hsub⟩ := R.atO hO k hlt
        obtain ⟨a2, n2, m2, hs2⟩ := hsub.isSlice
        rw [hs2] at d3 hsub
        have hk' : k < l.length := by rw [HL.out]; exact hlt
        have hg := R.get k hlt
        have hsz := R.size HF.out k hlt
        have hba : Below wr.heap.size wr (wr.alloc (.cells #[.int .i64 (oo k), .int .i64 (hh k), .int .i64 (kk k), .slice a2 n2 m2] 24)) := (Below.refl _ _).alloc (Nat.le_refl _) _
        have call := ih (oo k) (hh k) (kk k) (.slice a2 n2 m2) (ts k) (wr.alloc (.cells #[.int .i64 (oo k), .int .i64 (hh k), .int .i64 (kk k), .slice a2 n2 m2] 24)) (c + 1 + Tm.szL (l.take k)) (Tm.dTo l d lev k) (lev + 1) hsz (hsub.keep hba) (heap_kept hba hK) hck (by omega)
        rw [show ((lev + 1 : Nat) : Int) = (lev : Int) + 1 from by omega] at call
        rcases hr' : Tm.mOk (.mk (oo k) (hh k) (kk k) (ts k)) (c + 1 + Tm.szL (l.take k)) (lev + 1) with _ | _
        · have HX := Lib.hid (Tm.mOk_fail o h n l c lev k hk' (by rw [hg]; exact hr'))
          unfold Measured at call
          rw [hr'] at call
          clear hr' hp hg hk' ih hK hs2
          go_wp2_with (go_at_call 88; (with_reducible refine call.mono ?_); rintro e w1 ⟨rfl, ho1, c1', d1', hb1', himp⟩)
          go_ret
          exact measured_no HX.out (hO.trans ((Only.below hba B).trans ho1)) hb1'
        · have hst := Tm.mOk_step l c lev k hk' (by rw [hg]; exact hr')
          have HP := Lib.hid (hp.step hk' hst.2)
          have hc1 := hst.1
          have HS := Lib.hid (Tm.szL_take l k hk')
          have HD := Lib.hid (Tm.dTo_step l d lev k hk')
          rw [hg] at HS HD
          unfold Measured at call
          rw [hr'] at call
          clear hr' hp hg hk' ih hK hst hs2
          go_wp2_with (go_at_call 88; (with_reducible refine call.mono ?_); rintro e w1 ⟨rfl, ho1, c1', d1', hb1', himp⟩)
          obtain ⟨ec, ed⟩ := himp trivial
          go_roundw
          case rel => exact ⟨k + 1, by omega, by go_num, hO.trans ((Only.below hba B).trans ho1), two_eq hb1' (by rw [ec, HS.out]; omega) (by rw [ed, HD.out]), hc1, HP.out⟩
          case measure => simp [intOf]; omega
      · have HP := Lib.hid (hp.all (by rw [HL.out]; omega))
        have hkl : l.take k = l := List.take_of_length_le (by rw [HL.out]; omega)
        rw [hkl] at hck hK
        have HY := Lib.hid (Tm.mOk_all o h n l c lev HH.out hlev hck HP.out)
        have HD := Lib.hid (Tm.dTo_all o h n l d lev k (by rw [HL.out]; omega))
        have HK := Lib.hid hK
        clear hp hkl hK hck
        go_wp2
        go_ret
        exact measured_yes HY.out hO HK.out (by simp only [Tm.sz]; omega) (by rw [HD.out])

theorem measure_calls (B : Nat) : ∀ (f : Nat) (o h n : Int) (v : Value) (l : List Tm) (w : World) (c d lev : Nat), Tm.sz (.mk o h n l) ≤ f → Lies w (· ≠ B) v l → w.heap[B]? = some (.cells #[.int .i64 c, .int .i64 d] 113 (0, 0)) → c ≤ 600 → lev ≤ 41 →
      Calls Try.prog 88 #[.pointer (some ⟨B, 0, none⟩), .agg #[.int .i64 o, .int .i64 h, .int .i64 n, v], .int .i64 lev] w (Measured w B (.mk o h n l) c d lev)
  | 0, o, h, n, _, l, _, _, _, _, hf, _, _, _, _ => by have := Tm.sz_pos (.mk o h n l); omega
  | f + 1, o, h, n, v, l, w, c, d, lev, hf, hv, hB, hc, hlev => by
    by_cases h1 : c < 600
    · by_cases h2 : lev ≤ 40
      · rcases e : Tm.headOk o h n l.length with _ | _
        · exact measure_bad o h n v l w B c d lev hv hB hc hlev (.inr (.inr ⟨h1, h2, e⟩))
        · exact measure_walk f B (measure_calls B f) o h n v l w c d lev hf hv hB h1 h2 e
      · exact measure_bad o h n v l w B c d lev hv hB hc hlev (.inr (.inl ⟨h1, by omega⟩))
    · exact measure_bad o h n v l w B c d lev hv hB hc hlev (.inl (by omega))

end Go.Proofs.Ytomahhdhnlfabaa
