/- The contract of the reference's Long; Short of a long form is its head (plain). -/
import Derived.Test.YtknbebkkdkhmaaaSbSmR
import Derived.Test.YtknbebkkdkhmaaaSbShP
import Derived.Test.YtknbebkkdkhmaaaSbGd
namespace Go.Proofs.Ytknbebkkdkhmaaa.Sb
open Go.RowKit
set_option linter.unusedSimpArgs false
set_option linter.unusedVariables false

theorem short_lams : ∀ (k c : Nat) (t : Tm), short c (lams k t) = short (c + k) t
  | 0, c, t => rfl
  | k + 1, c, t => by
    simp only [lams, short_lam, short_lams k (c + 1) t]
    rw [show c + 1 + k = c + (k + 1) by omega]
mutual
theorem short_long : ∀ (S : Sp.Tm) (h n : Int), 0 ≤ n → short 0 (long h n S) = (h, n, true)
  | .mk cn l, h, n, hn => by
    have hl : (longL l.length 0 l).length = l.length := longL_length _ _ _
    have hs := short_longL l l.length 0 (by omega)
    simp only [long, short_lams, Nat.zero_add]
    rcases hh : (h == 1) with _ | _
    · simp only [Bool.false_eq_true, if_false]
      exact short_con hl hs hh
    · have h1 : h = 1 := by simpa using hh
      subst h1
      simp only [if_true]
      rw [short_var hl hs]
      have : decide ((l.length : Int) ≤ n + l.length) = true := by simp; omega
      rw [this, show n + (l.length : Int) - l.length = n by omega]
theorem short_longL : ∀ (l : List Sp.Tm) (c i : Nat), i + l.length = c → shortL c i (longL c i l) = true
  | [], c, i, _ => by simp [longL, shortL]
  | a :: l, c, i, h => by
    simp only [List.length_cons] at h
    simp only [longL, shortL_cons, shortAt]
    rw [short_long a 1 ((c : Int) - 1 - i) (by omega), short_longL l c (i + 1) (by omega)]
    simp
end

theorem longR_zero {w wr : World} {Sv : Value} {cn e : Int} {a : Act} (H : LoVar w wr Sv cn) (ha : a.tmps[6]? = some (.pointer (some ⟨w.heap.size + 1, 0, none⟩)) ∧ a.tmps[7]? = some (.int .i64 e) ∧ a.defers = []) :
    bodyPost Try.prog Try.f21 (GivesE w (Tm.zero, e)) .ret a ((((wr.setCell ⟨w.heap.size + 1, 0, none⟩ (.int .i64 0)).setCell ⟨w.heap.size + 1, 1, none⟩ (.int .i64 0)).setCell ⟨w.heap.size + 1, 2, none⟩ (.int .i64 0)).setCell ⟨w.heap.size + 1, 3, none⟩ (.slice none 0 0)) := by
  obtain ⟨h8, h9, hd⟩ := ha
  obtain ⟨z0, z1, z2, z3⟩ := c4_of (set4_at H.hr (.int .i64 0) (.int .i64 0) (.int .i64 0) (.slice none 0 0))
  refine bodyPost_ret (v := .tuple #[.agg #[.int .i64 0, .int .i64 0, .int .i64 0, .slice none 0 0], .int .i64 e]) (by simp [results, Try.results21, go_sem, h8, h9, z0, z1, z2, z3]) hd ?_
  have h4 : w.heap.size ≤ w.heap.size + 1 := by omega
  exact givesE_zero rfl ((((H.below.setCell h4 _).setCell h4 _).setCell h4 _).setCell h4 _)

set_option maxHeartbeats 4000000 in
set_option maxRecDepth 100000 in
theorem longRF_bad (h n cn : Int) (Ss : List Sp.Tm) (Sv : Value) (w : World) (lS : Sp.Lies w (fun _ => True) Sv Ss) (hbad : longArgs h n (.mk cn Ss) = false) :
    Calls Try.prog 21 #[.int .i64 h, .int .i64 n, .agg #[Sv, .int .i64 cn]] w (GivesE w (Tm.zero, 2)) := by
  obtain ⟨a3, n3, m3, rfl⟩ := lS.isSlice
  have h2 := two_blocks w #[.slice a3 n3 m3, .int .i64 cn] #[.int .i64 0, .int .i64 0, .int .i64 0, .slice none 0 0] 27 24
  have V1 : LoVar w _ (.slice a3 n3 m3) cn := ⟨h2.1, h2.2, two_below w _ _⟩
  have call3 := smallR_any cn (.slice a3 n3 m3) Ss _ (lS.keep V1.below)
  have call2 := fun W => numberR_any n W
  have HV := Lib.hid V1
  obtain ⟨⟨q0, q1⟩, _⟩ := cells2_of V1.hS
  obtain ⟨y0, y1, y2, y3⟩ := c4_of V1.hr
  have f0 := free_in V1.hr 0
  have f1 := free_in V1.hr 1
  have f2 := free_in V1.hr 2
  have f3 := free_in V1.hr 3
  have ways : (h < 1) ∨ (1 ≤ h ∧ 3 < h) ∨ (1 ≤ h ∧ h ≤ 3 ∧ isNum n = false) ∨ (1 ≤ h ∧ h ≤ 3 ∧ isNum n = true ∧ Sp.Tm.small (.mk cn Ss) = false) := by
    unfold longArgs at hbad
    revert hbad
    cases isNum n <;> cases Sp.Tm.small (.mk cn Ss) <;> simp <;> omega
  clear h2 hbad V1 lS
  rcases ways with k1 | ⟨k1, k2⟩ | ⟨k1, k2, hq⟩ | ⟨k1, k2, hq, hS⟩
  all_goals
    try simp only [hq] at call2
    try simp only [hS] at call3
    try clear hq
    try clear hS
    go_enter Try.func21, Try.ntmps21
    go_wp2_with (first | (go_at_call 46; (with_reducible refine (call2 _).mono ?_); rintro e w2 ⟨rfl, rfl⟩) | fail)
  · exact bodyPost_ret (v := .tuple #[.agg #[.int .i64 0, .int .i64 0, .int .i64 0, .slice none 0 0], .int .i64 2]) (by simp [results, Try.results21, go_sem, y0, y1, y2, y3]) rfl (givesE_zero rfl HV.out.below)
  · exact bodyPost_ret (v := .tuple #[.agg #[.int .i64 0, .int .i64 0, .int .i64 0, .slice none 0 0], .int .i64 2]) (by simp [results, Try.results21, go_sem, y0, y1, y2, y3]) rfl (givesE_zero rfl HV.out.below)
  · exact bodyPost_ret (v := .tuple #[.agg #[.int .i64 0, .int .i64 0, .int .i64 0, .slice none 0 0], .int .i64 2]) (by simp [results, Try.results21, go_sem, y0, y1, y2, y3]) rfl (givesE_zero rfl HV.out.below)
  · refine call3.mono ?_
    rintro e w2 ⟨rfl, hb2⟩
    have V3 := HV.out.keep hb2
    clear y0 y1 y2 y3 f0 f1 f2 f3 q0 q1 HV
    obtain ⟨y0, y1, y2, y3⟩ := c4_of V3.hr
    have f0 := free_in V3.hr 0
    have f1 := free_in V3.hr 1
    have f2 := free_in V3.hr 2
    have f3 := free_in V3.hr 3
    have HV2 := Lib.hid V3
    clear V3 hb2 call3
    go_wp2_with fail
    exact longR_zero HV2.out ⟨rfl, rfl, rfl⟩

set_option maxHeartbeats 4000000 in
set_option maxRecDepth 100000 in
theorem longRF_good (h n cn : Int) (Ss : List Sp.Tm) (Sv : Value) (w : World) (lS : Sp.Lies w (fun _ => True) Sv Ss) (k1 : 1 ≤ h) (k2 : h ≤ 3) (hq : isNum n = true) (hS : Sp.Tm.small (.mk cn Ss) = true) :
    Calls Try.prog 21 #[.int .i64 h, .int .i64 n, .agg #[Sv, .int .i64 cn]] w (GivesE w (if Tm.proper (long h n (.mk cn Ss)) then (long h n (.mk cn Ss), 0) else (Tm.zero, 5))) := by
  obtain ⟨a3, n3, m3, rfl⟩ := lS.isSlice
  have h2 := two_blocks w #[.slice a3 n3 m3, .int .i64 cn] #[.int .i64 0, .int .i64 0, .int .i64 0, .slice none 0 0] 27 24
  have V1 : LoVar w _ (.slice a3 n3 m3) cn := ⟨h2.1, h2.2, two_below w _ _⟩
  have call3 := smallR_any cn (.slice a3 n3 m3) Ss _ (lS.keep V1.below)
  have call2 := fun W => numberR_any n W
  have hn01 : 0 ≤ n ∧ n ≤ 9999 := by simpa [isNum] using hq
  have hsz : Sp.Tm.sz (.mk cn Ss) ≤ 600 := by
    have h := hS
    simp only [Sp.Tm.small, Sp.Tm.smallIn, Bool.and_eq_true, decide_eq_true_eq] at h
    exact h.2
  have call4 : ∀ w1, Below w.heap.size w w1 → _ := fun w1 hb => longR_any h n cn Ss (.slice a3 n3 m3) w1 hsz k1 k2 hn01.1 (by omega) (lS.keep hb)
  generalize long h n (.mk cn Ss) = T at call4 ⊢
  have call5 : ∀ (v : Value) (W : World) (S : Nat → Prop), Lies W S v T.args → _ := fun v W S hv => wholeR_any T v W S hv
  simp only [hq] at call2
  simp only [hS] at call3
  have HV := Lib.hid V1
  obtain ⟨⟨q0, q1⟩, _⟩ := cells2_of V1.hS
  clear h2 V1 lS hq hS hsz
  rcases hp : Tm.proper T with _ | _
  all_goals
    simp only [hp, Bool.false_eq_true, if_false, if_true] at call5
    simp only [if_true, if_false, Bool.false_eq_true]
    clear hp
    go_enter Try.func21, Try.ntmps21
    go_wp2_with (first | (go_at_call 46; (with_reducible refine (call2 _).mono ?_); rintro e w2 ⟨rfl, rfl⟩) | fail)
    refine call3.mono ?_
    rintro e w2 ⟨rfl, hb2⟩
    have V3 := HV.out.keep hb2
    clear q0 q1 HV call3 call2
    obtain ⟨⟨q0, q1⟩, _⟩ := cells2_of V3.hS
    have HV3 := Lib.hid V3
    clear V3 hb2
    go_wp2_with fail
    refine (call4 _ HV3.out.below).mono ?_
    rintro e w3 ⟨v, rfl, hb3, L⟩
    obtain ⟨a4, n4, m4, rfl⟩ := L.isSlice
    have call6 := call5 (.slice a4 n4 m4) w3 _ L
    have HV4 := Lib.hid (And.intro (HV3.out.keep hb3) (And.intro L (And.intro HV3.out.below.size (lt_blk HV3.out.hr))))
    clear q0 q1 call4 call5 HV3 hb3 L
    go_wp2_with fail
    refine call6.mono ?_
    rintro e w6 ⟨rfl, hb6⟩
    have V6 := HV4.out.1.keep hb6
    obtain ⟨y0, y1, y2, y3⟩ := c4_of V6.hr
    have f0 := free_in V6.hr 0
    have f1 := free_in V6.hr 1
    have f2 := free_in V6.hr 2
    have f3 := free_in V6.hr 3
    have HV6 := Lib.hid (And.intro V6 (And.intro (HV4.out.2.1.keep hb6) HV4.out.2.2))
    clear V6 hb6 HV4 call6
    go_wp2_with fail
  · exact longR_zero HV6.out.1 ⟨rfl, rfl, rfl⟩
  · obtain ⟨V6, L6, hsw, hsr⟩ := HV6.out
    have hz := set4_at V6.hr (.int .i64 T.op) (.int .i64 T.hd) (.int .i64 T.n) (.slice a4 n4 m4)
    obtain ⟨z0, z1, z2, z3⟩ := c4_of hz
    refine bodyPost_ret (v := .tuple #[.agg #[.int .i64 T.op, .int .i64 T.hd, .int .i64 T.n, .slice a4 n4 m4], .int .i64 0]) (by simp [results, Try.results21, go_sem, z0, z1, z2, z3]) rfl ?_
    have h4 : w.heap.size ≤ w.heap.size + 1 := by omega
    refine ⟨_, rfl, (((V6.below.setCell h4 _).setCell h4 _).setCell h4 _).setCell h4 _, (L6.still fun b hS hlt => set4_other _ _ _ _ ?_).more fun b _ hS => ?_⟩
    · omega
    · omega

/-- the contract of the reference's Long -/
theorem longRF_any (h n cn : Int) (Ss : List Sp.Tm) (Sv : Value) (w : World) (lS : Sp.Lies w (fun _ => True) Sv Ss) :
    Calls Try.prog 21 #[.int .i64 h, .int .i64 n, .agg #[Sv, .int .i64 cn]] w (GivesE w (longOut h n (.mk cn Ss))) := by
  unfold longOut
  rcases e : longArgs h n (.mk cn Ss) with _ | _
  · exact longRF_bad h n cn Ss Sv w lS e
  · have e' := e
    simp only [longArgs, Bool.and_eq_true, decide_eq_true_eq] at e'
    exact longRF_good h n cn Ss Sv w lS e'.1.1.1 e'.1.1.2 e'.1.2 e'.2
end Go.Proofs.Ytknbebkkdkhmaaa.Sb
