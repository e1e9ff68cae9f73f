/- The walk of SignLooks. -/
import Derived.Test.YteoheeddjddekaaGreatSgLk
import Derived.Test.YteoheeddjddekaaGreatSgMp
namespace Go.Proofs.YteoheeddjddekaaGreat
open Go.RowKit Go.Shelf
set_option linter.unusedSimpArgs false
set_option linter.unusedVariables false

theorem ofTo_objL {l : List Dc} (hf : Sg.formed l = true) (n : Int) : ofTo l n l.length = objL l n := by
  unfold ofTo objL
  congr 1
  refine List.filter_congr fun j hj => ?_
  have hj' := List.mem_range.1 hj
  rw [hd_kind hf hj']
  rcases hk : Tm.kind (clAt l j) with _ | _
  · have : tgR l j = (Tm.res (clAt l j)).1.n := by unfold tgR; rw [hk]; rfl
    rw [this]
  · rfl
theorem find_both {l : List Dc} (hf : Sg.formed l = true) (s : ByteArray) : (∃ i : Nat, findOut l s = ((i : Int), 0) ∧ findR l s = (i : Int)) ∨ (findOut l s = (0, 6) ∧ findR l s = -1) := by
  unfold findOut findR
  rw [if_pos hf]
  rcases posOf l s with _ | i
  · exact .inr ⟨rfl, rfl⟩
  · exact .inl ⟨i, rfl, rfl⟩
theorem Ints.nilSlice {w : World} {v : Value} (h : Ints w v []) : ∃ a m, v = .slice a 0 m := by
  obtain ⟨ao, b, off, len, cap, h⟩ := h
  have := h.hlen
  simp at this
  subst this
  exact ⟨_, _, h.hv⟩

set_option maxHeartbeats 8000000 in
set_option maxRecDepth 100000 in
theorem signLooks_walk (w : World) (l : List Dc) (sv : Value) (hl : DLies w (fun _ => True) sv l) (s : ByteArray) (hs : s.size ≤ 140737488351232) (n : Int) (hn : I64 n) :
    Calls Tryz.prog 3 #[sv, .string s, .int .i64 n] w fun e w' => e = .returned (.bool true) ∧ Below w.heap.size w w' := by
  have cC := sgCheck_any (fun _ => True) l sv w hl
  have cF := fun w1 (hb : Below w.heap.size w w1) => find_any (fun _ => True) l s hs sv w1 (hl.keep hb)
  have cI := fun w1 (hb : Below w.heap.size w w1) => isFamily_any (fun _ => True) l n sv w1 (hl.keep hb)
  have cT := fun w1 (hb : Below w.heap.size w w1) => target_any (fun _ => True) l n sv w1 (hl.keep hb)
  have cO := fun w1 (hb : Below w.heap.size w w1) => of_any l n sv w1 (hl.keep hb)
  have cR := fun w1 (hb : Below w.heap.size w w1) => sgFormedR_any (fun _ => True) l sv w1 (hl.keep hb)
  have cFR := fun w1 (hb : Below w.heap.size w w1) => findR_any (fun _ => True) l s sv w1 (hl.keep hb)
  have cH := fun w1 (hb : Below w.heap.size w w1) => hasR_any (fun _ => True) l n sv w1 (hl.keep hb)
  have HN1 := hn.1
  have HN2 := hn.2
  have HL := Lib.hid hl
  obtain ⟨a, m, rfl, hlen⟩ := hl.isSlice
  clear hl hs
  rcases hf : Sg.formed l with _ | _
  · have hk := ckOut_no (n := n) hf
    have e1 : findOut l s = (0, 2) := by unfold findOut; rw [hf]; rfl
    have e2 : famOut l n = (false, 2) := by unfold famOut; rw [hk]; rfl
    have e3 : tarOut l n = (0, 2) := by unfold tarOut; rw [hk]; rfl
    have e4 : ofOut l n = ([], 2) := by unfold ofOut; rw [hk]; rfl
    rw [hf] at cC cR
    rw [e1] at cF
    rw [e2] at cI
    rw [e3] at cT
    rw [e4] at cO
    clear hf hk e1 e2 e3 e4 cFR cH HL
    go_enter Tryz.func3, Tryz.ntmps3
    go_wp2_with (first
      | (go_at_call 6; (with_reducible refine cC.mono ?_); rintro e w1 ⟨rfl, hb1⟩; have HB1 := Lib.hid hb1; clear hb1)
      | (go_at_call 7; (with_reducible refine (cF _ HB1.out).mono ?_); rintro e w2 ⟨rfl, hb2⟩; have HB2 := Lib.hid (below_next HB1.out hb2); clear hb2)
      | (go_at_call 8; (with_reducible refine (cI _ HB2.out).mono ?_); rintro e w3 ⟨rfl, hb3⟩; have HB3 := Lib.hid (below_next HB2.out hb3); clear hb3)
      | (go_at_call 9; (with_reducible refine (cT _ HB3.out).mono ?_); rintro e w4 ⟨rfl, hb4⟩; have HB4 := Lib.hid (below_next HB3.out hb4); clear hb4)
      | (go_at_call 10; (with_reducible refine (cO _ HB4.out).mono ?_); rintro e w5 ⟨v5, rfl, hi5, hb5⟩; obtain ⟨a5, m5, rfl⟩ := hi5.nilSlice; have HB5 := Lib.hid (below_next HB4.out hb5); clear hb5 hi5)
      | (go_at_call 11; (with_reducible refine (cR _ HB5.out).mono ?_); rintro e w6 ⟨rfl, hb6⟩; have HB6 := Lib.hid (below_next HB5.out hb6); clear hb6)
      | (go_at_call 12; (with_reducible refine (awake_any _).mono ?_); rintro e w7 ⟨rfl, hb7⟩; have HB7 := Lib.hid (below_next HB6.out hb7); clear hb7)
      | fail)
    go_ret
    exact ⟨rfl, HB7.out⟩
  rw [hf] at cC cR
  by_cases hh : 0 ≤ n ∧ n < (l.length : Int)
  · obtain ⟨i, rfl⟩ : ∃ i : Nat, n = i := ⟨n.toNat, by omega⟩
    have hi : i < l.length := by omega
    have hp := formed_proper hf
    have h100 := formed_len hf
    have cIR := fun w1 (hb : Below w.heap.size w w1) => isFamilyR_any (fun _ => True) l i hi _ w1 (HL.out.keep hb) (hp _ (List.getElem_mem hi))
    have cTR := fun w1 (hb : Below w.heap.size w w1) => targetR_any (fun _ => True) l i hi _ w1 (HL.out.keep hb) (hp _ (List.getElem_mem hi))
    have cOR := fun w1 (hb : Below w.heap.size w w1) => ofR_any (fun _ => True) l (i : Int) _ w1 (HL.out.keep hb) hp h100
    rw [ofTo_objL hf] at cOR
    rw [decide_eq_true hh] at cH
    have e3 : tarOut l (i : Int) = (tgR l i, 0) := tar_in hf hi
    have e2 : famOut l (i : Int) = (Tm.kind (clAt l i), 0) := fam_in hf hi
    have hck : ckOut l (i : Int) = 0 := ckOut_in hf (by omega)
    have hrb : i ≤ 100 := by omega
    have hcl := clAt_get hi
    rw [← hcl] at cIR
    rw [e3] at cT
    rw [e2] at cI
    have cN := fun v u w1 (hv : Ints w1 v (objL l i)) (hu : Ints w1 u (objL l i)) => numbers_any v u _ _ w1 hv hu
    have e4 : ofOut l (i : Int) = if Tm.kind (clAt l i) = true then (objL l (i : Int), 0) else ([], 22) := by unfold ofOut; rw [if_pos hck, Int.toNat_natCast]
    rw [e4] at cO
    generalize tgR l i = t at *
    simp only [decide_true] at cN
    have HCN := Lib.hid cN
    rcases hk : Tm.kind (clAt l i) with _ | _
    · rw [hk] at cI cIR
      rw [hk, if_neg (by decide)] at cO
      rcases find_both hf s with ⟨q, q1, q2⟩ | ⟨q1, q2⟩
      all_goals
        rw [q1] at cF
        rw [q2] at cFR
        clear hf q1 q2 hk hck hcl e2 e3 e4 hp HL hh cN cOR
        go_enter Tryz.func3, Tryz.ntmps3
        go_wp2_with (first
          | (go_at_call 6; (with_reducible refine cC.mono ?_); rintro e w1 ⟨rfl, hb1⟩; have HB1 := Lib.hid hb1; clear hb1)
          | (go_at_call 7; (with_reducible refine (cF _ HB1.out).mono ?_); rintro e w2 ⟨rfl, hb2⟩; have HB2 := Lib.hid (below_next HB1.out hb2); clear hb2)
          | (go_at_call 8; (with_reducible refine (cI _ HB2.out).mono ?_); rintro e w3 ⟨rfl, hb3⟩; have HB3 := Lib.hid (below_next HB2.out hb3); clear hb3)
          | (go_at_call 9; (with_reducible refine (cT _ HB3.out).mono ?_); rintro e w4 ⟨rfl, hb4⟩; have HB4 := Lib.hid (below_next HB3.out hb4); clear hb4)
          | (go_at_call 10; (with_reducible refine (cO _ HB4.out).mono ?_); rintro e w5 ⟨v5, rfl, hi5, hb5⟩; obtain ⟨a5, m5, rfl⟩ := hi5.nilSlice; have HB5 := Lib.hid (below_next HB4.out hb5); clear hb5 hi5)
          | (go_at_call 11; (with_reducible refine (cR _ HB5.out).mono ?_); rintro e w6 ⟨rfl, hb6⟩; have HB6 := Lib.hid (below_next HB5.out hb6); clear hb6)
          | (go_at_call 13; (with_reducible refine (cFR _ HB6.out).mono ?_); rintro e w7 ⟨rfl, hb7⟩; have HB7 := Lib.hid (below_next HB6.out hb7); clear hb7)
          | (go_at_call 14; (with_reducible refine (cH _ HB7.out).mono ?_); rintro e w8 ⟨rfl, rfl⟩)
          | (go_at_call 15; (with_reducible refine (cIR _ HB7.out).mono ?_); rintro e w9 ⟨rfl, hb9⟩; have HB9 := Lib.hid (below_next HB7.out hb9); clear hb9)
          | (go_at_call 16; (with_reducible refine (cTR _ HB9.out).mono ?_); rintro e w10 ⟨rfl, hb10⟩; have HB10 := Lib.hid (below_next HB9.out hb10); clear hb10)
          | (go_at_call 12; (with_reducible refine (awake_any _).mono ?_); rintro e w11 ⟨rfl, hb11⟩; have HB11 := Lib.hid (below_next HB10.out hb11); clear hb11)
          | fail)
        go_ret
        exact ⟨rfl, HB11.out⟩
    · rw [hk] at cI cIR
      rw [hk, if_pos rfl] at cO
      rcases find_both hf s with ⟨q, q1, q2⟩ | ⟨q1, q2⟩
      all_goals
        rw [q1] at cF
        rw [q2] at cFR
        clear hf q1 q2 hk hck hcl e2 e3 e4 hp HL hh cN
        go_enter Tryz.func3, Tryz.ntmps3
        go_wp2_with (first
          | (go_at_call 6; (with_reducible refine cC.mono ?_); rintro e w1 ⟨rfl, hb1⟩; have HB1 := Lib.hid hb1; clear hb1)
          | (go_at_call 7; (with_reducible refine (cF _ HB1.out).mono ?_); rintro e w2 ⟨rfl, hb2⟩; have HB2 := Lib.hid (below_next HB1.out hb2); clear hb2)
          | (go_at_call 8; (with_reducible refine (cI _ HB2.out).mono ?_); rintro e w3 ⟨rfl, hb3⟩; have HB3 := Lib.hid (below_next HB2.out hb3); clear hb3)
          | (go_at_call 9; (with_reducible refine (cT _ HB3.out).mono ?_); rintro e w4 ⟨rfl, hb4⟩; have HB4 := Lib.hid (below_next HB3.out hb4); clear hb4)
          | (go_at_call 10; (with_reducible refine (cO _ HB4.out).mono ?_); rintro e w5 ⟨v5, rfl, hi5, hb5⟩; have HV := Lib.hid hi5; obtain ⟨a5, n5, m5, rfl⟩ := hi5.isSlice; have HB5 := Lib.hid (below_next HB4.out hb5); clear hb5 hi5)
          | (go_at_call 11; (with_reducible refine (cR _ HB5.out).mono ?_); rintro e w6 ⟨rfl, hb6⟩; have HB6 := Lib.hid (below_next HB5.out hb6); have HV6 := Lib.hid (HV.out.below hb6); clear hb6)
          | (go_at_call 13; (with_reducible refine (cFR _ HB6.out).mono ?_); rintro e w7 ⟨rfl, hb7⟩; have HB7 := Lib.hid (below_next HB6.out hb7); have HV7 := Lib.hid (HV6.out.below hb7); clear hb7)
          | (go_at_call 14; (with_reducible refine (cH _ HB7.out).mono ?_); rintro e w8 ⟨rfl, rfl⟩)
          | (go_at_call 15; (with_reducible refine (cIR _ HB7.out).mono ?_); rintro e w9 ⟨rfl, hb9⟩; have HB9 := Lib.hid (below_next HB7.out hb9); have HV9 := Lib.hid (HV7.out.below hb9); clear hb9)
          | (go_at_call 16; (with_reducible refine (cTR _ HB9.out).mono ?_); rintro e w10 ⟨rfl, hb10⟩; have HB10 := Lib.hid (below_next HB9.out hb10); have HV10 := Lib.hid (HV9.out.below hb10); clear hb10)
          | (go_at_call 18; (with_reducible refine (cOR _ HB10.out).mono ?_); rintro e w12 ⟨v12, rfl, hi12, hb12⟩; have HB12 := Lib.hid (below_next HB10.out hb12); have HV12 := Lib.hid (HV10.out.below hb12); have HU := Lib.hid hi12; clear hb12 hi12)
          | (go_at_call 17; (with_reducible refine (HCN.out _ _ _ HV12.out HU.out).mono ?_); rintro e w13 ⟨rfl, hb13⟩; have HB13 := Lib.hid (below_next HB12.out hb13); clear hb13)
          | (go_at_call 12; (with_reducible refine (awake_any _).mono ?_); rintro e w11 ⟨rfl, hb11⟩; have HB11 := Lib.hid (below_next HB13.out hb11); clear hb11)
          | fail)
        go_ret
        exact ⟨rfl, HB11.out⟩
  · have hk := ckOut_out (l := l) (n := n) hf (by omega)
    have e2 : famOut l n = (false, 6) := by unfold famOut; rw [hk]; rfl
    have e3 : tarOut l n = (0, 6) := by unfold tarOut; rw [hk]; rfl
    have e4 : ofOut l n = ([], 6) := by unfold ofOut; rw [hk]; rfl
    rw [decide_eq_false hh] at cH
    rw [e2] at cI
    rw [e3] at cT
    rw [e4] at cO
    rcases find_both hf s with ⟨q, q1, q2⟩ | ⟨q1, q2⟩
    all_goals
      have hq : Sg.formed l = true := hf
      try have hq2 : q < l.length := by (have := q2; unfold findR at this; rcases hpo : posOf l s with _ | j; (rw [hpo] at this; simp at this); (rw [hpo] at this; obtain ⟨h1, _⟩ := posOf_some hpo; simp at this; omega))
      rw [q1] at cF
      rw [q2] at cFR
      clear hf hk q1 q2 hq e2 e3 e4 HL hh
      go_enter Tryz.func3, Tryz.ntmps3
      go_wp2_with (first
        | (go_at_call 6; (with_reducible refine cC.mono ?_); rintro e w1 ⟨rfl, hb1⟩; have HB1 := Lib.hid hb1; clear hb1)
        | (go_at_call 7; (with_reducible refine (cF _ HB1.out).mono ?_); rintro e w2 ⟨rfl, hb2⟩; have HB2 := Lib.hid (below_next HB1.out hb2); clear hb2)
        | (go_at_call 8; (with_reducible refine (cI _ HB2.out).mono ?_); rintro e w3 ⟨rfl, hb3⟩; have HB3 := Lib.hid (below_next HB2.out hb3); clear hb3)
        | (go_at_call 9; (with_reducible refine (cT _ HB3.out).mono ?_); rintro e w4 ⟨rfl, hb4⟩; have HB4 := Lib.hid (below_next HB3.out hb4); clear hb4)
        | (go_at_call 10; (with_reducible refine (cO _ HB4.out).mono ?_); rintro e w5 ⟨v5, rfl, hi5, hb5⟩; obtain ⟨a5, m5, rfl⟩ := hi5.nilSlice; have HB5 := Lib.hid (below_next HB4.out hb5); clear hb5 hi5)
        | (go_at_call 11; (with_reducible refine (cR _ HB5.out).mono ?_); rintro e w6 ⟨rfl, hb6⟩; have HB6 := Lib.hid (below_next HB5.out hb6); clear hb6)
        | (go_at_call 13; (with_reducible refine (cFR _ HB6.out).mono ?_); rintro e w7 ⟨rfl, hb7⟩; have HB7 := Lib.hid (below_next HB6.out hb7); clear hb7)
        | (go_at_call 14; (with_reducible refine (cH _ HB7.out).mono ?_); rintro e w8 ⟨rfl, rfl⟩)
        | (go_at_call 12; (with_reducible refine (awake_any _).mono ?_); rintro e w11 ⟨rfl, hb11⟩; have HB11 := Lib.hid (below_next HB7.out hb11); clear hb11)
        | fail)
      go_ret
      exact ⟨rfl, HB11.out⟩
end Go.Proofs.YteoheeddjddekaaGreat
