/- The walk of SignParted. -/
import Derived.Test.YteoheeddjddekaaSgMp
import Derived.Deep.OwnRows
namespace Go.Proofs.Yteoheeddjddekaa
open Go.RowKit
set_option linter.unusedSimpArgs false
set_option linter.unusedVariables false

theorem rowIs_below {w w' : World} {g : Nat} {t : TypeId} {n : Nat} {f : Nat → Value} (h : w.rowIs g t n f) (hb : Below w.heap.size w w') : w'.rowIs g t n f := h.of_block (hb.block g h.lt)

/-- the inner loop of SignParted -/
structure PaI (w : World) (l : List Dc) (k g : Nat) (w5 : World) (v : Value) (j : Nat) (wr : World) : Prop where
  below : Below w.heap.size w wr
  row : wr.rowIs g 3 l.length (fun m => .int .i64 (cntQ l k ((objL l k).take j) m))
  far : ∀ b, b ≠ g → b < w5.heap.size → wr.heap[b]? = w5.heap[b]?

set_option maxHeartbeats 4000000 in
set_option maxRecDepth 100000 in
theorem parted_bad (w : World) (l : List Dc) (sv : Value) (hl : DLies w (fun _ => True) sv l) (hf : Sg.formed l = false) :
    Calls Try.prog 5 #[sv] w fun e w' => e = .returned (.bool true) ∧ Below w.heap.size w w' := by
  have c1 := sgCheck_any _ l sv w hl
  rw [hf] at c1
  simp only [if_false, Bool.false_eq_true] at c1
  obtain ⟨p, m, rfl, -⟩ := hl.isSlice
  clear hl hf
  go_enter Try.func5, Try.ntmps5
  go_wp2_with (first
    | (go_at_call 15; (with_reducible refine c1.mono ?_); rintro e w1 ⟨rfl, hb1⟩; have HB1 := Lib.hid hb1; clear hb1)
    | (go_at_call 11; (with_reducible refine (awake_any _).mono ?_); rintro e w5 ⟨rfl, hb5⟩; have HB5 := Lib.hid (below_next HB1.out hb5); clear hb5) | fail)
  go_ret
  exact ⟨rfl, HB5.out⟩

set_option maxHeartbeats 16000000 in
set_option maxRecDepth 100000 in
theorem parted_good (w : World) (l : List Dc) (sv : Value) (hl : DLies w (fun _ => True) sv l) (hf : Sg.formed l = true) :
    Calls Try.prog 5 #[sv] w fun e w' => e = .returned (.bool true) ∧ Below w.heap.size w w' := by
  have c1 := sgCheck_any _ l sv w hl
  rw [hf] at c1
  simp only [if_true] at c1
  have cF := fun (s : ByteArray) (hs : s.size ≤ 140737488351232) w1 (hb : Below w.heap.size w w1) => find_any _ l s hs sv w1 (hl.keep hb)
  have cI := fun (n : Int) w1 (hb : Below w.heap.size w w1) => isFamily_any _ l n sv w1 (hl.keep hb)
  have cT := fun (n : Int) w1 (hb : Below w.heap.size w w1) => target_any _ l n sv w1 (hl.keep hb)
  have cO := fun (n : Int) w1 (hb : Below w.heap.size w w1) => ofE_any l n sv w1 (hl.keep hb)
  have CF := Lib.hid cF
  have CI := Lib.hid cI
  have CT := Lib.hid cT
  have CO := Lib.hid cO
  have h100 := formed_len hf
  have HF := Lib.hid hf
  obtain ⟨ao, b, off, len, cap, nm, oo, hh, kk, sc, tt, im, rfl, R⟩ := hl
  have hlen := R.length
  rw [hlen] at h100
  have hrl := R.hl
  have hrc := R.hr
  have HR := Lib.hid R
  have HLEN := Lib.hid hlen
  have hmk := fun w => run_make_row' (P := Try.prog) 42 3 (.int .i64 0) 8 Try.underlying42 int_info rfl .i64 .i64 len (by omega) (by omega) w
  clear cF cI cT cO R hlen hf
  go_enter Try.func5, Try.ntmps5
  go_wp2_with (go_at_call 15; (with_reducible refine c1.mono ?_); rintro e w1 ⟨rfl, hb1⟩; have HB1 := Lib.hid hb1; clear hb1)
  have hrow := World.rowIs_made w1 (.int .i64 0) len 3
  have hba := one_below w1 (.cells (madeCells #[.int .i64 0] len) 3)
  have HST := Lib.hid (And.intro (below_next HB1.out hba) hrow)
  have hgw : w.heap.size ≤ w1.heap.size := HB1.out.size
  clear hrow hba c1 hmk
  go_loopw [29] (fun v wr => ∃ k : Nat, k ≤ len ∧ v = .int .i64 k ∧ Below w.heap.size w wr ∧ wr.rowIs w1.heap.size 3 len (fun m => .int .i64 (cntP l k m))) (fun v _ => len - (RowKit.intOf v).toNat)
  case atStart => exact ⟨0, Nat.zero_le _, rfl, HST.out.1, HST.out.2.congr fun m hm => by rw [cntP_zero HF.out (by rw [HLEN.out]; exact hm)]⟩
  case round =>
    obtain ⟨k, hk, rfl, hbw, hrow⟩ := hrel
    by_cases hlt : k < len
    · have hkl : k < l.length := by rw [HLEN.out]; exact hlt
      obtain rfl := HR.out.hao (by omega)
      obtain ⟨d0, -, -, -, -, -, -⟩ := HR.out.at hbw k hlt
      have hg := HR.out.get k hlt
      have c2 := CF.out (nm k) (HR.out.rn k hlt) wr hbw
      have e2 := find_in HF.out hkl
      rw [hg] at e2
      simp only at e2
      rw [e2] at c2
      have c3 := fun w1 hb => CI.out (k : Int) w1 hb
      rw [fam_in HF.out hkl] at c3
      have c4 := fun w1 hb => CT.out (k : Int) w1 hb
      rw [tar_in HF.out hkl] at c4
      have hit := is_tg HF.out hkl
      have htb := tg_bd HF.out hkl
      rw [HLEN.out] at htb
      obtain ⟨T, hT⟩ : ∃ T, T = tg l k := ⟨_, rfl⟩
      rw [← hT] at c4 hit htb
      have hk0 : (0 : Int) ≤ (k : Int) := by omega
      have hk1 : (k : Int) < (len : Int) := by omega
      have hT0 : ¬ T < 0 := by omega
      have hT1 : ¬ (len : Int) ≤ T := by omega
      have HBW := Lib.hid hbw
      have HROW := Lib.hid hrow
      have HT := Lib.hid hT
      have C3 := Lib.hid c3
      have C4 := Lib.hid c4
      clear hg e2 hbw hrow htb hT c3 c4
      rcases hkd : Tm.kind (clAt l k) with _ | _
      · rw [hkd] at hit C3
        have hTk : (T == (k : Int)) = false := by simpa using hit
        have hTk2 : ¬ T = (k : Int) := by simpa using hTk
        clear hit
        have HS := Lib.hid (fun m (hm : m < len) => cntP_skip HF.out hkd (m := m) (by rw [HLEN.out]; exact hm))
        clear hkd
        go_wp2_with (first
          | (go_at_call 16; (with_reducible refine c2.mono ?_); rintro e w2 ⟨rfl, hb2⟩; have HB2 := Lib.hid (below_next HBW.out hb2); have HR2 := Lib.hid (rowIs_below HROW.out hb2); clear hb2 c2 d0)
          | (go_at_call 17; (with_reducible refine (C3.out _ HB2.out).mono ?_); rintro e w3 ⟨rfl, hb3⟩; have HB3 := Lib.hid (below_next HB2.out hb3); have HR3 := Lib.hid (rowIs_below HR2.out hb3); clear hb3)
          | (go_at_call 18; (with_reducible refine (C4.out _ HB3.out).mono ?_); rintro e w4 ⟨rfl, hb4⟩; have HB4 := Lib.hid (below_next HB3.out hb4); have HR4 := Lib.hid (rowIs_below HR3.out hb4); clear hb4)
          | fail)
        go_roundw
        case rel => exact ⟨k + 1, by omega, by go_num, HB4.out, HR4.out.congr fun m hm => by rw [HS.out m hm]⟩
        case measure => simp [RowKit.intOf]; omega
      · rw [hkd] at hit C3
        obtain rfl : T = (k : Int) := by simpa using hit
        clear hit
        have c5 := fun w1 hb => CO.out (k : Int) w1 hb
        have eo : ofOut l (k : Int) = (objL l k, 0) := by unfold ofOut; rw [if_pos (ckOut_in HF.out (by omega)), Int.toNat_natCast, hkd]; rfl
        rw [eo] at c5
        have C5 := Lib.hid c5
        have HKD := Lib.hid hkd
        clear hkd eo c5
        go_wp2_with (first
          | (go_at_call 16; (with_reducible refine c2.mono ?_); rintro e w2 ⟨rfl, hb2⟩; have HB2 := Lib.hid (below_next HBW.out hb2); have HR2 := Lib.hid (rowIs_below HROW.out hb2); clear hb2 c2 d0)
          | (go_at_call 17; (with_reducible refine (C3.out _ HB2.out).mono ?_); rintro e w3 ⟨rfl, hb3⟩; have HB3 := Lib.hid (below_next HB2.out hb3); have HR3 := Lib.hid (rowIs_below HR2.out hb3); clear hb3)
          | (go_at_call 18; (with_reducible refine (C4.out _ HB3.out).mono ?_); rintro e w4 ⟨rfl, hb4⟩; have HB4 := Lib.hid (below_next HB3.out hb4); have HR4 := Lib.hid (rowIs_below HR3.out hb4); clear hb4)
          | (go_at_call 19; (with_reducible refine (C5.out _ HB4.out).mono ?_); rintro e w5 ⟨v5, rfl, hi5, hb5⟩; obtain ⟨ao5, b5, off5, q, cp5, I5, hnew⟩ := hi5; obtain rfl := I5.hv; have hil5 := I5.hl; have hir5 := I5.hr; have HB5 := Lib.hid (below_next HB4.out hb5); have HR5 := Lib.hid (rowIs_below HR4.out hb5); have HI5 := Lib.hid (And.intro I5 hnew); have hgl5 : w1.heap.size < w4.heap.size := HR4.out.lt; clear hb5 I5 hnew)
          | fail)
        go_loopw [98] (fun v wr => ∃ j : Nat, j ≤ q ∧ v = .int .i64 j ∧ PaI w l k w1.heap.size w5 (.slice ao5 q cp5) j wr) (fun v _ => q - (RowKit.intOf v).toNat)
        case atStart => exact ⟨0, Nat.zero_le _, rfl, HB5.out, by rw [HLEN.out]; exact HR5.out.congr fun m hm => by rw [List.take_zero, cntQ_nil], fun _ _ _ => rfl⟩
        case round =>
          obtain ⟨j, hj, rfl, M⟩ := hrel
          by_cases hltj : j < q
          · have hjo : j < (objL l (k : Int)).length := by rw [HI5.out.1.hlen]; exact hltj
            obtain rfl := HI5.out.1.hao (by omega)
            have hbb : w4.heap.size ≤ b5 := HI5.out.2 (by omega)
            have far : ∀ i (hi : i < (objL l (k : Int)).length), wr.cell? ⟨b5, off5 + i, none⟩ = some (.int .i64 (objL l (k : Int))[i]) := fun i hi => by
              have hc := HI5.out.1.cells i hi
              rw [World.cell?_of_block (w := w5) (M.far b5 (by omega) (World.block_lt_of_cell? w5 _ hc))]; exact hc
            have hx := far j hjo
            obtain ⟨m0, hm0, em, hk0m, htm⟩ := (mem_objL HF.out).1 (List.getElem_mem hjo)
            rw [em] at hx
            have hm0' : m0 < len := by rw [← HLEN.out]; exact hm0
            have c6 := CT.out (m0 : Int) wr M.below
            rw [tar_in HF.out hm0, htm] at c6
            obtain ⟨y, hy⟩ : ∃ y, y = cntQ l k ((objL l k).take j) m0 := ⟨_, rfl⟩
            have hyb := cntQ_bd (l := l) k ((objL l k).take j) m0
            rw [← hy] at hyb
            have hyw : IntKind.i64.wrap (y + 1) = y + 1 := IntWalk.i64_in _ (by omega)
            have HY := Lib.hid hy
            have HQS := Lib.hid (fun m => cntQ_step (l := l) (m := m) hjo em)
            have hj0 : (0 : Int) ≤ (j : Int) := by omega
            have hj1 : (j : Int) < (q : Int) := by omega
            have hm1 : ¬ (m0 : Int) < 0 := by omega
            have hm2 : ¬ (len : Int) ≤ (m0 : Int) := by omega
            have hm3 : (0 : Int) ≤ (m0 : Int) := by omega
            have hm4 : (m0 : Int) < (len : Int) := by omega
            have HM := Lib.hid M
            have next : ∀ w6, Below wr.heap.size wr w6 → PaI w l k w1.heap.size w5 (.slice (some ⟨b5, off5, none⟩) q cp5) (j + 1) (w6.setCell ⟨w1.heap.size, m0, none⟩ (.int .i64 (y + 1))) := fun w6 hb6 => by
              refine ⟨(below_next HM.out.below hb6).setCell hgw _, ((rowIs_below HM.out.row hb6).set m0 (.int .i64 (y + 1))).congr fun m hm => ?_, fun b hb hlt => ?_⟩
              · rw [HQS.out m]
                by_cases e : m = m0
                · subst e; simp only [if_true]; rw [← HY.out]
                · simp only [if_neg e]
              · have h1 := HM.out.far b hb hlt
                have h2 : b < wr.heap.size := by
                  have hs := HM.out.row.lt
                  rcases Nat.lt_or_ge b wr.heap.size with h | h
                  · exact h
                  · exfalso
                    have hn : wr.heap[b]? = none := Array.getElem?_eq_none h
                    rw [hn, Array.getElem?_eq_getElem hlt] at h1
                    cases h1
                rw [Below.heap_setCell _ _ _ _ hb, hb6.block b h2, h1]
            have HN := Lib.hid next
            have rowc : ∀ w6, Below wr.heap.size wr w6 → w6.cell? ⟨w1.heap.size, m0, none⟩ = some (.int .i64 y) ∧ w6.frozen? ⟨w1.heap.size, m0, none⟩ = false := fun w6 hb6 => by
              have hr6 := rowIs_below HM.out.row hb6
              have h1 := hr6.cell hm0
              rw [← HY.out] at h1
              exact ⟨h1, hr6.frozen m0⟩
            have HRC := Lib.hid rowc
            have HFR := Lib.hid far
            have HAS := Lib.hid (objL_asc (l := l) (k : Int))
            clear far M hy em hk0m htm next rowc hyb
            by_cases hz : j = 0
            · subst hz
              simp only [Nat.add_zero] at hx
              go_wp2_with (first
                | (go_at_call 18; (with_reducible refine c6.mono ?_); rintro e w6 ⟨rfl, hb6⟩; obtain ⟨r0, r1⟩ := HRC.out w6 hb6; have HB6 := Lib.hid hb6; clear hb6 c6 hx)
                | fail)
              go_roundw
              case rel => exact ⟨1, by omega, by go_num, HN.out w6 HB6.out⟩
              case measure => simp [RowKit.intOf]; omega
            · have hjj : j - 1 < (objL l (k : Int)).length := by omega
              have hxp := HFR.out (j - 1) hjj
              obtain ⟨z, hzz⟩ : ∃ z, z = (objL l (k : Int))[j - 1] := ⟨_, rfl⟩
              rw [← hzz] at hxp
              have hlt9 : ¬ (m0 : Int) ≤ z := by
                have ha := HAS.out
                rw [List.pairwise_iff_getElem] at ha
                have h9 := ha (j - 1) j hjj hjo (by omega)
                obtain ⟨m9, _, e9, _⟩ := (mem_objL HF.out).1 (List.getElem_mem hjo)
                have hxx := HFR.out j hjo
                rw [hx] at hxx
                simp only [Option.some.injEq, Value.int.injEq, true_and] at hxx
                rw [hzz]; omega
              have hdj : IntKind.i64.wrap ((j : Int) - 1) = ((j - 1 : Nat) : Int) := by rw [IntWalk.i64_in _ (by omega)]; omega
              have hpj : (0 : Int) < (j : Int) := by omega
              have hp0 : (0 : Int) ≤ ((j - 1 : Nat) : Int) := by omega
              have hp1 : ((j - 1 : Nat) : Int) < (q : Int) := by omega
              clear hzz
              generalize j - 1 = jp at *
              go_wp2_with (first
                | (go_at_call 18; (with_reducible refine c6.mono ?_); rintro e w6 ⟨rfl, hb6⟩; obtain ⟨r0, r1⟩ := HRC.out w6 hb6; have HB6 := Lib.hid hb6; clear hb6 c6 hx hxp)
                | fail)
              go_roundw
              case rel => exact ⟨j + 1, by omega, by go_num, HN.out w6 HB6.out⟩
              case measure => simp [RowKit.intOf]; omega
          · obtain rfl : j = q := by omega
            have HS := Lib.hid (fun m (hm : m < len) => cntQ_all HF.out HKD.out (m := m) (by rw [HLEN.out]; exact hm))
            have hM := M.row
            rw [List.take_of_length_le (by rw [HI5.out.1.hlen]; exact Nat.le_refl _), HLEN.out] at hM
            have HM := Lib.hid (And.intro M.below hM)
            clear M hM
            go_wp2_with fail
            go_roundw
            case rel => exact ⟨k + 1, by omega, by go_num, HM.out.1, HM.out.2.congr fun m hm => by rw [HS.out m hm]⟩
            case measure => simp [RowKit.intOf]; omega
    · obtain rfl : k = len := by omega
      have hrow2 := hrow.congr (g := fun m => .int .i64 (if Tm.kind (clAt l m) = true then 0 else 1)) fun m hm => by
        have h9 := cntP_end HF.out (m := m) (by rw [HLEN.out]; exact hm)
        rw [HLEN.out] at h9
        rw [h9]
      have HST2 := Lib.hid (And.intro hbw hrow2)
      clear hbw hrow hrow2
      go_wp2_with fail
      go_loopw [147] (fun v wr => ∃ j : Nat, j ≤ k ∧ v = .int .i64 j ∧ Below w.heap.size w wr ∧ wr.rowIs w1.heap.size 3 k (fun m => .int .i64 (if Tm.kind (clAt l m) = true then 0 else 1))) (fun v _ => k - (RowKit.intOf v).toNat)
      case atStart => exact ⟨0, Nat.zero_le _, rfl, HST2.out.1, HST2.out.2⟩
      case round =>
        obtain ⟨j, hj, rfl, hbw, hrow⟩ := hrel
        by_cases hltj : j < k
        · have hjl : j < l.length := by rw [HLEN.out]; exact hltj
          have c3 := CI.out (j : Int) _ hbw
          rw [fam_in HF.out hjl] at c3
          have hj0 : (0 : Int) ≤ (j : Int) := by omega
          have hj1 : (j : Int) < (k : Int) := by omega
          have rowc : ∀ w6, Below wr.heap.size wr w6 → w6.cell? ⟨w1.heap.size, j, none⟩ = some (.int .i64 (if Tm.kind (clAt l j) = true then 0 else 1)) := fun w6 hb6 => (rowIs_below hrow hb6).cell hltj
          have HRC := Lib.hid rowc
          have HBW := Lib.hid (And.intro hbw hrow)
          clear hbw hrow rowc
          rcases hkd : Tm.kind (clAt l j) with _ | _
          all_goals
            simp only [hkd] at c3 HRC
            clear hkd
            go_wp2_with (first
              | (go_at_call 17; (with_reducible refine c3.mono ?_); rintro e w6 ⟨rfl, hb6⟩; have r0 := HRC.out w6 hb6; simp only [if_true, if_false, Bool.false_eq_true] at r0; have HB6 := Lib.hid hb6; clear hb6 c3)
              | fail)
            go_roundw
            case rel => exact ⟨j + 1, by omega, by go_num, below_next HBW.out.1 HB6.out, rowIs_below HBW.out.2 HB6.out⟩
            case measure => simp [RowKit.intOf]; omega
        · obtain rfl : j = k := by omega
          have HBW := Lib.hid hbw
          clear hbw hrow
          go_wp2_with (first | (go_at_call 11; (with_reducible refine (awake_any _).mono ?_); rintro e w7 ⟨rfl, hb7⟩; have HB7 := Lib.hid (below_next HBW.out hb7); clear hb7) | fail)
          go_ret
          exact ⟨rfl, HB7.out⟩

theorem signParted_walk (w : World) (l : List Dc) (sv : Value) (hl : DLies w (fun _ => True) sv l) :
    Calls Try.prog 5 #[sv] w fun e w' => e = .returned (.bool true) ∧ Below w.heap.size w w' := by
  rcases hf : Sg.formed l with _ | _
  · exact parted_bad w l sv hl hf
  · exact parted_good w l sv hl hf
end Go.Proofs.Yteoheeddjddekaa
