/- Contracts of the reference's Has, IsFamily, Target, Find, Of. -/
import Derived.Test.YteoheeddjddekaaGreatL5f
import Derived.Test.YteoheeddjddekaaGreatL5e
namespace Go.Proofs.YteoheeddjddekaaGreat
open Go.RowKit Go.Shelf
set_option linter.unusedSimpArgs false
set_option linter.unusedVariables false

set_option maxHeartbeats 1000000 in
theorem hasR_any (S : Nat → Prop) (l : List Dc) (n : Int) (sv : Value) (w : World) (hl : DLies w S sv l) :
    Calls Tryz.prog 14 #[sv, .int .i64 n] w fun e w' => e = .returned (.bool (decide (0 ≤ n ∧ n < (l.length : Int)))) ∧ w' = w := by
  obtain ⟨a, m, rfl, hlen⟩ := hl.isSlice
  clear hl
  by_cases h0 : 0 ≤ n
  · by_cases h1 : n < (l.length : Int)
    · go_enter Tryz.func14, Tryz.ntmps14
      go_wp2_with fail
      go_ret
      exact ⟨ret_bool (by rw [decide_eq_true (show _ from ⟨h0, h1⟩)]), rfl⟩
    · go_enter Tryz.func14, Tryz.ntmps14
      go_wp2_with fail
      go_ret
      exact ⟨ret_bool (by first | rw [decide_eq_false (show ¬ 0 ≤ n by omega), Bool.false_and] | rw [Bool.false_and] | rw [decide_eq_false (show ¬ n < (l.length : Int) by omega)]), rfl⟩
  · go_enter Tryz.func14, Tryz.ntmps14
    go_wp2_with fail
    go_ret
    exact ⟨ret_bool (by first | rw [decide_eq_false (show ¬ 0 ≤ n by omega), Bool.false_and] | rw [Bool.false_and] | rw [decide_eq_false (show ¬ n < (l.length : Int) by omega)]), rfl⟩

set_option maxHeartbeats 1000000 in
theorem isFamilyR_any (S : Nat → Prop) (l : List Dc) (i : Nat) (hi : i < l.length) (sv : Value) (w : World) (hl : DLies w S sv l) (hp : Tm.proper l[i].cl = true) :
    Calls Tryz.prog 15 #[sv, .int .i64 i] w fun e w' => e = .returned (.bool (Tm.kind l[i].cl)) ∧ Below w.heap.size w w' := by
  have c := familyR_any S l i hi sv w hl hp
  obtain ⟨a, m, rfl, hlen⟩ := hl.isSlice
  clear hl
  generalize Tm.kind l[i].cl = b at *
  go_enter Tryz.func15, Tryz.ntmps15
  go_wp2_with fail
  refine c.mono ?_
  rintro e w1 ⟨rfl, hb1⟩
  go_wp2_with fail
  go_ret
  exact ⟨rfl, hb1⟩

/-- the target of a constant -/
def tgR (l : List Dc) (i : Nat) : Int := if Tm.kind (clAt l i) = true then (i : Int) else (Tm.res (clAt l i)).1.n

set_option maxHeartbeats 2000000 in
set_option maxRecDepth 100000 in
theorem targetR_any (S : Nat → Prop) (l : List Dc) (i : Nat) (hi : i < l.length) (sv : Value) (w : World) (hl : DLies w S sv l) (hp : Tm.proper l[i].cl = true) :
    Calls Tryz.prog 16 #[sv, .int .i64 i] w fun e w' => e = .returned (.int .i64 (tgR l i)) ∧ Below w.heap.size w w' := by
  obtain ⟨ao, bb, off, len, cap, nm, oo, hh, kk, sc, tt, im, rfl, R⟩ := hl
  have hil : i < len := by rw [← R.length]; exact hi
  have hrl := R.hl
  have hrc := R.hr
  obtain rfl := R.hao (by omega)
  obtain ⟨d0, d1, d2, d3, d4, d5, hsub⟩ := R.at (Below.refl _ _) i hil
  have hg := R.get i hil
  have HK1 : Hid ((Tm.res (.mk (oo i) (hh i) (kk i) (tt i))).1.op = 1 → tgR l i = i) := Lib.hid (fun h => by unfold tgR Tm.kind; rw [clAt_get hi, hg, h]; rfl)
  have HK2 : Hid (((Tm.res (.mk (oo i) (hh i) (kk i) (tt i))).1.op == 1) = false → tgR l i = (Tm.res (.mk (oo i) (hh i) (kk i) (tt i))).1.n) := Lib.hid (fun h => by unfold tgR Tm.kind; rw [clAt_get hi, hg, h]; rfl)
  generalize tgR l i = tg at *
  rw [hg] at hp
  have cS := splitR_res (.mk (oo i) (hh i) (kk i) (tt i)) (sc i) w (hsub.more fun _ _ _ => trivial) hp
  obtain ⟨a9, n9, m9, hsc⟩ := hsub.isSlice
  rw [hsc] at d4 cS
  generalize Tm.res (.mk (oo i) (hh i) (kk i) (tt i)) = rr at *
  obtain ⟨⟨uo, uh, un, ul⟩, cnt⟩ := rr
  simp only [Tm.op, Tm.hd, Tm.n] at cS HK1 HK2
  clear R hsub hg hp d0 d5
  by_cases ho : uo = 1
  · subst ho
    go_enter Tryz.func16, Tryz.ntmps16
    go_wp2_with fail
    refine cS.mono ?_
    rintro e w1 ⟨a, m, b, rfl, hb1, ⟨a2, n2, m2, rfl⟩⟩
    have HB := Lib.hid hb1
    clear hb1
    go_wp2_with fail
    go_ret
    rw [HK1.out trivial]
    exact ⟨rfl, HB.out.trans ((one_below w1 _).mono HB.out.size)⟩
  · have ho' : (uo == 1) = false := by simpa using ho
    go_enter Tryz.func16, Tryz.ntmps16
    go_wp2_with fail
    refine cS.mono ?_
    rintro e w1 ⟨a, m, b, rfl, hb1, ⟨a2, n2, m2, rfl⟩⟩
    have HB := Lib.hid hb1
    clear hb1
    go_wp2_with fail
    go_ret
    rw [HK2.out ho']
    exact ⟨rfl, HB.out.trans ((one_below w1 _).mono HB.out.size)⟩

/-- where a name stands, or -1 -/
def findR (l : List Dc) (s : ByteArray) : Int := match posOf l s with | some i => (i : Int) | none => -1
theorem findR_hit {l : List Dc} {s : ByteArray} {k : Nat} (hk : k < l.length) (h : l[k].nm = s) (hn : ∀ j (hj : j < l.length), j < k → ¬ l[j].nm = s) : findR l s = k := by
  have : posOf l s = some k := by
    unfold posOf
    rw [List.findIdx?_eq_some_iff_getElem]
    exact ⟨hk, decide_eq_true h, fun j hj => by simpa using hn j (by omega) hj⟩
  unfold findR; rw [this]
theorem findR_no {l : List Dc} {s : ByteArray} (hn : ∀ j (hj : j < l.length), ¬ l[j].nm = s) : findR l s = -1 := by
  have : posOf l s = none := by
    unfold posOf
    rw [List.findIdx?_eq_none_iff]
    intro x hx
    obtain ⟨j, hj, rfl⟩ := List.getElem_of_mem hx
    exact decide_eq_false (hn j hj)
  unfold findR; rw [this]

set_option maxHeartbeats 4000000 in
set_option maxRecDepth 100000 in
theorem findR_any (S : Nat → Prop) (l : List Dc) (s : ByteArray) (sv : Value) (w : World) (hl : DLies w S sv l) :
    Calls Tryz.prog 13 #[sv, .string s] w fun e w' => e = .returned (.int .i64 (findR l s)) ∧ Below w.heap.size w w' := by
  obtain ⟨ao, bb, off, len, cap, nm, oo, hh, kk, sc, tt, im, rfl, R⟩ := hl
  have hrl := R.hl
  have hrc := R.hr
  have HIT := Lib.hid fun k hk h hn => findR_hit (l := l) (s := s) (k := k) hk h hn
  have NO := Lib.hid fun hn => findR_no (l := l) (s := s) hn
  generalize findR l s = r at *
  have HLEN := Lib.hid R.length
  have HR := Lib.hid R
  clear R
  go_enter Tryz.func13, Tryz.ntmps13
  go_wp2_with fail
  go_loopw [9] (fun i wr => ∃ k : Nat, k ≤ len ∧ i = .int .i64 k ∧ Below w.heap.size w wr ∧ Hid (∀ j, j < k → ¬ nm j = s)) (fun i _ => len - (RowKit.intOf i).toNat)
  case atStart => exact ⟨0, Nat.zero_le _, rfl, Below.refl _ _, Lib.hid (by intro j hj; omega)⟩
  case round =>
    obtain ⟨k, hk, rfl, hbw, HNN⟩ := hrel
    by_cases hlt : k < len
    · obtain rfl := HR.out.hao (by omega)
      obtain ⟨d0, d1, d2, d3, d4, d5, hsub⟩ := HR.out.at hbw k hlt
      obtain ⟨a9, n9, m9, hsc⟩ := hsub.isSlice
      rw [hsc] at d4
      have HB4 := Lib.hid (hbw.trans ((one_below wr (.cells #[.string (nm k), .int .i64 (oo k), .int .i64 (hh k), .int .i64 (kk k), .slice a9 n9 m9, .int .i64 (im k)] 45)).mono hbw.size))
      clear hsub hbw
      by_cases hq : nm k = s
      · have HRR : Hid (r = (k : Int)) := Lib.hid (HIT.out k (by rw [HLEN.out]; exact hlt) (by rw [HR.out.get k hlt]; exact hq) (fun j hj hjk => by rw [HR.out.get j (by omega)]; exact HNN.out j hjk))
        rw [hq] at d0 HB4
        go_wp2_with fail
        go_ret
        rw [HRR.out]
        exact ⟨rfl, HB4.out⟩
      · have hqb := bytes_beq hq
        go_wp2_with fail
        go_roundw
        case rel =>
          refine ⟨k + 1, by omega, by go_num, HB4.out, Lib.hid fun j hj => ?_⟩
          by_cases e : j = k
          · subst e; exact hq
          · exact HNN.out j (by omega)
        case measure => simp [RowKit.intOf]; omega
    · obtain rfl : k = len := by omega
      have HRR : Hid (r = -1) := Lib.hid (NO.out (fun j hj => by rw [HR.out.get j (by rw [← HLEN.out]; exact hj)]; exact HNN.out j (by rw [← HLEN.out]; exact hj)))
      have HB4 := Lib.hid hbw
      clear hbw
      go_wp2_with fail
      go_ret
      rw [HRR.out]
      exact ⟨rfl, HB4.out⟩

/-- the object constants of a family among the first k -/
def ofTo (l : List Dc) (n : Int) (k : Nat) : List Int := ((List.range k).filter fun i => !Tm.kind (clAt l i) && decide (tgR l i = n)).map fun (i : Nat) => (i : Int)
theorem ofTo_length (l : List Dc) (n : Int) (k : Nat) : (ofTo l n k).length ≤ k := by
  unfold ofTo; rw [List.length_map]; exact Nat.le_trans (List.length_filter_le _ _) (by rw [List.length_range]; exact Nat.le_refl _)
theorem ofTo_yes {l : List Dc} {n : Int} {k : Nat} (h1 : Tm.kind (clAt l k) = false) (h2 : tgR l k = n) : ofTo l n (k + 1) = ofTo l n k ++ [(k : Int)] := by
  unfold ofTo; rw [List.range_succ, List.filter_append, List.map_append]; simp [h1, h2]
theorem ofTo_no {l : List Dc} {n : Int} {k : Nat} (h : Tm.kind (clAt l k) = true ∨ tgR l k ≠ n) : ofTo l n (k + 1) = ofTo l n k := by
  unfold ofTo; rw [List.range_succ, List.filter_append, List.map_append]; rcases h with h | h <;> simp [h]

theorem ownsRow_over {w w' : World} {base : Nat} {e : TypeId} {size : Nat} {v : Value} {n : Nat} {xs : List Value} (h : w.ownsRow base e size v n xs) (hb : Below w.heap.size w w') : w'.ownsRow base e size v n xs :=
  h.kept (below_grows hb) (by rcases v.ownBlock with _ | _ <;> simp)

set_option maxHeartbeats 4000000 in
set_option maxRecDepth 100000 in
theorem ofR_any (S : Nat → Prop) (l : List Dc) (n : Int) (sv : Value) (w : World) (hl : DLies w S sv l) (hp : ∀ x ∈ l, Tm.proper x.cl = true) (h100 : l.length ≤ 100) :
    Calls Tryz.prog 18 #[sv, .int .i64 n] w fun e w' => ∃ v, e = .returned v ∧ Ints w' v (ofTo l n l.length) ∧ Below w.heap.size w w' := by
  obtain ⟨a, m, rfl, hlen⟩ := hl.isSlice
  have HL := Lib.hid hl
  have HP := Lib.hid hp
  obtain ⟨i0, hi0, hz0, hz1, hz2⟩ := info_parts int_info
  clear hl hp
  go_enter Tryz.func18, Tryz.ntmps18
  go_wp2_with fail
  go_loopw [5, 9] (fun v i wr => ∃ k : Nat, k ≤ l.length ∧ i = .int .i64 k ∧ Below w.heap.size w wr ∧ Hid (wr.ownsRow w.heap.size 3 1 v (ofTo l n k).length ((ofTo l n k).map (Value.int .i64)))) (fun _ i _ => l.length - (RowKit.intOf i).toNat)
  case atStart => exact ⟨0, Nat.zero_le _, rfl, Below.refl _ _, Lib.hid (World.ownsRow_nil _ _ _ _)⟩
  case round =>
    obtain ⟨k, hk, rfl, hbw, HO⟩ := hrel
    by_cases hlt : k < l.length
    · have HBW := Lib.hid hbw
      have hpk : Tm.proper l[k].cl = true := HP.out _ (List.getElem_mem hlt)
      have cF := familyR_any S l k hlt (.slice a l.length m) wr (HL.out.keep hbw) hpk
      have cT := fun w1 (hb : Below w.heap.size w w1) => targetR_any S l k hlt (.slice a l.length m) w1 (HL.out.keep hb) hpk
      have hkc := clAt_get hlt
      rw [← hkc] at cF
      clear hbw hpk hkc
      rcases hK : Tm.kind (clAt l k) with _ | _
      · rw [hK] at cF
        by_cases hT : tgR l k = n
        · have HY := Lib.hid (ofTo_yes hK hT)
          rw [hT] at cT
          have HLn := Lib.hid (ofTo_length l n k)
          have HM1 : Hid ((ofTo l n k).length + 1 ≤ maxLen) := by show _ ≤ _; have := HLn.out; unfold maxLen; omega
          have HM2 : Hid (((ofTo l n k).length + 1) * 8 ≤ 140737488355328) := by show _ ≤ _; have := HLn.out; omega
          clear hK hT
          go_wp2_with (first
            | (go_at_call 38; (with_reducible refine cF.mono ?_); rintro e w1 ⟨rfl, hb1⟩; have HB1 := Lib.hid (below_next HBW.out hb1); have HO1 := Lib.hid (ownsRow_over HO.out hb1); clear hb1)
            | (go_at_call 16; (with_reducible refine (cT _ HB1.out).mono ?_); rintro e w2 ⟨rfl, hb2⟩; have HB2 := Lib.hid (below_next HB1.out hb2); have HO2 := Lib.hid (ownsRow_over HO1.out hb2); clear hb2)
            | (at_builtin; refine wpList_append_own _ rfl _ _ 30 rfl w.heap.size 3 i0 (.int .i64 0) 1 8 Tryz.underlying30 hi0 hz0 hz1 hz2 rfl (by decide) _ _ _ rfl (HO2.out.alloc _) ⟨w2.heap.size, 0, none⟩ 1 1 [.int .i64 (k : Int)] rfl rfl (news_int (heap_alloc_new w2 _)) (ints_one [(k : Int)]) HM1.out HM2.out (by have := HB2.out.size; simp; omega) ?_; intro v3 w3 hown3 hgrow3 hnil3; have hb3' : Below w.heap.size w w3 := (HB2.out.alloc HB2.out.size _).grown hgrow3 (by have := HB2.out.size; simp; omega) (fun j hj => (HO2.out.lt j hj).1); have HO3 := Lib.hid hown3; have HB3 := Lib.hid hb3'; clear hnil3 hown3 hb3' hgrow3)
            | fail)
          go_roundw
          case rel => exact ⟨k + 1, by omega, by go_num, HB3.out, Lib.hid (by rw [HY.out]; simpa using HO3.out)⟩
          case measure => simp [RowKit.intOf]; omega
        · have HY := Lib.hid (ofTo_no (l := l) (n := n) (k := k) (.inr hT))
          have hT' : (tgR l k == n) = false := by simpa using hT
          generalize tgR l k = tg at *
          clear hK
          go_wp2_with (first
            | (go_at_call 38; (with_reducible refine cF.mono ?_); rintro e w1 ⟨rfl, hb1⟩; have HB1 := Lib.hid (below_next HBW.out hb1); have HO1 := Lib.hid (ownsRow_over HO.out hb1); clear hb1)
            | (go_at_call 16; (with_reducible refine (cT _ HB1.out).mono ?_); rintro e w2 ⟨rfl, hb2⟩; have HB2 := Lib.hid (below_next HB1.out hb2); have HO2 := Lib.hid (ownsRow_over HO1.out hb2); clear hb2)
            | fail)
          go_roundw
          case rel => exact ⟨k + 1, by omega, by go_num, HB2.out, Lib.hid (by rw [HY.out]; exact HO2.out)⟩
          case measure => simp [RowKit.intOf]; omega
      · rw [hK] at cF
        have HY := Lib.hid (ofTo_no (l := l) (n := n) (k := k) (.inl hK))
        clear hK cT
        go_wp2_with (first
            | (go_at_call 38; (with_reducible refine cF.mono ?_); rintro e w1 ⟨rfl, hb1⟩; have HB1 := Lib.hid (below_next HBW.out hb1); have HO1 := Lib.hid (ownsRow_over HO.out hb1); clear hb1)
            | fail)
        go_roundw
        case rel => exact ⟨k + 1, by omega, by go_num, HB1.out, Lib.hid (by rw [HY.out]; exact HO1.out)⟩
        case measure => simp [RowKit.intOf]; omega
    · obtain rfl : k = l.length := by omega
      have HB4 := Lib.hid hbw
      clear hbw
      go_wp2_with fail
      go_ret
      exact ⟨_, rfl, Ints.own HO.out (by simp), HB4.out⟩
end Go.Proofs.YteoheeddjddekaaGreat
