/- The walk of SignAdds. -/
import Derived.Test.YteoheeddjddekaaGreatSgAr
import Derived.Test.YteoheeddjddekaaGreatSgGv
namespace Go.Proofs.YteoheeddjddekaaGreat
open Go.RowKit Go.Shelf
set_option linter.unusedSimpArgs false
set_option linter.unusedVariables false

theorem addOut_code (l : List Dc) (d : Dc) : 0 ≤ (addOut l d).2 ∧ (addOut l d).2 ≤ 100 := by
  unfold addOut
  repeat' split
  all_goals simp

set_option maxHeartbeats 4000000 in
set_option maxRecDepth 100000 in
theorem signAdds_walk (w : World) (l : List Dc) (sv : Value) (hl : DLies w (fun _ => True) sv l) (d : Dc) (dv : Value) (hfit : d.fit) (hd : Lies w (fun _ => True) dv d.cl.args) (hnil : ∃ a m, sv = .slice a l.length m ∧ (a = none → l.length = 0 ∧ m = 0)) :
    Calls Tryz.prog 4 #[sv, dcV d dv] w fun e w' => e = .returned (.bool true) ∧ Below w.heap.size w w' := by
  obtain ⟨nme, ⟨o, h, n, ar⟩, imp⟩ := d
  obtain ⟨a2, n2, m2, rfl⟩ := hd.isSlice
  have hbx := one_below w (.cells #[.string nme, .int .i64 o, .int .i64 h, .int .i64 n, .slice a2 n2 m2, .int .i64 imp] 45)
  have HB := Lib.hid hbx
  have HX := Lib.hid (heap_alloc_new w (.cells #[.string nme, .int .i64 o, .int .i64 h, .int .i64 n, .slice a2 n2 m2, .int .i64 imp] 45))
  have cA := add_any l ⟨nme, .mk o h n ar, imp⟩ sv (.slice a2 n2 m2) _ (hl.keep hbx) (hd.keep hbx) hfit
  have cF := fun w1 (hb : Below w.heap.size w w1) => sgFormedR_any (fun _ => True) l sv w1 (hl.keep hb)
  rcases hf : Sg.formed l with _ | _
  · have HE : addOut l ⟨nme, .mk o h n ar, imp⟩ = ([], 2) := by unfold addOut; rw [hf]; rfl
    rw [HE] at cA
    rw [hf] at cF
    obtain ⟨a, m, rfl, -⟩ := hl.isSlice
    unfold dcV at *
    simp only [Tm.op, Tm.hd, Tm.n, Tm.args] at *
    clear hl hd hf HE hnil hbx
    go_enter Tryz.func4, Tryz.ntmps4
    go_wp2_with (first
      | (go_at_call 19; (with_reducible refine cA.mono ?_); rintro e w1 ⟨x, rfl, hb1, hD⟩; obtain ⟨a3, m3, rfl, -⟩ := hD.isSlice; have HB1 := Lib.hid (below_next HB.out hb1); clear hb1 hD)
      | (go_at_call 11; (with_reducible refine (cF _ HB1.out).mono ?_); rintro e w2 ⟨rfl, hb2⟩; have HB2 := Lib.hid (below_next HB1.out hb2); clear hb2)
      | (go_at_call 21; (with_reducible refine (gives_no _ _ _ _ _ _ _).mono ?_); rintro e w3 ⟨rfl, rfl⟩)
      | (go_at_call 12; (with_reducible refine (awake_any _).mono ?_); rintro e w5 ⟨rfl, hb5⟩; have HB5 := Lib.hid (below_next HB2.out hb5); clear hb5)
      | fail)
    go_ret
    exact ⟨rfl, HB5.out⟩
  · have cR := fun w1 (hb : Below w.heap.size w w1) => addR_any l ⟨nme, .mk o h n ar, imp⟩ sv (.slice a2 n2 m2) w1 (hl.keep hb) (hd.keep hb) hfit hf hnil
    rw [hf] at cF
    have hc := addOut_code l ⟨nme, .mk o h n ar, imp⟩
    generalize addOut l ⟨nme, .mk o h n ar, imp⟩ = z at *
    obtain ⟨z1, z2⟩ := z
    simp only at hc
    obtain ⟨hc1, hc2⟩ := hc
    obtain ⟨a, m, rfl, -⟩ := hl.isSlice
    unfold dcV at *
    simp only [Tm.op, Tm.hd, Tm.n, Tm.args] at *
    have hX0 := cells6_of' HX.out
    clear hl hd hf hnil hbx
    go_enter Tryz.func4, Tryz.ntmps4
    go_wp2_with (first
      | (go_at_call 19; (with_reducible refine cA.mono ?_); rintro e w1 ⟨x, rfl, hb1, hD⟩; have HD1 := Lib.hid hD; obtain ⟨a3, m3, rfl, -⟩ := hD.isSlice; have HB1 := Lib.hid (below_next HB.out hb1); have HX1 := Lib.hid (heap_kept hb1 HX.out); clear hb1 hD hX0)
      | (go_at_call 11; (with_reducible refine (cF _ HB1.out).mono ?_); rintro e w2 ⟨rfl, hb2⟩; have HB2 := Lib.hid (below_next HB1.out hb2); have HD2 := Lib.hid (HD1.out.keep hb2); have hX2 := cells6_of' (heap_kept hb2 HX1.out); clear hb2)
      | (go_at_call 20; (with_reducible refine (cR _ HB2.out).mono ?_); rintro e w3 ⟨y, rfl, hb3, hE⟩; have HD3 := Lib.hid (HD2.out.keep hb3); have HE3 := Lib.hid hE; obtain ⟨a4, m4, rfl, -⟩ := hE.isSlice; have HB3 := Lib.hid (below_next HB2.out hb3); clear hb3 hE hX2)
      | (go_at_call 21; (with_reducible refine (gives_yes _ _ _ _ _ _ hc1 hc2 _ HD3.out HE3.out).mono ?_); rintro e w4 ⟨rfl, hb4⟩; have HB4 := Lib.hid (below_next HB3.out hb4); clear hb4)
      | (go_at_call 12; (with_reducible refine (awake_any _).mono ?_); rintro e w5 ⟨rfl, hb5⟩; have HB5 := Lib.hid (below_next HB4.out hb5); clear hb5)
      | fail)
    go_ret
    exact ⟨rfl, HB5.out⟩
end Go.Proofs.YteoheeddjddekaaGreat
