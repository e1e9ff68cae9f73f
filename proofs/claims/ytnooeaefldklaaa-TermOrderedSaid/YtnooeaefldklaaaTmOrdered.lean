/- For any three terms: term.Compare is the documented order of proper terms; of three of them it is consistent, and 0 for the same ones alone. No conditions. -/
import Derived.Test.YtnooeaefldklaaaRows
import Derived.Test.YtnooeaefldklaaaTmOrdC
import Derived.Test.YtnooeaefldklaaaTmAwake
import Derived.ProofKit
namespace Go.Proofs.Ytnooeaefldklaaa
open Go.RowKit
set_option linter.unusedSimpArgs false
set_option linter.unusedVariables false

theorem blocks3 {w : World} {x y z : Array Value} {t : TypeId} :
    (((w.alloc (.cells x t)).alloc (.cells y t)).alloc (.cells z t)).heap[w.heap.size]? = some (.cells x t (0, 0)) ∧ (((w.alloc (.cells x t)).alloc (.cells y t)).alloc (.cells z t)).heap[w.heap.size + 1]? = some (.cells y t (0, 0)) ∧
      (((w.alloc (.cells x t)).alloc (.cells y t)).alloc (.cells z t)).heap[w.heap.size + 1 + 1]? = some (.cells z t (0, 0)) ∧ Below w.heap.size w (((w.alloc (.cells x t)).alloc (.cells y t)).alloc (.cells z t)) := by
  obtain ⟨h1, h2⟩ := blocks2 (w := w) (x := x) (y := y) (t := t)
  refine ⟨heap_kept ((Below.refl _ _).alloc (Nat.le_refl _) _) h1, heap_kept ((Below.refl _ _).alloc (Nat.le_refl _) _) h2, ?_, below_next (two_below w _ _) (one_below _ _)⟩
  have := heap_alloc_new ((w.alloc (.cells x t)).alloc (.cells y t)) (.cells z t)
  simpa using this

/-- the three variables of the law, in a world behind its beginning -/
structure Three (w w1 : World) (a b c : Tm) (va vb vc : Value) : Prop where
  below : Below w.heap.size w w1
  ha : w1.heap[w.heap.size]? = some (.cells #[.int .i64 a.op, .int .i64 a.hd, .int .i64 a.n, va] 24 (0, 0))
  hb : w1.heap[w.heap.size + 1]? = some (.cells #[.int .i64 b.op, .int .i64 b.hd, .int .i64 b.n, vb] 24 (0, 0))
  hc : w1.heap[w.heap.size + 1 + 1]? = some (.cells #[.int .i64 c.op, .int .i64 c.hd, .int .i64 c.n, vc] 24 (0, 0))
theorem Three.next {w w1 w2 : World} {a b c : Tm} {va vb vc : Value} (h : Three w w1 a b c va vb vc) (hb : Below w1.heap.size w1 w2) : Three w w2 a b c va vb vc :=
  ⟨below_next h.below hb, heap_kept hb h.ha, heap_kept hb h.hb, heap_kept hb h.hc⟩

set_option maxHeartbeats 4000000 in
set_option maxRecDepth 100000 in
theorem termOrdered_walk (a b c : Tm) (va vb vc : Value) (w : World) (hva : Lies w (fun _ => True) va a.args) (hvb : Lies w (fun _ => True) vb b.args) (hvc : Lies w (fun _ => True) vc c.args) (hfa : a.fit) (hfb : b.fit) :
    Calls Try.prog 9 #[.agg #[.int .i64 a.op, .int .i64 a.hd, .int .i64 a.n, va], .agg #[.int .i64 b.op, .int .i64 b.hd, .int .i64 b.n, vb], .agg #[.int .i64 c.op, .int .i64 c.hd, .int .i64 c.n, vc]] w
      fun e w' => e = .returned (.bool true) ∧ Below w.heap.size w w' := by
  obtain ⟨a1, n1, m1, rfl⟩ := hva.isSlice
  obtain ⟨a2, n2, m2, rfl⟩ := hvb.isSlice
  obtain ⟨a3, n3, m3, rfl⟩ := hvc.isSlice
  have T0 : Three w _ a b c (.slice a1 n1 m1) (.slice a2 n2 m2) (.slice a3 n3 m3) := ⟨blocks3.2.2.2, blocks3.1, blocks3.2.1, blocks3.2.2.1⟩
  have cab := fun w1 (h : Three w w1 a b c (.slice a1 n1 m1) (.slice a2 n2 m2) (.slice a3 n3 m3)) => cmpC_t a b _ _ w1 (hva.keep h.below) (hvb.keep h.below)
  have cba := fun w1 (h : Three w w1 a b c (.slice a1 n1 m1) (.slice a2 n2 m2) (.slice a3 n3 m3)) => cmpC_t b a _ _ w1 (hvb.keep h.below) (hva.keep h.below)
  have cbc := fun w1 (h : Three w w1 a b c (.slice a1 n1 m1) (.slice a2 n2 m2) (.slice a3 n3 m3)) => cmpC_t b c _ _ w1 (hvb.keep h.below) (hvc.keep h.below)
  have cac := fun w1 (h : Three w w1 a b c (.slice a1 n1 m1) (.slice a2 n2 m2) (.slice a3 n3 m3)) => cmpC_t a c _ _ w1 (hva.keep h.below) (hvc.keep h.below)
  have pa := fun w1 (h : Three w w1 a b c (.slice a1 n1 m1) (.slice a2 n2 m2) (.slice a3 n3 m3)) => proper_t a _ w1 (hva.keep h.below)
  have pb := fun w1 (h : Three w w1 a b c (.slice a1 n1 m1) (.slice a2 n2 m2) (.slice a3 n3 m3)) => proper_t b _ w1 (hvb.keep h.below)
  have pc := fun w1 (h : Three w w1 a b c (.slice a1 n1 m1) (.slice a2 n2 m2) (.slice a3 n3 m3)) => proper_t c _ w1 (hvc.keep h.below)
  have HVA := Lib.hid hva
  have HVB := Lib.hid hvb
  clear hva hvb hvc
  obtain ⟨p0, p1, p2, p3⟩ := tBlock T0.ha
  obtain ⟨q0, q1, q2, q3⟩ := tBlock T0.hb
  have TT := Lib.hid T0
  clear T0
  rcases hpa : Tm.proper a with _ | _
  · have e1 : cmpEnd a b = .returned (.tuple #[.int .i64 0, .int .i64 2]) := by unfold cmpEnd; rw [hpa]; rfl
    have c1 := cab _ TT.out
    rw [e1] at c1
    have c2 := fun w1 h => pa w1 h
    rw [hpa] at c2
    clear hpa e1 cab cba cbc cac pa pb pc
    go_enter Try.func9, Try.ntmps9
    go_wp2_with fail
    refine c1.mono ?_
    rintro e w1 ⟨rfl, hb1⟩
    have T1 := TT.out.next hb1
    obtain ⟨r0, r1, r2, r3⟩ := tBlock T1.ha
    have TT1 := Lib.hid T1
    clear p0 p1 p2 p3 q0 q1 q2 q3 T1 c1
    go_wp2_with fail
    refine (c2 _ TT1.out).mono ?_
    rintro e w2 ⟨rfl, hb2⟩
    have B2 := below_next TT1.out.below hb2
    clear c2
    go_wp2_with fail
    refine (awake_any _).mono ?_
    rintro e w3 ⟨rfl, hb3⟩
    go_wp2
    go_ret
    exact ⟨rfl, below_next B2 hb3⟩
  · rcases hpb : Tm.proper b with _ | _
    · have e1 : cmpEnd a b = .returned (.tuple #[.int .i64 0, .int .i64 2]) := by unfold cmpEnd; rw [hpa, hpb]; rfl
      have c1 := cab _ TT.out
      rw [e1] at c1
      have c2 := fun w1 h => pa w1 h
      rw [hpa] at c2
      have c3 := fun w1 h => pb w1 h
      rw [hpb] at c3
      clear hpa hpb e1 cab cba cbc cac pa pb pc
      go_enter Try.func9, Try.ntmps9
      go_wp2_with fail
      refine c1.mono ?_
      rintro e w1 ⟨rfl, hb1⟩
      have T1 := TT.out.next hb1
      obtain ⟨r0, r1, r2, r3⟩ := tBlock T1.ha
      have TT1 := Lib.hid T1
      clear p0 p1 p2 p3 q0 q1 q2 q3 T1 c1
      go_wp2_with fail
      refine (c2 _ TT1.out).mono ?_
      rintro e w2 ⟨rfl, hb2⟩
      have T2 := TT1.out.next hb2
      obtain ⟨s0, s1, s2, s3⟩ := tBlock T2.hb
      have TT2 := Lib.hid T2
      clear c2 r0 r1 r2 r3 T2
      go_wp2_with fail
      refine (c3 _ TT2.out).mono ?_
      rintro e w3 ⟨rfl, hb3⟩
      have B3 := below_next TT2.out.below hb3
      clear c3
      go_wp2_with fail
      refine (awake_any _).mono ?_
      rintro e w4 ⟨rfl, hb4⟩
      go_wp2
      go_ret
      exact ⟨rfl, below_next B3 hb4⟩
    · have e1 : cmpEnd a b = .returned (.tuple #[.int .i64 (Tm.ord a b), .int .i64 0]) := by unfold cmpEnd; rw [hpa, hpb]; rfl
      have e2 : cmpEnd b a = .returned (.tuple #[.int .i64 (- Tm.ord a b), .int .i64 0]) := by unfold cmpEnd; rw [hpa, hpb, Tm.ord_swap a b]; rfl
      have c1 := cab _ TT.out
      rw [e1] at c1
      have c2 := fun w1 h => pa w1 h
      rw [hpa] at c2
      have c3 := fun w1 h => pb w1 h
      rw [hpb] at c3
      have c4 := fun w1 h => cba w1 h
      rw [e2] at c4
      have c5 : ∀ w1, Three w w1 a b c (.slice a1 n1 m1) (.slice a2 n2 m2) (.slice a3 n3 m3) → Calls Try.prog 45 #[.agg #[.int .i64 a.op, .int .i64 a.hd, .int .i64 a.n, .slice a1 n1 m1], .agg #[.int .i64 b.op, .int .i64 b.hd, .int .i64 b.n, .slice a2 n2 m2]] w1 fun e w' => e = .returned (.int .i64 (Tm.ord a b)) ∧ Below w1.heap.size w1 w' := fun w1 h => by
        have := cmpR_calls (fun _ => True) (fun _ => True) _ a.op a.hd a.n b.op b.hd b.n _ _ a.args b.args w1 (Nat.le_refl _) (HVA.out.keep h.below) (HVB.out.keep h.below)
        rwa [Tm.eta, Tm.eta] at this
      have c6 : ∀ w1, Three w w1 a b c (.slice a1 n1 m1) (.slice a2 n2 m2) (.slice a3 n3 m3) → Calls Try.prog 43 #[.agg #[.int .i64 a.op, .int .i64 a.hd, .int .i64 a.n, .slice a1 n1 m1], .agg #[.int .i64 b.op, .int .i64 b.hd, .int .i64 b.n, .slice a2 n2 m2]] w1 fun e w' => e = .returned (.bool (Tm.same a b)) ∧ Below w1.heap.size w1 w' := fun w1 h => by
        have := sameT_any a.op a.hd a.n b.op b.hd b.n _ _ a.args b.args w1 (HVA.out.keep h.below) (HVB.out.keep h.below) (by rw [Tm.eta]; exact hfa) (by rw [Tm.eta]; exact hfb) (by rw [Tm.eta]; have := Tm.proper_sz hpa; omega)
        rwa [Tm.eta, Tm.eta] at this
      have hx := Tm.ord_range a b
      have hsm : Tm.same a b = decide (Tm.ord a b = 0) := by
        rcases h : Tm.same a b with _ | _
        · symm
          rw [decide_eq_false_iff_not, Tm.ord_zero, ← Tm.same_iff, h]
          simp
        · symm
          rw [decide_eq_true_iff, Tm.ord_zero, ← Tm.same_iff, h]
      rw [hsm] at c6
      have ht1 := Tm.ord_trans a b c
      have ht2 := Tm.ord_trans c b a
      rw [Tm.ord_swap b c, Tm.ord_swap a b, Tm.ord_swap a c] at ht2
      have HT1 := Lib.hid ht1
      have HT2 := Lib.hid ht2
      have HPB := Lib.hid hpb
      have HPA := Lib.hid hpa
      clear hpa hpb e1 e2 cab cba pa pb hsm ht1 ht2
      obtain ⟨x, hxx⟩ : ∃ x, x = Tm.ord a b := ⟨_, rfl⟩
      rw [← hxx] at c1 c4 c5 c6 hx HT1 HT2
      clear hxx
      have hx3 : x = -1 ∨ x = 0 ∨ x = 1 := by omega
      clear hx
      rcases hx3 with rfl | rfl | rfl
      all_goals
        go_enter Try.func9, Try.ntmps9
        go_wp2_with fail
        refine c1.mono ?_
        rintro e w1 ⟨rfl, hb1⟩
        have T1 := TT.out.next hb1
        obtain ⟨r0, r1, r2, r3⟩ := tBlock T1.ha
        have TT1 := Lib.hid T1
        clear p0 p1 p2 p3 q0 q1 q2 q3 T1 c1
        go_wp2_with fail
        refine (c2 _ TT1.out).mono ?_
        rintro e w2 ⟨rfl, hb2⟩
        have T2 := TT1.out.next hb2
        obtain ⟨s0, s1, s2, s3⟩ := tBlock T2.hb
        have TT2 := Lib.hid T2
        clear c2 r0 r1 r2 r3 T2
        go_wp2_with fail
        refine (c3 _ TT2.out).mono ?_
        rintro e w3 ⟨rfl, hb3⟩
        have T3 := TT2.out.next hb3
        obtain ⟨s0, s1, s2, s3⟩ := tBlock T3.hb
        obtain ⟨r0, r1, r2, r3⟩ := tBlock T3.ha
        have TT3 := Lib.hid T3
        clear c3 T3
        go_wp2_with fail
        refine (c4 _ TT3.out).mono ?_
        rintro e w4 ⟨rfl, hb4⟩
        have T4 := TT3.out.next hb4
        clear s0 s1 s2 s3 r0 r1 r2 r3
        obtain ⟨s0, s1, s2, s3⟩ := tBlock T4.hb
        obtain ⟨r0, r1, r2, r3⟩ := tBlock T4.ha
        have TT4 := Lib.hid T4
        clear c4 T4
        go_wp2_with fail
        refine (c5 _ TT4.out).mono ?_
        rintro e w5 ⟨rfl, hb5⟩
        have T5 := TT4.out.next hb5
        clear s0 s1 s2 s3 r0 r1 r2 r3
        obtain ⟨s0, s1, s2, s3⟩ := tBlock T5.hb
        obtain ⟨r0, r1, r2, r3⟩ := tBlock T5.ha
        have TT5 := Lib.hid T5
        clear c5 T5
        go_wp2_with fail
        refine (c6 _ TT5.out).mono ?_
        rintro e w6 ⟨rfl, hb6⟩
        have T6 := TT5.out.next hb6
        clear s0 s1 s2 s3 r0 r1 r2 r3
        obtain ⟨t0, t1, t2, t3⟩ := tBlock T6.hc
        have TT6 := Lib.hid T6
        clear c6 T6
        go_wp2_with fail
        have c7 := pc _ TT6.out
        rcases hpc : Tm.proper c with _ | _
        · rw [hpc] at c7
          clear hpc cbc cac pc
          refine c7.mono ?_
          rintro e w7 ⟨rfl, hb7⟩
          have B7 := below_next TT6.out.below hb7
          clear c7
          go_wp2_with fail
          refine (awake_any _).mono ?_
          rintro e w8 ⟨rfl, hb8⟩
          go_wp2
          go_ret
          exact ⟨rfl, below_next B7 hb8⟩
        · rw [hpc] at c7
          have e1 : cmpEnd b c = .returned (.tuple #[.int .i64 (Tm.ord b c), .int .i64 0]) := by unfold cmpEnd; rw [HPB.out, hpc]; rfl
          have e2 : cmpEnd a c = .returned (.tuple #[.int .i64 (Tm.ord a c), .int .i64 0]) := by unfold cmpEnd; rw [HPA.out, hpc]; rfl
          rw [e1] at cbc
          rw [e2] at cac
          have hy := Tm.ord_range b c
          have hz := Tm.ord_range a c
          clear hpc pc e1 e2
          refine c7.mono ?_
          rintro e w7 ⟨rfl, hb7⟩
          have T7 := TT6.out.next hb7
          clear c7 t0 t1 t2 t3
          obtain ⟨t0, t1, t2, t3⟩ := tBlock T7.hc
          obtain ⟨s0, s1, s2, s3⟩ := tBlock T7.hb
          have TT7 := Lib.hid T7
          clear T7
          generalize Tm.ord b c = y at *
          generalize Tm.ord a c = z at *
          have hyz : (y = -1 ∨ y = 0 ∨ y = 1) ∧ (z = -1 ∨ z = 0 ∨ z = 1) := by omega
          have ht1 := HT1.out
          have ht2 := HT2.out
          clear hy hz HT1 HT2
          obtain ⟨rfl | rfl | rfl, rfl | rfl | rfl⟩ := hyz
          all_goals first | (exfalso; omega) | skip
          all_goals
            clear ht1 ht2
            go_wp2_with fail
            refine (cbc _ TT7.out).mono ?_
            rintro e w8 ⟨rfl, hb8⟩
            have T8 := TT7.out.next hb8
            clear s0 s1 s2 s3 t0 t1 t2 t3
            obtain ⟨s0, s1, s2, s3⟩ := tBlock T8.hc
            obtain ⟨r0, r1, r2, r3⟩ := tBlock T8.ha
            have TT8 := Lib.hid T8
            clear T8
            go_wp2_with fail
            refine (cac _ TT8.out).mono ?_
            rintro e w9 ⟨rfl, hb9⟩
            have B9 := below_next TT8.out.below hb9
            clear s0 s1 s2 s3 r0 r1 r2 r3
            go_wp2_with fail
            refine (awake_any _).mono ?_
            rintro e w10 ⟨rfl, hb10⟩
            go_wp2
            go_ret
            exact ⟨rfl, below_next B9 hb10⟩

theorem to_own : ownKnob Try.prog.godebug = none := by kernel_rfl
theorem to_laidOut : laidOutB Try.prog = true := by kernel_rfl

open Go.ChangeShapes Go.WideShapes Go.ChangeAt Go.Deep in
set_option maxRecDepth 100000 in
theorem termOrdered_lifted (os : Os) (started : os.Started) (H : Type) (enc : TypeId × Value → H) :
    ReturnsInHanded {} Try.checked os 9 .any (Rows.termOrderedSpec.pre6 enc Try.prog Try.f9 Rows.termOrderedRow.domain false) (Rows.termOrderedSpec.post enc Try.prog Try.f9 false true false false) := by
  refine returnsInHanded_of_change (C := Try.checked) to_own started (by kernel_rfl) Try.func9
    (ChangeSpec.witness6 (enc := enc) (C := Try.checked) false ⟨#[], #[.agg #[.int .i64 0, .int .i64 0, .int .i64 0, .slice none 0 0], .agg #[.int .i64 0, .int .i64 0, .int .i64 0, .slice none 0 0], .agg #[.int .i64 0, .int .i64 0, .int .i64 0, .slice none 0 0]], []⟩ 8 (by kernel_rfl) (by kernel_rfl) (by kernel_rfl) (by kernel_rfl)) ?_
  intro W base args ds gs before hval0 hW _ _
  have hval : ∀ (j : Nat) t v, Try.f9.params[j]? = some t → args[j]? = some v → Value.okWide Try.prog W .any base t v := hval0
  have hW' := hW
  obtain ⟨p, q, hA0, hV, rfl, _, _⟩ := hW
  have hA : DataW.TrodAll enc Try.prog W 0 (fun _ => true) true Try.f9.params.toList args.toList ds p := hA0
  rw [Try.params9] at hA hval
  obtain ⟨v0, v1, v2, d0, d1, d2, p0, p1, p2, rfl, rfl, rfl, h0, h1, h2⟩ := trodAll_three hA
  obtain ⟨rfl, rfl⟩ := trodVars_none hV
  clear hA0 hval0
  simp only [List.append_nil] at hW'
  have hlt0 : ∀ x ∈ p0, x.block < W.heap.size := fun x hx => hW'.lt x (by simp [hx])
  have hlt1 : ∀ x ∈ p1, x.block < W.heap.size := fun x hx => hW'.lt x (by simp [hx])
  have hlt2 : ∀ x ∈ p2, x.block < W.heap.size := fun x hx => hW'.lt x (by simp [hx])
  obtain ⟨o, h, n, v, l, rfl, ro, rh, rn, hv⟩ := open_term (hval 0 24 v0 rfl rfl) h0
  obtain ⟨o', h', n', v', l', rfl, ro', rh', rn', hv'⟩ := open_term (hval 1 24 v1 rfl rfl) h1
  obtain ⟨o3, h3, n3, v3, l3, rfl, ro3, rh3, rn3, hv3⟩ := open_term (hval 2 24 v2 rfl rfl) h2
  refine (termOrdered_walk (.mk o h n l) (.mk o' h' n' l') (.mk o3 h3 n3 l3) v v' v3 W hv hv' hv3 ⟨ro, rh, rn⟩ ⟨ro', rh', rn'⟩).mono fun e W' ⟨he, hb⟩ => ?_
  subst he
  refine ⟨_, rfl, _, _, _, [], p0 ++ (p1 ++ p2), [], hW', ?_, ?_, rfl, hb.frame _, fun h => by cases h⟩
  · exact trodAll_mk1 (shut_bool Try.underlying4 true)
  · exact trodAll_mk3 (Below.trod to_laidOut (by kernel_rfl) (of_decide_eq_true (by kernel_rfl)) h0 hb hlt0) (Below.trod to_laidOut (by kernel_rfl) (of_decide_eq_true (by kernel_rfl)) h1 hb hlt1) (Below.trod to_laidOut (by kernel_rfl) (of_decide_eq_true (by kernel_rfl)) h2 hb hlt2)

theorem termOrdered_holds : Rows.TermOrderedSaid :=
  OpenClaim.holds_of_wide 9 Try.f9 rfl rfl rfl rfl rfl rfl rfl ⟨rfl, rfl, rfl, rfl, rfl⟩ rfl rfl rfl rfl rfl (by kernel_rfl) Try.func9 (by kernel_rfl)
    (of_decide_eq_true (by kernel_rfl)) (by unfold Func.isWrapper; first | (rw [if_pos (by decide +kernel)]; kernel_rfl) | (rw [if_neg (by decide +kernel)]; exact ⟨rfl, rfl⟩))
    (fun os started H enc _ => termOrdered_lifted os started H enc)

end Go.Proofs.Ytnooeaefldklaaa
