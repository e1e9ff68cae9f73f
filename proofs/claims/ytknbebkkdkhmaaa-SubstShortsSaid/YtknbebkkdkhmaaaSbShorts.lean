/- For any term: Short says the head of which it is a long form, ErrNone or ErrArg, as the reference says, and the first examples come out. No conditions. -/
import Derived.Test.YtknbebkkdkhmaaaRows
import Derived.Test.YtknbebkkdkhmaaaSbAwake
import Derived.Test.YtknbebkkdkhmaaaSbShW
import Derived.Test.YtknbebkkdkhmaaaSbShR
import Derived.ProofKit
namespace Go.Proofs.Ytknbebkkdkhmaaa.Sb
open Go.RowKit
set_option linter.unusedSimpArgs false
set_option linter.unusedVariables false

theorem lies_one_t {W : World} {S : Nat → Prop} {t : Tm} {v : Value} {b : Nat} {T : TypeId} (hb : W.heap[b]? = some (.cells #[.int .i64 t.op, .int .i64 t.hd, .int .i64 t.n, v] T (0, 0))) (hS : S b) (ft : t.fit) (hv : Lies W S v t.args) : Lies W S (.slice (some ⟨b, 0, none⟩) 1 1) [t] := by
  obtain ⟨o, h, n, l⟩ := t
  exact Lies.one hb hS ft.1 ft.2.1 ft.2.2 hv

/-- what Short returns -/
def shortOut (t : Tm) : Int × Int × Int :=
  if Tm.proper t then (if (short 0 t).2.2 then ((short 0 t).1, (short 0 t).2.1, 0) else (0, 0, 6)) else (0, 0, 2)
def GivesS3 (w : World) (x : Int × Int × Int) (e : Ending) (w' : World) : Prop := e = .returned (.tuple #[.int .i64 x.1, .int .i64 x.2.1, .int .i64 x.2.2]) ∧ Below w.heap.size w w'
theorem givesS3_of {w w' : World} {x y : Int × Int × Int} (h : x = y) (hb : Below w.heap.size w w') : GivesS3 w x (.returned (.tuple #[.int .i64 y.1, .int .i64 y.2.1, .int .i64 y.2.2])) w' := by subst h; exact ⟨rfl, hb⟩

set_option maxHeartbeats 2000000 in
set_option maxRecDepth 100000 in
theorem shortF_any (t : Tm) (v : Value) (w : World) (hv : Lies w (fun _ => True) v t.args) (ft : t.fit) :
    Calls Try.prog 22 #[.agg #[.int .i64 t.op, .int .i64 t.hd, .int .i64 t.n, v]] w (GivesS3 w (shortOut t)) := by
  obtain ⟨a1, n1, m1, rfl⟩ := hv.isSlice
  have h2 := two_blocks w #[.int .i64 t.op, .int .i64 t.hd, .int .i64 t.n, .slice a1 n1 m1] #[.int .i64 t.op, .int .i64 t.hd, .int .i64 t.n, .slice a1 n1 m1] 24 24
  have hb2 := two_below w (.cells #[.int .i64 t.op, .int .i64 t.hd, .int .i64 t.n, .slice a1 n1 m1] 24) (.cells #[.int .i64 t.op, .int .i64 t.hd, .int .i64 t.n, .slice a1 n1 m1] 24)
  have call1 := areProper_any (.slice (some ⟨w.heap.size + 1, 0, none⟩) 1 1) [t] _ (lies_one_t (S := fun _ => True) h2.2 trivial ft (hv.keep hb2))
  have call2 := fun (w1 : World) (hp : Tm.proper t = true) (hb : Below w.heap.size w w1) => short_any t (.slice a1 n1 m1) w1 hp (hv.keep hb)
  have HB := Lib.hid hb2
  have HH := Lib.hid h2.1
  simp only [List.all_cons, List.all_nil, Bool.and_true] at call1
  clear h2 hb2 hv
  rcases hp : Tm.proper t with _ | _
  · have HE : Hid (shortOut t = (0, 0, 2)) := Lib.hid (by simp only [shortOut, hp]; rfl)
    rw [hp] at call1
    clear hp call2
    go_enter Try.func22, Try.ntmps22
    go_wp2_with fail
    refine call1.mono ?_
    rintro e w1 ⟨rfl, hb1⟩
    go_wp2_with fail
    exact bodyPost_ret (v := .tuple #[.int .i64 0, .int .i64 0, .int .i64 2]) (by simp [results, Try.results22, go_sem]) rfl (givesS3_of HE.out (below_next HB.out hb1))
  · rw [hp] at call1
    have call3 := fun (w1 : World) (hb : Below w.heap.size w w1) => call2 w1 hp hb
    have hout : shortOut t = if (short 0 t).2.2 then ((short 0 t).1, (short 0 t).2.1, 0) else (0, 0, 6) := by simp only [shortOut, hp]; rfl
    rcases hx : short 0 t with ⟨x1, x2, x3⟩
    rw [hx] at hout
    simp only [hx] at call3
    unfold GivesS at call3
    simp only at call3 hout
    clear call2 hp hx
    rcases x3 with _ | _
    all_goals
      simp only [Bool.false_eq_true, if_false, if_true] at hout
      have HE := Lib.hid hout
      clear hout
      go_enter Try.func22, Try.ntmps22
      go_wp2_with fail
      refine call1.mono ?_
      rintro e w1 ⟨rfl, hb1⟩
      obtain ⟨x0', x1', x2', x3'⟩ := c4_of (heap_kept hb1 HH.out)
      have HB1 := Lib.hid (below_next HB.out hb1)
      clear hb1 call1
      go_wp2_with fail
      refine (call3 _ HB1.out).mono ?_
      rintro e w2 ⟨rfl, hb2⟩
      go_wp2_with fail
    · exact bodyPost_ret (v := .tuple #[.int .i64 0, .int .i64 0, .int .i64 6]) (by simp [results, Try.results22, go_sem]) rfl (givesS3_of HE.out (below_next HB1.out hb2))
    · exact bodyPost_ret (v := .tuple #[.int .i64 x1, .int .i64 x2, .int .i64 0]) (by simp [results, Try.results22, go_sem]) rfl (givesS3_of HE.out (below_next HB1.out hb2))

set_option maxHeartbeats 2000000 in
set_option maxRecDepth 100000 in
theorem substShorts_walk (t : Tm) (v : Value) (w : World) (hv : Lies w (fun _ => True) v t.args) (ft : t.fit) :
    Calls Try.prog 8 #[.agg #[.int .i64 t.op, .int .i64 t.hd, .int .i64 t.n, v]] w fun e w' => e = .returned (.bool true) ∧ Below w.heap.size w w' := by
  obtain ⟨a1, n1, m1, rfl⟩ := hv.isSlice
  have hb0 := one_below w (.cells #[.int .i64 t.op, .int .i64 t.hd, .int .i64 t.n, .slice a1 n1 m1] 24)
  have hh0 := heap_alloc_new w (.cells #[.int .i64 t.op, .int .i64 t.hd, .int .i64 t.n, .slice a1 n1 m1] 24)
  have call1 := shortF_any t (.slice a1 n1 m1) _ (hv.keep hb0) ft
  have call2 : ∀ w1, Below w.heap.size w w1 → Calls Try.prog 27 #[.agg #[.int .i64 t.op, .int .i64 t.hd, .int .i64 t.n, .slice a1 n1 m1]] w1 fun e w' => e = .returned (.bool (Tm.proper t)) ∧ Below w1.heap.size w1 w' := fun w1 hb => by
    obtain ⟨o, h, n, l⟩ := t
    exact proper_any _ o h n _ l w1 (hv.keep hb)
  have call3 : Tm.proper t = true → ∀ w1, Below w.heap.size w w1 → Calls Try.prog 28 #[.agg #[.int .i64 t.op, .int .i64 t.hd, .int .i64 t.n, .slice a1 n1 m1]] w1 (GivesS w1 (short 0 t)) := fun hp w1 hb => shortR_any t (.slice a1 n1 m1) w1 hp (hv.keep hb)
  have HB := Lib.hid hb0
  have HH := Lib.hid hh0
  unfold GivesS3 at call1
  unfold GivesS at call3
  clear hb0 hh0 hv
  have ways : (Tm.proper t = false ∧ shortOut t = (0, 0, 2)) ∨ (Tm.proper t = true ∧ ∃ x1 x2, short 0 t = (x1, x2, false) ∧ shortOut t = (0, 0, 6)) ∨ (Tm.proper t = true ∧ ∃ x1 x2, short 0 t = (x1, x2, true) ∧ shortOut t = (x1, x2, 0)) := by
    rcases hp : Tm.proper t with _ | _
    · exact .inl ⟨rfl, by simp only [shortOut, hp]; rfl⟩
    · rcases hx : short 0 t with ⟨x1, x2, _ | _⟩
      · exact .inr (.inl ⟨rfl, x1, x2, rfl, by simp only [shortOut, hp, hx]; rfl⟩)
      · exact .inr (.inr ⟨rfl, x1, x2, rfl, by simp only [shortOut, hp, hx]; rfl⟩)
  rcases ways with ⟨hp, ho⟩ | ⟨hp, x1, x2, hx, ho⟩ | ⟨hp, x1, x2, hx, ho⟩
  all_goals
    rw [ho] at call1
    simp only [hp] at call2
    try (have call3 := call3 hp)
    try simp only [hx] at call3
    simp only at call1
    clear hp ho
    try clear hx
    go_enter Try.func8, Try.ntmps8
    go_wp2_with fail
    refine call1.mono ?_
    rintro e w1 ⟨rfl, hb1⟩
    have HB1 := Lib.hid (below_next HB.out hb1)
    have HH1 := Lib.hid (heap_kept hb1 HH.out)
    obtain ⟨x0', x1', x2', x3'⟩ := c4_of HH1.out
    clear hb1 call1
    go_wp2_with fail
    refine (call2 _ HB1.out).mono ?_
    rintro e w2 ⟨rfl, hb2⟩
    have HB2 := Lib.hid (below_next HB1.out hb2)
    have HH2 := Lib.hid (heap_kept hb2 HH1.out)
    clear hb2 call2 x0' x1' x2' x3'
    obtain ⟨x0', x1', x2', x3'⟩ := c4_of HH2.out
    go_wp2_with fail
  · refine (awake_any _).mono ?_
    rintro e w3 ⟨rfl, hb3⟩
    go_wp2_with fail
    go_ret
    exact ⟨rfl, below_next HB2.out hb3⟩
  all_goals
    refine (call3 _ HB2.out).mono ?_
    rintro e w3 ⟨rfl, hb3⟩
    have HB3 := Lib.hid (below_next HB2.out hb3)
    clear hb3 call3
    go_wp2_with fail
    refine (awake_any _).mono ?_
    rintro e w4 ⟨rfl, hb4⟩
    go_wp2_with fail
    go_ret
    exact ⟨rfl, below_next HB3.out hb4⟩

theorem ss_own : ownKnob Try.prog.godebug = none := by kernel_rfl
theorem ss_laidOut : laidOutB Try.prog = true := by kernel_rfl

open Go.ChangeShapes Go.WideShapes Go.ChangeAt Go.Deep in
set_option maxRecDepth 100000 in
theorem substShorts_lifted (os : Os) (started : os.Started) (H : Type) (enc : TypeId × Value → H) :
    ReturnsInHanded {} Try.checked os 8 .any (Rows.substShortsSpec.pre6 enc Try.prog Try.f8 Rows.substShortsRow.domain false) (Rows.substShortsSpec.post enc Try.prog Try.f8 false true false false) := by
  refine returnsInHanded_of_change (C := Try.checked) ss_own started (by kernel_rfl) Try.func8
    (ChangeSpec.witness6 (enc := enc) (C := Try.checked) false ⟨#[], #[.agg #[.int .i64 0, .int .i64 0, .int .i64 0, .slice none 0 0]], []⟩ 8 (by kernel_rfl) (by kernel_rfl) (by kernel_rfl) (by kernel_rfl)) ?_
  intro W base args ds gs before hval0 hW _ _
  have hval : ∀ (j : Nat) t v, Try.f8.params[j]? = some t → args[j]? = some v → Value.okWide Try.prog W .any base t v := hval0
  have hW' := hW
  obtain ⟨p, q, hA0, hV, rfl, _, _⟩ := hW
  have hA : DataW.TrodAll enc Try.prog W 0 (fun _ => true) true Try.f8.params.toList args.toList ds p := hA0
  rw [Try.params8] at hA hval
  obtain ⟨v0, d0, rfl, rfl, h0⟩ := trodAll_one hA
  obtain ⟨rfl, rfl⟩ := trodVars_none hV
  clear hA0 hval0
  simp only [List.append_nil] at hW'
  have hlt0 : ∀ x ∈ p, x.block < W.heap.size := fun x hx => hW'.lt x (by simp [hx])
  obtain ⟨o, h, n, v, l, rfl, ro, rh, rn, hv⟩ := open_term (hval 0 24 v0 rfl rfl) h0
  refine (substShorts_walk (.mk o h n l) v W hv ⟨ro, rh, rn⟩).mono fun e W' ⟨he, hb⟩ => ?_
  subst he
  refine ⟨_, rfl, _, _, _, [], p, [], hW', ?_, ?_, rfl, hb.frame _, fun h => by cases h⟩
  · exact trodAll_mk1 (shut_bool Try.underlying4 true)
  · exact trodAll_mk1 (Below.trod ss_laidOut (by kernel_rfl) (of_decide_eq_true (by kernel_rfl)) h0 hb hlt0)

theorem substShorts_all : Rows.SubstShortsSaid :=
  OpenClaim.holds_of_wide 8 Try.f8 rfl rfl rfl rfl rfl rfl rfl ⟨rfl, rfl, rfl, rfl, rfl⟩ rfl rfl rfl rfl rfl (by kernel_rfl) Try.func8 (by kernel_rfl)
    (of_decide_eq_true (by kernel_rfl)) (by unfold Func.isWrapper; first | (rw [if_pos (by decide +kernel)]; kernel_rfl) | (rw [if_neg (by decide +kernel)]; exact ⟨rfl, rfl⟩))
    (fun os started H enc _ => substShorts_lifted os started H enc)
end Go.Proofs.Ytknbebkkdkhmaaa.Sb
namespace Go.Proofs.Ytknbebkkdkhmaaa
theorem substShorts_holds : Rows.SubstShortsSaid := Sb.substShorts_all
end Go.Proofs.Ytknbebkkdkhmaaa
