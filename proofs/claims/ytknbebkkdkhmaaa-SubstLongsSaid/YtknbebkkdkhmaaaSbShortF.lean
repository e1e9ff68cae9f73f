/- The contract of Short. -/
import Derived.Test.YtknbebkkdkhmaaaSbAwake
import Derived.Test.YtknbebkkdkhmaaaSbShW
namespace Go.Proofs.Ytknbebkkdkhmaaa.Sb
open Go.RowKit
set_option linter.unusedSimpArgs false
set_option linter.unusedVariables false

theorem lies_one_t {W : World} {S : Nat → Prop} {t : Tm} {v : Value} {b : Nat} {T : TypeId} (hb : W.heap[b]? = some (.cells #[.int .i64 t.op, .int .i64 t.hd, .int .i64 t.n, v] T (0, 0))) (hS : S b) (ft : t.fit) (hv : Lies W S v t.args) : Lies W S (.slice (some ⟨b, 0, none⟩) 1 1) [t] := by
  obtain ⟨o, h, n, l⟩ := t
  exact Lies.one hb hS ft.1 ft.2.1 ft.2.2 hv

/-- what Short returns -/
def shortOut (t : Tm) : Int × Int × Int :=
  if Tm.proper t then (if (short 0 t).2.2 then ((short 0 t).1, (short 0 t).2.1, 0) else (0, 0, 6)) else (0, 0, 2)
def GivesS3 (w : World) (x : Int × Int × Int) (e : Ending) (w' : World) : Prop := e = .returned (.tuple #[.int .i64 x.1, .int .i64 x.2.1, .int .i64 x.2.2]) ∧ Below w.heap.size w w'
theorem givesS3_of {w w' : World} {x y : Int × Int × Int} (h : x = y) (hb : Below w.heap.size w w') : GivesS3 w x (.returned (.tuple #[.int .i64 y.1, .int .i64 y.2.1, .int .i64 y.2.2])) w' := by subst h; exact ⟨rfl, hb⟩

set_option maxHeartbeats 2000000 in
set_option maxRecDepth 100000 in
theorem shortF_any (t : Tm) (v : Value) (w : World) (hv : Lies w (fun _ => True) v t.args) (ft : t.fit) :
    Calls Try.prog 22 #[.agg #[.int .i64 t.op, .int .i64 t.hd, .int .i64 t.n, v]] w (GivesS3 w (shortOut t)) := by
  obtain ⟨a1, n1, m1, rfl⟩ := hv.isSlice
  have h2 := two_blocks w #[.int .i64 t.op, .int .i64 t.hd, .int .i64 t.n, .slice a1 n1 m1] #[.int .i64 t.op, .int .i64 t.hd, .int .i64 t.n, .slice a1 n1 m1] 24 24
  have hb2 := two_below w (.cells #[.int .i64 t.op, .int .i64 t.hd, .int .i64 t.n, .slice a1 n1 m1] 24) (.cells #[.int .i64 t.op, .int .i64 t.hd, .int .i64 t.n, .slice a1 n1 m1] 24)
  have call1 := areProper_any (.slice (some ⟨w.heap.size + 1, 0, none⟩) 1 1) [t] _ (lies_one_t (S := fun _ => True) h2.2 trivial ft (hv.keep hb2))
  have call2 := fun (w1 : World) (hp : Tm.proper t = true) (hb : Below w.heap.size w w1) => short_any t (.slice a1 n1 m1) w1 hp (hv.keep hb)
  have HB := Lib.hid hb2
  have HH := Lib.hid h2.1
  simp only [List.all_cons, List.all_nil, Bool.and_true] at call1
  clear h2 hb2 hv
  rcases hp : Tm.proper t with _ | _
  · have HE : Hid (shortOut t = (0, 0, 2)) := Lib.hid (by simp only [shortOut, hp]; rfl)
    rw [hp] at call1
    clear hp call2
    go_enter Try.func22, Try.ntmps22
    go_wp2_with fail
    refine call1.mono ?_
    rintro e w1 ⟨rfl, hb1⟩
    go_wp2_with fail
    exact bodyPost_ret (v := .tuple #[.int .i64 0, .int .i64 0, .int .i64 2]) (by simp [results, Try.results22, go_sem]) rfl (givesS3_of HE.out (below_next HB.out hb1))
  · rw [hp] at call1
    have call3 := fun (w1 : World) (hb : Below w.heap.size w w1) => call2 w1 hp hb
    have hout : shortOut t = if (short 0 t).2.2 then ((short 0 t).1, (short 0 t).2.1, 0) else (0, 0, 6) := by simp only [shortOut, hp]; rfl
    rcases hx : short 0 t with ⟨x1, x2, x3⟩
    rw [hx] at hout
    simp only [hx] at call3
    unfold GivesS at call3
    simp only at call3 hout
    clear call2 hp hx
    rcases x3 with _ | _
    all_goals
      simp only [Bool.false_eq_true, if_false, if_true] at hout
      have HE := Lib.hid hout
      clear hout
      go_enter Try.func22, Try.ntmps22
      go_wp2_with fail
      refine call1.mono ?_
      rintro e w1 ⟨rfl, hb1⟩
      obtain ⟨x0', x1', x2', x3'⟩ := c4_of (heap_kept hb1 HH.out)
      have HB1 := Lib.hid (below_next HB.out hb1)
      clear hb1 call1
      go_wp2_with fail
      refine (call3 _ HB1.out).mono ?_
      rintro e w2 ⟨rfl, hb2⟩
      go_wp2_with fail
    · exact bodyPost_ret (v := .tuple #[.int .i64 0, .int .i64 0, .int .i64 6]) (by simp [results, Try.results22, go_sem]) rfl (givesS3_of HE.out (below_next HB1.out hb2))
    · exact bodyPost_ret (v := .tuple #[.int .i64 x1, .int .i64 x2, .int .i64 0]) (by simp [results, Try.results22, go_sem]) rfl (givesS3_of HE.out (below_next HB1.out hb2))
end Go.Proofs.Ytknbebkkdkhmaaa.Sb
