/- The contract of term.Arrow. -/
import Derived.Test.YtnooeaefldklaaaTmJoin
namespace Go.Proofs.Ytnooeaefldklaaa
open Go.RowKit
set_option linter.unusedSimpArgs false
set_option linter.unusedVariables false

/-- what Arrow returns -/
def arrowOut (a b : Tm) : Tm × Int :=
  if Tm.proper a && Tm.proper b then (if (shiftOut 1 0 b).2 = 0 then joinOut [a] (shiftOut 1 0 b).1 else (Tm.zero, (shiftOut 1 0 b).2)) else (Tm.zero, 2)

theorem three_blocks (w : World) (c1 c2 c3 : Array Value) (t1 t2 t3 : TypeId) :
    (((w.alloc (.cells c1 t1)).alloc (.cells c2 t2)).alloc (.cells c3 t3)).heap[w.heap.size]? = some (.cells c1 t1 (0, 0)) ∧ (((w.alloc (.cells c1 t1)).alloc (.cells c2 t2)).alloc (.cells c3 t3)).heap[w.heap.size + 1]? = some (.cells c2 t2 (0, 0)) ∧
    (((w.alloc (.cells c1 t1)).alloc (.cells c2 t2)).alloc (.cells c3 t3)).heap[w.heap.size + 1 + 1]? = some (.cells c3 t3 (0, 0)) ∧ Below w.heap.size w (((w.alloc (.cells c1 t1)).alloc (.cells c2 t2)).alloc (.cells c3 t3)) ∧
    (((w.alloc (.cells c1 t1)).alloc (.cells c2 t2)).alloc (.cells c3 t3)).heap.size = w.heap.size + 3 := by
  have h2 := two_blocks w c1 c2 t1 t2
  have hb := one_below ((w.alloc (.cells c1 t1)).alloc (.cells c2 t2)) (.cells c3 t3)
  have e2 : ((w.alloc (.cells c1 t1)).alloc (.cells c2 t2)).heap.size = w.heap.size + 1 + 1 := by simp
  have hn := heap_alloc_new ((w.alloc (.cells c1 t1)).alloc (.cells c2 t2)) (.cells c3 t3)
  rw [e2] at hn
  exact ⟨heap_kept hb h2.1, heap_kept hb h2.2, hn, (two_below w _ _).trans (hb.mono (by rw [e2]; omega)), by simp⟩

/-- a row of one term -/
theorem Lies.single {W : World} {S : Nat → Prop} {g : Nat} {o h n : Int} {v : Value} {l : List Tm} {t : TypeId} (hg : W.heap[g]? = some (.cells #[.int .i64 o, .int .i64 h, .int .i64 n, v] t (0, 0))) (hS : S g) (f : (Tm.mk o h n l).fit) (hv : Lies W S v l) : Lies W S (.slice (some ⟨g, 0, none⟩) 1 1) [.mk o h n l] :=
  Lies.one hg hS f.1 f.2.1 f.2.2 hv

set_option maxHeartbeats 4000000 in
set_option maxRecDepth 100000 in
theorem arrow_any (o h n : Int) (v : Value) (l : List Tm) (o' h' n' : Int) (v' : Value) (l' : List Tm) (w : World) (hv : Lies w (fun _ => True) v l) (hv' : Lies w (fun _ => True) v' l') :
    Calls Try.prog 31 #[.agg #[.int .i64 o, .int .i64 h, .int .i64 n, v], .agg #[.int .i64 o', .int .i64 h', .int .i64 n', v']] w (GivesE w (arrowOut (.mk o h n l) (.mk o' h' n' l'))) := by
  obtain ⟨a2, n2, m2, rfl⟩ := hv.isSlice
  obtain ⟨a3, n3, m3, rfl⟩ := hv'.isSlice
  have H3 := Lib.hid (three_blocks w #[.int .i64 o, .int .i64 h, .int .i64 n, .slice a2 n2 m2] #[.int .i64 o', .int .i64 h', .int .i64 n', .slice a3 n3 m3] #[.int .i64 0, .int .i64 0, .int .i64 0, .slice none 0 0] 24 24 24)
  have c1 := isProper_any o h n _ l _ (hv.keep H3.out.2.2.2.1)
  have c2 := fun w1 (hb : Below w.heap.size w w1) => isProper_any o' h' n' _ l' w1 (hv'.keep hb)
  have c3 := fun w1 (hb : Below w.heap.size w w1) => shift_any o' h' n' 1 0 _ l' w1 (hv'.keep hb) ⟨by omega, by omega⟩ ⟨by omega, by omega⟩
  rcases hp : Tm.proper (.mk o h n l) with _ | _
  · have HY : Hid (arrowOut (.mk o h n l) (.mk o' h' n' l') = (Tm.zero, 2)) := by show _ = _; unfold arrowOut; rw [hp]; rfl
    rw [hp] at c1
    clear hv hv' c2 c3 hp
    go_enter Try.func31, Try.ntmps31
    go_wp2_with (go_at_call 47; (with_reducible refine c1.mono ?_); rintro e w1 ⟨rfl, hb1⟩; have hr1 := Lib.hid (heap_kept hb1 H3.out.2.2.1); obtain ⟨y0, y1, y2, y3⟩ := cells4_of hr1.out; have z0 := free_in hr1.out 0; have z1 := free_in hr1.out 1; have z2 := free_in hr1.out 2; have z3 := free_in hr1.out 3)
    have hz := set4_at hr1.out (.int .i64 0) (.int .i64 0) (.int .i64 0) (.slice none 0 0)
    obtain ⟨d0, d1, d2, d3⟩ := cells4_of hz
    have hb := H3.out.2.2.2.1.trans (hb1.mono H3.out.2.2.2.1.size)
    refine bodyPost_ret (v := .tuple #[.agg #[.int .i64 0, .int .i64 0, .int .i64 0, .slice none 0 0], .int .i64 2]) (by simp [results, Try.results31, go_sem, d0, d1, d2, d3]) rfl (givesE_zero HY.out ?_)
    exact (((hb.setCell (by simp; omega) _).setCell (by simp; omega) _).setCell (by simp; omega) _).setCell (by simp; omega) _
  · rw [hp] at c1
    rcases hp' : Tm.proper (.mk o' h' n' l') with _ | _
    · have HY : Hid (arrowOut (.mk o h n l) (.mk o' h' n' l') = (Tm.zero, 2)) := by show _ = _; unfold arrowOut; rw [hp, hp']; rfl
      rw [hp'] at c2
      clear hv hv' c3 hp hp'
      go_enter Try.func31, Try.ntmps31
      go_wp2_with fail
      refine c1.mono ?_
      rintro e w1 ⟨rfl, hb1⟩
      obtain ⟨q0, q1, q2, q3⟩ := cells4_of (heap_kept hb1 H3.out.2.1)
      have B1 := H3.out.2.2.2.1.trans (hb1.mono H3.out.2.2.2.1.size)
      go_wp2_with fail
      refine (c2 _ B1).mono ?_
      rintro e w2 ⟨rfl, hb2⟩
      have hr1 := Lib.hid (heap_kept hb2 (heap_kept hb1 H3.out.2.2.1))
      obtain ⟨y0, y1, y2, y3⟩ := cells4_of hr1.out
      have z0 := free_in hr1.out 0
      have z1 := free_in hr1.out 1
      have z2 := free_in hr1.out 2
      have z3 := free_in hr1.out 3
      go_wp2
      have hz := set4_at hr1.out (.int .i64 0) (.int .i64 0) (.int .i64 0) (.slice none 0 0)
      obtain ⟨d0, d1, d2, d3⟩ := cells4_of hz
      have hb := B1.trans (hb2.mono B1.size)
      refine bodyPost_ret (v := .tuple #[.agg #[.int .i64 0, .int .i64 0, .int .i64 0, .slice none 0 0], .int .i64 2]) (by simp [results, Try.results31, go_sem, d0, d1, d2, d3]) rfl (givesE_zero HY.out ?_)
      exact (((hb.setCell (by simp; omega) _).setCell (by simp; omega) _).setCell (by simp; omega) _).setCell (by simp; omega) _
    · rw [hp'] at c2
      have hfa := Tm.proper_fit hp
      obtain ⟨⟨T, er⟩, hs⟩ : ∃ r, r = shiftOut 1 0 (.mk o' h' n' l') := ⟨_, rfl⟩
      rw [← hs] at c3
      unfold GivesE at c3
      dsimp only at c3
      have HS := Lib.hid hs
      have HV := Lib.hid hv
      have HFA := Lib.hid hfa
      have HPP := Lib.hid (And.intro hp hp')
      by_cases he : er = 0
      · subst he
        have HY : Hid (arrowOut (.mk o h n l) (.mk o' h' n' l') = joinOut [.mk o h n l] T) := by show _ = _; unfold arrowOut; rw [hp, hp', ← hs]; rfl
        clear hv hv' hp hp' hs hfa
        go_enter Try.func31, Try.ntmps31
        go_wp2_with fail
        refine c1.mono ?_
        rintro e w1 ⟨rfl, hb1⟩
        obtain ⟨q0, q1, q2, q3⟩ := cells4_of (heap_kept hb1 H3.out.2.1)
        have B1 := H3.out.2.2.2.1.trans (hb1.mono H3.out.2.2.2.1.size)
        go_wp2_with fail
        refine (c2 _ B1).mono ?_
        rintro e w2 ⟨rfl, hb2⟩
        obtain ⟨r0, r1, r2, r3⟩ := cells4_of (heap_kept hb2 (heap_kept hb1 H3.out.2.1))
        have B2 := B1.trans (hb2.mono B1.size)
        clear q0 q1 q2 q3
        go_wp2_with fail
        refine (c3 _ B2).mono ?_
        rintro e w3 ⟨v3, rfl, hb3, hx3⟩
        obtain ⟨a4, n4, m4, rfl⟩ := hx3.isSlice
        have B3 := B2.trans (hb3.mono B2.size)
        have hK := three_blocks w3 #[.int .i64 T.op, .int .i64 T.hd, .int .i64 T.n, .slice a4 n4 m4] #[.int .i64 o, .int .i64 h, .int .i64 n, .slice a2 n2 m2] #[.int .i64 0] 24 24 3
        have hba := two_below w3 (.cells #[.int .i64 T.op, .int .i64 T.hd, .int .i64 T.n, .slice a4 n4 m4] 24) (.cells #[.int .i64 o, .int .i64 h, .int .i64 n, .slice a2 n2 m2] 24)
        have hn5 := two_blocks w3 #[.int .i64 T.op, .int .i64 T.hd, .int .i64 T.n, .slice a4 n4 m4] #[.int .i64 o, .int .i64 h, .int .i64 n, .slice a2 n2 m2] 24 24
        have B5 := B3.trans (hba.mono B3.size)
        have hbox := Lib.hid (heap_kept (one_below w3 (.cells #[.int .i64 T.op, .int .i64 T.hd, .int .i64 T.n, .slice a4 n4 m4] 24)) (heap_kept hb3 (heap_kept hb2 (heap_kept hb1 H3.out.1))))
        obtain ⟨q0, q1, q2, q3⟩ := cells4_of hbox.out
        have cj := join_any T.op T.hd T.n (.slice a4 n4 m4) T.args (.slice (some ⟨w3.heap.size + 1, 0, none⟩) 1 1) [.mk o h n l] _ ((hx3.keep hba).more fun _ _ _ => trivial) (Lies.single hn5.2 trivial HFA.out (HV.out.keep B5))
        rw [Tm.eta] at cj
        obtain ⟨⟨U, eu⟩, hU⟩ : ∃ r, r = joinOut [.mk o h n l] T := ⟨_, rfl⟩
        rw [← hU] at cj
        have HU := Lib.hid hU
        have HJ := Lib.hid cj
        have HB5 := Lib.hid B5
        have HBA := Lib.hid hba
        unfold GivesE at cj
        dsimp only at cj
        clear r0 r1 r2 r3 hK hn5 hU hba
        go_wp2_with fail
        refine cj.mono ?_
        rintro e w6 ⟨v6, rfl, hb6, hx6⟩
        obtain ⟨a6, n6, m6, rfl⟩ := hx6.isSlice
        have hr6 := Lib.hid (heap_kept hb6 (heap_kept HBA.out (heap_kept hb3 (heap_kept hb2 (heap_kept hb1 H3.out.2.2.1)))))
        obtain ⟨y0, y1, y2, y3⟩ := cells4_of hr6.out
        have z0 := free_in hr6.out 0
        have z1 := free_in hr6.out 1
        have z2 := free_in hr6.out 2
        have z3 := free_in hr6.out 3
        clear cj
        go_wp2
        have hz := set4_at hr6.out (.int .i64 U.op) (.int .i64 U.hd) (.int .i64 U.n) (.slice a6 n6 m6)
        obtain ⟨d0, d1, d2, d3⟩ := cells4_of hz
        have hb := HB5.out.trans (hb6.mono HB5.out.size)
        have hs3 := B3.size
        have hs5 : w.heap.size + 3 ≤ w3.heap.size := by have := hb1.size; have := hb2.size; have := hb3.size; have := H3.out.2.2.2.2; omega
        refine bodyPost_ret (v := .tuple #[.agg #[.int .i64 U.op, .int .i64 U.hd, .int .i64 U.n, .slice a6 n6 m6], .int .i64 eu]) (by simp [results, Try.results31, go_sem, d0, d1, d2, d3]) rfl ?_
        rw [HY.out, ← HU.out]
        refine ⟨_, rfl, (((hb.setCell (by simp; omega) _).setCell (by simp; omega) _).setCell (by simp; omega) _).setCell (by simp; omega) _, ?_⟩
        exact (hx6.still fun b hS _ => heap_set4 _ _ _ _ (by simp at hS ⊢; omega) (by simp at hS ⊢; omega) (by simp at hS ⊢; omega) (by simp at hS ⊢; omega)).more fun b _ hS => by simp at hS; omega
      · have HY : Hid (arrowOut (.mk o h n l) (.mk o' h' n' l') = (Tm.zero, er)) := by show _ = _; unfold arrowOut; rw [hp, hp', ← hs]; simp [he]
        have heb : (er != 0) = true := by rw [bne_iff_ne]; exact he
        clear hv hv' hp hp' hs hfa he
        go_enter Try.func31, Try.ntmps31
        go_wp2_with fail
        refine c1.mono ?_
        rintro e w1 ⟨rfl, hb1⟩
        obtain ⟨q0, q1, q2, q3⟩ := cells4_of (heap_kept hb1 H3.out.2.1)
        have B1 := H3.out.2.2.2.1.trans (hb1.mono H3.out.2.2.2.1.size)
        go_wp2_with fail
        refine (c2 _ B1).mono ?_
        rintro e w2 ⟨rfl, hb2⟩
        obtain ⟨r0, r1, r2, r3⟩ := cells4_of (heap_kept hb2 (heap_kept hb1 H3.out.2.1))
        have B2 := B1.trans (hb2.mono B1.size)
        clear q0 q1 q2 q3
        go_wp2_with fail
        refine (c3 _ B2).mono ?_
        rintro e w3 ⟨v3, rfl, hb3, hx3⟩
        obtain ⟨a4, n4, m4, rfl⟩ := hx3.isSlice
        have B3 := B2.trans (hb3.mono B2.size)
        have hba := one_below w3 (.cells #[.int .i64 T.op, .int .i64 T.hd, .int .i64 T.n, .slice a4 n4 m4] 24)
        have HB4 := Lib.hid (B3.trans (hba.mono B3.size))
        have hr6 := Lib.hid (heap_kept hba (heap_kept hb3 (heap_kept hb2 (heap_kept hb1 H3.out.2.2.1))))
        obtain ⟨y0, y1, y2, y3⟩ := cells4_of hr6.out
        have z0 := free_in hr6.out 0
        have z1 := free_in hr6.out 1
        have z2 := free_in hr6.out 2
        have z3 := free_in hr6.out 3
        clear r0 r1 r2 r3 hba
        go_wp2
        have hz := set4_at hr6.out (.int .i64 0) (.int .i64 0) (.int .i64 0) (.slice none 0 0)
        obtain ⟨d0, d1, d2, d3⟩ := cells4_of hz
        have hb := HB4.out
        refine bodyPost_ret (v := .tuple #[.agg #[.int .i64 0, .int .i64 0, .int .i64 0, .slice none 0 0], .int .i64 er]) (by simp [results, Try.results31, go_sem, d0, d1, d2, d3]) rfl (givesE_zero HY.out ?_)
        exact (((hb.setCell (by simp; omega) _).setCell (by simp; omega) _).setCell (by simp; omega) _).setCell (by simp; omega) _
end Go.Proofs.Ytnooeaefldklaaa
