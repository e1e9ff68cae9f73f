/- The contract of term.Join, whole. -/
import Derived.Test.YtnooeaefldklaaaTmJoinW
namespace Go.Proofs.Ytnooeaefldklaaa
open Go.RowKit
set_option linter.unusedSimpArgs false
set_option linter.unusedVariables false

/-- the TPis with these domains around a term -/
def joinL (ds : List Tm) (t : Tm) : Tm := ds.foldr Tm.pi t

theorem backOf_val (len : Nat) : (backOf len).map (·.1) = (List.range len).reverse := by
  unfold backOf
  by_cases h : 0 < len
  · rw [dif_pos h]
    apply List.ext_getElem
    · simp [uptoF]
    · intro i h1 h2
      simp [uptoF, fromLast]
  · rw [dif_neg h]
    have : len = 0 := by omega
    subst this; rfl
theorem joinI_all (g : Nat → Tm) (t : Tm) (len : Nat) : joinI g t (backOf len) = joinL ((List.range len).map g) t := by
  unfold joinI joinL
  rw [List.foldr_map, ← List.foldl_reverse, ← backOf_val, List.foldl_map]

/-- what Join returns -/
def joinOut (ds : List Tm) (t : Tm) : Tm × Int :=
  if ds.all Tm.proper && Tm.proper t then (if 40 ≤ ds.length then (Tm.zero, 5) else joinEnd (joinL ds t)) else (Tm.zero, 2)

set_option maxHeartbeats 2000000 in
set_option maxRecDepth 100000 in
theorem join_any (o h n : Int) (v : Value) (l : List Tm) (vd : Value) (ds : List Tm) (w : World) (hv : Lies w (fun _ => True) v l) (hd : Lies w (fun _ => True) vd ds) :
    Calls Try.prog 33 #[vd, .agg #[.int .i64 o, .int .i64 h, .int .i64 n, v]] w (GivesE w (joinOut ds (.mk o h n l))) := by
  obtain ⟨ad, bb, off, len, cap, oo, hh, kk, sv, ts, rfl, R⟩ := hd.open
  obtain ⟨a2, n2, m2, rfl⟩ := hv.isSlice
  have hlen := R.length
  have hr := R.hr
  have hl := R.hl
  rcases hps : ds.all Tm.proper with _ | _
  · have HY : Hid (joinOut ds (.mk o h n l) = (Tm.zero, 2)) := by show _ = _; unfold joinOut; rw [hps]; rfl
    have h2 := two_below w (.cells #[.int .i64 o, .int .i64 h, .int .i64 n, .slice a2 n2 m2] 24) (.cells #[.int .i64 0, .int .i64 0, .int .i64 0, .slice none 0 0] 24)
    have HB := Lib.hid (two_blocks w #[.int .i64 o, .int .i64 h, .int .i64 n, .slice a2 n2 m2] #[.int .i64 0, .int .i64 0, .int .i64 0, .slice none 0 0] 24 24)
    have c1 := containsBad_any _ ds _ (hd.keep h2)
    rw [hps] at c1
    have H2 := Lib.hid h2
    clear hv hd R hps hlen h2
    go_enter Try.func33, Try.ntmps33
    go_wp2_with (go_at_call 65; (with_reducible refine c1.mono ?_); rintro e w1 ⟨rfl, hb1⟩; have hr1 := Lib.hid (heap_kept hb1 HB.out.2); obtain ⟨y0, y1, y2, y3⟩ := cells4_of hr1.out; have z0 := free_in hr1.out 0; have z1 := free_in hr1.out 1; have z2 := free_in hr1.out 2; have z3 := free_in hr1.out 3)
    have hz := set4_at hr1.out (.int .i64 0) (.int .i64 0) (.int .i64 0) (.slice none 0 0)
    obtain ⟨d0, d1, d2, d3⟩ := cells4_of hz
    have hb := H2.out.trans (hb1.mono H2.out.size)
    refine bodyPost_ret (v := .tuple #[.agg #[.int .i64 0, .int .i64 0, .int .i64 0, .slice none 0 0], .int .i64 2]) (by simp [results, Try.results33, go_sem, d0, d1, d2, d3]) rfl (givesE_zero HY.out ?_)
    exact (((hb.setCell (by simp) _).setCell (by simp) _).setCell (by simp) _).setCell (by simp) _
  · rcases hp : Tm.proper (.mk o h n l) with _ | _
    · have HY : Hid (joinOut ds (.mk o h n l) = (Tm.zero, 2)) := by show _ = _; unfold joinOut; rw [hps, hp]; rfl
      have h2 := two_below w (.cells #[.int .i64 o, .int .i64 h, .int .i64 n, .slice a2 n2 m2] 24) (.cells #[.int .i64 0, .int .i64 0, .int .i64 0, .slice none 0 0] 24)
      have HB := Lib.hid (two_blocks w #[.int .i64 o, .int .i64 h, .int .i64 n, .slice a2 n2 m2] #[.int .i64 0, .int .i64 0, .int .i64 0, .slice none 0 0] 24 24)
      have c1 := containsBad_any _ ds _ (hd.keep h2)
      have c2 := fun w1 (hb : Below w.heap.size w w1) => joinWrong_any o h n _ l w1 (hv.keep hb)
      rw [hps] at c1
      rw [hp] at c2
      have H2 := Lib.hid h2
      clear hv hd R hps hlen h2 hp
      go_enter Try.func33, Try.ntmps33
      go_wp2_with (first
        | (go_at_call 65; (with_reducible refine c1.mono ?_); rintro e w1 ⟨rfl, hb1⟩; obtain ⟨q0, q1, q2, q3⟩ := cells4_of (heap_kept hb1 HB.out.1); have B1 := H2.out.trans (hb1.mono H2.out.size))
        | (go_at_call 64; (with_reducible refine (c2 _ B1).mono ?_); rintro e w2 ⟨rfl, hb2⟩; have hr1 := Lib.hid (heap_kept hb2 (heap_kept hb1 HB.out.2)); obtain ⟨y0, y1, y2, y3⟩ := cells4_of hr1.out; have z0 := free_in hr1.out 0; have z1 := free_in hr1.out 1; have z2 := free_in hr1.out 2; have z3 := free_in hr1.out 3))
      have hz := set4_at hr1.out (.int .i64 0) (.int .i64 0) (.int .i64 0) (.slice none 0 0)
      obtain ⟨d0, d1, d2, d3⟩ := cells4_of hz
      have hb := B1.trans (hb2.mono B1.size)
      refine bodyPost_ret (v := .tuple #[.agg #[.int .i64 0, .int .i64 0, .int .i64 0, .slice none 0 0], .int .i64 2]) (by simp [results, Try.results33, go_sem, d0, d1, d2, d3]) rfl (givesE_zero HY.out ?_)
      exact (((hb.setCell (by simp) _).setCell (by simp) _).setCell (by simp) _).setCell (by simp) _
    · by_cases h40 : 40 ≤ len
      · have HY : Hid (joinOut ds (.mk o h n l) = (Tm.zero, 5)) := by show _ = _; unfold joinOut; rw [hps, hp, Bool.true_and, if_pos rfl, if_pos (by omega)]
        have h2 := two_below w (.cells #[.int .i64 o, .int .i64 h, .int .i64 n, .slice a2 n2 m2] 24) (.cells #[.int .i64 0, .int .i64 0, .int .i64 0, .slice none 0 0] 24)
        have HB := Lib.hid (two_blocks w #[.int .i64 o, .int .i64 h, .int .i64 n, .slice a2 n2 m2] #[.int .i64 0, .int .i64 0, .int .i64 0, .slice none 0 0] 24 24)
        have c1 := containsBad_any _ ds _ (hd.keep h2)
        have c2 := fun w1 (hb : Below w.heap.size w w1) => joinWrong_any o h n _ l w1 (hv.keep hb)
        rw [hps] at c1
        rw [hp] at c2
        have H2 := Lib.hid h2
        have hl9 : len ≤ 9223372036854775807 := by omega
        have hl40 : (40 : Int) ≤ (len : Int) := by omega
        clear hv hd R hps hlen h2 hp
        go_enter Try.func33, Try.ntmps33
        go_wp2_with (first
          | (go_at_call 65; (with_reducible refine c1.mono ?_); rintro e w1 ⟨rfl, hb1⟩; obtain ⟨q0, q1, q2, q3⟩ := cells4_of (heap_kept hb1 HB.out.1); have B1 := H2.out.trans (hb1.mono H2.out.size))
          | (go_at_call 64; (with_reducible refine (c2 _ B1).mono ?_); rintro e w2 ⟨rfl, hb2⟩; have hr1 := Lib.hid (heap_kept hb2 (heap_kept hb1 HB.out.2)); obtain ⟨y0, y1, y2, y3⟩ := cells4_of hr1.out; have z0 := free_in hr1.out 0; have z1 := free_in hr1.out 1; have z2 := free_in hr1.out 2; have z3 := free_in hr1.out 3))
        have hz := set4_at hr1.out (.int .i64 0) (.int .i64 0) (.int .i64 0) (.slice none 0 0)
        obtain ⟨d0, d1, d2, d3⟩ := cells4_of hz
        have hb := B1.trans (hb2.mono B1.size)
        refine bodyPost_ret (v := .tuple #[.agg #[.int .i64 0, .int .i64 0, .int .i64 0, .slice none 0 0], .int .i64 5]) (by simp [results, Try.results33, go_sem, d0, d1, d2, d3]) rfl (givesE_zero HY.out ?_)
        exact (((hb.setCell (by simp) _).setCell (by simp) _).setCell (by simp) _).setCell (by simp) _
      · have call := join_good o h n a2 n2 m2 l ad bb off len cap oo hh kk sv ts ds w hv R hd (by omega) hp hps
        have e : joinOut ds (.mk o h n l) = joinEnd (joinI (fun i => .mk (oo i) (hh i) (kk i) (ts i)) (.mk o h n l) (backOf len)) := by
          unfold joinOut
          rw [hps, hp, Bool.true_and, if_pos rfl, if_neg (by omega), joinI_all, ← R.isRow]
        rw [e]
        exact call
end Go.Proofs.Ytnooeaefldklaaa
