/- The contract of term.clone. -/
import Derived.Test.YtnooeaefldklaaaTmClnS
import Derived.Test.YtnooeaefldklaaaTmMoved
import Derived.Test.YtnooeaefldklaaaTmSize
import Derived.Test.YtnooeaefldklaaaTmOpen
namespace Go.Proofs.Ytnooeaefldklaaa
open Go.RowKit
set_option linter.unusedSimpArgs false
set_option linter.unusedVariables false

set_option maxHeartbeats 1000000 in
set_option maxRecDepth 100000 in
theorem clone_any (o h n : Int) (v : Value) (l : List Tm) (w : World) (hv : Lies w (fun _ => True) v l) (hp : Tm.proper (.mk o h n l) = true) :
    Calls Try.prog 66 #[.agg #[.int .i64 o, .int .i64 h, .int .i64 n, v]] w (GivesT w (.mk o h n l)) := by
  obtain ⟨a2, n2, m2, rfl⟩ := hv.isSlice
  have h6 : Tm.sz (.mk o h n l) ≤ 600 := Tm.proper_sz hp
  have hnum : Tm.nums (.mk o h n l) = true := by
    unfold Tm.proper at hp
    simp only [Bool.and_eq_true] at hp
    exact Tm.nums_of_formed _ 1 hp.2
  have h2 := two_below w (.cells #[.int .i64 o, .int .i64 h, .int .i64 n, .slice a2 n2 m2] 24) (.cells #[.int .i64 0, .int .i64 0, .int .i64 0, .slice none 0 0] 24)
  have hsz : ((w.alloc (.cells #[.int .i64 o, .int .i64 h, .int .i64 n, .slice a2 n2 m2] 24)).alloc (.cells #[.int .i64 0, .int .i64 0, .int .i64 0, .slice none 0 0] 24)).heap.size = w.heap.size + 2 := by simp
  have call := Cl.renS_calls (w.heap.size + 1) (w.heap.size + 1) w.heap.size 0 0 (by omega) (by omega) (by omega) (by omega) (by omega) (by omega) _ o h n 0 0 _ l ((w.alloc (.cells #[.int .i64 o, .int .i64 h, .int .i64 n, .slice a2 n2 m2] 24)).alloc (.cells #[.int .i64 0, .int .i64 0, .int .i64 0, .slice none 0 0] 24)) (Nat.le_refl _) h6 hnum (by omega) (by omega)
    (((hv.more (S' := fun b => b < w.heap.size) fun b hb _ => hb).keep h2).more fun b _ hS => by show b ≠ _; omega) ⟨by omega, by omega, by omega⟩
  unfold Cl.RenS at call
  rw [Cl.ren_id] at call
  simp only [Tm.op, Tm.hd, Tm.n, Tm.args] at call
  have H2 := Lib.hid h2
  have HSZ := Lib.hid hsz
  have HB := Lib.hid (two_blocks w #[.int .i64 o, .int .i64 h, .int .i64 n, .slice a2 n2 m2] #[.int .i64 0, .int .i64 0, .int .i64 0, .slice none 0 0] 24 24)
  clear hv hp h6 hnum h2 hsz
  go_enter Try.func66, Try.ntmps66
  go_wp2_with (go_at_call 54; (with_reducible refine call.mono ?_); rintro e w1 ⟨v1, rfl, ho, hs, hx⟩; obtain ⟨a3, n3, m3, rfl⟩ := hx.isSlice; have hr := Lib.hid ((ho.block (w.heap.size + 1) (by simp) (by omega)).trans HB.out.2); have y0 := cell_in hr.out 0 (.int .i64 0) rfl; have y1 := cell_in hr.out 1 (.int .i64 0) rfl; have y2 := cell_in hr.out 2 (.int .i64 0) rfl; have y3 := cell_in hr.out 3 (.slice none 0 0) rfl; have f0 := free_in hr.out 0; have f1 := free_in hr.out 1; have f2 := free_in hr.out 2; have f3 := free_in hr.out 3)
  have hz := set4_at hr.out (.int .i64 o) (.int .i64 h) (.int .i64 n) (.slice a3 n3 m3)
  have z0 := cell_in hz 0 (.int .i64 o) rfl
  have z1 := cell_in hz 1 (.int .i64 h) rfl
  have z2 := cell_in hz 2 (.int .i64 n) rfl
  have z3 := cell_in hz 3 (.slice a3 n3 m3) rfl
  have hb := ho.fresh H2.out (Nat.le_refl _)
  refine bodyPost_ret (v := .agg #[.int .i64 o, .int .i64 h, .int .i64 n, .slice a3 n3 m3]) (by simp [results, Try.results66, go_sem, z0, z1, z2, z3]) rfl ⟨.slice a3 n3 m3, rfl, ?_, ?_⟩
  · exact (((hb.setCell (by simp) _).setCell (by simp) _).setCell (by simp) _).setCell (by simp) _
  · exact (hx.still fun j hS _ => heap_set4 _ _ _ _ (by simp at hS ⊢; omega) (by simp at hS ⊢; omega) (by simp at hS ⊢; omega) (by simp at hS ⊢; omega)).more fun j _ hS => by simp at hS; omega

/-- the closure that asks whether a term is not proper -/
theorem joinWrong_any (o h n : Int) (v : Value) (l : List Tm) (w : World) (hv : Lies w (fun _ => True) v l) :
    Calls Try.prog 64 #[.agg #[.int .i64 o, .int .i64 h, .int .i64 n, v]] w fun e w' => e = .returned (.bool (!Tm.proper (.mk o h n l))) ∧ Below w.heap.size w w' := by
  obtain ⟨a2, n2, m2, rfl⟩ := hv.isSlice
  have hb := one_below w (.cells #[.int .i64 o, .int .i64 h, .int .i64 n, .slice a2 n2 m2] 24)
  have call := isProper_any o h n _ l _ (hv.keep hb)
  clear hv
  rcases hp : Tm.proper (.mk o h n l) with _ | _
  all_goals
    rw [hp] at call
    clear hp
    go_enter Try.func64, Try.ntmps64
    go_wp2_with (go_at_call 47; (with_reducible refine call.mono ?_); rintro e w1 ⟨rfl, hb1⟩)
    go_ret
    exact ⟨rfl, hb.trans (hb1.mono hb.size)⟩

/-- all of the first k terms are proper -/
def PropTo (l : List Tm) (k : Nat) : Prop := ∀ t ∈ l.take k, Tm.proper t = true
theorem PropTo.zero (l : List Tm) : PropTo l 0 := by intro t ht; simp at ht
theorem PropTo.step {l : List Tm} {k : Nat} (h : PropTo l k) (hk : k < l.length) (e : Tm.proper l[k] = true) : PropTo l (k + 1) := by
  intro x hx
  rw [List.take_succ_eq_append_getElem hk, List.mem_append, List.mem_singleton] at hx
  rcases hx with hx | hx
  · exact h x hx
  · rw [hx]; exact e
theorem PropTo.all {l : List Tm} {k : Nat} (h : PropTo l k) (hk : l.length ≤ k) : l.all Tm.proper = true := by
  unfold PropTo at h
  rw [List.take_of_length_le hk] at h
  exact List.all_eq_true.2 h
theorem PropTo.not {l : List Tm} {k : Nat} (hk : k < l.length) (e : Tm.proper l[k] = false) : l.all Tm.proper = false := by
  rw [List.all_eq_false]; exact ⟨l[k], List.getElem_mem hk, by simp [e]⟩

/-- what IndexFunc answers -/
def SomeBad (w : World) (l : List Tm) (e : Ending) (w' : World) : Prop := ∃ r : Int, e = .returned (.int .i64 r) ∧ -1 ≤ r ∧ r ≤ 9223372036854775807 ∧ (0 ≤ r ↔ l.all Tm.proper = false) ∧ Below w.heap.size w w'

set_option maxHeartbeats 2000000 in
set_option maxRecDepth 100000 in
theorem indexBad_any (v : Value) (l : List Tm) (w : World) (hv : Lies w (fun _ => True) v l) :
    Calls Try.prog 87 #[v, .func (.func 64) #[] #[]] w (SomeBad w l) := by
  obtain ⟨ao, bb, off, len, cap, oo, hh, kk, sv, ts, rfl, R⟩ := hv.open
  have hr := R.hr
  have hl := R.hl
  have HL := Lib.hid R.length
  clear hv
  go_enter Try.func87, Try.ntmps87
  go_wp2
  go_loopw [8] (fun i wr => ∃ k : Nat, k ≤ len ∧ i = .int .i64 k ∧ PropTo l k ∧ Below w.heap.size w wr) (fun i _ => len - (intOf i).toNat)
  case atStart => exact ⟨0, Nat.zero_le _, rfl, PropTo.zero _, Below.refl _ _⟩
  case round =>
    obtain ⟨k, hk, rfl, hno, hbr⟩ := hrel
    have HNO := Lib.hid hno
    clear hno
    by_cases hlt : k < len
    · obtain rfl := R.hao (by omega)
      obtain ⟨d0, d1, d2, d3, hsub⟩ := R.at hbr k hlt
      obtain ⟨a2, n2, m2, hs2⟩ := hsub.isSlice
      rw [hs2] at d3 hsub
      clear hs2
      have hkl : k < l.length := by rw [HL.out]; exact hlt
      have call := joinWrong_any (oo k) (hh k) (kk k) (.slice a2 n2 m2) (ts k) wr hsub
      have hk0 : (0 : Int) ≤ (k : Int) := by omega
      have hk1 : (k : Int) < (len : Int) := by omega
      have hg := R.get k hlt
      rcases hp : Tm.proper (.mk (oo k) (hh k) (kk k) (ts k)) with _ | _
      · have HN := Lib.hid (PropTo.not hkl (by rw [hg]; exact hp))
        rw [hp] at call
        clear hp hg R
        go_wp2_with (go_at_call 64; (with_reducible refine call.mono ?_); rintro e w1 ⟨rfl, hb1⟩)
        go_ret
        exact ⟨k, rfl, by omega, by omega, ⟨fun _ => HN.out, fun _ => by omega⟩, hbr.trans (hb1.mono hbr.size)⟩
      · have HN := Lib.hid (HNO.out.step hkl (by rw [hg]; exact hp))
        rw [hp] at call
        clear hp hg R
        go_wp2_with (go_at_call 64; (with_reducible refine call.mono ?_); rintro e w1 ⟨rfl, hb1⟩)
        go_roundw
        case rel => exact ⟨k + 1, by omega, by go_num, HN.out, hbr.trans (hb1.mono hbr.size)⟩
        case measure => simp [intOf]; omega
    · obtain rfl : k = len := by omega
      have HA := Lib.hid (HNO.out.all (by rw [HL.out]; exact Nat.le_refl _))
      go_wp2
      go_ret
      exact ⟨-1, rfl, by omega, by omega, ⟨fun h => absurd h (by omega), fun h => by rw [HA.out] at h; cases h⟩, hbr⟩

theorem bad_end {b : Bool} {r : Int} (h : 0 ≤ r ↔ b = false) : Ending.returned (.bool (decide (0 ≤ r))) = .returned (.bool (!b)) := by
  rcases b with _ | _
  · rw [decide_eq_true (h.2 rfl)]; rfl
  · rw [decide_eq_false (fun e => by have := h.1 e; cases this)]; rfl

set_option maxHeartbeats 1000000 in
set_option maxRecDepth 100000 in
theorem containsBad_any (v : Value) (l : List Tm) (w : World) (hv : Lies w (fun _ => True) v l) :
    Calls Try.prog 65 #[v, .func (.func 64) #[] #[]] w fun e w' => e = .returned (.bool (!l.all Tm.proper)) ∧ Below w.heap.size w w' := by
  have call := indexBad_any v l w hv
  obtain ⟨a2, n2, m2, rfl⟩ := hv.isSlice
  obtain ⟨b, hb⟩ : ∃ b, b = l.all Tm.proper := ⟨_, rfl⟩
  unfold SomeBad at call
  rw [← hb] at call ⊢
  clear hv hb
  go_enter Try.func65, Try.ntmps65
  go_wp2_with (go_at_call 87; (with_reducible refine call.mono ?_); rintro e w1 ⟨r, rfl, hr0, hr1, hr2, hb1⟩; have HR := Lib.hid hr2; clear hr2)
  go_ret
  exact ⟨bad_end HR.out, hb1⟩
end Go.Proofs.Ytnooeaefldklaaa
