/- The contracts of Many's look at the simple types. -/
import Derived.Test.YtieakippgeehgaaSbInsP
namespace Go.Proofs.Ytieakippgeehgaa.Sb
open Go.RowKit
set_option linter.unusedSimpArgs false
set_option linter.unusedVariables false

/-- the closure that asks whether a simple type is not small -/
theorem large_any (n : Int) (v : Value) (l : List Sp.Tm) (w : World) (hv : Sp.Lies w (fun _ => True) v l) :
    Calls Try.prog 64 #[.agg #[v, .int .i64 n]] w fun e w' => e = .returned (.bool (!Sp.Tm.small (.mk n l))) ∧ Below w.heap.size w w' := by
  obtain ⟨a2, n2, m2, rfl⟩ := hv.isSlice
  have hb := one_below w (.cells #[.slice a2 n2 m2, .int .i64 n] 27)
  have call := Sp.isSmall_any n _ l _ (hv.keep hb)
  clear hv
  rcases hp : Sp.Tm.small (.mk n l) with _ | _
  all_goals
    rw [hp] at call
    clear hp
    go_enter Try.func64, Try.ntmps64
    go_wp2_with (go_at_call 41; (with_reducible refine call.mono ?_); rintro e w1 ⟨rfl, hb1⟩)
    go_ret
    exact ⟨rfl, hb.trans (hb1.mono hb.size)⟩

/-- all of the first k simple types are small -/
def SmTo (l : List Sp.Tm) (k : Nat) : Prop := ∀ t ∈ l.take k, Sp.Tm.small t = true
theorem SmTo.zero (l : List Sp.Tm) : SmTo l 0 := by intro t ht; simp at ht
theorem SmTo.step {l : List Sp.Tm} {k : Nat} (h : SmTo l k) (hk : k < l.length) (e : Sp.Tm.small l[k] = true) : SmTo l (k + 1) := by
  intro x hx
  rw [List.take_succ_eq_append_getElem hk, List.mem_append, List.mem_singleton] at hx
  rcases hx with hx | hx
  · exact h x hx
  · rw [hx]; exact e
theorem SmTo.all {l : List Sp.Tm} {k : Nat} (h : SmTo l k) (hk : l.length ≤ k) : l.all Sp.Tm.small = true := by
  unfold SmTo at h
  rw [List.take_of_length_le hk] at h
  exact List.all_eq_true.2 h
theorem SmTo.not {l : List Sp.Tm} {k : Nat} (hk : k < l.length) (e : Sp.Tm.small l[k] = false) : l.all Sp.Tm.small = false := by
  rw [List.all_eq_false]; exact ⟨l[k], List.getElem_mem hk, by simp [e]⟩

/-- what IndexFunc answers -/
def SomeLarge (w : World) (l : List Sp.Tm) (e : Ending) (w' : World) : Prop := ∃ r : Int, e = .returned (.int .i64 r) ∧ -1 ≤ r ∧ r ≤ 9223372036854775807 ∧ (0 ≤ r ↔ l.all Sp.Tm.small = false) ∧ Below w.heap.size w w'

set_option maxHeartbeats 2000000 in
set_option maxRecDepth 100000 in
theorem indexLarge_any (v : Value) (l : List Sp.Tm) (w : World) (hv : Sp.Lies w (fun _ => True) v l) :
    Calls Try.prog 86 #[v, .func (.func 64) #[] #[]] w (SomeLarge w l) := by
  obtain ⟨ao, bb, off, len, cap, kk, sv, ts, rfl, R⟩ := hv.open
  have hr := R.hr
  have hl := R.hl
  have HL := Lib.hid R.length
  clear hv
  go_enter Try.func86, Try.ntmps86
  go_wp2
  go_loopw [8] (fun i wr => ∃ k : Nat, k ≤ len ∧ i = .int .i64 k ∧ SmTo l k ∧ Below w.heap.size w wr) (fun i _ => len - (intOf i).toNat)
  case atStart => exact ⟨0, Nat.zero_le _, rfl, SmTo.zero _, Below.refl _ _⟩
  case round =>
    obtain ⟨k, hk, rfl, hno, hbr⟩ := hrel
    have HNO := Lib.hid hno
    clear hno
    by_cases hlt : k < len
    · obtain rfl := R.hao (by omega)
      obtain ⟨d0, d1, hsub⟩ := R.at hbr k hlt
      obtain ⟨a2, n2, m2, hs2⟩ := hsub.isSlice
      rw [hs2] at d0 hsub
      clear hs2
      have hkl : k < l.length := by rw [HL.out]; exact hlt
      have call := large_any (kk k) (.slice a2 n2 m2) (ts k) wr hsub
      have hk0 : (0 : Int) ≤ (k : Int) := by omega
      have hk1 : (k : Int) < (len : Int) := by omega
      have hg := R.get k hlt
      rcases hp : Sp.Tm.small (.mk (kk k) (ts k)) with _ | _
      · have HN := Lib.hid (SmTo.not hkl (by rw [hg]; exact hp))
        rw [hp] at call
        clear hp hg R
        go_wp2_with (go_at_call 64; (with_reducible refine call.mono ?_); rintro e w1 ⟨rfl, hb1⟩)
        go_ret
        exact ⟨k, rfl, by omega, by omega, ⟨fun _ => HN.out, fun _ => by omega⟩, hbr.trans (hb1.mono hbr.size)⟩
      · have HN := Lib.hid (HNO.out.step hkl (by rw [hg]; exact hp))
        rw [hp] at call
        clear hp hg R
        go_wp2_with (go_at_call 64; (with_reducible refine call.mono ?_); rintro e w1 ⟨rfl, hb1⟩)
        go_roundw
        case rel => exact ⟨k + 1, by omega, by go_num, HN.out, hbr.trans (hb1.mono hbr.size)⟩
        case measure => simp [intOf]; omega
    · obtain rfl : k = len := by omega
      have HA := Lib.hid (HNO.out.all (by rw [HL.out]; exact Nat.le_refl _))
      go_wp2
      go_ret
      exact ⟨-1, rfl, by omega, by omega, ⟨fun h => absurd h (by omega), fun h => by rw [HA.out] at h; cases h⟩, hbr⟩

set_option maxHeartbeats 1000000 in
set_option maxRecDepth 100000 in
theorem containsLarge_any (v : Value) (l : List Sp.Tm) (w : World) (hv : Sp.Lies w (fun _ => True) v l) :
    Calls Try.prog 65 #[v, .func (.func 64) #[] #[]] w fun e w' => e = .returned (.bool (!l.all Sp.Tm.small)) ∧ Below w.heap.size w w' := by
  have call := indexLarge_any v l w hv
  obtain ⟨a2, n2, m2, rfl⟩ := hv.isSlice
  obtain ⟨b, hb⟩ : ∃ b, b = l.all Sp.Tm.small := ⟨_, rfl⟩
  unfold SomeLarge at call
  rw [← hb] at call ⊢
  clear hv hb
  go_enter Try.func65, Try.ntmps65
  go_wp2_with (go_at_call 86; (with_reducible refine call.mono ?_); rintro e w1 ⟨r, rfl, hr0, hr1, hr2, hb1⟩; have HR := Lib.hid hr2; clear hr2)
  go_ret
  exact ⟨bad_end HR.out, hb1⟩
end Go.Proofs.Ytieakippgeehgaa.Sb
