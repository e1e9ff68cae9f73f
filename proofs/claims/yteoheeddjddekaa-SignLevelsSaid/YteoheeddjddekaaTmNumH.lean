/- The contract of term.numbers: the numbers of one kind of heads. -/
import Derived.Test.YteoheeddjddekaaTmVisH
import Derived.Test.YteoheeddjddekaaTmKeys
import Derived.Test.YteoheeddjddekaaTmGb
namespace Go.Proofs.Yteoheeddjddekaa.VH
open Go.RowKit Go.Maps
set_option linter.unusedSimpArgs false
set_option linter.unusedVariables false

/-- what term.numbers returns: numbers, and an error -/
def numsOut (x : Int) (t : Tm) : List Int × Int := if Tm.proper t then (Tm.insL [] (Tm.hds (sel x) 0 t), 0) else ([], 2)



set_option maxHeartbeats 2000000 in
set_option maxRecDepth 100000 in
theorem nums_any (o h n : Int) (v : Value) (l : List Tm) (x : Int) (C : Nat) (w : World) (hv : Lies w (fun _ => True) v l) (hc : capAt C x w) (hC : C < w.heap.size) :
    Calls Try.prog 52 #[.agg #[.int .i64 o, .int .i64 h, .int .i64 n, v], fv C] w (NumE w (numsOut x (.mk o h n l))) := by
  obtain ⟨a2, n2, m2, rfl⟩ := hv.isSlice
  unfold fv
  have h2 := two_below w (.cells #[.int .i64 o, .int .i64 h, .int .i64 n, .slice a2 n2 m2] 25) (.cells #[fv C] 86)
  have H2 := Lib.hid h2
  have HK := Lib.hid (two_blocks w #[.int .i64 o, .int .i64 h, .int .i64 n, .slice a2 n2 m2] #[fv C] 25 86)
  have call := isProper_any o h n _ l _ (hv.keep h2)
  unfold fv at call
  have hsz2 : ((w.alloc (.cells #[.int .i64 o, .int .i64 h, .int .i64 n, .slice a2 n2 m2] 25)).alloc (.cells #[fv C] 86)).heap.size = w.heap.size + 2 := by simp
  have HSZ := Lib.hid hsz2
  have HV := Lib.hid hv
  have HC := Lib.hid hc
  clear hv h2 hsz2 hc
  have hmm := @run_makeMap Try.prog
  rcases hp : Tm.proper (.mk o h n l) with _ | _
  · have HY : Hid (numsOut x (.mk o h n l) = ([], 2)) := by show _ = _; unfold numsOut; rw [hp]; rfl
    rw [hp] at call
    clear hp
    go_enter Try.func52, Try.ntmps52
    go_wp2_with (go_at_call 70; (with_reducible refine call.mono ?_); rintro e w1 ⟨rfl, hb1⟩)
    go_ret2
    rw [HY.out]
    exact ⟨_, rfl, Ints.nil _, H2.out.trans (hb1.mono (by have := HSZ.out; unfold fv at this; omega))⟩
  · have hsz : Tm.sz (.mk o h n l) ≤ 600 := Tm.proper_sz hp
    have hnum : Tm.nums (.mk o h n l) = true := by
      unfold Tm.proper at hp
      simp only [Bool.and_eq_true] at hp
      exact Tm.nums_of_formed _ 1 hp.2
    have hlen := Tm.hds_length (sel x) 0 (.mk o h n l)
    obtain ⟨xs, hxs⟩ : ∃ xs, xs = Tm.hds (sel x) 0 (.mk o h n l) := ⟨_, rfl⟩
    have HY : Hid (numsOut x (.mk o h n l) = (Tm.insL [] xs, 0)) := by show _ = _; unfold numsOut; rw [hp, ← hxs]; rfl
    have cv : ∀ (N M B : Nat) (w3 : World), N ≠ B → M ≠ B → C ≠ B → Lies w3 (· ≠ B) (.slice a2 n2 m2) l → VSt Unit N M B C x 0 [] w3 →
        Calls Try.prog 71 #[.agg #[.int .i64 o, .int .i64 h, .int .i64 n, .slice a2 n2 m2], .int .i64 0, .func (.func 72) #[] #[.pointer (some ⟨N, 0, none⟩), .pointer (some ⟨M, 0, none⟩)]] w3 (VPost Unit N M B C x (0 + Tm.sz (.mk o h n l)) ([] ++ xs) w3) := by
      intro N M B w3 hN hM hCB hl hs
      have := visit_calls N M B C x hN hM hCB _ o h n 0 0 [] _ l w3 (Nat.le_refl _) hsz hnum (by omega) (by omega) (by omega) hl hs
      rw [← hxs] at this
      exact this
    rw [hp] at call
    rw [← hxs] at hlen
    have HLEN := Lib.hid (Nat.le_trans hlen hsz)
    have HCV := Lib.hid cv
    clear hp hnum hlen hxs hsz cv
    go_enter Try.func52, Try.ntmps52
    have HE := Lib.hid (And.intro (by have := HK.out.1; unfold fv at this; exact this) (by have := HK.out.2; unfold fv at this; exact this) : _ ∧ _)
    go_wp2_with (go_at_call 70; (with_reducible refine call.mono ?_); rintro e w1 ⟨rfl, hb1⟩; have BA := Lib.hid (two_below w1 (.map #[] 0) (.cells #[.map (some w1.heap.size)] 100)); have k0 := kept_cell BA.out (cell_in (heap_kept hb1 HE.out.1) 0 (.int .i64 o) rfl); have k1 := kept_cell BA.out (cell_in (heap_kept hb1 HE.out.1) 1 (.int .i64 h) rfl); have k2 := kept_cell BA.out (cell_in (heap_kept hb1 HE.out.1) 2 (.int .i64 n) rfl); have k3 := kept_cell BA.out (cell_in (heap_kept hb1 HE.out.1) 3 (.slice a2 n2 m2) rfl))
    have B1 : Below w.heap.size w w1 := H2.out.trans (hb1.mono (by have := HSZ.out; unfold fv at this; omega))
    have s1 : w.heap.size + 2 ≤ w1.heap.size := by have := hb1.size; have := HSZ.out; unfold fv at this; omega
    have ba := BA.out
    have st : VSt Unit (w.heap.size + 1) (w1.heap.size + 1) w1.heap.size C x 0 [] ((w1.alloc (.map #[] 0)).alloc (.cells #[.map (some w1.heap.size)] 100)) := by
      refine ⟨heap_kept ba (heap_kept hb1 HE.out.2), ?_, HC.out.below (B1.trans (ba.mono (by omega))), ?_⟩
      · have := heap_alloc_new (w1.alloc (.map #[] 0)) (.cells #[.map (some w1.heap.size)] 100)
        simpa using this
      · exact (World.ownsMap_made w1 _ _ _).alloc _
    have lx : Lies ((w1.alloc (.map #[] 0)).alloc (.cells #[.map (some w1.heap.size)] 100)) (· ≠ w1.heap.size) (.slice a2 n2 m2) l :=
      ((HV.out.more (S' := fun b => b < w.heap.size) fun b hb _ => hb).keep (B1.trans (ba.mono (by omega)))).more fun b _ hS => by show b ≠ _; omega
    have call2 := HCV.out (w.heap.size + 1) (w1.heap.size + 1) w1.heap.size _ (by omega) (by omega) (by omega) lx st
    clear st lx ba
    go_wp2_with (first
      | (go_at_call 71; (with_reducible refine call2.mono ?_); rintro e w4 ⟨⟨ve, rfl⟩, hs4, ho4⟩; have S4 := Lib.hid hs4; have r4 := cell_of_one S4.out.m; clear hs4)
      | (go_at_call 74; (with_reducible refine (keys_any _ _).mono ?_); rintro e w5 ⟨rfl, rfl⟩)
      | (go_at_call 73; (with_reducible refine (sorted_any (H := Unit) w4.heap.size w1.heap.size (0 + Tm.sz (.mk o h n l)) xs _ ?_ ?_ ?_).mono ?_); (exact cell_in (heap_alloc_new w4 _) 0 _ rfl); (exact Nat.le_trans HLEN.out (by omega)); (exact S4.out.own.alloc _); rintro e w6 ⟨v6, rfl, hi6, hb6⟩))
    go_ret2
    rw [HY.out]
    refine ⟨_, rfl, hi6, ?_⟩
    have h4 : Below w.heap.size w w4 := ho4.fresh (B1.trans (BA.out.mono (by omega))) (by omega)
    have h5 := h4.trans ((one_below w4 (.cells #[.map (some w1.heap.size)] 100)).mono h4.size)
    exact h5.trans (hb6.mono h5.size)

end Go.Proofs.Yteoheeddjddekaa.VH
