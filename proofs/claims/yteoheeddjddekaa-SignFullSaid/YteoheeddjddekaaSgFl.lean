/- SignFull. -/
import Derived.Test.YteoheeddjddekaaSgAd
import Derived.Test.YteoheeddjddekaaL5f
namespace Go.Proofs.Yteoheeddjddekaa
open Go.RowKit Go.Shelf
set_option linter.unusedSimpArgs false
set_option linter.unusedVariables false

def fullN (i : Nat) : ByteArray := ⟨#[99, UInt8.ofNat (97 + i / 26), UInt8.ofNat (97 + i % 26)]⟩
def fullD (i : Nat) : Dc := ⟨fullN i, .mk 1 0 0 [], 0⟩
/-- k constants -/
def fullL (k : Nat) : List Dc := (List.range k).map fullD
def zD : Dc := ⟨⟨#[122]⟩, .mk 4 2 0 [], 0⟩
theorem zD_fit : zD.fit := by
  refine ⟨?_, ⟨?_, ?_, ?_⟩, ?_⟩
  · show ByteArray.size _ ≤ _; decide
  all_goals (simp [zD, Tm.op, Tm.hd, Tm.n, I64])
theorem full99 : Sg.formed (fullL 99) = true ∧ (addOut (fullL 99) zD).2 = 0 ∧ (addOut (fullL 99) zD).1.length = 100 := by decide +kernel
theorem full100 : Sg.formed (fullL 100) = true ∧ (addOut (fullL 100) zD).2 = 5 ∧ (addOut (fullL 100) zD).1.length = 0 := by decide +kernel
theorem full101 : Sg.formed (fullL 101) = false ∧ (addOut (fullL 101) zD).2 = 2 ∧ (addOut (fullL 101) zD).1.length = 0 := by decide +kernel

theorem fullL_step (k : Nat) : fullL (k + 1) = fullL k ++ [fullD k] := by unfold fullL; rw [List.range_succ, List.map_append]; rfl
theorem fullL_length (k : Nat) : (fullL k).length = k := by simp [fullL]
/-- the row of the first k constants -/
def fullRow (k : Nat) : List Value := dflat (fullL k) (List.replicate k (.slice none 0 0))
theorem fullRow_step (k : Nat) : fullRow (k + 1) = fullRow k ++ dcells (fullD k) (.slice none 0 0) := by
  unfold fullRow
  rw [fullL_step, List.replicate_succ', dflat_snoc _ _ _ _ (by simp [fullL_length])]

theorem full_lies {w : World} {base K : Nat} {v : Value} (hown : w.ownsRow base 40 6 v K (fullRow K)) : ∃ a m, v = .slice a K m ∧ DLies w (fun _ => True) v (fullL K) := by
  have hvl : (fullL K).length = (List.replicate K (Value.slice none 0 0)).length := by simp [fullL_length]
  have hcells := @World.ownsRow.cells w base 40 6 v _ _ hown
  have hL := fullL_length K
  rcases hown.2 with ⟨rfl, h0⟩ | ⟨g, cap', cur, rfl, hg, hh', hle, hmx, _⟩
  · subst h0
    exact ⟨_, _, rfl, DLies.nil _ _⟩
  · have hc : ∀ j u, (fullRow K)[j]? = some u → w.cell? ⟨g, 0 + j, none⟩ = some u := fun j u hu => by
      have := hcells (g := g) (by simp [Value.ownBlock]) j u hu
      rwa [Addr.add_lit] at this
    refine ⟨_, _, rfl, DLies.of (fullL K) _ hvl hL (fun _ => trivial) hle (by unfold maxLen at hmx; exact hmx) (fun i hi hi' => ?_) (fun d hd => ?_) (fun i hi hi' => ?_)⟩
    · have hf := dflat_get (fullL K) _ i hi hi'
      refine ⟨hc _ _ hf.1, ?_, ?_, ?_, ?_, ?_⟩
      · have := hc _ _ hf.2.1; rwa [← Nat.add_assoc] at this
      · have := hc _ _ hf.2.2.1; rwa [← Nat.add_assoc] at this
      · have := hc _ _ hf.2.2.2.1; rwa [← Nat.add_assoc] at this
      · have := hc _ _ hf.2.2.2.2.1; rwa [← Nat.add_assoc] at this
      · have := hc _ _ hf.2.2.2.2.2; rwa [← Nat.add_assoc] at this
    · obtain ⟨i, hi, rfl⟩ := List.mem_map.1 hd
      refine ⟨?_, ⟨?_, ?_, ?_⟩, ?_⟩
      · show (fullN i).size ≤ _
        have : (fullN i).size = 3 := rfl
        omega
      all_goals (simp [fullD, Tm.op, Tm.hd, Tm.n, I64])
    · have e : (fullL K)[i].cl.args = [] := by simp [fullL, fullD, Tm.args]
      rw [e, List.getElem_replicate]
      exact Lies.nil _ _

theorem conv_full (wr : World) (k : Nat) : (convert 53 9 (.slice (some ⟨wr.heap.size, 0, none⟩) 3 3)).run Try.prog (wr.alloc (.cells #[.int .u8 99, .int .u8 (97 + (k : Int) / 26), .int .u8 (97 + (k : Int) % 26)] 5)) =
    .ok (.string (fullN k)) (wr.alloc (.cells #[.int .u8 99, .int .u8 (97 + (k : Int) / 26), .int .u8 (97 + (k : Int) % 26)] 5)) := by
  rw [run_convert_bytes_string _ _ _ 5 _ _ _ Try.underlying53 Try.underlying5 Try.underlying9]
  have hl := run_loadCells_list (P := Try.prog) (w := wr.alloc (.cells #[.int .u8 99, .int .u8 (97 + (k : Int) / 26), .int .u8 (97 + (k : Int) % 26)] 5)) ⟨wr.heap.size, 0, none⟩ ([99, 97 + (k : Int) / 26, 97 + (k : Int) % 26].map (Value.int .u8)) (fun j v h => by
    rw [Addr.add_lit, Nat.zero_add]
    exact cell_in (heap_alloc_new wr _) j v (by simpa using h))
  rw [run_bytesToString (P := Try.prog) _ ⟨wr.heap.size, 0, none⟩ 3 3 [99, 97 + (k : Int) / 26, 97 + (k : Int) % 26] hl]
  have e1 : (97 + (k : Int) / 26).toNat = 97 + k / 26 := by omega
  have e2 : (97 + (k : Int) % 26).toNat = 97 + k % 26 := by omega
  simp only [List.foldl_cons, List.foldl_nil, e1, e2]
  rfl

set_option maxHeartbeats 4000000 in
set_option maxRecDepth 100000 in
theorem signFull_walk0 (w : World) (n : Int) (hn : I64 n) (q K : Nat) (h1 : wrap64 ((IntKind.u64.wrap n).tmod 3) = (q : Int)) (h2 : wrap64 (99 + (q : Int)) = (K : Int)) (hqk : (q = 0 ∧ K = 99) ∨ (q = 1 ∧ K = 100) ∨ (q = 2 ∧ K = 101)) :
   
    Calls Try.prog 7 #[.int .i64 n] w fun e w' => e = .returned (.bool true) ∧ Below w.heap.size w w' := by
  obtain ⟨i0, hi0, hz0, hz1, hz2⟩ := info_parts dc_info
  have hK : K ≤ 101 := by omega
  go_enter Try.func7, Try.ntmps7
  go_wp2_with fail
  have h3 : 99 + (q : Int) = (K : Int) := by omega
  rw [h1]
  try rw [h2]
  try rw [h3]
  clear h1 h2 h3
  have HQK := Lib.hid hqk
  clear hqk
  go_loopw [3, 16] (fun v i wr => ∃ k : Nat, k ≤ K ∧ i = .int .i64 k ∧ Below w.heap.size w wr ∧ Hid (wr.ownsRow w.heap.size 40 6 v k (fullRow k))) (fun _ i _ => K - (RowKit.intOf i).toNat)
  case atStart => exact ⟨0, Nat.zero_le _, rfl, Below.refl _ _, Lib.hid (World.ownsRow_nil _ _ _ _)⟩
  case round =>
    obtain ⟨k, hk, rfl, hbw, HO⟩ := hrel
    have HBW := Lib.hid hbw
    by_cases hlt : k < K
    · clear hbw
      have hcv := conv_full wr k
      have HS := Lib.hid (fullRow_step k)
      have HM1 : Hid (k + 1 ≤ maxLen) := Lib.hid (by unfold maxLen; omega)
      have HM2 : Hid ((k + 1) * 72 ≤ 140737488355328) := Lib.hid (by omega)
      have HW2 := Lib.hid (below_next HBW.out (two_below wr (.cells #[.int .u8 99, .int .u8 (97 + (k : Int) / 26), .int .u8 (97 + (k : Int) % 26)] 5) (.cells #[.string (fullN k), .int .i64 1, .int .i64 0, .int .i64 0, .slice none 0 0, .int .i64 0] 40)))
      have HN : Hid (∀ j u, (dcells (fullD k) (.slice none 0 0))[j]? = some u → ((wr.alloc (.cells #[.int .u8 99, .int .u8 (97 + (k : Int) / 26), .int .u8 (97 + (k : Int) % 26)] 5)).alloc (.cells #[.string (fullN k), .int .i64 1, .int .i64 0, .int .i64 0, .slice none 0 0, .int .i64 0] 40)).cell? ((⟨wr.heap.size + 1, 0, none⟩ : Addr).add j) = some u) := Lib.hid (fun j u hu => by
        have h9 := cell_in (heap_alloc_new (wr.alloc (.cells #[.int .u8 99, .int .u8 (97 + (k : Int) / 26), .int .u8 (97 + (k : Int) % 26)] 5)) (.cells #[.string (fullN k), .int .i64 1, .int .i64 0, .int .i64 0, .slice none 0 0, .int .i64 0] 40)) j u (by simpa [dcells, fullD, Tm.op, Tm.hd, Tm.n] using hu)
        rw [World.size_alloc] at h9
        rw [Addr.add_lit, Nat.zero_add]
        exact h9)
      have H1 : Hid (∀ u ∈ dcells (fullD k) (.slice none 0 0), u.oneCell' = true) := Lib.hid (by
        intro u hu
        simp only [dcells, List.mem_cons, List.not_mem_nil, or_false] at hu
        rcases hu with rfl | rfl | rfl | rfl | rfl | rfl <;> rfl)
      go_wp2_with (first
        | (at_builtin; refine wpList_append_own _ rfl _ _ 22 rfl w.heap.size 40 i0 _ 6 72 Try.underlying22 hi0 hz0 hz1 hz2 rfl (by decide) _ _ _ rfl ((HO.out.alloc _).alloc _) ⟨wr.heap.size + 1, 0, none⟩ 1 1 (dcells (fullD k) (.slice none 0 0)) rfl rfl HN.out H1.out HM1.out HM2.out (by have := HW2.out.size; exact this) ?_; intro v3 w3 hown3 hgrow3 hnil3; have hb3' : Below w.heap.size w w3 := HW2.out.grown hgrow3 HW2.out.size (fun j hj => (HO.out.lt j hj).1); have HO3 := Lib.hid hown3; have HB3 := Lib.hid hb3'; clear hnil3 hown3 hb3' hgrow3)
        | fail)
      go_roundw
      case rel => exact ⟨k + 1, by omega, by go_num, HB3.out, Lib.hid (by rw [HS.out]; exact HO3.out)⟩
      case measure => simp [RowKit.intOf]; omega
    · obtain rfl : k = K := by omega
      clear hbw
      obtain ⟨a, m, rfl, hD⟩ := full_lies HO.out
      have HD := Lib.hid hD
      clear hD
      rcases HQK.out with ⟨rfl, rfl⟩ | ⟨rfl, rfl⟩ | ⟨rfl, rfl⟩
      · have cA := fun w1 (hb : Below wr.heap.size wr w1) => add_any (fullL 99) zD (.slice a 99 m) (.slice none 0 0) w1 (HD.out.keep hb) (Lies.nil _ _) zD_fit
        have cC := fun w1 (hb : Below wr.heap.size wr w1) => sgCheck_any (fun _ => True) (fullL 99) (.slice a 99 m) w1 (HD.out.keep hb)
        obtain ⟨f1, f2, f3⟩ := full99
        rw [f1] at cC
        have HFL := Lib.hid f3
        unfold GivesSE at cA
        simp only [f2] at cA
        unfold dcV at cA
        simp only [zD, Tm.op, Tm.hd, Tm.n] at cA
        clear f1 f2 f3
        go_wp2_with (first
          | (go_at_call 23; (with_reducible refine (con_any 0 none 0 0 _).mono ?_); rintro e w1 ⟨rfl, hb1⟩; have HB1 := Lib.hid hb1; clear hb1)
          | (go_at_call 20; (with_reducible refine (cA _ HB1.out).mono ?_); rintro e w2 ⟨x, rfl, hb2, hx⟩; have HB2 := Lib.hid (below_next HB1.out hb2); obtain ⟨a3, m3, rfl, -⟩ := hx.isSlice; (rw [show (addOut (fullL 99) { nm := { data := #[122] }, cl := Tm.mk 4 2 0 [], im := 0 }).1.length = _ from HFL.out]); clear hb2 hx)
          | (go_at_call 15; (with_reducible refine (cC _ (below_next HB2.out (one_below w2 (.cells #[.int .i64 0, .int .i64 5, .int .i64 2] 55)))).mono ?_); rintro e w3 ⟨rfl, hb3⟩; have hcW := heap_kept hb3 (heap_alloc_new w2 (.cells #[.int .i64 0, .int .i64 5, .int .i64 2] 55)); have x0 := cell_in hcW 0 _ rfl; have x1 := cell_in hcW 1 _ rfl; have x2 := cell_in hcW 2 _ rfl; have HB3 := Lib.hid (below_next (below_next HB2.out (one_below w2 (.cells #[.int .i64 0, .int .i64 5, .int .i64 2] 55))) hb3); clear hb3 hcW)
          | (go_at_call 11; (with_reducible refine (awake_any _).mono ?_); rintro e w5 ⟨rfl, hb5⟩; have HB5 := Lib.hid (below_next HB3.out hb5); clear hb5)
          | fail)
        go_ret
        exact ⟨rfl, below_next HBW.out HB5.out⟩
      · have cA := fun w1 (hb : Below wr.heap.size wr w1) => add_any (fullL 100) zD (.slice a 100 m) (.slice none 0 0) w1 (HD.out.keep hb) (Lies.nil _ _) zD_fit
        have cC := fun w1 (hb : Below wr.heap.size wr w1) => sgCheck_any (fun _ => True) (fullL 100) (.slice a 100 m) w1 (HD.out.keep hb)
        obtain ⟨f1, f2, f3⟩ := full100
        rw [f1] at cC
        have HFL := Lib.hid f3
        unfold GivesSE at cA
        simp only [f2] at cA
        unfold dcV at cA
        simp only [zD, Tm.op, Tm.hd, Tm.n] at cA
        clear f1 f2 f3
        go_wp2_with (first
          | (go_at_call 23; (with_reducible refine (con_any 0 none 0 0 _).mono ?_); rintro e w1 ⟨rfl, hb1⟩; have HB1 := Lib.hid hb1; clear hb1)
          | (go_at_call 20; (with_reducible refine (cA _ HB1.out).mono ?_); rintro e w2 ⟨x, rfl, hb2, hx⟩; have HB2 := Lib.hid (below_next HB1.out hb2); obtain ⟨a3, m3, rfl, -⟩ := hx.isSlice; (rw [show (addOut (fullL 100) { nm := { data := #[122] }, cl := Tm.mk 4 2 0 [], im := 0 }).1.length = _ from HFL.out]); clear hb2 hx)
          | (go_at_call 15; (with_reducible refine (cC _ (below_next HB2.out (one_below w2 (.cells #[.int .i64 0, .int .i64 5, .int .i64 2] 55)))).mono ?_); rintro e w3 ⟨rfl, hb3⟩; have hcW := heap_kept hb3 (heap_alloc_new w2 (.cells #[.int .i64 0, .int .i64 5, .int .i64 2] 55)); have x0 := cell_in hcW 0 _ rfl; have x1 := cell_in hcW 1 _ rfl; have x2 := cell_in hcW 2 _ rfl; have HB3 := Lib.hid (below_next (below_next HB2.out (one_below w2 (.cells #[.int .i64 0, .int .i64 5, .int .i64 2] 55))) hb3); clear hb3 hcW)
          | (go_at_call 11; (with_reducible refine (awake_any _).mono ?_); rintro e w5 ⟨rfl, hb5⟩; have HB5 := Lib.hid (below_next HB3.out hb5); clear hb5)
          | fail)
        go_ret
        exact ⟨rfl, below_next HBW.out HB5.out⟩
      · have cA := fun w1 (hb : Below wr.heap.size wr w1) => add_any (fullL 101) zD (.slice a 101 m) (.slice none 0 0) w1 (HD.out.keep hb) (Lies.nil _ _) zD_fit
        have cC := fun w1 (hb : Below wr.heap.size wr w1) => sgCheck_any (fun _ => True) (fullL 101) (.slice a 101 m) w1 (HD.out.keep hb)
        obtain ⟨f1, f2, f3⟩ := full101
        rw [f1] at cC
        have HFL := Lib.hid f3
        unfold GivesSE at cA
        simp only [f2] at cA
        unfold dcV at cA
        simp only [zD, Tm.op, Tm.hd, Tm.n] at cA
        clear f1 f2 f3
        go_wp2_with (first
          | (go_at_call 23; (with_reducible refine (con_any 0 none 0 0 _).mono ?_); rintro e w1 ⟨rfl, hb1⟩; have HB1 := Lib.hid hb1; clear hb1)
          | (go_at_call 20; (with_reducible refine (cA _ HB1.out).mono ?_); rintro e w2 ⟨x, rfl, hb2, hx⟩; have HB2 := Lib.hid (below_next HB1.out hb2); obtain ⟨a3, m3, rfl, -⟩ := hx.isSlice; (rw [show (addOut (fullL 101) { nm := { data := #[122] }, cl := Tm.mk 4 2 0 [], im := 0 }).1.length = _ from HFL.out]); clear hb2 hx)
          | (go_at_call 15; (with_reducible refine (cC _ (below_next HB2.out (one_below w2 (.cells #[.int .i64 0, .int .i64 5, .int .i64 2] 55)))).mono ?_); rintro e w3 ⟨rfl, hb3⟩; have hcW := heap_kept hb3 (heap_alloc_new w2 (.cells #[.int .i64 0, .int .i64 5, .int .i64 2] 55)); have x0 := cell_in hcW 0 _ rfl; have x1 := cell_in hcW 1 _ rfl; have x2 := cell_in hcW 2 _ rfl; have HB3 := Lib.hid (below_next (below_next HB2.out (one_below w2 (.cells #[.int .i64 0, .int .i64 5, .int .i64 2] 55))) hb3); clear hb3 hcW)
          | (go_at_call 11; (with_reducible refine (awake_any _).mono ?_); rintro e w5 ⟨rfl, hb5⟩; have HB5 := Lib.hid (below_next HB3.out hb5); clear hb5)
          | fail)
        go_ret
        exact ⟨rfl, below_next HBW.out HB5.out⟩

theorem signFull_walk (w : World) (n : Int) (hn : I64 n) :
    Calls Try.prog 7 #[.int .i64 n] w fun e w' => e = .returned (.bool true) ∧ Below w.heap.size w w' := by
  have hb : 0 ≤ (IntKind.u64.wrap n).tmod 3 ∧ (IntKind.u64.wrap n).tmod 3 < 3 := by
    have h0 : 0 ≤ IntKind.u64.wrap n := by
      unfold IntKind.wrap
      simp only [IntKind.signed, Bool.false_and, IntKind.bits]
      have := Int.emod_nonneg n (b := 2 ^ 64) (by decide)
      simpa using this
    exact ⟨Int.tmod_nonneg _ h0, Int.tmod_lt_of_pos _ (by omega)⟩
  obtain ⟨q, hq⟩ : ∃ q : Nat, (IntKind.u64.wrap n).tmod 3 = (q : Int) := ⟨((IntKind.u64.wrap n).tmod 3).toNat, by omega⟩
  have hq3 : q < 3 := by omega
  refine signFull_walk0 w n hn q (99 + q) (by rw [hq]; unfold wrap64; omega) (by unfold wrap64; omega) (by omega)
end Go.Proofs.Yteoheeddjddekaa
