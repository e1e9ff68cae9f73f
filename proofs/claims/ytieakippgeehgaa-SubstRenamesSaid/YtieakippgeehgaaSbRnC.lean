/- The contract of the law's renamed. -/
import Derived.Test.YtieakippgeehgaaSbRnM
import Derived.Test.YtieakippgeehgaaSbMov4
import Derived.Deep.RegionHeld3
import Derived.Deep.AppendLies
namespace Go.Proofs.Ytieakippgeehgaa.Sb
open Go.RowKit
set_option linter.unusedSimpArgs false
set_option linter.unusedVariables false

/-- the first parts, renamed -/
def rnTo (n m b : Int) (l : List Tm) (j : Nat) : List Tm := (l.take j).map (rnm n m b)
theorem rnTo_zero (n m b : Int) (l : List Tm) : rnTo n m b l 0 = [] := by simp [rnTo]
theorem rnTo_length (n m b : Int) (l : List Tm) (j : Nat) (h : j ≤ l.length) : (rnTo n m b l j).length = j := by simp [rnTo]; omega
theorem rnTo_step (n m b : Int) (l : List Tm) (j : Nat) (h : j < l.length) : rnTo n m b l (j + 1) = rnTo n m b l j ++ [rnm n m b l[j]] := by
  rw [rnTo, List.take_succ_eq_append_getElem h, List.map_append]; rfl
theorem rnTo_all (n m b : Int) (l : List Tm) (j : Nat) (h : l.length ≤ j) : rnTo n m b l j = rnmL n m b l := by
  rw [rnTo, List.take_of_length_le h, rnmL_map]
theorem rnm_fit (n m b o h k : Int) (l : List Tm) (hn : Tm.nums (.mk o h k l) = true) (n0 : 0 ≤ n ∧ n ≤ 1000) (m0 : 0 ≤ m ∧ m ≤ 1000) (b0 : 0 ≤ b ∧ b ≤ 30000) : (rnm n m b (.mk o h k l)).fit := by
  simp only [Tm.nums, Bool.and_eq_true, decide_eq_true_eq] at hn
  simp only [Tm.fit, rnm, Tm.op, Tm.hd, Tm.n, rnN]
  refine ⟨by omega, by omega, ?_⟩
  split
  · split
    · omega
    · split <;> omega
  · omega
theorem rnm_ways (n m b o h k : Int) (l : List Tm) (hn : Tm.nums (.mk o h k l) = true) (n0 : 0 ≤ n ∧ n ≤ 1000) (m0 : 0 ≤ m ∧ m ≤ 1000) (b0 : 0 ≤ b ∧ b ≤ 20000) :
    ∃ k' B, (-9999 ≤ k' ∧ k' ≤ 30000) ∧ (0 ≤ B ∧ B ≤ 1) ∧ rnm n m b (.mk o h k l) = .mk o h k' (rnmL n m (b + B) l) ∧
      (((o == 4) = true ∧ (h == 1) = true ∧ (k == n + b) = true ∧ k' = m + b ∧ (o == 3) = false ∧ B = 0) ∨ ((o == 4) = true ∧ (h == 1) = true ∧ (k == n + b) = false ∧ n + b < k ∧ k' = k - 1 ∧ (o == 3) = false ∧ B = 0) ∨
       ((o == 4) = true ∧ (h == 1) = true ∧ (k == n + b) = false ∧ k ≤ n + b ∧ k' = k ∧ (o == 3) = false ∧ B = 0) ∨ ((o == 4) = true ∧ (h == 1) = false ∧ k' = k ∧ (o == 3) = false ∧ B = 0) ∨
       ((o == 4) = false ∧ k' = k ∧ (o == 3) = false ∧ B = 0) ∨ ((o == 4) = false ∧ k' = k ∧ (o == 3) = true ∧ B = 1)) := by
  have hb := Tm.nums_n hn
  refine ⟨rnN n m b o h k, if o = 3 then 1 else 0, ?_, by split <;> omega, by simp only [rnm], ?_⟩
  · unfold rnN
    split
    · split
      · omega
      · split <;> omega
    · omega
  · unfold rnN
    by_cases h4 : o = 4
    · by_cases h1 : h = 1
      · by_cases e : k = n + b
        · left; simp [h4, h1, e]
        · by_cases e2 : n + b < k
          · right; left; simp [h4, h1, e, e2]
          · right; right; left; simp [h4, h1, e, e2]; omega
      · right; right; right; left; simp [h4, h1]
    · by_cases h3 : o = 3
      · right; right; right; right; right; simp [h3]
      · right; right; right; right; left; simp [h4, h3]

def RnmOk (f : Nat) (n m : Int) : Prop := ∀ (o h k b : Int) (v : Value) (l : List Tm) (w : World), Tm.sz (.mk o h k l) ≤ f → Tm.sz (.mk o h k l) ≤ 600 → Tm.nums (.mk o h k l) = true → 0 ≤ b → b + (Tm.sz (.mk o h k l) : Int) ≤ 20000 → Lies w (fun _ => True) v l →
      Calls Try.prog 38 #[.agg #[.int .i64 o, .int .i64 h, .int .i64 k, v], .int .i64 n, .int .i64 m, .int .i64 b] w (GivesT w (rnm n m b (.mk o h k l)))

set_option maxHeartbeats 8000000 in
set_option maxRecDepth 100000 in
theorem rnm_walk (f : Nat) (nn mm : Int) (hn0 : 0 ≤ nn ∧ nn ≤ 1000) (hm0 : 0 ≤ mm ∧ mm ≤ 1000) (ih : RnmOk f nn mm) : RnmOk (f + 1) nn mm := by
  intro o h n fr v l w hf hf6 hn h0 h1 hv
  obtain ⟨ao, b, off, len, cap, oo, hh, kk, sv, ts, rfl, R⟩ := hv.open
  have hr := R.hr
  have hl := R.hl
  obtain ⟨n', B, hn', hBb, hmv, hways⟩ := rnm_ways nn mm fr o h n l hn hn0 hm0 (by omega)
  have hnb : 0 ≤ n ∧ n ≤ 9999 := Tm.nums_n hn
  rw [hmv]
  obtain ⟨i0, hi0, hz0, hz1, hz2⟩ := info_parts tm_info
  have HNP := Lib.hid hn'
  have HMV := Lib.hid hmv
  have HNN := Lib.hid hn
  have HF := Lib.hid (And.intro hf hf6)
  have hsum : IntKind.i64.wrap (fr + B) = fr + B := IntWalk.i64_in _ (by omega)
  have hfr : fr ≤ 20000 := by omega
  clear hv hmv hn hf hf6
  rcases hways with ⟨w1, w2, w3, hnn, w4, hB⟩ | ⟨w1, w2, w3, w5, hnn, w4, hB⟩ | ⟨w1, w2, w3, w5, hnn, w4, hB⟩ | ⟨w1, w2, hnn, w4, hB⟩ | ⟨w1, hnn, w4, hB⟩ | ⟨w1, hnn, w4, hB⟩
  all_goals
    have HE := Lib.hid hnn
    have HBE := Lib.hid hB
    clear hnn hB
    go_enter Try.func38, Try.ntmps38
    go_wp2
    go_loopw [47] (fun i wr => ∃ k : Nat, k ≤ len ∧ i = .int .i64 k ∧ ∃ v, Building w wr 24 #[.int .i64 o, .int .i64 h, .int .i64 n, .slice ao len cap] #[.int .i64 0, .int .i64 0, .int .i64 0, .slice none 0 0] o h n' v (rnTo nn mm (fr + B) l k))
      (fun i _ => len - (intOf i).toNat)
    case atStart =>
      refine ⟨0, Nat.zero_le _, rfl, .slice none 0 0, ?_⟩
      rw [HE.out, rnTo_zero]
      exact Building.start _ _ _ rfl
    case round =>
      obtain ⟨k, hk, rfl, v, M⟩ := hrel
      have b0 : wr.cell? ⟨w.heap.size, 0, none⟩ = some (.int .i64 o) := cell_in M.box 0 _ rfl
      have b3 : wr.cell? ⟨w.heap.size, 3, none⟩ = some (.slice ao len cap) := cell_in M.box 3 _ rfl
      by_cases hlt : k < len
      · obtain rfl := R.hao (by omega)
        obtain ⟨d0, d1, d2, d3, hsub⟩ := R.at M.below k hlt
        have z0 : wr.cell? ⟨w.heap.size + 1 + 1, 3, none⟩ = some v := cell_in M.out 3 _ rfl
        have f0 : wr.frozen? ⟨w.heap.size + 1 + 1, 3, none⟩ = false := free_in M.out 3
        have hbb : b < w.heap.size := World.block_lt_of_cell? w _ (R.c0 k hlt)
        have hs0 : w.heap.size + 1 + 1 + 1 ≤ wr.heap.size := by have := (Array.getElem?_eq_some_iff.1 M.out).1; omega
        have hk6 : (rnTo nn mm (fr + B) l k).length ≤ 600 := by rw [rnTo_length _ _ _ _ _ (by rw [R.length]; omega)]; have := Tm.length_le_szL l; have h6 := HF.out.2; simp only [Tm.sz] at h6; rw [R.length] at this; omega
        have hrow := fun q (hq : v.ownBlock = some q) => (M.row.lt q hq).1
        have hszk := R.size HF.out.1 k hlt
        have hsz6 : Tm.sz (.mk (oo k) (hh k) (kk k) (ts k)) + 1 ≤ Tm.sz (.mk o h n l) := R.size_lt k hlt
        have hf6 := HF.out.2
        have hnk := Tm.numsL_mem (Tm.nums_l HNN.out) (R.mem k hlt)
        have hk0 : (0 : Int) ≤ (k : Int) := by omega
        have hk1 : (k : Int) < (len : Int) := by omega
        have HNK := Lib.hid hnk
        have HR := Lib.hid R
        have HM := Lib.hid M
        clear hnk M R
        have call := fun w1 (hb : Below wr.heap.size wr w1) => ih (oo k) (hh k) (kk k) (fr + B) (sv k) (ts k) w1 hszk (by omega) HNK.out (by omega) (by omega) (hsub.keep hb)
        clear hsub hszk hsz6 hf6
        go_wp2_with fail
        try rw [← HBE.out]
        refine wp_region_last_of (S := fun W => CellsM6 W ⟨w.heap.size, 3, none⟩ ⟨b, off + k * 4, none⟩ ⟨b, off + k * 4 + 1, none⟩ ⟨b, off + k * 4 + 2, none⟩ ⟨b, off + k * 4 + 3, none⟩ ⟨w.heap.size + 1 + 1, 3, none⟩ (.slice (some ⟨b, off, none⟩) len cap) (.int .i64 (oo k)) (.int .i64 (hh k)) (.int .i64 (kk k)) (sv k) v)
          (by kernel_rfl) (by simp only [List.pop_toArray, List.dropLast_cons_cons, List.dropLast_singleton]; rfl) (by rfl) (by kernel_rfl) (by kernel_rfl) (by kernel_rfl) (by kernel_rfl) ⟨b3, d0, d1, d2, d3, z0⟩ (fun hHeld => ?_)
        refine wpAnyH_take (i := 0) (v := .pointer (some ⟨w.heap.size + 1 + 1, 3, none⟩)) rfl (by kernel_rfl) (by kernel_rfl) (by kernel_rfl) (fun _ _ _ h => h) (Or.inl ⟨by rfl, ?_⟩) hHeld ?_
        · (intro W hW; (try dsimp only at hW); go_simp)
        (try simp only [Act.put, List.setIfInBounds_toArray, List.set_cons_zero, List.set_cons_succ])
        refine wpAnyH_take (i := 1) (v := v) rfl (by kernel_rfl) (by kernel_rfl) (by kernel_rfl) (fun _ _ _ h => h) (Or.inl ⟨by rfl, ?_⟩) hHeld ?_
        · (intro W hW; (try dsimp only at hW); go_simp)
        (try simp only [Act.put, List.setIfInBounds_toArray, List.set_cons_zero, List.set_cons_succ])
        refine wpAnyH_take (i := 2) (v := .pointer (some ⟨w.heap.size, 3, none⟩)) rfl (by kernel_rfl) (by kernel_rfl) (by kernel_rfl) (fun _ _ _ h => h) (Or.inl ⟨by rfl, ?_⟩) hHeld ?_
        · (intro W hW; (try dsimp only at hW); go_simp)
        (try simp only [Act.put, List.setIfInBounds_toArray, List.set_cons_zero, List.set_cons_succ])
        refine wpAnyH_take (i := 3) (v := .slice (some ⟨b, off, none⟩) len cap) rfl (by kernel_rfl) (by kernel_rfl) (by kernel_rfl) (fun _ _ _ h => h) (Or.inl ⟨by rfl, ?_⟩) hHeld ?_
        · (intro W hW; (try dsimp only at hW); go_simp)
        (try simp only [Act.put, List.setIfInBounds_toArray, List.set_cons_zero, List.set_cons_succ])
        refine wpAnyH_take (i := 4) (v := .int .i64 k) rfl (by kernel_rfl) (by kernel_rfl) (by kernel_rfl) (fun _ _ _ h => h) (Or.inl ⟨by rfl, ?_⟩) hHeld ?_
        · (intro W hW; (try dsimp only at hW); go_simp)
        (try simp only [Act.put, List.setIfInBounds_toArray, List.set_cons_zero, List.set_cons_succ])
        refine wpAnyH_take (i := 5) (v := .pointer (some ⟨b, off + k * 4, none⟩)) rfl (by kernel_rfl) (by kernel_rfl) (by kernel_rfl) (fun _ _ _ h => h) (Or.inl ⟨by rfl, ?_⟩) hHeld ?_
        · (intro W hW; (try dsimp only at hW); go_simp)
        (try simp only [Act.put, List.setIfInBounds_toArray, List.set_cons_zero, List.set_cons_succ])
        refine wpAnyH_take (i := 6) (v := .agg #[.int .i64 (oo k), .int .i64 (hh k), .int .i64 (kk k), sv k]) rfl (by kernel_rfl) (by kernel_rfl) (by kernel_rfl) (fun _ _ _ h => h) (Or.inl ⟨by rfl, ?_⟩) hHeld ?_
        · (intro W hW; (try dsimp only at hW); go_simp)
        (try simp only [Act.put, List.setIfInBounds_toArray, List.set_cons_zero, List.set_cons_succ])
        refine wpAnyH_take (i := 7) (v := .int .i64 nn) rfl (by kernel_rfl) (by kernel_rfl) (by kernel_rfl) (fun _ _ _ h => h) (Or.inl ⟨by rfl, ?_⟩) hHeld ?_
        · (intro W hW; (try dsimp only at hW); go_simp)
        (try simp only [Act.put, List.setIfInBounds_toArray, List.set_cons_zero, List.set_cons_succ])
        refine wpAnyH_take (i := 8) (v := .int .i64 mm) rfl (by kernel_rfl) (by kernel_rfl) (by kernel_rfl) (fun _ _ _ h => h) (Or.inl ⟨by rfl, ?_⟩) hHeld ?_
        · (intro W hW; (try dsimp only at hW); go_simp)
        (try simp only [Act.put, List.setIfInBounds_toArray, List.set_cons_zero, List.set_cons_succ])
        refine wpAnyH_take (i := 9) (v := .int .i64 fr) rfl (by kernel_rfl) (by kernel_rfl) (by kernel_rfl) (fun _ _ _ h => h) (Or.inl ⟨by rfl, ?_⟩) hHeld ?_
        · (intro W hW; (try dsimp only at hW); go_simp)
        (try simp only [Act.put, List.setIfInBounds_toArray, List.set_cons_zero, List.set_cons_succ])
        refine wpAnyH_take (i := 10) (v := .int .i64 B) rfl (by kernel_rfl) (by kernel_rfl) (by kernel_rfl) (fun _ _ _ h => h) (Or.inl ⟨by rfl, ?_⟩) hHeld ?_
        · (intro W hW; (try dsimp only at hW); go_simp)
        (try simp only [Act.put, List.setIfInBounds_toArray, List.set_cons_zero, List.set_cons_succ])
        refine wpAnyH_take (i := 11) (v := .int .i64 (fr + B)) rfl (by kernel_rfl) (by kernel_rfl) (by kernel_rfl) (fun _ _ _ h => h) (Or.inl ⟨by rfl, ?_⟩) hHeld ?_
        · (intro W hW; (try dsimp only at hW); go_simp)
        (try simp only [Act.put, List.setIfInBounds_toArray, List.set_cons_zero, List.set_cons_succ])
        refine wpAnyH_ready (rs := [12]) (by kernel_rfl) (by simp) (AllReadyH.cons rfl (fun K hK => ?_) AllReadyH.nil)
        go_simp
        go_at_call 38
        refine (call _ (Below.refl _ _).drew).mono ?_
        rintro e w2 ⟨x, rfl, hb2, hx⟩
        (try dsimp only)
        refine hK.out _ _ ?_ (fun hNew => ?_)
        · exact cellsM6_below hb2 hHeld
        clear hK K hHeld
        have hHeld := hNew
        clear hNew
        (try simp only [Act.put, List.setIfInBounds_toArray, List.set_cons_zero, List.set_cons_succ])
        have hb1' := (Below.refl wr.heap.size wr).drew
        have hs2 := hb2.size
        simp at hs2
        obtain ⟨vs, hvl, hown2, hsub2⟩ := ((HM.out.row.below hb1').below hb2).own
        refine wpAnyH_ready (rs := [13]) (by kernel_rfl) (by simp) (AllReadyH.cons rfl (fun K hK => ?_) AllReadyH.nil)
        go_simp
        (try dsimp only)
        refine hK.out _ _ ?_ (fun hNew => ?_)
        · exact cellsM6_below ((Below.refl _ _).alloc (Nat.le_refl _) _) hHeld
        clear hK K hHeld
        have hHeld := hNew
        clear hNew
        (try simp only [Act.put, List.setIfInBounds_toArray, List.set_cons_zero, List.set_cons_succ])
        refine wpAnyH_ready (rs := [14]) (by kernel_rfl) (by simp) (AllReadyH.cons rfl (fun K hK => ?_) AllReadyH.nil)
        refine step_append_lies _ (by rfl) _ _ _ (by rfl) (w.heap.size + 1 + 1 + 1) 24 i0 _ 4 48 Try.underlying22 hi0 hz0 hz1 hz2 rfl (by omega) v _ _ (by rfl) (hown2.alloc _) ⟨w2.heap.size, 0, none⟩ 1 1 [.int .i64 (rnm nn mm (fr + B) (.mk (oo k) (hh k) (kk k) (ts k))).op, .int .i64 (rnm nn mm (fr + B) (.mk (oo k) (hh k) (kk k) (ts k))).hd, .int .i64 (rnm nn mm (fr + B) (.mk (oo k) (hh k) (kk k) (ts k))).n, x] (by rfl) (by rfl) (World.news_of_block (cs := #[.int .i64 (rnm nn mm (fr + B) (.mk (oo k) (hh k) (kk k) (ts k))).op, .int .i64 (rnm nn mm (fr + B) (.mk (oo k) (hh k) (kk k) (ts k))).hd, .int .i64 (rnm nn mm (fr + B) (.mk (oo k) (hh k) (kk k) (ts k))).n, x]) (t := 24) (fr := (0, 0)) (heap_alloc_new w2 _)) (by intro u hu; simp at hu; rcases hu with rfl | rfl | rfl | rfl <;> first | rfl | exact lies_one hx) (by omega) (by unfold maxLen; omega) (by omega) (by simp; omega) (w2.heap.size + 1) (by simp) ?_
        intro g cap3 w3 hown3 hgrow3 hat3 hlt3
        (try dsimp only)
        refine hK.out _ _ ?_ (fun hNew => ?_)
        · exact cellsM6_far hgrow3 hrow ⟨by simp; omega, by simp; omega, by simp; omega, by simp; omega, by simp; omega, by simp⟩ hHeld
        clear hK K hHeld
        have hHeld := hNew
        clear hNew
        (try simp only [Act.put, List.setIfInBounds_toArray, List.set_cons_zero, List.set_cons_succ])
        refine wpAnyH_take (i := 15) (v := .pointer (some ⟨w.heap.size + 1 + 1, 3, none⟩)) rfl (by kernel_rfl) (by kernel_rfl) (by kernel_rfl) (fun _ _ _ h => h) (Or.inl ⟨by rfl, ?_⟩) hHeld ?_
        · (intro W hW; (try dsimp only at hW); go_simp)
        (try simp only [Act.put, List.setIfInBounds_toArray, List.set_cons_zero, List.set_cons_succ])
        refine wpAnyH_done (by kernel_rfl) ?_ _
        refine lastQ_list (by rfl) ?_
        have fz : w3.frozen? ⟨w.heap.size + 1 + 1, 3, none⟩ = false := far_frozen hgrow3 (kept_cell ((Below.refl _ _).alloc (Nat.le_refl _) _) (kept_cell hb2 (kept_cell hb1' z0))) ((Below.frozen ((Below.refl _ _).alloc (Nat.le_refl _) _) (by show w.heap.size + 1 + 1 < w2.heap.size; omega)).trans (frozen_kept hb2 (kept_cell hb1' z0) (frozen_kept hb1' z0 f0))) hrow (by show w.heap.size + 1 + 1 < w.heap.size + 1 + 1 + 1; omega)
        obtain ⟨e0, e1', e2', e3', e4', e5⟩ := hHeld
        clear e0 e1' e2' e3' e4' d0 d1 d2 d3 b0 b3 z0 f0
        have HVL := Lib.hid hvl
        have HX := Lib.hid (And.intro hb2 (And.intro hx (And.intro hgrow3 hat3)))
        have HO3 := Lib.hid (And.intro hown3 hsub2)
        clear hvl hb2 hx hgrow3 hat3 hown3 hsub2 hown2 call hrow hb1'
        go_wp2
        go_roundw
        case rel =>
          refine ⟨k + 1, by omega, by go_num, .slice (some ⟨g, 0, none⟩) ((rnTo nn mm (fr + B) l k).length + 1) cap3, ?_⟩
          rw [rnTo_step nn mm (fr + B) l k (by rw [HR.out.length]; exact hlt), HR.out.get k hlt]
          exact Building.step HM.out (Below.refl wr.heap.size wr).drew HX.out.1 HX.out.2.1 (rnm_fit nn mm (fr + B) (oo k) (hh k) (kk k) (ts k) HNK.out hn0 hm0 (by omega)) HVL.out HO3.out.2 HO3.out.1 HX.out.2.2.1 HX.out.2.2.2
        case measure => simp [intOf]; omega
      · obtain rfl : k = len := by omega
        have HM := Lib.hid M
        have HR := Lib.hid R
        have HLn := Lib.hid (rnTo_all nn mm (fr + B) l k (by rw [R.length]; exact Nat.le_refl _))
        have y0 := cell_in M.res 0 (.int .i64 0) rfl
        have y1 := cell_in M.res 1 (.int .i64 0) rfl
        have y2 := cell_in M.res 2 (.int .i64 0) rfl
        have y3 := cell_in M.res 3 (.slice none 0 0) rfl
        have yf0 := free_in M.res 0
        have yf1 := free_in M.res 1
        have yf2 := free_in M.res 2
        have yf3 := free_in M.res 3
        have HV := Lib.hid M.row.lies
        obtain ⟨a3, n3, m3, rfl⟩ := M.row.lies.isSlice
        have g0 := cell_in M.out 0 (.int .i64 o) rfl
        have g1 := cell_in M.out 1 (.int .i64 h) rfl
        have g2 := cell_in M.out 2 (.int .i64 n') rfl
        have g3 := cell_in M.out 3 (.slice a3 n3 m3) rfl
        clear M R
        go_wp2
        have hz := set4_at HM.out.res (.int .i64 o) (.int .i64 h) (.int .i64 n') (.slice a3 n3 m3)
        have z0 := cell_in hz 0 (.int .i64 o) rfl
        have z1 := cell_in hz 1 (.int .i64 h) rfl
        have z2 := cell_in hz 2 (.int .i64 n') rfl
        have z3 := cell_in hz 3 (.slice a3 n3 m3) rfl
        have hoth : ∀ j, j ≠ w.heap.size + 1 → ((((wr.setCell ⟨w.heap.size + 1, 0, none⟩ (.int .i64 o)).setCell ⟨w.heap.size + 1, 1, none⟩ (.int .i64 h)).setCell ⟨w.heap.size + 1, 2, none⟩ (.int .i64 n')).setCell ⟨w.heap.size + 1, 3, none⟩ (.slice a3 n3 m3)).heap[j]? = wr.heap[j]? := fun j hj => heap_set4 _ _ _ _ hj hj hj hj
        refine bodyPost_ret (v := .agg #[.int .i64 o, .int .i64 h, .int .i64 n', .slice a3 n3 m3]) (by simp [results, Try.results38, go_sem, z0, z1, z2, z3]) rfl ⟨.slice a3 n3 m3, rfl, ?_, ?_⟩
        · exact (((HM.out.below.setCell (by simp) _).setCell (by simp) _).setCell (by simp) _).setCell (by simp) _
        · show Lies _ _ _ (rnmL nn mm (fr + B) l)
          rw [← HLn.out]
          exact (HV.out.still fun j hS _ => hoth j (by omega)).more fun j _ hS => by omega

theorem rnm_calls (n m : Int) (hn0 : 0 ≤ n ∧ n ≤ 1000) (hm0 : 0 ≤ m ∧ m ≤ 1000) : ∀ f : Nat, RnmOk f n m
  | 0 => fun o h k b v l w hf => by have := Tm.sz_pos (.mk o h k l); omega
  | f + 1 => rnm_walk f n m hn0 hm0 (rnm_calls n m hn0 hm0 f)
end Go.Proofs.Ytieakippgeehgaa.Sb
