/- The contracts of the reference's moved and raised of layer 4. -/
import Derived.Test.YtieakippgeehgaaSbGa
import Derived.Deep.RegionHeld3
import Derived.Deep.AppendLies
namespace Go.Proofs.Ytieakippgeehgaa.Sb
open Go.RowKit
set_option linter.unusedSimpArgs false
set_option linter.unusedVariables false

abbrev CellsM6 (W : World) (p1 p2 p3 p4 p5 p6 : Addr) (u1 u2 u3 u4 u5 u6 : Value) : Prop :=
  W.cell? p1 = some u1 ∧ W.cell? p2 = some u2 ∧ W.cell? p3 = some u3 ∧ W.cell? p4 = some u4 ∧ W.cell? p5 = some u5 ∧ W.cell? p6 = some u6
theorem cellsM6_below {W W' : World} {p1 p2 p3 p4 p5 p6 : Addr} {u1 u2 u3 u4 u5 u6 : Value} (hb : Below W.heap.size W W') (x : CellsM6 W p1 p2 p3 p4 p5 p6 u1 u2 u3 u4 u5 u6) : CellsM6 W' p1 p2 p3 p4 p5 p6 u1 u2 u3 u4 u5 u6 := by
  obtain ⟨x1, x2, x3, x4, x5, x6⟩ := x
  exact ⟨kept_cell hb x1, kept_cell hb x2, kept_cell hb x3, kept_cell hb x4, kept_cell hb x5, kept_cell hb x6⟩
theorem cellsM6_far {W W' : World} {p1 p2 p3 p4 p5 p6 : Addr} {u1 u2 u3 u4 u5 u6 : Value} {B : Nat} {row : Option Nat} (hg : W.grownBy W' row) (hr : ∀ k, row = some k → B ≤ k) (hp : p1.block < B ∧ p2.block < B ∧ p3.block < B ∧ p4.block < B ∧ p5.block < B ∧ p6.block < B)
    (x : CellsM6 W p1 p2 p3 p4 p5 p6 u1 u2 u3 u4 u5 u6) : CellsM6 W' p1 p2 p3 p4 p5 p6 u1 u2 u3 u4 u5 u6 := by
  obtain ⟨x1, x2, x3, x4, x5, x6⟩ := x
  exact ⟨far_cell hg x1 hr hp.1, far_cell hg x2 hr hp.2.1, far_cell hg x3 hr hp.2.2.1, far_cell hg x4 hr hp.2.2.2.1, far_cell hg x5 hr hp.2.2.2.2.1, far_cell hg x6 hr hp.2.2.2.2.2⟩

/-- the ways of the count of binders -/
theorem below_ways (o : Int) (k : Nat) : (Tm.belowN o k = 1 ∧ (o == 3) = true) ∨ (Tm.belowN o k = 1 ∧ (o == 3) = false ∧ (o == 2) = true ∧ ((k : Int) == 1) = true) ∨ (Tm.belowN o k = 0 ∧ (o == 3) = false ∧ (o == 2) = true ∧ ((k : Int) == 1) = false) ∨ (Tm.belowN o k = 0 ∧ (o == 3) = false ∧ (o == 2) = false) := by
  unfold Tm.belowN
  rcases h3 : (o == 3) with _ | _
  · rcases h2 : (o == 2) with _ | _
    · simp
    · rcases h1 : ((k : Int) == 1) with _ | _
      · have : (k == 1) = false := by simp at h1 ⊢; omega
        simp [this]
      · have : (k == 1) = true := by simp at h1 ⊢; omega
        simp [this]
  · simp

def Moved4Ok (f : Nat) (d : Int) : Prop := ∀ (o h n fr : Int) (v : Value) (l : List Tm) (w : World), Tm.sz (.mk o h n l) ≤ f → Tm.sz (.mk o h n l) ≤ 600 → Tm.nums (.mk o h n l) = true → 0 ≤ fr → fr + (Tm.sz (.mk o h n l) : Int) ≤ 20000 → Lies w (fun _ => True) v l →
      Calls Try.prog 87 #[.agg #[.int .i64 o, .int .i64 h, .int .i64 n, v], .int .i64 d, .int .i64 fr] w (GivesT w (Tm.moved d fr (.mk o h n l)))

set_option maxHeartbeats 8000000 in
set_option maxRecDepth 100000 in
theorem moved4_walk (f : Nat) (d : Int) (hd0 : -9999 ≤ d) (hd1 : d ≤ 9999) (ih : Moved4Ok f d) : Moved4Ok (f + 1) d := by
  intro o h n fr v l w hf hf6 hn h0 h1 hv
  obtain ⟨ao, b, off, len, cap, oo, hh, kk, sv, ts, rfl, R⟩ := hv.open
  have hr := R.hr
  have hl := R.hl
  obtain ⟨n', hn', hmv, hways⟩ : ∃ n', (-9999 ≤ n' ∧ n' ≤ 20000) ∧ Tm.moved d fr (.mk o h n l) = .mk o h n' (Tm.movedL d fr o 0 l) ∧
      (((o == 4) = true ∧ (h == 1) = true ∧ fr ≤ n ∧ n' = n + d) ∨ ((o == 4) = true ∧ (h == 1) = true ∧ n < fr ∧ n' = n) ∨ ((o == 4) = true ∧ (h == 1) = false ∧ n' = n) ∨ ((o == 4) = false ∧ n' = n)) := Tm.moved_ways d fr o h n l hn hd0 hd1
  have hnb : 0 ≤ n ∧ n ≤ 9999 := Tm.nums_n hn
  rw [hmv]
  obtain ⟨i0, hi0, hz0, hz1, hz2⟩ := info_parts tm_info
  have HNP := Lib.hid hn'
  have HMV := Lib.hid hmv
  have HNN := Lib.hid hn
  have HF := Lib.hid (And.intro hf hf6)
  clear hv hmv hn hf hf6
  rcases hways with ⟨w1, w2, hle, hnn⟩ | ⟨w1, w2, hle, hnn⟩ | ⟨w1, w2, hnn⟩ | ⟨w1, hnn⟩
  all_goals
    have HE := Lib.hid hnn
    clear hnn
    go_enter Try.func87, Try.ntmps87
    go_wp2
    go_loopw [8] (fun i wr => ∃ k : Nat, k ≤ len ∧ i = .int .i64 k ∧ ∃ v, Building w wr 24 #[.int .i64 o, .int .i64 h, .int .i64 n, .slice ao len cap] #[.int .i64 0, .int .i64 0, .int .i64 0, .slice none 0 0] o h n' v (Tm.movedTo d fr o l k))
      (fun i _ => len - (intOf i).toNat)
    case atStart =>
      refine ⟨0, Nat.zero_le _, rfl, .slice none 0 0, ?_⟩
      rw [HE.out, Tm.movedTo_zero]
      exact Building.start _ _ _ rfl
    case round =>
      obtain ⟨k, hk, rfl, v, M⟩ := hrel
      have b0 : wr.cell? ⟨w.heap.size, 0, none⟩ = some (.int .i64 o) := cell_in M.box 0 _ rfl
      have b3 : wr.cell? ⟨w.heap.size, 3, none⟩ = some (.slice ao len cap) := cell_in M.box 3 _ rfl
      by_cases hlt : k < len
      · obtain rfl := R.hao (by omega)
        obtain ⟨d0, d1, d2, d3, hsub⟩ := R.at M.below k hlt
        have z0 : wr.cell? ⟨w.heap.size + 1 + 1, 3, none⟩ = some v := cell_in M.out 3 _ rfl
        have f0 : wr.frozen? ⟨w.heap.size + 1 + 1, 3, none⟩ = false := free_in M.out 3
        have hbb : b < w.heap.size := World.block_lt_of_cell? w _ (R.c0 k hlt)
        have hs0 : w.heap.size + 1 + 1 + 1 ≤ wr.heap.size := by have := (Array.getElem?_eq_some_iff.1 M.out).1; omega
        have hk6 : (Tm.movedTo d fr o l k).length ≤ 600 := by rw [Tm.movedTo_length _ _ _ _ _ (by rw [R.length]; omega)]; have := Tm.length_le_szL l; have h6 := HF.out.2; simp only [Tm.sz] at h6; rw [R.length] at this; omega
        have hrow := fun q (hq : v.ownBlock = some q) => (M.row.lt q hq).1
        have hszk := R.size HF.out.1 k hlt
        have hsz6 : Tm.sz (.mk (oo k) (hh k) (kk k) (ts k)) + 1 ≤ Tm.sz (.mk o h n l) := R.size_lt k hlt
        have hf6 := HF.out.2
        have hnk := Tm.numsL_mem (Tm.nums_l HNN.out) (R.mem k hlt)
        have hk0 : (0 : Int) ≤ (k : Int) := by omega
        have hk1 : (k : Int) < (len : Int) := by omega
        have HNK := Lib.hid hnk
        have HR := Lib.hid R
        have HM := Lib.hid M
        clear hnk M R
        obtain ⟨B, hB⟩ : ∃ B, B = Tm.belowN o k := ⟨_, rfl⟩
        have hBb : 0 ≤ B ∧ B ≤ 1 := by rw [hB]; have := Tm.belowN_bd o k; omega
        have hsum : IntKind.i64.wrap (fr + B) = fr + B := IntWalk.i64_in _ (by omega)
        have call := fun w1 (hb : Below wr.heap.size wr w1) => ih (oo k) (hh k) (kk k) (fr + B) (sv k) (ts k) w1 hszk (by omega) HNK.out (by omega) (by omega) (hsub.keep hb)
        have hcases := below_ways o k
        rw [← hB] at hcases
        have HBE := Lib.hid hB
        clear hB hsub hszk hsz6 hf6
        rcases hcases with ⟨hb, e1⟩ | ⟨hb, e1, e2, e3⟩ | ⟨hb, e1, e2, e3⟩ | ⟨hb, e1, e2⟩
        all_goals
          have HBV := Lib.hid hb
          clear hb
          go_wp2_with fail
          rw [← HBV.out]
          refine wp_region_last_of (S := fun W => CellsM6 W ⟨w.heap.size, 3, none⟩ ⟨b, off + k * 4, none⟩ ⟨b, off + k * 4 + 1, none⟩ ⟨b, off + k * 4 + 2, none⟩ ⟨b, off + k * 4 + 3, none⟩ ⟨w.heap.size + 1 + 1, 3, none⟩ (.slice (some ⟨b, off, none⟩) len cap) (.int .i64 (oo k)) (.int .i64 (hh k)) (.int .i64 (kk k)) (sv k) v)
            (by kernel_rfl) (by simp only [List.pop_toArray, List.dropLast_cons_cons, List.dropLast_singleton]; rfl) (by rfl) (by kernel_rfl) (by kernel_rfl) (by kernel_rfl) (by kernel_rfl) ⟨b3, d0, d1, d2, d3, z0⟩ (fun hHeld => ?_)
          refine wpAnyH_take (i := 0) (v := .pointer (some ⟨w.heap.size + 1 + 1, 3, none⟩)) rfl (by kernel_rfl) (by kernel_rfl) (by kernel_rfl) (fun _ _ _ h => h) (Or.inl ⟨by rfl, ?_⟩) hHeld ?_
          · (intro W hW; (try dsimp only at hW); go_simp)
          (try simp only [Act.put, List.setIfInBounds_toArray, List.set_cons_zero, List.set_cons_succ])
          refine wpAnyH_take (i := 1) (v := v) rfl (by kernel_rfl) (by kernel_rfl) (by kernel_rfl) (fun _ _ _ h => h) (Or.inl ⟨by rfl, ?_⟩) hHeld ?_
          · (intro W hW; (try dsimp only at hW); go_simp)
          (try simp only [Act.put, List.setIfInBounds_toArray, List.set_cons_zero, List.set_cons_succ])
          refine wpAnyH_take (i := 2) (v := .pointer (some ⟨w.heap.size, 3, none⟩)) rfl (by kernel_rfl) (by kernel_rfl) (by kernel_rfl) (fun _ _ _ h => h) (Or.inl ⟨by rfl, ?_⟩) hHeld ?_
          · (intro W hW; (try dsimp only at hW); go_simp)
          (try simp only [Act.put, List.setIfInBounds_toArray, List.set_cons_zero, List.set_cons_succ])
          refine wpAnyH_take (i := 3) (v := .slice (some ⟨b, off, none⟩) len cap) rfl (by kernel_rfl) (by kernel_rfl) (by kernel_rfl) (fun _ _ _ h => h) (Or.inl ⟨by rfl, ?_⟩) hHeld ?_
          · (intro W hW; (try dsimp only at hW); go_simp)
          (try simp only [Act.put, List.setIfInBounds_toArray, List.set_cons_zero, List.set_cons_succ])
          refine wpAnyH_take (i := 4) (v := .int .i64 k) rfl (by kernel_rfl) (by kernel_rfl) (by kernel_rfl) (fun _ _ _ h => h) (Or.inl ⟨by rfl, ?_⟩) hHeld ?_
          · (intro W hW; (try dsimp only at hW); go_simp)
          (try simp only [Act.put, List.setIfInBounds_toArray, List.set_cons_zero, List.set_cons_succ])
          refine wpAnyH_take (i := 5) (v := .pointer (some ⟨b, off + k * 4, none⟩)) rfl (by kernel_rfl) (by kernel_rfl) (by kernel_rfl) (fun _ _ _ h => h) (Or.inl ⟨by rfl, ?_⟩) hHeld ?_
          · (intro W hW; (try dsimp only at hW); go_simp)
          (try simp only [Act.put, List.setIfInBounds_toArray, List.set_cons_zero, List.set_cons_succ])
          refine wpAnyH_take (i := 6) (v := .agg #[.int .i64 (oo k), .int .i64 (hh k), .int .i64 (kk k), sv k]) rfl (by kernel_rfl) (by kernel_rfl) (by kernel_rfl) (fun _ _ _ h => h) (Or.inl ⟨by rfl, ?_⟩) hHeld ?_
          · (intro W hW; (try dsimp only at hW); go_simp)
          (try simp only [Act.put, List.setIfInBounds_toArray, List.set_cons_zero, List.set_cons_succ])
          refine wpAnyH_take (i := 7) (v := .int .i64 d) rfl (by kernel_rfl) (by kernel_rfl) (by kernel_rfl) (fun _ _ _ h => h) (Or.inl ⟨by rfl, ?_⟩) hHeld ?_
          · (intro W hW; (try dsimp only at hW); go_simp)
          (try simp only [Act.put, List.setIfInBounds_toArray, List.set_cons_zero, List.set_cons_succ])
          refine wpAnyH_take (i := 8) (v := .int .i64 fr) rfl (by kernel_rfl) (by kernel_rfl) (by kernel_rfl) (fun _ _ _ h => h) (Or.inl ⟨by rfl, ?_⟩) hHeld ?_
          · (intro W hW; (try dsimp only at hW); go_simp)
          (try simp only [Act.put, List.setIfInBounds_toArray, List.set_cons_zero, List.set_cons_succ])
          refine wpAnyH_take (i := 9) (v := .int .i64 B) rfl (by kernel_rfl) (by kernel_rfl) (by kernel_rfl) (fun _ _ _ h => h) (Or.inl ⟨by rfl, ?_⟩) hHeld ?_
          · (intro W hW; (try dsimp only at hW); go_simp)
          (try simp only [Act.put, List.setIfInBounds_toArray, List.set_cons_zero, List.set_cons_succ])
          refine wpAnyH_take (i := 10) (v := .int .i64 (fr + B)) rfl (by kernel_rfl) (by kernel_rfl) (by kernel_rfl) (fun _ _ _ h => h) (Or.inl ⟨by rfl, ?_⟩) hHeld ?_
          · (intro W hW; (try dsimp only at hW); go_simp)
          (try simp only [Act.put, List.setIfInBounds_toArray, List.set_cons_zero, List.set_cons_succ])
          refine wpAnyH_ready (rs := [11]) (by kernel_rfl) (by simp) (AllReadyH.cons rfl (fun K hK => ?_) AllReadyH.nil)
          go_simp
          go_at_call 87
          refine (call _ (Below.refl _ _).drew).mono ?_
          rintro e w2 ⟨x, rfl, hb2, hx⟩
          (try dsimp only)
          refine hK.out _ _ ?_ (fun hNew => ?_)
          · exact cellsM6_below hb2 hHeld
          clear hK K hHeld
          have hHeld := hNew
          clear hNew
          (try simp only [Act.put, List.setIfInBounds_toArray, List.set_cons_zero, List.set_cons_succ])
          have hb1' := (Below.refl wr.heap.size wr).drew
          have hs2 := hb2.size
          simp at hs2
          obtain ⟨vs, hvl, hown2, hsub2⟩ := ((HM.out.row.below hb1').below hb2).own
          refine wpAnyH_ready (rs := [12]) (by kernel_rfl) (by simp) (AllReadyH.cons rfl (fun K hK => ?_) AllReadyH.nil)
          go_simp
          (try dsimp only)
          refine hK.out _ _ ?_ (fun hNew => ?_)
          · exact cellsM6_below ((Below.refl _ _).alloc (Nat.le_refl _) _) hHeld
          clear hK K hHeld
          have hHeld := hNew
          clear hNew
          (try simp only [Act.put, List.setIfInBounds_toArray, List.set_cons_zero, List.set_cons_succ])
          refine wpAnyH_ready (rs := [13]) (by kernel_rfl) (by simp) (AllReadyH.cons rfl (fun K hK => ?_) AllReadyH.nil)
          refine step_append_lies _ (by rfl) _ _ _ (by rfl) (w.heap.size + 1 + 1 + 1) 24 i0 _ 4 48 Try.underlying22 hi0 hz0 hz1 hz2 rfl (by omega) v _ _ (by rfl) (hown2.alloc _) ⟨w2.heap.size, 0, none⟩ 1 1 [.int .i64 (Tm.moved d (fr + B) (.mk (oo k) (hh k) (kk k) (ts k))).op, .int .i64 (Tm.moved d (fr + B) (.mk (oo k) (hh k) (kk k) (ts k))).hd, .int .i64 (Tm.moved d (fr + B) (.mk (oo k) (hh k) (kk k) (ts k))).n, x] (by rfl) (by rfl) (World.news_of_block (cs := #[.int .i64 (Tm.moved d (fr + B) (.mk (oo k) (hh k) (kk k) (ts k))).op, .int .i64 (Tm.moved d (fr + B) (.mk (oo k) (hh k) (kk k) (ts k))).hd, .int .i64 (Tm.moved d (fr + B) (.mk (oo k) (hh k) (kk k) (ts k))).n, x]) (t := 24) (fr := (0, 0)) (heap_alloc_new w2 _)) (by intro u hu; simp at hu; rcases hu with rfl | rfl | rfl | rfl <;> first | rfl | exact lies_one hx) (by omega) (by unfold maxLen; omega) (by omega) (by simp; omega) (w2.heap.size + 1) (by simp) ?_
          intro g cap3 w3 hown3 hgrow3 hat3 hlt3
          (try dsimp only)
          refine hK.out _ _ ?_ (fun hNew => ?_)
          · exact cellsM6_far hgrow3 hrow ⟨by simp; omega, by simp; omega, by simp; omega, by simp; omega, by simp; omega, by simp⟩ hHeld
          clear hK K hHeld
          have hHeld := hNew
          clear hNew
          (try simp only [Act.put, List.setIfInBounds_toArray, List.set_cons_zero, List.set_cons_succ])
          refine wpAnyH_take (i := 14) (v := .pointer (some ⟨w.heap.size + 1 + 1, 3, none⟩)) rfl (by kernel_rfl) (by kernel_rfl) (by kernel_rfl) (fun _ _ _ h => h) (Or.inl ⟨by rfl, ?_⟩) hHeld ?_
          · (intro W hW; (try dsimp only at hW); go_simp)
          (try simp only [Act.put, List.setIfInBounds_toArray, List.set_cons_zero, List.set_cons_succ])
          refine wpAnyH_done (by kernel_rfl) ?_ _
          refine lastQ_list (by rfl) ?_
          have fz : w3.frozen? ⟨w.heap.size + 1 + 1, 3, none⟩ = false := far_frozen hgrow3 (kept_cell ((Below.refl _ _).alloc (Nat.le_refl _) _) (kept_cell hb2 (kept_cell hb1' z0))) ((Below.frozen ((Below.refl _ _).alloc (Nat.le_refl _) _) (by show w.heap.size + 1 + 1 < w2.heap.size; omega)).trans (frozen_kept hb2 (kept_cell hb1' z0) (frozen_kept hb1' z0 f0))) hrow (by show w.heap.size + 1 + 1 < w.heap.size + 1 + 1 + 1; omega)
          obtain ⟨e0, e1', e2', e3', e4', e5⟩ := hHeld
          clear e0 e1' e2' e3' e4' d0 d1 d2 d3 b0 b3 z0 f0
          have HVL := Lib.hid hvl
          have HX := Lib.hid (And.intro hb2 (And.intro hx (And.intro hgrow3 hat3)))
          have HO3 := Lib.hid (And.intro hown3 hsub2)
          clear hvl hb2 hx hgrow3 hat3 hown3 hsub2 hown2 call hrow hb1'
          go_wp2
          go_roundw
          case rel =>
            refine ⟨k + 1, by omega, by go_num, .slice (some ⟨g, 0, none⟩) ((Tm.movedTo d fr o l k).length + 1) cap3, ?_⟩
            rw [Tm.movedTo_step d fr o l k (by rw [HR.out.length]; exact hlt), HR.out.get k hlt, ← HBE.out]
            exact Building.step HM.out (Below.refl wr.heap.size wr).drew HX.out.1 HX.out.2.1 (Tm.moved_fit d (fr + B) (oo k) (hh k) (kk k) (ts k) HNK.out hd0 hd1) HVL.out HO3.out.2 HO3.out.1 HX.out.2.2.1 HX.out.2.2.2
          case measure => simp [intOf]; omega
      · obtain rfl : k = len := by omega
        have HM := Lib.hid M
        have HR := Lib.hid R
        have HLn := Lib.hid (Tm.movedTo_all d fr o l k (by rw [R.length]; exact Nat.le_refl _))
        have y0 := cell_in M.res 0 (.int .i64 0) rfl
        have y1 := cell_in M.res 1 (.int .i64 0) rfl
        have y2 := cell_in M.res 2 (.int .i64 0) rfl
        have y3 := cell_in M.res 3 (.slice none 0 0) rfl
        have yf0 := free_in M.res 0
        have yf1 := free_in M.res 1
        have yf2 := free_in M.res 2
        have yf3 := free_in M.res 3
        have HV := Lib.hid M.row.lies
        obtain ⟨a3, n3, m3, rfl⟩ := M.row.lies.isSlice
        have g0 := cell_in M.out 0 (.int .i64 o) rfl
        have g1 := cell_in M.out 1 (.int .i64 h) rfl
        have g2 := cell_in M.out 2 (.int .i64 n') rfl
        have g3 := cell_in M.out 3 (.slice a3 n3 m3) rfl
        clear M R
        go_wp2
        have hz := set4_at HM.out.res (.int .i64 o) (.int .i64 h) (.int .i64 n') (.slice a3 n3 m3)
        have z0 := cell_in hz 0 (.int .i64 o) rfl
        have z1 := cell_in hz 1 (.int .i64 h) rfl
        have z2 := cell_in hz 2 (.int .i64 n') rfl
        have z3 := cell_in hz 3 (.slice a3 n3 m3) rfl
        have hoth : ∀ j, j ≠ w.heap.size + 1 → ((((wr.setCell ⟨w.heap.size + 1, 0, none⟩ (.int .i64 o)).setCell ⟨w.heap.size + 1, 1, none⟩ (.int .i64 h)).setCell ⟨w.heap.size + 1, 2, none⟩ (.int .i64 n')).setCell ⟨w.heap.size + 1, 3, none⟩ (.slice a3 n3 m3)).heap[j]? = wr.heap[j]? := fun j hj => heap_set4 _ _ _ _ hj hj hj hj
        refine bodyPost_ret (v := .agg #[.int .i64 o, .int .i64 h, .int .i64 n', .slice a3 n3 m3]) (by simp [results, Try.results87, go_sem, z0, z1, z2, z3]) rfl ⟨.slice a3 n3 m3, rfl, ?_, ?_⟩
        · exact (((HM.out.below.setCell (by simp) _).setCell (by simp) _).setCell (by simp) _).setCell (by simp) _
        · show Lies _ _ _ (Tm.movedL d fr o 0 l)
          rw [← HLn.out]
          exact (HV.out.still fun j hS _ => hoth j (by omega)).more fun j _ hS => by omega

theorem moved4_calls (d : Int) (hd0 : -9999 ≤ d) (hd1 : d ≤ 9999) : ∀ f : Nat, Moved4Ok f d
  | 0 => fun o h n fr v l w hf => by have := Tm.sz_pos (.mk o h n l); omega
  | f + 1 => moved4_walk f d hd0 hd1 (moved4_calls d hd0 hd1 f)
end Go.Proofs.Ytieakippgeehgaa.Sb
