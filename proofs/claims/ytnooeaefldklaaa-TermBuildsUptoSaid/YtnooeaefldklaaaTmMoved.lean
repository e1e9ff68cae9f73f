/- The contracts of trussref03.below and moved. -/
import Derived.Test.YtnooeaefldklaaaProg
import Derived.Test.YtnooeaefldklaaaTmRenS
import Derived.Test.YtnooeaefldklaaaTmFormed
import Derived.Deep.RegionHeld3
import Derived.Deep.AppendLies
import Derived.Test.YtnooeaefldklaaaTmLast
import Derived.OwnWalk
import Derived.Laws.Pointers
import Derived.IntWalk
namespace Go.Proofs.Ytnooeaefldklaaa
open Go.RowKit
set_option linter.unusedSimpArgs false
set_option linter.unusedVariables false

set_option maxHeartbeats 400000 in
theorem below_any (o h n : Int) (v : Value) (i : Nat) (w : World) :
    Calls Try.prog 79 #[.agg #[.int .i64 o, .int .i64 h, .int .i64 n, v], .int .i64 i] w fun e w' => e = .returned (.int .i64 (Tm.belowN o i)) ∧ Below w.heap.size w w' := by
  by_cases h3 : o = 3
  · subst h3
    go_enter Try.func79, Try.ntmps79
    go_wp2
    go_ret
    exact ⟨rfl, one_below w _⟩
  · by_cases h2 : o = 2
    · subst h2
      by_cases hi : i = 1
      · subst hi
        go_enter Try.func79, Try.ntmps79
        go_wp2
        go_ret
        exact ⟨rfl, one_below w _⟩
      · have e : Tm.belowN 2 i = 0 := by simp [Tm.belowN, hi]
        have E := Lib.hid e
        have hi' : ((i : Int) == 1) = false := by rw [beq_eq_false_iff_ne]; omega
        clear e
        go_enter Try.func79, Try.ntmps79
        go_wp2
        go_ret
        exact ⟨ret_int (by rw [E.out]), one_below w _⟩
    · have e : Tm.belowN o i = 0 := by simp [Tm.belowN, h3, h2]
      have E := Lib.hid e
      clear e
      go_enter Try.func79, Try.ntmps79
      go_wp2
      go_ret
      exact ⟨ret_int (by rw [E.out]), one_below w _⟩

/-- A call gives a term in new memory. -/
def GivesT (w : World) (t : Tm) (e : Ending) (w' : World) : Prop :=
  ∃ v, e = .returned (.agg #[.int .i64 t.op, .int .i64 t.hd, .int .i64 t.n, v]) ∧ Below w.heap.size w w' ∧ Lies w' (w.heap.size ≤ ·) v t.args

section
variable {W W' : World} {p1 p2 p3 p4 p5 p6 p7 p8 p9 : Addr} {u1 u2 u3 u4 u5 u6 u7 u8 u9 : Value}
abbrev CellsP9 (W : World) (p1 p2 p3 p4 p5 p6 p7 p8 p9 : Addr) (u1 u2 u3 u4 u5 u6 u7 u8 u9 : Value) : Prop :=
  W.cell? p1 = some u1 ∧ W.cell? p2 = some u2 ∧ W.cell? p3 = some u3 ∧ W.cell? p4 = some u4 ∧ W.cell? p5 = some u5 ∧ W.cell? p6 = some u6 ∧ W.cell? p7 = some u7 ∧ W.cell? p8 = some u8 ∧ W.cell? p9 = some u9
theorem cellsP9_below (hb : Below W.heap.size W W') (x : CellsP9 W p1 p2 p3 p4 p5 p6 p7 p8 p9 u1 u2 u3 u4 u5 u6 u7 u8 u9) : CellsP9 W' p1 p2 p3 p4 p5 p6 p7 p8 p9 u1 u2 u3 u4 u5 u6 u7 u8 u9 := by
  obtain ⟨x1, x2, x3, x4, x5, x6, x7, x8, x9⟩ := x
  exact ⟨kept_cell hb x1, kept_cell hb x2, kept_cell hb x3, kept_cell hb x4, kept_cell hb x5, kept_cell hb x6, kept_cell hb x7, kept_cell hb x8, kept_cell hb x9⟩
theorem cellsP9_far {B : Nat} {row : Option Nat} (hg : W.grownBy W' row) (hr : ∀ k, row = some k → B ≤ k) (hp : ∀ p, (p = p1 ∨ p = p2 ∨ p = p3 ∨ p = p4 ∨ p = p5 ∨ p = p6 ∨ p = p7 ∨ p = p8 ∨ p = p9) → p.block < B)
    (x : CellsP9 W p1 p2 p3 p4 p5 p6 p7 p8 p9 u1 u2 u3 u4 u5 u6 u7 u8 u9) : CellsP9 W' p1 p2 p3 p4 p5 p6 p7 p8 p9 u1 u2 u3 u4 u5 u6 u7 u8 u9 := by
  obtain ⟨x1, x2, x3, x4, x5, x6, x7, x8, x9⟩ := x
  exact ⟨far_cell hg x1 hr (hp _ (by simp)), far_cell hg x2 hr (hp _ (by simp)), far_cell hg x3 hr (hp _ (by simp)), far_cell hg x4 hr (hp _ (by simp)), far_cell hg x5 hr (hp _ (by simp)), far_cell hg x6 hr (hp _ (by simp)), far_cell hg x7 hr (hp _ (by simp)), far_cell hg x8 hr (hp _ (by simp)), far_cell hg x9 hr (hp _ (by simp))⟩
end

theorem lies_one {w : World} {S : Nat → Prop} {v : Value} {l : List Tm} (h : Lies w S v l) : v.oneCell' = true := by
  obtain ⟨ao, b, off, len, cap, oo, hh, kk, sv, ts, rfl, R⟩ := h.open; rfl

set_option maxHeartbeats 4000000 in
set_option maxRecDepth 100000 in
theorem moved_walk (S : Nat → Prop) (f : Nat) (d : Int) (hd0 : -9999 ≤ d) (hd1 : d ≤ 9999) (ih : ∀ (o h n fr : Int) (v : Value) (l : List Tm) (w : World), Tm.sz (.mk o h n l) ≤ f → Tm.sz (.mk o h n l) ≤ 600 → Tm.nums (.mk o h n l) = true → 0 ≤ fr → fr + (Tm.sz (.mk o h n l) : Int) ≤ 20000 → Lies w S v l →
      Calls Try.prog 58 #[.agg #[.int .i64 o, .int .i64 h, .int .i64 n, v], .int .i64 d, .int .i64 fr] w (GivesT w (Tm.moved d fr (.mk o h n l))))
    (o h n fr : Int) (v : Value) (l : List Tm) (w : World) (hf : Tm.sz (.mk o h n l) ≤ f + 1) (hf6 : Tm.sz (.mk o h n l) ≤ 600) (hn : Tm.nums (.mk o h n l) = true) (h0 : 0 ≤ fr) (h1 : fr + (Tm.sz (.mk o h n l) : Int) ≤ 20000) (hv : Lies w S v l) :
    Calls Try.prog 58 #[.agg #[.int .i64 o, .int .i64 h, .int .i64 n, v], .int .i64 d, .int .i64 fr] w (GivesT w (Tm.moved d fr (.mk o h n l))) := by
  obtain ⟨ao, b, off, len, cap, oo, hh, kk, sv, ts, rfl, R⟩ := hv.open
  have hr := R.hr
  have hl := R.hl
  obtain ⟨n', hn', hmv, hways⟩ : ∃ n', (-9999 ≤ n' ∧ n' ≤ 20000) ∧ Tm.moved d fr (.mk o h n l) = .mk o h n' (Tm.movedL d fr o 0 l) ∧
      (((o == 4) = true ∧ (h == 1) = true ∧ fr ≤ n ∧ n' = n + d) ∨ ((o == 4) = true ∧ (h == 1) = true ∧ n < fr ∧ n' = n) ∨ ((o == 4) = true ∧ (h == 1) = false ∧ n' = n) ∨ ((o == 4) = false ∧ n' = n)) := Tm.moved_ways d fr o h n l hn hd0 hd1
  have hnb : 0 ≤ n ∧ n ≤ 9999 := Tm.nums_n hn
  rw [hmv]
  obtain ⟨i0, hi0, hz0, hz1, hz2⟩ := info_parts tm_info
  have HNP := Lib.hid hn'
  have HMV := Lib.hid hmv
  have HNN := Lib.hid hn
  clear hv hmv hn
  rcases hways with ⟨w1, w2, hle, hnn⟩ | ⟨w1, w2, hle, hnn⟩ | ⟨w1, w2, hnn⟩ | ⟨w1, hnn⟩
  all_goals
    have HE := Lib.hid hnn
    clear hnn
    go_enter Try.func58, Try.ntmps58
    go_wp2
    go_loopw [8] (fun i wr => ∃ k : Nat, k ≤ len ∧ i = .int .i64 k ∧ ∃ v, Building w wr 24 #[.int .i64 o, .int .i64 h, .int .i64 n, .slice ao len cap] #[.int .i64 0, .int .i64 0, .int .i64 0, .slice none 0 0] o h n' v (Tm.movedTo d fr o l k))
      (fun i _ => len - (intOf i).toNat)
    case atStart =>
      refine ⟨0, Nat.zero_le _, rfl, .slice none 0 0, ?_⟩
      rw [HE.out, Tm.movedTo_zero]
      exact Building.start _ _ _ rfl
    case round =>
      obtain ⟨k, hk, rfl, v, M⟩ := hrel
      by_cases hlt : k < len
      · obtain rfl := R.hao (by omega)
        obtain ⟨d0, d1, d2, d3, hsub⟩ := R.at M.below k hlt
        have b0 : wr.cell? ⟨w.heap.size, 0, none⟩ = some (.int .i64 o) := cell_in M.box 0 _ rfl
        have b1 : wr.cell? ⟨w.heap.size, 1, none⟩ = some (.int .i64 h) := cell_in M.box 1 _ rfl
        have b2 : wr.cell? ⟨w.heap.size, 2, none⟩ = some (.int .i64 n) := cell_in M.box 2 _ rfl
        have b3 : wr.cell? ⟨w.heap.size, 3, none⟩ = some (.slice (some ⟨b, off, none⟩) len cap) := cell_in M.box 3 _ rfl
        have z0 : wr.cell? ⟨w.heap.size + 1 + 1, 3, none⟩ = some v := cell_in M.out 3 _ rfl
        have f0 : wr.frozen? ⟨w.heap.size + 1 + 1, 3, none⟩ = false := free_in M.out 3
        have hbb : b < w.heap.size := World.block_lt_of_cell? w _ (R.c0 k hlt)
        have hs0 : w.heap.size + 1 + 1 + 1 ≤ wr.heap.size := by have := (Array.getElem?_eq_some_iff.1 M.out).1; omega
        have hk6 : (Tm.movedTo d fr o l k).length ≤ 600 := by rw [Tm.movedTo_length _ _ _ _ _ (by rw [R.length]; omega)]; have := Tm.length_le_szL l; simp only [Tm.sz] at hf6; rw [R.length] at this; omega
        have hrow := fun q (hq : v.ownBlock = some q) => (M.row.lt q hq).1
        have hbl := Tm.belowN_bd o k
        have hszk := R.size hf k hlt
        have hsz6 : Tm.sz (.mk (oo k) (hh k) (kk k) (ts k)) + 1 ≤ Tm.sz (.mk o h n l) := R.size_lt k hlt
        have hnk := Tm.numsL_mem (Tm.nums_l HNN.out) (R.mem k hlt)
        have hsum : IntKind.i64.wrap (fr + Tm.belowN o k) = fr + Tm.belowN o k := IntWalk.i64_in _ (by omega)
        have hk0 : (0 : Int) ≤ (k : Int) := by omega
        have hk1 : (k : Int) < (len : Int) := by omega
        have HNK := Lib.hid hnk
        have HR := Lib.hid R
        have HM := Lib.hid M
        clear hnk M R
        go_wp2_with fail
        refine wp_region_last_of (S := fun W => W.cell? ⟨w.heap.size, 0, none⟩ = some (.int .i64 o) ∧ W.cell? ⟨w.heap.size, 1, none⟩ = some (.int .i64 h) ∧ W.cell? ⟨w.heap.size, 2, none⟩ = some (.int .i64 n) ∧ W.cell? ⟨w.heap.size, 3, none⟩ = some (.slice (some ⟨b, off, none⟩) len cap) ∧
            W.cell? ⟨b, off + k * 4, none⟩ = some (.int .i64 (oo k)) ∧ W.cell? ⟨b, off + k * 4 + 1, none⟩ = some (.int .i64 (hh k)) ∧ W.cell? ⟨b, off + k * 4 + 2, none⟩ = some (.int .i64 (kk k)) ∧ W.cell? ⟨b, off + k * 4 + 3, none⟩ = some (sv k) ∧ W.cell? ⟨w.heap.size + 1 + 1, 3, none⟩ = some v)
          (by kernel_rfl) (by simp only [List.pop_toArray, List.dropLast_cons_cons, List.dropLast_singleton]; rfl) (by rfl) (by kernel_rfl) (by kernel_rfl) (by kernel_rfl) (by kernel_rfl) ⟨b0, b1, b2, b3, d0, d1, d2, d3, z0⟩ (fun hHeld => ?_)
        refine wpAnyH_take (i := 0) (v := .pointer (some ⟨w.heap.size + 1 + 1, 3, none⟩)) rfl (by kernel_rfl) (by kernel_rfl) (by kernel_rfl) (fun _ _ _ h => h) (Or.inl ⟨by rfl, ?_⟩) hHeld ?_
        · (intro W hW; (try dsimp only at hW); go_simp)
        (try simp only [Act.put, List.setIfInBounds_toArray, List.set_cons_zero, List.set_cons_succ])
        refine wpAnyH_take (i := 1) (v := v) rfl (by kernel_rfl) (by kernel_rfl) (by kernel_rfl) (fun _ _ _ h => h) (Or.inl ⟨by rfl, ?_⟩) hHeld ?_
        · (intro W hW; (try dsimp only at hW); go_simp)
        (try simp only [Act.put, List.setIfInBounds_toArray, List.set_cons_zero, List.set_cons_succ])
        refine wpAnyH_take (i := 2) (v := .pointer (some ⟨w.heap.size, 3, none⟩)) rfl (by kernel_rfl) (by kernel_rfl) (by kernel_rfl) (fun _ _ _ h => h) (Or.inl ⟨by rfl, ?_⟩) hHeld ?_
        · (intro W hW; (try dsimp only at hW); go_simp)
        (try simp only [Act.put, List.setIfInBounds_toArray, List.set_cons_zero, List.set_cons_succ])
        refine wpAnyH_take (i := 3) (v := .slice (some ⟨b, off, none⟩) len cap) rfl (by kernel_rfl) (by kernel_rfl) (by kernel_rfl) (fun _ _ _ h => h) (Or.inl ⟨by rfl, ?_⟩) hHeld ?_
        · (intro W hW; (try dsimp only at hW); go_simp)
        (try simp only [Act.put, List.setIfInBounds_toArray, List.set_cons_zero, List.set_cons_succ])
        refine wpAnyH_take (i := 4) (v := .int .i64 k) rfl (by kernel_rfl) (by kernel_rfl) (by kernel_rfl) (fun _ _ _ h => h) (Or.inl ⟨by rfl, ?_⟩) hHeld ?_
        · (intro W hW; (try dsimp only at hW); go_simp)
        (try simp only [Act.put, List.setIfInBounds_toArray, List.set_cons_zero, List.set_cons_succ])
        refine wpAnyH_take (i := 5) (v := .pointer (some ⟨b, off + k * 4, none⟩)) rfl (by kernel_rfl) (by kernel_rfl) (by kernel_rfl) (fun _ _ _ h => h) (Or.inl ⟨by rfl, ?_⟩) hHeld ?_
        · (intro W hW; (try dsimp only at hW); go_simp)
        (try simp only [Act.put, List.setIfInBounds_toArray, List.set_cons_zero, List.set_cons_succ])
        refine wpAnyH_take (i := 6) (v := .agg #[.int .i64 (oo k), .int .i64 (hh k), .int .i64 (kk k), sv k]) rfl (by kernel_rfl) (by kernel_rfl) (by kernel_rfl) (fun _ _ _ h => h) (Or.inl ⟨by rfl, ?_⟩) hHeld ?_
        · (intro W hW; (try dsimp only at hW); go_simp)
        (try simp only [Act.put, List.setIfInBounds_toArray, List.set_cons_zero, List.set_cons_succ])
        refine wpAnyH_take (i := 7) (v := .int .i64 d) rfl (by kernel_rfl) (by kernel_rfl) (by kernel_rfl) (fun _ _ _ h => h) (Or.inl ⟨by rfl, ?_⟩) hHeld ?_
        · (intro W hW; (try dsimp only at hW); go_simp)
        (try simp only [Act.put, List.setIfInBounds_toArray, List.set_cons_zero, List.set_cons_succ])
        refine wpAnyH_take (i := 8) (v := .int .i64 fr) rfl (by kernel_rfl) (by kernel_rfl) (by kernel_rfl) (fun _ _ _ h => h) (Or.inl ⟨by rfl, ?_⟩) hHeld ?_
        · (intro W hW; (try dsimp only at hW); go_simp)
        (try simp only [Act.put, List.setIfInBounds_toArray, List.set_cons_zero, List.set_cons_succ])
        refine wpAnyH_take (i := 9) (v := .agg #[.int .i64 o, .int .i64 h, .int .i64 n, .slice (some ⟨b, off, none⟩) len cap]) rfl (by kernel_rfl) (by kernel_rfl) (by kernel_rfl) (fun _ _ _ h => h) (Or.inl ⟨by rfl, ?_⟩) hHeld ?_
        · (intro W hW; (try dsimp only at hW); go_simp)
        (try simp only [Act.put, List.setIfInBounds_toArray, List.set_cons_zero, List.set_cons_succ])
        refine wpAnyH_take (i := 10) (v := .int .i64 k) rfl (by kernel_rfl) (by kernel_rfl) (by kernel_rfl) (fun _ _ _ h => h) (Or.inl ⟨by rfl, ?_⟩) hHeld ?_
        · (intro W hW; (try dsimp only at hW); go_simp)
        (try simp only [Act.put, List.setIfInBounds_toArray, List.set_cons_zero, List.set_cons_succ])
        refine wpAnyH_ready (rs := [11]) (by kernel_rfl) (by simp) (AllReadyH.cons rfl (fun K hK => ?_) AllReadyH.nil)
        go_simp
        go_at_call 79
        refine (below_any o h n _ k _).mono ?_
        rintro e w1 ⟨rfl, hb1⟩
        (try dsimp only)
        refine hK.out _ _ ?_ (fun hNew => ?_)
        · exact cellsP9_below hb1 hHeld
        clear hK K hHeld
        have hHeld := hNew
        clear hNew
        (try simp only [Act.put, List.setIfInBounds_toArray, List.set_cons_zero, List.set_cons_succ])
        have hb1' := (Below.refl _ _).drew.trans hb1
        have hs1 : wr.heap.size ≤ w1.heap.size := hb1'.size
        refine wpAnyH_take (i := 12) (v := .int .i64 (fr + Tm.belowN o k)) rfl (by kernel_rfl) (by kernel_rfl) (by kernel_rfl) (fun _ _ _ h => h) (Or.inl ⟨by rfl, ?_⟩) hHeld ?_
        · (intro W hW; (try dsimp only at hW); go_simp)
        (try simp only [Act.put, List.setIfInBounds_toArray, List.set_cons_zero, List.set_cons_succ])
        refine wpAnyH_ready (rs := [13]) (by kernel_rfl) (by simp) (AllReadyH.cons rfl (fun K hK => ?_) AllReadyH.nil)
        go_simp
        go_at_call 58
        refine (ih (oo k) (hh k) (kk k) (fr + Tm.belowN o k) (sv k) (ts k) w1 hszk (by omega) HNK.out (by omega) (by omega) (hsub.keep hb1')).mono ?_
        rintro e w2 ⟨x, rfl, hb2, hx⟩
        (try dsimp only)
        refine hK.out _ _ ?_ (fun hNew => ?_)
        · exact cellsP9_below hb2 hHeld
        clear hK K hHeld
        have hHeld := hNew
        clear hNew
        (try simp only [Act.put, List.setIfInBounds_toArray, List.set_cons_zero, List.set_cons_succ])
        have hs2 : w1.heap.size ≤ w2.heap.size := hb2.size
        obtain ⟨vs, hvl, hown2, hsub2⟩ := ((HM.out.row.below hb1').below hb2).own
        refine wpAnyH_ready (rs := [14]) (by kernel_rfl) (by simp) (AllReadyH.cons rfl (fun K hK => ?_) AllReadyH.nil)
        go_simp
        (try dsimp only)
        refine hK.out _ _ ?_ (fun hNew => ?_)
        · exact cellsP9_below ((Below.refl _ _).alloc (Nat.le_refl _) _) hHeld
        clear hK K hHeld
        have hHeld := hNew
        clear hNew
        (try simp only [Act.put, List.setIfInBounds_toArray, List.set_cons_zero, List.set_cons_succ])
        refine wpAnyH_ready (rs := [15]) (by kernel_rfl) (by simp) (AllReadyH.cons rfl (fun K hK => ?_) AllReadyH.nil)
        refine step_append_lies _ (by rfl) _ _ _ (by rfl) (w.heap.size + 1 + 1 + 1) 24 i0 _ 4 48 Try.underlying22 hi0 hz0 hz1 hz2 rfl (by omega) v _ _ (by rfl) (hown2.alloc _) ⟨w2.heap.size, 0, none⟩ 1 1 [.int .i64 (Tm.moved d (fr + Tm.belowN o k) (.mk (oo k) (hh k) (kk k) (ts k))).op, .int .i64 (Tm.moved d (fr + Tm.belowN o k) (.mk (oo k) (hh k) (kk k) (ts k))).hd, .int .i64 (Tm.moved d (fr + Tm.belowN o k) (.mk (oo k) (hh k) (kk k) (ts k))).n, x] (by rfl) (by rfl) (World.news_of_block (cs := #[.int .i64 (Tm.moved d (fr + Tm.belowN o k) (.mk (oo k) (hh k) (kk k) (ts k))).op, .int .i64 (Tm.moved d (fr + Tm.belowN o k) (.mk (oo k) (hh k) (kk k) (ts k))).hd, .int .i64 (Tm.moved d (fr + Tm.belowN o k) (.mk (oo k) (hh k) (kk k) (ts k))).n, x]) (t := 24) (fr := (0, 0)) (heap_alloc_new w2 _)) (by intro u hu; simp at hu; rcases hu with rfl | rfl | rfl | rfl <;> first | rfl | exact lies_one hx) (by omega) (by unfold maxLen; omega) (by omega) (by simp; omega) (w2.heap.size + 1) (by simp) ?_
        intro g cap3 w3 hown3 hgrow3 hat3 hlt3
        (try dsimp only)
        refine hK.out _ _ ?_ (fun hNew => ?_)
        · exact cellsP9_far hgrow3 hrow (by rintro p (rfl | rfl | rfl | rfl | rfl | rfl | rfl | rfl | rfl) <;> simp <;> omega) hHeld
        clear hK K hHeld
        have hHeld := hNew
        clear hNew
        (try simp only [Act.put, List.setIfInBounds_toArray, List.set_cons_zero, List.set_cons_succ])
        refine wpAnyH_take (i := 16) (v := .pointer (some ⟨w.heap.size + 1 + 1, 3, none⟩)) rfl (by kernel_rfl) (by kernel_rfl) (by kernel_rfl) (fun _ _ _ h => h) (Or.inl ⟨by rfl, ?_⟩) hHeld ?_
        · (intro W hW; (try dsimp only at hW); go_simp)
        (try simp only [Act.put, List.setIfInBounds_toArray, List.set_cons_zero, List.set_cons_succ])
        refine wpAnyH_done (by kernel_rfl) ?_ _
        refine lastQ_list (by rfl) ?_
        have fz : w3.frozen? ⟨w.heap.size + 1 + 1, 3, none⟩ = false := far_frozen hgrow3 (kept_cell ((Below.refl _ _).alloc (Nat.le_refl _) _) (kept_cell hb2 (kept_cell hb1' z0))) ((Below.frozen ((Below.refl _ _).alloc (Nat.le_refl _) _) (by show w.heap.size + 1 + 1 < w2.heap.size; omega)).trans (frozen_kept hb2 (kept_cell hb1' z0) (frozen_kept hb1' z0 f0))) hrow (by show w.heap.size + 1 + 1 < w.heap.size + 1 + 1 + 1; omega)
        obtain ⟨e0, e1, e2, e3, e4, e5, e6, e7, e8⟩ := hHeld
        clear e4 e5 e6 e7
        have HVL := Lib.hid hvl
        clear hvl
        go_wp2
        go_roundw
        case rel =>
          refine ⟨k + 1, by omega, by go_num, .slice (some ⟨g, 0, none⟩) ((Tm.movedTo d fr o l k).length + 1) cap3, ?_⟩
          rw [Tm.movedTo_step d fr o l k (by rw [HR.out.length]; exact hlt), HR.out.get k hlt]
          exact Building.step HM.out hb1' hb2 hx (Tm.moved_fit d (fr + Tm.belowN o k) (oo k) (hh k) (kk k) (ts k) HNK.out hd0 hd1) HVL.out hsub2 hown3 hgrow3 hat3
        case measure => simp [intOf]; omega
      · obtain rfl : k = len := by omega
        have HM := Lib.hid M
        have HR := Lib.hid R
        have HLn := Lib.hid (Tm.movedTo_all d fr o l k (by rw [R.length]; exact Nat.le_refl _))
        have b3 : wr.cell? ⟨w.heap.size, 3, none⟩ = some (.slice ao k cap) := cell_in M.box 3 _ rfl
        have y0 := cell_in M.res 0 (.int .i64 0) rfl
        have y1 := cell_in M.res 1 (.int .i64 0) rfl
        have y2 := cell_in M.res 2 (.int .i64 0) rfl
        have y3 := cell_in M.res 3 (.slice none 0 0) rfl
        have yf0 := free_in M.res 0
        have yf1 := free_in M.res 1
        have yf2 := free_in M.res 2
        have yf3 := free_in M.res 3
        have HV := Lib.hid M.row.lies
        obtain ⟨a3, n3, m3, rfl⟩ := M.row.lies.isSlice
        have g0 := cell_in M.out 0 (.int .i64 o) rfl
        have g1 := cell_in M.out 1 (.int .i64 h) rfl
        have g2 := cell_in M.out 2 (.int .i64 n') rfl
        have g3 := cell_in M.out 3 (.slice a3 n3 m3) rfl
        clear M R
        go_wp2
        have hz := set4_at HM.out.res (.int .i64 o) (.int .i64 h) (.int .i64 n') (.slice a3 n3 m3)
        have z0 := cell_in hz 0 (.int .i64 o) rfl
        have z1 := cell_in hz 1 (.int .i64 h) rfl
        have z2 := cell_in hz 2 (.int .i64 n') rfl
        have z3 := cell_in hz 3 (.slice a3 n3 m3) rfl
        have hoth : ∀ j, j ≠ w.heap.size + 1 → ((((wr.setCell ⟨w.heap.size + 1, 0, none⟩ (.int .i64 o)).setCell ⟨w.heap.size + 1, 1, none⟩ (.int .i64 h)).setCell ⟨w.heap.size + 1, 2, none⟩ (.int .i64 n')).setCell ⟨w.heap.size + 1, 3, none⟩ (.slice a3 n3 m3)).heap[j]? = wr.heap[j]? := fun j hj => heap_set4 _ _ _ _ hj hj hj hj
        refine bodyPost_ret (v := .agg #[.int .i64 o, .int .i64 h, .int .i64 n', .slice a3 n3 m3]) (by simp [results, Try.results58, go_sem, z0, z1, z2, z3]) rfl ⟨.slice a3 n3 m3, rfl, ?_, ?_⟩
        · exact (((HM.out.below.setCell (by simp) _).setCell (by simp) _).setCell (by simp) _).setCell (by simp) _
        · show Lies _ _ _ (Tm.movedL d fr o 0 l)
          rw [← HLn.out]
          exact (HV.out.still fun j hS _ => hoth j (by omega)).more fun j _ hS => by omega

theorem moved_calls (S : Nat → Prop) (d : Int) (hd0 : -9999 ≤ d) (hd1 : d ≤ 9999) : ∀ (f : Nat) (o h n fr : Int) (v : Value) (l : List Tm) (w : World), Tm.sz (.mk o h n l) ≤ f → Tm.sz (.mk o h n l) ≤ 600 → Tm.nums (.mk o h n l) = true → 0 ≤ fr → fr + (Tm.sz (.mk o h n l) : Int) ≤ 20000 → Lies w S v l →
      Calls Try.prog 58 #[.agg #[.int .i64 o, .int .i64 h, .int .i64 n, v], .int .i64 d, .int .i64 fr] w (GivesT w (Tm.moved d fr (.mk o h n l)))
  | 0, o, h, n, _, _, l, _, hf, _, _, _, _, _ => by have := Tm.sz_pos (.mk o h n l); omega
  | f + 1, o, h, n, fr, v, l, w, hf, h6, hn, h0, h1, hv => moved_walk S f d hd0 hd1 (moved_calls S d hd0 hd1 f) o h n fr v l w hf h6 hn h0 h1 hv

end Go.Proofs.Ytnooeaefldklaaa
