/- The contract of slices.Insert of one simple type at the head of a row of the call's own. -/
import Derived.Test.YtomahhdhnlfabaaSmIns
import Derived.Test.YtomahhdhnlfabaaSmSameT
import Derived.WalkKit
import Derived.WalkSpells
import Derived.Lib.Hide
import Derived.Outline
import Derived.Laws.CopyOwn
namespace Go.Proofs.Ytomahhdhnlfabaa.Sp
open Go.RowKit
set_option linter.unusedSimpArgs false
set_option linter.unusedVariables false

theorem il_underlying : Try.prog.underlying 25 = some (.slice 27) := by kernel_rfl
theorem il_int : Try.prog.underlying 3 = some (.int .i64) := by kernel_rfl
theorem il_size : (Try.prog.info? 27).map (·.size) = some 2 := by kernel_rfl

/-- the row behind both copies -/
theorem ins_row {α : Type} (L F : List α) (a b : α) (n cap : Nat) (hL : L.length = cap * 2) (hF : F.length = n * 2) (hc : n + 1 ≤ cap) (ht : L.take (n * 2) = F) :
    ∃ R1 R2 : List α, R1 = L.take 2 ++ F ++ L.drop (2 + F.length) ∧ R2 = R1.take 0 ++ [a, b] ++ R1.drop (0 + [a, b].length) ∧ R2.length = cap * 2 ∧ R2.take ((n + 1) * 2) = a :: b :: F := by
  refine ⟨_, _, rfl, rfl, ?_, ?_⟩
  · simp [hL, hF]; omega
  · have h2 : (L.take 2).length = 2 := by simp [hL]; omega
    simp only [List.take_zero, List.nil_append, List.length_cons, List.length_nil]
    rw [List.append_assoc, List.drop_append_of_le_length (by omega), List.drop_of_length_le (by omega), List.nil_append]
    rw [show (n + 1) * 2 = F.length + 1 + 1 by omega]
    simp
theorem ins_row_new {α : Type} (L F : List α) (a b : α) (n cap : Nat) (hL : L.length = cap * 2) (hF : F.length = n * 2) (hc : n + 1 ≤ cap) :
    ∃ R1 R2 : List α, R1 = L.take 0 ++ [a, b] ++ L.drop (0 + [a, b].length) ∧ R2 = R1.take 2 ++ F ++ R1.drop (2 + F.length) ∧ R2.length = cap * 2 ∧ R2.take ((n + 1) * 2) = a :: b :: F := by
  refine ⟨_, _, rfl, rfl, ?_, ?_⟩
  · simp [hL, hF]; omega
  · simp only [List.take_zero, List.nil_append, List.length_cons, List.length_nil, List.cons_append, List.take_succ_cons]
    rw [show (n + 1) * 2 = F.length + 1 + 1 by omega]
    simp

theorem setRow_grown {w : World} {g : Nat} (cs : Array Value) : w.grownBy (w.setRow g cs) (some g) :=
  ⟨rfl, rfl, rfl, by simp, fun k _ hk => setRow_other w g k cs (by simpa using hk)⟩

set_option maxHeartbeats 4000000 in
set_option maxRecDepth 100000 in
/-- there is room: in place -/
theorem insert_room (base : Nat) (g n cap : Nat) (ts : List Tm) (vs : List Value) (cur : Array Value) (x : Tm) (xv : Value) (vb : Nat) (w : World)
    (hl : ts.length = vs.length) (hn : ts.length = n) (h0 : 0 < n) (hroom : n + 1 ≤ cap) (hmx : cap ≤ 9223372036854775807) (hcur : w.heap[g]? = some (.cells cur 27 (0, 0))) (hsz : cur.size = cap * 2) (htk : cur.toList.take (n * 2) = flat ts vs)
    (hone : ∀ u ∈ flat ts vs, u.oneCell' = true) (hx1 : xv.oneCell' = true) (hvb : w.heap[vb]? = some (.cells #[xv, .int .i64 x.n] 27 (0, 0))) (hne : vb ≠ g) :
    Calls Try.prog 89 #[.slice (some ⟨g, 0, none⟩) n cap, .int .i64 0, .slice (some ⟨vb, 0, none⟩) 1 1] w fun e w' =>
      e = .returned (.slice (some ⟨g, 0, none⟩) (n + 1) cap) ∧ w.grownBy w' (some g) ∧ ∃ R : List Value, R.length = cap * 2 ∧ R.take ((n + 1) * 2) = xv :: .int .i64 x.n :: flat ts vs ∧ w'.heap[g]? = some (.cells R.toArray 27 (0, 0)) := by
  have hFl : (flat ts vs).length = n * 2 := by rw [flat_length _ _ hl, hn]
  obtain ⟨R1, R2, e1, e2, hR2, hT2⟩ := ins_row cur.toList (flat ts vs) xv (.int .i64 x.n) n cap (by simpa using hsz) hFl hroom htk
  have hF : ∀ j u, (flat ts vs)[j]? = some u → w.cell? ⟨g, 0 + j, none⟩ = some u := fun j u hu => by
    rw [Nat.zero_add]
    refine cell_in hcur j u ?_
    rw [← htk, List.getElem?_take] at hu
    split at hu
    · simpa using hu
    · cases hu
  have hcp1 : ∀ ty dc sc, (Builtin.copy_ #[25, 25] ty #[.slice (some ⟨g, 2, none⟩) n dc, .slice (some ⟨g, 0, none⟩) (n + 1) sc]).run Try.prog w.drew = .ok (goInt n) (w.drew.setRow g R1.toArray) := fun ty dc sc => by
    rw [e1]
    exact run_copy_row_n w.drew _ _ ty 27 2 g 2 n dc ⟨g, 0, none⟩ (n + 1) sc n cur 27 (flat ts vs) il_underlying il_size hcur (by simp only [Nat.min_def]; split <;> omega) hFl
      (fun j u hu => by rw [Addr.add_lit]; exact hF j u hu) (by rw [hFl, hsz]; omega) hone
  have hg1 := setRow_heap w.drew g cur R1.toArray 27 (0, 0) hcur
  have hvb1 : (w.drew.setRow g R1.toArray).heap[vb]? = some (.cells #[xv, .int .i64 x.n] 27 (0, 0)) := by rw [setRow_other _ _ _ _ hne]; exact hvb
  have hcp2 : ∀ ty dc, (Builtin.copy_ #[25, 25] ty #[.slice (some ⟨g, 0, none⟩) (n + 1) dc, .slice (some ⟨vb, 0, none⟩) 1 1]).run Try.prog (w.drew.setRow g R1.toArray) = .ok (goInt 1) ((w.drew.setRow g R1.toArray).setRow g R2.toArray) := fun ty dc => by
    rw [e2]
    refine run_copy_row_n _ _ _ ty 27 2 g 0 (n + 1) dc ⟨vb, 0, none⟩ 1 1 1 R1.toArray 27 [xv, .int .i64 x.n] il_underlying il_size hg1 (by simp only [Nat.min_def]; split <;> omega) rfl
      (fun j u hu => ?_) (by rw [e1]; simp [hFl, hsz]; omega) (by intro u hu; simp at hu; rcases hu with rfl | rfl; exact hx1; rfl)
    rw [Addr.add_lit, Nat.zero_add]
    exact cell_in hvb1 j u (by simpa using hu)
  have hg2 := setRow_heap (w.drew.setRow g R1.toArray) g R1.toArray R2.toArray 27 (0, 0) hg1
  have hgr : w.grownBy ((w.drew.setRow g R1.toArray).setRow g R2.toArray) (some g) := by rw [setRow_setRow]; exact ⟨rfl, rfl, rfl, by simp, fun k _ hk => setRow_other w.drew g k _ (by simpa using hk)⟩
  have HG := Lib.hid (And.intro hR2 (And.intro hT2 (And.intro hg2 hgr)))
  have hov : ∀ lb cb, (callFunc 105 #[.slice (some ⟨vb, 0, none⟩) 1 1, .slice (some ⟨g, 2, none⟩) lb cb]).run Try.prog w = .ok (.value (.bool false)) w := fun lb cb => by
    rw [run_callFunc_extern Try.func105 (by kernel_rfl) (by kernel_rfl) (by kernel_rfl) (e := Extern.SlicesOverlaps.overlaps #[25, 25] #[4]) (by kernel_rfl),
      Lib.run_overlaps_apart w 25 4 27 il_underlying 2 (fun _ => by kernel_rfl) ⟨vb, 0, none⟩ ⟨g, 2, none⟩ 1 1 lb cb hne 27 27 2 (cap * 2) (by simp [World.shape?, hvb]) (by simp [World.shape?, hcur, hsz]) (by omega) (free_in hvb 0) (free_in hvb 2)]
    rfl
  have hz1 : ¬ ((0 : Int) = (n : Int)) := by omega
  have hz2 : IntKind.i64.wrap ((n : Int) + 1) = (n : Int) + 1 := by rw [IntKind.wrap_i64]; omega
  have hz3 : ¬ ((cap : Int) < (n : Int) + 1) := by omega
  have hz4 : ((n : Int) + 1).toNat = n + 1 := by omega
  have hb2 : ¬ (cap = 1) := by omega
  have hb4 : ¬ (cap = 0) := by omega
  have hb5 : n + 1 ≤ cap := by omega
  have hw1 : IntKind.i64.wrap 1 = 1 := by decide
  have hw2 : (1 : Int) ≤ (n : Int) + 1 := by omega
  have hw3 : (1 : Int).toNat = 1 := rfl
  have hw4 : (0 : Int) ≤ (n : Int) + 1 := by omega
  clear hcur hsz htk hone hvb hne hF e1 e2 hR2 hT2 hg1 hvb1 hg2 hgr hFl hn hl
  go_enter Try.func89, Try.ntmps89
  go_wp2_with (simp only [hov])
  go_region_law (refine step_copy_runN rfl _ _ 25 25 rfl _ _ (by simp [Act.eval, Act.put]) (by simp [Act.eval, Act.put]) (hcp1 _ _ _) ?_)
  go_wp2_with (at_builtin; refine wpList_copy_runN _ rfl _ _ 25 25 rfl _ _ rfl rfl (hcp2 _ _) ?_)
  go_ret
  exact ⟨rfl, HG.out.2.2.2, R2, HG.out.1, HG.out.2.1, HG.out.2.2.1⟩

set_option maxHeartbeats 4000000 in
set_option maxRecDepth 100000 in
/-- there is none: a new row -/
theorem insert_grow (g n cap : Nat) (ts : List Tm) (vs : List Value) (cur : Array Value) (x : Tm) (xv : Value) (vb : Nat) (w : World)
    (hl : ts.length = vs.length) (hn : ts.length = n) (h0 : 0 < n) (hroom : n = cap) (hmx : n ≤ 1000000) (hcur : w.heap[g]? = some (.cells cur 27 (0, 0))) (htk : cur.toList.take (n * 2) = flat ts vs)
    (hone : ∀ u ∈ flat ts vs, u.oneCell' = true) (hx1 : xv.oneCell' = true) (hvb : w.heap[vb]? = some (.cells #[xv, .int .i64 x.n] 27 (0, 0))) (hne : vb ≠ g) :
    Calls Try.prog 89 #[.slice (some ⟨g, 0, none⟩) n cap, .int .i64 0, .slice (some ⟨vb, 0, none⟩) 1 1] w fun e w' =>
      ∃ G, e = .returned (.slice (some ⟨w.heap.size, 0, none⟩) (n + 1) G) ∧ Below w.heap.size w w' ∧ n + 1 ≤ G ∧ G ≤ maxLen ∧ ∃ R : List Value, R.length = G * 2 ∧ R.take ((n + 1) * 2) = xv :: .int .i64 x.n :: flat ts vs ∧ w'.heap[w.heap.size]? = some (.cells R.toArray 27 (0, 0)) := by
  subst hroom
  have hFl : (flat ts vs).length = n * 2 := by rw [flat_length _ _ hl, hn]
  obtain ⟨i0, hi, hz0, hz1, hz2⟩ := info_parts sm_info
  have hgw : g < w.heap.size := (Array.getElem?_eq_some_iff.1 hcur).1
  have hvw : vb < w.heap.size := (Array.getElem?_eq_some_iff.1 hvb).1
  obtain ⟨G, hG⟩ : ∃ G, G = grownCap w (n + 1) n 27 := ⟨_, rfl⟩
  have hGn : n + 1 ≤ G := by rw [hG]; exact grownCap_ge w _ _ _
  have hG63 : G ≤ maxLen := by rw [hG]; exact grownCap_le_maxLen w (n + 1) n 27 (by unfold maxLen; omega)
  obtain ⟨ROW, hROW⟩ : ∃ ROW : Array Value, ROW = ([] : List Value).toArray ++ Builtin.zeroCells (Value.agg #[.slice none 0 0, .int .i64 0]).cells (n + 1) ++ Builtin.zeroCells (Value.agg #[.slice none 0 0, .int .i64 0]).cells (G - (n + 1)) := ⟨_, rfl⟩
  have hRl : ROW.toList.length = G * 2 := by
    rw [hROW]
    simp [Builtin.zeroCells, Value.cells]
    omega
  have hold : (Builtin.firstCells i0.size 0 (.slice (some ⟨g, 0, none⟩) 0 n)).run Try.prog w.drew = .ok ([] : List Value).toArray w.drew := by
    have := run_loadCells_list (P := Try.prog) w.drew ⟨g, 0, none⟩ [] (by simp)
    simpa [Builtin.firstCells] using this
  have hrz : ∀ ty, (Builtin.append_ #[25, 3] ty #[.slice (some ⟨g, 0, none⟩) 0 n, .int .i64 ((n : Int) + 1)]).run Try.prog w =
      .ok (.slice (some ⟨w.heap.size, 0, none⟩) (n + 1) G) ((w.alloc (.cells ROW 27)).drew) := fun ty => by
    have h := Lib.run_append_grow_zeros w 25 3 ty 27 i0 _ .i64 .i64 il_underlying il_int hi hz0 (some ⟨g, 0, none⟩) 0 n [] hold (n + 1) (by omega) (by omega) (by omega) (by omega) (by rw [hz2]; omega) (by rw [hz2, Nat.zero_add]; exact growslice_fits (by omega) (by omega))
    simp only [Nat.zero_add] at h
    rw [← hG, ← hROW] at h
    exact h
  obtain ⟨R1, R2, e1, e2, hR2, hT2⟩ := ins_row_new ROW.toList (flat ts vs) xv (.int .i64 x.n) n G hRl hFl hGn
  obtain ⟨W1, hW1⟩ : ∃ W1, W1 = (w.alloc (.cells ROW 27)).drew := ⟨_, rfl⟩
  have hg0 : W1.heap[w.heap.size]? = some (.cells ROW 27 (0, 0)) := by rw [hW1]; exact heap_alloc_new w _
  have hW1b : Below w.heap.size w W1 := by rw [hW1]; exact ((Below.refl _ _).alloc (Nat.le_refl _) _).drew
  have hvb1 : W1.heap[vb]? = some (.cells #[xv, .int .i64 x.n] 27 (0, 0)) := (hW1b.block vb hvw).trans hvb
  have hcpA : ∀ ty dc, (Builtin.copy_ #[25, 25] ty #[.slice (some ⟨w.heap.size, 0, none⟩) (n + 1) dc, .slice (some ⟨vb, 0, none⟩) 1 1]).run Try.prog W1 = .ok (goInt 1) (W1.setRow w.heap.size R1.toArray) := fun ty dc => by
    rw [e1]
    refine run_copy_row_n _ _ _ ty 27 2 w.heap.size 0 (n + 1) dc ⟨vb, 0, none⟩ 1 1 1 ROW 27 [xv, .int .i64 x.n] il_underlying il_size hg0 (by simp only [Nat.min_def]; split <;> omega) rfl
      (fun j u hu => ?_) (by simp at hRl ⊢; omega) (by intro u hu; simp at hu; rcases hu with rfl | rfl; exact hx1; rfl)
    rw [Addr.add_lit, Nat.zero_add]
    exact cell_in hvb1 j u (by simpa using hu)
  have hg1 := setRow_heap W1 w.heap.size ROW R1.toArray 27 (0, 0) hg0
  have hcur1 : (W1.setRow w.heap.size R1.toArray).drew.heap[g]? = some (.cells cur 27 (0, 0)) := by
    show (W1.setRow w.heap.size R1.toArray).heap[g]? = _
    rw [setRow_other _ _ _ _ (by omega)]; exact (hW1b.block g hgw).trans hcur
  have hcpB : ∀ ty dc sc, (Builtin.copy_ #[25, 25] ty #[.slice (some ⟨w.heap.size, 2, none⟩) n dc, .slice (some ⟨g, 0, none⟩) n sc]).run Try.prog (W1.setRow w.heap.size R1.toArray).drew = .ok (goInt n) ((W1.setRow w.heap.size R1.toArray).drew.setRow w.heap.size R2.toArray) := fun ty dc sc => by
    rw [e2]
    refine run_copy_row_n _ _ _ ty 27 2 w.heap.size 2 n dc ⟨g, 0, none⟩ n sc n R1.toArray 27 (flat ts vs) il_underlying il_size hg1 (by simp only [Nat.min_def]; split <;> omega) hFl
      (fun j u hu => ?_) (by rw [e1]; simp at hRl ⊢; omega) hone
    rw [Addr.add_lit, Nat.zero_add]
    refine cell_in hcur1 j u ?_
    rw [← htk, List.getElem?_take] at hu
    split at hu
    · simpa using hu
    · cases hu
  have hg2 := setRow_heap (W1.setRow w.heap.size R1.toArray).drew w.heap.size R1.toArray R2.toArray 27 (0, 0) hg1
  have hbl : Below w.heap.size w ((W1.setRow w.heap.size R1.toArray).drew.setRow w.heap.size R2.toArray) := below_setRow ((below_setRow hW1b (Nat.le_refl _) _).drew) (Nat.le_refl _) _
  have HG := Lib.hid (And.intro hR2 (And.intro hT2 (And.intro hg2 (And.intro hbl (And.intro hGn hG63)))))
  have hz1 : ¬ ((0 : Int) = (n : Int)) := by omega
  have hz2' : IntKind.i64.wrap ((n : Int) + 1) = (n : Int) + 1 := by rw [IntKind.wrap_i64]; omega
  have hz3 : (n : Int) < (n : Int) + 1 := by omega
  have hGi : ¬ (G = 0) := by omega
  have hGim : ¬ (G = 1) := by omega
  have hci : ¬ (n = 0) := by omega
  have hw1 : IntKind.i64.wrap 1 = 1 := by decide
  have hw2 : (1 : Int) ≤ (n : Int) + 1 := by omega
  have hw3 : (1 : Int).toNat = 1 := rfl
  have hw4 : (0 : Int) ≤ (n : Int) + 1 := by omega
  subst hW1
  clear hcur htk hone hvb hne e1 e2 hR2 hT2 hg1 hvb1 hg2 hbl hFl hn hl hold hRl hROW hG hcur1 hg0 hW1b hi hz0 hz1 hz2 hGn hG63
  go_enter Try.func89, Try.ntmps89
  go_wp2_with (first
    | (at_builtin; refine wpList_append_runN _ rfl _ _ 25 3 rfl _ _ rfl rfl (hrz _) ?_)
    | (at_builtin; refine wpList_copy_runN _ rfl _ _ 25 25 rfl _ _ rfl rfl (hcpA _ _) ?_))
  go_region_law (refine step_copy_runN rfl _ _ 25 25 rfl _ _ (by simp [Act.eval, Act.put]) (by simp [Act.eval, Act.put]) (hcpB _ _ _) ?_)
  go_wp2
  go_ret
  exact ⟨G, rfl, HG.out.2.2.2.1, HG.out.2.2.2.2.1, HG.out.2.2.2.2.2, R2, HG.out.1, HG.out.2.1, HG.out.2.2.1⟩

/-- slices.Insert at the head of a row of the call's own that is not empty. -/
theorem insert_any (base : Nat) (S : Nat → Prop) (a : Option Addr) (n m : Nat) (ts : List Tm) (x : Tm) (xv : Value) (vb : Nat) (w : World) (H : Built w base S 27 (.slice a n m) ts) (h0 : ts ≠ []) (hn : n ≤ 1000000) (hb : base ≤ w.heap.size)
    (hx : Lies w (fun b => S b ∧ Value.ownBlock (.slice a n m) ≠ some b) xv x.args) (hf : x.fit) (hvb : w.heap[vb]? = some (.cells #[xv, .int .i64 x.n] 27 (0, 0))) (hne : Value.ownBlock (.slice a n m) ≠ some vb) :
    Calls Try.prog 89 #[.slice a n m, .int .i64 0, .slice (some ⟨vb, 0, none⟩) 1 1] w (GivesIns w base S 27 (.slice a n m) (x :: ts)) := by
  obtain ⟨⟨vs, hl, hown, hsub⟩, hfit⟩ := H
  obtain ⟨hlen, h | ⟨g, cap, cur, hv, hbg, hg, hle, hmx, hsz, htk⟩⟩ := hown
  · exact absurd (List.eq_nil_of_length_eq_zero h.2) h0
  · simp only [Value.slice.injEq] at hv
    obtain ⟨rfl, hnl, rfl⟩ := hv
    have hg0 : ∀ k, Value.ownBlock (.slice (some (⟨g, 0, none⟩ : Addr)) n m) = some k ↔ g = k := fun k => by simp [Value.ownBlock]
    have hvne : vb ≠ g := fun e => hne (by rw [hg0]; exact e.symm)
    have h1 : ∀ u ∈ flat ts vs, u.oneCell' = true := flat_one ts vs fun v hv => by
      obtain ⟨i, hi, rfl⟩ := List.mem_iff_getElem.1 hv
      obtain ⟨a, n, m, e⟩ := (hsub i (by omega) hi).isSlice
      rw [e]; rfl
    have hx1 : xv.oneCell' = true := by obtain ⟨a, n, m, e⟩ := hx.isSlice; rw [e]; rfl
    have hpos : 0 < n := by rw [hnl]; exact List.length_pos_iff.2 h0
    have hsub' : ∀ i (h : i < (x :: ts).length) (h' : i < (xv :: vs).length), Lies w (fun b => S b ∧ Value.ownBlock (.slice (some (⟨g, 0, none⟩ : Addr)) n m) ≠ some b) (xv :: vs)[i] (x :: ts)[i].args := by
      intro i h h'
      cases i with
      | zero => exact hx
      | succ i => exact hsub i (by simpa using h) (by simpa using h')
    have hfit' : ∀ t ∈ x :: ts, t.fit := fun t ht => by
      rcases List.mem_cons.1 ht with rfl | ht
      · exact hf
      · exact hfit t ht
    unfold maxLen at hmx
    have hfl : (flat ts vs).length = n * 2 := by rw [flat_length _ _ hl, hnl]
    by_cases hroom : n + 1 ≤ m
    · refine (insert_room base g n m ts vs cur x xv vb w hl hnl.symm hpos hroom hmx hg hsz (by rw [hnl]; exact htk) h1 hx1 hvb hvne).mono ?_
      rintro e w' ⟨rfl, hgr, R, hR1, hR2, hR3⟩
      refine ⟨_, rfl, ?_, hgr, .inl (by simp [Value.ownBlock])⟩
      refine Built.of (v := .slice (some ⟨g, 0, none⟩) n m) (by simp [hnl]) (by simp [hl]) hsub' hfit' ⟨by simp only [flat, List.length_cons, hfl]; omega, .inr ⟨g, m, _, rfl, hbg, hR3, hroom, by unfold maxLen; omega, by simpa using hR1, by simpa [flat] using hR2⟩⟩ (fun k hk hne => hgr.block k hk hne) (.inl (by simp [Value.ownBlock]))
    · obtain rfl : n = m := by omega
      refine (insert_grow g n n ts vs cur x xv vb w hl hnl.symm hpos rfl hn hg (by rw [hnl]; exact htk) h1 hx1 hvb hvne).mono ?_
      rintro e w' ⟨G, rfl, hbl, hG, hGx, R, hR1, hR2, hR3⟩
      refine ⟨_, rfl, ?_, ⟨hbl.os, hbl.tape, hbl.output, hbl.size, fun k hk _ => hbl.block k hk⟩, .inr ⟨w.heap.size, by simp [Value.ownBlock], Nat.le_refl _⟩⟩
      refine Built.of (v := .slice (some ⟨g, 0, none⟩) n n) (by simp [hnl]) (by simp [hl]) hsub' hfit' ⟨by simp only [flat, List.length_cons, hfl]; omega, .inr ⟨w.heap.size, G, _, rfl, hb, hR3, hG, hGx, by simpa using hR1, by simpa [flat] using hR2⟩⟩ (fun k hk hne => hbl.block k hk) (.inr (Nat.le_refl _))
end Go.Proofs.Ytomahhdhnlfabaa.Sp
