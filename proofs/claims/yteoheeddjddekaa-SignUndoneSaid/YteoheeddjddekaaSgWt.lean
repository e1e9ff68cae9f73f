/- The contract of sign.Without. -/
import Derived.Test.YteoheeddjddekaaSgDl
namespace Go.Proofs.Yteoheeddjddekaa
open Go.RowKit Go.Shelf
set_option linter.unusedSimpArgs false
set_option linter.unusedVariables false

theorem heap_setCells' (g : Nat) : ∀ (vs : List Value) (o : Nat) (w : World) (k : Nat), k ≠ g → (w.setCells g o vs).heap[k]? = w.heap[k]?
  | [], _, _, _, _ => rfl
  | v :: r, o, w, k, h => by rw [World.setCells, heap_setCells' g r (o + 1) _ k h, Below.heap_setCell _ _ _ _ h]
theorem below_setCells {b0 g : Nat} {a : World} (hg : b0 ≤ g) : ∀ (vs : List Value) (o : Nat) (w : World), Below b0 a w → Below b0 a (w.setCells g o vs)
  | [], _, _, h => h
  | v :: r, o, w, h => below_setCells hg r (o + 1) _ (h.setCell hg v)
/-- the list without the constant i -/
def cutL (l : List Dc) (i : Nat) : List Dc := (List.range (l.length - 1)).map fun k => l.getD (if k < i then k else k + 1) ⟨⟨#[]⟩, Tm.zero, 0⟩
theorem cutL_length (l : List Dc) (i : Nat) : (cutL l i).length = l.length - 1 := by simp [cutL]
theorem cutL_get {l : List Dc} {i k : Nat} (hi : i < l.length) (hk : k < l.length - 1) : (cutL l i)[k]'(by rw [cutL_length]; exact hk) = l[if k < i then k else k + 1]'(by split <;> omega) := by
  simp only [cutL, List.getElem_map, List.getElem_range]
  rw [List.getD_eq_getElem?_getD, List.getElem?_eq_getElem (by split <;> omega)]; rfl

/-- what the deletion leaves behind -/
theorem cut_lies {w W : World} {base g cap i : Nat} {ms : List Dc} {vs : List Value} (hW : W = w ∨ W = w.drew) (hvl : ms.length = vs.length) (hi : i < ms.length) (hg : base ≤ g) (hcp : ms.length ≤ cap) (hcm : cap ≤ 9223372036854775807)
    (hc : ∀ j u, (dflat ms vs)[j]? = some u → w.cell? ⟨g, j, none⟩ = some u) (hsub : ∀ k (h : k < ms.length) (h' : k < vs.length), Lies w (fun b => base ≤ b ∧ b ≠ g) vs[k] ms[k].cl.args) (hf : ∀ d ∈ ms, d.fit) :
    DLies ((W.setCells g (i * 6) (behind (dflat ms vs) i ms.length)).setCells g ((ms.length - 1) * 6) zero6) (base ≤ ·) (.slice (some ⟨g, 0, none⟩) (ms.length - 1) cap) (cutL ms i) := by
  have hxl := dflat_length ms vs hvl
  have hWc : ∀ a, W.cell? a = w.cell? a := by rcases hW with rfl | rfl <;> intro a <;> rfl
  have hbl : (behind (dflat ms vs) i ms.length).length = (ms.length - (i + 1)) * 6 := by unfold behind; rw [List.length_take, List.length_drop, hxl]; omega
  have go : ∀ p u, p < (ms.length - 1) * 6 → (dflat ms vs)[if p < i * 6 then p else p + 6]? = some u → ((W.setCells g (i * 6) (behind (dflat ms vs) i ms.length)).setCells g ((ms.length - 1) * 6) zero6).cell? ⟨g, p, none⟩ = some u := by
    intro p u hp hu
    rw [World.cell?_setCells_out _ _ _ _ _ (fun _ _ => .inl hp)]
    by_cases h : p < i * 6
    · rw [if_pos h] at hu
      rw [World.cell?_setCells_out _ _ _ _ _ (fun _ _ => .inl h), hWc]
      exact hc _ _ hu
    · rw [if_neg h] at hu
      obtain ⟨t, rfl⟩ : ∃ t, p = i * 6 + t := ⟨p - i * 6, by omega⟩
      have ht : t < (behind (dflat ms vs) i ms.length).length := by rw [hbl]; omega
      rw [World.cell?_setCells_in _ _ _ _ (fun j hj => by
        rw [hbl] at hj
        rw [hWc, hc (i * 6 + j) _ (List.getElem?_eq_getElem (by omega))]; rfl) t ht]
      have e : (behind (dflat ms vs) i ms.length)[t]? = some u := by
        unfold behind
        rw [List.getElem?_take_of_lt (by rw [hbl] at ht; exact ht), List.getElem?_drop, show (i + 1) * 6 + t = i * 6 + t + 6 by omega]
        exact hu
      rw [List.getElem?_eq_getElem ht] at e
      exact e
  have hvs : ∀ k, k < ms.length - 1 → (if k < i then k else k + 1) < vs.length := fun k hk => by split <;> omega
  refine DLies.of (S := (base ≤ ·)) (g := g) (off := 0) (cutL ms i) ((List.range (ms.length - 1)).map fun k => vs.getD (if k < i then k else k + 1) (.slice none 0 0)) (by simp [cutL_length]) (cutL_length _ _) (fun _ => hg) (by omega) hcm (fun k hk hk' => ?_) (fun d hd => ?_) (fun k hk hk' => ?_)
  · have hk2 : k < ms.length - 1 := by rw [cutL_length] at hk; exact hk
    rw [cutL_get hi hk2]
    have ev : ((List.range (ms.length - 1)).map fun k => vs.getD (if k < i then k else k + 1) (.slice none 0 0))[k] = vs[if k < i then k else k + 1]'(hvs k hk2) := by
      simp only [List.getElem_map, List.getElem_range]
      rw [List.getD_eq_getElem?_getD, List.getElem?_eq_getElem (hvs k hk2)]; rfl
    rw [ev]
    have hd := dflat_get ms vs (if k < i then k else k + 1) (by split <;> omega) (hvs k hk2)
    have at' : ∀ r, r < 6 → (if k * 6 + r < i * 6 then k * 6 + r else k * 6 + r + 6) = (if k < i then k else k + 1) * 6 + r := fun r hr => by
      by_cases h : k < i
      · rw [if_pos h, if_pos (by omega)]
      · rw [if_neg h, if_neg (by omega)]; omega
    rw [Nat.zero_add]
    refine ⟨go _ _ (by omega) ?_, go _ _ (by omega) ?_, go _ _ (by omega) ?_, go _ _ (by omega) ?_, go _ _ (by omega) ?_, go _ _ (by omega) ?_⟩
    · have := at' 0 (by omega); simp only [Nat.add_zero] at this; rw [this]; exact hd.1
    · rw [at' 1 (by omega)]; exact hd.2.1
    · rw [at' 2 (by omega)]; exact hd.2.2.1
    · rw [at' 3 (by omega)]; exact hd.2.2.2.1
    · rw [at' 4 (by omega)]; exact hd.2.2.2.2.1
    · rw [at' 5 (by omega)]; exact hd.2.2.2.2.2
  · obtain ⟨k, hk, rfl⟩ := List.getElem_of_mem hd
    have hk2 : k < ms.length - 1 := by rw [cutL_length] at hk; exact hk
    rw [cutL_get hi hk2]
    exact hf _ (List.getElem_mem _)
  · have hk2 : k < ms.length - 1 := by rw [cutL_length] at hk; exact hk
    have ev : ((List.range (ms.length - 1)).map fun k => vs.getD (if k < i then k else k + 1) (.slice none 0 0))[k] = vs[if k < i then k else k + 1]'(hvs k hk2) := by
      simp only [List.getElem_map, List.getElem_range]
      rw [List.getD_eq_getElem?_getD, List.getElem?_eq_getElem (hvs k hk2)]; rfl
    rw [cutL_get hi hk2, ev]
    refine ((hsub _ (by split <;> omega) (hvs k hk2)).still fun b hS _ => ?_).more fun b _ hS => hS.1
    rw [heap_setCells' _ _ _ _ _ hS.2, heap_setCells' _ _ _ _ _ hS.2]
    rcases hW with rfl | rfl <;> rfl

/-- what Without returns -/
def woOut (l : List Dc) (n : Int) : List Dc × Int := if ckOut l n = 0 then (if usesB l n = true then ([], 27) else (cutL (l.map (Dc.num (dwn n))) n.toNat, 0)) else ([], ckOut l n)

theorem dflat_ones2 : ∀ (l : List Dc) (vs : List Value), (∀ v ∈ vs, ∃ a n m, v = .slice a n m) → ∀ u ∈ dflat l vs, u.oneCell' = true
  | [], _, _, u, hu => by simp [dflat] at hu
  | _ :: _, [], _, u, hu => by simp [dflat] at hu
  | d :: l, v :: vs, h, u, hu => by
    simp only [dflat, List.mem_cons] at hu
    rcases hu with rfl | rfl | rfl | rfl | rfl | rfl | hu
    · rfl
    · rfl
    · rfl
    · rfl
    · obtain ⟨a, n, m, rfl⟩ := h u (by simp); rfl
    · rfl
    · exact dflat_ones2 l vs (fun x hx => h x (by simp [hx])) u hu

set_option maxHeartbeats 4000000 in
set_option maxRecDepth 100000 in
theorem without_any (l : List Dc) (n : Int) (sv : Value) (w : World) (hl : DLies w (fun _ => True) sv l) : Calls Try.prog 21 #[sv, .int .i64 n] w (GivesSE w (woOut l n)) := by
  have hbx := one_below w (.cells #[.int .i64 n] 3)
  have hX := heap_alloc_new w (.cells #[.int .i64 n] 3)
  have cC := ck_any (fun _ => True) l n sv _ (hl.keep hbx)
  have x0 := cell_in hX 0 _ rfl
  by_cases hc : ckOut l n = 0
  · obtain ⟨hf, i, rfl, hi⟩ := ckOut_zero hc
    have hp := formed_proper hf
    have h100 := formed_len hf
    have HO : Hid (woOut l (i : Int) = if usesB l (i : Int) = true then ([], 27) else (cutL (l.map (Dc.num (dwn i))) i, 0)) := Lib.hid (by unfold woOut; rw [if_pos hc, Int.toNat_natCast])
    rw [hc] at cC
    have HX := Lib.hid hX
    have HB := Lib.hid hbx
    have cU := fun w1 (hb : Below w.heap.size w w1) hB => containsFunc_any (fun _ => True) l sv w.heap.size (i : Int) w1 (hl.keep hb) hp hB
    have cN := fun w1 (hb : Below w.heap.size w w1) hB => renum_any 49 #[.pointer (some ⟨w.heap.size, 0, none⟩)] (dwn i) l sv w1 (hl.keep hb) hp (by omega) (without_num w1 w.heap.size (i : Int) hB (by omega) (by omega))
    have hmf : ∀ (fn : Fn) (first cap : Array Value) (w : World), (Instr.makeFunc fn first cap).run Try.prog w = .ok (.func fn first cap) w := fun _ _ _ _ => rfl
    obtain ⟨a, m, rfl, hlen⟩ := hl.isSlice
    have HCU := Lib.hid cU
    have HCN := Lib.hid cN
    clear hl hc hf hp hbx cU cN hX
    go_enter Try.func21, Try.ntmps21
    go_wp2_with (first
      | (go_at_call 35; (with_reducible refine cC.mono ?_); rintro e w1 ⟨rfl, hb1⟩; have HB1 := Lib.hid (below_next HB.out hb1); have HX1 := Lib.hid (heap_kept hb1 HX.out); have x1 := cell_in HX1.out 0 _ rfl; clear hb1 x0)
      | fail)
    refine (HCU.out _ HB1.out HX1.out).mono ?_
    rintro e w2 ⟨rfl, hb2⟩
    have HB2 := Lib.hid (below_next HB1.out hb2)
    have HX2 := Lib.hid (heap_kept hb2 HX1.out)
    have x2 := cell_in HX2.out 0 _ rfl
    clear hb2 x1
    rcases hu : usesB l (i : Int) with _ | _
    · have HE : Hid (woOut l (i : Int) = (cutL (l.map (Dc.num (dwn i))) i, 0)) := Lib.hid (by rw [HO.out, hu]; rfl)
      clear HO hu
      go_wp2_with fail
      refine (HCN.out _ HB2.out HX2.out).mono ?_
      rintro e w3 ⟨v3, rfl, hb3, M⟩
      have HB3 := Lib.hid (below_next HB2.out hb3)
      have x3 := cell_in (heap_kept hb3 HX2.out) 0 _ rfl
      have hml : (l.map (Dc.num (dwn i))).length = l.length := List.length_map _
      generalize l.map (Dc.num (dwn i)) = ms at *
      have hfits := M.fit
      obtain ⟨vs, hvl, hown, hsub⟩ := M.own
      have hcl := @World.ownsRow.cells w3 w2.heap.size 40 6 v3 _ _ hown
      rcases hown.2 with ⟨rfl, h0⟩ | ⟨g, cap, cur, rfl, hg, hh', hle, hmx, _⟩
      · omega
      have hone : ∀ u ∈ dflat ms vs, u.oneCell' = true := dflat_ones2 _ _ (fun v hv => by
        obtain ⟨k, hk, rfl⟩ := List.getElem_of_mem hv
        exact (hsub k (by omega) hk).isSlice)
      have hxl := dflat_length ms vs hvl
      have hc3 : ∀ j u, (dflat ms vs)[j]? = some u → w3.cell? ⟨g, j, none⟩ = some u := fun j u hu => by
        have := hcl (g := g) (by simp [Value.ownBlock]) j u hu
        rw [Addr.add_lit, Nat.zero_add] at this
        exact this
      have hcm : cap ≤ 9223372036854775807 := by unfold maxLen at hmx; exact hmx
      have cD := delete_any g ms.length cap i (dflat ms vs) w3 (by omega) (by omega) hle hcm hxl hc3 (fun j _ => free_in hh' j) hone
      have hsub' : ∀ k (h : k < ms.length) (h' : k < vs.length), Lies w3 (fun b => w.heap.size ≤ b ∧ b ≠ g) vs[k] ms[k].cl.args := fun k h h' =>
        (hsub k h h').more fun b _ hS => ⟨Nat.le_trans HB2.out.size hS.1, fun e => hS.2 (by simp [Value.ownBlock, e])⟩
      have HG := Lib.hid (Nat.le_trans HB2.out.size hg)
      have HSUB := Lib.hid hsub'
      have HC3 := Lib.hid hc3
      have HVL := Lib.hid hvl
      have HFI := Lib.hid hfits
      have HML := Lib.hid hml
      rw [hml] at cD
      have hsum : IntKind.i64.wrap ((i : Int) + 1) = (i : Int) + 1 := IntWalk.i64_in _ (by omega)
      clear M hown hsub hcl hone hc3 hsub' hvl hfits hb3 hh' hmx
      rw [hml]
      clear hml
      go_wp2_with fail
      refine cD.mono ?_
      rintro e w4 ⟨rfl, W, hW, rfl⟩
      have HW := Lib.hid hW
      clear hW cD
      go_wp2_with fail
      go_ret2
      have hD := cut_lies (base := w.heap.size) HW.out HVL.out (by rw [HML.out]; exact hi) HG.out hle hcm HC3.out HSUB.out HFI.out
      have hBW : Below w.heap.size w W := by
        rcases HW.out with h | h
        · rw [h]; exact HB3.out
        · rw [h]; exact HB3.out.drew
      have hb4 := below_setCells HG.out zero6 ((ms.length - 1) * 6) _ (below_setCells HG.out (behind (dflat ms vs) i ms.length) (i * 6) _ hBW)
      rw [HML.out] at hD hb4
      rw [HE.out]
      exact ⟨_, rfl, hb4, hD⟩
    · have HE : Hid (woOut l (i : Int) = ([], 27)) := Lib.hid (by rw [HO.out, hu]; rfl)
      clear HO hu
      go_wp2_with fail
      go_ret2
      exact givesSE_nil HE.out HB2.out
  · have HE := Lib.hid (by unfold woOut; rw [if_neg hc] : woOut l n = ([], ckOut l n))
    have hc' : (ckOut l n == 0) = false := by simpa using hc
    obtain ⟨a, m, rfl, hlen⟩ := hl.isSlice
    have HB := Lib.hid hbx
    clear hl hX hbx
    generalize ckOut l n = z at *
    go_enter Try.func21, Try.ntmps21
    go_wp2_with (go_at_call 35; (with_reducible refine cC.mono ?_); rintro e w1 ⟨rfl, hb1⟩; have HB1 := Lib.hid (below_next HB.out hb1))
    go_ret2
    exact givesSE_nil HE.out HB1.out
end Go.Proofs.Yteoheeddjddekaa
