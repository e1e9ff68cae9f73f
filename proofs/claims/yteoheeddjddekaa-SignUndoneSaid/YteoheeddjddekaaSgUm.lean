/- Adding undone, renaming undone: the mathematics. -/
import Derived.Test.YteoheeddjddekaaSgWt
import Derived.Test.YteoheeddjddekaaSgRn
import Derived.Test.YteoheeddjddekaaSgMb
import Derived.Test.YteoheeddjddekaaSgMp
namespace Go.Proofs.Yteoheeddjddekaa
open Go.RowKit
set_option linter.unusedSimpArgs false
set_option linter.unusedVariables false
namespace Tm
mutual
theorem num_fix (g : Int → Int) : ∀ (t : Tm) (d : Nat) (b : Int), formed t d = true → (∀ x ∈ hds (rsel 2) b t, g x = x) → num g t = t
  | .mk o h n l, d, b, hf, hg => by
    simp only [formed, Bool.and_eq_true] at hf
    simp only [hds] at hg
    obtain ⟨hg1, hg2⟩ := mem_app hg
    simp only [num, numL_fix g l (d + 1) b o 0 hf.2 hg2]
    by_cases h2 : h = 2
    · subst h2
      have := headOk_yes o 2 n l.length hf.1.2
      have ho : o = 4 := by omega
      subst ho
      have hn : g n = n := hg1 n (by simp [rsel])
      simp [hn]
    · simp [h2]
theorem numL_fix (g : Int → Int) : ∀ (l : List Tm) (d : Nat) (b o : Int) (i : Nat), formedL l d = true → (∀ x ∈ hdsL (rsel 2) b o i l, g x = x) → numL g l = l
  | [], _, _, _, _, _, _ => rfl
  | t :: l, d, b, o, i, hf, hg => by
    simp only [formedL, Bool.and_eq_true] at hf
    simp only [hdsL] at hg
    obtain ⟨hg1, hg2⟩ := mem_app hg
    simp only [numL, num_fix g t d _ hf.1 hg1, numL_fix g l d b o (i + 1) hf.2 hg2]
end
end Tm

theorem add_ok {l : List Dc} {d : Dc} (hf : Sg.formed l = true) (h : (addOut l d).2 = 0) : addOut l d = (l ++ [d], 0) ∧ Sg.next l d = true ∧ ¬ d.nm ∈ l.map Dc.nm ∧ l.length < 100 := by
  have h100 := formed_len hf
  unfold addOut at h ⊢
  rw [if_neg (by rw [hf]; simp)] at h ⊢
  by_cases h1 : l.any (fun x => decide (x.nm = d.nm)) = true
  · rw [if_pos h1] at h; simp at h
  rw [if_neg h1] at h ⊢
  by_cases h2 : l.length = 100
  · rw [if_pos h2] at h; simp at h
  rw [if_neg h2] at h ⊢
  by_cases h3 : Sg.next l d = false
  · rw [if_pos h3] at h; simp at h
  rw [if_neg h3]
  exact ⟨rfl, by simpa using h3, fun e => h1 (any_nm.2 e), by omega⟩
theorem nextTo_app (l : List Dc) (d : Dc) : Sg.nextTo (l ++ [d]) l.length = Sg.nextTo l l.length := by
  unfold Sg.nextTo
  rw [Bool.eq_iff_iff, List.all_eq_true, List.all_eq_true]
  constructor
  all_goals
    intro h i hi
    have hil := List.mem_range.1 hi
    have := h i hi
    rw [List.getElem?_append_left hil, List.take_append_of_le_length (by omega)] at *
    exact this
theorem added_formed {l : List Dc} {d : Dc} (hf : Sg.formed l = true) (hn : Sg.next l d = true) (hm : ¬ d.nm ∈ l.map Dc.nm) (hl : l.length < 100) : Sg.formed (l ++ [d]) = true := by
  have hnd := formed_nodup hf
  unfold Sg.formed at hf ⊢
  simp only [Bool.and_eq_true, decide_eq_true_eq] at hf ⊢
  refine ⟨⟨by simp; omega, ?_⟩, ?_⟩
  · rw [List.length_append, List.length_singleton, Sg.nextTo_step (l ++ [d]) l.length (by simp), nextTo_app, hf.1.2, List.take_left]
    simp [hn]
  · unfold Sg.once
    simp only [decide_eq_true_eq, List.map_append, List.map_cons, List.map_nil]
    rw [List.nodup_append]
    refine ⟨hnd, by simp, ?_⟩
    intro a ha b hb
    simp at hb
    subst hb
    intro e
    subst e
    exact hm ha
theorem without_added {l : List Dc} {d : Dc} (hf : Sg.formed (l ++ [d]) = true) : woOut (l ++ [d]) (l.length : Int) = (l, 0) := by
  obtain ⟨_, hnx, _⟩ := formed_iff.1 hf
  have hck : ckOut (l ++ [d]) (l.length : Int) = 0 := ckOut_in hf (by simp; omega)
  have hu : usesB (l ++ [d]) (l.length : Int) = false := usesB_no fun k hk h => by
    have := (hnx k hk).cs _ (mem_consL.1 h)
    simp at hk
    omega
  unfold woOut
  rw [if_pos hck, if_neg (by rw [hu]; simp), Int.toNat_natCast]
  congr 1
  apply List.ext_getElem
  · rw [cutL_length]; simp
  · intro k h1 h2
    have hk' : k < (l ++ [d]).length := by simp; omega
    rw [cutL_get (by simp) (by simp; omega)]
    simp only [if_pos h2, List.getElem_map]
    have e : (l ++ [d])[k] = l[k] := List.getElem_append_left h2
    have hx := hnx k hk'
    rw [e] at hx ⊢
    have hfix := Tm.num_fix (dwn (l.length : Int)) l[k].cl 1 0 (Tm.proper_formed' hx.pr).2 (fun x hx' => by
      have := hx.cs x hx'
      unfold dwn; rw [if_neg (by omega)])
    unfold Dc.num
    rw [hfix]

theorem clAt_ren (l : List Dc) (i : Nat) (s : ByteArray) (k : Nat) : clAt (renL l i s) k = clAt l k := by
  by_cases hk : k < l.length
  · rw [clAt_get (by rw [renL_length]; exact hk), clAt_get hk, renL_get hk]
    split <;> rfl
  · unfold clAt
    rw [List.getD_eq_getElem?_getD, List.getD_eq_getElem?_getD, List.getElem?_eq_none (by simp [renL_length]; omega), List.getElem?_eq_none (by simp; omega)]
theorem ren_ok {l : List Dc} {i : Nat} {s : ByteArray} (hf : Sg.formed l = true) (hi : i < l.length) :
    (renOut l (i : Int) s = (renL l i s, 0) ∧ Sg.nameOk s = true ∧ (s = l[i].nm ∨ ¬ s ∈ l.map Dc.nm)) ∨ renOut l (i : Int) s = ([], 21) ∨ renOut l (i : Int) s = ([], 2) := by
  have hck : ckOut l (i : Int) = 0 := ckOut_in hf (by omega)
  have e1 : (l.getD i ⟨⟨#[]⟩, Tm.zero, 0⟩).nm = l[i].nm := by rw [List.getD_eq_getElem?_getD, List.getElem?_eq_getElem hi]; rfl
  unfold renOut
  rw [if_pos hck, Int.toNat_natCast]
  by_cases h1 : twiceB l i s = true
  · rw [if_pos h1]; exact .inr (.inl rfl)
  rw [if_neg h1]
  by_cases h2 : Sg.nameOk s = false
  · rw [if_pos h2]; exact .inr (.inr rfl)
  rw [if_neg h2]
  refine .inl ⟨rfl, by simpa using h2, ?_⟩
  unfold twiceB at h1
  rw [e1] at h1
  by_cases h3 : s = l[i].nm
  · exact .inl h3
  · rw [decide_eq_false h3] at h1
    exact .inr fun e => h1 (by rw [any_nm.2 e]; rfl)
theorem ren_name {l : List Dc} {i k : Nat} {s : ByteArray} (hk : k < l.length) : ((renL l i s)[k]'(by rw [renL_length]; exact hk)).nm = if k = i then s else l[k].nm := by
  rw [renL_get hk]; split <;> rfl
theorem ren_formed {l : List Dc} {i : Nat} {s : ByteArray} (hf : Sg.formed l = true) (hi : i < l.length) (hs : Sg.nameOk s = true) (hno : s = l[i].nm ∨ ¬ s ∈ l.map Dc.nm) : Sg.formed (renL l i s) = true := by
  obtain ⟨h1, h2, h3⟩ := formed_iff.1 hf
  refine formed_iff.2 ⟨by rw [renL_length]; exact h1, fun k hk => ?_, ?_⟩
  · have hk2 : k < l.length := by rw [renL_length] at hk; exact hk
    have H := h2 k hk2
    have ecl : ((renL l i s)[k]'hk).cl = l[k].cl := by rw [renL_get hk2]; split <;> rfl
    have eim : ((renL l i s)[k]'hk).im = l[k].im := by rw [renL_get hk2]; split <;> rfl
    refine ⟨?_, by rw [ecl]; exact H.pr, by rw [ecl]; exact H.fr, by rw [ecl]; exact H.me, by rw [ecl]; exact H.cs, by rw [eim]; exact H.im0, by rw [ecl, eim]; exact H.im1, by rw [ecl, clAt_ren]; exact H.fam⟩
    rw [ren_name hk2]
    split
    · exact hs
    · exact H.nm
  · have nm_at : ∀ k (hk : k < l.length), (l.map Dc.nm)[k]'(by simpa using hk) = l[k].nm := fun k hk => by simp
    refine nodup_of_inj fun a b ha hb e => ?_
    have ha2 : a < l.length := by simpa [renL_length] using ha
    have hb2 : b < l.length := by simpa [renL_length] using hb
    simp only [List.getElem_map] at e
    rw [ren_name ha2, ren_name hb2] at e
    by_cases ea : a = i
    · by_cases eb : b = i
      · omega
      · rw [if_pos ea, if_neg eb] at e
        rcases hno with h | h
        · have := inj_of_nodup h3 (a := i) (b := b) (by simpa using hi) (by simpa using hb2) (by rw [nm_at i hi, nm_at b hb2, ← h, e])
          omega
        · exact absurd (List.mem_map.2 ⟨l[b], List.getElem_mem hb2, e.symm⟩) h
    · by_cases eb : b = i
      · rw [if_neg ea, if_pos eb] at e
        rcases hno with h | h
        · have := inj_of_nodup h3 (a := a) (b := i) (by simpa using ha2) (by simpa using hi) (by rw [nm_at i hi, nm_at a ha2, ← h, e])
          omega
        · exact absurd (List.mem_map.2 ⟨l[a], List.getElem_mem ha2, e⟩) h
      · rw [if_neg ea, if_neg eb] at e
        exact inj_of_nodup h3 (by simpa using ha2) (by simpa using hb2) (by rw [nm_at a ha2, nm_at b hb2]; exact e)
theorem ren_back {l : List Dc} {i : Nat} {s : ByteArray} (hf : Sg.formed l = true) (hi : i < l.length) (hs : Sg.nameOk s = true) (hno : s = l[i].nm ∨ ¬ s ∈ l.map Dc.nm) : renOut (renL l i s) (i : Int) l[i].nm = (l, 0) := by
  obtain ⟨h1, h2, h3⟩ := formed_iff.1 hf
  have hf2 := ren_formed hf hi hs hno
  have hi2 : i < (renL l i s).length := by rw [renL_length]; exact hi
  have hck : ckOut (renL l i s) (i : Int) = 0 := ckOut_in hf2 (by omega)
  have e1 : ((renL l i s).getD i ⟨⟨#[]⟩, Tm.zero, 0⟩).nm = s := by
    rw [List.getD_eq_getElem?_getD, List.getElem?_eq_getElem hi2]
    show ((renL l i s)[i]'hi2).nm = s
    rw [ren_name hi, if_pos rfl]
  have ht : twiceB (renL l i s) i l[i].nm = false := by
    unfold twiceB
    rw [e1]
    by_cases h : l[i].nm = s
    · rw [decide_eq_true h]; rfl
    · rw [decide_eq_false h, Bool.not_false, Bool.true_and, Bool.eq_false_iff]
      intro e
      obtain ⟨x, hx, ex⟩ := List.mem_map.1 (any_nm.1 e)
      obtain ⟨k, hk, rfl⟩ := List.getElem_of_mem hx
      have hk2 : k < l.length := by rw [renL_length] at hk; exact hk
      rw [ren_name hk2] at ex
      by_cases ek : k = i
      · rw [if_pos ek] at ex; exact h ex.symm
      · rw [if_neg ek] at ex
        have := inj_of_nodup h3 (a := k) (b := i) (by simpa using hk2) (by simpa using hi) (by simpa using ex)
        omega
  unfold renOut
  rw [if_pos hck, Int.toNat_natCast, if_neg (by rw [ht]; simp), if_neg (by rw [(h2 i hi).nm]; simp)]
  congr 1
  apply List.ext_getElem
  · rw [renL_length, renL_length]
  · intro k h4 h5
    rw [renL_get (by rw [renL_length]; exact h5)]
    by_cases ek : k = i
    · subst ek
      rw [if_pos rfl, renL_get h5, if_pos rfl]
    · rw [if_neg ek, renL_get h5, if_neg ek]
theorem ren_find {l : List Dc} {i : Nat} {s : ByteArray} (hf : Sg.formed l = true) (hi : i < l.length) (hs : Sg.nameOk s = true) (hno : s = l[i].nm ∨ ¬ s ∈ l.map Dc.nm) : findOut (renL l i s) s = ((i : Int), 0) := by
  have hi2 : i < (renL l i s).length := by rw [renL_length]; exact hi
  have := find_in (ren_formed hf hi hs hno) hi2
  rw [ren_name hi, if_pos rfl] at this
  exact this
end Go.Proofs.Yteoheeddjddekaa
