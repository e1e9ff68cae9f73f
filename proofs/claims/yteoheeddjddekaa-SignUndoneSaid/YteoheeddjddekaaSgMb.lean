/- Two neighbours exchanged: what is formed stays so, and a second exchange undoes the first one (plain). -/
import Derived.Test.YteoheeddjddekaaSgMa
namespace Go.Proofs.Yteoheeddjddekaa
open Go.RowKit
set_option linter.unusedSimpArgs false
set_option linter.unusedVariables false

theorem swp_swp (n c : Int) : swp n (swp n c) = c := by unfold swp; split <;> split <;> (try split) <;> omega
theorem swk_swk (i k : Nat) : swk i (swk i k) = k := by unfold swk; split <;> split <;> (try split) <;> omega
theorem swp_nat (i k : Nat) : swp (i : Int) (k : Int) = (swk i k : Nat) := by
  unfold swp swk
  by_cases h1 : k = i
  · subst h1; simp
  · by_cases h2 : k = i + 1
    · subst h2; simp
    · rw [if_neg (by omega), if_neg (by omega), if_neg h1, if_neg h2]
theorem swk_inj {i a b : Nat} (h : swk i a = swk i b) : a = b := by have := congrArg (swk i) h; rwa [swk_swk, swk_swk] at this
/-- the signature with the constants i and i + 1 exchanged, everywhere -/
def swapped (l : List Dc) (i : Nat) : List Dc := exch (l.map (Dc.num (swp i))) i
theorem swapped_length (l : List Dc) (i : Nat) : (swapped l i).length = l.length := by simp [swapped, exch_length]
theorem swapped_get {l : List Dc} {i k : Nat} (hi : i + 1 < l.length) (hk : k < l.length) : (swapped l i)[k]'(by rw [swapped_length]; exact hk) = (l[swk i k]'(swk_lt hi hk)).num (swp i) := by
  unfold swapped
  rw [exch_get (by simpa using hi) (by simpa using hk)]
  simp
theorem swapped_twice {l : List Dc} {i : Nat} (hi : i + 1 < l.length) : swapped (swapped l i) i = l := by
  apply List.ext_getElem
  · rw [swapped_length, swapped_length]
  · intro k h1 h2
    rw [swapped_get (by rw [swapped_length]; exact hi) (by rw [swapped_length]; exact h2)]
    rw [swapped_get hi (swk_lt hi h2)]
    simp only [swk_swk]
    obtain ⟨nm, cl, im⟩ := l[k]
    simp only [Dc.num, Tm.num_num]
    rw [show (fun x => swp (i : Int) (swp i x)) = id from funext fun x => swp_swp i x, Tm.num_id]
theorem nodup_of_inj {α : Type} {l : List α} (h : ∀ a b (ha : a < l.length) (hb : b < l.length), l[a] = l[b] → a = b) : l.Nodup := by
  rw [List.nodup_iff_pairwise_ne, List.pairwise_iff_getElem]
  intro a b ha hb hab e
  have := h a b ha hb e
  omega
theorem inj_of_nodup {α : Type} {l : List α} (hn : l.Nodup) {a b : Nat} (ha : a < l.length) (hb : b < l.length) (e : l[a] = l[b]) : a = b := by
  rw [List.nodup_iff_pairwise_ne, List.pairwise_iff_getElem] at hn
  rcases Nat.lt_trichotomy a b with h | h | h
  · exact absurd e (hn a b ha hb h)
  · exact h
  · exact absurd e.symm (hn b a hb ha h)
theorem swapped_formed {l : List Dc} {i : Nat} (hf : Sg.formed l = true) (hi : i + 1 < l.length) (hno : ¬ (i : Int) ∈ Tm.cs l[i + 1].cl) : Sg.formed (swapped l i) = true := by
  obtain ⟨h1, h2, h3⟩ := formed_iff.1 hf
  refine formed_iff.2 ⟨by rw [swapped_length]; exact h1, fun k hk => ?_, ?_⟩
  · have hk' : k < l.length := by rw [swapped_length] at hk; exact hk
    have hs := swk_lt hi hk'
    have H := h2 (swk i k) hs
    rw [swapped_get hi hk']
    have hb : ∀ x ∈ Tm.cs (l[swk i k]).cl, 0 ≤ swp (i : Int) x ∧ swp (i : Int) x < (k : Int) := fun x hx => by
      have hx' := H.cs x hx
      have hne : k = i → x ≠ (i : Int) := fun e ex => by
        subst e ex
        have e1 : swk k k = k + 1 := by unfold swk; rw [if_pos rfl]
        simp only [e1] at hx
        exact hno hx
      revert hx'
      unfold swp swk
      intro hx'
      by_cases k1 : k = i
      · have := hne k1
        rw [if_pos k1] at hx'
        rw [if_neg this, if_neg (by omega)]; omega
      · rw [if_neg k1] at hx'
        by_cases k2 : k = i + 1
        · rw [if_pos k2] at hx'
          rw [if_neg (by omega), if_neg (by omega)]; omega
        · rw [if_neg k2] at hx'
          split
          · omega
          · split <;> omega
    have hr := Tm.num_res (swp (i : Int)) _ (l[swk i k]).cl (Nat.le_refl _)
    refine ⟨H.nm, Tm.num_proper H.pr fun x hx => ?_, ?_, ?_, ?_, H.im0, ?_, ?_⟩
    · have := hb x hx; omega
    · show Tm.hds (rsel 1) 0 (Tm.num _ _) = []
      rw [Tm.num_hdsX _ 1 (by omega)]; exact H.fr
    · show Tm.hds (rsel 3) 0 (Tm.num _ _) = []
      rw [Tm.num_hdsX _ 3 (by omega)]; exact H.me
    · intro x hx
      have hx2 : x ∈ Tm.hds (rsel 2) 0 (Tm.num (swp (i : Int)) (l[swk i k]).cl) := hx
      rw [Tm.num_hds2, List.mem_map] at hx2
      obtain ⟨y, hy, rfl⟩ := hx2
      exact hb y hy
    · show _ ≤ ((Tm.res (Tm.num _ _)).2 : Int)
      rw [hr]; exact H.im1
    · show (Tm.res (Tm.num _ _)).1.op = 1 ∨ (Tm.res (Tm.num _ _)).1.hd = 2 ∧ Tm.kind (clAt _ (Tm.res (Tm.num _ _)).1.n.toNat) = true
      rw [hr]
      rcases H.fam with h6 | ⟨h6, h7⟩
      · left
        cases hq : (Tm.res (l[swk i k]).cl).1
        rw [hq] at h6
        simpa only [Tm.num, Tm.op] using h6
      · right
        have hm := Tm.res_mem _ _ (Nat.le_refl _) H.pr h6
        have hc := H.cs _ hm
        have hbb := hb _ hm
        cases hq : (Tm.res (l[swk i k]).cl).1 with
        | mk o h n a =>
          rw [hq] at h6 h7 hc hbb
          simp only [Tm.hd, Tm.n] at h6 h7 hc hbb
          subst h6
          refine ⟨rfl, ?_⟩
          simp only [Tm.num, Tm.n, if_true]
          obtain ⟨c, rfl⟩ : ∃ c : Nat, n = (c : Int) := ⟨n.toNat, by omega⟩
          rw [swp_nat, Int.toNat_natCast]
          rw [swp_nat] at hbb
          have hcl : swk i c < l.length := by omega
          rw [clAt_get (by rw [swapped_length]; exact hcl), swapped_get hi hcl]
          simp only [swk_swk]
          show Tm.kind (Tm.num _ _) = true
          rw [Tm.num_kind]
          rw [Int.toNat_natCast, clAt_get (by omega)] at h7
          exact h7
  · refine nodup_of_inj fun a b ha hb e => ?_
    simp only [List.length_map, swapped_length] at ha hb
    simp only [List.getElem_map] at e
    rw [swapped_get hi ha, swapped_get hi hb] at e
    have := inj_of_nodup h3 (a := swk i a) (b := swk i b) (by simpa using swk_lt hi ha) (by simpa using swk_lt hi hb) (by simpa [Dc.num] using e)
    exact swk_inj this

/-- where Swap has no error -/
structure SwapOk (l : List Dc) (n : Int) (i : Nat) : Prop where
  hn : n = (i : Int)
  hi : i + 1 < l.length
  hf : Sg.formed l = true
  hno : ¬ (i : Int) ∈ Tm.cs (l[i + 1]'hi).cl
  out : swapOut l n = (swapped l i, 0)
theorem swap_ok {l : List Dc} {n : Int} (h : (swapOut l n).2 = 0) : ∃ i, SwapOk l n i := by
  have h0 := h
  unfold swapOut at h
  split at h
  · rename_i hc
    split at h
    · simp at h
    · rename_i he
      split at h
      · simp at h
      · rename_i hno
        obtain ⟨hf, i, rfl, hi⟩ := ckOut_zero hc
        have hi1 : i + 1 < l.length := by omega
        refine ⟨i, rfl, hi1, hf, ?_, ?_⟩
        · rw [Int.toNat_natCast, clAt_get hi1, mem_consL] at hno; exact hno
        · unfold swapOut swapped
          rw [if_pos hc, if_neg he, if_neg hno, Int.toNat_natCast]
  · rename_i hc
    exact absurd h hc
theorem swap_good_of {l : List Dc} {i : Nat} (hi : i + 1 < l.length) (hf : Sg.formed l = true) (hno : ¬ (i : Int) ∈ Tm.cs l[i + 1].cl) : swapOut l i = (swapped l i, 0) := by
  unfold swapOut swapped
  rw [if_pos (ckOut_in hf (by omega)), if_neg (by omega), if_neg (by rw [Int.toNat_natCast, clAt_get hi, mem_consL]; exact hno), Int.toNat_natCast]
theorem swap_twice {l : List Dc} {n : Int} {i : Nat} (H : SwapOk l n i) : swapOut (swapped l i) n = (l, 0) := by
  have hi := H.hi
  rw [H.hn, swap_good_of (l := swapped l i) (by rw [swapped_length]; exact hi) (swapped_formed H.hf hi H.hno), swapped_twice hi]
  intro hx
  rw [swapped_get hi hi] at hx
  have e1 : swk i (i + 1) = i := by unfold swk; rw [if_neg (by omega), if_pos rfl]
  simp only [e1] at hx
  have hx2 : (i : Int) ∈ Tm.hds (rsel 2) 0 (Tm.num (swp (i : Int)) (l[i]'(by omega)).cl) := hx
  rw [Tm.num_hds2, List.mem_map] at hx2
  obtain ⟨y, hy, e⟩ := hx2
  have := ((formed_iff.1 H.hf).2.1 i (by omega)).cs y hy
  unfold swp at e
  split at e
  · omega
  · split at e <;> omega
theorem swap_err {l : List Dc} {n : Int} (h : ¬ (swapOut l n).2 = 0) : ∃ c, swapOut l n = ([], c) ∧ (c = 2 ∨ c = 6 ∨ c = 27) := by
  unfold swapOut at *
  split
  · rename_i hc
    rw [if_pos hc] at h
    split
    · exact ⟨6, rfl, by simp⟩
    · rename_i he
      rw [if_neg he] at h
      split
      · exact ⟨27, rfl, by simp⟩
      · rename_i hno
        rw [if_neg hno] at h
        simp at h
  · rename_i hc
    refine ⟨ckOut l n, rfl, ?_⟩
    revert hc
    unfold ckOut
    split
    · split
      · simp
      · simp
    · simp
end Go.Proofs.Yteoheeddjddekaa
