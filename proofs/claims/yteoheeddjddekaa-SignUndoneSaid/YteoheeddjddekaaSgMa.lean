/- When a signature is formed, constant by constant (plain); renumbering keeps it; two exchanges are none. -/
import Derived.Test.YteoheeddjddekaaL5f
import Derived.Test.YteoheeddjddekaaL5e
namespace Go.Proofs.Yteoheeddjddekaa
open Go.RowKit
set_option linter.unusedSimpArgs false
set_option linter.unusedVariables false
namespace Tm
/-- the constants in a term, in the order of the text -/
abbrev cs (t : Tm) : List Int := hds (rsel 2) 0 t
mutual
theorem hds2_any : ∀ (b b' : Int) (t : Tm), hds (rsel 2) b t = hds (rsel 2) b' t
  | b, b', .mk o h n l => by simp only [hds, hdsL2_any b b' o 0 l]; congr 1
theorem hdsL2_any : ∀ (b b' o : Int) (i : Nat) (l : List Tm), hdsL (rsel 2) b o i l = hdsL (rsel 2) b' o i l
  | _, _, _, _, [] => rfl
  | b, b', o, i, t :: l => by simp only [hdsL, hds2_any (b + belowN o i) (b' + belowN o i) t, hdsL2_any b b' o (i + 1) l]
end
mutual
theorem num_sz (g : Int → Int) : ∀ t : Tm, sz (num g t) = sz t
  | .mk o h n l => by simp only [num, sz, numL_sz g l]
theorem numL_sz (g : Int → Int) : ∀ l : List Tm, szL (numL g l) = szL l
  | [] => rfl
  | t :: l => by simp only [numL, szL, num_sz g t, numL_sz g l]
end
theorem numL_length (g : Int → Int) : ∀ l : List Tm, (numL g l).length = l.length
  | [] => rfl
  | t :: l => by simp only [numL, List.length_cons, numL_length g l]
theorem mem_app {a b : List Int} {P : Int → Prop} (h : ∀ x ∈ a ++ b, P x) : (∀ x ∈ a, P x) ∧ ∀ x ∈ b, P x := ⟨fun x hx => h x (by simp [hx]), fun x hx => h x (by simp [hx])⟩
mutual
theorem num_formed (g : Int → Int) : ∀ (t : Tm) (d : Nat) (b : Int), formed t d = true → (∀ x ∈ hds (rsel 2) b t, 0 ≤ g x ∧ g x ≤ 9999) → formed (num g t) d = true
  | .mk o h n l, d, b, hf, hg => by
    simp only [formed, Bool.and_eq_true] at hf ⊢
    simp only [hds] at hg
    obtain ⟨hg1, hg2⟩ := mem_app hg
    simp only [num, formed, Bool.and_eq_true]
    refine ⟨⟨hf.1.1, ?_⟩, numL_formed g l (d + 1) b o 0 hf.2 hg2⟩
    rw [numL_length]
    by_cases h2 : h = 2
    · rw [if_pos h2]
      subst h2
      rcases headOk_yes o 2 n l.length hf.1.2 with ⟨_, _, e, _⟩ | ⟨_, _, e, _⟩ | ⟨_, _, e, _⟩ | ⟨e, _, _, _, _⟩
      · omega
      · omega
      · omega
      · subst e
        have := hg1 n (by simp [rsel])
        simp [headOk, this.1, this.2]
    · rw [if_neg h2]; exact hf.1.2
theorem numL_formed (g : Int → Int) : ∀ (l : List Tm) (d : Nat) (b o : Int) (i : Nat), formedL l d = true → (∀ x ∈ hdsL (rsel 2) b o i l, 0 ≤ g x ∧ g x ≤ 9999) → formedL (numL g l) d = true
  | [], _, _, _, _, _, _ => rfl
  | t :: l, d, b, o, i, hf, hg => by
    simp only [formedL, Bool.and_eq_true] at hf
    simp only [hdsL] at hg
    obtain ⟨hg1, hg2⟩ := mem_app hg
    simp only [numL, formedL, Bool.and_eq_true]
    exact ⟨num_formed g t d _ hf.1 hg1, numL_formed g l d b o (i + 1) hf.2 hg2⟩
end
theorem num_proper {g : Int → Int} {t : Tm} (hp : proper t = true) (hg : ∀ x ∈ cs t, 0 ≤ g x ∧ g x ≤ 9999) : proper (num g t) = true := by
  obtain ⟨h1, h2⟩ := proper_formed' hp
  exact proper_of (by rw [num_sz]; exact h1) (num_formed g t 1 0 h2 hg)
mutual
theorem num_hds2 (g : Int → Int) : ∀ (b : Int) (t : Tm), hds (rsel 2) b (num g t) = (hds (rsel 2) b t).map g
  | b, .mk o h n l => by
    simp only [num, hds, List.map_append, numL_hds2 g b o 0 l]
    congr 1
    by_cases h2 : h = 2
    · subst h2
      by_cases h4 : o = 4 <;> simp [rsel, h4]
    · simp [rsel, h2]
theorem numL_hds2 (g : Int → Int) : ∀ (b o : Int) (i : Nat) (l : List Tm), hdsL (rsel 2) b o i (numL g l) = (hdsL (rsel 2) b o i l).map g
  | _, _, _, [] => rfl
  | b, o, i, t :: l => by simp only [numL, hdsL, List.map_append, num_hds2 g _ t, numL_hds2 g b o (i + 1) l]
end
mutual
theorem num_hdsX (g : Int → Int) (x : Int) (hx : x ≠ 2) : ∀ (b : Int) (t : Tm), hds (rsel x) b (num g t) = hds (rsel x) b t
  | b, .mk o h n l => by
    simp only [num, hds, numL_hdsX g x hx b o 0 l]
    congr 1
    by_cases h2 : h = 2
    · subst h2; simp [rsel, Ne.symm hx]
    · simp [h2]
theorem numL_hdsX (g : Int → Int) (x : Int) (hx : x ≠ 2) : ∀ (b o : Int) (i : Nat) (l : List Tm), hdsL (rsel x) b o i (numL g l) = hdsL (rsel x) b o i l
  | _, _, _, [] => rfl
  | b, o, i, t :: l => by simp only [numL, hdsL, num_hdsX g x hx _ t, numL_hdsX g x hx b o (i + 1) l]
end
theorem num_res (g : Int → Int) : ∀ (f : Nat) (t : Tm), sz t ≤ f → res (num g t) = (num g (res t).1, (res t).2)
  | 0, t, h => by have := sz_pos t; omega
  | f + 1, .mk o h n l, hs => by
    by_cases ho : o = 2
    · subst ho
      by_cases hl : l.length = 2
      · obtain ⟨a, b, rfl⟩ : ∃ a b, l = [a, b] := by
          match l, hl with
          | [a, b], _ => exact ⟨a, b, rfl⟩
        simp only [num, numL]
        rw [res_pi, res_pi, num_res g f b (by simp [sz, szL] at hs; omega)]
      · rw [res_bad hl]
        simp only [num]
        rw [res_bad (by rw [numL_length]; exact hl)]
    · rw [res_else (t := .mk o h n l) ho, res_else (t := num g (.mk o h n l)) (by simpa only [num, Tm.op] using ho)]
theorem num_kind (g : Int → Int) (t : Tm) : kind (num g t) = kind t := by
  unfold kind
  rw [num_res g _ t (Nat.le_refl _)]
  cases (res t).1
  simp only [num, Tm.op]
/-- the head of what the outermost TPis are around is a constant that the term contains -/
theorem res_mem : ∀ (f : Nat) (t : Tm), sz t ≤ f → proper t = true → (res t).1.hd = 2 → (res t).1.n ∈ cs t
  | 0, t, h, _, _ => by have := sz_pos t; omega
  | f + 1, .mk o h n l, hs, hp, hh => by
    by_cases ho : o = 2
    · subst ho
      obtain ⟨a, b, rfl, rfl, rfl, ha, hb⟩ := proper_pi hp
      rw [res_pi] at hh ⊢
      have ih := res_mem f b (by simp [sz, szL] at hs; omega) hb hh
      simp only [cs, hds, hdsL, List.mem_append]
      right; right; left
      rw [hds2_any _ 0 b]; exact ih
    · rw [res_else (t := .mk o h n l) ho] at hh ⊢
      simp only [Tm.hd] at hh
      subst hh
      have hf := (proper_formed' hp).2
      simp only [formed, Bool.and_eq_true] at hf
      rcases headOk_yes o 2 n l.length hf.1.2 with ⟨_, _, e, _⟩ | ⟨_, _, e, _⟩ | ⟨_, _, e, _⟩ | ⟨e, _⟩
      · omega
      · omega
      · omega
      · subst e; simp [cs, hds, rsel, Tm.n]
mutual
theorem num_num (g k : Int → Int) : ∀ t : Tm, num g (num k t) = num (fun x => g (k x)) t
  | .mk o h n l => by
    simp only [num, numL_numL g k l]
    by_cases h2 : h = 2 <;> simp [h2]
theorem numL_numL (g k : Int → Int) : ∀ l : List Tm, numL g (numL k l) = numL (fun x => g (k x)) l
  | [] => rfl
  | t :: l => by simp only [numL, num_num g k t, numL_numL g k l]
end
mutual
theorem hds2_pos : ∀ (t : Tm) (d : Nat) (b : Int), formed t d = true → ∀ x ∈ hds (rsel 2) b t, 0 ≤ x
  | .mk o h n l, d, b, hf, x, hx => by
    simp only [formed, Bool.and_eq_true] at hf
    simp only [hds, List.mem_append] at hx
    rcases hx with hx | hx
    · rcases headOk_yes o h n l.length hf.1.2 with ⟨e, _⟩ | ⟨e, _⟩ | ⟨e, _⟩ | ⟨e, e1, e2, e3, e4⟩
      · subst e; simp [rsel] at hx
      · subst e; simp [rsel] at hx
      · subst e; simp [rsel] at hx
      · subst e
        by_cases h2 : h = 2
        · subst h2; simp [rsel] at hx; omega
        · simp [rsel, h2] at hx
    · exact hdsL2_pos l (d + 1) b o 0 hf.2 x hx
theorem hdsL2_pos : ∀ (l : List Tm) (d : Nat) (b o : Int) (i : Nat), formedL l d = true → ∀ x ∈ hdsL (rsel 2) b o i l, 0 ≤ x
  | [], _, _, _, _, _, x, hx => by simp [hdsL] at hx
  | t :: l, d, b, o, i, hf, x, hx => by
    simp only [formedL, Bool.and_eq_true] at hf
    simp only [hdsL, List.mem_append] at hx
    rcases hx with hx | hx
    · exact hds2_pos t d _ hf.1 x hx
    · exact hdsL2_pos l d b o (i + 1) hf.2 x hx
end
end Tm
theorem mem_consL {t : Tm} {x : Int} : x ∈ consL t ↔ x ∈ Tm.cs t := by unfold consL; rw [Tm.mem_insL]; simp

/-- a constant may stand at the position k of a signature -/
structure NX (l : List Dc) (k : Nat) (d : Dc) : Prop where
  nm : Sg.nameOk d.nm = true
  pr : Tm.proper d.cl = true
  fr : Tm.hds (rsel 1) 0 d.cl = []
  me : Tm.hds (rsel 3) 0 d.cl = []
  cs : ∀ x ∈ Tm.cs d.cl, 0 ≤ x ∧ x < (k : Int)
  im0 : 0 ≤ d.im
  im1 : d.im ≤ ((Tm.res d.cl).2 : Int)
  fam : (Tm.res d.cl).1.op = 1 ∨ ((Tm.res d.cl).1.hd = 2 ∧ Tm.kind (clAt l (Tm.res d.cl).1.n.toNat) = true)
theorem clAt_take {l : List Dc} {k i : Nat} (hi : i < k) (hk : k ≤ l.length) : ((l.take k).map Dc.cl).getD i Tm.zero = clAt l i := by
  unfold clAt
  rw [List.getD_eq_getElem?_getD, List.getD_eq_getElem?_getD, List.getElem?_map, List.getElem?_map, List.getElem?_take_of_lt hi]
theorem next_iff {l : List Dc} {k : Nat} {d : Dc} (hk : k ≤ l.length) : Sg.next (l.take k) d = true ↔ NX l k d := by
  have hlen : (l.take k).length = k := by simp; omega
  unfold Sg.next
  simp only [Bool.and_eq_true, Bool.or_eq_true, decide_eq_true_eq, beq_iff_eq, hlen]
  constructor
  · rintro ⟨⟨⟨⟨⟨h1, h2⟩, h3⟩, h4⟩, h5⟩, h6⟩
    have hf := (Tm.proper_formed' h2).2
    obtain ⟨o1, o2, o3⟩ := (Tm.over_iff k 0 d.cl 1 hf).1 h3
    have hc : ∀ x ∈ Tm.cs d.cl, 0 ≤ x ∧ x < (k : Int) := fun x hx => ⟨Tm.hds2_pos d.cl 1 0 hf x hx, o3 x hx⟩
    refine ⟨h1, h2, o1, o2, hc, h4, h5, ?_⟩
    rcases h6 with h6 | ⟨h6, h7⟩
    · exact .inl h6
    · have := hc _ (Tm.res_mem _ d.cl (Nat.le_refl _) h2 h6)
      rw [clAt_take (by omega) hk] at h7
      exact .inr ⟨h6, h7⟩
  · intro H
    have hf := (Tm.proper_formed' H.pr).2
    refine ⟨⟨⟨⟨⟨H.nm, H.pr⟩, (Tm.over_iff k 0 d.cl 1 hf).2 ⟨H.fr, H.me, fun x hx => (H.cs x hx).2⟩⟩, H.im0⟩, H.im1⟩, ?_⟩
    rcases H.fam with h6 | ⟨h6, h7⟩
    · exact .inl h6
    · have := H.cs _ (Tm.res_mem _ d.cl (Nat.le_refl _) H.pr h6)
      exact .inr ⟨h6, by rw [clAt_take (by omega) hk]; exact h7⟩
theorem nextTo_iff {l : List Dc} : ∀ k, k ≤ l.length → (Sg.nextTo l k = true ↔ ∀ j (h : j < k) (h' : j < l.length), NX l j l[j])
  | 0, _ => by simp [Sg.nextTo_zero]
  | k + 1, hk => by
    rw [Sg.nextTo_step l k (by omega), Bool.and_eq_true, nextTo_iff k (by omega), next_iff (by omega)]
    constructor
    · rintro ⟨h1, h2⟩ j h h'
      by_cases e : j = k
      · subst e; exact h2
      · exact h1 j (by omega) h'
    · intro h
      exact ⟨fun j h1 h' => h j (by omega) h', h k (by omega) (by omega)⟩
theorem formed_iff {l : List Dc} : Sg.formed l = true ↔ l.length ≤ 100 ∧ (∀ j (h : j < l.length), NX l j l[j]) ∧ (l.map Dc.nm).Nodup := by
  unfold Sg.formed Sg.once
  simp only [Bool.and_eq_true, decide_eq_true_eq]
  rw [nextTo_iff l.length (Nat.le_refl _)]
  constructor
  · rintro ⟨⟨h1, h2⟩, h3⟩; exact ⟨h1, fun j h => h2 j h h, h3⟩
  · rintro ⟨h1, h2, h3⟩; exact ⟨⟨h1, fun j h _ => h2 j h⟩, h3⟩
end Go.Proofs.Yteoheeddjddekaa
