/- Families and their object constants in a formed signature (plain): each object constant is in the list of exactly one family, its target. -/
import Derived.Test.YteoheeddjddekaaSgMa
namespace Go.Proofs.Yteoheeddjddekaa
open Go.RowKit
set_option linter.unusedSimpArgs false
set_option linter.unusedVariables false

/-- the target of the constant m -/
def tg (l : List Dc) (m : Nat) : Int := if Tm.kind (clAt l m) = true then (m : Int) else (Tm.res (clAt l m)).1.n
section
variable {l : List Dc} (hf : Sg.formed l = true)
include hf
theorem fam_in {m : Nat} (hm : m < l.length) : famOut l (m : Int) = (Tm.kind (clAt l m), 0) := by
  unfold famOut; rw [if_pos (ckOut_in hf (by omega)), Int.toNat_natCast]
theorem tar_in {m : Nat} (hm : m < l.length) : tarOut l (m : Int) = (tg l m, 0) := by
  unfold tarOut tg; rw [if_pos (ckOut_in hf (by omega)), Int.toNat_natCast]
theorem nx_of {m : Nat} (hm : m < l.length) : NX l m l[m] := (formed_iff.1 hf).2.1 m hm
theorem hd_kind {m : Nat} (hm : m < l.length) : ((Tm.res (clAt l m)).1.hd == 2) = !Tm.kind (clAt l m) := by
  have H := nx_of hf hm
  rw [clAt_get hm]
  unfold Tm.kind
  rcases H.fam with h | ⟨h, -⟩
  · have hp := H.pr
    have : (Tm.res l[m].cl).1.hd = 0 := by
      have key : ∀ (f : Nat) (t : Tm), Tm.sz t ≤ f → Tm.proper t = true → (Tm.res t).1.op = 1 → (Tm.res t).1.hd = 0 := by
        intro f
        induction f with
        | zero => intro t h; have := Tm.sz_pos t; omega
        | succ f ih =>
          rintro ⟨o, h, n, a⟩ hs hp ho
          by_cases h2 : o = 2
          · subst h2
            obtain ⟨a, b, rfl, rfl, rfl, ha, hb⟩ := Tm.proper_pi hp
            rw [Tm.res_pi] at ho ⊢
            exact ih b (by simp [Tm.sz, Tm.szL] at hs; omega) hb ho
          · rw [Tm.res_else (t := .mk o h n a) h2] at ho ⊢
            simp only [Tm.op, Tm.hd] at ho ⊢
            subst ho
            have hf := (Tm.proper_formed' hp).2
            simp only [Tm.formed, Bool.and_eq_true] at hf
            rcases Tm.headOk_yes 1 h n a.length hf.1.2 with ⟨_, _, e, _⟩ | ⟨e, _⟩ | ⟨e, _⟩ | ⟨e, _⟩
            · exact e
            · omega
            · omega
            · omega
      exact key _ _ (Nat.le_refl _) hp h
    simp [h, this]
  · have hne : ¬ (Tm.res l[m].cl).1.op = 1 := by
      intro h1
      have key : ∀ (f : Nat) (t : Tm), Tm.sz t ≤ f → Tm.proper t = true → (Tm.res t).1.hd = 2 → ¬ (Tm.res t).1.op = 1 := by
        intro f
        induction f with
        | zero => intro t h; have := Tm.sz_pos t; omega
        | succ f ih =>
          rintro ⟨o, h, n, a⟩ hs hp ho
          by_cases h2 : o = 2
          · subst h2
            obtain ⟨a, b, rfl, rfl, rfl, ha, hb⟩ := Tm.proper_pi hp
            rw [Tm.res_pi] at ho ⊢
            exact ih b (by simp [Tm.sz, Tm.szL] at hs; omega) hb ho
          · rw [Tm.res_else (t := .mk o h n a) h2] at ho ⊢
            simp only [Tm.op, Tm.hd] at ho ⊢
            subst ho
            have hf := (Tm.proper_formed' hp).2
            simp only [Tm.formed, Bool.and_eq_true] at hf
            rcases Tm.headOk_yes o 2 n a.length hf.1.2 with ⟨_, _, e, _⟩ | ⟨_, _, e, _⟩ | ⟨_, _, e, _⟩ | ⟨e, _⟩
            · omega
            · omega
            · omega
            · omega
      exact key _ _ (Nat.le_refl _) H.pr h h1
    simp [h, hne]
omit hf in
theorem tg_kind {m : Nat} (hk : Tm.kind (clAt l m) = true) : tg l m = (m : Int) := by unfold tg; rw [if_pos hk]
theorem tg_obj {m : Nat} (hm : m < l.length) (hk : Tm.kind (clAt l m) = false) : 0 ≤ tg l m ∧ tg l m < (m : Int) ∧ Tm.kind (clAt l (tg l m).toNat) = true := by
  have H := nx_of hf hm
  have hh := hd_kind hf hm
  rw [hk] at hh
  simp only [Bool.not_false, beq_iff_eq] at hh
  rw [clAt_get hm] at hh
  have hc := H.cs _ (Tm.res_mem _ _ (Nat.le_refl _) H.pr hh)
  have e : tg l m = (Tm.res l[m].cl).1.n := by unfold tg; rw [hk, clAt_get hm]; rfl
  rw [e]
  refine ⟨hc.1, hc.2, ?_⟩
  rcases H.fam with h | ⟨-, h⟩
  · have : Tm.kind (clAt l m) = true := by rw [clAt_get hm]; unfold Tm.kind; simp [h]
    rw [hk] at this; cases this
  · exact h
theorem is_tg {m : Nat} (hm : m < l.length) : (Tm.kind (clAt l m) != (tg l m == (m : Int))) = false := by
  rcases hk : Tm.kind (clAt l m) with _ | _
  · have := tg_obj hf hm hk
    have e : (tg l m == (m : Int)) = false := by rw [beq_eq_false_iff_ne]; omega
    rw [e]; rfl
  · rw [tg_kind hk]; simp
theorem tg_bd {m : Nat} (hm : m < l.length) : 0 ≤ tg l m ∧ tg l m < (l.length : Int) := by
  rcases hk : Tm.kind (clAt l m) with _ | _
  · have := tg_obj hf hm hk; omega
  · rw [tg_kind hk]; omega
theorem find_in {m : Nat} (hm : m < l.length) : findOut l l[m].nm = ((m : Int), 0) := by
  unfold findOut
  rw [if_pos hf]
  rcases hp : posOf l l[m].nm with _ | i
  · have := posOf_none hp
    exact absurd (List.mem_map.2 ⟨l[m], List.getElem_mem hm, rfl⟩) this
  · obtain ⟨hi, e⟩ := posOf_some hp
    have hn := formed_nodup hf
    have : i = m := by
      rw [List.nodup_iff_pairwise_ne, List.pairwise_iff_getElem] at hn
      have e3 : (l.map Dc.nm)[i]'(by simpa using hi) = (l.map Dc.nm)[m]'(by simpa using hm) := by simpa using e
      rcases Nat.lt_trichotomy i m with h | h | h
      · exact absurd e3 (hn i m (by simpa using hi) (by simpa using hm) h)
      · exact h
      · exact absurd e3.symm (hn m i (by simpa using hm) (by simpa using hi) h)
    subst this
    rfl
theorem mem_objL {n x : Int} : x ∈ objL l n ↔ ∃ m : Nat, m < l.length ∧ x = (m : Int) ∧ Tm.kind (clAt l m) = false ∧ tg l m = n := by
  unfold objL
  simp only [List.mem_map, List.mem_filter, List.mem_range, Bool.and_eq_true, decide_eq_true_eq]
  constructor
  · rintro ⟨m, ⟨hm, h1, h2⟩, rfl⟩
    rw [hd_kind hf hm] at h1
    simp only [Bool.not_eq_true', ] at h1
    exact ⟨m, hm, rfl, h1, by unfold tg; rw [h1]; simpa using h2⟩
  · rintro ⟨m, hm, rfl, h1, h2⟩
    refine ⟨m, ⟨hm, by rw [hd_kind hf hm, h1]; rfl, ?_⟩, rfl⟩
    unfold tg at h2; rw [h1] at h2; simpa using h2
omit hf in
theorem objL_asc (n : Int) : (objL l n).Pairwise (· < ·) := by
  unfold objL
  rw [List.pairwise_map]
  refine (List.Pairwise.filter _ List.pairwise_lt_range).imp fun h => by omega
/-- how often the constant m has been counted when k families have been looked at -/
def cntP (l : List Dc) (k : Nat) (m : Nat) : Int := if Tm.kind (clAt l m) = false ∧ tg l m < (k : Int) then 1 else 0
def cntQ (l : List Dc) (k : Nat) (xs : List Int) (m : Nat) : Int := cntP l k m + (if (m : Int) ∈ xs then 1 else 0)
omit hf in
theorem cntQ_nil (k m : Nat) : cntQ l k [] m = cntP l k m := by simp [cntQ]
theorem cntP_zero {m : Nat} (hm : m < l.length) : cntP l 0 m = 0 := by
  unfold cntP; rw [if_neg]
  rintro ⟨h1, h2⟩
  have := tg_obj hf hm h1
  omega
omit hf in
theorem cntQ_step {k j m m0 : Nat} (hj : j < (objL l k).length) (e : (objL l k)[j] = (m0 : Int)) : cntQ l k ((objL l k).take (j + 1)) m = if m = m0 then cntQ l k ((objL l k).take j) m0 + 1 else cntQ l k ((objL l k).take j) m := by
  unfold cntQ
  rw [List.take_succ_eq_append_getElem hj, e]
  by_cases h : m = m0
  · subst h
    rw [if_pos rfl, if_pos (by simp)]
    have hn : ¬ (m : Int) ∈ (objL l k).take j := by
      intro h
      obtain ⟨i, hi, e2⟩ := List.getElem_of_mem h
      rw [List.length_take] at hi
      have ha := objL_asc (l := l) (k : Int)
      rw [List.pairwise_iff_getElem] at ha
      have := ha i j (by omega) hj (by omega)
      rw [List.getElem_take] at e2
      omega
    rw [if_neg hn]; omega
  · rw [if_neg h]
    congr 1
    have : ((m : Int) ∈ (objL l k).take j ++ [(m0 : Int)]) ↔ (m : Int) ∈ (objL l k).take j := by
      rw [List.mem_append, List.mem_singleton]
      constructor
      · rintro (h1 | h1)
        · exact h1
        · omega
      · exact .inl
    simp only [this]
theorem cntQ_all {k m : Nat} (hk : Tm.kind (clAt l k) = true) (hm : m < l.length) : cntQ l k (objL l k) m = cntP l (k + 1) m := by
  unfold cntQ cntP
  have hmem := mem_objL hf (n := (k : Int)) (x := (m : Int))
  rcases hkm : Tm.kind (clAt l m) with _ | _
  · have h1 : ((m : Int) ∈ objL l k) ↔ tg l m = (k : Int) := by
      rw [hmem]
      constructor
      · rintro ⟨m', _, e, _, e2⟩
        have : m' = m := by omega
        subst this; exact e2
      · intro e; exact ⟨m, hm, rfl, hkm, e⟩
    simp only [true_and, h1]
    by_cases h2 : tg l m < (k : Int)
    · rw [if_pos h2, if_neg (by omega), if_pos (by omega)]; rfl
    · rw [if_neg h2]
      by_cases h3 : tg l m = (k : Int)
      · rw [if_pos h3, if_pos (by omega)]; rfl
      · rw [if_neg h3, if_neg (by omega)]; rfl
  · have h1 : ¬ (m : Int) ∈ objL l k := by
      rw [hmem]
      rintro ⟨m', _, e, h2, _⟩
      have : m' = m := by omega
      subst this
      rw [hkm] at h2; cases h2
    simp [h1]
theorem cntP_skip {k m : Nat} (hk : Tm.kind (clAt l k) = false) (hm : m < l.length) : cntP l (k + 1) m = cntP l k m := by
  unfold cntP
  rcases hkm : Tm.kind (clAt l m) with _ | _
  · have := tg_obj hf hm hkm
    have hne : ¬ tg l m = (k : Int) := by
      intro e
      rw [e, Int.toNat_natCast, hk] at this
      exact absurd this.2.2 (by simp)
    simp only [true_and]
    by_cases h2 : tg l m < (k : Int)
    · rw [if_pos h2, if_pos (by omega)]
    · rw [if_neg h2, if_neg (by omega)]
  · simp
theorem cntP_end {m : Nat} (hm : m < l.length) : cntP l l.length m = if Tm.kind (clAt l m) = true then 0 else 1 := by
  unfold cntP
  rcases hkm : Tm.kind (clAt l m) with _ | _
  · have := tg_obj hf hm hkm
    rw [if_pos ⟨rfl, by omega⟩]; rfl
  · simp
omit hf in
theorem cntQ_bd (k : Nat) (xs : List Int) (m : Nat) : 0 ≤ cntQ l k xs m ∧ cntQ l k xs m ≤ 2 := by
  unfold cntQ cntP; split <;> split <;> omega
end
end Go.Proofs.Yteoheeddjddekaa
