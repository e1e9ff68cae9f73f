/- Splitting a term at its outermost TPis (plain). -/
import Derived.Test.YteoheeddjddekaaTmGd
namespace Go.Proofs.Yteoheeddjddekaa
open Go.RowKit
theorem cells4_of {w : World} {B : Nat} {x y z v : Value} (h : w.heap[B]? = some (.cells #[x, y, z, v] 25 (0, 0))) : w.cell? ⟨B, 0, none⟩ = some x ∧ w.cell? ⟨B, 1, none⟩ = some y ∧ w.cell? ⟨B, 2, none⟩ = some z ∧ w.cell? ⟨B, 3, none⟩ = some v :=
  ⟨cell_in h 0 _ rfl, cell_in h 1 _ rfl, cell_in h 2 _ rfl, cell_in h 3 _ rfl⟩
theorem Tm.proper_fit {t : Tm} (h : Tm.proper t = true) : t.fit := by
  unfold Tm.proper at h
  simp only [Bool.and_eq_true] at h
  have hn := Tm.nums_of_formed t 1 h.2
  cases t with
  | mk o hd n l =>
    simp only [Tm.nums, Bool.and_eq_true, decide_eq_true_eq] at hn
    exact ⟨⟨by show _ ≤ o; omega, by show o ≤ _; omega⟩, ⟨by show _ ≤ hd; omega, by show hd ≤ _; omega⟩, ⟨by show _ ≤ n; omega, by show n ≤ _; omega⟩⟩
namespace Tm
/-- the domains of the outermost TPis and the body, at most f steps -/
def splitN : Nat → Tm → List Tm × Tm
  | 0, t => ([], t)
  | f + 1, .mk o h n l => if o = 2 then (match l with | [a, b] => (a :: (splitN f b).1, (splitN f b).2) | _ => ([], .mk o h n l)) else ([], .mk o h n l)
def splitOf (t : Tm) : List Tm × Tm := splitN (sz t) t
theorem splitN_same : ∀ (f g : Nat) (t : Tm), sz t ≤ f → sz t ≤ g → splitN f t = splitN g t
  | 0, _, t, h, _ => by have := sz_pos t; omega
  | _, 0, t, _, h => by have := sz_pos t; omega
  | f + 1, g + 1, .mk o h n l, hf, hg => by
    simp only [splitN]
    split
    · match l, hf, hg with
      | [], _, _ => rfl
      | [_], _, _ => rfl
      | [a, b], hf, hg =>
        have e : splitN f b = splitN g b := splitN_same f g b (by simp [sz, szL] at hf; omega) (by simp [sz, szL] at hg; omega)
        simp only [e]
      | _ :: _ :: _ :: _, _, _ => rfl
    · rfl
theorem splitOf_pi (h n : Int) (a b : Tm) : splitOf (.mk 2 h n [a, b]) = (a :: (splitOf b).1, (splitOf b).2) := by
  have e : sz (.mk 2 h n [a, b]) = (sz a + sz b) + 1 := by simp [sz, szL]; omega
  unfold splitOf
  rw [e]
  simp only [splitN]
  rw [splitN_same (sz a + sz b) (sz b) b (by omega) (Nat.le_refl _)]
  simp
theorem splitOf_else {t : Tm} (h : t.op ≠ 2) : splitOf t = ([], t) := by
  obtain ⟨o, hd, n, l⟩ := t
  unfold splitOf
  obtain ⟨f, hf⟩ : ∃ f, sz (.mk o hd n l) = f + 1 := ⟨sz (.mk o hd n l) - 1, by have := sz_pos (.mk o hd n l); omega⟩
  rw [hf]
  simp only [splitN]
  rw [if_neg (show ¬ o = 2 from h)]

mutual
theorem formed_down : ∀ (t : Tm) (d : Nat), formed t (d + 1) = true → formed t d = true
  | .mk o h n l, d, hf => by
    simp only [formed, Bool.and_eq_true, decide_eq_true_eq] at hf ⊢
    exact ⟨⟨by omega, hf.1.2⟩, formedL_down l (d + 1) hf.2⟩
theorem formedL_down : ∀ (l : List Tm) (d : Nat), formedL l (d + 1) = true → formedL l d = true
  | [], _, _ => rfl
  | t :: l, d, hf => by
    simp only [formedL, Bool.and_eq_true] at hf ⊢
    exact ⟨formed_down t d hf.1, formedL_down l d hf.2⟩
end
theorem pi_args {h n : Int} {l : List Tm} {d : Nat} (hf : formed (.mk 2 h n l) d = true) : ∃ a b, l = [a, b] ∧ h = 0 ∧ n = 0 ∧ formed a (d + 1) = true ∧ formed b (d + 1) = true ∧ d ≤ 40 := by
  simp only [formed, Bool.and_eq_true, decide_eq_true_eq] at hf
  obtain ⟨⟨hd, hh⟩, hl⟩ := hf
  rcases headOk_yes 2 h n l.length hh with ⟨e, _⟩ | ⟨_, e, rfl, rfl⟩ | ⟨e, _⟩ | ⟨e, _⟩
  · omega
  · match l, e, hl with
    | [a, b], _, hl =>
      simp only [formedL, Bool.and_eq_true] at hl
      exact ⟨a, b, rfl, rfl, rfl, hl.1, hl.2.1, hd⟩
  · omega
  · omega
theorem proper_of {t : Tm} (h1 : sz t ≤ 600) (h2 : formed t 1 = true) : proper t = true := by
  unfold proper; simp [h1, h2]
theorem proper_formed' {t : Tm} (h : proper t = true) : sz t ≤ 600 ∧ formed t 1 = true := by
  unfold proper at h; simpa using h
theorem proper_pi {h n : Int} {l : List Tm} (hp : proper (.mk 2 h n l) = true) : ∃ a b, l = [a, b] ∧ h = 0 ∧ n = 0 ∧ proper a = true ∧ proper b = true := by
  obtain ⟨h1, h2⟩ := proper_formed' hp
  obtain ⟨a, b, rfl, rfl, rfl, ha, hb, _⟩ := pi_args h2
  simp [sz, szL] at h1
  exact ⟨a, b, rfl, rfl, rfl, proper_of (by omega) (formed_down _ _ ha), proper_of (by omega) (formed_down _ _ hb)⟩

theorem split_depth : ∀ (f : Nat) (t : Tm) (d : Nat), sz t ≤ f → formed t d = true → d + (splitOf t).1.length ≤ 40
  | 0, t, _, h, _ => by have := sz_pos t; omega
  | f + 1, .mk o h n l, d, hs, hf => by
    by_cases ho : o = 2
    · subst ho
      obtain ⟨a, b, rfl, rfl, rfl, _, hb, _⟩ := pi_args hf
      simp [sz, szL] at hs
      have := split_depth f b (d + 1) (by omega) hb
      rw [splitOf_pi]
      simp only [List.length_cons]; omega
    · rw [splitOf_else (t := .mk o h n l) ho]
      simp only [formed, Bool.and_eq_true, decide_eq_true_eq] at hf
      simp; omega
theorem split_all : ∀ (f : Nat) (t : Tm), sz t ≤ f → proper t = true → (∀ x ∈ (splitOf t).1, proper x = true) ∧ proper (splitOf t).2 = true ∧ (splitOf t).2.op ≠ 2 ∧ True
  | 0, t, h, _ => by have := sz_pos t; omega
  | f + 1, .mk o h n l, hs, hp => by
    by_cases ho : o = 2
    · subst ho
      obtain ⟨a, b, rfl, rfl, rfl, ha, hb⟩ := proper_pi hp
      simp [sz, szL] at hs
      obtain ⟨i1, i2, i3, i4⟩ := split_all f b (by omega) hb
      rw [splitOf_pi]
      refine ⟨?_, i2, i3, ?_⟩
      · intro x hx
        rcases List.mem_cons.1 hx with rfl | hx
        · exact ha
        · exact i1 x hx
      · trivial
    · rw [splitOf_else (t := .mk o h n l) ho]
      exact ⟨fun x hx => by simp at hx, hp, ho, trivial⟩
end Tm
/-- what Split returns -/
def splitOut (t : Tm) : List Tm × Tm × Int := if Tm.proper t then ((Tm.splitOf t).1, (Tm.splitOf t).2, 0) else ([], Tm.zero, 2)
/-- what has been split off so far, and what is left -/
structure SplitTo (t : Tm) (ts : List Tm) (u : Tm) : Prop where
  eq : Tm.splitOf t = (ts ++ (Tm.splitOf u).1, (Tm.splitOf u).2)
  ok : Tm.proper u = true
  sz : ts.length + Tm.sz u ≤ 600
  fit : ∀ x ∈ ts, x.fit
theorem SplitTo.start {t : Tm} (hp : Tm.proper t = true) : SplitTo t [] t := ⟨by simp, hp, by simpa using (Tm.proper_formed' hp).1, by simp⟩
theorem SplitTo.step {t u a b : Tm} {ts : List Tm} (h : SplitTo t ts u) (e : u = .mk 2 0 0 [a, b]) (ha : Tm.proper a = true) (hb : Tm.proper b = true) : SplitTo t (ts ++ [a]) b := by
  subst e
  refine ⟨?_, hb, ?_, ?_⟩
  · have := h.eq
    rw [Tm.splitOf_pi] at this
    rw [this]; simp
  · have := h.sz
    have := Tm.sz_pos a
    simp [Tm.sz, Tm.szL] at *; omega
  · intro x hx
    rcases List.mem_append.1 hx with hx | hx
    · exact h.fit x hx
    · rw [List.mem_singleton.1 hx]; exact Tm.proper_fit ha
theorem SplitTo.stop {t u : Tm} {ts : List Tm} (h : SplitTo t ts u) (hu : u.op ≠ 2) : Tm.splitOf t = (ts, u) := by
  have := h.eq
  rw [Tm.splitOf_else hu] at this
  simpa using this
end Go.Proofs.Yteoheeddjddekaa
