/- Constants and signatures, as plain data: when a signature is formed, as the program asks it and as the reference does. -/
import Derived.Test.YteoheeddjddekaaTmHeads
import Derived.Test.YteoheeddjddekaaLexSpec
namespace Go.Proofs.Yteoheeddjddekaa
open Go.RowKit
/-- a constant: its name, its class, how many of its arguments are implicit -/
structure Dc where
  nm : ByteArray
  cl : Tm
  im : Int

namespace Tm
/-- what the outermost TPis are around, and how many they are (at most f steps) -/
def resN : Nat → Tm → Tm × Nat
  | 0, t => (t, 0)
  | f + 1, .mk o h n l => if o = 2 then (match l with | [_, b] => ((resN f b).1, (resN f b).2 + 1) | _ => (.mk o h n l, 0)) else (.mk o h n l, 0)
def res (t : Tm) : Tm × Nat := resN (sz t) t
theorem resN_same : ∀ (f g : Nat) (t : Tm), sz t ≤ f → sz t ≤ g → resN f t = resN g t
  | 0, _, t, h, _ => by have := sz_pos t; omega
  | _, 0, t, _, h => by have := sz_pos t; omega
  | f + 1, g + 1, .mk o h n l, hf, hg => by
    simp only [resN]
    split
    · match l, hf, hg with
      | [], _, _ => rfl
      | [_], _, _ => rfl
      | [a, b], hf, hg =>
        have e : resN f b = resN g b := resN_same f g b (by simp [sz, szL] at hf; omega) (by simp [sz, szL] at hg; omega)
        simp only [e]
      | _ :: _ :: _ :: _, _, _ => rfl
    · rfl
theorem res_pi (h n : Int) (a b : Tm) : res (.mk 2 h n [a, b]) = ((res b).1, (res b).2 + 1) := by
  have e : sz (.mk 2 h n [a, b]) = (sz a + sz b) + 1 := by simp [sz, szL]; omega
  unfold res
  rw [e]
  simp only [resN]
  rw [resN_same (sz a + sz b) (sz b) b (by omega) (Nat.le_refl _)]
  simp
theorem res_else {t : Tm} (h : t.op ≠ 2) : res t = (t, 0) := by
  obtain ⟨o, hd, n, l⟩ := t
  unfold res
  obtain ⟨f, hf⟩ : ∃ f, sz (.mk o hd n l) = f + 1 := ⟨sz (.mk o hd n l) - 1, by have := sz_pos (.mk o hd n l); omega⟩
  rw [hf]
  simp only [resN]
  rw [if_neg (show ¬ o = 2 from h)]
theorem res_bad {h n : Int} {l : List Tm} (hl : l.length ≠ 2) : res (.mk 2 h n l) = (.mk 2 h n l, 0) := by
  unfold res
  rw [show sz (.mk 2 h n l) = szL l + 1 by simp only [sz]; omega]
  simp only [resN]
  match l, hl with
  | [], _ => rfl
  | [_], _ => rfl
  | [_, _], h => simp at h
  | _ :: _ :: _ :: _, _ => rfl
theorem res_lt : ∀ (f : Nat) (t : Tm), sz t ≤ f → (res t).2 + sz (res t).1 ≤ sz t
  | 0, t, h => by have := sz_pos t; omega
  | f + 1, .mk o h n l, hs => by
    by_cases ho : o = 2
    · subst ho
      by_cases hl : l.length = 2
      · obtain ⟨a, b, rfl⟩ : ∃ a b, l = [a, b] := by
          match l, hl with
          | [a, b], _ => exact ⟨a, b, rfl⟩
        rw [res_pi]
        have := res_lt f b (by simp [sz, szL] at hs; omega)
        simp only [sz, szL]; omega
      · rw [res_bad hl]; simp
    · rw [res_else (t := .mk o h n l) ho]; simp
/-- the form of a kind -/
def kind (t : Tm) : Bool := (res t).1.op == 1

mutual
/-- with binders around it, a term consists of bound variables and of constants below N -/
def over (N : Int) : Int → Tm → Bool
  | b, .mk o h n l => !((h == 1 && decide (b ≤ n)) || (h == 2 && decide (N ≤ n)) || h == 3) && overL N b o 0 l
def overL (N : Int) : Int → Int → Nat → List Tm → Bool
  | _, _, _, [] => true
  | b, o, i, t :: l => over N (b + belowN o i) t && overL N b o (i + 1) l
end

theorem rsel_none {x b o h n : Int} (e : ¬(o = 4 ∧ h = x)) : rsel x b o h n = none := by
  unfold rsel
  rw [if_neg]
  simpa using e
mutual
theorem over_iff (N : Int) : ∀ (b : Int) (t : Tm) (d : Nat), formed t d = true → (over N b t = true ↔ hds (rsel 1) b t = [] ∧ hds (rsel 3) b t = [] ∧ ∀ x ∈ hds (rsel 2) b t, x < N)
  | b, .mk o h n l, d, e => by
    simp only [formed, Bool.and_eq_true] at e
    have ih := overL_iff N b o 0 l (d + 1) e.2
    simp only [over, hds, Bool.and_eq_true, List.append_eq_nil_iff, List.mem_append]
    rw [ih]
    have key : (!((h == 1 && decide (b ≤ n)) || (h == 2 && decide (N ≤ n)) || h == 3)) = true ↔ (rsel 1 b o h n).toList = [] ∧ (rsel 3 b o h n).toList = [] ∧ ∀ x ∈ (rsel 2 b o h n).toList, x < N := by
      rcases headOk_yes o h n l.length e.1.2 with ⟨h1, h2, h3, h4⟩ | ⟨h1, h2, h3, h4⟩ | ⟨h1, h2, h3, h4⟩ | ⟨h1, h2, h3, h4, h5⟩
      · subst h1 h3; simp [rsel]
      · subst h1 h3; simp [rsel]
      · subst h1 h3; simp [rsel]
      · subst h1
        by_cases e1 : h = 1
        · subst e1; by_cases e2 : b ≤ n <;> simp [rsel, e2] <;> omega
        · by_cases e2 : h = 2
          · subst e2; simp [rsel]
          · have e3 : h = 3 := by omega
            subst e3; simp [rsel]
    rw [key]
    constructor
    · rintro ⟨⟨k1, k2, k3⟩, k4, k5, k6⟩
      exact ⟨⟨k1, k4⟩, ⟨k2, k5⟩, fun x hx => hx.elim (k3 x) (k6 x)⟩
    · rintro ⟨⟨k1, k4⟩, ⟨k2, k5⟩, k⟩
      exact ⟨⟨k1, k2, fun x hx => k x (.inl hx)⟩, k4, k5, fun x hx => k x (.inr hx)⟩
theorem overL_iff (N : Int) : ∀ (b o : Int) (i : Nat) (l : List Tm) (d : Nat), formedL l d = true → (overL N b o i l = true ↔ hdsL (rsel 1) b o i l = [] ∧ hdsL (rsel 3) b o i l = [] ∧ ∀ x ∈ hdsL (rsel 2) b o i l, x < N)
  | _, _, _, [], _, _ => by simp [overL, hdsL]
  | b, o, i, t :: l, d, e => by
    simp only [formedL, Bool.and_eq_true] at e
    have h1 := over_iff N (b + belowN o i) t d e.1
    have h2 := overL_iff N b o (i + 1) l d e.2
    simp only [overL, hdsL, Bool.and_eq_true, List.append_eq_nil_iff, List.mem_append]
    rw [h1, h2]
    constructor
    · rintro ⟨⟨k1, k2, k3⟩, k4, k5, k6⟩
      exact ⟨⟨k1, k4⟩, ⟨k2, k5⟩, fun x hx => hx.elim (k3 x) (k6 x)⟩
    · rintro ⟨⟨k1, k4⟩, ⟨k2, k5⟩, k⟩
      exact ⟨⟨k1, k2, fun x hx => k x (.inl hx)⟩, k4, k5, fun x hx => k x (.inr hx)⟩
end
theorem insL_nil (xs : List Int) : insL [] xs = [] ↔ xs = [] := by
  constructor
  · intro h
    cases xs with
    | nil => rfl
    | cons a xs =>
      have := (mem_insL a (a :: xs) []).2 (.inr (by simp))
      rw [h] at this; simp at this
  · rintro rfl; rfl
theorem asc_last : ∀ (l : List Int) (h : l ≠ []) (N : Int), l.Pairwise (· < ·) → (l.getLast h < N ↔ ∀ x ∈ l, x < N)
  | [a], _, N, _ => by simp
  | a :: b :: l, _, N, hp => by
    rw [List.pairwise_cons] at hp
    rw [List.getLast_cons (by simp), asc_last (b :: l) (by simp) N hp.2]
    constructor
    · intro h x hx
      rcases List.mem_cons.1 hx with rfl | hx
      · have h1 := h b (by simp); have h2 := hp.1 b (by simp); omega
      · exact h x hx
    · intro h x hx; exact h x (List.mem_cons_of_mem _ hx)
/-- a class without free variables, metavariables and constants from N on, as the reference asks it -/
def closed (N : Int) (t : Tm) : Bool := (insL [] (hds (rsel 1) 0 t)).isEmpty && (insL [] (hds (rsel 3) 0 t)).isEmpty && (insL [] (hds (rsel 2) 0 t)).all (fun x => decide (x < N))
theorem closed_over {N : Int} {t : Tm} (hp : proper t = true) : closed N t = over N 0 t := by
  rw [Bool.eq_iff_iff, over_iff N 0 t 1 (by unfold proper at hp; simp only [Bool.and_eq_true] at hp; exact hp.2)]
  unfold closed
  simp only [Bool.and_eq_true, List.isEmpty_iff, insL_nil, List.all_eq_true, decide_eq_true_eq, mem_insL]
  constructor
  · rintro ⟨⟨k1, k2⟩, k3⟩; exact ⟨k1, k2, fun x hx => k3 x (.inr hx)⟩
  · rintro ⟨k1, k2, k3⟩; exact ⟨⟨k1, k2⟩, fun x hx => k3 x (hx.resolve_left (by simp))⟩
end Tm

namespace Sg
def typeWord : ByteArray := ⟨#[116, 121, 112, 101]⟩
def nameOk (s : ByteArray) : Bool := Lex.isSmall s.data.toList && !decide (s = typeWord)
/-- a constant may come behind others, but for its name -/
def next (l : List Dc) (d : Dc) : Bool :=
  nameOk d.nm && Tm.proper d.cl && Tm.over l.length 0 d.cl && decide (0 ≤ d.im) && decide (d.im ≤ (Tm.res d.cl).2) &&
  ((Tm.res d.cl).1.op == 1 || ((Tm.res d.cl).1.hd == 2 && Tm.kind ((l.map Dc.cl).getD (Tm.res d.cl).1.n.toNat Tm.zero)))
/-- the first k constants may come each behind those before it -/
def nextTo (l : List Dc) (k : Nat) : Bool := (List.range k).all fun i => match l[i]? with | some d => next (l.take i) d | none => true
theorem nextTo_zero (l : List Dc) : nextTo l 0 = true := rfl
theorem nextTo_step (l : List Dc) (k : Nat) (h : k < l.length) : nextTo l (k + 1) = (nextTo l k && next (l.take k) l[k]) := by
  unfold nextTo
  rw [List.range_succ, List.all_append]
  simp [List.getElem?_eq_getElem h]
theorem nextTo_of_le (l : List Dc) {j k : Nat} (h : j ≤ k) (e : nextTo l k = true) : nextTo l j = true := by
  unfold nextTo at *
  rw [List.all_eq_true] at *
  intro x hx
  exact e x (List.mem_range.2 (Nat.lt_of_lt_of_le (List.mem_range.1 hx) h))
/-- no name stands twice -/
def once (l : List Dc) : Bool := decide ((l.map Dc.nm).Nodup)
/-- a signature is formed -/
def formed (l : List Dc) : Bool := decide (l.length ≤ 100) && nextTo l l.length && once l
end Sg
end Go.Proofs.Yteoheeddjddekaa
