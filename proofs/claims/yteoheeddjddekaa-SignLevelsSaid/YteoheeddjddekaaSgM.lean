/- Contracts: slices.Max of an ascending list, sign.levelOf, Level; the reference's level, Level. -/
import Derived.Test.YteoheeddjddekaaSgK
import Derived.Test.YteoheeddjddekaaSgH
namespace Go.Proofs.Yteoheeddjddekaa
open Go.RowKit
set_option linter.unusedSimpArgs false
set_option linter.unusedVariables false

set_option maxHeartbeats 2000000 in
set_option maxRecDepth 100000 in
theorem max_any (xs : List Int) (hne : xs ≠ []) (hlen : xs.length ≤ 1000) (ha : xs.Pairwise (· < ·)) (v : Value) (w : World) (hv : Ints w v xs) :
    Calls Try.prog 26 #[v] w fun e w' => e = .returned (.int .i64 (xs.getLast hne)) ∧ w = w' := by
  obtain ⟨ao, b, off, len, cap, I⟩ := hv
  obtain rfl := I.hv
  have hxl := I.hlen
  have hpos : 0 < xs.length := List.length_pos_iff.2 hne
  obtain ⟨q, rfl⟩ : ∃ q, len = q + 1 := ⟨len - 1, by omega⟩
  obtain rfl := I.hao (by omega)
  have hil := I.hl
  have hir := I.hr
  have hlast : xs.getLast hne = xs[q]'(by omega) := by rw [List.getLast_eq_getElem]; congr 1; omega
  have c0 := I.cells 0 hpos
  simp only [Nat.add_zero] at c0
  have HI := Lib.hid I
  have HL := Lib.hid hlast
  have HA := Lib.hid ha
  have HX := Lib.hid hxl
  clear I hlast ha
  go_enter Try.func26, Try.ntmps26
  go_wp2
  go_loopw [3, 4] (fun m i wr => ∃ k : Nat, ∃ hk : k < q + 1, i = .int .i64 ((k : Int) + 1) ∧ m = .int .i64 (xs[k]'(by rw [HX.out]; exact hk)) ∧ wr = w) (fun _ i _ => q + 2 - (RowKit.intOf i).toNat)
  case atStart => exact ⟨0, by omega, rfl, rfl, rfl⟩
  case round =>
    obtain ⟨k, hk, rfl, rfl, rfl⟩ := hrel
    by_cases hlt : k + 1 < q + 1
    · have hk1 : k + 1 < xs.length := by rw [HX.out]; exact hlt
      have hc := HI.out.cells (k + 1) hk1
      have hlt1 : xs[k]'(by omega) < xs[k + 1] := List.pairwise_iff_getElem.1 HA.out k (k + 1) (by omega) hk1 (by omega)
      obtain ⟨y, hy⟩ : ∃ y, y = xs[k + 1] := ⟨_, rfl⟩
      obtain ⟨x, hx⟩ : ∃ x, x = xs[k]'(by omega) := ⟨_, rfl⟩
      rw [← hy, ← hx] at hlt1
      rw [← hy] at hc
      rw [← hx]
      have HY := Lib.hid hy
      have hmx : max x y = y := by omega
      clear hy hx
      go_wp2
      go_roundw
      case rel => exact ⟨k + 1, by omega, by go_num, by rw [← HY.out], trivial⟩
      case measure => simp [RowKit.intOf]; omega
    · obtain rfl : k = q := by omega
      go_wp2
      go_ret
      exact ⟨by rw [HL.out]; rfl, rfl⟩

/-- the level of a term: 1 a kind, 2 a type, 3 an object, 0 none -/
def lvlN (l : List Dc) : Nat → Tm → Int
  | 0, _ => 0
  | f + 1, .mk o h n ar =>
    if o = 1 then 1
    else if o = 2 then (match ar with | [_, b] => if lvlN l f b = 3 then 0 else lvlN l f b | _ => 0)
    else if o = 3 then (match ar with | [b] => if lvlN l f b = 3 then 3 else 0 | _ => 0)
    else if h = 2 ∧ Tm.kind (clAt l n.toNat) = true then 2 else 3
def lvl (l : List Dc) (t : Tm) : Int := lvlN l (Tm.sz t) t
theorem lvlN_same (l : List Dc) : ∀ (f g : Nat) (t : Tm), Tm.sz t ≤ f → Tm.sz t ≤ g → lvlN l f t = lvlN l g t
  | 0, _, t, h, _ => by have := Tm.sz_pos t; omega
  | _, 0, t, _, h => by have := Tm.sz_pos t; omega
  | f + 1, g + 1, .mk o h n ar, hf, hg => by
    simp only [lvlN]
    split
    · rfl
    · split
      · match ar, hf, hg with
        | [], _, _ => rfl
        | [_], _, _ => rfl
        | [a, b], hf, hg =>
          have e : lvlN l f b = lvlN l g b := lvlN_same l f g b (by simp [Tm.sz, Tm.szL] at hf; omega) (by simp [Tm.sz, Tm.szL] at hg; omega)
          simp only [e]
        | _ :: _ :: _ :: _, _, _ => rfl
      · split
        · match ar, hf, hg with
          | [], _, _ => rfl
          | [b], hf, hg =>
            have e : lvlN l f b = lvlN l g b := lvlN_same l f g b (by simp [Tm.sz, Tm.szL] at hf; omega) (by simp [Tm.sz, Tm.szL] at hg; omega)
            simp only [e]
          | _ :: _ :: _, _, _ => rfl
        · rfl
theorem lvl_type (l : List Dc) (h n : Int) (ar : List Tm) : lvl l (.mk 1 h n ar) = 1 := by
  unfold lvl; rw [show Tm.sz (.mk 1 h n ar) = Tm.szL ar + 1 by simp only [Tm.sz]; omega]; simp [lvlN]
theorem lvl_pi (l : List Dc) (h n : Int) (a b : Tm) : lvl l (.mk 2 h n [a, b]) = if lvl l b = 3 then 0 else lvl l b := by
  unfold lvl; rw [show Tm.sz (.mk 2 h n [a, b]) = (Tm.sz a + Tm.sz b) + 1 by simp [Tm.sz, Tm.szL]; omega]
  simp only [lvlN]
  rw [lvlN_same l (Tm.sz a + Tm.sz b) (Tm.sz b) b (by omega) (Nat.le_refl _)]
  simp
theorem lvl_lam (l : List Dc) (h n : Int) (b : Tm) : lvl l (.mk 3 h n [b]) = if lvl l b = 3 then 3 else 0 := by
  unfold lvl; rw [show Tm.sz (.mk 3 h n [b]) = Tm.sz b + 1 by simp [Tm.sz, Tm.szL]; omega]
  simp [lvlN]
theorem lvl_app (l : List Dc) (o h n : Int) (ar : List Tm) (h1 : o ≠ 1) (h2 : o ≠ 2) (h3 : o ≠ 3) : lvl l (.mk o h n ar) = if h = 2 ∧ Tm.kind (clAt l n.toNat) = true then 2 else 3 := by
  unfold lvl; rw [show Tm.sz (.mk o h n ar) = Tm.szL ar + 1 by simp only [Tm.sz]; omega]; simp only [lvlN]
  rw [if_neg h1, if_neg h2, if_neg h3]
theorem lvl_bd (l : List Dc) : ∀ (f : Nat) (t : Tm), 0 ≤ lvlN l f t ∧ lvlN l f t ≤ 3
  | 0, _ => by simp [lvlN]
  | f + 1, .mk o h n ar => by
    simp only [lvlN]
    split
    · omega
    · split
      · split
        · have := lvl_bd l f; split
          · omega
          · exact this _
        · omega
      · split
        · split
          · split <;> omega
          · omega
        · split <;> omega
end Go.Proofs.Yteoheeddjddekaa
