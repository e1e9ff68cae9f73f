/- Plain facts: Shift as the program does it is Shift as the reference does it. Nothing of the program is walked. -/
import Derived.Test.YtnooeaefldklaaaTmLow
namespace Go.Proofs.Ytnooeaefldklaaa
open Go.RowKit
namespace Tm

theorem headOk_var {o n : Int} {len : Nat} {h : Int} (e : headOk o h n len = true) (h1 : (h == 1) = true) : (o == 4) = true := by
  have h1' : h = 1 := by simpa using h1
  rcases headOk_yes o h n len e with ⟨_, _, rfl, _⟩ | ⟨_, _, rfl, _⟩ | ⟨_, _, rfl, _⟩ | ⟨rfl, _⟩
  · omega
  · omega
  · omega
  · rfl

theorem formed_parts {o h n : Int} {l : List Tm} {dp : Nat} (hf : formed (.mk o h n l) dp = true) : dp ≤ 40 ∧ headOk o h n l.length = true ∧ formedL l (dp + 1) = true := by
  simp only [formed, Bool.and_eq_true, decide_eq_true_eq] at hf
  exact ⟨hf.1.1, hf.1.2, hf.2⟩

mutual
theorem ren_moved (d fr : Int) : ∀ (t : Tm) (b : Int) (dp : Nat), formed t dp = true → ren (shF d fr) b t = moved d (fr + b) t
  | .mk o h n l, b, dp, hf => by
    obtain ⟨_, h2, h3⟩ := formed_parts hf
    simp only [ren, moved, renL_moved d fr l b o 0 (dp + 1) h3, shF]
    congr 1
    rcases h1 : (h == 1) with _ | _
    · simp
    · simp [headOk_var h2 h1]
theorem renL_moved (d fr : Int) : ∀ (l : List Tm) (b o : Int) (i dp : Nat), formedL l dp = true → renL (shF d fr) b o i l = movedL d (fr + b) o i l
  | [], _, _, _, _, _ => rfl
  | t :: l, b, o, i, dp, hf => by
    simp only [formedL, Bool.and_eq_true] at hf
    simp only [renL, movedL, ren_moved d fr t (b + belowN o i) dp hf.1, renL_moved d fr l b o (i + 1) dp hf.2, Int.add_assoc]
end

mutual
theorem err_low (d fr : Int) (hd : d < 0) : ∀ (t : Tm) (b e : Int) (dp : Nat), formed t dp = true → errT (shG d fr) b t e = if low (fr + b) (fr + b - d - 1) t then 27 else e
  | .mk o h n l, b, e, dp, hf => by
    obtain ⟨_, h2, h3⟩ := formed_parts hf
    have hn : n ≤ 9999 := by rcases headOk_yes o h n l.length h2 with ⟨_, _, _, rfl⟩ | ⟨_, _, _, rfl⟩ | ⟨_, _, _, rfl⟩ | ⟨_, _, _, _, h⟩ <;> omega
    simp only [errT, low, errL_low d fr hd l b o 0 _ (dp + 1) h3]
    rcases Bool.eq_false_or_eq_true (h == 1) with h1 | h1
    rotate_left
    · simp [shG, h1]
    · have ho := headOk_var h2 h1
      simp only [shG, h1, ho, Bool.true_and]
      by_cases c1 : fr + b ≤ n
      · by_cases c2 : n + d < fr + b
        · have c3 : n ≤ fr + b - d - 1 := by omega
          simp [c1, c2, c3]
        · have c3 : ¬ n ≤ fr + b - d - 1 := by omega
          have c4 : ¬ 9999 < n + d := by omega
          simp [c1, c2, c3, c4]
      · simp [c1]
theorem errL_low (d fr : Int) (hd : d < 0) : ∀ (l : List Tm) (b o : Int) (i : Nat) (e : Int) (dp : Nat), formedL l dp = true → errL (shG d fr) b o i l e = if lowL (fr + b) (fr + b - d - 1) o i l then 27 else e
  | [], _, _, _, _, _, _ => rfl
  | t :: l, b, o, i, e, dp, hf => by
    simp only [formedL, Bool.and_eq_true] at hf
    simp only [errL, lowL, err_low d fr hd t (b + belowN o i) e dp hf.1, errL_low d fr hd l b o (i + 1) _ dp hf.2]
    rw [show fr + (b + belowN o i) = fr + b + belowN o i from by omega, show fr + b + belowN o i - d - 1 = fr + b - d - 1 + belowN o i from by omega]
    rcases Bool.eq_false_or_eq_true (low (fr + b + belowN o i) (fr + b - d - 1 + belowN o i) t) with h1 | h1 <;> rcases Bool.eq_false_or_eq_true (lowL (fr + b) (fr + b - d - 1) o (i + 1) l) with h2 | h2 <;> simp [h1, h2]
end

theorem headOk_num {o h n n' : Int} {len : Nat} (e : headOk o h n len = true) (h1 : (h == 1) = true) : headOk o h n' len = (decide (0 ≤ n') && decide (n' ≤ 9999)) := by
  have ho := headOk_var e h1
  have ho' : o = 4 := by simpa using ho
  have h1' : h = 1 := by simpa using h1
  subst ho' h1'
  simp [headOk]

mutual
theorem moved_formed (d fr : Int) : ∀ (t : Tm) (b : Int) (dp : Nat), formed t dp = true → 0 ≤ fr + b → (d < 0 → low (fr + b) (fr + b - d - 1) t = false) →
    ∀ e, errT (shG d fr) b t e = if formed (moved d (fr + b) t) dp then e else 5
  | .mk o h n l, b, dp, hf, h0, hlow, e => by
    obtain ⟨h1, h2, h3⟩ := formed_parts hf
    have hn : 0 ≤ n ∧ n ≤ 9999 := by rcases headOk_yes o h n l.length h2 with ⟨_, _, _, rfl⟩ | ⟨_, _, _, rfl⟩ | ⟨_, _, _, rfl⟩ | ⟨_, _, _, _, _⟩ <;> omega
    have hlowL : d < 0 → lowL (fr + b) (fr + b - d - 1) o 0 l = false := fun hd => by
      have := hlow hd
      simp only [low, Bool.or_eq_false_iff] at this
      exact this.2
    have hlowN : d < 0 → (h == 1) = true → ¬ (fr + b ≤ n ∧ n ≤ fr + b - d - 1) := fun hd hh => by
      have := hlow hd
      have ho := headOk_var h2 hh
      simp only [low, Bool.or_eq_false_iff, hh, ho, Bool.true_and, Bool.and_eq_false_iff, decide_eq_false_iff_not] at this
      intro hc
      rcases this.1 with h | h
      · exact h hc.1
      · exact h hc.2
    simp only [errT, movedL_formed d fr l b o 0 (dp + 1) h3 h0 hlowL, moved, formed, movedL_length]
    rcases hh : (h == 1) with _ | _
    · simp [shG, hh, h1, h2]
    · have ho := headOk_var h2 hh
      rw [headOk_num h2 hh]
      simp only [shG, hh, ho, Bool.true_and]
      by_cases c1 : fr + b ≤ n
      · have c2 : ¬ n + d < fr + b := fun c => by
          by_cases hd : d < 0
          · exact hlowN hd hh ⟨c1, by omega⟩
          · omega
        by_cases c3 : 9999 < n + d
        · have c4 : ¬ n + d ≤ 9999 := by omega
          simp [c1, c2, c3, c4]
        · have c4 : n + d ≤ 9999 := by omega
          have c5 : 0 ≤ n + d := by omega
          simp [c1, c2, c3, c4, c5, h1]
      · simp [c1, h1, hn]
theorem movedL_formed (d fr : Int) : ∀ (l : List Tm) (b o : Int) (i dp : Nat), formedL l dp = true → 0 ≤ fr + b → (d < 0 → lowL (fr + b) (fr + b - d - 1) o i l = false) →
    ∀ e, errL (shG d fr) b o i l e = if formedL (movedL d (fr + b) o i l) dp then e else 5
  | [], _, _, _, _, _, _, _, _ => rfl
  | t :: l, b, o, i, dp, hf, h0, hlow, e => by
    simp only [formedL, Bool.and_eq_true] at hf
    have hb := belowN_bd o i
    have l1 : d < 0 → low (fr + (b + belowN o i)) (fr + (b + belowN o i) - d - 1) t = false := fun hd => by
      have := hlow hd
      simp only [lowL, Bool.or_eq_false_iff] at this
      rw [show fr + (b + belowN o i) = fr + b + belowN o i from by omega, show fr + b + belowN o i - d - 1 = fr + b - d - 1 + belowN o i from by omega]
      exact this.1
    have l2 : d < 0 → lowL (fr + b) (fr + b - d - 1) o (i + 1) l = false := fun hd => by
      have := hlow hd
      simp only [lowL, Bool.or_eq_false_iff] at this
      exact this.2
    simp only [errL, movedL, formedL, moved_formed d fr t (b + belowN o i) dp hf.1 (by omega) l1, movedL_formed d fr l b o (i + 1) dp hf.2 h0 l2, Int.add_assoc]
    rcases formed (moved d (fr + (b + belowN o i)) t) dp with _ | _ <;> rcases formedL (movedL d (fr + b) o (i + 1) l) dp with _ | _ <;> rfl
end

mutual
theorem moved_sz (d : Int) : ∀ (t : Tm) (fr : Int), sz (moved d fr t) = sz t
  | .mk o h n l, fr => by simp only [moved, sz, movedL_sz d l fr o 0]
theorem movedL_sz (d : Int) : ∀ (l : List Tm) (fr o : Int) (i : Nat), szL (movedL d fr o i l) = szL l
  | [], _, _, _ => rfl
  | t :: l, fr, o, i => by simp only [movedL, szL, moved_sz d t, movedL_sz d l fr o (i + 1)]
end
end Tm

/-- what the reference's Shift returns -/
def shiftRef (d fr : Int) (t : Tm) : Tm × Int :=
  if shiftArgs d fr t then (if d < 0 ∧ Tm.low fr (fr - d - 1) t = true then (Tm.zero, 27) else if Tm.proper (Tm.moved d fr t) then (Tm.moved d fr t, 0) else (Tm.zero, 5)) else (Tm.zero, 2)

theorem shift_same (d fr : Int) (t : Tm) : shiftOut d fr t = shiftRef d fr t := by
  unfold shiftOut shiftRef
  rcases hs : shiftArgs d fr t with _ | _
  · rfl
  · have hs' := hs
    simp only [shiftArgs, Bool.and_eq_true, decide_eq_true_eq] at hs'
    obtain ⟨⟨⟨⟨hp, hd0⟩, hd1⟩, hf0⟩, hf1⟩ := hs'
    have hpf := hp
    simp only [Tm.proper, Bool.and_eq_true, decide_eq_true_eq] at hpf
    have hr := Tm.ren_moved d fr t 0 1 hpf.2
    rw [Int.add_zero] at hr
    have hpm : Tm.proper (Tm.moved d fr t) = Tm.formed (Tm.moved d fr t) 1 := by
      unfold Tm.proper
      rw [Tm.moved_sz, decide_eq_true hpf.1, Bool.true_and]
    simp only [if_true]
    rw [hr, hpm]
    by_cases hlow : d < 0 ∧ Tm.low fr (fr - d - 1) t = true
    · have he := Tm.err_low d fr hlow.1 t 0 0 1 hpf.2
      rw [Int.add_zero, hlow.2] at he
      rw [if_pos hlow, he]
      rfl
    · rw [if_neg hlow]
      have he := Tm.moved_formed d fr t 0 1 hpf.2 (by omega) (fun hd => by
        rw [Int.add_zero]
        rcases h : Tm.low fr (fr - d - 1) t with _ | _
        · rfl
        · exact absurd ⟨hd, h⟩ hlow) 0
      rw [Int.add_zero] at he
      rw [he]
      rcases Tm.formed (Tm.moved d fr t) 1 with _ | _ <;> rfl
end Go.Proofs.Ytnooeaefldklaaa
