/- Plain functions on lists of bytes: what package lexis computes (names, cutting, skipping, tokens), and plain facts on them. Nothing of the program is imported. -/
import Derived.Laws.AppendOwn
namespace Go.Proofs.Yteoheeddjddekaa.Lex

abbrev Bytes := List UInt8

def smI (c : Int) : Bool := decide (97 ≤ c) && decide (c ≤ 122)
def cpI (c : Int) : Bool := decide (65 ≤ c) && decide (c ≤ 90)
def ltI (c : Int) : Bool := smI c || cpI c
def dgI (c : Int) : Bool := decide (48 ≤ c) && decide (c ≤ 57)
def nbI (c : Int) : Bool := ltI c || dgI c || c == 95 || c == 39
def blI (c : Int) : Bool := c == 32 || c == 9 || c == 10 || c == 13
def sgI (c : Int) : Bool := c == 58 || c == 46 || c == 123 || c == 125 || c == 91 || c == 93 || c == 40 || c == 41 || c == 43 || c == 45 || c == 42 || c == 124 || c == 61 || c == 60

def sm (b : UInt8) : Bool := smI b.toNat
def cp (b : UInt8) : Bool := cpI b.toNat
def lt (b : UInt8) : Bool := ltI b.toNat
def dg (b : UInt8) : Bool := dgI b.toNat
def nb (b : UInt8) : Bool := nbI b.toNat
def bl (b : UInt8) : Bool := blI b.toNat
def sg (b : UInt8) : Bool := sgI b.toNat

/-- how many name bytes a text begins with -/
def run : Bytes → Nat
  | [] => 0
  | b :: r => if nb b then run r + 1 else 0

theorem run_le : ∀ l : Bytes, run l ≤ l.length
  | [] => Nat.le_refl _
  | b :: r => by have := run_le r; simp only [run]; split <;> simp <;> omega

def isName (l : Bytes) : Bool := decide (1 ≤ l.length) && decide (l.length ≤ 16) && lt (l.headD 0) && run l == l.length
def isSmall (l : Bytes) : Bool := isName l && sm (l.headD 0)
def isCapital (l : Bytes) : Bool := isName l && cp (l.headD 0)

/-- the value of a text of digits, and whether it is a number without superfluous zeros up to 10000 -/
def digVal (l : Bytes) : Nat := l.foldl (fun n b => 10 * n + (b.toNat - 48)) 0
def isNum (l : Bytes) : Bool := decide (1 ≤ l.length) && decide (l.length ≤ 5) && !(l.headD 0 == 48 && decide (1 < l.length)) && l.all dg && decide (digVal l ≤ 10000)

def nameK (l : Bytes) : Nat := if isSmall l then 1 else if isCapital l then 2 else 0
def holeK (l : Bytes) : Nat := if l == [95] then 3 else 0
def numK (l : Bytes) : Nat := if isNum l then 6 else 0
def dirK (l : Bytes) : Nat := if isSmall l then 5 else 0
def signC : Bytes → Nat × Nat
  | [] => (0, 0)
  | b :: r => if b == 60 then (if r.headD 0 == 45 then (4, 2) else (0, 0)) else if b == 45 then (if r.headD 0 == 62 then (4, 2) else (4, 1)) else (4, 1)

/-- the kind (0: none) and the length of the token with which a text begins -/
def cut : Bytes → Nat × Nat
  | [] => (0, 0)
  | b :: r =>
    let l := b :: r
    if lt b then (nameK (l.take (run l)), run l)
    else if b == 95 then (holeK (l.take (run l)), run l)
    else if dg b then (numK (l.take (run l)), run l)
    else if b == 37 then (dirK (r.take (run r)), 1 + run r)
    else if sg b then signC l
    else (0, 0)

/-- is what stands behind a percent sign such that a comment begins? -/
def comm : Bytes → Bool
  | [] => true
  | b :: _ => b == 37 || bl b

/-- how many bytes are skipped (true: within a comment) -/
def skip : Bool → Bytes → Nat
  | _, [] => 0
  | true, b :: r => 1 + (if b == 10 then skip false r else skip true r)
  | false, b :: r => if bl b then 1 + skip false r else if b == 37 && comm r then 1 + skip true r else 0

theorem skip_le : ∀ (c : Bool) (l : Bytes), skip c l ≤ l.length
  | _, [] => Nat.le_refl _
  | true, b :: r => by have := skip_le false r; have := skip_le true r; simp only [skip]; split <;> simp <;> omega
  | false, b :: r => by
    have := skip_le false r; have := skip_le true r; simp only [skip]
    split
    · simp; omega
    · split
      · simp; omega
      · simp

structure Tok where
  kind : Nat
  text : Bytes
  pos : Nat

/-- the tokens of what is left of a source from a position on (the first byte, if any, is neither a blank nor in a comment); the end is not among them; or the position of what is no token -/
def toksF : Nat → Bytes → Nat → List Tok × Option Nat
  | 0, _, _ => ([], none)
  | f + 1, l, p => if l.isEmpty then ([], none) else
    if (cut l).1 == 0 then ([], some p) else
    let z := skip false (l.drop (cut l).2)
    let t := toksF f ((l.drop (cut l).2).drop z) (p + (cut l).2 + z)
    (⟨(cut l).1, l.take (cut l).2, p⟩ :: t.1, t.2)

theorem cut_pos (l : Bytes) (h : (cut l).1 ≠ 0) : 1 ≤ (cut l).2 ∧ (cut l).2 ≤ l.length := by
  match l with
  | [] => simp [cut] at h
  | b :: r =>
    have h1 := run_le (b :: r)
    have h2 := run_le r
    simp only [List.length_cons] at h1 ⊢
    have nbb : lt b = true ∨ (b == 95) = true ∨ dg b = true → run (b :: r) = run r + 1 := by
      intro hh
      have : nb b = true := by
        rcases hh with hh | hh | hh
        · simp [nb, nbI, lt] at *; simp [hh]
        · have := beq_iff_eq.1 hh; subst this; decide
        · simp [nb, nbI, dg] at *; simp [hh]
      simp [run, this]
    unfold cut at h ⊢
    simp only at h ⊢
    split at h
    · rename_i hl; rw [nbb (.inl hl)]; simp [hl]; omega
    · split at h
      · rename_i h0 hl; rw [nbb (.inr (.inl hl))]; simp [h0, hl]; omega
      · split at h
        · rename_i h0 h1' hl; rw [nbb (.inr (.inr hl))]; simp [h0, h1', hl]; omega
        · split at h
          · rename_i h0 h1' h2' hl; simp [h0, h1', h2', hl]; omega
          · split at h
            · rename_i h0 h1' h2' h3' hl
              simp only [h0, h1', h2', h3', hl, if_true]
              unfold signC at h ⊢
              match r with
              | [] => simp at h ⊢; split at h <;> simp_all
              | c :: r' =>
                by_cases e1 : b = 60 <;> by_cases e2 : c = 45 <;> by_cases e3 : b = 45 <;> by_cases e4 : c = 62 <;> simp_all
            · simp at h

theorem toksF_more : ∀ (f g : Nat) (l : Bytes) (p : Nat), l.length < f → l.length < g → toksF f l p = toksF g l p
  | 0, _, _, _, h, _ => by omega
  | _ + 1, 0, _, _, _, h => by omega
  | f + 1, g + 1, l, p, hf, hg => by
    unfold toksF
    split
    · rfl
    · split
      · rfl
      · rename_i h1 h2
        have := cut_pos l (by simpa using h2)
        have e := toksF_more f g ((l.drop (cut l).2).drop (skip false (l.drop (cut l).2))) (p + (cut l).2 + skip false (l.drop (cut l).2)) (by simp; omega) (by simp; omega)
        simp only [e]

/-- the tokens of what is left, and the position of what is no token -/
def toks (l : Bytes) (p : Nat) : List Tok × Option Nat := toksF (l.length + 1) l p

theorem toks_nil (p : Nat) : toks [] p = ([], none) := rfl
theorem toks_bad (l : Bytes) (p : Nat) (h0 : l ≠ []) (h : (cut l).1 = 0) : toks l p = ([], some p) := by
  unfold toks toksF; simp [h0, h]
theorem toks_good (l : Bytes) (p : Nat) (h0 : l ≠ []) (h : (cut l).1 ≠ 0) (z : Nat) (hz : skip false (l.drop (cut l).2) = z) :
    toks l p = (⟨(cut l).1, l.take (cut l).2, p⟩ :: (toks (l.drop ((cut l).2 + z)) (p + (cut l).2 + z)).1, (toks (l.drop ((cut l).2 + z)) (p + (cut l).2 + z)).2) := by
  subst hz
  have := cut_pos l h
  unfold toks
  conv => lhs; unfold toksF
  have e := toksF_more l.length ((l.drop ((cut l).2 + skip false (l.drop (cut l).2))).length + 1) (l.drop ((cut l).2 + skip false (l.drop (cut l).2))) (p + (cut l).2 + skip false (l.drop (cut l).2)) (by simp; omega) (by omega)
  simp [h0, h, List.drop_drop, e]

/-- the tokens of a whole source without the end, and the position of what is no token -/
def source (l : Bytes) : List Tok × Option Nat := toks (l.drop (skip false l)) (skip false l)

end Go.Proofs.Yteoheeddjddekaa.Lex
