/- Long forms as plain terms, and how they are built in memory. * The contract of long. * The contract of Long. * The contract of the reference's long. * The parts of awake: con, vr, lam, gives; and what Subst and Long make of the examples. -/
import Derived.Test.YtieakippgeehgaaSbGc
import Derived.Deep.RegionHeld3
import Derived.Deep.AppendLies
import Derived.Test.YtieakippgeehgaaTmGd
namespace Go.Proofs.Ytieakippgeehgaa.Sb
open Go.RowKit
set_option linter.unusedSimpArgs false
set_option linter.unusedVariables false

/-- so many TLams around a term -/
def lams : Nat → Tm → Tm
  | 0, t => t
  | k + 1, t => .mk 3 0 0 [lams k t]
mutual
/-- the long form of a head -/
def long : Int → Int → Sp.Tm → Tm
  | h, n, .mk _ l => lams l.length (.mk 4 h (if h == 1 then n + l.length else n) (longL l.length 0 l))
def longL : Nat → Nat → List Sp.Tm → List Tm
  | _, _, [] => []
  | c, i, a :: l => long 1 ((c : Int) - 1 - i) a :: longL c (i + 1) l
end
theorem longL_snoc (c : Nat) : ∀ (l : List Sp.Tm) (i : Nat) (a : Sp.Tm), longL c i (l ++ [a]) = longL c i l ++ [long 1 ((c : Int) - 1 - ((i + l.length : Nat) : Int)) a]
  | [], i, a => by simp [longL]
  | b :: l, i, a => by
    simp only [List.cons_append, longL, longL_snoc c l (i + 1) a, List.length_cons]
    rw [show i + 1 + l.length = i + (l.length + 1) by omega]
theorem longL_length (c : Nat) : ∀ (l : List Sp.Tm) (i : Nat), (longL c i l).length = l.length
  | [], _ => rfl
  | _ :: l, i => by simp only [longL, List.length_cons, longL_length c l (i + 1)]
/-- the first k parts of the spine -/
def longTo (l : List Sp.Tm) (k : Nat) : List Tm := longL l.length 0 (l.take k)
theorem longTo_zero (l : List Sp.Tm) : longTo l 0 = [] := by simp [longTo, longL]
theorem longTo_length (l : List Sp.Tm) (k : Nat) (h : k ≤ l.length) : (longTo l k).length = k := by
  rw [longTo, longL_length, List.length_take]; omega
theorem longTo_step (l : List Sp.Tm) (k : Nat) (h : k < l.length) : longTo l (k + 1) = longTo l k ++ [long 1 ((l.length : Int) - 1 - k) l[k]] := by
  rw [longTo, List.take_succ_eq_append_getElem h, longL_snoc, List.length_take, Nat.min_eq_left (by omega), Nat.zero_add]; rfl
theorem longTo_all (l : List Sp.Tm) (k : Nat) (h : l.length ≤ k) : longTo l k = longL l.length 0 l := by
  rw [longTo, List.take_of_length_le h]

theorem lams_fit : ∀ (k : Nat) (t : Tm), t.fit → (lams k t).fit
  | 0, t, h => h
  | k + 1, t, _ => by simp only [lams]; exact ⟨⟨by simp [Tm.op], by simp [Tm.op]⟩, ⟨by simp [Tm.hd], by simp [Tm.hd]⟩, ⟨by simp [Tm.n], by simp [Tm.n]⟩⟩
theorem length_sz (cn : Int) (l : List Sp.Tm) : l.length + 1 ≤ Sp.Tm.sz (.mk cn l) := by
  have : ∀ m : List Sp.Tm, m.length ≤ Sp.Tm.szL m := by
    intro m
    induction m with
    | nil => simp
    | cons a m ih => have := Sp.Tm.sz_pos a; simp only [List.length_cons, Sp.Tm.szL]; omega
  have := this l
  simp only [Sp.Tm.sz]; omega
theorem long_fit {h n cn : Int} {l : List Sp.Tm} (h1 : 1 ≤ h) (h3 : h ≤ 3) (n0 : 0 ≤ n) (n1 : n ≤ 10000) (hs : Sp.Tm.sz (.mk cn l) ≤ 600) : (long h n (.mk cn l)).fit := by
  have := length_sz cn l
  simp only [long]
  refine lams_fit _ _ ⟨⟨?_, ?_⟩, ⟨?_, ?_⟩, ⟨?_, ?_⟩⟩
  all_goals simp only [Tm.op, Tm.hd, Tm.n]
  all_goals first | omega | (split <;> omega)

/-- a term under construction: the simple type's box, the result's box, the term's box -/
structure LB (w wr : World) (box res : Array Value) (o h n : Int) (v : Value) (ts : List Tm) : Prop where
  below : Below w.heap.size w wr
  box : wr.heap[w.heap.size]? = some (.cells box 27 (0, 0))
  res : wr.heap[w.heap.size + 1]? = some (.cells res 24 (0, 0))
  out : wr.heap[w.heap.size + 1 + 1]? = some (.cells #[.int .i64 o, .int .i64 h, .int .i64 n, v] 24 (0, 0))
  row : Built wr (w.heap.size + 1 + 1 + 1) 24 v ts

theorem LB.start {w : World} {o h n : Int} (box res : Array Value) :
    LB w (((w.alloc (.cells box 27)).alloc (.cells res 24)).alloc (.cells #[.int .i64 o, .int .i64 h, .int .i64 n, .slice none 0 0] 24)) box res o h n (.slice none 0 0) [] := by
  have h3 := blocks3 w box res #[.int .i64 o, .int .i64 h, .int .i64 n, .slice none 0 0] 27 24 24
  exact ⟨h3.2.2.2, h3.1, h3.2.1, h3.2.2.1, Built.nil _ _ _⟩

theorem LB.step {w wr w1 w2 w3 : World} {box res : Array Value} {o h n : Int} {v : Value} {ts : List Tm} {t : Tm} {x : Value} {g cap : Nat} {vs : List Value} {ob : Obj}
    (M : LB w wr box res o h n v ts) (hb1 : Below wr.heap.size wr w1) (hb2 : Below w1.heap.size w1 w2) (hx : Lies w2 (w1.heap.size ≤ ·) x t.args) (hft : t.fit)
    (hvl : ts.length = vs.length) (hsub : ∀ i (h : i < ts.length) (h' : i < vs.length), Lies w2 (fun b => w.heap.size + 1 + 1 + 1 ≤ b ∧ v.ownBlock ≠ some b) vs[i] ts[i].args)
    (hown3 : w3.ownsRow (w.heap.size + 1 + 1 + 1) 24 4 (.slice (some ⟨g, 0, none⟩) (ts.length + 1) cap) (ts.length + 1) (flat ts vs ++ [.int .i64 t.op, .int .i64 t.hd, .int .i64 t.n, x]))
    (hgrow : (w2.alloc ob).grownBy w3 v.ownBlock) (hat : v.ownBlock = some g ∨ g = w2.heap.size + 1) :
    LB w (w3.setCell ⟨w.heap.size + 1 + 1, 3, none⟩ (.slice (some ⟨g, 0, none⟩) (ts.length + 1) cap)) box res o h n (.slice (some ⟨g, 0, none⟩) (ts.length + 1) cap) (ts ++ [t]) := by
  have hlt := M.row.lt
  have s0 : w.heap.size + 1 + 1 < wr.heap.size := (Array.getElem?_eq_some_iff.1 M.out).1
  have s1 := hb1.size
  have s2 := hb2.size
  have sa : (w2.alloc ob).heap.size = w2.heap.size + 1 := by simp
  have old : ∀ k, k < wr.heap.size → k < w.heap.size + 1 + 1 + 1 → w3.heap[k]? = wr.heap[k]? := fun k hk hk2 => by
    rw [hgrow.block k (by omega) (fun e => by have := (hlt k e.symm).1; omega), Below.heap_alloc w2 ob k (by omega), hb2.block k (by omega), hb1.block k hk]
  have b3 : Below w.heap.size w w3 := by
    have b2 := M.below.trans ((hb1.mono (M.below.size)).trans (hb2.mono (by have := M.below.size; omega)))
    exact (b2.alloc (by have := b2.size; omega) ob).grown hgrow (by have := b2.size; omega) (fun k hk => by have := (hlt k hk).1; omega)
  refine ⟨b3.setCell (by simp; omega) _, ?_, ?_, ?_, ?_⟩
  · rw [Below.heap_setCell _ _ _ _ (by simp; omega), old _ (by omega) (by omega)]; exact M.box
  · rw [Below.heap_setCell _ _ _ _ (by simp), old _ (by omega) (by omega)]; exact M.res
  · rw [heap_set_at _ ((old _ (by omega) (by omega)).trans M.out)]; simp
  · refine Built.setCell (Built.push (w := w2.alloc ob) hvl (fun i h h' => (hsub i h h').keep ((Below.refl _ _).alloc (Nat.le_refl _) _)) M.row.fit hft ?_ hown3 hgrow (by rw [sa]; exact hat)) (by simp) _
    refine (hx.keep ((Below.refl _ _).alloc (Nat.le_refl _) ob)).more fun b _ hS => ⟨by omega, fun e => ?_⟩
    have := (hlt b e).2
    omega

/-- a term that gets its TLams -/
structure LW (w wr : World) (res : Array Value) (t : Tm) (v : Value) : Prop where
  below : Below w.heap.size w wr
  res : wr.heap[w.heap.size + 1]? = some (.cells res 24 (0, 0))
  out : wr.heap[w.heap.size + 1 + 1]? = some (.cells #[.int .i64 t.op, .int .i64 t.hd, .int .i64 t.n, v] 24 (0, 0))
  lies : Lies wr (w.heap.size + 1 + 1 + 1 ≤ ·) v t.args
  fit : t.fit
theorem LB.toLW {w wr : World} {box res : Array Value} {o h n : Int} {v : Value} {ts : List Tm} (M : LB w wr box res o h n v ts) (hf : (Tm.mk o h n ts).fit) : LW w wr res (.mk o h n ts) v :=
  ⟨M.below, M.res, M.out, M.row.lies, hf⟩
theorem LW.step {w wr : World} {res : Array Value} {t : Tm} {v : Value} (M : LW w wr res t v) :
    LW w (((((wr.alloc (.cells #[.int .i64 t.op, .int .i64 t.hd, .int .i64 t.n, v] 24)).setCell ⟨w.heap.size + 1 + 1, 0, none⟩ (.int .i64 3)).setCell ⟨w.heap.size + 1 + 1, 1, none⟩ (.int .i64 0)).setCell ⟨w.heap.size + 1 + 1, 2, none⟩ (.int .i64 0)).setCell ⟨w.heap.size + 1 + 1, 3, none⟩ (.slice (some ⟨wr.heap.size, 0, none⟩) 1 1)) res (.mk 3 0 0 [t]) (.slice (some ⟨wr.heap.size, 0, none⟩) 1 1) := by
  have s0 : w.heap.size + 1 + 1 < wr.heap.size := lt_blk M.out
  have hba := one_below wr (.cells #[.int .i64 t.op, .int .i64 t.hd, .int .i64 t.n, v] 24)
  have h4 : w.heap.size ≤ w.heap.size + 1 + 1 := by omega
  refine ⟨((((below_next M.below hba).setCell h4 _).setCell h4 _).setCell h4 _).setCell h4 _, ?_, set4_at (heap_kept hba M.out) _ _ _ _, ?_, ⟨⟨by simp [Tm.op], by simp [Tm.op]⟩, ⟨by simp [Tm.hd], by simp [Tm.hd]⟩, ⟨by simp [Tm.n], by simp [Tm.n]⟩⟩⟩
  · rw [set4_other _ _ _ _ (by omega)]; exact heap_kept hba M.res
  · obtain ⟨o, h, n, l⟩ := t
    have L := Lies.one (S := (w.heap.size + 1 + 1 + 1 ≤ ·)) (heap_alloc_new wr (.cells #[.int .i64 o, .int .i64 h, .int .i64 n, v] 24)) (by omega) M.fit.1 M.fit.2.1 M.fit.2.2 (M.lies.keep hba)
    exact L.still fun b hS _ => set4_other _ _ _ _ (by have hS' : w.heap.size + 1 + 1 + 1 ≤ b := hS; omega)
end Go.Proofs.Ytieakippgeehgaa.Sb

namespace Go.Proofs.Ytieakippgeehgaa.Sb
open Go.RowKit
set_option linter.unusedSimpArgs false
set_option linter.unusedVariables false

abbrev CellsP3 (W : World) (p1 p2 p3 : Addr) (u1 u2 u3 : Value) : Prop := W.cell? p1 = some u1 ∧ W.cell? p2 = some u2 ∧ W.cell? p3 = some u3
theorem cellsP3_below {W W' : World} {p1 p2 p3 : Addr} {u1 u2 u3 : Value} (hb : Below W.heap.size W W') (x : CellsP3 W p1 p2 p3 u1 u2 u3) : CellsP3 W' p1 p2 p3 u1 u2 u3 :=
  ⟨kept_cell hb x.1, kept_cell hb x.2.1, kept_cell hb x.2.2⟩
theorem cellsP3_far {W W' : World} {p1 p2 p3 : Addr} {u1 u2 u3 : Value} {row : Option Nat} (hg : W.grownBy W' row) (h1 : row ≠ some p1.block) (h2 : row ≠ some p2.block) (h3 : row ≠ some p3.block) (x : CellsP3 W p1 p2 p3 u1 u2 u3) : CellsP3 W' p1 p2 p3 u1 u2 u3 :=
  ⟨hg.cell x.1 (fun e => h1 e.symm), hg.cell x.2.1 (fun e => h2 e.symm), hg.cell x.2.2 (fun e => h3 e.symm)⟩

/-- what is asked of a call of long -/
def LongOk (f : Nat) : Prop := ∀ (h n cn : Int) (Ss : List Sp.Tm) (Sv : Value) (w : World), Sp.Tm.sz (.mk cn Ss) ≤ f → Sp.Tm.sz (.mk cn Ss) ≤ 600 → 1 ≤ h → h ≤ 3 → 0 ≤ n → n ≤ 10000 → Sp.Lies w (fun _ => True) Sv Ss →
  Calls Try.prog 56 #[.int .i64 h, .int .i64 n, .agg #[Sv, .int .i64 cn]] w (GivesT w (long h n (.mk cn Ss)))

set_option maxHeartbeats 4000000 in
set_option maxRecDepth 100000 in
theorem long_walk (f : Nat) (ih : LongOk f) : LongOk (f + 1) := by
  intro h n cn Ss Sv w hf hf6 h1 h3 n0 n1 hS
  obtain ⟨ao, b, off, len, cap, kk, sv, ts, rfl, R⟩ := hS.open
  have hr := R.hr
  have hl := R.hl
  have hlen := R.length
  have hlz := length_sz cn Ss
  have hl6 : len ≤ 600 := by omega
  obtain ⟨i0, hi0, hz0, hz1, hz2⟩ := info_parts tm_info
  have hsum1 : 0 < len → IntKind.i64.wrap ((len : Int) - 1) = (len : Int) - 1 := fun h => IntWalk.i64_in _ (by omega)
  have HS1 := Lib.hid hsum1
  have HL := Lib.hid hlen
  have HF := Lib.hid (And.intro hf hf6)
  have HLZ := Lib.hid hlz
  have HHH := Lib.hid (And.intro h1 h3)
  clear hS hsum1 hlen hf hf6 hlz
  obtain ⟨n', hn', hnb⟩ : ∃ n', n' = (if h == 1 then n + (len : Int) else n) ∧ 0 ≤ n' ∧ n' ≤ 10600 := ⟨_, rfl, by split <;> omega, by split <;> omega⟩
  rcases hh : (h == 1) with _ | _
  all_goals
    rw [hh] at hn'
    simp only [if_true, if_false, Bool.false_eq_true] at hn'
    have HN := Lib.hid hn'
    have HHE := Lib.hid hh
    clear hn'
    go_enter Try.func56, Try.ntmps56
    go_wp2
    go_loopw [27] (fun i wr => ∃ k : Nat, k ≤ len ∧ i = .int .i64 k ∧ ∃ v, LB w wr #[.slice ao len cap, .int .i64 cn] #[.int .i64 0, .int .i64 0, .int .i64 0, .slice none 0 0] 4 h n' v (longTo Ss k)) (fun i _ => len - (intOf i).toNat)
    case atStart =>
      refine ⟨0, Nat.zero_le _, rfl, .slice none 0 0, ?_⟩
      rw [HN.out, longTo_zero]
      exact LB.start _ _
    case round =>
      obtain ⟨k, hk, rfl, v, M⟩ := hrel
      by_cases hlt : k < len
      · obtain rfl := R.hao (by omega)
        obtain ⟨d0, d1, hsub⟩ := R.at M.below k hlt
        obtain ⟨a5, n5, m5, hs5⟩ := hsub.isSlice
        rw [hs5] at d0 hsub
        have hb0 := one_below wr (.cells #[.slice a5 n5 m5, .int .i64 (kk k)] 27)
        have z0 := cell_in (heap_kept hb0 M.out) 3 _ rfl
        have f0 := free_in (heap_kept hb0 M.out) 3
        obtain ⟨⟨y0, y1⟩, _⟩ := cells2_of (heap_alloc_new wr (.cells #[.slice a5 n5 m5, .int .i64 (kk k)] 27))
        have hs0 : w.heap.size + 1 + 1 + 1 ≤ wr.heap.size := by have := lt_blk M.out; omega
        have hrl : k < Ss.length := by rw [HL.out]; exact hlt
        have hk6 : (longTo Ss k).length ≤ 600 := by rw [longTo_length _ _ (by omega)]; omega
        have hrow := fun q (hq : v.ownBlock = some q) => M.row.lt q hq
        have hszk : Sp.Tm.sz (.mk (kk k) (ts k)) ≤ f ∧ Sp.Tm.sz (.mk (kk k) (ts k)) ≤ 600 := by
          have := Sp.Tm.szL_le_of_mem (R.mem k hlt)
          have h1 := HF.out.1
          have h2 := HF.out.2
          simp only [Sp.Tm.sz] at h1 h2 this ⊢
          omega
        have hs1 := HS1.out (by omega)
        have hs2 : IntKind.i64.wrap ((len : Int) - 1 - (k : Int)) = (len : Int) - 1 - (k : Int) := IntWalk.i64_in _ (by omega)
        have call := ih 1 ((len : Int) - 1 - k) (kk k) (ts k) (.slice a5 n5 m5) (wr.alloc (.cells #[.slice a5 n5 m5, .int .i64 (kk k)] 27)).drew hszk.1 hszk.2 (by omega) (by omega) (by omega) (by omega) ((hsub.keep hb0).keep (Below.refl _ _).drew)
        have hfit : (long 1 ((len : Int) - 1 - k) (.mk (kk k) (ts k))).fit := long_fit (by omega) (by omega) (by omega) (by omega) hszk.2
        have HR := Lib.hid R
        have HM := Lib.hid M
        have HB0 := Lib.hid hb0
        have HFT := Lib.hid hfit
        have HRW := Lib.hid hrow
        clear M R hb0 hfit hszk hrow hsub hs5 hrl
        go_wp2_with fail
        refine wp_region_last_of (S := fun W => W.cell? ⟨w.heap.size + 1 + 1, 3, none⟩ = some v ∧ W.cell? ⟨wr.heap.size, 0, none⟩ = some (.slice a5 n5 m5) ∧ W.cell? ⟨wr.heap.size, 1, none⟩ = some (.int .i64 (kk k)))
          (by kernel_rfl) (by simp only [List.pop_toArray, List.dropLast_cons_cons, List.dropLast_singleton]; rfl) (by rfl) (by kernel_rfl) (by kernel_rfl) (by kernel_rfl) (by kernel_rfl) ⟨z0, y0, y1⟩ (fun hHeld => ?_)
        refine wpAnyH_take (i := 0) (v := .pointer (some ⟨w.heap.size + 1 + 1, 3, none⟩)) rfl (by kernel_rfl) (by kernel_rfl) (by kernel_rfl) (fun _ _ _ h => h) (Or.inl ⟨by rfl, ?_⟩) hHeld ?_
        · (intro W hW; (try dsimp only at hW); go_simp)
        (try simp only [Act.put, List.setIfInBounds_toArray, List.set_cons_zero, List.set_cons_succ])
        refine wpAnyH_take (i := 1) (v := v) rfl (by kernel_rfl) (by kernel_rfl) (by kernel_rfl) (fun _ _ _ h => h) (Or.inl ⟨by rfl, ?_⟩) hHeld ?_
        · (intro W hW; (try dsimp only at hW); go_simp)
        (try simp only [Act.put, List.setIfInBounds_toArray, List.set_cons_zero, List.set_cons_succ])
        refine wpAnyH_take (i := 2) (v := .int .i64 len) rfl (by kernel_rfl) (by kernel_rfl) (by kernel_rfl) (fun _ _ _ h => h) (Or.inl ⟨by rfl, ?_⟩) hHeld ?_
        · (intro W hW; (try dsimp only at hW); go_simp)
        (try simp only [Act.put, List.setIfInBounds_toArray, List.set_cons_zero, List.set_cons_succ])
        refine wpAnyH_take (i := 3) (v := .int .i64 ((len : Int) - 1)) rfl (by kernel_rfl) (by kernel_rfl) (by kernel_rfl) (fun _ _ _ h => h) (Or.inl ⟨by rfl, ?_⟩) hHeld ?_
        · (intro W hW; (try dsimp only at hW); go_simp)
        (try simp only [Act.put, List.setIfInBounds_toArray, List.set_cons_zero, List.set_cons_succ])
        refine wpAnyH_take (i := 4) (v := .int .i64 k) rfl (by kernel_rfl) (by kernel_rfl) (by kernel_rfl) (fun _ _ _ h => h) (Or.inl ⟨by rfl, ?_⟩) hHeld ?_
        · (intro W hW; (try dsimp only at hW); go_simp)
        (try simp only [Act.put, List.setIfInBounds_toArray, List.set_cons_zero, List.set_cons_succ])
        refine wpAnyH_take (i := 5) (v := .int .i64 ((len : Int) - 1 - k)) rfl (by kernel_rfl) (by kernel_rfl) (by kernel_rfl) (fun _ _ _ h => h) (Or.inl ⟨by rfl, ?_⟩) hHeld ?_
        · (intro W hW; (try dsimp only at hW); go_simp)
        (try simp only [Act.put, List.setIfInBounds_toArray, List.set_cons_zero, List.set_cons_succ])
        refine wpAnyH_take (i := 6) (v := .agg #[.slice a5 n5 m5, .int .i64 (kk k)]) rfl (by kernel_rfl) (by kernel_rfl) (by kernel_rfl) (fun _ _ _ h => h) (Or.inl ⟨by rfl, ?_⟩) hHeld ?_
        · (intro W hW; (try dsimp only at hW); go_simp)
        (try simp only [Act.put, List.setIfInBounds_toArray, List.set_cons_zero, List.set_cons_succ])
        refine wpAnyH_ready (rs := [7]) (by kernel_rfl) (by simp) (AllReadyH.cons rfl (fun K hK => ?_) AllReadyH.nil)
        go_simp
        go_at_call 56
        refine call.mono ?_
        rintro e w2 ⟨x, rfl, hb2, hx⟩
        (try dsimp only)
        refine hK.out _ _ ?_ (fun hNew => ?_)
        · exact cellsP3_below hb2 hHeld
        clear hK K hHeld
        have hHeld := hNew
        clear hNew
        (try simp only [Act.put, List.setIfInBounds_toArray, List.set_cons_zero, List.set_cons_succ])
        have hs2' := hb2.size
        simp at hs2'
        have hbA := (HB0.out.trans ((Below.refl (wr.alloc (.cells #[.slice a5 n5 m5, .int .i64 (kk k)] 27)).heap.size _).drew.mono HB0.out.size))
        obtain ⟨vs, hvl, hown2, hsub2⟩ := ((HM.out.row.below hbA).below hb2).own
        refine wpAnyH_ready (rs := [8]) (by kernel_rfl) (by simp) (AllReadyH.cons rfl (fun K hK => ?_) AllReadyH.nil)
        go_simp
        (try dsimp only)
        refine hK.out _ _ ?_ (fun hNew => ?_)
        · exact cellsP3_below ((Below.refl _ _).alloc (Nat.le_refl _) _) hHeld
        clear hK K hHeld
        have hHeld := hNew
        clear hNew
        (try simp only [Act.put, List.setIfInBounds_toArray, List.set_cons_zero, List.set_cons_succ])
        refine wpAnyH_ready (rs := [9]) (by kernel_rfl) (by simp) (AllReadyH.cons rfl (fun K hK => ?_) AllReadyH.nil)
        refine step_append_lies _ (by rfl) _ _ _ (by rfl) (w.heap.size + 1 + 1 + 1) 24 i0 _ 4 48 Try.underlying22 hi0 hz0 hz1 hz2 rfl (by omega) v _ _ (by rfl) (hown2.alloc _) ⟨w2.heap.size, 0, none⟩ 1 1 [.int .i64 (long 1 ((len : Int) - 1 - k) (.mk (kk k) (ts k))).op, .int .i64 (long 1 ((len : Int) - 1 - k) (.mk (kk k) (ts k))).hd, .int .i64 (long 1 ((len : Int) - 1 - k) (.mk (kk k) (ts k))).n, x] (by rfl) (by rfl) (World.news_of_block (cs := #[.int .i64 (long 1 ((len : Int) - 1 - k) (.mk (kk k) (ts k))).op, .int .i64 (long 1 ((len : Int) - 1 - k) (.mk (kk k) (ts k))).hd, .int .i64 (long 1 ((len : Int) - 1 - k) (.mk (kk k) (ts k))).n, x]) (t := 24) (fr := (0, 0)) (heap_alloc_new w2 _)) (by intro u hu; simp at hu; rcases hu with rfl | rfl | rfl | rfl <;> first | rfl | exact lies_one hx) (by omega) (by unfold maxLen; omega) (by omega) (by simp; omega) (w2.heap.size + 1) (by simp) ?_
        intro g cap3 w3 hown3 hgrow3 hat3 hlt3
        (try dsimp only)
        refine hK.out _ _ ?_ (fun hNew => ?_)
        · exact cellsP3_far hgrow3 (fun e => by have := HRW.out _ e; simp at this; omega) (fun e => by have := HRW.out _ e; simp at this) (fun e => by have := HRW.out _ e; simp at this) hHeld
        clear hK K hHeld
        have hHeld := hNew
        clear hNew
        (try simp only [Act.put, List.setIfInBounds_toArray, List.set_cons_zero, List.set_cons_succ])
        refine wpAnyH_take (i := 10) (v := .pointer (some ⟨w.heap.size + 1 + 1, 3, none⟩)) rfl (by kernel_rfl) (by kernel_rfl) (by kernel_rfl) (fun _ _ _ h => h) (Or.inl ⟨by rfl, ?_⟩) hHeld ?_
        · (intro W hW; (try dsimp only at hW); go_simp)
        (try simp only [Act.put, List.setIfInBounds_toArray, List.set_cons_zero, List.set_cons_succ])
        refine wpAnyH_done (by kernel_rfl) ?_ _
        refine lastQ_list (by rfl) ?_
        obtain ⟨e0, e1, e2⟩ := hHeld
        have hrow := fun q (hq : v.ownBlock = some q) => (HRW.out q hq).1
        have zd := kept_cell ((Below.refl (wr.alloc (.cells #[.slice a5 n5 m5, .int .i64 (kk k)] 27)).heap.size _).drew) z0
        have fd := frozen_kept ((Below.refl (wr.alloc (.cells #[.slice a5 n5 m5, .int .i64 (kk k)] 27)).heap.size _).drew) z0 f0
        have fz : w3.frozen? ⟨w.heap.size + 1 + 1, 3, none⟩ = false := far_frozen hgrow3 (kept_cell ((Below.refl _ _).alloc (Nat.le_refl _) _) (kept_cell hb2 zd)) ((Below.frozen ((Below.refl _ _).alloc (Nat.le_refl _) _) (by show w.heap.size + 1 + 1 < w2.heap.size; omega)).trans (frozen_kept hb2 zd fd)) hrow (by show w.heap.size + 1 + 1 < w.heap.size + 1 + 1 + 1; omega)
        clear e1 e2 hrow zd fd z0 f0 y0 y1
        have HVL := Lib.hid hvl
        have HSB := Lib.hid (And.intro hb2 (And.intro hx (And.intro hgrow3 hat3)))
        have HOW := Lib.hid hown3
        have HS2 := Lib.hid hsub2
        have HBA := Lib.hid hbA
        clear hvl hb2 hx hgrow3 hat3 hown3 hsub2 hbA hown2
        go_wp2
        go_roundw
        case rel =>
          refine ⟨k + 1, by omega, by go_num, .slice (some ⟨g, 0, none⟩) ((longTo Ss k).length + 1) cap3, ?_⟩
          rw [longTo_step Ss k (by rw [HL.out]; exact hlt), HR.out.get k hlt, HL.out]
          exact LB.step HM.out HBA.out HSB.out.1 HSB.out.2.1 HFT.out HVL.out HS2.out HOW.out HSB.out.2.2.1 HSB.out.2.2.2
        case measure => simp [intOf]; omega
      · obtain rfl : k = len := by omega
        have HM := Lib.hid M
        have HR := Lib.hid R
        have HLn := Lib.hid (longTo_all Ss k (by rw [HL.out]; exact Nat.le_refl _))
        clear M R
        go_wp2_with fail
        go_loopw [45] (fun i wr' => ∃ j : Nat, j ≤ k ∧ i = .int .i64 j ∧ ∃ v', LW w wr' #[.int .i64 0, .int .i64 0, .int .i64 0, .slice none 0 0] (lams j (.mk 4 h n' (longL Ss.length 0 Ss))) v') (fun i _ => k - (intOf i).toNat)
        case atStart =>
          refine ⟨0, Nat.zero_le _, rfl, v, ?_⟩
          have M := HM.out
          rw [HLn.out] at M
          exact M.toLW ⟨⟨by simp [Tm.op], by simp [Tm.op]⟩, ⟨by simp only [Tm.hd]; omega, by simp only [Tm.hd]; omega⟩, ⟨by simp only [Tm.n]; omega, by simp only [Tm.n]; omega⟩⟩
        case round =>
          obtain ⟨j, hj, rfl, v', M2⟩ := hrel
          generalize hT : lams j (.mk 4 h n' (longL Ss.length 0 Ss)) = T at M2
          have HT := Lib.hid hT
          clear hT
          obtain ⟨a6, n6, m6, rfl⟩ := M2.lies.isSlice
          by_cases hlt2 : j < k
          · obtain ⟨g0, g1, g2, g3⟩ := c4_of M2.out
            have hba := one_below wr (.cells #[.int .i64 T.op, .int .i64 T.hd, .int .i64 T.n, .slice a6 n6 m6] 24)
            have hkk := heap_kept hba M2.out
            obtain ⟨x0, x1, x2, x3⟩ := c4_of hkk
            have f0 := free_in hkk 0
            have f1 := free_in hkk 1
            have f2 := free_in hkk 2
            have f3 := free_in hkk 3
            have HM2 := Lib.hid M2
            clear M2 hba hkk
            go_wp2_with fail
            go_roundw
            case rel =>
              refine ⟨j + 1, by omega, by go_num, .slice (some ⟨wr.heap.size, 0, none⟩) 1 1, ?_⟩
              have h := HM2.out.step
              rw [← HT.out] at h
              simp only [lams]
              rw [HT.out] at h ⊢
              exact h
            case measure => simp [intOf]; omega
          · obtain rfl : j = k := by omega
            obtain ⟨g0, g1, g2, g3⟩ := c4_of M2.out
            obtain ⟨x0, x1, x2, x3⟩ := c4_of M2.res
            have f0 := free_in M2.res 0
            have f1 := free_in M2.res 1
            have f2 := free_in M2.res 2
            have f3 := free_in M2.res 3
            have HM2 := Lib.hid M2
            clear M2
            go_wp2_with fail
            have hz := set4_at HM2.out.res (.int .i64 T.op) (.int .i64 T.hd) (.int .i64 T.n) (.slice a6 n6 m6)
            obtain ⟨z0, z1, z2, z3⟩ := c4_of hz
            refine bodyPost_ret (v := .agg #[.int .i64 T.op, .int .i64 T.hd, .int .i64 T.n, .slice a6 n6 m6]) (by simp [results, Try.results56, go_sem, z0, z1, z2, z3]) rfl ?_
            have hTT : long h n (.mk cn Ss) = T := by
              simp only [long]
              rw [HHE.out, ← HT.out, HN.out, HL.out]
              simp
            rw [hTT]
            have h4 : w.heap.size ≤ w.heap.size + 1 := by omega
            refine ⟨_, rfl, (((HM2.out.below.setCell h4 _).setCell h4 _).setCell h4 _).setCell h4 _, (HM2.out.lies.still fun b hS _ => set4_other _ _ _ _ ?_).more fun b _ hS => ?_⟩
            · have hS' : w.heap.size + 1 + 1 + 1 ≤ b := hS
              omega
            · have hS' : w.heap.size + 1 + 1 + 1 ≤ b := hS
              omega

theorem long_calls : ∀ f : Nat, LongOk f
  | 0 => fun h n cn Ss Sv w hf => by have := Sp.Tm.sz_pos (.mk cn Ss); omega
  | f + 1 => long_walk f (long_calls f)
/-- the contract of long -/
theorem long_any (h n cn : Int) (Ss : List Sp.Tm) (Sv : Value) (w : World) (hs : Sp.Tm.sz (.mk cn Ss) ≤ 600) (h1 : 1 ≤ h) (h3 : h ≤ 3) (n0 : 0 ≤ n) (n1 : n ≤ 10000) (lS : Sp.Lies w (fun _ => True) Sv Ss) :
    Calls Try.prog 56 #[.int .i64 h, .int .i64 n, .agg #[Sv, .int .i64 cn]] w (GivesT w (long h n (.mk cn Ss))) :=
  long_calls _ h n cn Ss Sv w (Nat.le_refl _) hs h1 h3 n0 n1 lS
end Go.Proofs.Ytieakippgeehgaa.Sb

namespace Go.Proofs.Ytieakippgeehgaa.Sb
open Go.RowKit
set_option linter.unusedSimpArgs false
set_option linter.unusedVariables false

/-- are the arguments of Long valid? -/
def longArgs (h n : Int) (S : Sp.Tm) : Bool := decide (1 ≤ h) && decide (h ≤ 3) && isNum n && Sp.Tm.small S
/-- what Long returns -/
def longOut (h n : Int) (S : Sp.Tm) : Tm × Int :=
  if longArgs h n S then (if Tm.proper (long h n S) then (long h n S, 0) else (Tm.zero, 5)) else (Tm.zero, 2)

/-- the boxes of Long -/
structure LoVar (w wr : World) (Sv : Value) (cn : Int) : Prop where
  hS : wr.heap[w.heap.size]? = some (.cells #[Sv, .int .i64 cn] 27 (0, 0))
  hr : wr.heap[w.heap.size + 1]? = some (.cells #[.int .i64 0, .int .i64 0, .int .i64 0, .slice none 0 0] 24 (0, 0))
  below : Below w.heap.size w wr
theorem LoVar.keep {w wr wr' : World} {Sv : Value} {cn : Int} (H : LoVar w wr Sv cn) (hb : Below wr.heap.size wr wr') : LoVar w wr' Sv cn :=
  ⟨heap_kept hb H.hS, heap_kept hb H.hr, below_next H.below hb⟩
theorem long_zero {w wr : World} {Sv : Value} {cn e : Int} {a : Act} (H : LoVar w wr Sv cn) (ha : a.tmps[6]? = some (.pointer (some ⟨w.heap.size + 1, 0, none⟩)) ∧ a.tmps[7]? = some (.int .i64 e) ∧ a.defers = []) :
    bodyPost Try.prog Try.f20 (GivesE w (Tm.zero, e)) .ret a ((((wr.setCell ⟨w.heap.size + 1, 0, none⟩ (.int .i64 0)).setCell ⟨w.heap.size + 1, 1, none⟩ (.int .i64 0)).setCell ⟨w.heap.size + 1, 2, none⟩ (.int .i64 0)).setCell ⟨w.heap.size + 1, 3, none⟩ (.slice none 0 0)) := by
  obtain ⟨h8, h9, hd⟩ := ha
  obtain ⟨z0, z1, z2, z3⟩ := c4_of (set4_at H.hr (.int .i64 0) (.int .i64 0) (.int .i64 0) (.slice none 0 0))
  refine bodyPost_ret (v := .tuple #[.agg #[.int .i64 0, .int .i64 0, .int .i64 0, .slice none 0 0], .int .i64 e]) (by simp [results, Try.results20, go_sem, h8, h9, z0, z1, z2, z3]) hd ?_
  have h4 : w.heap.size ≤ w.heap.size + 1 := by omega
  exact givesE_zero rfl ((((H.below.setCell h4 _).setCell h4 _).setCell h4 _).setCell h4 _)

set_option maxHeartbeats 4000000 in
set_option maxRecDepth 100000 in
theorem longF_bad (h n cn : Int) (Ss : List Sp.Tm) (Sv : Value) (w : World) (lS : Sp.Lies w (fun _ => True) Sv Ss) (hbad : longArgs h n (.mk cn Ss) = false) :
    Calls Try.prog 20 #[.int .i64 h, .int .i64 n, .agg #[Sv, .int .i64 cn]] w (GivesE w (Tm.zero, 2)) := by
  obtain ⟨a3, n3, m3, rfl⟩ := lS.isSlice
  have h2 := two_blocks w #[.slice a3 n3 m3, .int .i64 cn] #[.int .i64 0, .int .i64 0, .int .i64 0, .slice none 0 0] 27 24
  have V1 : LoVar w _ (.slice a3 n3 m3) cn := ⟨h2.1, h2.2, two_below w _ _⟩
  have call3 := Sp.isSmall_any cn (.slice a3 n3 m3) Ss _ (lS.keep V1.below)
  have call2 := fun W => isNumber_any n W
  have HV := Lib.hid V1
  obtain ⟨⟨q0, q1⟩, _⟩ := cells2_of V1.hS
  obtain ⟨y0, y1, y2, y3⟩ := c4_of V1.hr
  have f0 := free_in V1.hr 0
  have f1 := free_in V1.hr 1
  have f2 := free_in V1.hr 2
  have f3 := free_in V1.hr 3
  have ways : (h < 1) ∨ (1 ≤ h ∧ 3 < h) ∨ (1 ≤ h ∧ h ≤ 3 ∧ isNum n = false) ∨ (1 ≤ h ∧ h ≤ 3 ∧ isNum n = true ∧ Sp.Tm.small (.mk cn Ss) = false) := by
    unfold longArgs at hbad
    revert hbad
    cases isNum n <;> cases Sp.Tm.small (.mk cn Ss) <;> simp <;> omega
  clear h2 hbad V1 lS
  rcases ways with k1 | ⟨k1, k2⟩ | ⟨k1, k2, hq⟩ | ⟨k1, k2, hq, hS⟩
  all_goals
    try simp only [hq] at call2
    try simp only [hS] at call3
    try clear hq
    try clear hS
    go_enter Try.func20, Try.ntmps20
    go_wp2_with (first | (go_at_call 40; (with_reducible refine (call2 _).mono ?_); rintro e w2 ⟨rfl, rfl⟩) | fail)
  · exact bodyPost_ret (v := .tuple #[.agg #[.int .i64 0, .int .i64 0, .int .i64 0, .slice none 0 0], .int .i64 2]) (by simp [results, Try.results20, go_sem, y0, y1, y2, y3]) rfl (givesE_zero rfl HV.out.below)
  · exact bodyPost_ret (v := .tuple #[.agg #[.int .i64 0, .int .i64 0, .int .i64 0, .slice none 0 0], .int .i64 2]) (by simp [results, Try.results20, go_sem, y0, y1, y2, y3]) rfl (givesE_zero rfl HV.out.below)
  · exact bodyPost_ret (v := .tuple #[.agg #[.int .i64 0, .int .i64 0, .int .i64 0, .slice none 0 0], .int .i64 2]) (by simp [results, Try.results20, go_sem, y0, y1, y2, y3]) rfl (givesE_zero rfl HV.out.below)
  · refine call3.mono ?_
    rintro e w2 ⟨rfl, hb2⟩
    have V3 := HV.out.keep hb2
    clear y0 y1 y2 y3 f0 f1 f2 f3 q0 q1 HV
    obtain ⟨y0, y1, y2, y3⟩ := c4_of V3.hr
    have f0 := free_in V3.hr 0
    have f1 := free_in V3.hr 1
    have f2 := free_in V3.hr 2
    have f3 := free_in V3.hr 3
    have HV2 := Lib.hid V3
    clear V3 hb2 call3
    go_wp2_with fail
    exact long_zero HV2.out ⟨rfl, rfl, rfl⟩

set_option maxHeartbeats 4000000 in
set_option maxRecDepth 100000 in
theorem longF_good (h n cn : Int) (Ss : List Sp.Tm) (Sv : Value) (w : World) (lS : Sp.Lies w (fun _ => True) Sv Ss) (k1 : 1 ≤ h) (k2 : h ≤ 3) (hq : isNum n = true) (hS : Sp.Tm.small (.mk cn Ss) = true) :
    Calls Try.prog 20 #[.int .i64 h, .int .i64 n, .agg #[Sv, .int .i64 cn]] w (GivesE w (if Tm.proper (long h n (.mk cn Ss)) then (long h n (.mk cn Ss), 0) else (Tm.zero, 5))) := by
  obtain ⟨a3, n3, m3, rfl⟩ := lS.isSlice
  have h2 := two_blocks w #[.slice a3 n3 m3, .int .i64 cn] #[.int .i64 0, .int .i64 0, .int .i64 0, .slice none 0 0] 27 24
  have V1 : LoVar w _ (.slice a3 n3 m3) cn := ⟨h2.1, h2.2, two_below w _ _⟩
  have call3 := Sp.isSmall_any cn (.slice a3 n3 m3) Ss _ (lS.keep V1.below)
  have call2 := fun W => isNumber_any n W
  have hn01 : 0 ≤ n ∧ n ≤ 9999 := by simpa [isNum] using hq
  have hsz : Sp.Tm.sz (.mk cn Ss) ≤ 600 := by
    have h := hS
    simp only [Sp.Tm.small, Sp.Tm.smallIn, Bool.and_eq_true, decide_eq_true_eq] at h
    exact h.2
  have call4 : ∀ w1, Below w.heap.size w w1 → _ := fun w1 hb => long_any h n cn Ss (.slice a3 n3 m3) w1 hsz k1 k2 hn01.1 (by omega) (lS.keep hb)
  have hfit : (long h n (.mk cn Ss)).fit := long_fit k1 k2 hn01.1 (by omega) hsz
  generalize long h n (.mk cn Ss) = T at call4 hfit ⊢
  have call5 : ∀ (v : Value) (W : World) (B : Nat), W.heap[B]? = some (.cells #[.int .i64 T.op, .int .i64 T.hd, .int .i64 T.n, v] 24 (0, 0)) → Lies W (fun _ => True) v T.args → Calls Try.prog 39 #[.slice (some ⟨B, 0, none⟩) 1 1] W fun e w' => e = .returned (.bool (Tm.proper T)) ∧ Below W.heap.size W w' := fun v W B hB hv => by
    have h := areProper_any (.slice (some ⟨B, 0, none⟩) 1 1) [T] W (by
      obtain ⟨o, h, n, l⟩ := T
      exact Lies.one (S := fun _ => True) hB trivial hfit.1 hfit.2.1 hfit.2.2 hv)
    simpa using h
  simp only [hq] at call2
  simp only [hS] at call3
  have HV := Lib.hid V1
  obtain ⟨⟨q0, q1⟩, _⟩ := cells2_of V1.hS
  have HFT := Lib.hid hfit
  clear h2 V1 lS hq hS hsz hfit
  rcases hp : Tm.proper T with _ | _
  all_goals
    simp only [hp] at call5
    simp only [if_true, if_false, Bool.false_eq_true]
    have HP := Lib.hid hp
    clear hp
    go_enter Try.func20, Try.ntmps20
    go_wp2_with (first | (go_at_call 40; (with_reducible refine (call2 _).mono ?_); rintro e w2 ⟨rfl, rfl⟩) | fail)
    refine call3.mono ?_
    rintro e w2 ⟨rfl, hb2⟩
    have V3 := HV.out.keep hb2
    clear q0 q1 HV call3 call2
    obtain ⟨⟨q0, q1⟩, _⟩ := cells2_of V3.hS
    have HV3 := Lib.hid V3
    clear V3 hb2
    go_wp2_with fail
    refine (call4 _ HV3.out.below).mono ?_
    rintro e w3 ⟨v, rfl, hb3, L⟩
    obtain ⟨a4, n4, m4, rfl⟩ := L.isSlice
    have hb4 := one_below w3 (.cells #[.int .i64 T.op, .int .i64 T.hd, .int .i64 T.n, .slice a4 n4 m4] 24)
    have hz4 := heap_alloc_new w3 (.cells #[.int .i64 T.op, .int .i64 T.hd, .int .i64 T.n, .slice a4 n4 m4] 24)
    have V4 := (HV3.out.keep hb3).keep hb4
    have hsw := HV3.out.below.size
    have hsr := lt_blk HV3.out.hr
    have hb5 := one_below (w3.alloc (.cells #[.int .i64 T.op, .int .i64 T.hd, .int .i64 T.n, .slice a4 n4 m4] 24)) (.cells #[.int .i64 T.op, .int .i64 T.hd, .int .i64 T.n, .slice a4 n4 m4] 24)
    have call6 := call5 (.slice a4 n4 m4) _ _ (heap_alloc_new (w3.alloc (.cells #[.int .i64 T.op, .int .i64 T.hd, .int .i64 T.n, .slice a4 n4 m4] 24)) (.cells #[.int .i64 T.op, .int .i64 T.hd, .int .i64 T.n, .slice a4 n4 m4] 24)) (((L.more fun _ _ _ => trivial).keep hb4).keep hb5)
    have hs4 : (w3.alloc (.cells #[.int .i64 T.op, .int .i64 T.hd, .int .i64 T.n, .slice a4 n4 m4] 24)).heap.size = w3.heap.size + 1 := by simp
    rw [hs4] at call6
    have HV5 := Lib.hid (And.intro (V4.keep hb5) (And.intro (heap_kept hb5 hz4) (And.intro ((L.keep hb4).keep hb5) (And.intro hsw hsr))))
    obtain ⟨x0, x1, x2, x3⟩ := c4_of hz4
    clear q0 q1 call4 call5 HV3 hb3 hb4 hz4 V4 hb5 L hs4 hsw hsr
    go_wp2_with fail
    refine call6.mono ?_
    rintro e w6 ⟨rfl, hb6⟩
    obtain ⟨V5, hz5, L5, hsw, hsr⟩ := HV5.out
    have V6 := V5.keep hb6
    obtain ⟨y0, y1, y2, y3⟩ := c4_of V6.hr
    have f0 := free_in V6.hr 0
    have f1 := free_in V6.hr 1
    have f2 := free_in V6.hr 2
    have f3 := free_in V6.hr 3
    clear x0 x1 x2 x3
    obtain ⟨x0, x1, x2, x3⟩ := c4_of (heap_kept hb6 hz5)
    have HV6 := Lib.hid (And.intro V6 (And.intro (L5.keep hb6) (And.intro hsw hsr)))
    clear V5 hz5 L5 hsw hsr V6 hb6 HV5 call6
    go_wp2_with fail
  · exact long_zero HV6.out.1 ⟨rfl, rfl, rfl⟩
  · obtain ⟨V6, L6, hsw, hsr⟩ := HV6.out
    have hz := set4_at V6.hr (.int .i64 T.op) (.int .i64 T.hd) (.int .i64 T.n) (.slice a4 n4 m4)
    obtain ⟨z0, z1, z2, z3⟩ := c4_of hz
    refine bodyPost_ret (v := .tuple #[.agg #[.int .i64 T.op, .int .i64 T.hd, .int .i64 T.n, .slice a4 n4 m4], .int .i64 0]) (by simp [results, Try.results20, go_sem, z0, z1, z2, z3]) rfl ?_
    have h4 : w.heap.size ≤ w.heap.size + 1 := by omega
    refine ⟨_, rfl, (((V6.below.setCell h4 _).setCell h4 _).setCell h4 _).setCell h4 _, (L6.still fun b hS hlt => set4_other _ _ _ _ ?_).more fun b _ hS => ?_⟩
    · omega
    · omega

/-- the contract of Long -/
theorem longF_any (h n cn : Int) (Ss : List Sp.Tm) (Sv : Value) (w : World) (lS : Sp.Lies w (fun _ => True) Sv Ss) :
    Calls Try.prog 20 #[.int .i64 h, .int .i64 n, .agg #[Sv, .int .i64 cn]] w (GivesE w (longOut h n (.mk cn Ss))) := by
  unfold longOut
  rcases e : longArgs h n (.mk cn Ss) with _ | _
  · exact longF_bad h n cn Ss Sv w lS e
  · have e' := e
    simp only [longArgs, Bool.and_eq_true, decide_eq_true_eq] at e'
    exact longF_good h n cn Ss Sv w lS e'.1.1.1 e'.1.1.2 e'.1.2 e'.2
end Go.Proofs.Ytieakippgeehgaa.Sb

namespace Go.Proofs.Ytieakippgeehgaa.Sb
open Go.RowKit
set_option linter.unusedSimpArgs false
set_option linter.unusedVariables false

/-- what is asked of a call of long -/
def LongROk (f : Nat) : Prop := ∀ (h n cn : Int) (Ss : List Sp.Tm) (Sv : Value) (w : World), Sp.Tm.sz (.mk cn Ss) ≤ f → Sp.Tm.sz (.mk cn Ss) ≤ 600 → 1 ≤ h → h ≤ 3 → 0 ≤ n → n ≤ 10000 → Sp.Lies w (fun _ => True) Sv Ss →
  Calls Try.prog 58 #[.int .i64 h, .int .i64 n, .agg #[Sv, .int .i64 cn]] w (GivesT w (long h n (.mk cn Ss)))

set_option maxHeartbeats 4000000 in
set_option maxRecDepth 100000 in
theorem longR_walk (f : Nat) (ih : LongROk f) : LongROk (f + 1) := by
  intro h n cn Ss Sv w hf hf6 h1 h3 n0 n1 hS
  obtain ⟨ao, b, off, len, cap, kk, sv, ts, rfl, R⟩ := hS.open
  have hr := R.hr
  have hl := R.hl
  have hlen := R.length
  have hlz := length_sz cn Ss
  have hl6 : len ≤ 600 := by omega
  obtain ⟨i0, hi0, hz0, hz1, hz2⟩ := info_parts tm_info
  have hsum1 : 0 < len → IntKind.i64.wrap ((len : Int) - 1) = (len : Int) - 1 := fun h => IntWalk.i64_in _ (by omega)
  have HS1 := Lib.hid hsum1
  have HL := Lib.hid hlen
  have HF := Lib.hid (And.intro hf hf6)
  have HLZ := Lib.hid hlz
  have HHH := Lib.hid (And.intro h1 h3)
  clear hS hsum1 hlen hf hf6 hlz
  obtain ⟨n', hn', hnb⟩ : ∃ n', n' = (if h == 1 then n + (len : Int) else n) ∧ 0 ≤ n' ∧ n' ≤ 10600 := ⟨_, rfl, by split <;> omega, by split <;> omega⟩
  rcases hh : (h == 1) with _ | _
  all_goals
    rw [hh] at hn'
    simp only [if_true, if_false, Bool.false_eq_true] at hn'
    have HN := Lib.hid hn'
    have HHE := Lib.hid hh
    clear hn'
    go_enter Try.func58, Try.ntmps58
    go_wp2
    go_loopw [9] (fun i wr => ∃ k : Nat, k ≤ len ∧ i = .int .i64 k ∧ ∃ v, LB w wr #[.slice ao len cap, .int .i64 cn] #[.int .i64 0, .int .i64 0, .int .i64 0, .slice none 0 0] 4 h n' v (longTo Ss k)) (fun i _ => len - (intOf i).toNat)
    case atStart =>
      refine ⟨0, Nat.zero_le _, rfl, .slice none 0 0, ?_⟩
      rw [HN.out, longTo_zero]
      exact LB.start _ _
    case round =>
      obtain ⟨k, hk, rfl, v, M⟩ := hrel
      by_cases hlt : k < len
      · obtain rfl := R.hao (by omega)
        obtain ⟨d0, d1, hsub⟩ := R.at M.below k hlt
        obtain ⟨a5, n5, m5, hs5⟩ := hsub.isSlice
        rw [hs5] at d0 hsub
        have z0 := cell_in M.out 3 _ rfl
        have f0 := free_in M.out 3
        have y0 : wr.cell? ⟨w.heap.size, 0, none⟩ = some (.slice (some ⟨b, off, none⟩) len cap) := cell_in M.box 0 _ rfl
        have hs0 : w.heap.size + 1 + 1 + 1 ≤ wr.heap.size := by have := lt_blk M.out; omega
        have hrl : k < Ss.length := by rw [HL.out]; exact hlt
        have hk6 : (longTo Ss k).length ≤ 600 := by rw [longTo_length _ _ (by omega)]; omega
        have hrow := fun q (hq : v.ownBlock = some q) => M.row.lt q hq
        have hszk : Sp.Tm.sz (.mk (kk k) (ts k)) ≤ f ∧ Sp.Tm.sz (.mk (kk k) (ts k)) ≤ 600 := by
          have := Sp.Tm.szL_le_of_mem (R.mem k hlt)
          have h1 := HF.out.1
          have h2 := HF.out.2
          simp only [Sp.Tm.sz] at h1 h2 this ⊢
          omega
        have hk0 : (0 : Int) ≤ (k : Int) := by omega
        have hk1 : (k : Int) < (len : Int) := by omega
        have call := ih 1 ((len : Int) - 1 - k) (kk k) (ts k) (.slice a5 n5 m5) wr hszk.1 hszk.2 (by omega) (by omega) (by omega) (by omega) hsub
        have hfit : (long 1 ((len : Int) - 1 - k) (.mk (kk k) (ts k))).fit := long_fit (by omega) (by omega) (by omega) (by omega) hszk.2
        have HR := Lib.hid R
        have HM := Lib.hid M
        have HFT := Lib.hid hfit
        have HRW := Lib.hid hrow
        clear M R hfit hszk hrow hsub hs5 hrl
        go_wp2_with fail
        refine call.mono ?_
        rintro e w2 ⟨x, rfl, hb2, hx⟩
        have hs2' := hb2.size
        obtain ⟨vs, hvl, hown2, hsub2⟩ := (HM.out.row.below hb2).own
        have z2 := kept_cell hb2 z0
        have f2 := frozen_kept hb2 z0 f0
        have HB2 := Lib.hid hb2
        have HX := Lib.hid hx
        have HVL := Lib.hid hvl
        have HS2 := Lib.hid hsub2
        have HOW := Lib.hid hown2
        have HI0 := Lib.hid hi0
        have HZ0 := Lib.hid hz0
        clear hb2 hx hvl hsub2 hown2 y0 z0 f0
        go_wp2_with (at_builtin; refine wpList_append_lies _ (by rfl) _ _ _ (by rfl) (w.heap.size + 1 + 1 + 1) 24 i0 _ 4 48 Try.underlying22 HI0.out HZ0.out hz1 hz2 rfl (by omega) v _ _ (by rfl) (HOW.out.alloc _) ⟨w2.heap.size, 0, none⟩ 1 1 [.int .i64 (long 1 ((len : Int) - 1 - k) (.mk (kk k) (ts k))).op, .int .i64 (long 1 ((len : Int) - 1 - k) (.mk (kk k) (ts k))).hd, .int .i64 (long 1 ((len : Int) - 1 - k) (.mk (kk k) (ts k))).n, x] (by rfl) (by rfl) (World.news_of_block (cs := #[.int .i64 (long 1 ((len : Int) - 1 - k) (.mk (kk k) (ts k))).op, .int .i64 (long 1 ((len : Int) - 1 - k) (.mk (kk k) (ts k))).hd, .int .i64 (long 1 ((len : Int) - 1 - k) (.mk (kk k) (ts k))).n, x]) (t := 24) (fr := (0, 0)) (heap_alloc_new w2 _)) (by intro u hu; simp at hu; rcases hu with rfl | rfl | rfl | rfl <;> first | rfl | exact lies_one HX.out) (by omega) (by unfold maxLen; omega) (by omega) (by simp; omega) (w2.heap.size + 1) (by simp) ?_; intro g cap3 w3 hown3 hgrow3 hat3 hlt3; have e0 := far_cell hgrow3 (kept_cell ((Below.refl _ _).alloc (Nat.le_refl _) _) z2) (fun q hq => (HRW.out q hq).1) (by show w.heap.size + 1 + 1 < w.heap.size + 1 + 1 + 1; omega); have fz := far_frozen hgrow3 (kept_cell ((Below.refl _ _).alloc (Nat.le_refl _) _) z2) ((Below.frozen ((Below.refl _ _).alloc (Nat.le_refl _) _) (by show w.heap.size + 1 + 1 < w2.heap.size; omega)).trans f2) (fun q hq => (HRW.out q hq).1) (by show w.heap.size + 1 + 1 < w.heap.size + 1 + 1 + 1; omega); have HSB := Lib.hid (And.intro hgrow3 hat3); have HO3 := Lib.hid hown3; clear hgrow3 hat3 hown3 z2 f2)
        go_roundw
        case rel =>
          refine ⟨k + 1, by omega, by go_num, .slice (some ⟨g, 0, none⟩) ((longTo Ss k).length + 1) cap3, ?_⟩
          rw [longTo_step Ss k (by rw [HL.out]; exact hlt), HR.out.get k hlt, HL.out]
          exact LB.step HM.out (Below.refl _ _) HB2.out HX.out HFT.out HVL.out HS2.out HO3.out HSB.out.1 HSB.out.2
        case measure => simp [intOf]; omega
      · obtain rfl : k = len := by omega
        have HM := Lib.hid M
        have HR := Lib.hid R
        have HLn := Lib.hid (longTo_all Ss k (by rw [HL.out]; exact Nat.le_refl _))
        clear M R
        go_wp2_with fail
        go_loopw [11] (fun i wr' => ∃ j : Nat, j ≤ k ∧ i = .int .i64 j ∧ ∃ v', LW w wr' #[.int .i64 0, .int .i64 0, .int .i64 0, .slice none 0 0] (lams j (.mk 4 h n' (longL Ss.length 0 Ss))) v') (fun i _ => k - (intOf i).toNat)
        case atStart =>
          refine ⟨0, Nat.zero_le _, rfl, v, ?_⟩
          have M := HM.out
          rw [HLn.out] at M
          exact M.toLW ⟨⟨by simp [Tm.op], by simp [Tm.op]⟩, ⟨by simp only [Tm.hd]; omega, by simp only [Tm.hd]; omega⟩, ⟨by simp only [Tm.n]; omega, by simp only [Tm.n]; omega⟩⟩
        case round =>
          obtain ⟨j, hj, rfl, v', M2⟩ := hrel
          generalize hT : lams j (.mk 4 h n' (longL Ss.length 0 Ss)) = T at M2
          have HT := Lib.hid hT
          clear hT
          obtain ⟨a6, n6, m6, rfl⟩ := M2.lies.isSlice
          by_cases hlt2 : j < k
          · obtain ⟨g0, g1, g2, g3⟩ := c4_of M2.out
            have hba := one_below wr (.cells #[.int .i64 T.op, .int .i64 T.hd, .int .i64 T.n, .slice a6 n6 m6] 24)
            have hkk := heap_kept hba M2.out
            obtain ⟨x0, x1, x2, x3⟩ := c4_of hkk
            have f0 := free_in hkk 0
            have f1 := free_in hkk 1
            have f2 := free_in hkk 2
            have f3 := free_in hkk 3
            have HM2 := Lib.hid M2
            clear M2 hba hkk
            go_wp2_with fail
            go_roundw
            case rel =>
              refine ⟨j + 1, by omega, by go_num, .slice (some ⟨wr.heap.size, 0, none⟩) 1 1, ?_⟩
              have h := HM2.out.step
              rw [← HT.out] at h
              simp only [lams]
              rw [HT.out] at h ⊢
              exact h
            case measure => simp [intOf]; omega
          · obtain rfl : j = k := by omega
            obtain ⟨g0, g1, g2, g3⟩ := c4_of M2.out
            obtain ⟨x0, x1, x2, x3⟩ := c4_of M2.res
            have f0 := free_in M2.res 0
            have f1 := free_in M2.res 1
            have f2 := free_in M2.res 2
            have f3 := free_in M2.res 3
            have HM2 := Lib.hid M2
            clear M2
            go_wp2_with fail
            have hz := set4_at HM2.out.res (.int .i64 T.op) (.int .i64 T.hd) (.int .i64 T.n) (.slice a6 n6 m6)
            obtain ⟨z0, z1, z2, z3⟩ := c4_of hz
            refine bodyPost_ret (v := .agg #[.int .i64 T.op, .int .i64 T.hd, .int .i64 T.n, .slice a6 n6 m6]) (by simp [results, Try.results58, go_sem, z0, z1, z2, z3]) rfl ?_
            have hTT : long h n (.mk cn Ss) = T := by
              simp only [long]
              rw [HHE.out, ← HT.out, HN.out, HL.out]
              simp
            rw [hTT]
            have h4 : w.heap.size ≤ w.heap.size + 1 := by omega
            refine ⟨_, rfl, (((HM2.out.below.setCell h4 _).setCell h4 _).setCell h4 _).setCell h4 _, (HM2.out.lies.still fun b hS _ => set4_other _ _ _ _ ?_).more fun b _ hS => ?_⟩
            · have hS' : w.heap.size + 1 + 1 + 1 ≤ b := hS
              omega
            · have hS' : w.heap.size + 1 + 1 + 1 ≤ b := hS
              omega

theorem longR_calls : ∀ f : Nat, LongROk f
  | 0 => fun h n cn Ss Sv w hf => by have := Sp.Tm.sz_pos (.mk cn Ss); omega
  | f + 1 => longR_walk f (longR_calls f)
/-- the contract of long -/
theorem longR_any (h n cn : Int) (Ss : List Sp.Tm) (Sv : Value) (w : World) (hs : Sp.Tm.sz (.mk cn Ss) ≤ 600) (h1 : 1 ≤ h) (h3 : h ≤ 3) (n0 : 0 ≤ n) (n1 : n ≤ 10000) (lS : Sp.Lies w (fun _ => True) Sv Ss) :
    Calls Try.prog 58 #[.int .i64 h, .int .i64 n, .agg #[Sv, .int .i64 cn]] w (GivesT w (long h n (.mk cn Ss))) :=
  longR_calls _ h n cn Ss Sv w (Nat.le_refl _) hs h1 h3 n0 n1 lS
end Go.Proofs.Ytieakippgeehgaa.Sb

namespace Go.Proofs.Ytieakippgeehgaa.Sb
open Go.RowKit
set_option linter.unusedSimpArgs false
set_option linter.unusedVariables false

set_option maxHeartbeats 1000000 in
set_option maxRecDepth 100000 in
theorem con_any (n : Int) (a2 : Option Addr) (n2 m2 : Nat) (w : World) :
    Calls Try.prog 49 #[.int .i64 n, .slice a2 n2 m2] w fun e w' => e = .returned (.agg #[.int .i64 4, .int .i64 2, .int .i64 n, .slice a2 n2 m2]) ∧ Below w.heap.size w w' := by
  go_enter Try.func49, Try.ntmps49
  go_wp2
  exact bodyPost_ret (v := .agg #[.int .i64 4, .int .i64 2, .int .i64 n, .slice a2 n2 m2]) (by simp [results, Try.results49, go_sem]) rfl ⟨rfl, one_below w _⟩
set_option maxHeartbeats 1000000 in
set_option maxRecDepth 100000 in
theorem vr_any (n : Int) (a2 : Option Addr) (n2 m2 : Nat) (w : World) :
    Calls Try.prog 48 #[.int .i64 n, .slice a2 n2 m2] w fun e w' => e = .returned (.agg #[.int .i64 4, .int .i64 1, .int .i64 n, .slice a2 n2 m2]) ∧ Below w.heap.size w w' := by
  go_enter Try.func48, Try.ntmps48
  go_wp2
  exact bodyPost_ret (v := .agg #[.int .i64 4, .int .i64 1, .int .i64 n, .slice a2 n2 m2]) (by simp [results, Try.results48, go_sem]) rfl ⟨rfl, one_below w _⟩
set_option maxHeartbeats 1000000 in
set_option maxRecDepth 100000 in
theorem lam_any (o h n : Int) (a2 : Option Addr) (n2 m2 : Nat) (w : World) :
    Calls Try.prog 50 #[.agg #[.int .i64 o, .int .i64 h, .int .i64 n, .slice a2 n2 m2]] w fun e w' => ∃ b, e = .returned (.agg #[.int .i64 3, .int .i64 0, .int .i64 0, .slice (some ⟨b, 0, none⟩) 1 1]) ∧ Below w.heap.size w w' ∧ w'.heap[b]? = some (.cells #[.int .i64 o, .int .i64 h, .int .i64 n, .slice a2 n2 m2] 24 (0, 0)) := by
  go_enter Try.func50, Try.ntmps50
  go_wp2
  have h3 := blocks3 w #[.int .i64 o, .int .i64 h, .int .i64 n, .slice a2 n2 m2] #[.int .i64 3, .int .i64 0, .int .i64 0, .slice (some ⟨w.heap.size + 1 + 1, 0, none⟩) 1 1] #[.int .i64 o, .int .i64 h, .int .i64 n, .slice a2 n2 m2] 24 24 24
  obtain ⟨x0, x1, x2, x3⟩ := c4_of h3.2.1
  exact bodyPost_ret (v := .agg #[.int .i64 3, .int .i64 0, .int .i64 0, .slice (some ⟨w.heap.size + 1 + 1, 0, none⟩) 1 1]) (by simp [results, Try.results50, go_sem, x0, x1, x2, x3]) rfl ⟨_, rfl, h3.2.2.2, h3.2.2.1⟩

set_option maxHeartbeats 1000000 in
set_option maxRecDepth 100000 in
theorem gives_any (S S' : Nat → Prop) (t t' : Tm) (e f : Int) (v v' : Value) (w : World) (hv : Lies w S v t.args) (hv' : Lies w S' v' t'.args) :
    Calls Try.prog 16 #[.agg #[.int .i64 t.op, .int .i64 t.hd, .int .i64 t.n, v], .int .i64 e, .agg #[.int .i64 t'.op, .int .i64 t'.hd, .int .i64 t'.n, v'], .int .i64 f] w
      fun e' w' => e' = .returned (.bool (Tm.same t t' && (e == f))) ∧ Below w.heap.size w w' := by
  obtain ⟨o, h, n, l⟩ := t
  obtain ⟨o', h', n', l'⟩ := t'
  obtain ⟨a2, n2, m2, rfl⟩ := hv.isSlice
  obtain ⟨a3, n3, m3, rfl⟩ := hv'.isSlice
  have h2 := two_below w (.cells #[.int .i64 o, .int .i64 h, .int .i64 n, .slice a2 n2 m2] 24) (.cells #[.int .i64 o', .int .i64 h', .int .i64 n', .slice a3 n3 m3] 24)
  have call := same_any S S' o h n o' h' n' _ _ l l' _ (hv.keep h2) (hv'.keep h2)
  clear hv hv'
  simp only [Tm.op, Tm.hd, Tm.n]
  rcases hs : Tm.same (.mk o h n l) (.mk o' h' n' l') with _ | _
  all_goals
    rw [hs] at call
    clear hs
    rcases hef : (e == f) with _ | _
    all_goals
      go_enter Try.func16, Try.ntmps16
      go_wp2_with (go_at_call 36; (with_reducible refine call.mono ?_); rintro e w1 ⟨rfl, hb1⟩)
      go_ret
      exact ⟨rfl, h2.trans (hb1.mono (by simp; omega))⟩

/-- the examples -/
def awkT : Tm := .mk 4 1 0 [.mk 4 2 1 []]
def awkS : Tm := .mk 3 0 0 [.mk 4 2 2 [.mk 4 1 0 []]]
def awkR : Tm := .mk 4 2 2 [.mk 4 2 1 []]
def awkL : Tm := .mk 3 0 0 [.mk 4 1 1 [.mk 3 0 0 [.mk 4 1 1 [.mk 4 1 0 []]]]]
theorem awk_subst : substOut awkT 0 awkS (.mk 0 [.mk 0 []]) = (awkR, 0) := by
  have h1 : (Tm.proper awkT && Tm.proper awkS && isNum 0 && Sp.Tm.small (.mk 0 [.mk 0 []])) = true := by decide +kernel
  have h2 : Tm.proper (Tm.moved 0 0 awkS) = true := by decide +kernel
  have h3 : Tm.moved 0 0 awkS = awkS := (Tm.same_iff _ _).1 (by decide +kernel)
  have hS : Tm.proper awkS = true := by decide +kernel
  have h4 : Tm.proper (.mk 4 2 1 []) = true := by decide +kernel
  have h5 : Tm.proper awkR = true := by decide +kernel
  have h6 : Tm.moved 0 0 (.mk 4 2 1 []) = .mk 4 2 1 [] := (Tm.same_iff _ _).1 (by decide +kernel)
  unfold substOut
  rw [h1]
  simp only [if_true]
  have h7 : put (.mk 0 [.mk 0 []]) awkS 0 awkT 0 = .ok awkR 4 := by
    unfold awkT
    rw [put_eq, putL_cons, put_eq, putL_nil]
    simp only [whole, h4, if_true, putL_nil, h2, h3]
    simp
    rw [if_pos hS]
    show app [.mk 0 []] awkS [.mk 4 2 1 []] 2 = _
    unfold awkS
    rw [app_cons, put_eq, putL_cons, put_eq, putL_nil]
    have hb : Tm.belowN 4 0 = 0 := rfl
    unfold awkR at h5 ⊢
    simp [hb, h4, h5, h6, app_nil, putL_nil, whole]
  rw [h7]; rfl
theorem awk_long : longOut 1 0 (.mk 0 [.mk 0 [.mk 0 []]]) = (awkL, 0) := by
  have h1 : longArgs 1 0 (.mk 0 [.mk 0 [.mk 0 []]]) = true := by decide +kernel
  have h2 : long 1 0 (.mk 0 [.mk 0 [.mk 0 []]]) = awkL := (Tm.same_iff _ _).1 (by decide +kernel)
  have h3 : Tm.proper awkL = true := by decide +kernel
  unfold longOut
  rw [h1, h2, h3]; rfl
end Go.Proofs.Ytieakippgeehgaa.Sb
