/- Splitting a term at its outermost TPis (plain). * Contracts of the small functions of packages sign and shape: names, results of TPis, kinds, what stands in a class. * Signatures in memory: a row of constants; the contracts of isOver and isNext. -/
import Derived.Test.YteoheeddjddekaaL5a
import Derived.Test.YteoheeddjddekaaSgP
import Derived.Test.YteoheeddjddekaaLexB
namespace Go.Proofs.Yteoheeddjddekaa
open Go.RowKit
theorem cells4_of {w : World} {B : Nat} {x y z v : Value} (h : w.heap[B]? = some (.cells #[x, y, z, v] 25 (0, 0))) : w.cell? ⟨B, 0, none⟩ = some x ∧ w.cell? ⟨B, 1, none⟩ = some y ∧ w.cell? ⟨B, 2, none⟩ = some z ∧ w.cell? ⟨B, 3, none⟩ = some v :=
  ⟨cell_in h 0 _ rfl, cell_in h 1 _ rfl, cell_in h 2 _ rfl, cell_in h 3 _ rfl⟩
theorem Tm.proper_fit {t : Tm} (h : Tm.proper t = true) : t.fit := by
  unfold Tm.proper at h
  simp only [Bool.and_eq_true] at h
  have hn := Tm.nums_of_formed t 1 h.2
  cases t with
  | mk o hd n l =>
    simp only [Tm.nums, Bool.and_eq_true, decide_eq_true_eq] at hn
    exact ⟨⟨by show _ ≤ o; omega, by show o ≤ _; omega⟩, ⟨by show _ ≤ hd; omega, by show hd ≤ _; omega⟩, ⟨by show _ ≤ n; omega, by show n ≤ _; omega⟩⟩
namespace Tm
/-- the domains of the outermost TPis and the body, at most f steps -/
def splitN : Nat → Tm → List Tm × Tm
  | 0, t => ([], t)
  | f + 1, .mk o h n l => if o = 2 then (match l with | [a, b] => (a :: (splitN f b).1, (splitN f b).2) | _ => ([], .mk o h n l)) else ([], .mk o h n l)
def splitOf (t : Tm) : List Tm × Tm := splitN (sz t) t
theorem splitN_same : ∀ (f g : Nat) (t : Tm), sz t ≤ f → sz t ≤ g → splitN f t = splitN g t
  | 0, _, t, h, _ => by have := sz_pos t; omega
  | _, 0, t, _, h => by have := sz_pos t; omega
  | f + 1, g + 1, .mk o h n l, hf, hg => by
    simp only [splitN]
    split
    · match l, hf, hg with
      | [], _, _ => rfl
      | [_], _, _ => rfl
      | [a, b], hf, hg =>
        have e : splitN f b = splitN g b := splitN_same f g b (by simp [sz, szL] at hf; omega) (by simp [sz, szL] at hg; omega)
        simp only [e]
      | _ :: _ :: _ :: _, _, _ => rfl
    · rfl
theorem splitOf_pi (h n : Int) (a b : Tm) : splitOf (.mk 2 h n [a, b]) = (a :: (splitOf b).1, (splitOf b).2) := by
  have e : sz (.mk 2 h n [a, b]) = (sz a + sz b) + 1 := by simp [sz, szL]; omega
  unfold splitOf
  rw [e]
  simp only [splitN]
  rw [splitN_same (sz a + sz b) (sz b) b (by omega) (Nat.le_refl _)]
  simp
theorem splitOf_else {t : Tm} (h : t.op ≠ 2) : splitOf t = ([], t) := by
  obtain ⟨o, hd, n, l⟩ := t
  unfold splitOf
  obtain ⟨f, hf⟩ : ∃ f, sz (.mk o hd n l) = f + 1 := ⟨sz (.mk o hd n l) - 1, by have := sz_pos (.mk o hd n l); omega⟩
  rw [hf]
  simp only [splitN]
  rw [if_neg (show ¬ o = 2 from h)]

mutual
theorem formed_down : ∀ (t : Tm) (d : Nat), formed t (d + 1) = true → formed t d = true
  | .mk o h n l, d, hf => by
    simp only [formed, Bool.and_eq_true, decide_eq_true_eq] at hf ⊢
    exact ⟨⟨by omega, hf.1.2⟩, formedL_down l (d + 1) hf.2⟩
theorem formedL_down : ∀ (l : List Tm) (d : Nat), formedL l (d + 1) = true → formedL l d = true
  | [], _, _ => rfl
  | t :: l, d, hf => by
    simp only [formedL, Bool.and_eq_true] at hf ⊢
    exact ⟨formed_down t d hf.1, formedL_down l d hf.2⟩
end
theorem pi_args {h n : Int} {l : List Tm} {d : Nat} (hf : formed (.mk 2 h n l) d = true) : ∃ a b, l = [a, b] ∧ h = 0 ∧ n = 0 ∧ formed a (d + 1) = true ∧ formed b (d + 1) = true ∧ d ≤ 40 := by
  simp only [formed, Bool.and_eq_true, decide_eq_true_eq] at hf
  obtain ⟨⟨hd, hh⟩, hl⟩ := hf
  rcases headOk_yes 2 h n l.length hh with ⟨e, _⟩ | ⟨_, e, rfl, rfl⟩ | ⟨e, _⟩ | ⟨e, _⟩
  · omega
  · match l, e, hl with
    | [a, b], _, hl =>
      simp only [formedL, Bool.and_eq_true] at hl
      exact ⟨a, b, rfl, rfl, rfl, hl.1, hl.2.1, hd⟩
  · omega
  · omega
theorem proper_of {t : Tm} (h1 : sz t ≤ 600) (h2 : formed t 1 = true) : proper t = true := by
  unfold proper; simp [h1, h2]
theorem proper_formed' {t : Tm} (h : proper t = true) : sz t ≤ 600 ∧ formed t 1 = true := by
  unfold proper at h; simpa using h
theorem proper_pi {h n : Int} {l : List Tm} (hp : proper (.mk 2 h n l) = true) : ∃ a b, l = [a, b] ∧ h = 0 ∧ n = 0 ∧ proper a = true ∧ proper b = true := by
  obtain ⟨h1, h2⟩ := proper_formed' hp
  obtain ⟨a, b, rfl, rfl, rfl, ha, hb, _⟩ := pi_args h2
  simp [sz, szL] at h1
  exact ⟨a, b, rfl, rfl, rfl, proper_of (by omega) (formed_down _ _ ha), proper_of (by omega) (formed_down _ _ hb)⟩

theorem split_depth : ∀ (f : Nat) (t : Tm) (d : Nat), sz t ≤ f → formed t d = true → d + (splitOf t).1.length ≤ 40
  | 0, t, _, h, _ => by have := sz_pos t; omega
  | f + 1, .mk o h n l, d, hs, hf => by
    by_cases ho : o = 2
    · subst ho
      obtain ⟨a, b, rfl, rfl, rfl, _, hb, _⟩ := pi_args hf
      simp [sz, szL] at hs
      have := split_depth f b (d + 1) (by omega) hb
      rw [splitOf_pi]
      simp only [List.length_cons]; omega
    · rw [splitOf_else (t := .mk o h n l) ho]
      simp only [formed, Bool.and_eq_true, decide_eq_true_eq] at hf
      simp; omega
theorem split_all : ∀ (f : Nat) (t : Tm), sz t ≤ f → proper t = true → (∀ x ∈ (splitOf t).1, proper x = true) ∧ proper (splitOf t).2 = true ∧ (splitOf t).2.op ≠ 2 ∧ True
  | 0, t, h, _ => by have := sz_pos t; omega
  | f + 1, .mk o h n l, hs, hp => by
    by_cases ho : o = 2
    · subst ho
      obtain ⟨a, b, rfl, rfl, rfl, ha, hb⟩ := proper_pi hp
      simp [sz, szL] at hs
      obtain ⟨i1, i2, i3, i4⟩ := split_all f b (by omega) hb
      rw [splitOf_pi]
      refine ⟨?_, i2, i3, ?_⟩
      · intro x hx
        rcases List.mem_cons.1 hx with rfl | hx
        · exact ha
        · exact i1 x hx
      · trivial
    · rw [splitOf_else (t := .mk o h n l) ho]
      exact ⟨fun x hx => by simp at hx, hp, ho, trivial⟩
end Tm
/-- what Split returns -/
def splitOut (t : Tm) : List Tm × Tm × Int := if Tm.proper t then ((Tm.splitOf t).1, (Tm.splitOf t).2, 0) else ([], Tm.zero, 2)
/-- what has been split off so far, and what is left -/
structure SplitTo (t : Tm) (ts : List Tm) (u : Tm) : Prop where
  eq : Tm.splitOf t = (ts ++ (Tm.splitOf u).1, (Tm.splitOf u).2)
  ok : Tm.proper u = true
  sz : ts.length + Tm.sz u ≤ 600
  fit : ∀ x ∈ ts, x.fit
theorem SplitTo.start {t : Tm} (hp : Tm.proper t = true) : SplitTo t [] t := ⟨by simp, hp, by simpa using (Tm.proper_formed' hp).1, by simp⟩
theorem SplitTo.step {t u a b : Tm} {ts : List Tm} (h : SplitTo t ts u) (e : u = .mk 2 0 0 [a, b]) (ha : Tm.proper a = true) (hb : Tm.proper b = true) : SplitTo t (ts ++ [a]) b := by
  subst e
  refine ⟨?_, hb, ?_, ?_⟩
  · have := h.eq
    rw [Tm.splitOf_pi] at this
    rw [this]; simp
  · have := h.sz
    have := Tm.sz_pos a
    simp [Tm.sz, Tm.szL] at *; omega
  · intro x hx
    rcases List.mem_append.1 hx with hx | hx
    · exact h.fit x hx
    · rw [List.mem_singleton.1 hx]; exact Tm.proper_fit ha
theorem SplitTo.stop {t u : Tm} {ts : List Tm} (h : SplitTo t ts u) (hu : u.op ≠ 2) : Tm.splitOf t = (ts, u) := by
  have := h.eq
  rw [Tm.splitOf_else hu] at this
  simpa using this
end Go.Proofs.Yteoheeddjddekaa

namespace Go.Proofs.Yteoheeddjddekaa
open Go.RowKit
set_option linter.unusedSimpArgs false
set_option linter.unusedVariables false
namespace Tm
theorem overL_snoc (N b o : Int) : ∀ (l : List Tm) (i : Nat) (t : Tm), overL N b o i (l ++ [t]) = (overL N b o i l && over N (b + belowN o (i + l.length)) t)
  | [], i, t => by simp [overL]
  | a :: l, i, t => by
    simp only [List.cons_append, overL, overL_snoc N b o l (i + 1) t, List.length_cons, Bool.and_assoc]
    rw [show i + 1 + l.length = i + (l.length + 1) by omega]
theorem overL_append (N b o : Int) : ∀ (l m : List Tm) (i : Nat), overL N b o i l = false → overL N b o i (l ++ m) = false
  | [], _, _, h => by simp [overL] at h
  | a :: l, m, i, h => by
    simp only [List.cons_append, overL, Bool.and_eq_false_iff] at h ⊢
    rcases h with h | h
    · exact .inl h
    · exact .inr (overL_append N b o l m (i + 1) h)
/-- the first k parts are over N -/
def OverTo (N b o : Int) (l : List Tm) (k : Nat) : Prop := overL N b o 0 (l.take k) = true
theorem OverTo.zero (N b o : Int) (l : List Tm) : OverTo N b o l 0 := by simp [OverTo, overL]
theorem OverTo.step {N b o : Int} {l : List Tm} {k : Nat} (h : OverTo N b o l k) (hk : k < l.length) (e : over N (b + belowN o k) l[k] = true) : OverTo N b o l (k + 1) := by
  unfold OverTo at *
  rw [List.take_succ_eq_append_getElem hk, overL_snoc, h, List.length_take, Nat.min_eq_left (by omega), Nat.zero_add, e]; rfl
theorem OverTo.not {N b o : Int} {l : List Tm} {k : Nat} (hk : k < l.length) (e : over N (b + belowN o k) l[k] = false) : overL N b o 0 l = false := by
  have h : overL N b o 0 (l.take (k + 1)) = false := by
    rw [List.take_succ_eq_append_getElem hk, overL_snoc, List.length_take, Nat.min_eq_left (by omega), Nat.zero_add, e, Bool.and_false]
  have := overL_append N b o (l.take (k + 1)) (l.drop (k + 1)) 0 h
  rwa [List.take_append_drop] at this
theorem OverTo.all {N b o : Int} {l : List Tm} {k : Nat} (h : OverTo N b o l k) (hk : l.length ≤ k) : overL N b o 0 l = true := by
  unfold OverTo at h; rwa [List.take_of_length_le hk] at h
end Tm

theorem toList_loop (s : ByteArray) : ∀ (k i : Nat) (r : List UInt8), s.size - i = k → ByteArray.toList.loop s i r = r.reverse ++ s.data.toList.drop i
  | 0, i, r, h => by
    rw [ByteArray.toList.loop.eq_def]
    have hl : s.data.toList.length = s.size := by simp
    rw [if_neg (by omega), List.drop_eq_nil_of_le (by omega), List.append_nil]
  | k + 1, i, r, h => by
    have hl : s.data.toList.length = s.size := by simp
    rw [ByteArray.toList.loop.eq_def, if_pos (by omega), toList_loop s k (i + 1) _ (by omega), List.drop_eq_getElem_cons (show i < s.data.toList.length by omega)]
    have hg : s.get! i = s.data.toList[i] := by
      rw [Array.getElem_toList]
      unfold ByteArray.get!
      exact getElem!_pos s.data i (by simpa using (show i < s.data.toList.length by omega))
    simp [hg]
theorem bytes_toList (s : ByteArray) : s.toList = s.data.toList := by
  unfold ByteArray.toList
  rw [toList_loop s _ 0 [] rfl]; simp
theorem typeWord_ne {s : ByteArray} (h : ¬ s = ⟨#[116, 121, 112, 101]⟩) : (s.toList == [116, 121, 112, 101]) = false := by
  rw [beq_eq_false_iff_ne, bytes_toList]
  intro e
  exact h (WideShapes.bytes_inj e)
theorem nameOk_no {s : ByteArray} (h : Lex.isSmall s.data.toList = false) : Sg.nameOk s = false := by unfold Sg.nameOk; rw [h]; rfl
theorem nameOk_type {s : ByteArray} (h : s = Sg.typeWord) : Sg.nameOk s = false := by unfold Sg.nameOk; rw [decide_eq_true h]; simp
theorem nameOk_yes {s : ByteArray} (h1 : Lex.isSmall s.data.toList = true) (h : ¬ s = Sg.typeWord) : Sg.nameOk s = true := by unfold Sg.nameOk; rw [decide_eq_false h, h1]; rfl
set_option maxHeartbeats 400000 in
set_option maxRecDepth 100000 in
theorem sgName_any (s : ByteArray) (w : World) (hs : s.size ≤ 140737488351232) : Calls Try.prog 51 #[.string s] w fun e w' => e = .returned (.bool (Sg.nameOk s)) ∧ w = w' := by
  have call := lx_IsSmall s w hs
  rcases h1 : Lex.isSmall s.data.toList with _ | _
  · rw [h1] at call
    rw [nameOk_no h1]
    clear h1
    go_enter Try.func51, Try.ntmps51
    go_wp2_with (go_at_call 69; refine call.mono ?_; rintro e w' ⟨rfl, rfl⟩)
    go_ret
    exact ⟨rfl, rfl⟩
  · rw [h1] at call
    by_cases h2 : s = Sg.typeWord
    · rw [nameOk_type h2]
      unfold Sg.typeWord at h2
      subst h2
      clear h1
      go_enter Try.func51, Try.ntmps51
      go_wp2_with (go_at_call 69; refine call.mono ?_; rintro e w' ⟨rfl, rfl⟩)
      go_ret
      exact ⟨rfl, rfl⟩
    · rw [nameOk_yes h1 h2]
      unfold Sg.typeWord at h2
      have h3 := typeWord_ne h2
      clear h1
      go_enter Try.func51, Try.ntmps51
      go_wp2_with (go_at_call 69; refine call.mono ?_; rintro e w' ⟨rfl, rfl⟩)
      go_ret
      exact ⟨by simp [h3], rfl⟩

/-- the loop of Result -/
structure ResSt (S : Nat → Prop) (w : World) (t : Tm) (k : Nat) (u : Tm) (uv : Value) (wr : World) : Prop where
  box : wr.heap[w.heap.size]? = some (.cells #[.int .i64 u.op, .int .i64 u.hd, .int .i64 u.n, uv] 25 (0, 0))
  res : wr.heap[w.heap.size + 1]? = some (.cells #[.int .i64 0, .int .i64 0, .int .i64 0, .slice none 0 0] 25 (0, 0))
  arg : Lies w S uv u.args
  below : Below w.heap.size w wr
  eq : Tm.res t = ((Tm.res u).1, (Tm.res u).2 + k)
  ok : Tm.proper u = true
  sz : k + Tm.sz u ≤ 600
theorem ResSt.next {S : Nat → Prop} {w : World} {t : Tm} {k : Nat} {u a b : Tm} {uv bv : Value} {wr : World} (H : ResSt S w t k u uv wr) (e : u = .mk 2 0 0 [a, b]) (hpb : Tm.proper b = true) (hl : Lies w S bv b.args) :
    ResSt S w t (k + 1) b bv ((((wr.setCell ⟨w.heap.size, 0, none⟩ (.int .i64 b.op)).setCell ⟨w.heap.size, 1, none⟩ (.int .i64 b.hd)).setCell ⟨w.heap.size, 2, none⟩ (.int .i64 b.n)).setCell ⟨w.heap.size, 3, none⟩ bv) := by
  refine ⟨set4_at H.box _ _ _ _, ?_, hl, (((H.below.setCell (by simp) _).setCell (by simp) _).setCell (by simp) _).setCell (by simp) _, ?_, hpb, ?_⟩
  · exact (heap_set4 _ _ _ _ (by simp) (by simp) (by simp) (by simp)).trans H.res
  · have := H.eq
    subst e
    rw [Tm.res_pi] at this
    rw [this]; simp only [Prod.mk.injEq, true_and]; omega
  · have := H.sz
    subst e
    simp only [Tm.sz, Tm.szL] at this; omega

set_option maxHeartbeats 4000000 in
set_option maxRecDepth 100000 in
theorem result_any (S : Nat → Prop) (t : Tm) (v : Value) (w : World) (hv : Lies w S v t.args) (hp : Tm.proper t = true) :
    Calls Try.prog 42 #[.agg #[.int .i64 t.op, .int .i64 t.hd, .int .i64 t.n, v]] w fun e w' =>
      ∃ b, e = .returned (.tuple #[.agg #[.int .i64 (Tm.res t).1.op, .int .i64 (Tm.res t).1.hd, .int .i64 (Tm.res t).1.n, b], .int .i64 (Tm.res t).2]) ∧ Below w.heap.size w w' ∧ Lies w S b (Tm.res t).1.args := by
  obtain ⟨a2, n2, m2, rfl⟩ := hv.isSlice
  have h2 := two_below w (.cells #[.int .i64 t.op, .int .i64 t.hd, .int .i64 t.n, .slice a2 n2 m2] 25) (.cells #[.int .i64 0, .int .i64 0, .int .i64 0, .slice none 0 0] 25)
  have hk2 := two_blocks w #[.int .i64 t.op, .int .i64 t.hd, .int .i64 t.n, .slice a2 n2 m2] #[.int .i64 0, .int .i64 0, .int .i64 0, .slice none 0 0] 25 25
  have HST := Lib.hid (show ResSt S w t 0 t (.slice a2 n2 m2) _ from ⟨hk2.1, hk2.2, hv, h2, by simp, hp, by have := (Tm.proper_formed' hp).1; omega⟩)
  clear h2 hk2 hv hp
  go_enter Try.func42, Try.ntmps42
  go_wp2_with fail
  go_loopw [4] (fun c wr => ∃ (k : Nat) (u : Tm) (uv : Value), c = .int .i64 k ∧ ResSt S w t k u uv wr) (fun c _ => 600 - (RowKit.intOf c).toNat)
  case atStart => exact ⟨0, _, _, rfl, HST.out⟩
  case round =>
    obtain ⟨k, u, uv, rfl, H⟩ := hrel
    obtain ⟨x0, x1, x2, x3⟩ := cells4_of H.box
    obtain ⟨a4, n4, m4, rfl⟩ := H.arg.isSlice
    by_cases hop : u.op = 2
    · obtain ⟨uo, uh, un, ul⟩ := u
      simp only [Tm.op] at hop
      subst hop
      obtain ⟨a, b, rfl, rfl, rfl, ha, hpb⟩ := Tm.proper_pi H.ok
      obtain ⟨ad, bb, off, len, cap, oo, hh, kk, sv, tt, hed, R⟩ := H.arg.open
      simp only [Value.slice.injEq] at hed
      obtain ⟨rfl, rfl, rfl⟩ := hed
      obtain rfl : 2 = n4 := R.length
      obtain rfl := R.hao (by omega)
      have eb : b = .mk (oo 1) (hh 1) (kk 1) (tt 1) := R.get 1 (by omega)
      obtain ⟨d0, d1, d2, d3, hs1⟩ := R.at H.below 1 (by omega)
      simp only [Nat.one_mul] at d0 d1 d2 d3
      obtain ⟨a6, n6, m6, hsv1⟩ := (R.sub 1 (by omega)).isSlice
      rw [hsv1] at d3
      have hsz := H.sz
      have hszb := Tm.sz_pos a
      have hszc := Tm.sz_pos b
      simp only [Tm.sz, Tm.szL] at hsz
      have f0 := free_in H.box 0
      have f1 := free_in H.box 1
      have f2 := free_in H.box 2
      have f3 := free_in H.box 3
      have HH := Lib.hid H
      have HR := Lib.hid R
      have HB := Lib.hid eb
      have HPB := Lib.hid hpb
      clear H R eb ha hpb hs1
      go_wp2_with fail
      go_roundw
      case rel =>
        have hl := HR.out.sub 1 (by omega)
        rw [hsv1] at hl
        exact ⟨k + 1, _, _, by go_num, ResSt.next (b := .mk (oo 1) (hh 1) (kk 1) (tt 1)) HH.out (by rw [HB.out]) (by rw [← HB.out]; exact HPB.out) hl⟩
      case measure => simp [RowKit.intOf]; omega
    · have hbsz := H.below.size
      have hbl := lt_of_block H.res
      have HH := Lib.hid H
      have HE := Lib.hid (Tm.res_else hop)
      have hop' : (u.op == 2) = false := by simpa using hop
      obtain ⟨y0, y1, y2, y3⟩ := cells4_of H.res
      have f0 := free_in H.res 0
      have f1 := free_in H.res 1
      have f2 := free_in H.res 2
      have f3 := free_in H.res 3
      clear H
      go_wp2_with fail
      focus
        have hz := set4_at HH.out.res (.int .i64 u.op) (.int .i64 u.hd) (.int .i64 u.n) (.slice a4 n4 m4)
        have B2 := (((HH.out.below.setCell (p := ⟨w.heap.size + 1, 0, none⟩) (by simp) (.int .i64 u.op)).setCell (p := ⟨w.heap.size + 1, 1, none⟩) (by simp) (.int .i64 u.hd)).setCell (p := ⟨w.heap.size + 1, 2, none⟩) (by simp) (.int .i64 u.n)).setCell (p := ⟨w.heap.size + 1, 3, none⟩) (by simp) (.slice a4 n4 m4)
        generalize (((wr.setCell ⟨w.heap.size + 1, 0, none⟩ (.int .i64 u.op)).setCell ⟨w.heap.size + 1, 1, none⟩ (.int .i64 u.hd)).setCell ⟨w.heap.size + 1, 2, none⟩ (.int .i64 u.n)).setCell ⟨w.heap.size + 1, 3, none⟩ (.slice a4 n4 m4) = Z at hz B2 ⊢
        obtain ⟨z0, z1, z2, z3⟩ := cells4_of hz
        refine bodyPost_ret (v := .tuple #[.agg #[.int .i64 u.op, .int .i64 u.hd, .int .i64 u.n, .slice a4 n4 m4], .int .i64 k]) (by simp [results, Try.results42, go_sem, z0, z1, z2, z3]) rfl ?_
        have E := HH.out.eq
        rw [HE.out] at E
        simp only [Nat.zero_add] at E
        rw [E]
        exact ⟨_, rfl, B2, HH.out.arg⟩

set_option maxHeartbeats 1000000 in
set_option maxRecDepth 100000 in
theorem isKind_any (S : Nat → Prop) (t : Tm) (v : Value) (w : World) (hv : Lies w S v t.args) (hp : Tm.proper t = true) :
    Calls Try.prog 41 #[.agg #[.int .i64 t.op, .int .i64 t.hd, .int .i64 t.n, v]] w fun e w' => e = .returned (.bool (Tm.kind t)) ∧ Below w.heap.size w w' := by
  obtain ⟨a2, n2, m2, rfl⟩ := hv.isSlice
  have hb := one_below w (.cells #[.int .i64 t.op, .int .i64 t.hd, .int .i64 t.n, .slice a2 n2 m2] 25)
  have call := fun w1 (hb1 : Below w.heap.size w w1) => result_any S t _ w1 (hv.keep hb1) hp
  have HB := Lib.hid hb
  clear hv hp
  go_enter Try.func41, Try.ntmps41
  go_wp2_with fail
  refine (call _ HB.out).mono ?_
  rintro e w1 ⟨b, rfl, hb1, hl1⟩
  obtain ⟨a3, n3, m3, rfl⟩ := hl1.isSlice
  have HB1 := Lib.hid (below_next HB.out hb1)
  clear hl1 hb1
  go_wp2_with fail
  go_ret
  exact ⟨rfl, HB1.out.trans ((one_below w1 _).mono HB1.out.size)⟩

set_option maxHeartbeats 1000000 in
set_option maxRecDepth 100000 in
theorem over_bad (sa : Option Addr) (N sm : Nat) (o h n b : Int) (a2 : Option Addr) (n2 m2 : Nat) (w : World) (hN : N ≤ 9223372036854775807) (e : (h = 1 ∧ b ≤ n) ∨ (h = 2 ∧ (N : Int) ≤ n) ∨ h = 3) :
    Calls Try.prog 66 #[.slice sa N sm, .agg #[.int .i64 o, .int .i64 h, .int .i64 n, .slice a2 n2 m2], .int .i64 b] w fun e w' => e = .returned (.bool false) ∧ Below w.heap.size w w' := by
  rcases e with ⟨rfl, e⟩ | ⟨rfl, e⟩ | rfl
  all_goals
    go_enter Try.func66, Try.ntmps66
    go_wp2
    go_ret
    exact ⟨rfl, one_below w _⟩

set_option maxHeartbeats 4000000 in
set_option maxRecDepth 100000 in
theorem over_walk (S : Nat → Prop) (sa : Option Addr) (N sm : Nat) (hN : N ≤ 9223372036854775807) (f : Nat) (ih : ∀ (o h n b : Int) (v : Value) (l : List Tm) (w : World), Tm.sz (.mk o h n l) ≤ f → 0 ≤ b → b + (Tm.sz (.mk o h n l) : Int) ≤ 1000000 → Lies w S v l →
      Calls Try.prog 66 #[.slice sa N sm, .agg #[.int .i64 o, .int .i64 h, .int .i64 n, v], .int .i64 b] w fun e w' => e = .returned (.bool (Tm.over N b (.mk o h n l))) ∧ Below w.heap.size w w')
    (o h n b : Int) (v : Value) (l : List Tm) (w : World) (hf : Tm.sz (.mk o h n l) ≤ f + 1) (hb0 : 0 ≤ b) (hb1 : b + (Tm.sz (.mk o h n l) : Int) ≤ 1000000) (hv : Lies w S v l)
    (e : ((h == 1) = true ∧ (h == 2) = false ∧ (h == 3) = false ∧ n < b) ∨ ((h == 1) = false ∧ (h == 2) = true ∧ (h == 3) = false ∧ n < (N : Int)) ∨ ((h == 1) = false ∧ (h == 2) = false ∧ (h == 3) = false)) :
    Calls Try.prog 66 #[.slice sa N sm, .agg #[.int .i64 o, .int .i64 h, .int .i64 n, v], .int .i64 b] w fun e w' => e = .returned (.bool (Tm.overL N b o 0 l)) ∧ Below w.heap.size w w' := by
  obtain ⟨ao, bb, off, len, cap, oo, hh, kk, sv, ts, rfl, R⟩ := hv.open
  have hr := R.hr
  have hl := R.hl
  have HL := Lib.hid R.length
  have hszp := Tm.sz_pos (.mk o h n l)
  clear hv
  rcases e with ⟨e1, e2, e3, e4⟩ | ⟨e1, e2, e3, e4⟩ | ⟨e1, e2, e3⟩
  all_goals
    go_enter Try.func66, Try.ntmps66
    go_wp2
    go_loopw [36] (fun i wr => ∃ k : Nat, k ≤ len ∧ i = .int .i64 k ∧ Below w.heap.size w wr ∧ wr.heap[w.heap.size]? = some (.cells #[.int .i64 o, .int .i64 h, .int .i64 n, .slice ao len cap] 25 (0, 0)) ∧ Tm.OverTo N b o l k)
      (fun i _ => len - (RowKit.intOf i).toNat)
    case atStart => exact ⟨0, Nat.zero_le _, rfl, one_below w _, heap_alloc_new w _, Tm.OverTo.zero _ _ _ _⟩
    case round =>
      obtain ⟨k, hk, rfl, hbw, hbx, hlo⟩ := hrel
      have q0 := cell_in hbx 0 (.int .i64 o) rfl
      have q2 := cell_in hbx 2 (.int .i64 n) rfl
      have q3 := cell_in hbx 3 (.slice ao len cap) rfl
      have hlw := lt_of_block hbx
      have HB := Lib.hid hbx
      clear hbx
      by_cases hlt : k < len
      · obtain rfl := R.hao (by omega)
        obtain ⟨d0, d1, d2, d3, hsub⟩ := R.at hbw k hlt
        obtain ⟨a5, n5, m5, hsv⟩ := hsub.isSlice
        rw [hsv] at d3 hsub
        have hsz := R.size hf k hlt
        have hs6 := R.size_lt (x := o) (y := h) (z := n) k hlt
        have hkl : k < l.length := by rw [HL.out]; exact hlt
        have hbl := Tm.belowN_bd o k
        have HBX := Lib.hid (one_below wr (.cells #[.int .i64 (oo k), .int .i64 (hh k), .int .i64 (kk k), .slice a5 n5 m5] 25))
        have HR := Lib.hid (R.get k hlt)
        have call := fun (w1 : World) (hb : Below wr.heap.size wr w1) => ih (oo k) (hh k) (kk k) (b + Tm.belowN o k) (.slice a5 n5 m5) (ts k) w1 hsz (by omega) (by omega) (hsub.keep hb)
        have HT := Lib.hid (fun (e : Tm.over N (b + Tm.belowN o k) (.mk (oo k) (hh k) (kk k) (ts k)) = true) => hlo.step hkl (by rw [HR.out]; exact e))
        have HF := Lib.hid (fun (e : Tm.over N (b + Tm.belowN o k) (.mk (oo k) (hh k) (kk k) (ts k)) = false) => Tm.OverTo.not hkl (by rw [HR.out]; exact e))
        clear ih hlo
        have cs : ((o == 3) = true ∧ b + Tm.belowN o k = b + 1) ∨ ((o == 3) = false ∧ (o == 2) = true ∧ ((k : Int) == 1) = true ∧ b + Tm.belowN o k = b + 1) ∨ ((o == 3) = false ∧ (o == 2) = true ∧ ((k : Int) == 1) = false ∧ b + Tm.belowN o k = b) ∨ ((o == 3) = false ∧ (o == 2) = false ∧ b + Tm.belowN o k = b) := by
          have ek : (k == 1) = ((k : Int) == 1) := by rw [Bool.eq_iff_iff]; simp; omega
          rcases c1 : (o == 3) with _ | _
          · rcases c2 : (o == 2) with _ | _
            · simp [Tm.belowN, c1, c2]
            · rcases c3 : ((k : Int) == 1) with _ | _
              · simp [Tm.belowN, c1, c2, ek, c3]
              · simp [Tm.belowN, c1, c2, ek, c3]
          · simp [Tm.belowN, c1]
        rcases cs with ⟨c1, cb⟩ | ⟨c1, c2, c3, cb⟩ | ⟨c1, c2, c3, cb⟩ | ⟨c1, c2, cb⟩
        all_goals
          rw [cb] at call HT HF
          rcases hr' : Tm.over N _ (.mk (oo k) (hh k) (kk k) (ts k)) with _ | _
          · rw [hr'] at call
            have HN := Lib.hid (HF.out hr')
            clear hr' cb HT HF hsub
            go_wp2_with fail
            refine (call _ HBX.out).mono ?_
            rintro e w2 ⟨rfl, hb2'⟩
            have HB2 := Lib.hid (HBX.out.trans (hb2'.mono HBX.out.size))
            clear hb2'
            go_wp2_with fail
            go_ret
            exact ⟨ret_bool (a := false) (by rw [HN.out]), below_next hbw HB2.out⟩
          · rw [hr'] at call
            have HN := Lib.hid (HT.out hr')
            clear hr' cb HT HF hsub
            go_wp2_with fail
            refine (call _ HBX.out).mono ?_
            rintro e w2 ⟨rfl, hb2'⟩
            have HB2 := Lib.hid (HBX.out.trans (hb2'.mono HBX.out.size))
            clear hb2'
            go_wp2_with fail
            go_roundw
            case rel => exact ⟨k + 1, by omega, by go_num, below_next hbw HB2.out, heap_kept HB2.out HB.out, HN.out⟩
            case measure => simp [RowKit.intOf]; omega
      · have HN := Lib.hid (hlo.all (by rw [HL.out]; omega))
        clear hlo
        go_wp2
        go_ret
        exact ⟨ret_bool (a := true) (by rw [HN.out]), hbw⟩
end Go.Proofs.Yteoheeddjddekaa

namespace Go.Proofs.Yteoheeddjddekaa
open Go.RowKit
set_option linter.unusedSimpArgs false
set_option linter.unusedVariables false

theorem over_calls (S : Nat → Prop) (sa : Option Addr) (N sm : Nat) (hN : N ≤ 9223372036854775807) : ∀ (f : Nat) (o h n b : Int) (v : Value) (l : List Tm) (w : World), Tm.sz (.mk o h n l) ≤ f → 0 ≤ b → b + (Tm.sz (.mk o h n l) : Int) ≤ 1000000 → Lies w S v l →
      Calls Try.prog 66 #[.slice sa N sm, .agg #[.int .i64 o, .int .i64 h, .int .i64 n, v], .int .i64 b] w fun e w' => e = .returned (.bool (Tm.over N b (.mk o h n l))) ∧ Below w.heap.size w w'
  | 0, o, h, n, _, _, l, _, hf, _, _, _ => by have := Tm.sz_pos (.mk o h n l); omega
  | f + 1, o, h, n, b, v, l, w, hf, hb0, hb1, hv => by
    by_cases c : ((h == 1 && decide (b ≤ n)) || (h == 2 && decide ((N : Int) ≤ n)) || h == 3) = true
    · have e : Tm.over N b (.mk o h n l) = false := by simp only [Tm.over, c]; rfl
      rw [e]
      obtain ⟨a2, n2, m2, rfl⟩ := hv.isSlice
      refine over_bad sa N sm o h n b a2 n2 m2 w hN ?_
      simpa [Bool.or_eq_true, or_assoc] using c
    · have c' := Bool.eq_false_iff.2 c
      have e : Tm.over N b (.mk o h n l) = Tm.overL N b o 0 l := by simp only [Tm.over, c']; simp
      rw [e]
      refine over_walk S sa N sm hN f (over_calls S sa N sm hN f) o h n b v l w hf hb0 hb1 hv ?_
      by_cases h1 : h = 1
      · subst h1; simp at c'; exact .inl ⟨rfl, rfl, rfl, c'⟩
      · by_cases h2 : h = 2
        · subst h2; simp at c'; exact .inr (.inl ⟨rfl, rfl, rfl, c'⟩)
        · by_cases h3 : h = 3
          · subst h3; simp at c'
          · exact .inr (.inr ⟨by simpa using h1, by simpa using h2, by simpa using h3⟩)
theorem over_any (S : Nat → Prop) (sa : Option Addr) (N sm : Nat) (hN : N ≤ 9223372036854775807) (t : Tm) (v : Value) (w : World) (hp : Tm.proper t = true) (hv : Lies w S v t.args) :
      Calls Try.prog 66 #[.slice sa N sm, .agg #[.int .i64 t.op, .int .i64 t.hd, .int .i64 t.n, v], .int .i64 0] w fun e w' => e = .returned (.bool (Tm.over N 0 t)) ∧ Below w.heap.size w w' := by
  obtain ⟨o, h, n, l⟩ := t
  have := (Tm.proper_formed' hp).1
  exact over_calls S sa N sm hN _ o h n 0 v l w (Nat.le_refl _) (by omega) (by omega) hv

/-- a row of constants, opened -/
structure DRow (w : World) (S : Nat → Prop) (ao : Option Addr) (b off len cap : Nat) (nm : Nat → ByteArray) (o h k : Nat → Int) (sv : Nat → Value) (ts : Nat → List Tm) (im : Nat → Int) (l : List Dc) : Prop where
  isRow : l = (List.range len).map fun i => ⟨nm i, .mk (o i) (h i) (k i) (ts i), im i⟩
  hao : 0 < len → ao = some ⟨b, off, none⟩
  hS : 0 < len → S b
  hl : len ≤ cap
  hr : cap ≤ 9223372036854775807
  c0 : ∀ i, i < len → w.cell? ⟨b, off + i * 6, none⟩ = some (.string (nm i))
  c1 : ∀ i, i < len → w.cell? ⟨b, off + i * 6 + 1, none⟩ = some (.int .i64 (o i))
  c2 : ∀ i, i < len → w.cell? ⟨b, off + i * 6 + 2, none⟩ = some (.int .i64 (h i))
  c3 : ∀ i, i < len → w.cell? ⟨b, off + i * 6 + 3, none⟩ = some (.int .i64 (k i))
  c4 : ∀ i, i < len → w.cell? ⟨b, off + i * 6 + 4, none⟩ = some (sv i)
  c5 : ∀ i, i < len → w.cell? ⟨b, off + i * 6 + 5, none⟩ = some (.int .i64 (im i))
  rn : ∀ i, i < len → (nm i).size ≤ 140737488351232
  r0 : ∀ i, i < len → -9223372036854775808 ≤ o i ∧ o i ≤ 9223372036854775807
  r1 : ∀ i, i < len → -9223372036854775808 ≤ h i ∧ h i ≤ 9223372036854775807
  r2 : ∀ i, i < len → -9223372036854775808 ≤ k i ∧ k i ≤ 9223372036854775807
  r3 : ∀ i, i < len → -9223372036854775808 ≤ im i ∧ im i ≤ 9223372036854775807
  sub : ∀ i, i < len → Lies w S (sv i) (ts i)
/-- a slice of constants lies in w, in blocks of S -/
def DLies (w : World) (S : Nat → Prop) (v : Value) (l : List Dc) : Prop :=
  ∃ ao b off len cap nm o h k sv ts im, v = .slice ao len cap ∧ DRow w S ao b off len cap nm o h k sv ts im l
section
variable {w wr : World} {S : Nat → Prop} {ao : Option Addr} {b off len cap : Nat} {nm : Nat → ByteArray} {o h k : Nat → Int} {sv : Nat → Value} {ts : Nat → List Tm} {im : Nat → Int} {l : List Dc}
theorem DRow.length (R : DRow w S ao b off len cap nm o h k sv ts im l) : l.length = len := by rw [R.isRow]; simp
theorem DRow.get (R : DRow w S ao b off len cap nm o h k sv ts im l) (i : Nat) (hi : i < len) : l[i]'(by rw [R.length]; exact hi) = ⟨nm i, .mk (o i) (h i) (k i) (ts i), im i⟩ := by
  have := R.isRow; subst this; simp
theorem DRow.at (R : DRow w S ao b off len cap nm o h k sv ts im l) (hb : Below w.heap.size w wr) (i : Nat) (hi : i < len) :
    wr.cell? ⟨b, off + i * 6, none⟩ = some (.string (nm i)) ∧ wr.cell? ⟨b, off + i * 6 + 1, none⟩ = some (.int .i64 (o i)) ∧ wr.cell? ⟨b, off + i * 6 + 2, none⟩ = some (.int .i64 (h i)) ∧ wr.cell? ⟨b, off + i * 6 + 3, none⟩ = some (.int .i64 (k i)) ∧ wr.cell? ⟨b, off + i * 6 + 4, none⟩ = some (sv i) ∧ wr.cell? ⟨b, off + i * 6 + 5, none⟩ = some (.int .i64 (im i)) ∧ Lies wr S (sv i) (ts i) :=
  ⟨kept_cell hb (R.c0 i hi), kept_cell hb (R.c1 i hi), kept_cell hb (R.c2 i hi), kept_cell hb (R.c3 i hi), kept_cell hb (R.c4 i hi), kept_cell hb (R.c5 i hi), (R.sub i hi).keep hb⟩
theorem DRow.keep (R : DRow w S ao b off len cap nm o h k sv ts im l) (hb : Below w.heap.size w wr) : DRow wr S ao b off len cap nm o h k sv ts im l :=
  ⟨R.isRow, R.hao, R.hS, R.hl, R.hr, fun i hi => kept_cell hb (R.c0 i hi), fun i hi => kept_cell hb (R.c1 i hi), fun i hi => kept_cell hb (R.c2 i hi), fun i hi => kept_cell hb (R.c3 i hi), fun i hi => kept_cell hb (R.c4 i hi), fun i hi => kept_cell hb (R.c5 i hi), R.rn, R.r0, R.r1, R.r2, R.r3, fun i hi => (R.sub i hi).keep hb⟩
theorem DRow.take (R : DRow w S ao b off len cap nm o h k sv ts im l) (j : Nat) (hj : j ≤ len) : DRow w S ao b off j cap nm o h k sv ts im (l.take j) := by
  refine ⟨?_, fun h0 => R.hao (by omega), fun h0 => R.hS (by omega), by have := R.hl; omega, R.hr, fun i hi => R.c0 i (by omega), fun i hi => R.c1 i (by omega), fun i hi => R.c2 i (by omega), fun i hi => R.c3 i (by omega), fun i hi => R.c4 i (by omega), fun i hi => R.c5 i (by omega), fun i hi => R.rn i (by omega), fun i hi => R.r0 i (by omega), fun i hi => R.r1 i (by omega), fun i hi => R.r2 i (by omega), fun i hi => R.r3 i (by omega), fun i hi => R.sub i (by omega)⟩
  have := R.isRow; subst this
  rw [← List.map_take, List.take_range, Nat.min_eq_left hj]
end
theorem DLies.keep {w w' : World} {S : Nat → Prop} {v : Value} {l : List Dc} (hv : DLies w S v l) (hb : Below w.heap.size w w') : DLies w' S v l := by
  obtain ⟨ao, b, off, len, cap, nm, o, h, k, sv, ts, im, rfl, R⟩ := hv
  exact ⟨ao, b, off, len, cap, nm, o, h, k, sv, ts, im, rfl, R.keep hb⟩
theorem DLies.isSlice {w : World} {S : Nat → Prop} {v : Value} {l : List Dc} (hv : DLies w S v l) : ∃ a m, v = .slice a l.length m ∧ l.length ≤ 9223372036854775807 := by
  obtain ⟨ao, b, off, len, cap, nm, o, h, k, sv, ts, im, rfl, R⟩ := hv
  exact ⟨ao, cap, by rw [R.length], by have := R.hl; have := R.hr; rw [R.length]; omega⟩
/-- a constant that is a value: its six cells -/
def dcV (d : Dc) (v : Value) : Value := .agg #[.string d.nm, .int .i64 d.cl.op, .int .i64 d.cl.hd, .int .i64 d.cl.n, v, .int .i64 d.im]
end Go.Proofs.Yteoheeddjddekaa
