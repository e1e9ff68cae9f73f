/- Contracts of the small functions of packages sign and shape: names, results of TPis, kinds, what stands in a class. -/
import Derived.Test.YteoheeddjddekaaSgP
import Derived.Test.YteoheeddjddekaaLexB
import Derived.Test.YteoheeddjddekaaTmSplitP
import Derived.Test.YteoheeddjddekaaTmPut
namespace Go.Proofs.Yteoheeddjddekaa
open Go.RowKit
set_option linter.unusedSimpArgs false
set_option linter.unusedVariables false
namespace Tm
theorem overL_snoc (N b o : Int) : ∀ (l : List Tm) (i : Nat) (t : Tm), overL N b o i (l ++ [t]) = (overL N b o i l && over N (b + belowN o (i + l.length)) t)
  | [], i, t => by simp [overL]
  | a :: l, i, t => by
    simp only [List.cons_append, overL, overL_snoc N b o l (i + 1) t, List.length_cons, Bool.and_assoc]
    rw [show i + 1 + l.length = i + (l.length + 1) by omega]
theorem overL_append (N b o : Int) : ∀ (l m : List Tm) (i : Nat), overL N b o i l = false → overL N b o i (l ++ m) = false
  | [], _, _, h => by simp [overL] at h
  | a :: l, m, i, h => by
    simp only [List.cons_append, overL, Bool.and_eq_false_iff] at h ⊢
    rcases h with h | h
    · exact .inl h
    · exact .inr (overL_append N b o l m (i + 1) h)
/-- the first k parts are over N -/
def OverTo (N b o : Int) (l : List Tm) (k : Nat) : Prop := overL N b o 0 (l.take k) = true
theorem OverTo.zero (N b o : Int) (l : List Tm) : OverTo N b o l 0 := by simp [OverTo, overL]
theorem OverTo.step {N b o : Int} {l : List Tm} {k : Nat} (h : OverTo N b o l k) (hk : k < l.length) (e : over N (b + belowN o k) l[k] = true) : OverTo N b o l (k + 1) := by
  unfold OverTo at *
  rw [List.take_succ_eq_append_getElem hk, overL_snoc, h, List.length_take, Nat.min_eq_left (by omega), Nat.zero_add, e]; rfl
theorem OverTo.not {N b o : Int} {l : List Tm} {k : Nat} (hk : k < l.length) (e : over N (b + belowN o k) l[k] = false) : overL N b o 0 l = false := by
  have h : overL N b o 0 (l.take (k + 1)) = false := by
    rw [List.take_succ_eq_append_getElem hk, overL_snoc, List.length_take, Nat.min_eq_left (by omega), Nat.zero_add, e, Bool.and_false]
  have := overL_append N b o (l.take (k + 1)) (l.drop (k + 1)) 0 h
  rwa [List.take_append_drop] at this
theorem OverTo.all {N b o : Int} {l : List Tm} {k : Nat} (h : OverTo N b o l k) (hk : l.length ≤ k) : overL N b o 0 l = true := by
  unfold OverTo at h; rwa [List.take_of_length_le hk] at h
end Tm

theorem toList_loop (s : ByteArray) : ∀ (k i : Nat) (r : List UInt8), s.size - i = k → ByteArray.toList.loop s i r = r.reverse ++ s.data.toList.drop i
  | 0, i, r, h => by
    rw [ByteArray.toList.loop.eq_def]
    have hl : s.data.toList.length = s.size := by simp
    rw [if_neg (by omega), List.drop_eq_nil_of_le (by omega), List.append_nil]
  | k + 1, i, r, h => by
    have hl : s.data.toList.length = s.size := by simp
    rw [ByteArray.toList.loop.eq_def, if_pos (by omega), toList_loop s k (i + 1) _ (by omega), List.drop_eq_getElem_cons (show i < s.data.toList.length by omega)]
    have hg : s.get! i = s.data.toList[i] := by
      rw [Array.getElem_toList]
      unfold ByteArray.get!
      exact getElem!_pos s.data i (by simpa using (show i < s.data.toList.length by omega))
    simp [hg]
theorem bytes_toList (s : ByteArray) : s.toList = s.data.toList := by
  unfold ByteArray.toList
  rw [toList_loop s _ 0 [] rfl]; simp
theorem typeWord_ne {s : ByteArray} (h : ¬ s = ⟨#[116, 121, 112, 101]⟩) : (s.toList == [116, 121, 112, 101]) = false := by
  rw [beq_eq_false_iff_ne, bytes_toList]
  intro e
  exact h (WideShapes.bytes_inj e)
theorem nameOk_no {s : ByteArray} (h : Lex.isSmall s.data.toList = false) : Sg.nameOk s = false := by unfold Sg.nameOk; rw [h]; rfl
theorem nameOk_type {s : ByteArray} (h : s = Sg.typeWord) : Sg.nameOk s = false := by unfold Sg.nameOk; rw [decide_eq_true h]; simp
theorem nameOk_yes {s : ByteArray} (h1 : Lex.isSmall s.data.toList = true) (h : ¬ s = Sg.typeWord) : Sg.nameOk s = true := by unfold Sg.nameOk; rw [decide_eq_false h, h1]; rfl
set_option maxHeartbeats 400000 in
set_option maxRecDepth 100000 in
theorem sgName_any (s : ByteArray) (w : World) (hs : s.size ≤ 140737488351232) : Calls Try.prog 51 #[.string s] w fun e w' => e = .returned (.bool (Sg.nameOk s)) ∧ w = w' := by
  have call := lx_IsSmall s w hs
  rcases h1 : Lex.isSmall s.data.toList with _ | _
  · rw [h1] at call
    rw [nameOk_no h1]
    clear h1
    go_enter Try.func51, Try.ntmps51
    go_wp2_with (go_at_call 69; refine call.mono ?_; rintro e w' ⟨rfl, rfl⟩)
    go_ret
    exact ⟨rfl, rfl⟩
  · rw [h1] at call
    by_cases h2 : s = Sg.typeWord
    · rw [nameOk_type h2]
      unfold Sg.typeWord at h2
      subst h2
      clear h1
      go_enter Try.func51, Try.ntmps51
      go_wp2_with (go_at_call 69; refine call.mono ?_; rintro e w' ⟨rfl, rfl⟩)
      go_ret
      exact ⟨rfl, rfl⟩
    · rw [nameOk_yes h1 h2]
      unfold Sg.typeWord at h2
      have h3 := typeWord_ne h2
      clear h1
      go_enter Try.func51, Try.ntmps51
      go_wp2_with (go_at_call 69; refine call.mono ?_; rintro e w' ⟨rfl, rfl⟩)
      go_ret
      exact ⟨by simp [h3], rfl⟩

/-- the loop of Result -/
structure ResSt (S : Nat → Prop) (w : World) (t : Tm) (k : Nat) (u : Tm) (uv : Value) (wr : World) : Prop where
  box : wr.heap[w.heap.size]? = some (.cells #[.int .i64 u.op, .int .i64 u.hd, .int .i64 u.n, uv] 25 (0, 0))
  res : wr.heap[w.heap.size + 1]? = some (.cells #[.int .i64 0, .int .i64 0, .int .i64 0, .slice none 0 0] 25 (0, 0))
  arg : Lies w S uv u.args
  below : Below w.heap.size w wr
  eq : Tm.res t = ((Tm.res u).1, (Tm.res u).2 + k)
  ok : Tm.proper u = true
  sz : k + Tm.sz u ≤ 600
theorem ResSt.next {S : Nat → Prop} {w : World} {t : Tm} {k : Nat} {u a b : Tm} {uv bv : Value} {wr : World} (H : ResSt S w t k u uv wr) (e : u = .mk 2 0 0 [a, b]) (hpb : Tm.proper b = true) (hl : Lies w S bv b.args) :
    ResSt S w t (k + 1) b bv ((((wr.setCell ⟨w.heap.size, 0, none⟩ (.int .i64 b.op)).setCell ⟨w.heap.size, 1, none⟩ (.int .i64 b.hd)).setCell ⟨w.heap.size, 2, none⟩ (.int .i64 b.n)).setCell ⟨w.heap.size, 3, none⟩ bv) := by
  refine ⟨set4_at H.box _ _ _ _, ?_, hl, (((H.below.setCell (by simp) _).setCell (by simp) _).setCell (by simp) _).setCell (by simp) _, ?_, hpb, ?_⟩
  · exact (heap_set4 _ _ _ _ (by simp) (by simp) (by simp) (by simp)).trans H.res
  · have := H.eq
    subst e
    rw [Tm.res_pi] at this
    rw [this]; simp only [Prod.mk.injEq, true_and]; omega
  · have := H.sz
    subst e
    simp only [Tm.sz, Tm.szL] at this; omega

set_option maxHeartbeats 4000000 in
set_option maxRecDepth 100000 in
theorem result_any (S : Nat → Prop) (t : Tm) (v : Value) (w : World) (hv : Lies w S v t.args) (hp : Tm.proper t = true) :
    Calls Try.prog 42 #[.agg #[.int .i64 t.op, .int .i64 t.hd, .int .i64 t.n, v]] w fun e w' =>
      ∃ b, e = .returned (.tuple #[.agg #[.int .i64 (Tm.res t).1.op, .int .i64 (Tm.res t).1.hd, .int .i64 (Tm.res t).1.n, b], .int .i64 (Tm.res t).2]) ∧ Below w.heap.size w w' ∧ Lies w S b (Tm.res t).1.args := by
  obtain ⟨a2, n2, m2, rfl⟩ := hv.isSlice
  have h2 := two_below w (.cells #[.int .i64 t.op, .int .i64 t.hd, .int .i64 t.n, .slice a2 n2 m2] 25) (.cells #[.int .i64 0, .int .i64 0, .int .i64 0, .slice none 0 0] 25)
  have hk2 := two_blocks w #[.int .i64 t.op, .int .i64 t.hd, .int .i64 t.n, .slice a2 n2 m2] #[.int .i64 0, .int .i64 0, .int .i64 0, .slice none 0 0] 25 25
  have HST := Lib.hid (show ResSt S w t 0 t (.slice a2 n2 m2) _ from ⟨hk2.1, hk2.2, hv, h2, by simp, hp, by have := (Tm.proper_formed' hp).1; omega⟩)
  clear h2 hk2 hv hp
  go_enter Try.func42, Try.ntmps42
  go_wp2_with fail
  go_loopw [4] (fun c wr => ∃ (k : Nat) (u : Tm) (uv : Value), c = .int .i64 k ∧ ResSt S w t k u uv wr) (fun c _ => 600 - (RowKit.intOf c).toNat)
  case atStart => exact ⟨0, _, _, rfl, HST.out⟩
  case round =>
    obtain ⟨k, u, uv, rfl, H⟩ := hrel
    obtain ⟨x0, x1, x2, x3⟩ := cells4_of H.box
    obtain ⟨a4, n4, m4, rfl⟩ := H.arg.isSlice
    by_cases hop : u.op = 2
    · obtain ⟨uo, uh, un, ul⟩ := u
      simp only [Tm.op] at hop
      subst hop
      obtain ⟨a, b, rfl, rfl, rfl, ha, hpb⟩ := Tm.proper_pi H.ok
      obtain ⟨ad, bb, off, len, cap, oo, hh, kk, sv, tt, hed, R⟩ := H.arg.open
      simp only [Value.slice.injEq] at hed
      obtain ⟨rfl, rfl, rfl⟩ := hed
      obtain rfl : 2 = n4 := R.length
      obtain rfl := R.hao (by omega)
      have eb : b = .mk (oo 1) (hh 1) (kk 1) (tt 1) := R.get 1 (by omega)
      obtain ⟨d0, d1, d2, d3, hs1⟩ := R.at H.below 1 (by omega)
      simp only [Nat.one_mul] at d0 d1 d2 d3
      obtain ⟨a6, n6, m6, hsv1⟩ := (R.sub 1 (by omega)).isSlice
      rw [hsv1] at d3
      have hsz := H.sz
      have hszb := Tm.sz_pos a
      have hszc := Tm.sz_pos b
      simp only [Tm.sz, Tm.szL] at hsz
      have f0 := free_in H.box 0
      have f1 := free_in H.box 1
      have f2 := free_in H.box 2
      have f3 := free_in H.box 3
      have HH := Lib.hid H
      have HR := Lib.hid R
      have HB := Lib.hid eb
      have HPB := Lib.hid hpb
      clear H R eb ha hpb hs1
      go_wp2_with fail
      go_roundw
      case rel =>
        have hl := HR.out.sub 1 (by omega)
        rw [hsv1] at hl
        exact ⟨k + 1, _, _, by go_num, ResSt.next (b := .mk (oo 1) (hh 1) (kk 1) (tt 1)) HH.out (by rw [HB.out]) (by rw [← HB.out]; exact HPB.out) hl⟩
      case measure => simp [RowKit.intOf]; omega
    · have hbsz := H.below.size
      have hbl := lt_of_block H.res
      have HH := Lib.hid H
      have HE := Lib.hid (Tm.res_else hop)
      have hop' : (u.op == 2) = false := by simpa using hop
      obtain ⟨y0, y1, y2, y3⟩ := cells4_of H.res
      have f0 := free_in H.res 0
      have f1 := free_in H.res 1
      have f2 := free_in H.res 2
      have f3 := free_in H.res 3
      clear H
      go_wp2_with fail
      focus
        have hz := set4_at HH.out.res (.int .i64 u.op) (.int .i64 u.hd) (.int .i64 u.n) (.slice a4 n4 m4)
        have B2 := (((HH.out.below.setCell (p := ⟨w.heap.size + 1, 0, none⟩) (by simp) (.int .i64 u.op)).setCell (p := ⟨w.heap.size + 1, 1, none⟩) (by simp) (.int .i64 u.hd)).setCell (p := ⟨w.heap.size + 1, 2, none⟩) (by simp) (.int .i64 u.n)).setCell (p := ⟨w.heap.size + 1, 3, none⟩) (by simp) (.slice a4 n4 m4)
        generalize (((wr.setCell ⟨w.heap.size + 1, 0, none⟩ (.int .i64 u.op)).setCell ⟨w.heap.size + 1, 1, none⟩ (.int .i64 u.hd)).setCell ⟨w.heap.size + 1, 2, none⟩ (.int .i64 u.n)).setCell ⟨w.heap.size + 1, 3, none⟩ (.slice a4 n4 m4) = Z at hz B2 ⊢
        obtain ⟨z0, z1, z2, z3⟩ := cells4_of hz
        refine bodyPost_ret (v := .tuple #[.agg #[.int .i64 u.op, .int .i64 u.hd, .int .i64 u.n, .slice a4 n4 m4], .int .i64 k]) (by simp [results, Try.results42, go_sem, z0, z1, z2, z3]) rfl ?_
        have E := HH.out.eq
        rw [HE.out] at E
        simp only [Nat.zero_add] at E
        rw [E]
        exact ⟨_, rfl, B2, HH.out.arg⟩

set_option maxHeartbeats 1000000 in
set_option maxRecDepth 100000 in
theorem isKind_any (S : Nat → Prop) (t : Tm) (v : Value) (w : World) (hv : Lies w S v t.args) (hp : Tm.proper t = true) :
    Calls Try.prog 41 #[.agg #[.int .i64 t.op, .int .i64 t.hd, .int .i64 t.n, v]] w fun e w' => e = .returned (.bool (Tm.kind t)) ∧ Below w.heap.size w w' := by
  obtain ⟨a2, n2, m2, rfl⟩ := hv.isSlice
  have hb := one_below w (.cells #[.int .i64 t.op, .int .i64 t.hd, .int .i64 t.n, .slice a2 n2 m2] 25)
  have call := fun w1 (hb1 : Below w.heap.size w w1) => result_any S t _ w1 (hv.keep hb1) hp
  have HB := Lib.hid hb
  clear hv hp
  go_enter Try.func41, Try.ntmps41
  go_wp2_with fail
  refine (call _ HB.out).mono ?_
  rintro e w1 ⟨b, rfl, hb1, hl1⟩
  obtain ⟨a3, n3, m3, rfl⟩ := hl1.isSlice
  have HB1 := Lib.hid (below_next HB.out hb1)
  clear hl1 hb1
  go_wp2_with fail
  go_ret
  exact ⟨rfl, HB1.out.trans ((one_below w1 _).mono HB1.out.size)⟩

set_option maxHeartbeats 1000000 in
set_option maxRecDepth 100000 in
theorem over_bad (sa : Option Addr) (N sm : Nat) (o h n b : Int) (a2 : Option Addr) (n2 m2 : Nat) (w : World) (hN : N ≤ 9223372036854775807) (e : (h = 1 ∧ b ≤ n) ∨ (h = 2 ∧ (N : Int) ≤ n) ∨ h = 3) :
    Calls Try.prog 66 #[.slice sa N sm, .agg #[.int .i64 o, .int .i64 h, .int .i64 n, .slice a2 n2 m2], .int .i64 b] w fun e w' => e = .returned (.bool false) ∧ Below w.heap.size w w' := by
  rcases e with ⟨rfl, e⟩ | ⟨rfl, e⟩ | rfl
  all_goals
    go_enter Try.func66, Try.ntmps66
    go_wp2
    go_ret
    exact ⟨rfl, one_below w _⟩

set_option maxHeartbeats 4000000 in
set_option maxRecDepth 100000 in
theorem over_walk (S : Nat → Prop) (sa : Option Addr) (N sm : Nat) (hN : N ≤ 9223372036854775807) (f : Nat) (ih : ∀ (o h n b : Int) (v : Value) (l : List Tm) (w : World), Tm.sz (.mk o h n l) ≤ f → 0 ≤ b → b + (Tm.sz (.mk o h n l) : Int) ≤ 1000000 → Lies w S v l →
      Calls Try.prog 66 #[.slice sa N sm, .agg #[.int .i64 o, .int .i64 h, .int .i64 n, v], .int .i64 b] w fun e w' => e = .returned (.bool (Tm.over N b (.mk o h n l))) ∧ Below w.heap.size w w')
    (o h n b : Int) (v : Value) (l : List Tm) (w : World) (hf : Tm.sz (.mk o h n l) ≤ f + 1) (hb0 : 0 ≤ b) (hb1 : b + (Tm.sz (.mk o h n l) : Int) ≤ 1000000) (hv : Lies w S v l)
    (e : ((h == 1) = true ∧ (h == 2) = false ∧ (h == 3) = false ∧ n < b) ∨ ((h == 1) = false ∧ (h == 2) = true ∧ (h == 3) = false ∧ n < (N : Int)) ∨ ((h == 1) = false ∧ (h == 2) = false ∧ (h == 3) = false)) :
    Calls Try.prog 66 #[.slice sa N sm, .agg #[.int .i64 o, .int .i64 h, .int .i64 n, v], .int .i64 b] w fun e w' => e = .returned (.bool (Tm.overL N b o 0 l)) ∧ Below w.heap.size w w' := by
  obtain ⟨ao, bb, off, len, cap, oo, hh, kk, sv, ts, rfl, R⟩ := hv.open
  have hr := R.hr
  have hl := R.hl
  have HL := Lib.hid R.length
  have hszp := Tm.sz_pos (.mk o h n l)
  clear hv
  rcases e with ⟨e1, e2, e3, e4⟩ | ⟨e1, e2, e3, e4⟩ | ⟨e1, e2, e3⟩
  all_goals
    go_enter Try.func66, Try.ntmps66
    go_wp2
    go_loopw [36] (fun i wr => ∃ k : Nat, k ≤ len ∧ i = .int .i64 k ∧ Below w.heap.size w wr ∧ wr.heap[w.heap.size]? = some (.cells #[.int .i64 o, .int .i64 h, .int .i64 n, .slice ao len cap] 25 (0, 0)) ∧ Tm.OverTo N b o l k)
      (fun i _ => len - (RowKit.intOf i).toNat)
    case atStart => exact ⟨0, Nat.zero_le _, rfl, one_below w _, heap_alloc_new w _, Tm.OverTo.zero _ _ _ _⟩
    case round =>
      obtain ⟨k, hk, rfl, hbw, hbx, hlo⟩ := hrel
      have q0 := cell_in hbx 0 (.int .i64 o) rfl
      have q2 := cell_in hbx 2 (.int .i64 n) rfl
      have q3 := cell_in hbx 3 (.slice ao len cap) rfl
      have hlw := lt_of_block hbx
      have HB := Lib.hid hbx
      clear hbx
      by_cases hlt : k < len
      · obtain rfl := R.hao (by omega)
        obtain ⟨d0, d1, d2, d3, hsub⟩ := R.at hbw k hlt
        obtain ⟨a5, n5, m5, hsv⟩ := hsub.isSlice
        rw [hsv] at d3 hsub
        have hsz := R.size hf k hlt
        have hs6 := R.size_lt (x := o) (y := h) (z := n) k hlt
        have hkl : k < l.length := by rw [HL.out]; exact hlt
        have hbl := Tm.belowN_bd o k
        have HBX := Lib.hid (one_below wr (.cells #[.int .i64 (oo k), .int .i64 (hh k), .int .i64 (kk k), .slice a5 n5 m5] 25))
        have HR := Lib.hid (R.get k hlt)
        have call := fun (w1 : World) (hb : Below wr.heap.size wr w1) => ih (oo k) (hh k) (kk k) (b + Tm.belowN o k) (.slice a5 n5 m5) (ts k) w1 hsz (by omega) (by omega) (hsub.keep hb)
        have HT := Lib.hid (fun (e : Tm.over N (b + Tm.belowN o k) (.mk (oo k) (hh k) (kk k) (ts k)) = true) => hlo.step hkl (by rw [HR.out]; exact e))
        have HF := Lib.hid (fun (e : Tm.over N (b + Tm.belowN o k) (.mk (oo k) (hh k) (kk k) (ts k)) = false) => Tm.OverTo.not hkl (by rw [HR.out]; exact e))
        clear ih hlo
        have cs : ((o == 3) = true ∧ b + Tm.belowN o k = b + 1) ∨ ((o == 3) = false ∧ (o == 2) = true ∧ ((k : Int) == 1) = true ∧ b + Tm.belowN o k = b + 1) ∨ ((o == 3) = false ∧ (o == 2) = true ∧ ((k : Int) == 1) = false ∧ b + Tm.belowN o k = b) ∨ ((o == 3) = false ∧ (o == 2) = false ∧ b + Tm.belowN o k = b) := by
          have ek : (k == 1) = ((k : Int) == 1) := by rw [Bool.eq_iff_iff]; simp; omega
          rcases c1 : (o == 3) with _ | _
          · rcases c2 : (o == 2) with _ | _
            · simp [Tm.belowN, c1, c2]
            · rcases c3 : ((k : Int) == 1) with _ | _
              · simp [Tm.belowN, c1, c2, ek, c3]
              · simp [Tm.belowN, c1, c2, ek, c3]
          · simp [Tm.belowN, c1]
        rcases cs with ⟨c1, cb⟩ | ⟨c1, c2, c3, cb⟩ | ⟨c1, c2, c3, cb⟩ | ⟨c1, c2, cb⟩
        all_goals
          rw [cb] at call HT HF
          rcases hr' : Tm.over N _ (.mk (oo k) (hh k) (kk k) (ts k)) with _ | _
          · rw [hr'] at call
            have HN := Lib.hid (HF.out hr')
            clear hr' cb HT HF hsub
            go_wp2_with fail
            refine (call _ HBX.out).mono ?_
            rintro e w2 ⟨rfl, hb2'⟩
            have HB2 := Lib.hid (HBX.out.trans (hb2'.mono HBX.out.size))
            clear hb2'
            go_wp2_with fail
            go_ret
            exact ⟨ret_bool (a := false) (by rw [HN.out]), below_next hbw HB2.out⟩
          · rw [hr'] at call
            have HN := Lib.hid (HT.out hr')
            clear hr' cb HT HF hsub
            go_wp2_with fail
            refine (call _ HBX.out).mono ?_
            rintro e w2 ⟨rfl, hb2'⟩
            have HB2 := Lib.hid (HBX.out.trans (hb2'.mono HBX.out.size))
            clear hb2'
            go_wp2_with fail
            go_roundw
            case rel => exact ⟨k + 1, by omega, by go_num, below_next hbw HB2.out, heap_kept HB2.out HB.out, HN.out⟩
            case measure => simp [RowKit.intOf]; omega
      · have HN := Lib.hid (hlo.all (by rw [HL.out]; omega))
        clear hlo
        go_wp2
        go_ret
        exact ⟨ret_bool (a := true) (by rw [HN.out]), hbw⟩
end Go.Proofs.Yteoheeddjddekaa
