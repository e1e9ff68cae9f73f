/- The contract of trussref03.SameSimple: whether two simple types that lie in memory are equal. * Rows of arguments, as sources of append, and small lemmas. Nothing of the program is imported. * Small lemmas on cells of simple types. * The contract of the reference's Simple. * Copies of elements of any size into a row that is known whole; an append of a make. Nothing of the program is imported. * The contract of slices.Insert of one simple type at the head of a row of the call's own. * The contract of simpleType. * The contract of the reference's Simple, at TPis and whole; the contract of term.Simple. -/
import Derived.Test.YtieakippgeehgaaSmGa
import Derived.Test.YtieakippgeehgaaTmGb
import Derived.Test.YtieakippgeehgaaTmGa
import Derived.Test.YtieakippgeehgaaTmGc
import Derived.Test.YtieakippgeehgaaProg
import Derived.Deep.RegionHeld3
import Derived.Deep.DeepCutAuto
import Derived.Deep.LoopGhost
import Derived.Deep.DrawnRows
import Derived.BigRegion
import Derived.OwnWalk
import Derived.Laws.CopyRow
import Derived.Lib.AppendZerosOnto
import Derived.Lib.Overlaps
import Derived.Deep.RegionLaw
import Derived.WalkKit
import Derived.WalkSpells
import Derived.Lib.Hide
import Derived.Outline
import Derived.Laws.CopyOwn
namespace Go.Proofs.Ytieakippgeehgaa.Sp
open Go.RowKit
set_option linter.unusedSimpArgs false
set_option linter.unusedVariables false

def SameTo (k : Nat) (l m : List Tm) : Prop := Tm.sameL (l.take k) (m.take k) = true
theorem SameTo.zero (l m : List Tm) : SameTo 0 l m := by simp [SameTo, Tm.sameL]
theorem SameTo.step {len k : Nat} {g g' : Nat → Tm} (h : SameTo k ((List.range len).map g) ((List.range len).map g')) (hk : k < len) (e : Tm.same (g k) (g' k) = true) :
    SameTo (k + 1) ((List.range len).map g) ((List.range len).map g') := by
  unfold SameTo at *
  rw [List.take_succ_eq_append_getElem (by simpa using hk), List.take_succ_eq_append_getElem (by simpa using hk), Tm.sameL_snoc _ _ _ _ (by simp), h]
  simpa using e
theorem SameTo.all {k : Nat} {g g' : Nat → Tm} (h : SameTo k ((List.range k).map g) ((List.range k).map g')) : Tm.sameL ((List.range k).map g) ((List.range k).map g') = true := by
  unfold SameTo at h
  rwa [List.take_of_length_le (by simp), List.take_of_length_le (by simp)] at h
theorem SameTo.fail {len k : Nat} {g g' : Nat → Tm} (hk : k < len) (e : Tm.same (g k) (g' k) = false) : Tm.sameL ((List.range len).map g) ((List.range len).map g') = false :=
  Tm.sameL_false k _ _ (by simpa using hk) (by simpa using hk) (by simpa using e)
theorem size_part {f len k : Nat} {n : Int} {g : Nat → Tm} (hf : Tm.sz (.mk n ((List.range len).map g)) ≤ f + 1) (hk : k < len) : Tm.sz (g k) ≤ f := by
  have := Tm.szL_le_of_mem (l := (List.range len).map g) (t := g k) (List.mem_map.2 ⟨k, by simpa using hk, rfl⟩)
  simp only [Tm.sz] at hf
  omega

set_option maxHeartbeats 400000 in
set_option maxRecDepth 100000 in
theorem same_walk (S S' : Nat → Prop) (f : Nat) (ih : ∀ (n n' : Int) (v v' : Value) (l l' : List Tm) (w : World), Tm.sz (.mk n l) ≤ f → Lies w S v l → Lies w S' v' l' →
      Calls Try.prog 37 #[.agg #[v, .int .i64 n], .agg #[v', .int .i64 n']] w fun e w' => e = .returned (.bool (Tm.same (.mk n l) (.mk n' l'))) ∧ Below w.heap.size w w')
    (n n' : Int) (v v' : Value) (l l' : List Tm) (w : World) (hf : Tm.sz (.mk n l) ≤ f + 1) (hv : Lies w S v l) (hv' : Lies w S' v' l')
    (e3 : (n != n') = false) (e4 : l.length = l'.length) :
    Calls Try.prog 37 #[.agg #[v, .int .i64 n], .agg #[v', .int .i64 n']] w fun e w' => e = .returned (.bool (Tm.same (.mk n l) (.mk n' l'))) ∧ Below w.heap.size w w' := by
  have es : Tm.same (.mk n l) (.mk n' l') = Tm.sameL l l' := by
    simp only [bne_eq_false_iff_eq] at e3
    simp [Tm.same, e3, e4]
  have ES := Lib.hid es
  clear es
  cases hv with
  | row ao b off len cap kk sv ts hao hS hl hr c0 c1 r2 sub =>
  cases hv' with
  | row ao' b' off' len' cap' kk' sv' ts' hao' hS' hl' hr' c0' c1' r2' sub' =>
  have el : len = len' := by simpa using e4
  subst el
  go_enter Try.func37, Try.ntmps37
  go_wp2
  go_loopw [5] (fun i wr => ∃ k : Nat, k ≤ len ∧ i = .int .i64 k ∧ Below (w.heap.size + 2) ((w.alloc (.cells #[.slice ao len cap, .int .i64 n] 27)).alloc (.cells #[.slice ao' len cap', .int .i64 n'] 27)) wr ∧ SameTo k ((List.range len).map fun i => .mk (kk i) (ts i)) ((List.range len).map fun i => .mk (kk' i) (ts' i)))
    (fun i _ => len - (intOf i).toNat)
  case atStart => exact ⟨0, Nat.zero_le _, rfl, Below.refl _ _, SameTo.zero _ _⟩
  case round =>
    obtain ⟨k, hk, rfl, hb, hs⟩ := hrel
    obtain ⟨q, q'⟩ := two_boxes hb
    have hbw := (two_below w _ _).trans (hb.mono (by omega))
    by_cases hlt : k < len
    · obtain rfl := hao (by omega)
      obtain rfl := hao' (by omega)
      have g := fun {p : Addr} {u : Value} => kept_cell (hbw.mono (Nat.le_refl _)) (p := p) (u := u)
      have d0 := g (c0 k hlt)
      have d1 := g (c1 k hlt)
      have d0' := g (c0' k hlt)
      have d1' := g (c1' k hlt)
      clear g c0 c1 c0' c1'
      have q3 := q 0 _ rfl
      have q3' := q' 0 _ rfl
      clear q q'
      have hsub := (sub k hlt).keep hbw
      have hsub' := (sub' k hlt).keep hbw
      clear sub sub'
      go_wp2
      go_still_tail 10, (by kernel_rfl)
      change wpList _ _ _ _ _ wr.drew
      have hsz : Tm.sz (.mk (kk k) (ts k)) ≤ f := size_part hf hlt
      rcases hr' : Tm.same (.mk (kk k) (ts k)) (.mk (kk' k) (ts' k)) with _ | _
      · have HR := Lib.hid (SameTo.fail (g := fun i => .mk (kk i) (ts i)) (g' := fun i => .mk (kk' i) (ts' i)) hlt hr')
        have call := ih (kk k) (kk' k) (sv k) (sv' k) (ts k) (ts' k) wr.drew hsz (hsub.keep (Below.refl _ _).drew) (hsub'.keep (Below.refl _ _).drew)
        rw [hr'] at call
        clear hr' hs
        go_wp2_with (go_at_call 37; refine call.mono ?_; rintro e w1 ⟨rfl, hb1⟩)
        go_ret
        exact ⟨ret_bool (a := false) (by rw [ES.out, HR.out]), hbw.trans (((Below.refl _ _).drew).trans (hb1.mono hbw.size))⟩
      · have HR := Lib.hid (hs.step hlt hr')
        have call := ih (kk k) (kk' k) (sv k) (sv' k) (ts k) (ts' k) wr.drew hsz (hsub.keep (Below.refl _ _).drew) (hsub'.keep (Below.refl _ _).drew)
        rw [hr'] at call
        clear hr' hs
        go_wp2_with (go_at_call 37; refine call.mono ?_; rintro e w1 ⟨rfl, hb1⟩)
        go_roundw
        case rel => exact ⟨k + 1, by omega, by go_num, hb.trans (((Below.refl _ _).drew).trans (hb1.mono (by have := hb.size; simpa using this))), HR.out⟩
        case measure => simp [intOf]; omega
    · obtain rfl : k = len := by omega
      have q3 := q 0 _ rfl
      clear q q'
      have HS := Lib.hid hs.all
      clear hs c0 c1 c0' c1'
      go_wp2
      go_ret
      exact ⟨ret_bool (a := true) (by rw [ES.out, HS.out]), hbw⟩

set_option maxHeartbeats 400000 in
set_option maxRecDepth 100000 in
theorem same_head (S S' : Nat → Prop) (n n' : Int) (v v' : Value) (l l' : List Tm) (w : World) (hv : Lies w S v l) (hv' : Lies w S' v' l')
    (e : ((n != n') = true) ∨ ((n != n') = false ∧ l.length ≠ l'.length)) :
    Calls Try.prog 37 #[.agg #[v, .int .i64 n], .agg #[v', .int .i64 n']] w fun e w' => e = .returned (.bool (Tm.same (.mk n l) (.mk n' l'))) ∧ Below w.heap.size w w' := by
  have es : Tm.same (.mk n l) (.mk n' l') = false := by
    simp only [bne_iff_ne, bne_eq_false_iff_eq] at e
    rcases e with e | ⟨e1, e⟩ <;> simp [Tm.same, e]
  rw [es]
  clear es
  cases hv with
  | row ao b off len cap kk sv ts hao hS hl hr c0 c1 r2 sub =>
  cases hv' with
  | row ao' b' off' len' cap' kk' sv' ts' hao' hS' hl' hr' c0' c1' r2' sub' =>
  simp only [List.length_map, List.length_range] at e
  clear c0 c1 r2 sub c0' c1' r2' sub' hao hao'
  rcases e with e1 | ⟨e1, e2⟩
  all_goals
    go_enter Try.func37, Try.ntmps37
    go_wp2
    go_ret
    exact ⟨rfl, two_below w _ _⟩

theorem same_calls (S S' : Nat → Prop) : ∀ (f : Nat) (n n' : Int) (v v' : Value) (l l' : List Tm) (w : World), Tm.sz (.mk n l) ≤ f → Lies w S v l → Lies w S' v' l' →
    Calls Try.prog 37 #[.agg #[v, .int .i64 n], .agg #[v', .int .i64 n']] w fun e w' => e = .returned (.bool (Tm.same (.mk n l) (.mk n' l'))) ∧ Below w.heap.size w w'
  | 0, n, _, _, _, l, _, _, hf, _, _ => by have := Tm.sz_pos (.mk n l); omega
  | f + 1, n, n', v, v', l, l', w, hf, hv, hv' => by
    rcases e3 : (n != n') with _ | _
    · by_cases e4 : l.length = l'.length
      · exact same_walk S S' f (same_calls S S' f) n n' v v' l l' w hf hv hv' e3 e4
      · exact same_head S S' n n' v v' l l' w hv hv' (.inr ⟨e3, e4⟩)
    · exact same_head S S' n n' v v' l l' w hv hv' (.inl e3)

/-- R.SameSimple answers whether two simple types are equal. -/
theorem same_any (S S' : Nat → Prop) (n n' : Int) (v v' : Value) (l l' : List Tm) (w : World) (hv : Lies w S v l) (hv' : Lies w S' v' l') :
    Calls Try.prog 37 #[.agg #[v, .int .i64 n], .agg #[v', .int .i64 n']] w fun e w' => e = .returned (.bool (Tm.same (.mk n l) (.mk n' l'))) ∧ Below w.heap.size w w' :=
  same_calls S S' _ n n' v v' l l' w (Nat.le_refl _) hv hv'

end Go.Proofs.Ytieakippgeehgaa.Sp

namespace Go.Proofs.Ytieakippgeehgaa
open Go.RowKit
set_option linter.unusedSimpArgs false
set_option linter.unusedVariables false

abbrev CellsP8 (W : World) (p1 p2 p3 p4 p5 p6 p7 p8 : Addr) (u1 u2 u3 u4 u5 u6 u7 u8 : Value) : Prop :=
  W.cell? p1 = some u1 ∧ W.cell? p2 = some u2 ∧ W.cell? p3 = some u3 ∧ W.cell? p4 = some u4 ∧ W.cell? p5 = some u5 ∧ W.cell? p6 = some u6 ∧ W.cell? p7 = some u7 ∧ W.cell? p8 = some u8
theorem cellsP8_below {W W' : World} {p1 p2 p3 p4 p5 p6 p7 p8 : Addr} {u1 u2 u3 u4 u5 u6 u7 u8 : Value} (hb : Below W.heap.size W W') (x : CellsP8 W p1 p2 p3 p4 p5 p6 p7 p8 u1 u2 u3 u4 u5 u6 u7 u8) : CellsP8 W' p1 p2 p3 p4 p5 p6 p7 p8 u1 u2 u3 u4 u5 u6 u7 u8 := by
  obtain ⟨x1, x2, x3, x4, x5, x6, x7, x8⟩ := x
  exact ⟨kept_cell hb x1, kept_cell hb x2, kept_cell hb x3, kept_cell hb x4, kept_cell hb x5, kept_cell hb x6, kept_cell hb x7, kept_cell hb x8⟩

theorem Tm.sameL_append : ∀ (l m l' m' : List Tm), l.length = m.length → Tm.sameL (l ++ l') (m ++ m') = (Tm.sameL l m && Tm.sameL l' m')
  | [], [], l', m', _ => by simp [Tm.sameL]
  | x :: l, y :: m, l', m', h => by
    simp only [List.cons_append, Tm.sameL]
    rw [Tm.sameL_append l m l' m' (by simpa using h), Bool.and_assoc]
  | [], _ :: _, _, _, h => by simp at h
  | _ :: _, [], _, _, h => by simp at h

/-- the cells of an argument's row, as a source of append -/
theorem RowAt.news {w wr : World} {S : Nat → Prop} {ao : Option Addr} {b off len cap : Nat} {o h k : Nat → Int} {sv : Nat → Value} {ts : Nat → List Tm} {l : List Tm} (R : RowAt w S ao b off len cap o h k sv ts l) (hb : Below w.heap.size w wr) :
    ∀ ad, ao = some ad → ∀ j u, (flat l ((List.range len).map sv))[j]? = some u → wr.cell? (ad.add j) = some u := by
  intro ad had j u hu
  have hl := R.length
  by_cases h0 : 0 < len
  · have h1 := R.hao h0
    rw [h1] at had
    cases had
    refine flat_at l _ (by simp [hl]) ?_ j u hu
    intro i hi hi'
    obtain ⟨d0, d1, d2, d3, _⟩ := R.at hb i (by omega)
    have hg := R.get i (by omega)
    rw [hg]
    refine ⟨d0, d1, d2, ?_⟩
    simpa using d3
  · have : l = [] := List.eq_nil_of_length_eq_zero (by omega)
    subst this
    simp [flat] at hu
theorem RowAt.one {w : World} {S : Nat → Prop} {ao : Option Addr} {b off len cap : Nat} {o h k : Nat → Int} {sv : Nat → Value} {ts : Nat → List Tm} {l : List Tm} (R : RowAt w S ao b off len cap o h k sv ts l) :
    ∀ u ∈ flat l ((List.range len).map sv), u.oneCell' = true := by
  refine flat_one _ _ fun v hv => ?_
  obtain ⟨i, hi, rfl⟩ := List.mem_map.1 hv
  obtain ⟨a, n, m, e⟩ := (R.sub i (by simpa using hi)).isSlice
  rw [e]; rfl
theorem RowAt.subs {w wr : World} {S : Nat → Prop} {ao : Option Addr} {b off len cap : Nat} {o h k : Nat → Int} {sv : Nat → Value} {ts : Nat → List Tm} {l : List Tm} (R : RowAt w S ao b off len cap o h k sv ts l) (hb : Below w.heap.size w wr) :
    ∀ i (hi : i < l.length) (hi' : i < ((List.range len).map sv).length), Lies wr S ((List.range len).map sv)[i] l[i].args := by
  intro i hi hi'
  have hl := R.length
  rw [R.get i (by omega)]
  simpa [Tm.args] using (R.sub i (by omega)).keep hb
theorem RowAt.fits {w : World} {S : Nat → Prop} {ao : Option Addr} {b off len cap : Nat} {o h k : Nat → Int} {sv : Nat → Value} {ts : Nat → List Tm} {l : List Tm} (R : RowAt w S ao b off len cap o h k sv ts l) : ∀ t ∈ l, t.fit := by
  intro t ht
  rw [R.isRow] at ht
  obtain ⟨i, hi, rfl⟩ := List.mem_map.1 ht
  have hi' : i < len := by simpa using hi
  exact ⟨R.r0 i hi', R.r1 i hi', R.r2 i hi'⟩

theorem RowAt.still {w w' : World} {S : Nat → Prop} {ao : Option Addr} {b off len cap : Nat} {o h k : Nat → Int} {sv : Nat → Value} {ts : Nat → List Tm} {l : List Tm} (R : RowAt w S ao b off len cap o h k sv ts l) (hb : ∀ b, S b → b < w.heap.size → w'.heap[b]? = w.heap[b]?) :
    RowAt w' S ao b off len cap o h k sv ts l := by
  have go : ∀ {i : Nat}, i < len → ∀ {j : Nat} {u : Value}, w.cell? ⟨b, j, none⟩ = some u → w'.cell? ⟨b, j, none⟩ = some u := fun {i} hi {j u} e => by
    rw [World.cell?_of_block (w := w) (hb b (R.hS (by omega)) (World.block_lt_of_cell? w _ e))]; exact e
  exact ⟨R.isRow, R.hao, R.hS, R.hl, R.hr, fun i hi => go hi (R.c0 i hi), fun i hi => go hi (R.c1 i hi), fun i hi => go hi (R.c2 i hi), fun i hi => go hi (R.c3 i hi), R.r0, R.r1, R.r2, fun i hi => (R.sub i hi).still hb⟩

theorem concat_of {α : Type} {l : List α} {n : Nat} (h : l.length = n + 1) : ∃ l' a, l = l' ++ [a] ∧ l'.length = n := by
  rcases List.eq_nil_or_concat l with rfl | ⟨L, b, rfl⟩
  · simp at h
  · exact ⟨L, b, by simp, by simpa using h⟩

end Go.Proofs.Ytieakippgeehgaa

namespace Go.Proofs.Ytieakippgeehgaa.Sp
open Go.RowKit
set_option linter.unusedSimpArgs false
set_option linter.unusedVariables false

theorem sm_info : (Try.prog.info? 27).map (fun i => (i.zero, i.size, i.bytes)) = some (some (.agg #[.slice none 0 0, .int .i64 0]), 2, 32) := by kernel_rfl
abbrev Cells4P (W : World) (p1 p2 p3 p4 : Addr) (u1 u2 u3 u4 : Value) : Prop := W.cell? p1 = some u1 ∧ W.cell? p2 = some u2 ∧ W.cell? p3 = some u3 ∧ W.cell? p4 = some u4
abbrev Cells2 (W : World) (b : Nat) (u1 u2 : Value) : Prop := W.cell? ⟨b, 0, none⟩ = some u1 ∧ W.cell? ⟨b, 1, none⟩ = some u2
theorem keep2 {w1 w2 : World} {p1 p2 : Addr} {u1 u2 : Value} (hb : Below w1.heap.size w1 w2) (x : w1.cell? p1 = some u1 ∧ w1.cell? p2 = some u2) : w2.cell? p1 = some u1 ∧ w2.cell? p2 = some u2 :=
  ⟨kept_cell hb x.1, kept_cell hb x.2⟩
theorem keepH2 {B : Nat} {w1 w2 : World} {u1 u2 : Value} (hb : w2.heap[B]? = w1.heap[B]?) (x : w1.cell? ⟨B, 0, none⟩ = some u1 ∧ w1.cell? ⟨B, 1, none⟩ = some u2) : w2.cell? ⟨B, 0, none⟩ = some u1 ∧ w2.cell? ⟨B, 1, none⟩ = some u2 := by
  have go : ∀ j u, w1.cell? ⟨B, j, none⟩ = some u → w2.cell? ⟨B, j, none⟩ = some u := fun j u e => by rw [World.cell?_of_block (w := w1) hb]; exact e
  exact ⟨go _ _ x.1, go _ _ x.2⟩
end Go.Proofs.Ytieakippgeehgaa.Sp

namespace Go.Proofs.Ytieakippgeehgaa
open Go.RowKit
set_option linter.unusedSimpArgs false
set_option linter.unusedVariables false

/-- a simple type in new memory, and whether there is one -/
def GivesS (w : World) (r : Option Sp.Tm) (e : Ending) (w' : World) : Prop :=
  ∃ v, e = .returned (.tuple #[.agg #[v, .int .i64 (spOf r).n], .bool r.isSome]) ∧ Below w.heap.size w w' ∧ Sp.Lies w' (w.heap.size ≤ ·) v (spOf r).args

theorem cells2_of {w : World} {B : Nat} {a b : Value} {t : TypeId} (h : w.heap[B]? = some (.cells #[a, b] t (0, 0))) : w.cell? ⟨B, 0, none⟩ = some a ∧ w.cell? ⟨B, 1, none⟩ = some b ∧ w.frozen? ⟨B, 0, none⟩ = false ∧ w.frozen? ⟨B, 1, none⟩ = false :=
  ⟨cell_in h 0 _ rfl, cell_in h 1 _ rfl, free_in h 0, free_in h 1⟩
theorem c4_of {w : World} {B : Nat} {x y z v : Value} {t : TypeId} (h : w.heap[B]? = some (.cells #[x, y, z, v] t (0, 0))) : w.cell? ⟨B, 0, none⟩ = some x ∧ w.cell? ⟨B, 1, none⟩ = some y ∧ w.cell? ⟨B, 2, none⟩ = some z ∧ w.cell? ⟨B, 3, none⟩ = some v :=
  ⟨cell_in h 0 _ rfl, cell_in h 1 _ rfl, cell_in h 2 _ rfl, cell_in h 3 _ rfl⟩
theorem lt_blk {w : World} {B : Nat} {o : Obj} (h : w.heap[B]? = some o) : B < w.heap.size := (Array.getElem?_eq_some_iff.1 h).1
theorem set2_at {w : World} {B : Nat} {a b : Value} {t : TypeId} (h : w.heap[B]? = some (.cells #[a, b] t (0, 0))) (x y : Value) : ((w.setCell ⟨B, 0, none⟩ x).setCell ⟨B, 1, none⟩ y).heap[B]? = some (.cells #[x, y] t (0, 0)) := by
  have h1 := heap_set_at (j := 0) x h
  have h2 := heap_set_at (j := 1) y h1
  simpa using h2
theorem heap_set2 {w : World} {k B : Nat} (x y : Value) (i j : Nat) (h : k ≠ B) : ((w.setCell ⟨B, i, none⟩ x).setCell ⟨B, j, none⟩ y).heap[k]? = w.heap[k]? := by
  rw [Below.heap_setCell _ _ _ _ (by simpa using h), Below.heap_setCell _ _ _ _ (by simpa using h)]

set_option maxHeartbeats 2000000 in
set_option maxRecDepth 100000 in
theorem simR_con (o n : Int) (v : Value) (l : List Tm) (w : World) (S : Nat → Prop) (hv : Lies w S v l) (ho : o = 4) :
    Calls Try.prog 85 #[.agg #[.int .i64 o, .int .i64 2, .int .i64 n, v]] w (GivesS w (some (.mk n []))) := by
  obtain ⟨a2, n2, m2, rfl⟩ := hv.isSlice
  subst ho
  clear hv
  go_enter Try.func85, Try.ntmps85
  go_wp2
  refine bodyPost_ret (v := .tuple #[.agg #[.slice none 0 0, .int .i64 n], .bool true]) (by simp [results, Try.results85, go_sem]) rfl ?_
  exact ⟨_, rfl, two_below _ _ _, Sp.Lies.nil _ _⟩

set_option maxHeartbeats 2000000 in
set_option maxRecDepth 100000 in
theorem simR_no (o h n : Int) (v : Value) (l : List Tm) (w : World) (S : Nat → Prop) (hv : Lies w S v l) (e2 : (o == 2) = false) (e4 : ((o == 4) = false) ∨ (o = 4 ∧ (h == 2) = false)) :
    Calls Try.prog 85 #[.agg #[.int .i64 o, .int .i64 h, .int .i64 n, v]] w (GivesS w none) := by
  obtain ⟨a2, n2, m2, rfl⟩ := hv.isSlice
  clear hv
  rcases e4 with e4 | ⟨rfl, e4⟩
  all_goals
    go_enter Try.func85, Try.ntmps85
    go_wp2
    refine bodyPost_ret (v := .tuple #[.agg #[.slice none 0 0, .int .i64 0], .bool false]) (by simp [results, Try.results85, go_sem]) rfl ?_
    exact ⟨_, rfl, two_below _ _ _, Sp.Lies.nil _ _⟩
end Go.Proofs.Ytieakippgeehgaa

namespace Go
open Go.RowKit
set_option linter.unusedSimpArgs false
set_option linter.unusedVariables false

theorem run_copy_row_n {P : Program} (w : World) (dT sT ty elem : TypeId) (size g o dLen dCap : Nat) (a : Addr) (sLen sCap n : Nat) (cur : Array Value) (t : TypeId) (cs : List Value)
    (hu : P.underlying dT = some (.slice elem)) (hs : (P.info? elem).map (·.size) = some size)
    (hg : w.heap[g]? = some (.cells cur t (0, 0))) (hm : Nat.min sLen dLen = n) (hn : cs.length = n * size)
    (hsrc : ∀ j v, cs[j]? = some v → w.cell? (a.add j) = some v) (hfit : o + cs.length ≤ cur.size) (h1 : ∀ v ∈ cs, v.oneCell' = true) :
    (Builtin.copy_ #[dT, sT] ty #[.slice (some ⟨g, o, none⟩) dLen dCap, .slice (some a) sLen sCap]).run P w =
      .ok (goInt n) (w.setRow g (cur.toList.take o ++ cs ++ cur.toList.drop (o + cs.length)).toArray) := by
  have hl := run_loadCells_list (P := P) w a cs hsrc
  have hst := run_storeCells_at P g o t cs 0 cur w hg (by simpa using hfit) h1
  rw [hn] at hl
  cases hq : P.info? elem with
  | none => simp [hq] at hs
  | some i =>
    have hi : i.size = size := by simpa [hq] using hs
    simp [Builtin.copy_, run_underlying hu, Builtin.lenOf, Builtin.firstCells, sizeOf, typeInfo, hq, hi, hm, hl, hst]

theorem wpList_copy_runN {P : Program} (w : World) {ops : Array Oper} {rest : List Oper} {o : Oper} {a : Act} {Q : Exit → Act → World → Prop} (hgd : o.guard = none) (d s : Operand) (t t' : TypeId)
    (ho : o.op = .call { callee := .builtin .copy, args := #[d, s], argTypes := #[t, t'] }) (v u : Value) (hd : a.eval d = v) (hs : a.eval s = u) {v' : Value} {w' : World}
    (hr : (Builtin.copy_ #[t, t'] o.type #[v, u]).run P w = .ok v' w') (h : wpList P ops Q rest (a.put o.dst v') w') : wpList P ops Q (o :: rest) a w :=
  wpList_plain hgd fun K hK => by
    unfold Oper.wp execOp
    simp only [ho, resolve, invoke, builtin, Sem.run_bind, Sem.run_pure, Result.andThen_ok, List.map_toArray, List.map_cons, List.map_nil, hd, hs, hr]
    exact hK _ _ h

theorem step_copy_runN {P : Program} {ops : Array Oper} {o : Oper} {a : Act} {w : World} {K : Act → World → Prop} {Q : Exit → Act → World → Prop} {E : Prop}
    (hg : o.guard = none) (d x : Operand) (dT sT : TypeId) (hop : o.op = Op.call { callee := Callee.builtin Builtin.copy, args := #[d, x], argTypes := #[dT, sT] })
    (v u : Value) (hd : a.eval d = v) (hx : a.eval x = u) {v' : Value} {w' : World} (hr : (Builtin.copy_ #[dT, sT] o.type #[v, u]).run P w = .ok v' w') (hK : K (a.put o.dst v') w') :
    if Region.wanted o (yielded ops a.tmps) = true then Oper.wp P o a w K Q else E := by
  have hw : Region.wanted o (yielded ops a.tmps) = true := by simp [Region.wanted, hg]
  rw [if_pos hw]
  unfold Oper.wp
  simp [execOp, hop, resolve, invoke, builtin, hd, hx, hr, Result.andThen]
  exact hK

theorem wpList_append_runN {P : Program} (w : World) {ops : Array Oper} {rest : List Oper} {o : Oper} {a : Act} {Q : Exit → Act → World → Prop} (hgd : o.guard = none) (d s : Operand) (t t' : TypeId)
    (ho : o.op = .call { callee := .builtin .append, args := #[d, s], argTypes := #[t, t'] }) (v u : Value) (hd : a.eval d = v) (hs : a.eval s = u) {v' : Value} {w' : World}
    (hr : (Builtin.append_ #[t, t'] o.type #[v, u]).run P w = .ok v' w') (h : wpList P ops Q rest (a.put o.dst v') w') : wpList P ops Q (o :: rest) a w :=
  wpList_plain hgd fun K hK => by
    unfold Oper.wp execOp
    simp only [ho, resolve, invoke, builtin, Sem.run_bind, Sem.run_pure, Result.andThen_ok, List.map_toArray, List.map_cons, List.map_nil, hd, hs, hr]
    exact hK _ _ h
end Go

namespace Go.Proofs.Ytieakippgeehgaa.Sp
open Go.RowKit
/-- What Insert gives: the row with one simple type ahead of the others; other blocks that were there are as they were. -/
def GivesIns (w : World) (base : Nat) (S : Nat → Prop) (e : TypeId) (v : Value) (us : List Tm) (en : Ending) (w' : World) : Prop :=
  ∃ v', en = .returned v' ∧ Built w' base S e v' us ∧ w.grownBy w' v.ownBlock ∧ (v'.ownBlock = v.ownBlock ∨ ∃ g, v'.ownBlock = some g ∧ w.heap.size ≤ g)
end Go.Proofs.Ytieakippgeehgaa.Sp

namespace Go.Proofs.Ytieakippgeehgaa.Sp
open Go.RowKit
set_option linter.unusedSimpArgs false
set_option linter.unusedVariables false

theorem il_underlying : Try.prog.underlying 25 = some (.slice 27) := by kernel_rfl
theorem il_int : Try.prog.underlying 3 = some (.int .i64) := by kernel_rfl
theorem il_size : (Try.prog.info? 27).map (·.size) = some 2 := by kernel_rfl

/-- the row behind both copies -/
theorem ins_row {α : Type} (L F : List α) (a b : α) (n cap : Nat) (hL : L.length = cap * 2) (hF : F.length = n * 2) (hc : n + 1 ≤ cap) (ht : L.take (n * 2) = F) :
    ∃ R1 R2 : List α, R1 = L.take 2 ++ F ++ L.drop (2 + F.length) ∧ R2 = R1.take 0 ++ [a, b] ++ R1.drop (0 + [a, b].length) ∧ R2.length = cap * 2 ∧ R2.take ((n + 1) * 2) = a :: b :: F := by
  refine ⟨_, _, rfl, rfl, ?_, ?_⟩
  · simp [hL, hF]; omega
  · have h2 : (L.take 2).length = 2 := by simp [hL]; omega
    simp only [List.take_zero, List.nil_append, List.length_cons, List.length_nil]
    rw [List.append_assoc, List.drop_append_of_le_length (by omega), List.drop_of_length_le (by omega), List.nil_append]
    rw [show (n + 1) * 2 = F.length + 1 + 1 by omega]
    simp
theorem ins_row_new {α : Type} (L F : List α) (a b : α) (n cap : Nat) (hL : L.length = cap * 2) (hF : F.length = n * 2) (hc : n + 1 ≤ cap) :
    ∃ R1 R2 : List α, R1 = L.take 0 ++ [a, b] ++ L.drop (0 + [a, b].length) ∧ R2 = R1.take 2 ++ F ++ R1.drop (2 + F.length) ∧ R2.length = cap * 2 ∧ R2.take ((n + 1) * 2) = a :: b :: F := by
  refine ⟨_, _, rfl, rfl, ?_, ?_⟩
  · simp [hL, hF]; omega
  · simp only [List.take_zero, List.nil_append, List.length_cons, List.length_nil, List.cons_append, List.take_succ_cons]
    rw [show (n + 1) * 2 = F.length + 1 + 1 by omega]
    simp

theorem setRow_grown {w : World} {g : Nat} (cs : Array Value) : w.grownBy (w.setRow g cs) (some g) :=
  ⟨rfl, rfl, rfl, by simp, fun k _ hk => setRow_other w g k cs (by simpa using hk)⟩

set_option maxHeartbeats 4000000 in
set_option maxRecDepth 100000 in
/-- there is room: in place -/
theorem insert_room (base : Nat) (g n cap : Nat) (ts : List Tm) (vs : List Value) (cur : Array Value) (x : Tm) (xv : Value) (vb : Nat) (w : World)
    (hl : ts.length = vs.length) (hn : ts.length = n) (h0 : 0 < n) (hroom : n + 1 ≤ cap) (hmx : cap ≤ 9223372036854775807) (hcur : w.heap[g]? = some (.cells cur 27 (0, 0))) (hsz : cur.size = cap * 2) (htk : cur.toList.take (n * 2) = flat ts vs)
    (hone : ∀ u ∈ flat ts vs, u.oneCell' = true) (hx1 : xv.oneCell' = true) (hvb : w.heap[vb]? = some (.cells #[xv, .int .i64 x.n] 27 (0, 0))) (hne : vb ≠ g) :
    Calls Try.prog 94 #[.slice (some ⟨g, 0, none⟩) n cap, .int .i64 0, .slice (some ⟨vb, 0, none⟩) 1 1] w fun e w' =>
      e = .returned (.slice (some ⟨g, 0, none⟩) (n + 1) cap) ∧ w.grownBy w' (some g) ∧ ∃ R : List Value, R.length = cap * 2 ∧ R.take ((n + 1) * 2) = xv :: .int .i64 x.n :: flat ts vs ∧ w'.heap[g]? = some (.cells R.toArray 27 (0, 0)) := by
  have hFl : (flat ts vs).length = n * 2 := by rw [flat_length _ _ hl, hn]
  obtain ⟨R1, R2, e1, e2, hR2, hT2⟩ := ins_row cur.toList (flat ts vs) xv (.int .i64 x.n) n cap (by simpa using hsz) hFl hroom htk
  have hF : ∀ j u, (flat ts vs)[j]? = some u → w.cell? ⟨g, 0 + j, none⟩ = some u := fun j u hu => by
    rw [Nat.zero_add]
    refine cell_in hcur j u ?_
    rw [← htk, List.getElem?_take] at hu
    split at hu
    · simpa using hu
    · cases hu
  have hcp1 : ∀ ty dc sc, (Builtin.copy_ #[25, 25] ty #[.slice (some ⟨g, 2, none⟩) n dc, .slice (some ⟨g, 0, none⟩) (n + 1) sc]).run Try.prog w.drew = .ok (goInt n) (w.drew.setRow g R1.toArray) := fun ty dc sc => by
    rw [e1]
    exact run_copy_row_n w.drew _ _ ty 27 2 g 2 n dc ⟨g, 0, none⟩ (n + 1) sc n cur 27 (flat ts vs) il_underlying il_size hcur (by simp only [Nat.min_def]; split <;> omega) hFl
      (fun j u hu => by rw [Addr.add_lit]; exact hF j u hu) (by rw [hFl, hsz]; omega) hone
  have hg1 := setRow_heap w.drew g cur R1.toArray 27 (0, 0) hcur
  have hvb1 : (w.drew.setRow g R1.toArray).heap[vb]? = some (.cells #[xv, .int .i64 x.n] 27 (0, 0)) := by rw [setRow_other _ _ _ _ hne]; exact hvb
  have hcp2 : ∀ ty dc, (Builtin.copy_ #[25, 25] ty #[.slice (some ⟨g, 0, none⟩) (n + 1) dc, .slice (some ⟨vb, 0, none⟩) 1 1]).run Try.prog (w.drew.setRow g R1.toArray) = .ok (goInt 1) ((w.drew.setRow g R1.toArray).setRow g R2.toArray) := fun ty dc => by
    rw [e2]
    refine run_copy_row_n _ _ _ ty 27 2 g 0 (n + 1) dc ⟨vb, 0, none⟩ 1 1 1 R1.toArray 27 [xv, .int .i64 x.n] il_underlying il_size hg1 (by simp only [Nat.min_def]; split <;> omega) rfl
      (fun j u hu => ?_) (by rw [e1]; simp [hFl, hsz]; omega) (by intro u hu; simp at hu; rcases hu with rfl | rfl; exact hx1; rfl)
    rw [Addr.add_lit, Nat.zero_add]
    exact cell_in hvb1 j u (by simpa using hu)
  have hg2 := setRow_heap (w.drew.setRow g R1.toArray) g R1.toArray R2.toArray 27 (0, 0) hg1
  have hgr : w.grownBy ((w.drew.setRow g R1.toArray).setRow g R2.toArray) (some g) := by rw [setRow_setRow]; exact ⟨rfl, rfl, rfl, by simp, fun k _ hk => setRow_other w.drew g k _ (by simpa using hk)⟩
  have HG := Lib.hid (And.intro hR2 (And.intro hT2 (And.intro hg2 hgr)))
  have hov : ∀ lb cb, (callFunc 97 #[.slice (some ⟨vb, 0, none⟩) 1 1, .slice (some ⟨g, 2, none⟩) lb cb]).run Try.prog w = .ok (.value (.bool false)) w := fun lb cb => by
    rw [run_callFunc_extern Try.func97 (by kernel_rfl) (by kernel_rfl) (by kernel_rfl) (e := Extern.SlicesOverlaps.overlaps #[25, 25] #[4]) (by kernel_rfl),
      Lib.run_overlaps_apart w 25 4 27 il_underlying 2 (fun _ => by kernel_rfl) ⟨vb, 0, none⟩ ⟨g, 2, none⟩ 1 1 lb cb hne 27 27 2 (cap * 2) (by simp [World.shape?, hvb]) (by simp [World.shape?, hcur, hsz]) (by omega) (free_in hvb 0) (free_in hvb 2)]
    rfl
  have hz1 : ¬ ((0 : Int) = (n : Int)) := by omega
  have hz2 : IntKind.i64.wrap ((n : Int) + 1) = (n : Int) + 1 := by rw [IntKind.wrap_i64]; omega
  have hz3 : ¬ ((cap : Int) < (n : Int) + 1) := by omega
  have hz4 : ((n : Int) + 1).toNat = n + 1 := by omega
  have hb2 : ¬ (cap = 1) := by omega
  have hb4 : ¬ (cap = 0) := by omega
  have hb5 : n + 1 ≤ cap := by omega
  have hw1 : IntKind.i64.wrap 1 = 1 := by decide
  have hw2 : (1 : Int) ≤ (n : Int) + 1 := by omega
  have hw3 : (1 : Int).toNat = 1 := rfl
  have hw4 : (0 : Int) ≤ (n : Int) + 1 := by omega
  clear hcur hsz htk hone hvb hne hF e1 e2 hR2 hT2 hg1 hvb1 hg2 hgr hFl hn hl
  go_enter Try.func94, Try.ntmps94
  go_wp2_with (simp only [hov])
  go_region_law (refine step_copy_runN rfl _ _ 25 25 rfl _ _ (by simp [Act.eval, Act.put]) (by simp [Act.eval, Act.put]) (hcp1 _ _ _) ?_)
  go_wp2_with (at_builtin; refine wpList_copy_runN _ rfl _ _ 25 25 rfl _ _ rfl rfl (hcp2 _ _) ?_)
  go_ret
  exact ⟨rfl, HG.out.2.2.2, R2, HG.out.1, HG.out.2.1, HG.out.2.2.1⟩

set_option maxHeartbeats 4000000 in
set_option maxRecDepth 100000 in
/-- there is none: a new row -/
theorem insert_grow (g n cap : Nat) (ts : List Tm) (vs : List Value) (cur : Array Value) (x : Tm) (xv : Value) (vb : Nat) (w : World)
    (hl : ts.length = vs.length) (hn : ts.length = n) (h0 : 0 < n) (hroom : n = cap) (hmx : n ≤ 1000000) (hcur : w.heap[g]? = some (.cells cur 27 (0, 0))) (htk : cur.toList.take (n * 2) = flat ts vs)
    (hone : ∀ u ∈ flat ts vs, u.oneCell' = true) (hx1 : xv.oneCell' = true) (hvb : w.heap[vb]? = some (.cells #[xv, .int .i64 x.n] 27 (0, 0))) (hne : vb ≠ g) :
    Calls Try.prog 94 #[.slice (some ⟨g, 0, none⟩) n cap, .int .i64 0, .slice (some ⟨vb, 0, none⟩) 1 1] w fun e w' =>
      ∃ G, e = .returned (.slice (some ⟨w.heap.size, 0, none⟩) (n + 1) G) ∧ Below w.heap.size w w' ∧ n + 1 ≤ G ∧ G ≤ maxLen ∧ ∃ R : List Value, R.length = G * 2 ∧ R.take ((n + 1) * 2) = xv :: .int .i64 x.n :: flat ts vs ∧ w'.heap[w.heap.size]? = some (.cells R.toArray 27 (0, 0)) := by
  subst hroom
  have hFl : (flat ts vs).length = n * 2 := by rw [flat_length _ _ hl, hn]
  obtain ⟨i0, hi, hz0, hz1, hz2⟩ := info_parts sm_info
  have hgw : g < w.heap.size := (Array.getElem?_eq_some_iff.1 hcur).1
  have hvw : vb < w.heap.size := (Array.getElem?_eq_some_iff.1 hvb).1
  obtain ⟨G, hG⟩ : ∃ G, G = grownCap w (n + 1) n 27 := ⟨_, rfl⟩
  have hGn : n + 1 ≤ G := by rw [hG]; exact grownCap_ge w _ _ _
  have hG63 : G ≤ maxLen := by rw [hG]; exact grownCap_le_maxLen w (n + 1) n 27 (by unfold maxLen; omega)
  obtain ⟨ROW, hROW⟩ : ∃ ROW : Array Value, ROW = ([] : List Value).toArray ++ Builtin.zeroCells (Value.agg #[.slice none 0 0, .int .i64 0]).cells (n + 1) ++ Builtin.zeroCells (Value.agg #[.slice none 0 0, .int .i64 0]).cells (G - (n + 1)) := ⟨_, rfl⟩
  have hRl : ROW.toList.length = G * 2 := by
    rw [hROW]
    simp [Builtin.zeroCells, Value.cells]
    omega
  have hold : (Builtin.firstCells i0.size 0 (.slice (some ⟨g, 0, none⟩) 0 n)).run Try.prog w.drew = .ok ([] : List Value).toArray w.drew := by
    have := run_loadCells_list (P := Try.prog) w.drew ⟨g, 0, none⟩ [] (by simp)
    simpa [Builtin.firstCells] using this
  have hrz : ∀ ty, (Builtin.append_ #[25, 3] ty #[.slice (some ⟨g, 0, none⟩) 0 n, .int .i64 ((n : Int) + 1)]).run Try.prog w =
      .ok (.slice (some ⟨w.heap.size, 0, none⟩) (n + 1) G) ((w.alloc (.cells ROW 27)).drew) := fun ty => by
    have h := Lib.run_append_grow_zeros w 25 3 ty 27 i0 _ .i64 .i64 il_underlying il_int hi hz0 (some ⟨g, 0, none⟩) 0 n [] hold (n + 1) (by omega) (by omega) (by omega) (by omega) (by rw [hz2]; omega) (by rw [hz2, Nat.zero_add]; exact growslice_fits (by omega) (by omega))
    simp only [Nat.zero_add] at h
    rw [← hG, ← hROW] at h
    exact h
  obtain ⟨R1, R2, e1, e2, hR2, hT2⟩ := ins_row_new ROW.toList (flat ts vs) xv (.int .i64 x.n) n G hRl hFl hGn
  obtain ⟨W1, hW1⟩ : ∃ W1, W1 = (w.alloc (.cells ROW 27)).drew := ⟨_, rfl⟩
  have hg0 : W1.heap[w.heap.size]? = some (.cells ROW 27 (0, 0)) := by rw [hW1]; exact heap_alloc_new w _
  have hW1b : Below w.heap.size w W1 := by rw [hW1]; exact ((Below.refl _ _).alloc (Nat.le_refl _) _).drew
  have hvb1 : W1.heap[vb]? = some (.cells #[xv, .int .i64 x.n] 27 (0, 0)) := (hW1b.block vb hvw).trans hvb
  have hcpA : ∀ ty dc, (Builtin.copy_ #[25, 25] ty #[.slice (some ⟨w.heap.size, 0, none⟩) (n + 1) dc, .slice (some ⟨vb, 0, none⟩) 1 1]).run Try.prog W1 = .ok (goInt 1) (W1.setRow w.heap.size R1.toArray) := fun ty dc => by
    rw [e1]
    refine run_copy_row_n _ _ _ ty 27 2 w.heap.size 0 (n + 1) dc ⟨vb, 0, none⟩ 1 1 1 ROW 27 [xv, .int .i64 x.n] il_underlying il_size hg0 (by simp only [Nat.min_def]; split <;> omega) rfl
      (fun j u hu => ?_) (by simp at hRl ⊢; omega) (by intro u hu; simp at hu; rcases hu with rfl | rfl; exact hx1; rfl)
    rw [Addr.add_lit, Nat.zero_add]
    exact cell_in hvb1 j u (by simpa using hu)
  have hg1 := setRow_heap W1 w.heap.size ROW R1.toArray 27 (0, 0) hg0
  have hcur1 : (W1.setRow w.heap.size R1.toArray).drew.heap[g]? = some (.cells cur 27 (0, 0)) := by
    show (W1.setRow w.heap.size R1.toArray).heap[g]? = _
    rw [setRow_other _ _ _ _ (by omega)]; exact (hW1b.block g hgw).trans hcur
  have hcpB : ∀ ty dc sc, (Builtin.copy_ #[25, 25] ty #[.slice (some ⟨w.heap.size, 2, none⟩) n dc, .slice (some ⟨g, 0, none⟩) n sc]).run Try.prog (W1.setRow w.heap.size R1.toArray).drew = .ok (goInt n) ((W1.setRow w.heap.size R1.toArray).drew.setRow w.heap.size R2.toArray) := fun ty dc sc => by
    rw [e2]
    refine run_copy_row_n _ _ _ ty 27 2 w.heap.size 2 n dc ⟨g, 0, none⟩ n sc n R1.toArray 27 (flat ts vs) il_underlying il_size hg1 (by simp only [Nat.min_def]; split <;> omega) hFl
      (fun j u hu => ?_) (by rw [e1]; simp at hRl ⊢; omega) hone
    rw [Addr.add_lit, Nat.zero_add]
    refine cell_in hcur1 j u ?_
    rw [← htk, List.getElem?_take] at hu
    split at hu
    · simpa using hu
    · cases hu
  have hg2 := setRow_heap (W1.setRow w.heap.size R1.toArray).drew w.heap.size R1.toArray R2.toArray 27 (0, 0) hg1
  have hbl : Below w.heap.size w ((W1.setRow w.heap.size R1.toArray).drew.setRow w.heap.size R2.toArray) := below_setRow ((below_setRow hW1b (Nat.le_refl _) _).drew) (Nat.le_refl _) _
  have HG := Lib.hid (And.intro hR2 (And.intro hT2 (And.intro hg2 (And.intro hbl (And.intro hGn hG63)))))
  have hz1 : ¬ ((0 : Int) = (n : Int)) := by omega
  have hz2' : IntKind.i64.wrap ((n : Int) + 1) = (n : Int) + 1 := by rw [IntKind.wrap_i64]; omega
  have hz3 : (n : Int) < (n : Int) + 1 := by omega
  have hGi : ¬ (G = 0) := by omega
  have hGim : ¬ (G = 1) := by omega
  have hci : ¬ (n = 0) := by omega
  have hw1 : IntKind.i64.wrap 1 = 1 := by decide
  have hw2 : (1 : Int) ≤ (n : Int) + 1 := by omega
  have hw3 : (1 : Int).toNat = 1 := rfl
  have hw4 : (0 : Int) ≤ (n : Int) + 1 := by omega
  subst hW1
  clear hcur htk hone hvb hne e1 e2 hR2 hT2 hg1 hvb1 hg2 hbl hFl hn hl hold hRl hROW hG hcur1 hg0 hW1b hi hz0 hz1 hz2 hGn hG63
  go_enter Try.func94, Try.ntmps94
  go_wp2_with (first
    | (at_builtin; refine wpList_append_runN _ rfl _ _ 25 3 rfl _ _ rfl rfl (hrz _) ?_)
    | (at_builtin; refine wpList_copy_runN _ rfl _ _ 25 25 rfl _ _ rfl rfl (hcpA _ _) ?_))
  go_region_law (refine step_copy_runN rfl _ _ 25 25 rfl _ _ (by simp [Act.eval, Act.put]) (by simp [Act.eval, Act.put]) (hcpB _ _ _) ?_)
  go_wp2
  go_ret
  exact ⟨G, rfl, HG.out.2.2.2.1, HG.out.2.2.2.2.1, HG.out.2.2.2.2.2, R2, HG.out.1, HG.out.2.1, HG.out.2.2.1⟩

/-- slices.Insert at the head of a row of the call's own that is not empty. -/
theorem insert_any (base : Nat) (S : Nat → Prop) (a : Option Addr) (n m : Nat) (ts : List Tm) (x : Tm) (xv : Value) (vb : Nat) (w : World) (H : Built w base S 27 (.slice a n m) ts) (h0 : ts ≠ []) (hn : n ≤ 1000000) (hb : base ≤ w.heap.size)
    (hx : Lies w (fun b => S b ∧ Value.ownBlock (.slice a n m) ≠ some b) xv x.args) (hf : x.fit) (hvb : w.heap[vb]? = some (.cells #[xv, .int .i64 x.n] 27 (0, 0))) (hne : Value.ownBlock (.slice a n m) ≠ some vb) :
    Calls Try.prog 94 #[.slice a n m, .int .i64 0, .slice (some ⟨vb, 0, none⟩) 1 1] w (GivesIns w base S 27 (.slice a n m) (x :: ts)) := by
  obtain ⟨⟨vs, hl, hown, hsub⟩, hfit⟩ := H
  obtain ⟨hlen, h | ⟨g, cap, cur, hv, hbg, hg, hle, hmx, hsz, htk⟩⟩ := hown
  · exact absurd (List.eq_nil_of_length_eq_zero h.2) h0
  · simp only [Value.slice.injEq] at hv
    obtain ⟨rfl, hnl, rfl⟩ := hv
    have hg0 : ∀ k, Value.ownBlock (.slice (some (⟨g, 0, none⟩ : Addr)) n m) = some k ↔ g = k := fun k => by simp [Value.ownBlock]
    have hvne : vb ≠ g := fun e => hne (by rw [hg0]; exact e.symm)
    have h1 : ∀ u ∈ flat ts vs, u.oneCell' = true := flat_one ts vs fun v hv => by
      obtain ⟨i, hi, rfl⟩ := List.mem_iff_getElem.1 hv
      obtain ⟨a, n, m, e⟩ := (hsub i (by omega) hi).isSlice
      rw [e]; rfl
    have hx1 : xv.oneCell' = true := by obtain ⟨a, n, m, e⟩ := hx.isSlice; rw [e]; rfl
    have hpos : 0 < n := by rw [hnl]; exact List.length_pos_iff.2 h0
    have hsub' : ∀ i (h : i < (x :: ts).length) (h' : i < (xv :: vs).length), Lies w (fun b => S b ∧ Value.ownBlock (.slice (some (⟨g, 0, none⟩ : Addr)) n m) ≠ some b) (xv :: vs)[i] (x :: ts)[i].args := by
      intro i h h'
      cases i with
      | zero => exact hx
      | succ i => exact hsub i (by simpa using h) (by simpa using h')
    have hfit' : ∀ t ∈ x :: ts, t.fit := fun t ht => by
      rcases List.mem_cons.1 ht with rfl | ht
      · exact hf
      · exact hfit t ht
    unfold maxLen at hmx
    have hfl : (flat ts vs).length = n * 2 := by rw [flat_length _ _ hl, hnl]
    by_cases hroom : n + 1 ≤ m
    · refine (insert_room base g n m ts vs cur x xv vb w hl hnl.symm hpos hroom hmx hg hsz (by rw [hnl]; exact htk) h1 hx1 hvb hvne).mono ?_
      rintro e w' ⟨rfl, hgr, R, hR1, hR2, hR3⟩
      refine ⟨_, rfl, ?_, hgr, .inl (by simp [Value.ownBlock])⟩
      refine Built.of (v := .slice (some ⟨g, 0, none⟩) n m) (by simp [hnl]) (by simp [hl]) hsub' hfit' ⟨by simp only [flat, List.length_cons, hfl]; omega, .inr ⟨g, m, _, rfl, hbg, hR3, hroom, by unfold maxLen; omega, by simpa using hR1, by simpa [flat] using hR2⟩⟩ (fun k hk hne => hgr.block k hk hne) (.inl (by simp [Value.ownBlock]))
    · obtain rfl : n = m := by omega
      refine (insert_grow g n n ts vs cur x xv vb w hl hnl.symm hpos rfl hn hg (by rw [hnl]; exact htk) h1 hx1 hvb hvne).mono ?_
      rintro e w' ⟨G, rfl, hbl, hG, hGx, R, hR1, hR2, hR3⟩
      refine ⟨_, rfl, ?_, ⟨hbl.os, hbl.tape, hbl.output, hbl.size, fun k hk _ => hbl.block k hk⟩, .inr ⟨w.heap.size, by simp [Value.ownBlock], Nat.le_refl _⟩⟩
      refine Built.of (v := .slice (some ⟨g, 0, none⟩) n n) (by simp [hnl]) (by simp [hl]) hsub' hfit' ⟨by simp only [flat, List.length_cons, hfl]; omega, .inr ⟨w.heap.size, G, _, rfl, hb, hR3, hG, hGx, by simpa using hR1, by simpa [flat] using hR2⟩⟩ (fun k hk hne => hbl.block k hk) (.inr (Nat.le_refl _))
end Go.Proofs.Ytieakippgeehgaa.Sp

namespace Go.Proofs.Ytieakippgeehgaa
open Go.RowKit
set_option linter.unusedSimpArgs false
set_option linter.unusedVariables false

/-- a simple type in a row of the call's own, and whether there is one -/
def GivesB (w : World) (r : Option Sp.Tm) (e : Ending) (w' : World) : Prop :=
  ∃ v, e = .returned (.tuple #[.agg #[v, .int .i64 (spOf r).n], .bool r.isSome]) ∧ Below w.heap.size w w' ∧ Sp.Built w' w.heap.size (w.heap.size ≤ ·) 27 v (spOf r).args ∧ ((spOf r).args = [] → v = .slice none 0 0)

set_option maxHeartbeats 1000000 in
set_option maxRecDepth 100000 in
theorem insert_nil (base : Nat) (S : Nat → Prop) (x : Sp.Tm) (xv : Value) (vb : Nat) (w : World) (hb : base ≤ w.heap.size)
    (hx : Sp.Lies w S xv x.args) (hf : x.fit) (hvb : w.heap[vb]? = some (.cells #[xv, .int .i64 x.n] 27 (0, 0))) :
    Calls Try.prog 94 #[.slice none 0 0, .int .i64 0, .slice (some ⟨vb, 0, none⟩) 1 1] w (Sp.GivesIns w base S 27 (.slice none 0 0) [x]) := by
  obtain ⟨i0, hi0, hz0, hz1, hz2⟩ := info_parts Sp.sm_info
  have hx1 : xv.oneCell' = true := by obtain ⟨a, n, m, e⟩ := hx.isSlice; rw [e]; rfl
  have HX := Lib.hid hx
  have HV := Lib.hid hvb
  have HI0 := Lib.hid hi0
  have HZ0 := Lib.hid hz0
  have H1 := Lib.hid hx1
  clear hx hvb hi0 hz0 hx1
  go_enter Try.func94, Try.ntmps94
  go_wp2_with (at_builtin; refine wpList_append_lies _ (by rfl) _ _ _ (by rfl) base 27 i0 _ 2 32 Sp.il_underlying HI0.out HZ0.out hz1 hz2 rfl (by omega) (.slice none 0 0) 0 [] (by rfl) (World.ownsRow_nil _ _ _ _) ⟨vb, 0, none⟩ 1 1 [xv, .int .i64 x.n] (by rfl) (by rfl) (World.news_of_block (cs := #[xv, .int .i64 x.n]) (t := 27) (fr := (0, 0)) HV.out) (by intro u hu; simp at hu; rcases hu with rfl | rfl; exact H1.out; rfl) (by omega) (by unfold maxLen; omega) (by omega) hb _ rfl ?_; intro g cap3 w3 hown3 hgrow3 hat3 hlt3)
  go_ret
  have hat : w.heap.size ≤ g := by
    rcases hat3 with h | h
    · simp [Value.ownBlock] at h
    · omega
  refine ⟨_, rfl, ?_, hgrow3, .inr ⟨g, by simp [Value.ownBlock], hat⟩⟩
  refine Sp.Built.of (v := .slice none 0 0) (w := w) (vs := [xv]) rfl rfl (fun i h h' => ?_) (fun t ht => by simp at ht; rw [ht]; exact hf) (by simpa [Sp.flat] using hown3) (fun k hk hne => hgrow3.block k hk hne) (.inr hat)
  obtain rfl : i = 0 := by simpa using h
  exact HX.out.more fun b _ hS => ⟨hS, by simp [Value.ownBlock]⟩

/-- one simple type ahead of those of a row of the call's own, whether there are some or none -/
theorem insert_all (base : Nat) (S : Nat → Prop) (v : Value) (ts : List Sp.Tm) (x : Sp.Tm) (xv : Value) (vb : Nat) (w : World) (H : Sp.Built w base S 27 v ts) (h0 : ts = [] → v = .slice none 0 0) (hn : ts.length ≤ 1000000) (hb : base ≤ w.heap.size)
    (hx : Sp.Lies w (fun b => S b ∧ v.ownBlock ≠ some b) xv x.args) (hf : x.fit) (hvb : w.heap[vb]? = some (.cells #[xv, .int .i64 x.n] 27 (0, 0))) (hne : v.ownBlock ≠ some vb) :
    Calls Try.prog 94 #[v, .int .i64 0, .slice (some ⟨vb, 0, none⟩) 1 1] w (Sp.GivesIns w base S 27 v (x :: ts)) := by
  by_cases he : ts = []
  · subst he
    obtain rfl := h0 rfl
    exact insert_nil base S x xv vb w hb (hx.more fun b _ hS => hS.1) hf hvb
  · obtain ⟨a, n, m, rfl⟩ := H.isSlice
    have : ts.length = n := H.len
    exact Sp.insert_any base S a n m ts x xv vb w H he (by omega) hb hx hf hvb hne

set_option maxHeartbeats 1000000 in
set_option maxRecDepth 100000 in
theorem simT_con (o n : Int) (v : Value) (l : List Tm) (w : World) (S : Nat → Prop) (hv : Lies w S v l) (ho : (o == 2) = false) :
    Calls Try.prog 84 #[.agg #[.int .i64 o, .int .i64 2, .int .i64 n, v]] w (GivesB w (some (.mk n []))) := by
  obtain ⟨a2, n2, m2, rfl⟩ := hv.isSlice
  clear hv
  go_enter Try.func84, Try.ntmps84
  go_wp2
  refine bodyPost_ret (v := .tuple #[.agg #[.slice none 0 0, .int .i64 n], .bool true]) (by simp [results, Try.results84, go_sem]) rfl ?_
  exact ⟨_, rfl, two_below _ _ _, Sp.Built.nil _ _ _ _, fun _ => rfl⟩

set_option maxHeartbeats 1000000 in
set_option maxRecDepth 100000 in
theorem simT_no (o h n : Int) (v : Value) (l : List Tm) (w : World) (S : Nat → Prop) (hv : Lies w S v l) (e2 : (o == 2) = false) (e4 : (h != 2) = true) :
    Calls Try.prog 84 #[.agg #[.int .i64 o, .int .i64 h, .int .i64 n, v]] w (GivesB w none) := by
  obtain ⟨a2, n2, m2, rfl⟩ := hv.isSlice
  clear hv
  go_enter Try.func84, Try.ntmps84
  go_wp2
  refine bodyPost_ret (v := .tuple #[.agg #[.slice none 0 0, .int .i64 0], .bool false]) (by simp [results, Try.results84, go_sem]) rfl ?_
  exact ⟨_, rfl, two_below _ _ _, Sp.Built.nil _ _ _ _, fun _ => rfl⟩

/-- the two parts' simple types, by their numbers and lists -/
theorem simp_two (a b : Tm) : ∃ (n1 n2 : Int) (l1 l2 : List Sp.Tm) (k1 k2 : Bool), spOf (Tm.simp a) = .mk n1 l1 ∧ spOf (Tm.simp b) = .mk n2 l2 ∧ (Tm.simp a).isSome = k1 ∧ (Tm.simp b).isSome = k2 ∧
    (k1 = true → Tm.simp a = some (.mk n1 l1)) ∧ (k2 = true → Tm.simp b = some (.mk n2 l2)) ∧
    (Tm.simpJ (Tm.simp a) (Tm.simp b) = if k1 = true ∧ k2 = true then some (.mk n2 (.mk n1 l1 :: l2)) else (none : Option Sp.Tm)) := by
  rcases Tm.simp a with _ | ⟨n1, l1⟩ <;> rcases Tm.simp b with _ | ⟨n2, l2⟩
  · exact ⟨0, 0, [], [], false, false, rfl, rfl, rfl, rfl, by simp, by simp, by simp [Tm.simpJ]⟩
  · exact ⟨0, n2, [], l2, false, true, rfl, rfl, rfl, rfl, by simp, by simp, by simp [Tm.simpJ]⟩
  · exact ⟨n1, 0, l1, [], true, false, rfl, rfl, rfl, rfl, by simp, by simp, by simp [Tm.simpJ]⟩
  · exact ⟨n1, n2, l1, l2, true, true, rfl, rfl, rfl, rfl, by simp, by simp, by simp [Tm.simpJ, Sp.Tm.n, Sp.Tm.args]⟩

set_option maxHeartbeats 4000000 in
set_option maxRecDepth 100000 in
theorem simT_walk (S : Nat → Prop) (f : Nat) (ih : ∀ (o h n : Int) (v : Value) (l : List Tm) (w : World) (d : Nat), Tm.sz (.mk o h n l) ≤ f → Tm.sz (.mk o h n l) ≤ 600 → Lies w S v l → Tm.formed (.mk o h n l) d = true →
      Calls Try.prog 84 #[.agg #[.int .i64 o, .int .i64 h, .int .i64 n, v]] w (GivesB w (Tm.simp (.mk o h n l))))
    (h n : Int) (v : Value) (l : List Tm) (w : World) (d : Nat) (hf : Tm.sz (.mk 2 h n l) ≤ f + 1) (h6 : Tm.sz (.mk 2 h n l) ≤ 600) (hv : Lies w S v l) (hw : Tm.formed (.mk 2 h n l) d = true) :
    Calls Try.prog 84 #[.agg #[.int .i64 2, .int .i64 h, .int .i64 n, v]] w (GivesB w (Tm.simp (.mk 2 h n l))) := by
  obtain ⟨a, b, rfl, ha, hb⟩ := Tm.formed_pi hw
  rw [Tm.simp_pi]
  obtain ⟨ad, bb, off, len, cap, oo, hh, kk, sv, tt, rfl, R⟩ := hv.open
  obtain rfl : 2 = len := R.length
  obtain rfl := R.hao (by omega)
  have ea : a = .mk (oo 0) (hh 0) (kk 0) (tt 0) := R.get 0 (by omega)
  have eb : b = .mk (oo 1) (hh 1) (kk 1) (tt 1) := R.get 1 (by omega)
  have h2 := two_below w (.cells #[.int .i64 2, .int .i64 h, .int .i64 n, .slice (some ⟨bb, off, none⟩) 2 cap] 24) (.cells #[.slice none 0 0, .int .i64 0] 27)
  have hk2 := two_blocks w #[.int .i64 2, .int .i64 h, .int .i64 n, .slice (some ⟨bb, off, none⟩) 2 cap] #[.slice none 0 0, .int .i64 0] 24 27
  have hsza : Tm.sz a ≤ f ∧ Tm.sz a ≤ 600 := by simp only [Tm.sz, Tm.szL] at hf h6; omega
  have hszb : Tm.sz b ≤ f ∧ Tm.sz b ≤ 600 := by simp only [Tm.sz, Tm.szL] at hf h6; omega
  obtain ⟨d0, d1, d2, d3, hs0⟩ := R.at h2 0 (by omega)
  simp only [Nat.zero_mul, Nat.add_zero] at d0 d1 d2 d3
  obtain ⟨a6, n6, m6, hsv0⟩ := hs0.isSlice
  rw [hsv0] at d3 hs0
  have c1 := fun w1 hb1 => ih (oo 0) (hh 0) (kk 0) _ (tt 0) w1 (d + 1) (by rw [← ea]; exact hsza.1) (by rw [← ea]; exact hsza.2) (hs0.keep (w' := w1) hb1) (by rw [← ea]; exact ha)
  rw [← ea] at c1
  obtain ⟨a7, n7, m7, hsv1⟩ := (R.sub 1 (by omega)).isSlice
  have c2 := fun w1 hb1 => ih (oo 1) (hh 1) (kk 1) _ (tt 1) w1 (d + 1) (by rw [← eb]; exact hszb.1) (by rw [← eb]; exact hszb.2) ((R.sub 1 (by omega)).keep (w' := w1) hb1) (by rw [← eb]; exact hb)
  rw [← eb, hsv1] at c2
  have R1 := fun w1 hb1 => R.at (wr := w1) hb1 1 (by omega)
  rw [hsv1] at R1
  have hfa := fun s hs => Tm.simp_fit a (d + 1) ha s hs
  have hfb := fun s hs => Tm.simp_fit b (d + 1) hb s hs
  obtain ⟨n1, n2, l1, l2, k1, k2, e1, e2, e3, e4, e5, e6, e7⟩ := simp_two a b
  rw [e7]
  unfold GivesB at c1 c2
  simp only [e1, e2, e3, e4, Sp.Tm.n, Sp.Tm.args] at c1 c2
  have R1H := Lib.hid R1
  have H2 := Lib.hid h2
  have HK2 := Lib.hid hk2
  have HSZ := Lib.hid (And.intro hsza.2 hszb.2)
  have HFA := Lib.hid hfa
  have HFB := Lib.hid hfb
  have HE5 := Lib.hid e5
  have HE6 := Lib.hid e6
  clear R1 h2 hk2 ea eb ha hb hsza hszb hs0 hsv0 hsv1 R hv ih hf h6 hw e1 e2 e3 e4 e5 e6 e7 hfa hfb
  cases k1 <;> cases k2
  all_goals
    go_enter Try.func84, Try.ntmps84
    go_wp2_with fail
    refine (c1 _ (Below.refl _ _)).mono ?_
    rintro e w2 ⟨v1, rfl, hb1, B1, hn1⟩
    obtain ⟨a8, n8, m8, rfl⟩ := B1.isSlice
    have hbA := H2.out.trans (hb1.mono H2.out.size)
    have hbA' := hbA.alloc hbA.size (.cells #[.slice a8 n8 m8, .int .i64 n1] 27)
    obtain ⟨g0, g1, g2, g3, _⟩ := R1H.out _ hbA'
    simp only [Nat.one_mul] at g0 g1 g2 g3
    obtain ⟨q0, q1, q2, q3⟩ := c4_of (heap_kept (one_below w2 (.cells #[.slice a8 n8 m8, .int .i64 n1] 27)) (heap_kept hb1 HK2.out.1))
    have HB1 := Lib.hid B1
    have HN1 := Lib.hid hn1
    clear B1 hn1
    go_wp2_with fail
    refine (c2 _ hbA').mono ?_
    rintro e w3 ⟨v2, rfl, hb2, B2, hn2⟩
    obtain ⟨a9, n9, m9, rfl⟩ := B2.isSlice
    have hz2 := heap_alloc_new w2 (.cells #[.slice a8 n8 m8, .int .i64 n1] 27)
    have hz3 := heap_kept (one_below w3 (.cells #[.slice a9 n9 m9, .int .i64 n2] 27)) (heap_kept hb2 hz2)
    obtain ⟨t0, t1, _, _⟩ := cells2_of hz3
    have hzr := heap_kept (one_below w3 (.cells #[.slice a9 n9 m9, .int .i64 n2] 27)) (heap_kept hb2 (heap_kept (one_below w2 (.cells #[.slice a8 n8 m8, .int .i64 n1] 27)) (heap_kept hb1 HK2.out.2)))
    obtain ⟨y0, y1, f0, f1⟩ := cells2_of hzr
    have hbB := hbA'.trans (hb2.mono hbA'.size)
    have HB2 := Lib.hid B2
    have HN2 := Lib.hid hn2
    have HZ3 := Lib.hid hz3
    have HZR := Lib.hid hzr
    clear B2 hn2 hz3 hzr hz2
  · go_wp2
    have hz := set2_at HZR.out (.slice none 0 0) (.int .i64 0)
    obtain ⟨z0, z1, _, _⟩ := cells2_of hz
    refine bodyPost_ret (v := .tuple #[.agg #[.slice none 0 0, .int .i64 0], .bool false]) (by simp [results, Try.results84, go_sem, z0, z1]) rfl ?_
    exact ⟨_, rfl, ((hbB.alloc hbB.size _).setCell (by simp) _).setCell (by simp) _, Sp.Built.nil _ _ _ _, fun _ => rfl⟩
  · go_wp2
    have hz := set2_at HZR.out (.slice none 0 0) (.int .i64 0)
    obtain ⟨z0, z1, _, _⟩ := cells2_of hz
    refine bodyPost_ret (v := .tuple #[.agg #[.slice none 0 0, .int .i64 0], .bool false]) (by simp [results, Try.results84, go_sem, z0, z1]) rfl ?_
    exact ⟨_, rfl, ((hbB.alloc hbB.size _).setCell (by simp) _).setCell (by simp) _, Sp.Built.nil _ _ _ _, fun _ => rfl⟩
  · go_wp2
    have hz := set2_at HZR.out (.slice none 0 0) (.int .i64 0)
    obtain ⟨z0, z1, _, _⟩ := cells2_of hz
    refine bodyPost_ret (v := .tuple #[.agg #[.slice none 0 0, .int .i64 0], .bool false]) (by simp [results, Try.results84, go_sem, z0, z1]) rfl ?_
    exact ⟨_, rfl, ((hbB.alloc hbB.size _).setCell (by simp) _).setCell (by simp) _, Sp.Built.nil _ _ _ _, fun _ => rfl⟩
  · have hfx := HFA.out (.mk n1 l1) (by simpa using HE5.out)
    have hfy := HFB.out (.mk n2 l2) (by simpa using HE6.out)
    have hsz := HSZ.out
    have hbC := hbB.alloc hbB.size (.cells #[.slice a9 n9 m9, .int .i64 n2] 27)
    have hY : Below w3.heap.size w3 ((w3.alloc (.cells #[.slice a9 n9 m9, .int .i64 n2] 27)).alloc (.cells #[.slice a8 n8 m8, .int .i64 n1] 27)) := two_below _ _ _
    have hYk := two_blocks w3 #[.slice a9 n9 m9, .int .i64 n2] #[.slice a8 n8 m8, .int .i64 n1] 27 27
    have s1 := H2.out.size
    have s2 := hb1.size
    have s3 := hb2.size
    simp at s2 s3
    have hown := HB2.out.lt
    have hlY : Sp.Lies ((w3.alloc (.cells #[.slice a9 n9 m9, .int .i64 n2] 27)).alloc (.cells #[.slice a8 n8 m8, .int .i64 n1] 27)) (fun b => (w.heap.size + 1 + 1 ≤ b ∧ b ≠ w3.heap.size) ∧ (Value.slice a9 n9 m9).ownBlock ≠ some b) (.slice a8 n8 m8) l1 := by
      have h1 := (HB1.out.lies (fun b h _ => h)).more (S' := fun b => w.heap.size + 1 + 1 ≤ b ∧ b < w2.heap.size) fun b hlt hS => ⟨by simp at hS; omega, hlt⟩
      exact (((h1.keep (one_below _ _)).keep hb2).keep hY).more fun b _ hS => ⟨⟨hS.1, by omega⟩, fun e => by have := (hown b e).1; simp at this; omega⟩
    have hszl : l2.length ≤ 1000000 := by
      have h1 := hfy.2.2
      have h2 := Sp.Tm.length_le_szL l2
      simp only [Sp.Tm.sz] at h1
      omega
    have c3 := insert_all (w.heap.size + 1 + 1) (fun b => w.heap.size + 1 + 1 ≤ b ∧ b ≠ w3.heap.size) (.slice a9 n9 m9) l2 (.mk n1 l1) (.slice a8 n8 m8) (w3.heap.size + 1) _ ((HB2.out.low (base' := w.heap.size + 1 + 1) (by simp; omega) (S' := fun b => w.heap.size + 1 + 1 ≤ b ∧ b ≠ w3.heap.size) (fun b hlt hS => by simp at hS; omega)).below hY) HN2.out hszl (by simp; omega) hlY ⟨by have := hfx.1; omega, by have := hfx.2.1; omega⟩ hYk.2 (fun e => by have := (hown _ e).2; omega)
    unfold Sp.GivesIns at c3
    have hYr := (hY.block (w.heap.size + 1) (by omega)).trans ((hb2.block (w.heap.size + 1) (by simp; omega)).trans (((one_below w2 (.cells #[.slice a8 n8 m8, .int .i64 n1] 27)).block (w.heap.size + 1) (by omega)).trans ((hb1.block (w.heap.size + 1) (by simp)).trans HK2.out.2)))
    have HY1 := Lib.hid hYk.1
    have HYR := Lib.hid hYr
    have HOW := Lib.hid hown
    clear hYk hYr hown hlY hszl hfx hfy hsz
    go_wp2_with fail
    refine c3.mono ?_
    rintro e w5 ⟨v5, rfl, B5, hg5, ho5⟩
    have hx5 : w5.heap[w3.heap.size]? = _ := (hg5.block w3.heap.size (by simp; omega) (fun e => by have := (HOW.out _ e.symm).2; omega)).trans HY1.out
    have hr5 : w5.heap[w.heap.size + 1]? = _ := (hg5.block (w.heap.size + 1) (by simp; omega) (fun e => by have := (HOW.out _ e.symm).1; simp at this; omega)).trans HYR.out
    obtain ⟨x0, x1, xf0, xf1⟩ := cells2_of hx5
    obtain ⟨y0', y1', yf0, yf1⟩ := cells2_of hr5
    obtain ⟨a5, n5, m5, rfl⟩ := B5.isSlice
    have hne5 : ∀ k, (Value.slice a5 n5 m5).ownBlock = some k → k ≠ w3.heap.size := fun k hk => by
      rcases ho5 with h | ⟨g, hg, hl⟩
      · rw [h] at hk; have := (HOW.out k hk).2; omega
      · rw [hg] at hk; simp at hk; simp at hl; omega
    have HR5 := Lib.hid hr5
    have HB5 := Lib.hid B5
    have HG5 := Lib.hid hg5
    have HYB := Lib.hid (hbB.trans (hY.mono (by omega)))
    have HN5 := Lib.hid hne5
    clear hr5 hx5 B5 hg5 ho5 hne5
    go_wp2
    have hr6 := set2_at ((Below.heap_setCell w5 ⟨w3.heap.size, 0, none⟩ (.slice a5 n5 m5) (w.heap.size + 1) (by simp; omega)).trans HR5.out) (.slice a5 n5 m5) (.int .i64 n2)
    obtain ⟨z0, z1, _, _⟩ := cells2_of hr6
    refine bodyPost_ret (v := .tuple #[.agg #[.slice a5 n5 m5, .int .i64 n2], .bool true]) (by simp [results, Try.results84, go_sem, z0, z1]) rfl ?_
    have hb5 : Below w.heap.size w w5 := HYB.out.grown HG5.out (by simp; omega) (fun k hk => by have := (HOW.out k hk).1; simp at this; omega)
    refine ⟨_, rfl, ((hb5.setCell (by simp; omega) _).setCell (by simp) _).setCell (by simp) _, ?_, fun h => by simp [spOf, Sp.Tm.args] at h⟩
    have hlt5 := HB5.out.lt
    refine (HB5.out.keep fun b hb _ => ?_).low (by omega) (fun b _ hS => by have := hS.1; simp; omega)
    have h1 : b ≠ w3.heap.size ∧ b ≠ w.heap.size + 1 := by
      rcases hb with hb | hb
      · exact ⟨hb.2, by have := hb.1; omega⟩
      · exact ⟨HN5.out b hb, by have := (hlt5 b hb).1; omega⟩
    rw [Below.heap_setCell _ _ _ _ (by simp; omega), Below.heap_setCell _ _ _ _ (by simp; omega), Below.heap_setCell _ _ _ _ (by simp; omega)]

theorem simT_calls (S : Nat → Prop) : ∀ (f : Nat) (o h n : Int) (v : Value) (l : List Tm) (w : World) (d : Nat), Tm.sz (.mk o h n l) ≤ f → Tm.sz (.mk o h n l) ≤ 600 → Lies w S v l → Tm.formed (.mk o h n l) d = true →
      Calls Try.prog 84 #[.agg #[.int .i64 o, .int .i64 h, .int .i64 n, v]] w (GivesB w (Tm.simp (.mk o h n l)))
  | 0, o, h, n, _, l, _, _, hf, _, _, _ => by have := Tm.sz_pos (.mk o h n l); omega
  | f + 1, o, h, n, v, l, w, d, hf, h6, hv, hw => by
    by_cases ho : o = 2
    · subst ho
      exact simT_walk S f (simT_calls S f) h n v l w d hf h6 hv hw
    · have e2 : (o == 2) = false := by simpa using ho
      by_cases hh : h = 2
      · subst hh
        rw [Tm.simp_con o n l ho]
        exact simT_con o n v l w S hv e2
      · rw [Tm.simp_no o h n l ho hh]
        exact simT_no o h n v l w S hv e2 (by simpa using hh)
end Go.Proofs.Ytieakippgeehgaa

namespace Go.Proofs.Ytieakippgeehgaa
open Go.RowKit
set_option linter.unusedSimpArgs false
set_option linter.unusedVariables false

set_option maxHeartbeats 4000000 in
set_option maxRecDepth 100000 in
theorem simR_walk (S : Nat → Prop) (f : Nat) (ih : ∀ (o h n : Int) (v : Value) (l : List Tm) (w : World) (d : Nat), Tm.sz (.mk o h n l) ≤ f → Tm.sz (.mk o h n l) ≤ 600 → Lies w S v l → Tm.formed (.mk o h n l) d = true →
      Calls Try.prog 85 #[.agg #[.int .i64 o, .int .i64 h, .int .i64 n, v]] w (GivesS w (Tm.simp (.mk o h n l))))
    (h n : Int) (v : Value) (l : List Tm) (w : World) (d : Nat) (hf : Tm.sz (.mk 2 h n l) ≤ f + 1) (h6 : Tm.sz (.mk 2 h n l) ≤ 600) (hv : Lies w S v l) (hw : Tm.formed (.mk 2 h n l) d = true) :
    Calls Try.prog 85 #[.agg #[.int .i64 2, .int .i64 h, .int .i64 n, v]] w (GivesS w (Tm.simp (.mk 2 h n l))) := by
  obtain ⟨a, b, rfl, ha, hb⟩ := Tm.formed_pi hw
  rw [Tm.simp_pi]
  obtain ⟨i0, hi0, hzz0, hz1, hz2⟩ := info_parts Sp.sm_info
  have HI0 := Lib.hid hi0
  have HZ0 := Lib.hid hzz0
  clear hi0 hzz0
  obtain ⟨ad, bb, off, len, cap, oo, hh, kk, sv, tt, rfl, R⟩ := hv.open
  obtain rfl : 2 = len := R.length
  obtain rfl := R.hao (by omega)
  have ea : a = .mk (oo 0) (hh 0) (kk 0) (tt 0) := R.get 0 (by omega)
  have eb : b = .mk (oo 1) (hh 1) (kk 1) (tt 1) := R.get 1 (by omega)
  have h2 := two_below w (.cells #[.int .i64 2, .int .i64 h, .int .i64 n, .slice (some ⟨bb, off, none⟩) 2 cap] 24) (.cells #[.slice none 0 0, .int .i64 0] 27)
  have hk2 := two_blocks w #[.int .i64 2, .int .i64 h, .int .i64 n, .slice (some ⟨bb, off, none⟩) 2 cap] #[.slice none 0 0, .int .i64 0] 24 27
  have hsza : Tm.sz a ≤ f ∧ Tm.sz a ≤ 600 := by simp only [Tm.sz, Tm.szL] at hf h6; omega
  have hszb : Tm.sz b ≤ f ∧ Tm.sz b ≤ 600 := by simp only [Tm.sz, Tm.szL] at hf h6; omega
  obtain ⟨d0, d1, d2, d3, hs0⟩ := R.at h2 0 (by omega)
  simp only [Nat.zero_mul, Nat.add_zero] at d0 d1 d2 d3
  obtain ⟨a6, n6, m6, hsv0⟩ := hs0.isSlice
  rw [hsv0] at d3 hs0
  have c1 := fun w1 hb1 => ih (oo 0) (hh 0) (kk 0) _ (tt 0) w1 (d + 1) (by rw [← ea]; exact hsza.1) (by rw [← ea]; exact hsza.2) (hs0.keep (w' := w1) hb1) (by rw [← ea]; exact ha)
  rw [← ea] at c1
  obtain ⟨a7, n7, m7, hsv1⟩ := (R.sub 1 (by omega)).isSlice
  have c2 := fun w1 hb1 => ih (oo 1) (hh 1) (kk 1) _ (tt 1) w1 (d + 1) (by rw [← eb]; exact hszb.1) (by rw [← eb]; exact hszb.2) ((R.sub 1 (by omega)).keep (w' := w1) hb1) (by rw [← eb]; exact hb)
  rw [← eb, hsv1] at c2
  have R1 := fun w1 hb1 => R.at (wr := w1) hb1 1 (by omega)
  rw [hsv1] at R1
  have hfa := fun s hs => Tm.simp_fit a (d + 1) ha s hs
  have hfb := fun s hs => Tm.simp_fit b (d + 1) hb s hs
  obtain ⟨n1, n2, l1, l2, k1, k2, e1, e2, e3, e4, e5, e6, e7⟩ := simp_two a b
  rw [e7]
  unfold GivesS at c1 c2
  simp only [e1, e2, e3, e4, Sp.Tm.n, Sp.Tm.args] at c1 c2
  have R1H := Lib.hid R1
  have H2 := Lib.hid h2
  have HK2 := Lib.hid hk2
  have HSZ := Lib.hid (And.intro hsza.2 hszb.2)
  have HFA := Lib.hid hfa
  have HFB := Lib.hid hfb
  have HE5 := Lib.hid e5
  have HE6 := Lib.hid e6
  clear R1 h2 hk2 ea eb ha hb hsza hszb hs0 hsv0 hsv1 R hv ih hf h6 hw e1 e2 e3 e4 e5 e6 e7 hfa hfb
  cases k1 <;> cases k2
  all_goals
    go_enter Try.func85, Try.ntmps85
    go_wp2_with fail
    refine (c1 _ (Below.refl _ _)).mono ?_
    rintro e w2 ⟨v1, rfl, hb1, B1⟩
    obtain ⟨a8, n8, m8, rfl⟩ := B1.isSlice
    have hbA := H2.out.trans (hb1.mono H2.out.size)
    have hbA' := hbA.alloc hbA.size (.cells #[.slice a8 n8 m8, .int .i64 n1] 27)
    obtain ⟨g0, g1, g2, g3, _⟩ := R1H.out _ hbA'
    simp only [Nat.one_mul] at g0 g1 g2 g3
    obtain ⟨q0, q1, q2, q3⟩ := c4_of (heap_kept (one_below w2 (.cells #[.slice a8 n8 m8, .int .i64 n1] 27)) (heap_kept hb1 HK2.out.1))
    have HB1 := Lib.hid B1
    clear B1
    go_wp2_with fail
    refine (c2 _ hbA').mono ?_
    rintro e w3 ⟨v2, rfl, hb2, B2⟩
    obtain ⟨a9, n9, m9, rfl⟩ := B2.isSlice
    have hz2 := heap_alloc_new w2 (.cells #[.slice a8 n8 m8, .int .i64 n1] 27)
    have hz3 := heap_kept (one_below w3 (.cells #[.slice a9 n9 m9, .int .i64 n2] 27)) (heap_kept hb2 hz2)
    obtain ⟨t0, t1, _, _⟩ := cells2_of hz3
    have hzr := heap_kept (one_below w3 (.cells #[.slice a9 n9 m9, .int .i64 n2] 27)) (heap_kept hb2 (heap_kept (one_below w2 (.cells #[.slice a8 n8 m8, .int .i64 n1] 27)) (heap_kept hb1 HK2.out.2)))
    obtain ⟨y0, y1, f0, f1⟩ := cells2_of hzr
    have hbB := hbA'.trans (hb2.mono hbA'.size)
    have HB2 := Lib.hid B2
    have HZ3 := Lib.hid hz3
    have HZR := Lib.hid hzr
    clear B2 hz3 hzr hz2
  · go_wp2
    have hz := set2_at HZR.out (.slice none 0 0) (.int .i64 0)
    obtain ⟨z0, z1, _, _⟩ := cells2_of hz
    refine bodyPost_ret (v := .tuple #[.agg #[.slice none 0 0, .int .i64 0], .bool false]) (by simp [results, Try.results85, go_sem, z0, z1]) rfl ?_
    exact ⟨_, rfl, ((hbB.alloc hbB.size _).setCell (by simp) _).setCell (by simp) _, Sp.Lies.nil _ _⟩
  · go_wp2
    have hz := set2_at HZR.out (.slice none 0 0) (.int .i64 0)
    obtain ⟨z0, z1, _, _⟩ := cells2_of hz
    refine bodyPost_ret (v := .tuple #[.agg #[.slice none 0 0, .int .i64 0], .bool false]) (by simp [results, Try.results85, go_sem, z0, z1]) rfl ?_
    exact ⟨_, rfl, ((hbB.alloc hbB.size _).setCell (by simp) _).setCell (by simp) _, Sp.Lies.nil _ _⟩
  · go_wp2
    have hz := set2_at HZR.out (.slice none 0 0) (.int .i64 0)
    obtain ⟨z0, z1, _, _⟩ := cells2_of hz
    refine bodyPost_ret (v := .tuple #[.agg #[.slice none 0 0, .int .i64 0], .bool false]) (by simp [results, Try.results85, go_sem, z0, z1]) rfl ?_
    exact ⟨_, rfl, ((hbB.alloc hbB.size _).setCell (by simp) _).setCell (by simp) _, Sp.Lies.nil _ _⟩
  · have hfx := HFA.out (.mk n1 l1) (by simpa using HE5.out)
    have hfy := HFB.out (.mk n2 l2) (by simpa using HE6.out)
    have hsz := HSZ.out
    have hY : Below w3.heap.size w3 ((w3.alloc (.cells #[.slice a9 n9 m9, .int .i64 n2] 27)).alloc (.cells #[.slice a8 n8 m8, .int .i64 n1] 27)) := two_below _ _ _
    have hYk := two_blocks w3 #[.slice a9 n9 m9, .int .i64 n2] #[.slice a8 n8 m8, .int .i64 n1] 27 27
    have s1 := H2.out.size
    have s2 := hb1.size
    have s3 := hb2.size
    simp at s2 s3
    obtain ⟨ao, b9, off9, len9, cap9, kk9, sv9, ts9, hed, R9⟩ := HB2.out.open
    simp only [Value.slice.injEq] at hed
    obtain ⟨rfl, rfl, rfl⟩ := hed
    have hlen9 := R9.length
    have h1' : Sp.Lies w2 (fun b => w.heap.size + 1 + 1 ≤ b ∧ b < w2.heap.size) (.slice a8 n8 m8) l1 := HB1.out.more fun b hlt hS => ⟨by simp at hS; omega, hlt⟩
    have hlY := ((h1'.keep (one_below _ (.cells #[.slice a8 n8 m8, .int .i64 n1] 27))).keep hb2).keep hY
    have hrow1 : World.ownsRow ((w3.alloc (.cells #[.slice a9 n9 m9, .int .i64 n2] 27)).alloc (.cells #[.slice a8 n8 m8, .int .i64 n1] 27)) (w.heap.size + 1 + 1) 27 2 (.slice (some ⟨w3.heap.size + 1, 0, none⟩) 1 1) 1 [.slice a8 n8 m8, .int .i64 n1] :=
      ⟨rfl, .inr ⟨w3.heap.size + 1, 1, _, rfl, by omega, hYk.2, Nat.le_refl _, by unfold maxLen; omega, rfl, rfl⟩⟩
    have hnews := R9.news hY
    have hszl : n9 ≤ 1000000 := by
      have h1 := hfy.2.2
      have h2 := Sp.Tm.length_le_szL l2
      simp only [Sp.Tm.sz] at h1
      omega
    have HR9 := Lib.hid R9
    have HROW := Lib.hid hrow1
    have HNEWS := Lib.hid hnews
    have HONE := Lib.hid R9.one
    have HLY := Lib.hid hlY
    have HFX := Lib.hid hfx
    have HL9 := Lib.hid hlen9
    have HYR := Lib.hid ((hY.block (w.heap.size + 1) (by omega)).trans ((hb2.block (w.heap.size + 1) (by simp; omega)).trans (((one_below w2 (.cells #[.slice a8 n8 m8, .int .i64 n1] 27)).block (w.heap.size + 1) (by omega)).trans ((hb1.block (w.heap.size + 1) (by simp)).trans HK2.out.2))))
    have HY1 := Lib.hid hYk.1
    have HAO : Hid (a9 = none → n9 = 0) := Lib.hid fun e => by
      rcases Nat.eq_zero_or_pos n9 with h | h
      · exact h
      · have := R9.hao h; rw [e] at this; cases this
    have HLF : Hid ((Sp.flat l2 ((List.range n9).map sv9)).length = n9 * 2) := Lib.hid (by rw [Sp.flat_length _ _ (by simp [hlen9]), hlen9])
    clear R9 hnews hlY h1' hYk hrow1 hfx hfy hsz hlen9
    go_wp2_with (at_builtin; go_loud (refine wpList_append_any (by rfl) _ _ _ (by rfl) (w.heap.size + 1 + 1) 27 i0 _ 2 32 Sp.il_underlying HI0.out HZ0.out hz1 hz2 rfl (by omega) (w3.heap.size + 1) 1 1 [.slice a8 n8 m8, .int .i64 n1] (by rfl) HROW.out a9 n9 m9 (Sp.flat l2 ((List.range n9).map sv9)) (by rfl) HLF.out HAO.out HNEWS.out HONE.out (by unfold maxLen; omega) (by omega) (by simp; omega) ?_; intro g5 cap5 w5 hown5 hgrow5 hat5 hlt5; have hx5 : w5.heap[w3.heap.size]? = _ := (hgrow5.block w3.heap.size (by simp; omega) (by simp)).trans HY1.out; have hr5 : w5.heap[w.heap.size + 1]? = _ := (hgrow5.block (w.heap.size + 1) (by simp; omega) (by simp; omega)).trans HYR.out; obtain ⟨x0, x1, xf0, xf1⟩ := cells2_of hx5; obtain ⟨y0', y1', yf0, yf1⟩ := cells2_of hr5))
    have HR5 := Lib.hid hr5
    have hr6 := set2_at HR5.out (.slice (some ⟨g5, 0, none⟩) (1 + n9) cap5) (.int .i64 n2)
    obtain ⟨z0, z1, _, _⟩ := cells2_of hr6
    have hb5 : Below w.heap.size w w5 := (hbB.trans (hY.mono (by omega))).grown hgrow5 (by simp; omega) (fun k hk => by simp at hk; omega)
    refine bodyPost_ret (v := .tuple #[.agg #[.slice (some ⟨g5, 0, none⟩) (1 + n9) cap5, .int .i64 n2], .bool true]) (by simp [results, Try.results85, go_sem, z0, z1]) rfl ?_
    have hL9 := HL9.out
    have hB : Sp.Built w5 (w.heap.size + 1 + 1) (w.heap.size + 1 + 1 ≤ ·) 27 (.slice (some ⟨g5, 0, none⟩) (1 + n9) cap5) (.mk n1 l1 :: l2) := by
      refine Sp.Built.of (w := (w3.alloc (.cells #[.slice a9 n9 m9, .int .i64 n2] 27)).alloc (.cells #[.slice a8 n8 m8, .int .i64 n1] 27)) (v := .slice (some ⟨w3.heap.size + 1, 0, none⟩) 1 1) (vs := .slice a8 n8 m8 :: (List.range n9).map sv9) (by simp [hL9]; omega) (by simp [hL9]) (fun i h h' => ?_) (fun t ht => ?_) (by simpa [Sp.flat, Sp.Tm.n] using hown5) (fun k hk hne => hgrow5.block k hk (by simpa [Value.ownBlock] using hne)) (by rcases hat5 with h | h; exact .inl (by simp [Value.ownBlock, h]); exact .inr (by omega))
      · cases i with
        | zero => exact HLY.out.more fun b _ hS => ⟨hS.1, by simp [Value.ownBlock]; omega⟩
        | succ i =>
          have hi : i < n9 := by simp at h'; exact h'
          have := ((HR9.out.subs (Below.refl _ _) i (by omega) (by simpa using hi)).more (S' := fun b => w.heap.size + 1 + 1 ≤ b ∧ b < w3.heap.size) (fun b hlt hS => ⟨by simp at hS; omega, hlt⟩)).keep hY
          exact this.more fun b hlt hS => ⟨hS.1, by simp [Value.ownBlock]; omega⟩
      · rcases List.mem_cons.1 ht with rfl | ht
        · exact ⟨by have := HFX.out.1; omega, by have := HFX.out.2.1; omega⟩
        · exact HR9.out.fits t ht
    refine ⟨_, rfl, (hb5.setCell (by simp) _).setCell (by simp) _, ?_⟩
    exact ((hB.keep fun b hb _ => heap_set2 _ _ _ _ (by rcases hb with h | h; omega; have := (hB.lt b h).1; omega)).low (Nat.le_refl _) (S' := (w.heap.size ≤ ·)) (fun b _ h => by omega)).lies (fun b h _ => by omega)

theorem simR_calls (S : Nat → Prop) : ∀ (f : Nat) (o h n : Int) (v : Value) (l : List Tm) (w : World) (d : Nat), Tm.sz (.mk o h n l) ≤ f → Tm.sz (.mk o h n l) ≤ 600 → Lies w S v l → Tm.formed (.mk o h n l) d = true →
      Calls Try.prog 85 #[.agg #[.int .i64 o, .int .i64 h, .int .i64 n, v]] w (GivesS w (Tm.simp (.mk o h n l)))
  | 0, o, h, n, _, l, _, _, hf, _, _, _ => by have := Tm.sz_pos (.mk o h n l); omega
  | f + 1, o, h, n, v, l, w, d, hf, h6, hv, hw => by
    by_cases ho : o = 2
    · subst ho
      exact simR_walk S f (simR_calls S f) h n v l w d hf h6 hv hw
    · have e2 : (o == 2) = false := by simpa using ho
      have hh := hw
      simp only [Tm.formed, Bool.and_eq_true, decide_eq_true_eq] at hh
      have hh' := Tm.headOk_yes _ _ _ _ hh.1.2
      by_cases h2 : h = 2
      · subst h2
        rw [Tm.simp_con o n l ho]
        exact simR_con o n v l w S hv (by omega)
      · rw [Tm.simp_no o h n l ho h2]
        refine simR_no o h n v l w S hv e2 ?_
        by_cases h4 : o = 4
        · exact .inr ⟨h4, by simpa using h2⟩
        · exact .inl (by simpa using h4)

/-- R.Simple of a proper term: its simple type, or none. -/
theorem simR_any (S : Nat → Prop) (o h n : Int) (v : Value) (l : List Tm) (w : World) (hv : Lies w S v l) (hp : Tm.proper (.mk o h n l) = true) :
    Calls Try.prog 85 #[.agg #[.int .i64 o, .int .i64 h, .int .i64 n, v]] w (GivesS w (Tm.simp (.mk o h n l))) := by
  simp only [Tm.proper, Bool.and_eq_true, decide_eq_true_eq] at hp
  exact simR_calls S _ o h n v l w 1 (Nat.le_refl _) hp.1 hv hp.2

/-- what term.Simple returns -/
def simpleOut (t : Tm) : Sp.Tm × Int := if Tm.proper t then (match Tm.simp t with | some s => (s, 0) | none => (.mk 0 [], 22)) else (.mk 0 [], 2)
/-- a simple type in new memory, and an error -/
def GivesSE (w : World) (x : Sp.Tm × Int) (e : Ending) (w' : World) : Prop :=
  ∃ v, e = .returned (.tuple #[.agg #[v, .int .i64 x.1.n], .int .i64 x.2]) ∧ Below w.heap.size w w' ∧ Sp.Lies w' (w.heap.size ≤ ·) v x.1.args

set_option maxHeartbeats 2000000 in
set_option maxRecDepth 100000 in
theorem simple_any (o h n : Int) (v : Value) (l : List Tm) (w : World) (hv : Lies w (fun _ => True) v l) :
    Calls Try.prog 62 #[.agg #[.int .i64 o, .int .i64 h, .int .i64 n, v]] w (GivesSE w (simpleOut (.mk o h n l))) := by
  obtain ⟨a2, n2, m2, rfl⟩ := hv.isSlice
  have h2 := two_below w (.cells #[.int .i64 o, .int .i64 h, .int .i64 n, .slice a2 n2 m2] 24) (.cells #[.slice none 0 0, .int .i64 0] 27)
  have hk2 := Lib.hid (two_blocks w #[.int .i64 o, .int .i64 h, .int .i64 n, .slice a2 n2 m2] #[.slice none 0 0, .int .i64 0] 24 27)
  have c1 := isProper_any o h n _ l _ (hv.keep h2)
  have HV := Lib.hid (hv.keep h2)
  have H2 := Lib.hid h2
  unfold simpleOut
  rcases hp : Tm.proper (.mk o h n l) with _ | _
  · rw [hp] at c1
    simp only [if_false, Bool.false_eq_true]
    clear h2 hv hp
    go_enter Try.func62, Try.ntmps62
    go_wp2_with (go_at_call 83; (with_reducible refine c1.mono ?_); rintro e w1 ⟨rfl, hb1⟩; have hr := heap_kept hb1 hk2.out.2; obtain ⟨y0, y1, f0, f1⟩ := cells2_of hr)
    have hz := set2_at hr (.slice none 0 0) (.int .i64 0)
    obtain ⟨z0, z1, _, _⟩ := cells2_of hz
    refine bodyPost_ret (v := .tuple #[.agg #[.slice none 0 0, .int .i64 0], .int .i64 2]) (by simp [results, Try.results62, go_sem, z0, z1]) rfl ?_
    have B2 := H2.out.trans (hb1.mono H2.out.size)
    exact ⟨_, rfl, (B2.setCell (by simp) _).setCell (by simp) _, Sp.Lies.nil _ _⟩
  · rw [hp] at c1
    simp only [if_true]
    have hpr := hp
    simp only [Tm.proper, Bool.and_eq_true, decide_eq_true_eq] at hpr
    have c2 := fun w1 hb => simT_calls (fun _ => True) _ o h n _ l w1 1 (Nat.le_refl _) hpr.1 (HV.out.keep (w' := w1) hb) hpr.2
    unfold GivesB at c2
    clear h2 hv hp hpr
    rcases hs : Tm.simp (.mk o h n l) with _ | ⟨sn, sl⟩
    all_goals
      rw [hs] at c2
      simp only [spOf, Option.isSome, Sp.Tm.n, Sp.Tm.args] at c2
      clear hs
      go_enter Try.func62, Try.ntmps62
      go_wp2_with fail
      refine c1.mono ?_
      rintro e w1 ⟨rfl, hb1⟩
      obtain ⟨q0, q1, q2, q3⟩ := c4_of (heap_kept hb1 hk2.out.1)
      go_wp2_with fail
      refine (c2 _ hb1).mono ?_
      rintro e w2 ⟨v2, rfl, hb2, B2, -⟩
      obtain ⟨a8, n8, m8, rfl⟩ := B2.isSlice
      have HL := Lib.hid (B2.lies (fun _ h _ => h))
      clear B2
    · have hr := heap_kept (one_below w2 (.cells #[.slice a8 n8 m8, .int .i64 0] 27)) (heap_kept hb2 (heap_kept hb1 hk2.out.2))
      obtain ⟨y0, y1, f0, f1⟩ := cells2_of hr
      have B1 := H2.out.trans (hb1.mono H2.out.size)
      have B2 := B1.trans (hb2.mono B1.size)
      go_wp2
      have hz := set2_at hr (.slice none 0 0) (.int .i64 0)
      obtain ⟨z0, z1, _, _⟩ := cells2_of hz
      refine bodyPost_ret (v := .tuple #[.agg #[.slice none 0 0, .int .i64 0], .int .i64 22]) (by simp [results, Try.results62, go_sem, z0, z1]) rfl ?_
      exact ⟨_, rfl, ((B2.alloc B2.size _).setCell (by simp) _).setCell (by simp) _, Sp.Lies.nil _ _⟩
    · have hr := heap_kept (one_below w2 (.cells #[.slice a8 n8 m8, .int .i64 sn] 27)) (heap_kept hb2 (heap_kept hb1 hk2.out.2))
      obtain ⟨y0, y1, f0, f1⟩ := cells2_of hr
      have B1 := H2.out.trans (hb1.mono H2.out.size)
      have B2 := B1.trans (hb2.mono B1.size)
      have s1 := hb1.size
      have s2 := hb2.size
      simp at s1
      go_wp2
      have hz := set2_at hr (.slice a8 n8 m8) (.int .i64 sn)
      obtain ⟨z0, z1, _, _⟩ := cells2_of hz
      refine bodyPost_ret (v := .tuple #[.agg #[.slice a8 n8 m8, .int .i64 sn], .int .i64 0]) (by simp [results, Try.results62, go_sem, z0, z1]) rfl ?_
      refine ⟨_, rfl, ((B2.alloc B2.size _).setCell (by simp) _).setCell (by simp) _, ?_⟩
      exact ((HL.out.keep (one_below _ _)).still fun b hS _ => heap_set2 _ _ _ _ (by omega)).more fun b _ hS => by omega
end Go.Proofs.Ytieakippgeehgaa
