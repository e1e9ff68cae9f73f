/- The contract of trussref03.Same: whether two terms that lie in memory are equal. -/
import Derived.Test.YtomahhdhnlfabaaProg
import Derived.Test.YtomahhdhnlfabaaTmSpec
import Derived.WalkKit
import Derived.WalkSpells
import Derived.WalkLawsBesides
import Derived.Lib.Hide
import Derived.StillTailTactics
import Derived.Outline
namespace Go.Proofs.Ytomahhdhnlfabaa
open Go.RowKit
set_option linter.unusedSimpArgs false
set_option linter.unusedVariables false

/-- the first k parts of both are the same (hidden from the walk) -/
def SameTo (k : Nat) (l m : List Tm) : Prop := Tm.sameL (l.take k) (m.take k) = true
theorem SameTo.zero (l m : List Tm) : SameTo 0 l m := by simp [SameTo, Tm.sameL]

theorem SameTo.step {len k : Nat} {g g' : Nat → Tm} (h : SameTo k ((List.range len).map g) ((List.range len).map g')) (hk : k < len) (e : Tm.same (g k) (g' k) = true) :
    SameTo (k + 1) ((List.range len).map g) ((List.range len).map g') := by
  unfold SameTo at *
  rw [List.take_succ_eq_append_getElem (by simpa using hk), List.take_succ_eq_append_getElem (by simpa using hk), Tm.sameL_snoc _ _ _ _ (by simp), h]
  simpa using e
theorem SameTo.all {k : Nat} {g g' : Nat → Tm} (h : SameTo k ((List.range k).map g) ((List.range k).map g')) : Tm.sameL ((List.range k).map g) ((List.range k).map g') = true := by
  unfold SameTo at h
  rwa [List.take_of_length_le (by simp), List.take_of_length_le (by simp)] at h
theorem SameTo.fail {len k : Nat} {g g' : Nat → Tm} (hk : k < len) (e : Tm.same (g k) (g' k) = false) : Tm.sameL ((List.range len).map g) ((List.range len).map g') = false :=
  Tm.sameL_false k _ _ (by simpa using hk) (by simpa using hk) (by simpa using e)
theorem size_part {f len k : Nat} {o h n : Int} {g : Nat → Tm} (hf : Tm.sz (.mk o h n ((List.range len).map g)) ≤ f + 1) (hk : k < len) : Tm.sz (g k) ≤ f := by
  have := Tm.szL_le_of_mem (l := (List.range len).map g) (t := g k) (List.mem_map.2 ⟨k, by simpa using hk, rfl⟩)
  simp only [Tm.sz] at hf
  omega

theorem ret_bool {a b : Bool} (h : a = b) : Ending.returned (.bool a) = .returned (.bool b) := by rw [h]

theorem two_boxes {w : World} {x y : Array Value} {t : TypeId} {wr : World} (hb : Below (w.heap.size + 2) ((w.alloc (.cells x t)).alloc (.cells y t)) wr) :
    (∀ i u, x[i]? = some u → wr.cell? ⟨w.heap.size, i, none⟩ = some u) ∧ (∀ i u, y[i]? = some u → wr.cell? ⟨w.heap.size + 1, i, none⟩ = some u) := by
  constructor
  · intro i u hu
    rw [hb.cell (by simp), World.cell?_alloc_past _ _ _ (by simp), World.cell?_alloc_at _ _ _ _ rfl]; exact hu
  · intro i u hu
    rw [hb.cell (by simp), World.cell?_alloc_at _ _ _ _ (by simp)]; exact hu

theorem two_below (w : World) (p q : Obj) : Below w.heap.size w ((w.alloc p).alloc q) :=
  ((Below.refl _ _).alloc (Nat.le_refl _) _).alloc (by simp) _

set_option maxHeartbeats 400000 in
set_option maxRecDepth 100000 in
theorem same_walk (S S' : Nat → Prop) (f : Nat) (ih : ∀ (o h n o' h' n' : Int) (v v' : Value) (l l' : List Tm) (w : World), Tm.sz (.mk o h n l) ≤ f → Lies w S v l → Lies w S' v' l' →
      Calls Try.prog 42 #[.agg #[.int .i64 o, .int .i64 h, .int .i64 n, v], .agg #[.int .i64 o', .int .i64 h', .int .i64 n', v']] w fun e w' => e = .returned (.bool (Tm.same (.mk o h n l) (.mk o' h' n' l'))) ∧ Below w.heap.size w w')
    (o h n o' h' n' : Int) (v v' : Value) (l l' : List Tm) (w : World) (hf : Tm.sz (.mk o h n l) ≤ f + 1) (hv : Lies w S v l) (hv' : Lies w S' v' l')
    (e1 : (o != o') = false) (e2 : (h != h') = false) (e3 : (n != n') = false) (e4 : l.length = l'.length) :
    Calls Try.prog 42 #[.agg #[.int .i64 o, .int .i64 h, .int .i64 n, v], .agg #[.int .i64 o', .int .i64 h', .int .i64 n', v']] w fun e w' => e = .returned (.bool (Tm.same (.mk o h n l) (.mk o' h' n' l'))) ∧ Below w.heap.size w w' := by
  have es : Tm.same (.mk o h n l) (.mk o' h' n' l') = Tm.sameL l l' := by
    simp only [bne_eq_false_iff_eq] at e1 e2 e3
    simp [Tm.same, e1, e2, e3, e4]
  have ES := Lib.hid es
  clear es
  cases hv with
  | row ao b off len cap oo hh kk sv ts hao hS hl hr c0 c1 c2 c3 r0 r1 r2 sub =>
  cases hv' with
  | row ao' b' off' len' cap' oo' hh' kk' sv' ts' hao' hS' hl' hr' c0' c1' c2' c3' r0' r1' r2' sub' =>
  have el : len = len' := by simpa using e4
  subst el
  go_enter Try.func42, Try.ntmps42
  go_wp2
  go_loopw [5] (fun i wr => ∃ k : Nat, k ≤ len ∧ i = .int .i64 k ∧ Below (w.heap.size + 2) ((w.alloc (.cells #[.int .i64 o, .int .i64 h, .int .i64 n, .slice ao len cap] 24)).alloc (.cells #[.int .i64 o', .int .i64 h', .int .i64 n', .slice ao' len cap'] 24)) wr ∧ SameTo k ((List.range len).map fun i => .mk (oo i) (hh i) (kk i) (ts i)) ((List.range len).map fun i => .mk (oo' i) (hh' i) (kk' i) (ts' i)))
    (fun i _ => len - (intOf i).toNat)
  case atStart => exact ⟨0, Nat.zero_le _, rfl, Below.refl _ _, SameTo.zero _ _⟩
  case round =>
    obtain ⟨k, hk, rfl, hb, hs⟩ := hrel
    obtain ⟨q, q'⟩ := two_boxes hb
    have hbw := (two_below w _ _).trans (hb.mono (by omega))
    by_cases hlt : k < len
    · obtain rfl := hao (by omega)
      obtain rfl := hao' (by omega)
      have g := fun {p : Addr} {u : Value} => kept_cell (hbw.mono (Nat.le_refl _)) (p := p) (u := u)
      have d0 := g (c0 k hlt)
      have d1 := g (c1 k hlt)
      have d2 := g (c2 k hlt)
      have d3 := g (c3 k hlt)
      have d0' := g (c0' k hlt)
      have d1' := g (c1' k hlt)
      have d2' := g (c2' k hlt)
      have d3' := g (c3' k hlt)
      clear g c0 c1 c2 c3 c0' c1' c2' c3' 
      have q3 := q 3 _ rfl
      have q3' := q' 3 _ rfl
      clear q q'
      have hsub := (sub k hlt).keep hbw
      have hsub' := (sub' k hlt).keep hbw
      clear sub sub'
      go_wp2
      go_still_tail 10, (by kernel_rfl)
      change wpList _ _ _ _ _ wr.drew
      have hsz : Tm.sz (.mk (oo k) (hh k) (kk k) (ts k)) ≤ f := size_part hf hlt
      rcases hr' : Tm.same (.mk (oo k) (hh k) (kk k) (ts k)) (.mk (oo' k) (hh' k) (kk' k) (ts' k)) with _ | _
      · have HR := Lib.hid (SameTo.fail (g := fun i => .mk (oo i) (hh i) (kk i) (ts i)) (g' := fun i => .mk (oo' i) (hh' i) (kk' i) (ts' i)) hlt hr')
        have call := ih (oo k) (hh k) (kk k) (oo' k) (hh' k) (kk' k) (sv k) (sv' k) (ts k) (ts' k) wr.drew hsz (hsub.keep (Below.refl _ _).drew) (hsub'.keep (Below.refl _ _).drew)
        rw [hr'] at call
        clear hr' hs
        go_wp2_with (go_at_call 42; refine call.mono ?_; rintro e w1 ⟨rfl, hb1⟩)
        go_ret
        exact ⟨ret_bool (a := false) (by rw [ES.out, HR.out]), hbw.trans (((Below.refl _ _).drew).trans (hb1.mono hbw.size))⟩
      · have HR := Lib.hid (hs.step hlt hr')
        have call := ih (oo k) (hh k) (kk k) (oo' k) (hh' k) (kk' k) (sv k) (sv' k) (ts k) (ts' k) wr.drew hsz (hsub.keep (Below.refl _ _).drew) (hsub'.keep (Below.refl _ _).drew)
        rw [hr'] at call
        clear hr' hs
        go_wp2_with (go_at_call 42; refine call.mono ?_; rintro e w1 ⟨rfl, hb1⟩)
        go_roundw
        case rel => exact ⟨k + 1, by omega, by go_num, hb.trans (((Below.refl _ _).drew).trans (hb1.mono (by have := hb.size; simpa using this))), HR.out⟩
        case measure => simp [intOf]; omega
    · obtain rfl : k = len := by omega
      have q3 := q 3 _ rfl
      clear q q'
      have HS := Lib.hid hs.all
      clear hs c0 c1 c2 c3 c0' c1' c2' c3' 
      go_wp2
      go_ret
      exact ⟨ret_bool (a := true) (by rw [ES.out, HS.out]), hbw⟩


set_option maxHeartbeats 400000 in
set_option maxRecDepth 100000 in
theorem same_head (S S' : Nat → Prop) (o h n o' h' n' : Int) (v v' : Value) (l l' : List Tm) (w : World) (hv : Lies w S v l) (hv' : Lies w S' v' l')
    (e : ((o != o') = true) ∨ ((o != o') = false ∧ (h != h') = true) ∨ ((o != o') = false ∧ (h != h') = false ∧ (n != n') = true) ∨ ((o != o') = false ∧ (h != h') = false ∧ (n != n') = false ∧ l.length ≠ l'.length)) :
    Calls Try.prog 42 #[.agg #[.int .i64 o, .int .i64 h, .int .i64 n, v], .agg #[.int .i64 o', .int .i64 h', .int .i64 n', v']] w fun e w' => e = .returned (.bool (Tm.same (.mk o h n l) (.mk o' h' n' l'))) ∧ Below w.heap.size w w' := by
  have es : Tm.same (.mk o h n l) (.mk o' h' n' l') = false := by
    simp only [bne_iff_ne, bne_eq_false_iff_eq] at e
    rcases e with e | ⟨e1, e⟩ | ⟨e1, e2, e⟩ | ⟨e1, e2, e3, e⟩ <;> simp [Tm.same, e]
  rw [es]
  clear es
  cases hv with
  | row ao b off len cap oo hh kk sv ts hao hS hl hr c0 c1 c2 c3 r0 r1 r2 sub =>
  cases hv' with
  | row ao' b' off' len' cap' oo' hh' kk' sv' ts' hao' hS' hl' hr' c0' c1' c2' c3' r0' r1' r2' sub' =>
  simp only [List.length_map, List.length_range] at e
  clear c0 c1 c2 c3 r0 r1 r2 sub c0' c1' c2' c3' r0' r1' r2' sub' hao hao'
  rcases e with e1 | ⟨e1, e2⟩ | ⟨e1, e2, e3⟩ | ⟨e1, e2, e3, e4⟩
  all_goals
    go_enter Try.func42, Try.ntmps42
    go_wp2
    go_ret
    exact ⟨rfl, two_below w _ _⟩

/-- Same answers whether two terms that lie in memory are equal; what was there stays. -/
theorem same_calls (S S' : Nat → Prop) : ∀ (f : Nat) (o h n o' h' n' : Int) (v v' : Value) (l l' : List Tm) (w : World), Tm.sz (.mk o h n l) ≤ f → Lies w S v l → Lies w S' v' l' →
    Calls Try.prog 42 #[.agg #[.int .i64 o, .int .i64 h, .int .i64 n, v], .agg #[.int .i64 o', .int .i64 h', .int .i64 n', v']] w fun e w' => e = .returned (.bool (Tm.same (.mk o h n l) (.mk o' h' n' l'))) ∧ Below w.heap.size w w'
  | 0, o, h, n, _, _, _, _, _, l, _, _, hf, _, _ => by have := Tm.sz_pos (.mk o h n l); omega
  | f + 1, o, h, n, o', h', n', v, v', l, l', w, hf, hv, hv' => by
    rcases e1 : (o != o') with _ | _
    · rcases e2 : (h != h') with _ | _
      · rcases e3 : (n != n') with _ | _
        · by_cases e4 : l.length = l'.length
          · exact same_walk S S' f (same_calls S S' f) o h n o' h' n' v v' l l' w hf hv hv' e1 e2 e3 e4
          · exact same_head S S' o h n o' h' n' v v' l l' w hv hv' (.inr (.inr (.inr ⟨e1, e2, e3, e4⟩)))
        · exact same_head S S' o h n o' h' n' v v' l l' w hv hv' (.inr (.inr (.inl ⟨e1, e2, e3⟩)))
      · exact same_head S S' o h n o' h' n' v v' l l' w hv hv' (.inr (.inl ⟨e1, e2⟩))
    · exact same_head S S' o h n o' h' n' v v' l l' w hv hv' (.inl e1)

theorem same_any (S S' : Nat → Prop) (o h n o' h' n' : Int) (v v' : Value) (l l' : List Tm) (w : World) (hv : Lies w S v l) (hv' : Lies w S' v' l') :
    Calls Try.prog 42 #[.agg #[.int .i64 o, .int .i64 h, .int .i64 n, v], .agg #[.int .i64 o', .int .i64 h', .int .i64 n', v']] w fun e w' => e = .returned (.bool (Tm.same (.mk o h n l) (.mk o' h' n' l'))) ∧ Below w.heap.size w w' :=
  same_calls S S' _ o h n o' h' n' v v' l l' w (Nat.le_refl _) hv hv'

end Go.Proofs.Ytomahhdhnlfabaa
