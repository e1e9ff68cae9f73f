/- The contract of trussref03.Same: whether two terms that lie in memory are equal. * The contracts of trussref03.nodes, formed, Proper, Depth, Size. * The contract of term.isNode. * The contract of the method measure. * The contract of trussref03.formed. * The contracts of term.isProper, Check and Size, and of the reference's Depth and Size. * An argument that is a term, or a list of terms, opened: what the row's reading says of it. -/
import Derived.Test.YteoheeddjddekaaProg
import Derived.Test.YteoheeddjddekaaTmGa
import Derived.WalkKit
import Derived.WalkSpells
import Derived.WalkLawsBesides
import Derived.Lib.Hide
import Derived.StillTailTactics
import Derived.Outline
import Derived.Deep.RegionHeld3
import Derived.BigQuiet
import Derived.Deep.QuietTactic
import Derived.ChangeArms
import Derived.DataReads
import Derived.KernelRfl
import Derived.OpenShut
import Derived.ProofKit
import Derived.Lib.SmallJoins
namespace Go.Proofs.Yteoheeddjddekaa
open Go.RowKit
set_option linter.unusedSimpArgs false
set_option linter.unusedVariables false

/-- the first k parts of both are the same (hidden from the walk) -/
def SameTo (k : Nat) (l m : List Tm) : Prop := Tm.sameL (l.take k) (m.take k) = true
theorem SameTo.zero (l m : List Tm) : SameTo 0 l m := by simp [SameTo, Tm.sameL]

theorem SameTo.step {len k : Nat} {g g' : Nat → Tm} (h : SameTo k ((List.range len).map g) ((List.range len).map g')) (hk : k < len) (e : Tm.same (g k) (g' k) = true) :
    SameTo (k + 1) ((List.range len).map g) ((List.range len).map g') := by
  unfold SameTo at *
  rw [List.take_succ_eq_append_getElem (by simpa using hk), List.take_succ_eq_append_getElem (by simpa using hk), Tm.sameL_snoc _ _ _ _ (by simp), h]
  simpa using e
theorem SameTo.all {k : Nat} {g g' : Nat → Tm} (h : SameTo k ((List.range k).map g) ((List.range k).map g')) : Tm.sameL ((List.range k).map g) ((List.range k).map g') = true := by
  unfold SameTo at h
  rwa [List.take_of_length_le (by simp), List.take_of_length_le (by simp)] at h
theorem SameTo.fail {len k : Nat} {g g' : Nat → Tm} (hk : k < len) (e : Tm.same (g k) (g' k) = false) : Tm.sameL ((List.range len).map g) ((List.range len).map g') = false :=
  Tm.sameL_false k _ _ (by simpa using hk) (by simpa using hk) (by simpa using e)
theorem size_part {f len k : Nat} {o h n : Int} {g : Nat → Tm} (hf : Tm.sz (.mk o h n ((List.range len).map g)) ≤ f + 1) (hk : k < len) : Tm.sz (g k) ≤ f := by
  have := Tm.szL_le_of_mem (l := (List.range len).map g) (t := g k) (List.mem_map.2 ⟨k, by simpa using hk, rfl⟩)
  simp only [Tm.sz] at hf
  omega

theorem ret_bool {a b : Bool} (h : a = b) : Ending.returned (.bool a) = .returned (.bool b) := by rw [h]

theorem two_boxes {w : World} {x y : Array Value} {t : TypeId} {wr : World} (hb : Below (w.heap.size + 2) ((w.alloc (.cells x t)).alloc (.cells y t)) wr) :
    (∀ i u, x[i]? = some u → wr.cell? ⟨w.heap.size, i, none⟩ = some u) ∧ (∀ i u, y[i]? = some u → wr.cell? ⟨w.heap.size + 1, i, none⟩ = some u) := by
  constructor
  · intro i u hu
    rw [hb.cell (by simp), World.cell?_alloc_past _ _ _ (by simp), World.cell?_alloc_at _ _ _ _ rfl]; exact hu
  · intro i u hu
    rw [hb.cell (by simp), World.cell?_alloc_at _ _ _ _ (by simp)]; exact hu

theorem two_below (w : World) (p q : Obj) : Below w.heap.size w ((w.alloc p).alloc q) :=
  ((Below.refl _ _).alloc (Nat.le_refl _) _).alloc (by simp) _

set_option maxHeartbeats 400000 in
set_option maxRecDepth 100000 in
theorem same_walk (S S' : Nat → Prop) (f : Nat) (ih : ∀ (o h n o' h' n' : Int) (v v' : Value) (l l' : List Tm) (w : World), Tm.sz (.mk o h n l) ≤ f → Lies w S v l → Lies w S' v' l' →
      Calls Try.prog 39 #[.agg #[.int .i64 o, .int .i64 h, .int .i64 n, v], .agg #[.int .i64 o', .int .i64 h', .int .i64 n', v']] w fun e w' => e = .returned (.bool (Tm.same (.mk o h n l) (.mk o' h' n' l'))) ∧ Below w.heap.size w w')
    (o h n o' h' n' : Int) (v v' : Value) (l l' : List Tm) (w : World) (hf : Tm.sz (.mk o h n l) ≤ f + 1) (hv : Lies w S v l) (hv' : Lies w S' v' l')
    (e1 : (o != o') = false) (e2 : (h != h') = false) (e3 : (n != n') = false) (e4 : l.length = l'.length) :
    Calls Try.prog 39 #[.agg #[.int .i64 o, .int .i64 h, .int .i64 n, v], .agg #[.int .i64 o', .int .i64 h', .int .i64 n', v']] w fun e w' => e = .returned (.bool (Tm.same (.mk o h n l) (.mk o' h' n' l'))) ∧ Below w.heap.size w w' := by
  have es : Tm.same (.mk o h n l) (.mk o' h' n' l') = Tm.sameL l l' := by
    simp only [bne_eq_false_iff_eq] at e1 e2 e3
    simp [Tm.same, e1, e2, e3, e4]
  have ES := Lib.hid es
  clear es
  cases hv with
  | row ao b off len cap oo hh kk sv ts hao hS hl hr c0 c1 c2 c3 r0 r1 r2 sub =>
  cases hv' with
  | row ao' b' off' len' cap' oo' hh' kk' sv' ts' hao' hS' hl' hr' c0' c1' c2' c3' r0' r1' r2' sub' =>
  have el : len = len' := by simpa using e4
  subst el
  go_enter Try.func39, Try.ntmps39
  go_wp2
  go_loopw [5] (fun i wr => ∃ k : Nat, k ≤ len ∧ i = .int .i64 k ∧ Below (w.heap.size + 2) ((w.alloc (.cells #[.int .i64 o, .int .i64 h, .int .i64 n, .slice ao len cap] 25)).alloc (.cells #[.int .i64 o', .int .i64 h', .int .i64 n', .slice ao' len cap'] 25)) wr ∧ SameTo k ((List.range len).map fun i => .mk (oo i) (hh i) (kk i) (ts i)) ((List.range len).map fun i => .mk (oo' i) (hh' i) (kk' i) (ts' i)))
    (fun i _ => len - (intOf i).toNat)
  case atStart => exact ⟨0, Nat.zero_le _, rfl, Below.refl _ _, SameTo.zero _ _⟩
  case round =>
    obtain ⟨k, hk, rfl, hb, hs⟩ := hrel
    obtain ⟨q, q'⟩ := two_boxes hb
    have hbw := (two_below w _ _).trans (hb.mono (by omega))
    by_cases hlt : k < len
    · obtain rfl := hao (by omega)
      obtain rfl := hao' (by omega)
      have g := fun {p : Addr} {u : Value} => kept_cell (hbw.mono (Nat.le_refl _)) (p := p) (u := u)
      have d0 := g (c0 k hlt)
      have d1 := g (c1 k hlt)
      have d2 := g (c2 k hlt)
      have d3 := g (c3 k hlt)
      have d0' := g (c0' k hlt)
      have d1' := g (c1' k hlt)
      have d2' := g (c2' k hlt)
      have d3' := g (c3' k hlt)
      clear g c0 c1 c2 c3 c0' c1' c2' c3' 
      have q3 := q 3 _ rfl
      have q3' := q' 3 _ rfl
      clear q q'
      have hsub := (sub k hlt).keep hbw
      have hsub' := (sub' k hlt).keep hbw
      clear sub sub'
      go_wp2
      go_still_tail 10, (by kernel_rfl)
      change wpList _ _ _ _ _ wr.drew
      have hsz : Tm.sz (.mk (oo k) (hh k) (kk k) (ts k)) ≤ f := size_part hf hlt
      rcases hr' : Tm.same (.mk (oo k) (hh k) (kk k) (ts k)) (.mk (oo' k) (hh' k) (kk' k) (ts' k)) with _ | _
      · have HR := Lib.hid (SameTo.fail (g := fun i => .mk (oo i) (hh i) (kk i) (ts i)) (g' := fun i => .mk (oo' i) (hh' i) (kk' i) (ts' i)) hlt hr')
        have call := ih (oo k) (hh k) (kk k) (oo' k) (hh' k) (kk' k) (sv k) (sv' k) (ts k) (ts' k) wr.drew hsz (hsub.keep (Below.refl _ _).drew) (hsub'.keep (Below.refl _ _).drew)
        rw [hr'] at call
        clear hr' hs
        go_wp2_with (go_at_call 39; refine call.mono ?_; rintro e w1 ⟨rfl, hb1⟩)
        go_ret
        exact ⟨ret_bool (a := false) (by rw [ES.out, HR.out]), hbw.trans (((Below.refl _ _).drew).trans (hb1.mono hbw.size))⟩
      · have HR := Lib.hid (hs.step hlt hr')
        have call := ih (oo k) (hh k) (kk k) (oo' k) (hh' k) (kk' k) (sv k) (sv' k) (ts k) (ts' k) wr.drew hsz (hsub.keep (Below.refl _ _).drew) (hsub'.keep (Below.refl _ _).drew)
        rw [hr'] at call
        clear hr' hs
        go_wp2_with (go_at_call 39; refine call.mono ?_; rintro e w1 ⟨rfl, hb1⟩)
        go_roundw
        case rel => exact ⟨k + 1, by omega, by go_num, hb.trans (((Below.refl _ _).drew).trans (hb1.mono (by have := hb.size; simpa using this))), HR.out⟩
        case measure => simp [intOf]; omega
    · obtain rfl : k = len := by omega
      have q3 := q 3 _ rfl
      clear q q'
      have HS := Lib.hid hs.all
      clear hs c0 c1 c2 c3 c0' c1' c2' c3' 
      go_wp2
      go_ret
      exact ⟨ret_bool (a := true) (by rw [ES.out, HS.out]), hbw⟩


set_option maxHeartbeats 400000 in
set_option maxRecDepth 100000 in
theorem same_head (S S' : Nat → Prop) (o h n o' h' n' : Int) (v v' : Value) (l l' : List Tm) (w : World) (hv : Lies w S v l) (hv' : Lies w S' v' l')
    (e : ((o != o') = true) ∨ ((o != o') = false ∧ (h != h') = true) ∨ ((o != o') = false ∧ (h != h') = false ∧ (n != n') = true) ∨ ((o != o') = false ∧ (h != h') = false ∧ (n != n') = false ∧ l.length ≠ l'.length)) :
    Calls Try.prog 39 #[.agg #[.int .i64 o, .int .i64 h, .int .i64 n, v], .agg #[.int .i64 o', .int .i64 h', .int .i64 n', v']] w fun e w' => e = .returned (.bool (Tm.same (.mk o h n l) (.mk o' h' n' l'))) ∧ Below w.heap.size w w' := by
  have es : Tm.same (.mk o h n l) (.mk o' h' n' l') = false := by
    simp only [bne_iff_ne, bne_eq_false_iff_eq] at e
    rcases e with e | ⟨e1, e⟩ | ⟨e1, e2, e⟩ | ⟨e1, e2, e3, e⟩ <;> simp [Tm.same, e]
  rw [es]
  clear es
  cases hv with
  | row ao b off len cap oo hh kk sv ts hao hS hl hr c0 c1 c2 c3 r0 r1 r2 sub =>
  cases hv' with
  | row ao' b' off' len' cap' oo' hh' kk' sv' ts' hao' hS' hl' hr' c0' c1' c2' c3' r0' r1' r2' sub' =>
  simp only [List.length_map, List.length_range] at e
  clear c0 c1 c2 c3 r0 r1 r2 sub c0' c1' c2' c3' r0' r1' r2' sub' hao hao'
  rcases e with e1 | ⟨e1, e2⟩ | ⟨e1, e2, e3⟩ | ⟨e1, e2, e3, e4⟩
  all_goals
    go_enter Try.func39, Try.ntmps39
    go_wp2
    go_ret
    exact ⟨rfl, two_below w _ _⟩

/-- Same answers whether two terms that lie in memory are equal; what was there stays. -/
theorem same_calls (S S' : Nat → Prop) : ∀ (f : Nat) (o h n o' h' n' : Int) (v v' : Value) (l l' : List Tm) (w : World), Tm.sz (.mk o h n l) ≤ f → Lies w S v l → Lies w S' v' l' →
    Calls Try.prog 39 #[.agg #[.int .i64 o, .int .i64 h, .int .i64 n, v], .agg #[.int .i64 o', .int .i64 h', .int .i64 n', v']] w fun e w' => e = .returned (.bool (Tm.same (.mk o h n l) (.mk o' h' n' l'))) ∧ Below w.heap.size w w'
  | 0, o, h, n, _, _, _, _, _, l, _, _, hf, _, _ => by have := Tm.sz_pos (.mk o h n l); omega
  | f + 1, o, h, n, o', h', n', v, v', l, l', w, hf, hv, hv' => by
    rcases e1 : (o != o') with _ | _
    · rcases e2 : (h != h') with _ | _
      · rcases e3 : (n != n') with _ | _
        · by_cases e4 : l.length = l'.length
          · exact same_walk S S' f (same_calls S S' f) o h n o' h' n' v v' l l' w hf hv hv' e1 e2 e3 e4
          · exact same_head S S' o h n o' h' n' v v' l l' w hv hv' (.inr (.inr (.inr ⟨e1, e2, e3, e4⟩)))
        · exact same_head S S' o h n o' h' n' v v' l l' w hv hv' (.inr (.inr (.inl ⟨e1, e2, e3⟩)))
      · exact same_head S S' o h n o' h' n' v v' l l' w hv hv' (.inr (.inl ⟨e1, e2⟩))
    · exact same_head S S' o h n o' h' n' v v' l l' w hv hv' (.inl e1)

theorem same_any (S S' : Nat → Prop) (o h n o' h' n' : Int) (v v' : Value) (l l' : List Tm) (w : World) (hv : Lies w S v l) (hv' : Lies w S' v' l') :
    Calls Try.prog 39 #[.agg #[.int .i64 o, .int .i64 h, .int .i64 n, v], .agg #[.int .i64 o', .int .i64 h', .int .i64 n', v']] w fun e w' => e = .returned (.bool (Tm.same (.mk o h n l) (.mk o' h' n' l'))) ∧ Below w.heap.size w w' :=
  same_calls S S' _ o h n o' h' n' v v' l l' w (Nat.le_refl _) hv hv'

end Go.Proofs.Yteoheeddjddekaa

namespace Go.Proofs.Yteoheeddjddekaa
open Go.RowKit
set_option linter.unusedSimpArgs false
set_option linter.unusedVariables false

theorem ret_int {k : IntKind} {a b : Int} (h : a = b) : Ending.returned (.int k a) = .returned (.int k b) := by rw [h]

theorem one_box {w : World} {x : Array Value} {t : TypeId} {wr : World} (hb : Below (w.heap.size + 1) (w.alloc (.cells x t)) wr) :
    (∀ i u, x[i]? = some u → wr.cell? ⟨w.heap.size, i, none⟩ = some u) := by
  intro i u hu
  rw [hb.cell (by simp), World.cell?_alloc_at _ _ _ _ rfl]; exact hu
theorem one_below (w : World) (p : Obj) : Below w.heap.size w (w.alloc p) := (Below.refl _ _).alloc (Nat.le_refl _) _

/-- the four cells of a term that was boxed, behind a call -/
theorem box4 {w w1 : World} {x y z u : Value} {t : TypeId} (hb : Below (w.alloc (.cells #[x, y, z, u] t)).heap.size (w.alloc (.cells #[x, y, z, u] t)) w1) :
    w1.cell? ⟨w.heap.size, 0, none⟩ = some x ∧ w1.cell? ⟨w.heap.size, 1, none⟩ = some y ∧ w1.cell? ⟨w.heap.size, 2, none⟩ = some z ∧ w1.cell? ⟨w.heap.size, 3, none⟩ = some u := by
  have hq : Below (w.heap.size + 1) (w.alloc (.cells #[x, y, z, u] t)) w1 := by simpa using hb
  exact ⟨one_box hq 0 _ rfl, one_box hq 1 _ rfl, one_box hq 2 _ rfl, one_box hq 3 _ rfl⟩

set_option maxHeartbeats 400000 in
set_option maxRecDepth 100000 in
theorem nodes_walk (S : Nat → Prop) (f : Nat) (ih : ∀ (o h n most : Int) (v : Value) (l : List Tm) (w : World), Tm.sz (.mk o h n l) ≤ f → Lies w S v l → 0 ≤ most → most ≤ 600 →
      Calls Try.prog 29 #[.agg #[.int .i64 o, .int .i64 h, .int .i64 n, v], .int .i64 most] w fun e w' => e = .returned (.int .i64 (Tm.cnt (.mk o h n l) most)) ∧ Below w.heap.size w w')
    (o h n most : Int) (v : Value) (l : List Tm) (w : World) (hf : Tm.sz (.mk o h n l) ≤ f + 1) (hv : Lies w S v l) (hm0 : 0 ≤ most) (hm1 : most ≤ 600) :
    Calls Try.prog 29 #[.agg #[.int .i64 o, .int .i64 h, .int .i64 n, v], .int .i64 most] w fun e w' => e = .returned (.int .i64 (Tm.cnt (.mk o h n l) most)) ∧ Below w.heap.size w w' := by
  obtain ⟨ao, b, off, len, cap, oo, hh, kk, sv, ts, rfl, R⟩ := hv.open
  have HZ := Lib.hid (Tm.cntTo_zero l most hm0)
  have hr := R.hr
  have hl := R.hl
  clear hv
  go_enter Try.func29, Try.ntmps29
  go_wp2
  go_loopw [5, 6] (fun m i wr => ∃ k : Nat, k ≤ len ∧ i = .int .i64 k ∧ m = .int .i64 (Tm.cntTo l k most) ∧ Below (w.heap.size + 1) (w.alloc (.cells #[.int .i64 o, .int .i64 h, .int .i64 n, .slice ao len cap] 25)) wr)
    (fun _ i _ => len - (intOf i).toNat)
  case atStart => exact ⟨0, Nat.zero_le _, rfl, by rw [HZ.out], Below.refl _ _⟩
  case round =>
    obtain ⟨k, hk, rfl, rfl, hb⟩ := hrel
    have q3 := one_box hb 3 _ rfl
    have hbw := (one_below w _).trans (hb.mono (by omega))
    have hbd := Tm.cntTo_bd l k most hm0
    have hlen := R.length
    by_cases hlt : k < len
    · by_cases hle : Tm.cntTo l k most ≤ most
      · obtain rfl := R.hao (by omega)
        obtain ⟨d0, d1, d2, d3, hsub⟩ := R.at hbw k hlt
        have hst := Tm.cntTo_step l k most (by omega) hle
        rw [R.get k hlt] at hst
        have HST := Lib.hid hst
        have hc := Tm.cnt_bd (.mk (oo k) (hh k) (kk k) (ts k)) (most - Tm.cntTo l k most) (by omega)
        have call := ih (oo k) (hh k) (kk k) (most - Tm.cntTo l k most) (sv k) (ts k) wr (R.size hf k hlt) hsub (by omega) (by omega)
        clear hst ih hlen
        go_wp2_with (go_at_call 29; refine call.mono ?_; rintro e w1 ⟨rfl, hb1⟩)
        go_roundw
        case rel => exact ⟨k + 1, by omega, by go_num, by rw [← HST.out], hb.trans (hb1.mono (by simpa using hb.size))⟩
        case measure => simp [intOf]; omega
      · have HF := Lib.hid (Tm.cntTo_full o h n l k most (.inr (by omega)))
        clear hlen
        go_wp2
        go_ret
        exact ⟨ret_int (by rw [← HF.out]), hbw⟩
    · have HF := Lib.hid (Tm.cntTo_full o h n l k most (.inl (by omega)))
      clear hlen
      go_wp2
      go_ret
      exact ⟨ret_int (by rw [← HF.out]), hbw⟩

theorem nodes_calls (S : Nat → Prop) : ∀ (f : Nat) (o h n most : Int) (v : Value) (l : List Tm) (w : World), Tm.sz (.mk o h n l) ≤ f → Lies w S v l → 0 ≤ most → most ≤ 600 →
      Calls Try.prog 29 #[.agg #[.int .i64 o, .int .i64 h, .int .i64 n, v], .int .i64 most] w fun e w' => e = .returned (.int .i64 (Tm.cnt (.mk o h n l) most)) ∧ Below w.heap.size w w'
  | 0, o, h, n, _, _, l, _, hf, _, _, _ => by have := Tm.sz_pos (.mk o h n l); omega
  | f + 1, o, h, n, most, v, l, w, hf, hv, h0, h1 => nodes_walk S f (nodes_calls S f) o h n most v l w hf hv h0 h1

end Go.Proofs.Yteoheeddjddekaa

namespace Go.Proofs.Yteoheeddjddekaa
open Go.RowKit
set_option linter.unusedSimpArgs false
set_option linter.unusedVariables false

theorem node_cases (o h n : Int) (len : Nat) :
    (Tm.headOk o h n len = true ∧ ((o = 1 ∧ h = 0 ∧ n = 0 ∧ len = 0) ∨ (o = 2 ∧ h = 0 ∧ n = 0 ∧ len = 2) ∨ (o = 3 ∧ h = 0 ∧ n = 0 ∧ len = 1) ∨ (o = 4 ∧ 1 ≤ h ∧ h ≤ 3 ∧ 0 ≤ n ∧ n ≤ 9999))) ∨
    (Tm.headOk o h n len = false ∧ ((o = 1 ∧ (h == 0) = false) ∨ (o = 1 ∧ h = 0 ∧ (n == 0) = false) ∨ (o = 1 ∧ h = 0 ∧ n = 0 ∧ ((len : Int) == 0) = false) ∨
      (o = 2 ∧ (h == 0) = false) ∨ (o = 2 ∧ h = 0 ∧ (n == 0) = false) ∨ (o = 2 ∧ h = 0 ∧ n = 0 ∧ ((len : Int) == 2) = false) ∨
      (o = 3 ∧ (h == 0) = false) ∨ (o = 3 ∧ h = 0 ∧ (n == 0) = false) ∨ (o = 3 ∧ h = 0 ∧ n = 0 ∧ ((len : Int) == 1) = false) ∨
      (o = 4 ∧ h < 0) ∨ (o = 4 ∧ h = 0 ∧ (n == 0) = false) ∨ (o = 4 ∧ h = 0 ∧ n = 0) ∨ (o = 4 ∧ 3 < h) ∨ (o = 4 ∧ 1 ≤ h ∧ h ≤ 3 ∧ n < 0) ∨ (o = 4 ∧ 1 ≤ h ∧ h ≤ 3 ∧ 9999 < n))) ∨
    (Tm.headOk o h n len = false ∧ ((o == 1) = false ∧ (o == 2) = false ∧ (o == 3) = false ∧ (o == 4) = false) ∧ ((h == 0) = false ∨ (h = 0 ∧ (n == 0) = false) ∨ (h = 0 ∧ n = 0))) := by
  rcases e : Tm.headOk o h n len with _ | _
  · have e' := Tm.headOk_no o h n len e
    by_cases h0 : h = 0 <;> by_cases n0 : n = 0 <;> simp [h0, n0] at e' ⊢ <;> omega
  · have e' := Tm.headOk_yes o h n len e
    left
    exact ⟨rfl, by omega⟩

set_option maxHeartbeats 2000000 in
set_option maxRecDepth 100000 in
theorem isNode_yes (o h n : Int) (ao : Option Addr) (len cap : Nat) (w : World) (e : (o = 1 ∧ h = 0 ∧ n = 0 ∧ len = 0) ∨ (o = 2 ∧ h = 0 ∧ n = 0 ∧ len = 2) ∨ (o = 3 ∧ h = 0 ∧ n = 0 ∧ len = 1) ∨ (o = 4 ∧ 1 ≤ h ∧ h ≤ 3 ∧ 0 ≤ n ∧ n ≤ 9999)) :
    Calls Try.prog 95 #[.agg #[.int .i64 o, .int .i64 h, .int .i64 n, .slice ao len cap]] w fun e w' => e = .returned (.bool true) ∧ Below w.heap.size w w' := by
  rcases e with ⟨rfl, rfl, rfl, rfl⟩ | ⟨rfl, rfl, rfl, rfl⟩ | ⟨rfl, rfl, rfl, rfl⟩ | ⟨rfl, h1, h2, h3, h4⟩
  all_goals
    go_enter Try.func95, Try.ntmps95
    go_wp2
    go_ret
    exact ⟨rfl, one_below w _⟩

set_option maxHeartbeats 4000000 in
set_option maxRecDepth 100000 in
theorem isNode_no (o h n : Int) (ao : Option Addr) (len cap : Nat) (w : World) (e : (o = 1 ∧ (h == 0) = false) ∨ (o = 1 ∧ h = 0 ∧ (n == 0) = false) ∨ (o = 1 ∧ h = 0 ∧ n = 0 ∧ ((len : Int) == 0) = false) ∨
      (o = 2 ∧ (h == 0) = false) ∨ (o = 2 ∧ h = 0 ∧ (n == 0) = false) ∨ (o = 2 ∧ h = 0 ∧ n = 0 ∧ ((len : Int) == 2) = false) ∨
      (o = 3 ∧ (h == 0) = false) ∨ (o = 3 ∧ h = 0 ∧ (n == 0) = false) ∨ (o = 3 ∧ h = 0 ∧ n = 0 ∧ ((len : Int) == 1) = false) ∨
      (o = 4 ∧ h < 0) ∨ (o = 4 ∧ h = 0 ∧ (n == 0) = false) ∨ (o = 4 ∧ h = 0 ∧ n = 0) ∨ (o = 4 ∧ 3 < h) ∨ (o = 4 ∧ 1 ≤ h ∧ h ≤ 3 ∧ n < 0) ∨ (o = 4 ∧ 1 ≤ h ∧ h ≤ 3 ∧ 9999 < n)) :
    Calls Try.prog 95 #[.agg #[.int .i64 o, .int .i64 h, .int .i64 n, .slice ao len cap]] w fun e w' => e = .returned (.bool false) ∧ Below w.heap.size w w' := by
  rcases e with ⟨rfl, h1⟩ | ⟨rfl, rfl, h1⟩ | ⟨rfl, rfl, rfl, h1⟩ | ⟨rfl, h1⟩ | ⟨rfl, rfl, h1⟩ | ⟨rfl, rfl, rfl, h1⟩ | ⟨rfl, h1⟩ | ⟨rfl, rfl, h1⟩ | ⟨rfl, rfl, rfl, h1⟩ | ⟨rfl, h1⟩ | ⟨rfl, rfl, h1⟩ | ⟨rfl, rfl, rfl⟩ | ⟨rfl, h1⟩ | ⟨rfl, h1, h2, h3⟩ | ⟨rfl, h1, h2, h3⟩
  all_goals
    go_enter Try.func95, Try.ntmps95
    go_wp2
    go_ret
    first | exact ⟨rfl, one_below w _⟩ | exact ⟨ret_bool (a := decide (n ≤ 9999)) (by rw [decide_eq_false_iff_not]; omega), one_below w _⟩

set_option maxHeartbeats 2000000 in
set_option maxRecDepth 100000 in
theorem isNode_none (o h n : Int) (ao : Option Addr) (len cap : Nat) (w : World) (e1 : (o == 1) = false) (e2 : (o == 2) = false) (e3 : (o == 3) = false) (e4 : (o == 4) = false) (e : (h == 0) = false ∨ (h = 0 ∧ (n == 0) = false) ∨ (h = 0 ∧ n = 0)) :
    Calls Try.prog 95 #[.agg #[.int .i64 o, .int .i64 h, .int .i64 n, .slice ao len cap]] w fun e w' => e = .returned (.bool false) ∧ Below w.heap.size w w' := by
  rcases e with h1 | ⟨rfl, h1⟩ | ⟨rfl, rfl⟩
  all_goals
    go_enter Try.func95, Try.ntmps95
    go_wp2
    go_ret
    exact ⟨rfl, one_below w _⟩

theorem isNode_any (o h n : Int) (ao : Option Addr) (len cap : Nat) (w : World) :
    Calls Try.prog 95 #[.agg #[.int .i64 o, .int .i64 h, .int .i64 n, .slice ao len cap]] w fun e w' => e = .returned (.bool (Tm.headOk o h n len)) ∧ Below w.heap.size w w' := by
  rcases node_cases o h n len with ⟨e, h1⟩ | ⟨e, h1⟩ | ⟨e, ⟨h1, h2, h3, h4⟩, h5⟩
  · rw [e]; exact isNode_yes o h n ao len cap w h1
  · rw [e]; exact isNode_no o h n ao len cap w h1
  · rw [e]; exact isNode_none o h n ao len cap w h1 h2 h3 h4 h5

end Go.Proofs.Yteoheeddjddekaa

namespace Go.Proofs.Yteoheeddjddekaa
open Go.RowKit
set_option linter.unusedSimpArgs false
set_option linter.unusedVariables false

/-- what measure leaves: the answer, and the counts if it is yes -/
def Measured (w : World) (B : Nat) (t : Tm) (c d lev : Nat) (e : Ending) (w' : World) : Prop :=
  e = .returned (.bool (Tm.mOk t c lev)) ∧ Only B w w' ∧ ∃ c' d' : Int, w'.heap[B]? = some (.cells #[.int .i64 c', .int .i64 d'] 113 (0, 0)) ∧ (Tm.mOk t c lev = true → c' = ((c + Tm.sz t : Nat) : Int) ∧ d' = ((max d (lev + Tm.depth t - 1) : Nat) : Int))

theorem measured_no {w w' : World} {B : Nat} {t : Tm} {c d lev : Nat} {x y : Int} (hno : Tm.mOk t c lev = false) (ho : Only B w w') (hb : w'.heap[B]? = some (.cells #[.int .i64 x, .int .i64 y] 113 (0, 0))) :
    Measured w B t c d lev (.returned (.bool false)) w' :=
  ⟨by rw [hno], ho, x, y, hb, fun h => by rw [hno] at h; cases h⟩
theorem measured_yes {w w' : World} {B : Nat} {t : Tm} {c d lev : Nat} {x y : Int} (hyes : Tm.mOk t c lev = true) (ho : Only B w w') (hb : w'.heap[B]? = some (.cells #[.int .i64 x, .int .i64 y] 113 (0, 0)))
    (hx : x = ((c + Tm.sz t : Nat) : Int)) (hy : y = ((max d (lev + Tm.depth t - 1) : Nat) : Int)) : Measured w B t c d lev (.returned (.bool true)) w' :=
  ⟨by rw [hyes], ho, x, y, hb, fun _ => ⟨hx, hy⟩⟩

theorem set_two {w : World} {B : Nat} {x0 y0 : Value} {t : TypeId} (hB : w.heap[B]? = some (.cells #[x0, y0] t (0, 0))) (x y : Value) (o : Obj) :
    (((w.setCell ⟨B, 0, none⟩ x).setCell ⟨B, 1, none⟩ y).alloc o).heap[B]? = some (.cells #[x, y] t (0, 0)) ∧ Only B w (((w.setCell ⟨B, 0, none⟩ x).setCell ⟨B, 1, none⟩ y).alloc o) := by
  have h1 := heap_set_at (j := 0) x hB
  have h2 := heap_set_at (j := 1) y h1
  have hlt := (Array.getElem?_eq_some_iff.1 h2).1
  refine ⟨?_, (((Only.refl B w).setCell 0 none x).setCell 1 none y).alloc o⟩
  rw [Below.heap_alloc _ _ _ hlt, h2]
  rfl

/-- the depth that has been met behind the first k parts -/
def Tm.dTo (l : List Tm) (d lev k : Nat) : Nat := max d (lev + Tm.depthL (l.take k))
theorem Tm.dTo_zero (l : List Tm) (d lev : Nat) : Tm.dTo l d lev 0 = max d lev := by simp [Tm.dTo, Tm.depthL]
theorem Tm.dTo_step (l : List Tm) (d lev k : Nat) (h : k < l.length) : max (Tm.dTo l d lev k) (lev + 1 + Tm.depth l[k] - 1) = Tm.dTo l d lev (k + 1) := by
  unfold Tm.dTo
  rw [Tm.depthL_take l k h]
  have := Tm.depth_pos l[k]
  omega
theorem Tm.dTo_all (o h n : Int) (l : List Tm) (d lev k : Nat) (hk : l.length ≤ k) : Tm.dTo l d lev k = max d (lev + Tm.depth (.mk o h n l) - 1) := by
  unfold Tm.dTo
  rw [List.take_of_length_le hk]
  simp only [Tm.depth]
  omega

theorem two_eq {w : World} {B : Nat} {t : TypeId} {a b a' b' : Int} (h : w.heap[B]? = some (.cells #[.int .i64 a, .int .i64 b] t (0, 0))) (ha : a = a') (hb : b = b') : w.heap[B]? = some (.cells #[.int .i64 a', .int .i64 b'] t (0, 0)) := by
  subst ha hb; exact h
theorem max_lt {d lev : Nat} (h : d < lev) {x : Nat} (hx : x = max d lev) : (lev : Int) = (x : Int) := by subst hx; rw [Nat.max_eq_right (by omega)]
theorem max_ge {d lev : Nat} (h : ¬ d < lev) {x : Nat} (hx : x = max d lev) : (d : Int) = (x : Int) := by subst hx; rw [Nat.max_eq_left (by omega)]

/-- a cell of a block that was just made, behind a call -/
theorem new_at {X w1 : World} {cs : Array Value} {t : TypeId} {s j : Nat} {u : Value} (hb : Below (X.alloc (.cells cs t)).heap.size (X.alloc (.cells cs t)) w1) (hs : X.heap.size = s) (hu : cs[j]? = some u) : w1.cell? ⟨s, j, none⟩ = some u := by
  subst hs
  rw [hb.cell (by simp), World.cell?_alloc_at _ _ _ _ rfl]; exact hu

set_option maxHeartbeats 2000000 in
set_option maxRecDepth 100000 in
theorem measure_bad (o h n : Int) (v : Value) (l : List Tm) (w : World) (B c d lev : Nat) (hv : Lies w (· ≠ B) v l) (hB : w.heap[B]? = some (.cells #[.int .i64 c, .int .i64 d] 113 (0, 0))) (hc : c ≤ 600) (hlev : lev ≤ 41)
    (e : 600 ≤ c ∨ (c < 600 ∧ 40 < lev) ∨ (c < 600 ∧ lev ≤ 40 ∧ Tm.headOk o h n l.length = false)) :
    Calls Try.prog 86 #[.pointer (some ⟨B, 0, none⟩), .agg #[.int .i64 o, .int .i64 h, .int .i64 n, v], .int .i64 lev] w (Measured w B (.mk o h n l) c d lev) := by
  obtain ⟨ao, b, off, len, cap, oo, hh, kk, sv, ts, rfl, R⟩ := hv.open
  have hlen := R.length
  obtain ⟨c0, c1, f0, f1, hlt⟩ := two_cells hB
  have HB := Lib.hid hB
  clear hv R hB
  rcases e with e | ⟨e1, e2⟩ | ⟨e1, e2, e3⟩
  · have HE := Lib.hid (Tm.mOk_many o h n l c lev (by omega))
    clear hlen
    by_cases hdl : d < lev
    all_goals
      go_enter Try.func86, Try.ntmps86
      go_wp2
      go_ret
      exact measured_no HE.out (set_two HB.out _ _ _).2 (set_two HB.out _ _ _).1
  · have HE := Lib.hid (Tm.mOk_deep o h n l c lev (by omega))
    clear hlen
    by_cases hdl : d < lev
    all_goals
      go_enter Try.func86, Try.ntmps86
      go_wp2
      go_ret
      exact measured_no HE.out (set_two HB.out _ _ _).2 (set_two HB.out _ _ _).1
  · have HE := Lib.hid (Tm.mOk_head o h n l c lev e3)
    rw [hlen] at e3
    have call := fun w1 => isNode_any o h n ao len cap w1
    rw [e3] at call
    clear e3 hlen
    by_cases hdl : d < lev
    all_goals
      go_enter Try.func86, Try.ntmps86
      go_wp2_with (go_at_call 95; (with_reducible refine (call _).mono ?_); rintro e w1 ⟨rfl, hb1⟩)
      go_ret
      exact measured_no HE.out ((set_two HB.out _ _ _).2.trans (Only.below hb1 B)) (heap_kept hb1 (set_two HB.out _ _ _).1)

set_option maxHeartbeats 2000000 in
set_option maxRecDepth 100000 in
theorem measure_walk (f : Nat) (B : Nat) (ih : ∀ (o h n : Int) (v : Value) (l : List Tm) (w : World) (c d lev : Nat), Tm.sz (.mk o h n l) ≤ f → Lies w (· ≠ B) v l → w.heap[B]? = some (.cells #[.int .i64 c, .int .i64 d] 113 (0, 0)) → c ≤ 600 → lev ≤ 41 →
      Calls Try.prog 86 #[.pointer (some ⟨B, 0, none⟩), .agg #[.int .i64 o, .int .i64 h, .int .i64 n, v], .int .i64 lev] w (Measured w B (.mk o h n l) c d lev))
    (o h n : Int) (v : Value) (l : List Tm) (w : World) (c d lev : Nat) (hf : Tm.sz (.mk o h n l) ≤ f + 1) (hv : Lies w (· ≠ B) v l) (hB : w.heap[B]? = some (.cells #[.int .i64 c, .int .i64 d] 113 (0, 0))) (hc : c < 600) (hlev : lev ≤ 40)
    (e : Tm.headOk o h n l.length = true) :
    Calls Try.prog 86 #[.pointer (some ⟨B, 0, none⟩), .agg #[.int .i64 o, .int .i64 h, .int .i64 n, v], .int .i64 lev] w (Measured w B (.mk o h n l) c d lev) := by
  obtain ⟨ao, b, off, len, cap, oo, hh, kk, sv, ts, rfl, R⟩ := hv.open
  have hlen := R.length
  have hr := R.hr
  have hl := R.hl
  obtain ⟨c0, c1, f0, f1, hlt⟩ := two_cells hB
  have HB := Lib.hid hB
  have HH := Lib.hid e
  rw [hlen] at e
  have call1 := fun w1 => isNode_any o h n ao len cap w1
  rw [e] at call1
  have HL := Lib.hid hlen
  have HF := Lib.hid hf
  clear hv hB e hlen hf
  by_cases hdl : d < lev
  all_goals
    go_enter Try.func86, Try.ntmps86
    go_wp2_with (first | (go_at_call 95; (with_reducible refine (call1 _).mono ?_); rintro e w1 ⟨rfl, hb1⟩; have q3 := new_at (j := 3) (s := w.heap.size) hb1 (by simp) rfl))
    have hO := (set_two HB.out _ _ _).2.trans (Only.below hb1 B)
    have hK := heap_kept hb1 (set_two HB.out _ _ _).1
    have H0 := Lib.hid (Tm.dTo_zero l d lev)
    go_loopw [42] (fun i wr => ∃ k : Nat, k ≤ len ∧ i = .int .i64 k ∧ Only B w wr ∧ wr.heap[B]? = some (.cells #[.int .i64 ((c + 1 + Tm.szL (l.take k) : Nat) : Int), .int .i64 (Tm.dTo l d lev k : Nat)] 113 (0, 0)) ∧ c + 1 + Tm.szL (l.take k) ≤ 600 ∧ Tm.FormedTo l (lev + 1) k)
      (fun i _ => len - (intOf i).toNat)
    case atStart =>
      exact ⟨0, Nat.zero_le _, rfl, hO, two_eq hK (by simp [Tm.szL]) (by first | exact max_lt hdl H0.out | exact max_ge hdl H0.out), by simp [Tm.szL]; omega, Tm.FormedTo.zero _ _⟩
    case round =>
      clear hO hK
      obtain ⟨k, hk, rfl, hO, hK, hck, hp⟩ := hrel
      by_cases hlt : k < len
      · obtain rfl := R.hao (by omega)
        obtain ⟨d0, d1, d2, d3, hsub⟩ := R.atO hO k hlt
        obtain ⟨a2, n2, m2, hs2⟩ := hsub.isSlice
        rw [hs2] at d3 hsub
        have hk' : k < l.length := by rw [HL.out]; exact hlt
        have hg := R.get k hlt
        have hsz := R.size HF.out k hlt
        have hba : Below wr.heap.size wr (wr.alloc (.cells #[.int .i64 (oo k), .int .i64 (hh k), .int .i64 (kk k), .slice a2 n2 m2] 25)) := (Below.refl _ _).alloc (Nat.le_refl _) _
        have call := ih (oo k) (hh k) (kk k) (.slice a2 n2 m2) (ts k) (wr.alloc (.cells #[.int .i64 (oo k), .int .i64 (hh k), .int .i64 (kk k), .slice a2 n2 m2] 25)) (c + 1 + Tm.szL (l.take k)) (Tm.dTo l d lev k) (lev + 1) hsz (hsub.keep hba) (heap_kept hba hK) hck (by omega)
        rw [show ((lev + 1 : Nat) : Int) = (lev : Int) + 1 from by omega] at call
        rcases hr' : Tm.mOk (.mk (oo k) (hh k) (kk k) (ts k)) (c + 1 + Tm.szL (l.take k)) (lev + 1) with _ | _
        · have HX := Lib.hid (Tm.mOk_fail o h n l c lev k hk' (by rw [hg]; exact hr'))
          unfold Measured at call
          rw [hr'] at call
          clear hr' hp hg hk' ih hK hs2
          go_wp2_with (go_at_call 86; (with_reducible refine call.mono ?_); rintro e w1 ⟨rfl, ho1, c1', d1', hb1', himp⟩)
          go_ret
          exact measured_no HX.out (hO.trans ((Only.below hba B).trans ho1)) hb1'
        · have hst := Tm.mOk_step l c lev k hk' (by rw [hg]; exact hr')
          have HP := Lib.hid (hp.step hk' hst.2)
          have hc1 := hst.1
          have HS := Lib.hid (Tm.szL_take l k hk')
          have HD := Lib.hid (Tm.dTo_step l d lev k hk')
          rw [hg] at HS HD
          unfold Measured at call
          rw [hr'] at call
          clear hr' hp hg hk' ih hK hst hs2
          go_wp2_with (go_at_call 86; (with_reducible refine call.mono ?_); rintro e w1 ⟨rfl, ho1, c1', d1', hb1', himp⟩)
          obtain ⟨ec, ed⟩ := himp trivial
          go_roundw
          case rel => exact ⟨k + 1, by omega, by go_num, hO.trans ((Only.below hba B).trans ho1), two_eq hb1' (by rw [ec, HS.out]; omega) (by rw [ed, HD.out]), hc1, HP.out⟩
          case measure => simp [intOf]; omega
      · have HP := Lib.hid (hp.all (by rw [HL.out]; omega))
        have hkl : l.take k = l := List.take_of_length_le (by rw [HL.out]; omega)
        rw [hkl] at hck hK
        have HY := Lib.hid (Tm.mOk_all o h n l c lev HH.out hlev hck HP.out)
        have HD := Lib.hid (Tm.dTo_all o h n l d lev k (by rw [HL.out]; omega))
        have HK := Lib.hid hK
        clear hp hkl hK hck
        go_wp2
        go_ret
        exact measured_yes HY.out hO HK.out (by simp only [Tm.sz]; omega) (by rw [HD.out])

theorem measure_calls (B : Nat) : ∀ (f : Nat) (o h n : Int) (v : Value) (l : List Tm) (w : World) (c d lev : Nat), Tm.sz (.mk o h n l) ≤ f → Lies w (· ≠ B) v l → w.heap[B]? = some (.cells #[.int .i64 c, .int .i64 d] 113 (0, 0)) → c ≤ 600 → lev ≤ 41 →
      Calls Try.prog 86 #[.pointer (some ⟨B, 0, none⟩), .agg #[.int .i64 o, .int .i64 h, .int .i64 n, v], .int .i64 lev] w (Measured w B (.mk o h n l) c d lev)
  | 0, o, h, n, _, l, _, _, _, _, hf, _, _, _, _ => by have := Tm.sz_pos (.mk o h n l); omega
  | f + 1, o, h, n, v, l, w, c, d, lev, hf, hv, hB, hc, hlev => by
    by_cases h1 : c < 600
    · by_cases h2 : lev ≤ 40
      · rcases e : Tm.headOk o h n l.length with _ | _
        · exact measure_bad o h n v l w B c d lev hv hB hc hlev (.inr (.inr ⟨h1, h2, e⟩))
        · exact measure_walk f B (measure_calls B f) o h n v l w c d lev hf hv hB h1 h2 e
      · exact measure_bad o h n v l w B c d lev hv hB hc hlev (.inr (.inl ⟨h1, by omega⟩))
    · exact measure_bad o h n v l w B c d lev hv hB hc hlev (.inl (by omega))

end Go.Proofs.Yteoheeddjddekaa

namespace Go.Proofs.Yteoheeddjddekaa
open Go.RowKit
set_option linter.unusedSimpArgs false
set_option linter.unusedVariables false

set_option maxHeartbeats 400000 in
set_option maxRecDepth 100000 in
theorem formed_bad (o h n : Int) (d : Nat) (v : Value) (l : List Tm) (w : World) (S : Nat → Prop) (hv : Lies w S v l) (e : ¬ d ≤ 40 ∨ (d ≤ 40 ∧ Tm.headOk o h n l.length = false)) :
    Calls Try.prog 30 #[.agg #[.int .i64 o, .int .i64 h, .int .i64 n, v], .int .i64 d] w fun e w' => e = .returned (.bool false) ∧ Below w.heap.size w w' := by
  obtain ⟨ao, b, off, len, cap, oo, hh, kk, sv, ts, rfl, R⟩ := hv.open
  rw [R.length] at e
  clear hv
  rcases e with e | ⟨e0, e⟩
  · go_enter Try.func30, Try.ntmps30
    go_wp2
    go_ret
    exact ⟨rfl, one_below w _⟩
  · rcases Tm.headOk_no o h n len e with ⟨rfl, e | ⟨e1, e⟩ | ⟨e1, e2, e⟩⟩ | ⟨rfl, e | ⟨e1, e⟩ | ⟨e1, e2, e⟩⟩ | ⟨rfl, e | ⟨e1, e⟩ | ⟨e1, e2, e⟩⟩ | ⟨rfl, e | ⟨e1, e⟩ | ⟨e1, e2, e⟩ | ⟨e1, e2, e3, e⟩⟩ | ⟨e1, e2, e3, e⟩
    all_goals
      go_enter Try.func30, Try.ntmps30
      go_wp2
      go_ret
      exact ⟨rfl, one_below w _⟩

set_option maxHeartbeats 1000000 in
set_option maxRecDepth 100000 in
theorem formed_good (S : Nat → Prop) (f : Nat) (ih : ∀ (o h n : Int) (d : Nat) (v : Value) (l : List Tm) (w : World), Tm.sz (.mk o h n l) ≤ f → Lies w S v l → d ≤ 41 →
      Calls Try.prog 30 #[.agg #[.int .i64 o, .int .i64 h, .int .i64 n, v], .int .i64 d] w fun e w' => e = .returned (.bool (Tm.formed (.mk o h n l) d)) ∧ Below w.heap.size w w')
    (o h n : Int) (d : Nat) (v : Value) (l : List Tm) (w : World) (hf : Tm.sz (.mk o h n l) ≤ f + 1) (hv : Lies w S v l) (hd : d ≤ 40) (e : Tm.headOk o h n l.length = true) :
    Calls Try.prog 30 #[.agg #[.int .i64 o, .int .i64 h, .int .i64 n, v], .int .i64 d] w fun e w' => e = .returned (.bool (Tm.formedL l (d + 1))) ∧ Below w.heap.size w w' := by
  obtain ⟨ao, b, off, len, cap, oo, hh, kk, sv, ts, rfl, R⟩ := hv.open
  rw [R.length] at e
  have hr := R.hr
  have hl := R.hl
  clear hv
  rcases Tm.headOk_yes o h n len e with ⟨rfl, e1, rfl, rfl⟩ | ⟨rfl, e1, rfl, rfl⟩ | ⟨rfl, e1, rfl, rfl⟩ | ⟨rfl, g1, g2, g3, g4⟩
  all_goals
    (try have L0 : (((len : Nat) : Int) != 0) = false := by rw [bne_eq_false_iff_eq]; omega)
    (try have L1 : (((len : Nat) : Int) != 1) = false := by rw [bne_eq_false_iff_eq]; omega)
    (try have L2 : (((len : Nat) : Int) != 2) = false := by rw [bne_eq_false_iff_eq]; omega)
    (try clear e1)
    clear e
    go_enter Try.func30, Try.ntmps30
    go_wp2
    go_loopw [5] (fun i wr => ∃ k : Nat, k ≤ len ∧ i = .int .i64 k ∧ Below w.heap.size w wr ∧ wr.cell? ⟨w.heap.size, 3, none⟩ = some (.slice ao len cap) ∧ Tm.FormedTo l (d + 1) k)
      (fun i _ => len - (intOf i).toNat)
    case atStart => exact ⟨0, Nat.zero_le _, rfl, one_below w _, by rw [World.cell?_alloc_at _ _ _ _ rfl]; rfl, Tm.FormedTo.zero _ _⟩
    case round =>
      obtain ⟨k, hk, rfl, hbw, q3, hp⟩ := hrel
      by_cases hlt : k < len
      · obtain rfl := R.hao (by omega)
        obtain ⟨d0, d1, d2, d3, hsub⟩ := R.at hbw k hlt
        have call := ih (oo k) (hh k) (kk k) (d + 1) (sv k) (ts k) wr (R.size hf k hlt) hsub (by omega)
        rcases hr' : Tm.formed (.mk (oo k) (hh k) (kk k) (ts k)) (d + 1) with _ | _
        · have HF := Lib.hid (Tm.formedL_fail l (d + 1) k (by rw [R.length]; exact hlt) (by rw [R.get k hlt]; exact hr'))
          rw [hr'] at call
          clear hr' ih hp
          go_wp2_with (go_at_call 30; refine call.mono ?_; rintro e w1 ⟨rfl, hb1⟩)
          go_ret
          exact ⟨ret_bool (a := false) (by rw [HF.out]), hbw.trans (hb1.mono hbw.size)⟩
        · have HP := Lib.hid (hp.step (by rw [R.length]; exact hlt) (by rw [R.get k hlt]; exact hr'))
          rw [hr'] at call
          clear hr' ih hp
          go_wp2_with (go_at_call 30; refine call.mono ?_; rintro e w1 ⟨rfl, hb1⟩)
          go_roundw
          case rel => exact ⟨k + 1, by omega, by go_num, hbw.trans (hb1.mono hbw.size), kept_cell hb1 q3, HP.out⟩
          case measure => simp [intOf]; omega
      · have HP := Lib.hid (hp.all (by rw [R.length]; omega))
        clear hp
        go_wp2
        go_ret
        exact ⟨ret_bool (a := true) (by rw [HP.out]), hbw⟩

theorem formed_calls (S : Nat → Prop) : ∀ (f : Nat) (o h n : Int) (d : Nat) (v : Value) (l : List Tm) (w : World), Tm.sz (.mk o h n l) ≤ f → Lies w S v l → d ≤ 41 →
      Calls Try.prog 30 #[.agg #[.int .i64 o, .int .i64 h, .int .i64 n, v], .int .i64 d] w fun e w' => e = .returned (.bool (Tm.formed (.mk o h n l) d)) ∧ Below w.heap.size w w'
  | 0, o, h, n, _, _, l, _, hf, _, _ => by have := Tm.sz_pos (.mk o h n l); omega
  | f + 1, o, h, n, d, v, l, w, hf, hv, hd => by
    by_cases h0 : d ≤ 40
    · rcases e : Tm.headOk o h n l.length with _ | _
      · have es : Tm.formed (.mk o h n l) d = false := by simp [Tm.formed, e]
        rw [es]
        exact formed_bad o h n d v l w S hv (.inr ⟨h0, e⟩)
      · have es : Tm.formed (.mk o h n l) d = Tm.formedL l (d + 1) := by simp [Tm.formed, e, h0]
        rw [es]
        exact formed_good S f (formed_calls S f) o h n d v l w hf hv h0 e
    · have es : Tm.formed (.mk o h n l) d = false := by simp [Tm.formed, h0]
      rw [es]
      exact formed_bad o h n d v l w S hv (.inl h0)

set_option maxHeartbeats 400000 in
/-- Proper answers whether a term is proper. -/
theorem proper_any (S : Nat → Prop) (o h n : Int) (v : Value) (l : List Tm) (w : World) (hv : Lies w S v l) :
    Calls Try.prog 10 #[.agg #[.int .i64 o, .int .i64 h, .int .i64 n, v]] w fun e w' => e = .returned (.bool (Tm.proper (.mk o h n l))) ∧ Below w.heap.size w w' := by
  have c1 := fun w1 hb => nodes_calls S _ o h n 600 v l w1 (Nat.le_refl _) (hv.keep (w' := w1) hb) (by omega) (by omega)
  have c2 : ∀ w1, Below w.heap.size w w1 → Calls Try.prog 30 #[.agg #[.int .i64 o, .int .i64 h, .int .i64 n, v], .int .i64 1] w1 fun e w' => e = .returned (.bool (Tm.formed (.mk o h n l) 1)) ∧ Below w1.heap.size w1 w' :=
    fun w1 hb => formed_calls S _ o h n 1 v l w1 (Nat.le_refl _) (hv.keep (w' := w1) hb) (by omega)
  obtain ⟨c, hc⟩ : ∃ c, c = Tm.cnt (.mk o h n l) 600 := ⟨_, rfl⟩
  obtain ⟨r, hr⟩ : ∃ r, r = Tm.formed (.mk o h n l) 1 := ⟨_, rfl⟩
  have hp : Tm.proper (.mk o h n l) = (decide (c ≤ 600) && r) := by
    unfold Tm.proper; rw [hr, hc]; unfold Tm.cnt; congr 1; split <;> simp <;> omega
  have HP := Lib.hid hp
  rw [← hc] at c1
  rw [← hr] at c2
  clear hc hr hp
  go_enter Try.func10, Try.ntmps10
  rcases hc6 : decide (c ≤ 600) with _ | _
  · have hc7 : ¬ c ≤ 600 := by simpa using hc6
    rw [hc6] at HP
    have HQ := Lib.hid HP
    clear HP hc6
    go_wp2_with (go_at_call 29; (with_reducible refine (c1 _ ?_).mono ?_); (exact one_below w _); rintro e w1 ⟨rfl, hb1⟩)
    go_ret
    exact ⟨ret_bool (a := false) (by rw [HQ.out.out]; rfl), (one_below w _).trans (hb1.mono (by simp))⟩
  · have hc7 : c ≤ 600 := by simpa using hc6
    rw [hc6] at HP
    have HQ := Lib.hid HP
    clear HP hc6
    go_wp2_with (go_at_call 29; (with_reducible refine (c1 _ ?_).mono ?_); (exact one_below w _); rintro e w1 ⟨rfl, hb1⟩; obtain ⟨q0, q1, q2, q3⟩ := box4 hb1)
    have hw1 : Below w.heap.size w w1 := (one_below w _).trans (hb1.mono (by simp))
    have call := c2 w1 hw1
    clear c1 c2
    go_wp2_with (go_at_call 30; (with_reducible refine call.mono ?_); rintro e w2 ⟨rfl, hb2⟩)
    go_ret
    exact ⟨ret_bool (a := r) (by rw [HQ.out.out]; simp), hw1.trans (hb2.mono hw1.size)⟩

end Go.Proofs.Yteoheeddjddekaa

namespace Go.Proofs.Yteoheeddjddekaa
open Go.RowKit
set_option linter.unusedSimpArgs false
set_option linter.unusedVariables false

theorem Tm.mOk_proper (t : Tm) : Tm.mOk t 0 1 = Tm.proper t := by
  unfold Tm.mOk Tm.proper; rw [Nat.zero_add]
theorem Tm.proper_sz {t : Tm} (h : Tm.proper t = true) : Tm.sz t ≤ 600 := by
  unfold Tm.proper at h; simp only [Bool.and_eq_true, decide_eq_true_eq] at h; exact h.1

/-- the method measure, called on a meter that was just made -/
theorem measure_new (o h n : Int) (v : Value) (l : List Tm) (w : World) (cs : Array Value) (t : TypeId) (hv : Lies w (fun _ => True) v l) :
    Calls Try.prog 86 #[.pointer (some ⟨w.heap.size + 1, 0, none⟩), .agg #[.int .i64 o, .int .i64 h, .int .i64 n, v], .int .i64 1] ((w.alloc (.cells cs t)).alloc (.cells #[.int .i64 0, .int .i64 0] 113))
      fun e w' => e = .returned (.bool (Tm.proper (.mk o h n l))) ∧ Below w.heap.size w w' ∧ ∃ c' d' : Int, w'.cell? ⟨w.heap.size + 1, 0, none⟩ = some (.int .i64 c') ∧ w'.cell? ⟨w.heap.size + 1, 1, none⟩ = some (.int .i64 d') ∧
        (Tm.proper (.mk o h n l) = true → c' = (Tm.sz (.mk o h n l) : Nat) ∧ d' = (Tm.depth (.mk o h n l) : Nat)) := by
  have h2 := two_below w (.cells cs t) (.cells #[.int .i64 0, .int .i64 0] 113)
  have hB : ((w.alloc (.cells cs t)).alloc (.cells #[.int .i64 0, .int .i64 0] 113)).heap[w.heap.size + 1]? = some (.cells #[.int .i64 ((0 : Nat) : Int), .int .i64 ((0 : Nat) : Int)] 113 (0, 0)) := by
    have := heap_alloc_new (w.alloc (.cells cs t)) (.cells #[.int .i64 0, .int .i64 0] 113)
    simpa using this
  have hv' : Lies ((w.alloc (.cells cs t)).alloc (.cells #[.int .i64 0, .int .i64 0] 113)) (· ≠ w.heap.size + 1) v l :=
    (hv.more (S' := (· ≠ w.heap.size + 1)) (fun b hb _ => by omega)).keep h2
  have call := measure_calls (w.heap.size + 1) _ o h n v l _ 0 0 1 (Nat.le_refl _) hv' hB (by omega) (by omega)
  refine Calls.mono call ?_
  rintro e w1 ⟨rfl, ho, c', d', hb, himp⟩
  rw [Tm.mOk_proper] at himp ⊢
  refine ⟨rfl, ho.fresh h2 (by omega), c', d', cell_in hb 0 _ rfl, cell_in hb 1 _ rfl, fun hp => ?_⟩
  obtain ⟨e1, e2⟩ := himp hp
  exact ⟨by rw [e1, Nat.zero_add], by rw [e2]; congr 1; omega⟩

set_option maxHeartbeats 1000000 in
set_option maxRecDepth 100000 in
/-- isProper answers whether a term is proper. -/
theorem isProper_any (o h n : Int) (v : Value) (l : List Tm) (w : World) (hv : Lies w (fun _ => True) v l) :
    Calls Try.prog 70 #[.agg #[.int .i64 o, .int .i64 h, .int .i64 n, v]] w fun e w' => e = .returned (.bool (Tm.proper (.mk o h n l))) ∧ Below w.heap.size w w' := by
  obtain ⟨a2, n2, m2, rfl⟩ := hv.isSlice
  have call := measure_new o h n _ l w #[.int .i64 o, .int .i64 h, .int .i64 n, .slice a2 n2 m2] 25 hv
  clear hv
  go_enter Try.func70, Try.ntmps70
  go_wp2_with (go_at_call 86; (with_reducible refine call.mono ?_); rintro e w1 ⟨rfl, hb1, c', d', hc1, hc2, himp⟩)
  go_ret
  exact ⟨rfl, hb1⟩

set_option maxHeartbeats 1000000 in
set_option maxRecDepth 100000 in
/-- Check answers OK, or ErrArg if a term is not proper. -/
theorem check_any (o h n : Int) (v : Value) (l : List Tm) (w : World) (hv : Lies w (fun _ => True) v l) :
    Calls Try.prog 65 #[.agg #[.int .i64 o, .int .i64 h, .int .i64 n, v]] w fun e w' => e = .returned (.int .i64 (if Tm.proper (.mk o h n l) then 0 else 2)) ∧ Below w.heap.size w w' := by
  obtain ⟨a2, n2, m2, rfl⟩ := hv.isSlice
  have hb0 := one_below w (.cells #[.int .i64 o, .int .i64 h, .int .i64 n, .slice a2 n2 m2] 25)
  have call := isProper_any o h n _ l _ (hv.keep hb0)
  rcases hp : Tm.proper (.mk o h n l) with _ | _
  all_goals
    rw [hp] at call
    clear hv hp
    go_enter Try.func65, Try.ntmps65
    go_wp2_with (go_at_call 70; (with_reducible refine call.mono ?_); rintro e w1 ⟨rfl, hb1⟩)
    go_ret
    exact ⟨rfl, hb0.trans (hb1.mono (by simp))⟩

/-- what Size returns -/
def sizeOf (t : Tm) : Ending := if Tm.proper t then .returned (.tuple #[.int .i64 (Tm.sz t : Nat), .int .i64 (Tm.depth t : Nat), .int .i64 0]) else .returned (.tuple #[.int .i64 0, .int .i64 0, .int .i64 2])

end Go.Proofs.Yteoheeddjddekaa

namespace Go.Proofs.Yteoheeddjddekaa
open Go.RowKit
set_option maxRecDepth 100000

section
variable {H : Type} {enc : TypeId × Value → H} {w : World} {base : Nat} {spare : Nat → Bool} {held : Bool}

theorem tm_cells : Try.prog.cellsOf 25 = 4 := by kernel_rfl
theorem tm_cellsI : Try.prog.cellsOf 3 = 1 := by kernel_rfl
theorem tm_cellsS : Try.prog.cellsOf 23 = 1 := by kernel_rfl

/-- what a number that is read is between -/
def I64 (n : Int) : Prop := -9223372036854775808 ≤ n ∧ n ≤ 9223372036854775807
theorem I64.of {n : Int} (h : (Lit.int .i64 n).wf = true) : I64 n := by
  exact bounds_i64 h

def OpenT (w : World) (cs : List Value) : Prop := ∃ (o h n : Int) (v : Value) (l : List Tm), cs = [.int .i64 o, .int .i64 h, .int .i64 n, v] ∧ I64 o ∧ I64 h ∧ I64 n ∧ Lies w (fun _ => True) v l
def OpenL (w : World) (cs : List Value) : Prop := ∃ (v : Value) (l : List Tm), cs = [v] ∧ Lies w (fun _ => True) v l

theorem open_int_cell {fuel : Nat} {c : Value} {x : DataW H × List MemPlace} (h : DataW.trod enc Try.prog w base spare held fuel 3 [c] = some x) : ∃ n, c = .int .i64 n ∧ I64 n := by
  obtain ⟨n, hc, _, hw⟩ := DataW.trod_int Try.underlying3 h
  exact ⟨n, by simpa using hc, I64.of hw⟩

theorem open_tm_step (fuel : Nat) (ih : ∀ (cs : List Value) (x : DataW H × List MemPlace), DataW.trod enc Try.prog w base spare held fuel 23 cs = some x → OpenL w cs)
    (cs : List Value) (x : DataW H × List MemPlace) (h : DataW.trod enc Try.prog w base spare held (fuel + 1) 25 cs = some x) : OpenT w cs := by
  obtain ⟨xs, n, hn, _, hl, hlen, hf⟩ := DataW.trod_struct Try.underlying25 h
  obtain rfl : fuel = n := by omega
  rw [tm_cells] at hl
  match cs, hl with
  | [c0, c1, c2, c3], _ =>
    match xs, hlen with
    | [y0, y1, y2, y3], _ =>
      have h0 : DataW.trod enc Try.prog w base spare held fuel 3 [c0] = some y0 := by simpa [tm_cellsI] using hf 0 _ rfl
      have h1 : DataW.trod enc Try.prog w base spare held fuel 3 [c1] = some y1 := by simpa [tm_cellsI] using hf 1 _ rfl
      have h2 : DataW.trod enc Try.prog w base spare held fuel 3 [c2] = some y2 := by simpa [tm_cellsI] using hf 2 _ rfl
      have h3 : DataW.trod enc Try.prog w base spare held fuel 23 [c3] = some y3 := by simpa [tm_cellsS] using hf 3 _ rfl
      obtain ⟨o, rfl, ro⟩ := open_int_cell h0
      obtain ⟨hd, rfl, rh⟩ := open_int_cell h1
      obtain ⟨n, rfl, rn⟩ := open_int_cell h2
      obtain ⟨v, l, hv, lies⟩ := ih _ _ h3
      exact ⟨o, hd, n, v, l, by simp at hv; rw [hv], ro, rh, rn, lies⟩

theorem open_list_step (fuel : Nat) (ih : ∀ (cs : List Value) (x : DataW H × List MemPlace), DataW.trod enc Try.prog w base spare held fuel 25 cs = some x → OpenT w cs)
    (cs : List Value) (x : DataW H × List MemPlace) (h : DataW.trod enc Try.prog w base spare held (fuel + 1) 23 cs = some x) : OpenL w cs := by
  rcases DataW.trod_slice Try.underlying23 h with ⟨rfl, _⟩ | ⟨a, len, cap, elems, rest, n, hn, rfl, _, _, hl, hm, hlen, hel, _, _⟩
  · exact ⟨_, [], rfl, Lies.nil w _⟩
  · obtain rfl : fuel = n := by omega
    rw [tm_cells] at hel
    have each : ∀ i, ∃ y : Int × Int × Int × Value × List Tm, i < len → (w.cell? (a.add (i * 4)) = some (.int .i64 y.1) ∧ w.cell? ((a.add (i * 4)).add 1) = some (.int .i64 y.2.1) ∧ w.cell? ((a.add (i * 4)).add 2) = some (.int .i64 y.2.2.1) ∧ w.cell? ((a.add (i * 4)).add 3) = some y.2.2.2.1 ∧
        I64 y.1 ∧ I64 y.2.1 ∧ I64 y.2.2.1 ∧ Lies w (fun _ => True) y.2.2.2.1 y.2.2.2.2) := by
      intro i
      by_cases hi : i < len
      · have e := hel i hi
        rw [List.getElem?_eq_getElem (by omega), Option.bind_eq_some_iff] at e
        obtain ⟨cs', hc, ht⟩ := e
        obtain ⟨o, h, n, v, l, rfl, ro, rh, rn, lies⟩ := ih _ _ ht
        obtain ⟨_, _, hat⟩ := World.cells?_some hc
        refine ⟨(o, h, n, v, l), fun _ => ⟨?_, by simpa using hat 1 (by omega), by simpa using hat 2 (by omega), by simpa using hat 3 (by omega), ro, rh, rn, lies⟩⟩
        simpa [Addr.add] using hat 0 (by omega)
      · exact ⟨(0, 0, 0, .slice none 0 0, []), fun h => absurd h hi⟩
    obtain ⟨g, hg⟩ := Classical.axiomOfChoice each
    have spot : 0 < len → a = ⟨a.block, a.off, none⟩ := by
      intro h0
      have e := (hg 0 h0).1
      simp only [Nat.zero_mul, Addr.add, if_true] at e
      obtain ⟨b, off, sp⟩ := a
      unfold World.cell? at e
      simp only at e ⊢
      split at e
      · cases sp with
        | none => rfl
        | some s => simp at e
      · cases e
    have at0 : ∀ i, i < len → ∀ j, ((a.add (i * 4)).add j) = ⟨a.block, a.off + i * 4 + j, none⟩ := by
      intro i hi j
      rw [spot (by omega)]
      unfold Addr.add
      by_cases e1 : i * 4 = 0 <;> by_cases e2 : j = 0 <;> simp [e1, e2]
    refine ⟨_, _, rfl, Lies.row (some a) a.block a.off len cap (fun i => (g i).1) (fun i => (g i).2.1) (fun i => (g i).2.2.1) (fun i => (g i).2.2.2.1) (fun i => (g i).2.2.2.2) (fun h0 => by rw [← spot h0]) (fun _ => trivial) hl hm ?_ ?_ ?_ ?_ (fun i hi => (hg i hi).2.2.2.2.1) (fun i hi => (hg i hi).2.2.2.2.2.1) (fun i hi => (hg i hi).2.2.2.2.2.2.1) (fun i hi => (hg i hi).2.2.2.2.2.2.2)⟩
    · intro i hi
      have e := (hg i hi).1
      have q := at0 i hi 0
      simp only [Addr.add, if_true, Nat.add_zero] at q e
      rw [← q]; exact e
    · intro i hi; rw [← at0 i hi 1]; exact (hg i hi).2.1
    · intro i hi; rw [← at0 i hi 2]; exact (hg i hi).2.2.1
    · intro i hi; rw [← at0 i hi 3]; exact (hg i hi).2.2.2.1

theorem open_both : ∀ fuel : Nat, (∀ (cs : List Value) (x : DataW H × List MemPlace), DataW.trod enc Try.prog w base spare held fuel 25 cs = some x → OpenT w cs) ∧
    (∀ (cs : List Value) (x : DataW H × List MemPlace), DataW.trod enc Try.prog w base spare held fuel 23 cs = some x → OpenL w cs)
  | 0 => ⟨fun _ _ h => by simp [DataW.trod] at h, fun _ _ h => by simp [DataW.trod] at h⟩
  | fuel + 1 => ⟨open_tm_step fuel (open_both fuel).2, open_list_step fuel (open_both fuel).1⟩

open Go.ChangeShapes Go.WideShapes in
/-- a parameter that is a term -/
theorem open_term {r : Reach} {b0 : Nat} {v : Value} {d : DataW H} {p : List MemPlace} (hv : Value.okWide Try.prog w r b0 25 v) (h : DataW.Trod enc Try.prog w base spare held 25 v d p) :
    ∃ (o h n : Int) (s : Value) (l : List Tm), v = .agg #[.int .i64 o, .int .i64 h, .int .i64 n, s] ∧ I64 o ∧ I64 h ∧ I64 n ∧ Lies w (fun _ => True) s l := by
  obtain ⟨cs, rfl, hsz⟩ := okWide_struct Try.underlying25 hv
  obtain ⟨fuel, hf⟩ := h
  obtain ⟨o, h, n, s, l, hc, r⟩ := (open_both fuel).1 _ _ hf
  refine ⟨o, h, n, s, l, ?_, r⟩
  have e : cs.toList = [.int .i64 o, .int .i64 h, .int .i64 n, s] := by simpa [Value.cells] using hc
  obtain ⟨cl⟩ := cs
  simp at e
  rw [e]

open Go.ChangeShapes Go.WideShapes in
/-- a parameter that is a list of terms -/
theorem open_terms {r : Reach} {b0 : Nat} {v : Value} {d : DataW H} {p : List MemPlace} (hv : Value.okWide Try.prog w r b0 23 v) (h : DataW.Trod enc Try.prog w base spare held 23 v d p) :
    ∃ l : List Tm, Lies w (fun _ => True) v l := by
  obtain ⟨a0, len, cap, rfl⟩ := okWide_slice Try.underlying23 hv
  obtain ⟨fuel, hf⟩ := h
  obtain ⟨v, l, hc, r⟩ := (open_both fuel).2 _ _ hf
  refine ⟨l, ?_⟩
  simp [Value.cells] at hc
  rw [hc]; exact r

end
end Go.Proofs.Yteoheeddjddekaa
