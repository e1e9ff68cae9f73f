/- slices.Backward over a slice of terms: the contract of its iterator. -/
import Derived.Test.YtnooeaefldklaaaTmClone
import Derived.RangeFuncNested
import Derived.RangeFuncLeaves
import Derived.Shelf.Abstract
import Derived.OwnWalkIn
import Derived.TacticsInMore
import Derived.LoopNIn
import Derived.LoopIn
namespace Go.Proofs.Ytnooeaefldklaaa
open Go.RowKit Go.Shelf
set_option linter.unusedSimpArgs false
set_option linter.unusedVariables false
attribute [local go_sem] Oper.semAt_some

/-- The blocks below n₀, and the block Bs, are as they were. -/
structure KeepR (n₀ Bs : Nat) (W W' : World) : Prop where
  size : W.heap.size ≤ W'.heap.size
  block : ∀ k, (k = Bs ∨ k < n₀) → k < W.heap.size → W'.heap[k]? = W.heap[k]?
theorem KeepR.refl (n₀ Bs : Nat) (W : World) : KeepR n₀ Bs W W := ⟨Nat.le_refl _, fun _ _ _ => rfl⟩
theorem KeepR.trans {n₀ Bs : Nat} {A B C : World} (h : KeepR n₀ Bs A B) (g : KeepR n₀ Bs B C) : KeepR n₀ Bs A C :=
  ⟨Nat.le_trans h.size g.size, fun k hk hlt => (g.block k hk (Nat.lt_of_lt_of_le hlt h.size)).trans (h.block k hk hlt)⟩
theorem KeepR.kept {n₀ Bs : Nat} {W W' : World} (h : KeepR n₀ Bs W W') {p : Addr} {u : Value} (hp : p.block = Bs ∨ p.block < n₀) (e : W.cell? p = some u) : W'.cell? p = some u := by
  rw [World.cell?_of_block (h.block _ hp (World.block_lt_of_cell? W p e))]; exact e
theorem KeepR.below {n₀ Bs : Nat} {W W' : World} (h : Below W.heap.size W W') : KeepR n₀ Bs W W' := ⟨h.size, fun k _ hlt => h.block k hlt⟩

/-- WHAT HAS COME WHEN k ROUNDS ARE OVER: f 0, .., f (k - 1). -/
def uptoF {α : Type} (f : Nat → α) (k : Nat) : List α := (List.range k).map f
theorem uptoF_succ {α : Type} (f : Nat → α) (k : Nat) : uptoF f (k + 1) = uptoF f k ++ [f k] := by simp [uptoF, List.range_succ]
theorem uptoF_length {α : Type} (f : Nat → α) (k : Nat) : (uptoF f k).length = k := by simp [uptoF]

/-- the indices of a slice -/
abbrev Idx (len : Nat) := { i : Nat // i < len }
/-- from the last one to the first one -/
def fromLast (len : Nat) (h : 0 < len) (r : Nat) : Idx len := ⟨len - 1 - r, by omega⟩

section
variable {len : Nat} {oo hh kk : Nat → Int} {sv : Nat → Value}
/-- what a round is handed -/
def encT (oo hh kk : Nat → Int) (sv : Nat → Value) (x : Idx len) : Array Value := #[.int .i64 (x.1 : Int), .agg #[.int .i64 (oo x.1), .int .i64 (hh x.1), .int .i64 (kk x.1), sv x.1]]

set_option maxRecDepth 100000 in
set_option maxHeartbeats 2000000 in
theorem bwd1_in (F : Fence) (n : Nat) (hF : F.fn 89) (hro : F.round = none) (hn : 1 ≤ n) (l Bs n₀ b off cap : Nat) (h0 : 0 < len) (hl : len ≤ 9223372036854775807) (hb : b < n₀) (J Jx : List (Idx len) → World → Prop)
    (hsl : ∀ i, i < len → ∃ a m c, sv i = .slice a m c)
    (hY : ∀ pre x W, J pre W → pre.length < len → YieldAt F (n - 1) Try.prog l (encT oo hh kk sv x) W fun e W' =>
      (e = .returned (.bool true) ∧ J (pre ++ [x]) W' ∧ KeepR n₀ Bs W W') ∨ (e = .returned (.bool false) ∧ Jx (pre ++ [x]) W'))
    (W : World) (hBs : W.cell? ⟨Bs, 0, none⟩ = some (.slice (some ⟨b, off, none⟩) len cap))
    (hc : ∀ j, j < len → W.cell? ⟨b, off + j * 4, none⟩ = some (.int .i64 (oo j)) ∧ W.cell? ⟨b, off + j * 4 + 1, none⟩ = some (.int .i64 (hh j)) ∧ W.cell? ⟨b, off + j * 4 + 2, none⟩ = some (.int .i64 (kk j)) ∧ W.cell? ⟨b, off + j * 4 + 3, none⟩ = some (sv j)) (hJ0 : J [] W) :
    CallsIn F n Try.prog 89 #[.func (.yield l) #[] #[], .pointer (some ⟨Bs, 0, none⟩)] W fun e W' => (∃ v, e = .returned v) ∧
      ((∃ ys, ys = uptoF (fromLast len h0) len ∧ J ys W') ∨ (∃ pre, (∃ k, k ≤ len ∧ pre = uptoF (fromLast len h0) k) ∧ Jx pre W')) := by
  refine callsIn_of_wp Try.func89 rfl hF ?_ hro
  simp only [Try.ntmps89, List.size_toArray, List.length_cons, List.length_nil, Nat.reduceAdd, Nat.reduceSub, Array.replicate_succ, Array.replicate_zero, List.push_toArray, List.append_toArray, List.nil_append, List.cons_append]
  have HC := Lib.hid hc
  have HBS := Lib.hid hBs
  clear hc
  gi_wp2
  gi_loopw [3] (fun i wr => KeepR n₀ Bs W wr ∧ ((∃ j : Nat, j < len ∧ i = .int .i64 j ∧ J (uptoF (fromLast len h0) (len - 1 - j)) wr) ∨ (i = .int .i64 (-1) ∧ J (uptoF (fromLast len h0) len) wr)))
    (fun i _ => (RowKit.intOf i + 1).toNat)
  case atStart => exact ⟨KeepR.refl _ _ _, .inl ⟨len - 1, by omega, by congr 1; omega, by rw [Nat.sub_self]; exact hJ0⟩⟩
  case round =>
    obtain ⟨hnx, ⟨j, hj, rfl, hJs⟩ | ⟨rfl, hJs⟩⟩ := hrel
    · obtain ⟨c0, c1, c2, c3⟩ := HC.out j hj
      have d0 := hnx.kept (.inr hb) c0
      have d1 := hnx.kept (.inr hb) c1
      have d2 := hnx.kept (.inr hb) c2
      have d3 := hnx.kept (.inr hb) c3
      have ds := hnx.kept (.inl rfl) HBS.out
      clear c0 c1 c2 c3
      obtain ⟨sa, sm, sc, hsv⟩ := hsl j hj
      have hyy := hY _ ⟨j, hj⟩ wr hJs (by rw [uptoF_length]; omega)
      unfold encT at hyy
      dsimp only at hyy
      rw [hsv] at d3 hyy
      obtain ⟨fn, tmps, assign, body, hy, hR⟩ := hyy
      have hj0 : (0 : Int) ≤ (j : Int) := by omega
      have hj1 : (j : Int) < (len : Int) := by omega
      clear hJs hY hBs
      gi_wp2
      refine hR.mono ?_
      rintro e W3 (⟨rfl, hJ3, hk3⟩ | ⟨rfl, hJx3⟩)
      · gi_wp2
        go_roundw
        case rel =>
          refine ⟨hnx.trans hk3, ?_⟩
          have e1 : uptoF (fromLast len h0) (len - 1 - j) ++ [(⟨j, hj⟩ : Idx len)] = uptoF (fromLast len h0) (len - 1 - j + 1) := by
            rw [uptoF_succ]; congr 2; unfold fromLast; apply Subtype.ext; simp; omega
          rw [e1] at hJ3
          by_cases hz : j = 0
          · subst hz
            refine .inr ⟨by go_num, ?_⟩
            have : len - 1 - 0 + 1 = len := by omega
            rwa [this] at hJ3
          · refine .inl ⟨j - 1, by omega, by congr 1; omega, ?_⟩
            have : len - 1 - j + 1 = len - 1 - (j - 1) := by omega
            rwa [this] at hJ3
        case measure => simp [RowKit.intOf]
      · gi_wp2
        refine bodyPost_ret (results_none rfl _ _ _) rfl ?_
        refine ⟨⟨_, rfl⟩, .inr ⟨_, ⟨len - 1 - j + 1, by omega, ?_⟩, hJx3⟩⟩
        rw [uptoF_succ]; congr 2; unfold fromLast; apply Subtype.ext; simp; omega
    · gi_wp2
      go_end0
      exact ⟨⟨_, rfl⟩, .inl ⟨_, rfl, hJs⟩⟩

set_option maxRecDepth 100000 in
set_option maxHeartbeats 1000000 in
theorem bwd1_nil_in (F : Fence) (n : Nat) (hF : F.fn 89) (hro : F.round = none) (l Bs : Nat) (a : Option Addr) (cap : Nat) (J : List (Idx 0) → World → Prop) (W : World) (hBs : W.cell? ⟨Bs, 0, none⟩ = some (.slice a 0 cap)) (h0 : J [] W) :
    CallsIn F n Try.prog 89 #[.func (.yield l) #[] #[], .pointer (some ⟨Bs, 0, none⟩)] W fun e W' => (∃ v, e = .returned v) ∧ J [] W' := by
  refine callsIn_of_wp Try.func89 rfl hF ?_ hro
  simp only [Try.ntmps89, List.size_toArray, List.length_cons, List.length_nil, Nat.reduceAdd, Nat.reduceSub, Array.replicate_succ, Array.replicate_zero, List.push_toArray, List.append_toArray, List.nil_append, List.cons_append]
  gi_wp2
  gi_loopw [3] (fun i wr => i = .int .i64 (-1) ∧ J [] wr) (fun _ _ => 0)
  case atStart => exact ⟨rfl, h0⟩
  case round =>
    obtain ⟨rfl, hJs⟩ := hrel
    gi_wp2
    go_end0
    exact ⟨⟨_, rfl⟩, hJs⟩

set_option maxHeartbeats 1000000 in
theorem bwd_in (F : Fence) (n : Nat) (hF : F.fn 67) (hro : F.round = none) (a : Option Addr) (len cap : Nat) (w : World) :
    CallsIn F n Try.prog 67 #[.slice a len cap] w fun e w' => e = .returned (.func (.func 89) #[] #[.pointer (some ⟨w.heap.size, 0, none⟩)]) ∧ w' = w.alloc (.cells #[.slice a len cap] 22) := by
  refine callsIn_of_wp Try.func67 rfl hF ?_ hro
  simp only [Try.ntmps67, List.size_toArray, List.length_cons, List.length_nil, Nat.reduceAdd, Nat.reduceSub, Array.replicate_succ, Array.replicate_zero, List.push_toArray, List.append_toArray, List.nil_append, List.cons_append]
  gi_wp2
  go_ret
  exact ⟨rfl, rfl⟩

/-- the indices from the last one to the first one -/
def backOf (len : Nat) : List (Idx len) := if h : 0 < len then uptoF (fromLast len h) len else []

/-- **slices.Backward(s) HANDS BACK A VALUE THAT 'SeqStopsK', AT 'Kp := KeepR n₀ Bs'.** -/
theorem bwd_stops (F : Fence) (n : Nat) (hF : F.fn 89) (hro : F.round = none) (hn : 1 ≤ n) (Bs n₀ b off cap : Nat) (ao : Option Addr) (w : World) 
    (hl : len ≤ 9223372036854775807) (hao : 0 < len → ao = some ⟨b, off, none⟩ ∧ b < n₀) (hsl : ∀ i, i < len → ∃ a m c, sv i = .slice a m c)
    (hs : w.cell? ⟨Bs, 0, none⟩ = some (.slice ao len cap))
    (hc : ∀ j, j < len → w.cell? ⟨b, off + j * 4, none⟩ = some (.int .i64 (oo j)) ∧ w.cell? ⟨b, off + j * 4 + 1, none⟩ = some (.int .i64 (hh j)) ∧ w.cell? ⟨b, off + j * 4 + 2, none⟩ = some (.int .i64 (kk j)) ∧ w.cell? ⟨b, off + j * 4 + 3, none⟩ = some (sv j)) :
    SeqStopsK F n Try.prog 89 #[.pointer (some ⟨Bs, 0, none⟩)] (encT (len := len) oo hh kk sv) (KeepR n₀ Bs) (fun ys => ys = backOf len) (fun _ => True) len w := fun l J Jx W hW _ _ hY h0 => by
  have hW' : KeepR n₀ Bs w W := KeepR.below hW
  have hs' := hW'.kept (.inl rfl) hs
  by_cases hz : 0 < len
  · obtain ⟨rfl, hb⟩ := hao hz
    refine (bwd1_in F n hF hro hn l Bs n₀ b off cap hz hl hb J Jx hsl hY W hs' (fun j hj => ?_) h0).mono ?_
    · obtain ⟨c0, c1, c2, c3⟩ := hc j hj
      exact ⟨hW'.kept (.inr hb) c0, hW'.kept (.inr hb) c1, hW'.kept (.inr hb) c2, hW'.kept (.inr hb) c3⟩
    · rintro e W' ⟨he, ⟨ys, rfl, hj⟩ | ⟨pre, _, hj⟩⟩
      · exact ⟨he, .inl ⟨_, by unfold backOf; rw [dif_pos hz], hj⟩⟩
      · exact ⟨he, .inr ⟨_, trivial, hj⟩⟩
  · obtain rfl : len = 0 := by omega
    exact (bwd1_nil_in F n hF hro l Bs ao cap J W hs' h0).mono fun e W' ⟨he, hj⟩ => ⟨he, .inl ⟨_, rfl, hj⟩⟩
end
end Go.Proofs.Ytnooeaefldklaaa
