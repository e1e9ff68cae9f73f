/- The contracts of the closure that term.numbers hands on and of term.visit: the numbers of one kind of heads. -/
import Derived.Test.YteoheeddjddekaaTmConP
import Derived.Test.YteoheeddjddekaaTmGc
import Derived.Test.YteoheeddjddekaaTmGb
namespace Go.Proofs.Yteoheeddjddekaa.VH
open Go.RowKit Go.Maps
set_option linter.unusedSimpArgs false
set_option linter.unusedVariables false

theorem lt_of_block' {w : World} {k : Nat} {o : Obj} (h : w.heap[k]? = some o) : k < w.heap.size := (Array.getElem?_eq_some_iff.1 h).1

/-- the function that says which numbers are asked for, and what it has captured -/
def fv (C : Nat) : Value := .func (.func 75) #[] #[.pointer (some ⟨C, 0, none⟩)]
def capAt (C : Nat) (x : Int) (w : World) : Prop := w.heap[C]? = some (.cells #[.int .i64 x] 3 (0, 0))
theorem capAt.below {C : Nat} {x : Int} {w w' : World} (h : capAt C x w) (hb : Below w.heap.size w w') : capAt C x w' := heap_kept hb h
theorem capAt.other {C B : Nat} {x : Int} {w w' : World} (h : capAt C x w) (hg : w.grownBy w' (some B)) (hC : C ≠ B) : capAt C x w' := (hg.block C (lt_of_block' h) (by simpa using hC)).trans h
def selB (x _ h _ : Int) : Bool := h == x
def selN (_ n : Int) : Int := n
set_option maxHeartbeats 1000000 in
set_option maxRecDepth 100000 in
theorem num_any (o h n : Int) (a2 : Option Addr) (n2 m2 : Nat) (b x : Int) (C : Nat) (w : World) (hb0 : 0 ≤ b) (hb1 : b ≤ 20000) (hn0 : 0 ≤ n) (hn1 : n ≤ 9999) (hc : capAt C x w) :
    Calls Try.prog 75 #[.agg #[.int .i64 o, .int .i64 h, .int .i64 n, .slice a2 n2 m2], .int .i64 b, .pointer (some ⟨C, 0, none⟩)] w fun e w' => e = .returned (.tuple #[.int .i64 (selN b n), .bool (selB x b h n)]) ∧ Below w.heap.size w w' := by
  have hb := one_below w (.cells #[.int .i64 o, .int .i64 h, .int .i64 n, .slice a2 n2 m2] 25)
  have r1 := cell_of_one (hc.below hb)
  clear hc
  go_enter Try.func75, Try.ntmps75
  go_wp2
  go_quiet (fail)
  go_wp2
  go_ret2
  exact ⟨rfl, below_drawn (one_below w _) _⟩

def sel (x : Int) : Int → Int → Int → Int → Option Int := fun b _ h n => if selB x b h n then some (selN b n) else none

/-- the cells that the closure has captured, and the set of what has been found -/
structure VSt (H : Type) (N M B C : Nat) (x : Int) (K : Nat) (acc : List Int) (w : World) : Prop where
  f : w.heap[N]? = some (.cells #[fv C] 86 (0, 0))
  m : w.heap[M]? = some (.cells #[.map (some B)] 100 (0, 0))
  c : capAt C x w
  own : w.ownsMap Try.prog 3 (plainElem (H := H) Try.prog 4) B K (setOf (.lit (.bool true)) (acc.map (Lit.int .i64)))

section
variable {H : Type} {N M B C K : Nat} {x : Int} {acc : List Int} {w w' : World}
theorem VSt.ltM (h : VSt H N M B C x K acc w) : M < w.heap.size := lt_of_block h.m
theorem VSt.below (h : VSt H N M B C x K acc w) (hb : Below w.heap.size w w') : VSt H N M B C x K acc w' := by
  refine ⟨heap_kept hb h.f, heap_kept hb h.m, h.c.below hb, ?_⟩
  obtain ⟨es, clock, h1, h2, h3, h4⟩ := h.own
  exact ⟨es, clock, heap_kept hb h1, h2, h3, h4⟩
theorem VSt.more (h : VSt H N M B C x K acc w) {K' : Nat} (hk : K ≤ K') : VSt H N M B C x K' acc w := ⟨h.f, h.m, h.c, h.own.mono hk⟩
theorem VSt.note (h : VSt H N M B C x K acc w) (hg : w.grownBy w' (some B)) {n : Int} {d : DataW H} (hd : d = .lit (.bool true)) (ho : w'.ownsMap Try.prog 3 (plainElem (H := H) Try.prog 4) B (K + 1) ((setOf (.lit (.bool true)) (acc.map (Lit.int .i64))).put (.int .i64 n) d)) (hN : N ≠ B) (hM : M ≠ B) (hC : C ≠ B) : VSt H N M B C x (K + 1) (acc ++ [n]) w' := by
  subst hd
  have hb : ∀ k, k ≠ B → ∀ o, w.heap[k]? = some o → w'.heap[k]? = some o := fun k hk o e => by rw [hg.block k (lt_of_block' e) (by simpa using hk)]; exact e
  refine ⟨hb _ hN _ h.f, hb _ hM _ h.m, h.c.other hg hC, ?_⟩
  rw [List.map_append, List.map_singleton, setOf_snoc]
  exact ho
end

/-- what the closure and visit leave -/
def VPost (H : Type) (N M B C : Nat) (x : Int) (K : Nat) (acc : List Int) (w : World) (e : Ending) (w' : World) : Prop := (∃ v, e = .returned v) ∧ VSt H N M B C x K acc w' ∧ Only B w w'

theorem law : Keyed Try.prog 3 := int_keyed Try.underlying3

set_option maxHeartbeats 1000000 in
set_option maxRecDepth 100000 in
theorem note_any {H : Type} (o h n : Int) (a2 : Option Addr) (n2 m2 : Nat) (b x : Int) (N M B C K : Nat) (acc : List Int) (w : World) (hb0 : 0 ≤ b) (hb1 : b ≤ 20000) (hn0 : 0 ≤ n) (hn1 : n ≤ 9999) (hK : K ≤ 100000)
    (hs : VSt H N M B C x K acc w) (hN : N ≠ B) (hM : M ≠ B) (hC : C ≠ B) :
    Calls Try.prog 72 #[.agg #[.int .i64 o, .int .i64 h, .int .i64 n, .slice a2 n2 m2], .int .i64 b, .pointer (some ⟨N, 0, none⟩), .pointer (some ⟨M, 0, none⟩)] w
      (VPost H N M B C x (K + 1) (acc ++ (sel x b o h n).toList) w) := by
  have hb := one_below w (.cells #[.int .i64 o, .int .i64 h, .int .i64 n, .slice a2 n2 m2] 25)
  have hs1 := hs.below hb
  have call := num_any o h n a2 n2 m2 b x C _ hb0 hb1 hn0 hn1 hs1.c
  have r1 := cell_of_one hs1.f
  unfold fv at r1
  have HS := Lib.hid hs1
  have hkey : keyOf Try.prog 3 (.int .i64 (selN b n)) = some (.int .i64 (selN b n)) := keyOf_int_mk Try.underlying3 (WalkArith.wf_i64 (by unfold selN; omega))
  have HKEY := Lib.hid hkey
  have hlt : B < w.heap.size := hs.own.lt
  clear hs hs1 hkey
  obtain ⟨nn, hnn⟩ : ∃ nn, nn = selN b n := ⟨_, rfl⟩
  rw [← hnn] at call HKEY
  have HNN := Lib.hid hnn
  clear hnn
  rcases h1 : selB x b h n with _ | _
  · have E : Hid ((sel x b o h n).toList = []) := by show _ = _; simp [sel, h1]
    rw [h1] at call
    clear h1
    go_enter Try.func72, Try.ntmps72
    go_wp2_with (go_at_call 75; (with_reducible refine call.mono ?_); rintro e w1 ⟨rfl, hb1⟩)
    go_end0
    refine ⟨⟨_, rfl⟩, ?_, (Only.below hb B).trans (Only.below hb1 B)⟩
    rw [E.out, List.append_nil]
    exact (HS.out.below hb1).more (Nat.le_succ _)
  · have E : Hid ((sel x b o h n).toList = [nn]) := by show _ = _; simp [sel, h1, HNN.out]
    rw [h1] at call
    clear h1
    go_enter Try.func72, Try.ntmps72
    go_wp2_with (first
      | (go_at_call 75; (with_reducible refine call.mono ?_); rintro e w1 ⟨rfl, hb1⟩; have s1 := Lib.hid (HS.out.below hb1); have r2 := cell_of_one s1.out.m)
      | (at_mapUpdate; refine wpList_mapUpdate_own _ rfl _ _ _ 100 rfl 3 4 law Try.underlying100 _ B K _ rfl s1.out.own (by unfold maxLen; omega) _ _ _ rfl rfl HKEY.out _ [] (plainElem_bool Try.underlying4 true) ?_; intro w2 hown2 hgrow2))
    go_end0
    refine ⟨⟨_, rfl⟩, ?_, ((Only.below hb B).trans (Only.below hb1 B)).trans hgrow2⟩
    rw [E.out]
    exact s1.out.note hgrow2 rfl hown2 hN hM hC

abbrev Cells8 (W : World) (b1 b2 : Nat) (u1 u2 u3 u4 u5 u6 u7 u8 : Value) : Prop :=
  W.cell? ⟨b1, 0, none⟩ = some u1 ∧ W.cell? ⟨b1, 1, none⟩ = some u2 ∧ W.cell? ⟨b1, 2, none⟩ = some u3 ∧ W.cell? ⟨b1, 3, none⟩ = some u4 ∧ W.cell? ⟨b2, 0, none⟩ = some u5 ∧ W.cell? ⟨b2, 1, none⟩ = some u6 ∧ W.cell? ⟨b2, 2, none⟩ = some u7 ∧ W.cell? ⟨b2, 3, none⟩ = some u8
theorem cells8_below {W W' : World} {b1 b2 : Nat} {u1 u2 u3 u4 u5 u6 u7 u8 : Value} (hb : Below W.heap.size W W') (x : Cells8 W b1 b2 u1 u2 u3 u4 u5 u6 u7 u8) : Cells8 W' b1 b2 u1 u2 u3 u4 u5 u6 u7 u8 := by
  obtain ⟨x1, x2, x3, x4, x5, x6, x7, x8⟩ := x
  exact ⟨kept_cell hb x1, kept_cell hb x2, kept_cell hb x3, kept_cell hb x4, kept_cell hb x5, kept_cell hb x6, kept_cell hb x7, kept_cell hb x8⟩

theorem cells8_only {E : Nat} {W W' : World} {b1 b2 : Nat} {u1 u2 u3 u4 u5 u6 u7 u8 : Value} (h1 : b1 ≠ E) (h2 : b2 ≠ E) (hb : Only E W W') (x : Cells8 W b1 b2 u1 u2 u3 u4 u5 u6 u7 u8) : Cells8 W' b1 b2 u1 u2 u3 u4 u5 u6 u7 u8 := by
  obtain ⟨x1, x2, x3, x4, x5, x6, x7, x8⟩ := x
  exact ⟨hb.cell h1 x1, hb.cell h1 x2, hb.cell h1 x3, hb.cell h1 x4, hb.cell h2 x5, hb.cell h2 x6, hb.cell h2 x7, hb.cell h2 x8⟩

/-- what lies in memory when the first k parts have been visited -/
structure VTo (H : Type) (N M B C : Nat) (x : Int) (K : Nat) (acc : List Int) (w : World) (o h n b : Int) (ao : Option Addr) (len cap : Nat) (l : List Tm) (k : Nat) (wr : World) : Prop where
  st : VSt H N M B C x (K + (1 + Tm.szL (l.take k))) (acc ++ Tm.hdsTo (sel x) b o h n l k) wr
  only : Only B w wr
  box : wr.heap[w.heap.size]? = some (.cells #[.int .i64 o, .int .i64 h, .int .i64 n, .slice ao len cap] 25 (0, 0))

set_option maxHeartbeats 2000000 in
set_option maxRecDepth 100000 in
theorem visit_walk {H : Type} (N M B C : Nat) (x : Int) (hN : N ≠ B) (hM : M ≠ B) (hC : C ≠ B) (f : Nat)
    (ih : ∀ (o h n b : Int) (K : Nat) (acc : List Int) (v : Value) (l : List Tm) (w : World), Tm.sz (.mk o h n l) ≤ f → Tm.sz (.mk o h n l) ≤ 600 → Tm.nums (.mk o h n l) = true → 0 ≤ b → b + (Tm.sz (.mk o h n l) : Int) ≤ 20000 → K + Tm.sz (.mk o h n l) ≤ 100000 → Lies w (· ≠ B) v l → VSt H N M B C x K acc w →
      Calls Try.prog 71 #[.agg #[.int .i64 o, .int .i64 h, .int .i64 n, v], .int .i64 b, .func (.func 72) #[] #[.pointer (some ⟨N, 0, none⟩), .pointer (some ⟨M, 0, none⟩)]] w (VPost H N M B C x (K + Tm.sz (.mk o h n l)) (acc ++ Tm.hds (sel x) b (.mk o h n l)) w))
    (o h n b : Int) (K : Nat) (acc : List Int) (v : Value) (l : List Tm) (w : World) (hf : Tm.sz (.mk o h n l) ≤ f + 1) (h6 : Tm.sz (.mk o h n l) ≤ 600) (hn : Tm.nums (.mk o h n l) = true) (hb0 : 0 ≤ b) (hb1 : b + (Tm.sz (.mk o h n l) : Int) ≤ 20000) (hK : K + Tm.sz (.mk o h n l) ≤ 100000) (hv : Lies w (· ≠ B) v l) (hs : VSt H N M B C x K acc w) :
    Calls Try.prog 71 #[.agg #[.int .i64 o, .int .i64 h, .int .i64 n, v], .int .i64 b, .func (.func 72) #[] #[.pointer (some ⟨N, 0, none⟩), .pointer (some ⟨M, 0, none⟩)]] w (VPost H N M B C x (K + Tm.sz (.mk o h n l)) (acc ++ Tm.hds (sel x) b (.mk o h n l)) w) := by
  obtain ⟨ao, bb, off, len, cap, oo, hh, kk, sv, ts, rfl, R⟩ := hv.open
  have hr := R.hr
  have hl := R.hl
  have HL := Lib.hid R.length
  have hnb := Tm.nums_n hn
  have HNL := Lib.hid (Tm.nums_l hn)
  have HS := Lib.hid hs
  have HB : B < w.heap.size := hs.own.lt
  have hszp := Tm.sz_pos (.mk o h n l)
  have hszl : Tm.sz (.mk o h n l) = 1 + Tm.szL l := by simp [Tm.sz]
  have hlen6 : len ≤ 600 := by have := Tm.length_le_szL l; rw [HL.out] at this; omega
  have call1 := fun (w1 : World) (hs1 : VSt H N M B C x K acc w1) => note_any o h n ao len cap b x N M B C K acc w1 hb0 (by omega) hnb.1 hnb.2 (by omega) hs1 hN hM hC
  have hbb := one_below w (.cells #[.int .i64 o, .int .i64 h, .int .i64 n, .slice ao len cap] 25)
  have hn0 := heap_alloc_new w (.cells #[.int .i64 o, .int .i64 h, .int .i64 n, .slice ao len cap] 25)
  have HN0 := Lib.hid hn0
  have HZ := Lib.hid hszl
  clear hv hs hn hn0 hszl
  go_enter Try.func71, Try.ntmps71
  go_wp2_with (go_at_call 72; (with_reducible refine (call1 _ ?_).mono ?_); (exact HS.out.below hbb); rintro e w1 ⟨⟨ve, rfl⟩, hs1, ho1⟩; have z := Lib.hid ((ho1.block _ (by simp) (by omega)).trans HN0.out : w1.heap[w.heap.size]? = _); have z3 := cell_in z.out 3 _ rfl)
  have hTo : VTo H N M B C x K acc w o h n b ao len cap l 0 w1 := ⟨by rw [Tm.hdsTo_zero]; simpa [Tm.szL] using hs1, (Only.below hbb B).trans ho1, z.out⟩
  have HTO := Lib.hid hTo
  clear hTo
  go_loopw [15] (fun i wr => ∃ k : Nat, k ≤ len ∧ i = .int .i64 k ∧ VTo H N M B C x K acc w o h n b ao len cap l k wr) (fun i _ => len - (RowKit.intOf i).toNat)
  case atStart => exact ⟨0, Nat.zero_le _, rfl, HTO.out⟩
  case round =>
    clear z3 HTO
    obtain ⟨k, hk, rfl, T⟩ := hrel
    by_cases hlt : k < len
    · obtain rfl := R.hao (by omega)
      obtain ⟨d0, d1, d2, d3, hsub⟩ := R.atO T.only k hlt
      obtain ⟨a2, n2, m2, hs2⟩ := hsub.isSlice
      rw [hs2] at d3 hsub
      clear hs2
      have hszk := R.size hf k hlt
      have hs6 := R.size_lt (x := o) (y := h) (z := n) k hlt
      have hnk := Tm.numsL_mem HNL.out (R.mem k hlt)
      have hbl := Tm.belowN_bd o k
      have hkl : k < l.length := by rw [HL.out]; exact hlt
      have hst := Tm.hdsTo_step (sel x) b o h n l k hkl
      have htk := Tm.szL_take l k hkl
      have hle := Tm.szL_take_le l (k + 1)
      rw [R.get k hlt] at hst htk
      have HST := Lib.hid hst
      have HTK := Lib.hid htk
      have HNK := Lib.hid hnk
      have HT := Lib.hid T
      have hk0 : (0 : Int) ≤ (k : Int) := by omega
      have hk1 : (k : Int) < (len : Int) := by omega
      have hbn0 : 0 ≤ b + Tm.belowN o k := by omega
      have hbn1 : b + Tm.belowN o k + (Tm.sz (.mk (oo k) (hh k) (kk k) (ts k)) : Int) ≤ 20000 := by omega
      have hs7 : Tm.sz (.mk (oo k) (hh k) (kk k) (ts k)) ≤ 600 := by omega
      have hKk : K + (1 + Tm.szL (l.take k)) + Tm.sz (.mk (oo k) (hh k) (kk k) (ts k)) ≤ 100000 := by have := HZ.out; omega
      have hb2 : b ≤ 20000 := by omega
      have hrB : wr.heap.size ≠ B := by have := T.only.size; omega
      have hwB : w.heap.size ≠ B := by omega
      have hbX : Below wr.heap.size wr (wr.alloc (.cells #[.int .i64 (oo k), .int .i64 (hh k), .int .i64 (kk k), .slice a2 n2 m2] 25)).drew := ((Below.refl _ _).alloc (Nat.le_refl _) _).drew
      have hx0 : Cells8 (wr.alloc (.cells #[.int .i64 (oo k), .int .i64 (hh k), .int .i64 (kk k), .slice a2 n2 m2] 25)).drew wr.heap.size w.heap.size (.int .i64 (oo k)) (.int .i64 (hh k)) (.int .i64 (kk k)) (.slice a2 n2 m2) (.int .i64 o) (.int .i64 h) (.int .i64 n) (.slice (some ⟨bb, off, none⟩) len cap) := by
        have e3 := heap_kept hbX T.box
        have e2 : (wr.alloc (.cells #[.int .i64 (oo k), .int .i64 (hh k), .int .i64 (kk k), .slice a2 n2 m2] 25)).drew.heap[wr.heap.size]? = some (.cells #[.int .i64 (oo k), .int .i64 (hh k), .int .i64 (kk k), .slice a2 n2 m2] 25 (0, 0)) := heap_alloc_new wr _
        exact ⟨cell_in e2 0 _ rfl, cell_in e2 1 _ rfl, cell_in e2 2 _ rfl, cell_in e2 3 _ rfl, cell_in e3 0 _ rfl, cell_in e3 1 _ rfl, cell_in e3 2 _ rfl, cell_in e3 3 _ rfl⟩
      clear T hst hnk htk R
      go_wp2_with fail
      clear d0 d1 d2 d3
      go_region_held3 (fun W => Cells8 W wr.heap.size w.heap.size (.int .i64 (oo k)) (.int .i64 (hh k)) (.int .i64 (kk k)) (.slice a2 n2 m2) (.int .i64 o) (.int .i64 h) (.int .i64 n) (.slice (some ⟨bb, off, none⟩) len cap))
        (first | (with_reducible exact hx0) | (with_reducible exact cells8_below hb3 hx0) | (with_reducible exact cells8_only hrB hwB ho4 (cells8_below hb3 hx0)))
        (first | (go_at_call 87; (with_reducible refine (belowT_any o h n _ len cap k b _ hb0 hb2).mono ?_); rintro e w3 ⟨rfl, hb3⟩; have hd3 := hbX.trans (hb3.mono hbX.size)) | (go_at_call 71; (with_reducible refine (ih (oo k) (hh k) (kk k) (b + Tm.belowN o k) (K + (1 + Tm.szL (l.take k))) (acc ++ Tm.hdsTo (sel x) b o h n l k) (.slice a2 n2 m2) (ts k) _ hszk hs7 HNK.out hbn0 hbn1 hKk ?_ ?_).mono ?_); (exact hsub.keep (by assumption)); (exact HT.out.st.below (by assumption)); rintro e w4 ⟨⟨ve4, rfl⟩, hs4, ho4⟩; have hOO := Lib.hid ((Only.below hd3 B).trans ho4)))
      go_wp2
      go_roundw
      case rel => exact ⟨k + 1, by omega, by go_num, by rw [HST.out, HTK.out, ← List.append_assoc, ← Nat.add_assoc 1, ← Nat.add_assoc K]; exact hs4, HT.out.only.trans hOO.out, (hOO.out.block _ (lt_of_block HT.out.box) (by omega)).trans HT.out.box⟩
      case measure => simp [RowKit.intOf]; omega
    · obtain rfl : k = len := by omega
      have HT := Lib.hid T
      have hall := Tm.hdsTo_all (sel x) b o h n l k (by rw [HL.out]; exact Nat.le_refl _)
      have htk : l.take k = l := List.take_of_length_le (by rw [HL.out]; exact Nat.le_refl _)
      have HA := Lib.hid hall
      have HTK := Lib.hid htk
      clear T hall htk
      go_wp2
      go_end0
      refine ⟨⟨_, rfl⟩, ?_, HT.out.only⟩
      have h1 := HT.out.st
      rw [HA.out, HTK.out, ← HZ.out] at h1
      exact h1

theorem visit_calls {H : Type} (N M B C : Nat) (x : Int) (hN : N ≠ B) (hM : M ≠ B) (hC : C ≠ B) : ∀ (f : Nat) (o h n b : Int) (K : Nat) (acc : List Int) (v : Value) (l : List Tm) (w : World), Tm.sz (.mk o h n l) ≤ f → Tm.sz (.mk o h n l) ≤ 600 → Tm.nums (.mk o h n l) = true → 0 ≤ b → b + (Tm.sz (.mk o h n l) : Int) ≤ 20000 → K + Tm.sz (.mk o h n l) ≤ 100000 → Lies w (· ≠ B) v l → VSt H N M B C x K acc w →
      Calls Try.prog 71 #[.agg #[.int .i64 o, .int .i64 h, .int .i64 n, v], .int .i64 b, .func (.func 72) #[] #[.pointer (some ⟨N, 0, none⟩), .pointer (some ⟨M, 0, none⟩)]] w (VPost H N M B C x (K + Tm.sz (.mk o h n l)) (acc ++ Tm.hds (sel x) b (.mk o h n l)) w)
  | 0, o, h, n, _, _, _, _, l, _, hf, _, _, _, _, _, _, _ => by have := Tm.sz_pos (.mk o h n l); omega
  | f + 1, o, h, n, b, K, acc, v, l, w, hf, h6, hn, hb0, hb1, hK, hv, hs => visit_walk N M B C x hN hM hC f (visit_calls N M B C x hN hM hC f) o h n b K acc v l w hf h6 hn hb0 hb1 hK hv hs

end Go.Proofs.Yteoheeddjddekaa.VH
