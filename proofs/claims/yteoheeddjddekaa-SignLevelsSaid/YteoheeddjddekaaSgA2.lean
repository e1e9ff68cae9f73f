/- The contract of sign.Of. -/
import Derived.Test.YteoheeddjddekaaSgA1
import Derived.Test.YteoheeddjddekaaSgU
import Derived.Maps.AppendAt
import Derived.Shelf.RegionOpen
namespace Go.Proofs.Yteoheeddjddekaa
open Go.RowKit Go.Shelf
set_option linter.unusedSimpArgs false
set_option linter.unusedVariables false
attribute [local go_sem] Oper.semAt_some

/-- the object constants with a target -/
def objL (l : List Dc) (n : Int) : List Int := ((List.range l.length).filter fun i => (Tm.res (clAt l i)).1.hd == 2 && decide ((Tm.res (clAt l i)).1.n = n)).map fun (i : Nat) => (i : Int)
/-- what has been collected -/
def colL (T : Nat → Int) (n : Int) {len : Nat} (pre : List (Idx len)) : List Int := (pre.filter fun x => decide (T x.1 = n)).map fun x => (x.1 : Int)
theorem colL_hit (T : Nat → Int) (n : Int) {len : Nat} (pre : List (Idx len)) (x : Idx len) (h : T x.1 = n) : colL T n (pre ++ [x]) = colL T n pre ++ [(x.1 : Int)] := by simp [colL, h]
theorem colL_miss (T : Nat → Int) (n : Int) {len : Nat} (pre : List (Idx len)) (x : Idx len) (h : ¬ T x.1 = n) : colL T n (pre ++ [x]) = colL T n pre := by simp [colL, h]
theorem colL_length (T : Nat → Int) (n : Int) {len : Nat} (pre : List (Idx len)) : (colL T n pre).length ≤ pre.length := by simp [colL]; exact List.length_filter_le _ _
theorem colL_up (T : Nat → Int) (p : Nat → Bool) (n : Int) (len : Nat) : ∀ k, k ≤ len → colL T n (objUp len p k) = ((List.range k).filter fun i => p i && decide (T i = n)).map fun (i : Nat) => (i : Int)
  | 0, _ => by simp [colL, objUp]
  | k + 1, h => by
    have ih := colL_up T p n len k (by omega)
    rw [List.range_succ, List.filter_append, List.map_append, ← ih]
    rcases e : p k with _ | _
    · rw [objUp_no e]; simp [e]
    · rw [objUp_yes (by omega) e]
      by_cases hT : T k = n
      · rw [colL_hit _ _ _ _ hT]; simp [e, hT]
      · rw [colL_miss _ _ _ _ hT]; simp [e, hT]
/-- what Of returns -/
def ofOut (l : List Dc) (n : Int) : List Int × Int := if ckOut l n = 0 then (if Tm.kind (clAt l n.toNat) = true then (objL l n, 0) else ([], 22)) else ([], ckOut l n)

theorem Ints.isSlice {w : World} {v : Value} {xs : List Int} (h : Ints w v xs) : ∃ a n m, v = .slice a n m := by
  obtain ⟨ao, b, off, len, cap, h⟩ := h
  exact ⟨_, _, _, h.hv⟩

set_option maxHeartbeats 4000000 in
set_option maxRecDepth 100000 in
theorem of_good (ls : List Dc) (i : Nat) (ao : Option Addr) (b off len cap : Nat) (nm : Nat → ByteArray) (oo hh kk : Nat → Int) (sc : Nat → Value) (tt : Nat → List Tm) (im : Nat → Int) (w : World)
    (R : DRow w (fun _ => True) ao b off len cap nm oo hh kk sc tt im ls) (hp : ∀ x ∈ ls, Tm.proper x.cl = true) (h100 : len ≤ 100) (hil : i < len) (hck : ckOut ls i = 0) (hkd : Tm.kind (.mk (oo i) (hh i) (kk i) (tt i)) = true)
    (p : Nat → Bool) (T : Nat → Int) (hpT : ∀ i, i < len → p i = ((Tm.res (.mk (oo i) (hh i) (kk i) (tt i))).1.hd == 2) ∧ T i = (Tm.res (.mk (oo i) (hh i) (kk i) (tt i))).1.n) :
    Calls Try.prog 19 #[.slice ao len cap, .int .i64 i] w (NumE w (colL T i (objUp len p len), 0)) := by
  have h1 := one_below w (.cells #[.int .i64 (i : Int)] 3)
  have hn1 := heap_alloc_new w (.cells #[.int .i64 (i : Int)] 3)
  have hs1 : (w.alloc (.cells #[.int .i64 (i : Int)] 3)).heap.size = w.heap.size + 1 := by simp
  have cC := ck_any (fun _ => True) ls i (.slice ao len cap) _ (DLies.keep ⟨_, _, _, _, _, _, _, _, _, _, _, _, rfl, R⟩ h1)
  rw [hck] at cC
  have hg := R.get i hil
  have hpi : Tm.proper (.mk (oo i) (hh i) (kk i) (tt i)) = true := by have := hp _ (List.getElem_mem (by rw [R.length]; exact hil)); rwa [hg] at this
  have cK := fun w1 (hb : Below w.heap.size w w1) => isKind_any (fun _ => True) (.mk (oo i) (hh i) (kk i) (tt i)) (sc i) w1 ((R.sub i hil).keep hb) hpi
  rw [hkd] at cK
  obtain ⟨a9, n9, m9, hsc⟩ := (R.sub i hil).isSlice
  rw [hsc] at cK
  simp only [Tm.op, Tm.hd, Tm.n] at cK
  have hrl := R.hl
  have hrc := R.hr
  obtain rfl := R.hao (by omega)
  have HR := Lib.hid R
  have HP := Lib.hid hp
  have H1 := Lib.hid (And.intro h1 (And.intro hn1 hs1))
  have hil0 : (0 : Int) ≤ (i : Int) := by omega
  have hil1 : (i : Int) < (len : Int) := by omega
  have HC0 := Lib.hid (cell_in hn1 0 (.int .i64 (i : Int)) rfl)
  have HPT := Lib.hid hpT
  clear hpT R hp h1 hn1 hs1 hg hpi hck hkd
  refine (callsIn_wide (n := 6)).1 ?_
  refine callsIn_of_wp_marks Try.func19 rfl trivial ?_ rfl
  simp only [Try.ntmps19, List.size_toArray, List.length_cons, List.length_nil, Nat.reduceAdd, Nat.reduceSub, Array.replicate_succ, Array.replicate_zero, List.push_toArray, List.append_toArray, List.nil_append, List.cons_append]
  have f1 : Fence.wide.fn 35 := trivial
  have f2 : Fence.wide.fn 41 := trivial
  have f3 : Fence.wide.fn 43 := trivial
  have hc0 := HC0.out
  gi_wp2_with (first
    | (gi_at_call 35; refine (callsIn_wide.2 cC).mono ?_; rintro e w1 ⟨rfl, hb1⟩; have HB1 := Lib.hid (below_next H1.out.1 hb1); obtain ⟨d0, d1, d2, d3, d4, d5, hsub⟩ := HR.out.at HB1.out i hil; rw [hsc] at d4; have hc1 := kept_cell hb1 hc0; clear hsub d0 d5 cC)
    | (gi_at_call 41; refine (callsIn_wide.2 (cK _ HB1.out)).mono ?_; rintro e w2 ⟨rfl, hb2⟩; have HB2 := Lib.hid (below_next HB1.out hb2); have hc2 := kept_cell hb2 hc1; clear d1 d2 d3 d4 cK)
    | (gi_at_call 43; refine (objects_in 5 _ _ _ _).mono ?_; rintro e w4 ⟨rfl, rfl⟩)
    | fail)
  have bF : Boxed w2 w.heap.size 3 (.int .i64 (i : Int)) := heap_kept hb2 (heap_kept hb1 H1.out.2.1)
  have bO := Boxed.new w2 42 (.slice none 0 0)
  have bN := Boxed.new (w2.alloc (.cells #[.slice none 0 0] 42)) 22 (.slice (some ⟨b, off, none⟩) len cap)
  rw [World.size_alloc] at bN
  have hB0 := below_next HB2.out (two_below w2 (.cells #[.slice none 0 0] 42) (.cells #[.slice (some ⟨b, off, none⟩) len cap] 22))
  have hs1 := H1.out.2.2
  have hs2 : w.heap.size + 1 ≤ w2.heap.size := by have := hb1.size; have := hb2.size; omega
  have hs5 : ((w2.alloc (.cells #[.slice none 0 0] 42)).alloc (.cells #[.slice (some ⟨b, off, none⟩) len cap] 22)).heap.size = w2.heap.size + 2 := by simp
  obtain ⟨i0, hi0, hz0, hz1, hz2⟩ := info_parts int_info
  have bO5 := bO.alloc (.cells #[.slice (some ⟨b, off, none⟩) len cap] 22)
  have bF5 := (bF.alloc (.cells #[.slice none 0 0] 42)).alloc (.cells #[.slice (some ⟨b, off, none⟩) len cap] 22)
  generalize hW5 : ((w2.alloc (.cells #[.slice none 0 0] 42)).alloc (.cells #[.slice (some ⟨b, off, none⟩) len cap] 22)) = W5 at *
  clear hW5
  refine wpIn_rangeFunc_ownG rfl (by omega) (gf := 64) (lb := #[.pointer (some ⟨w2.heap.size + 1, 0, none⟩)]) rfl trivial (enters_of Try.func64 (by kernel_rfl) rfl)
    (obj_stops 5 (by omega) (w2.heap.size + 1) (fun _ => True) ls _ b off len cap nm oo hh kk sc tt im w W5 HR.out HP.out p T HPT.out hB0 bN.cell)
    (fun h1 h2 => belowK_t h1 h2) (belowK_b (by omega)) (Below.refl _ _) (fun _ => rfl)
    (fun pre W => ((∃ v, Boxed W w2.heap.size 42 v ∧ W.ownsRow (w.heap.size + 1) 3 1 v (colL T i pre).length ((colL T i pre).map (Value.int .i64)) ∧ True) ∧ Boxed W w.heap.size 3 (.int .i64 (i : Int))) ∧ Below w.heap.size w W)
    (fun _ _ _ => False)
    (OwnFrom.and (OwnFrom.and (Own.from (holdsRow_own (w.heap.size + 1) w2.heap.size 42 3 1 (fun pre => (colL T i pre).length) (fun pre => (colL T i pre).map (Value.int .i64)) (fun _ _ => True)) _) (fun _ A B row h hg hr => h.kept hg (fun e => by have := (hr _ e.symm).1; omega))) (ownFrom_below (Nat.le_refl _) (by omega)))
    (fun _ _ _ _ _ hs _ _ => hs)
    ⟨⟨⟨_, bO5, World.ownsRow_nil _ _ _ _, trivial⟩, bF5⟩, hB0⟩
    (fun x => { tmps := #[.slice (some ⟨b, off, none⟩) len cap, .int .i64 i, undef, .pointer (some ⟨w.heap.size, 0, none⟩), .slice none 0 0, .int .i64 0, .int .i64 0, .pointer (some ⟨w2.heap.size, 0, none⟩), .int .i64 (x.1 : Int), .int .i64 (T x.1), .slice (some ⟨b, off, none⟩) len cap, .int .i64 i, .int .i64 0, .int .i64 0, .bool false, undef, .slice (some ⟨b, off, none⟩) len cap,
      .int .i64 i, .pointer (some ⟨b, off + i * 6, none⟩), .pointer (some ⟨b, off + i * 6 + 1, none⟩), .agg #[.int .i64 (oo i), .int .i64 (hh i), .int .i64 (kk i), .slice a9 n9 m9], .bool true, .bool false, .slice (some ⟨b, off, none⟩) len cap, .func (.func 64) #[] #[.pointer (some ⟨w2.heap.size + 1, 0, none⟩)],
      .int .i64 (x.1 : Int), .int .i64 (T x.1), undef, undef, undef, undef, undef, undef, undef, undef], defers := [] }) ?assign ?body ?done ?stop
  case assign =>
    intro l x W K hK
    unfold encO
    gi_wp2
    exact hK
  case body =>
    rintro l pre x W ⟨⟨⟨v, hv, hrow, -⟩, hfb⟩, hB⟩ hlt
    have hc := hv.cell
    have hcf := hfb.cell
    have hpl := colL_length T i pre
    have hbs := hB.size
    have hvl := hv.lt
    by_cases hx : T x.1 = (i : Int)
    · have hx' : (T x.1 == (i : Int)) = true := by simpa using hx
      gi_wp2_with (gi_at_builtin; refine wpListIn_append_own _ rfl _ _ 42 rfl (w.heap.size + 1) 3 i0 (.int .i64 0) 1 8 Try.underlying42 hi0 hz0 hz1 hz2 rfl (by decide) _ _ _ rfl (hrow.alloc _) ⟨W.heap.size, 0, none⟩ 1 1 [.int .i64 (x.1 : Int)] rfl rfl (cell_one_new _ _ _) (by simp [Value.oneCell']) (by unfold maxLen; omega) (by omega) (by simp; omega) ?_; intro v' w1 hown' hgrow _; obtain ⟨g', cap', rfl⟩ := ownsRow_succ hown'; obtain ⟨hv1, hv2, hr2, hk2, hb2⟩ := hv.appended (by decide) hrow (by omega) (by omega) hown' hgrow; have hc1 := hv1.cell; have hf1 := hv1.frozen)
      refine ⟨hk2.from _, hb2.mono (by omega), ⟨⟨_, hv2, by rw [colL_hit T i pre x hx]; simpa using hr2, trivial⟩, ?_⟩, hB.trans (hb2.mono (by omega))⟩
      exact (hb2.block _ (by omega)).trans hfb
    · have hx' : (T x.1 == (i : Int)) = false := by simpa using hx
      gi_wp2
      exact ⟨KeepsFrom.refl _ _, Below.refl _ _, ⟨⟨v, hv, by rw [colL_miss T i pre x hx]; exact hrow, trivial⟩, hfb⟩, hB⟩
  case done =>
    rintro D ys W hD rfl ⟨⟨⟨v, hv, hrow, -⟩, hfb⟩, hB⟩ hK
    have hc := hv.cell
    obtain ⟨a7, n7, m7, rfl⟩ := (Ints.own hrow (by simp)).isSlice
    gi_wp2
    refine ⟨by simp, .inl ⟨_, _, rfl, run_takeDeferred hK, ?_⟩⟩
    refine ⟨.tuple #[.slice a7 n7 m7, .int .i64 0], by simp [results, Try.f19, go_sem], _, rfl, Ints.own (ownsRow_putObj hrow _ hK rfl) (by simp), hB.trans (belowK_b (w := w) (Nat.le_refl _) W D _ _ (by omega) hK rfl rfl)⟩
  case stop =>
    rintro D c pre W _ _ h _
    exact h.elim
end Go.Proofs.Yteoheeddjddekaa
