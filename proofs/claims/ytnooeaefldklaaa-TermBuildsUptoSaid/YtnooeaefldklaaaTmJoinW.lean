/- The contract of term.Join. -/
import Derived.Test.YtnooeaefldklaaaTmBwd
import Derived.Test.YtnooeaefldklaaaTmShift
import Derived.Test.YtnooeaefldklaaaTmBack
import Derived.Outline
import Derived.RangeFuncBox
import Derived.Shelf.RegionOpen
namespace Go.Proofs.Ytnooeaefldklaaa
open Go.RowKit Go.Shelf
set_option linter.unusedSimpArgs false
set_option linter.unusedVariables false
attribute [local go_sem] Oper.semAt_some

theorem cells4_of {w : World} {B : Nat} {x y z v : Value} (h : w.heap[B]? = some (.cells #[x, y, z, v] 24 (0, 0))) : w.cell? ⟨B, 0, none⟩ = some x ∧ w.cell? ⟨B, 1, none⟩ = some y ∧ w.cell? ⟨B, 2, none⟩ = some z ∧ w.cell? ⟨B, 3, none⟩ = some v :=
  ⟨cell_in h 0 _ rfl, cell_in h 1 _ rfl, cell_in h 2 _ rfl, cell_in h 3 _ rfl⟩

theorem Lies.kept {W W' : World} {S : Nat → Prop} (hk : ∀ (p : Addr) (u : Value), W.cell? p = some u → W'.cell? p = some u) {v : Value} {l : List Tm} (h : Lies W S v l) : Lies W' S v l := by
  induction h with
  | row ao b off len cap o h k sv ts hao hS hl hr c0 c1 c2 c3 r0 r1 r2 _ ih =>
    exact .row ao b off len cap o h k sv ts hao hS hl hr (fun i hi => hk _ _ (c0 i hi)) (fun i hi => hk _ _ (c1 i hi)) (fun i hi => hk _ _ (c2 i hi)) (fun i hi => hk _ _ (c3 i hi)) r0 r1 r2 ih

/-- a row of two terms -/
theorem Lies.two {W : World} {S : Nat → Prop} {g : Nat} {a b : Tm} {va vb : Value} {e : TypeId} (hS : S g) (hg : W.heap[g]? = some (.cells #[.int .i64 a.op, .int .i64 a.hd, .int .i64 a.n, va, .int .i64 b.op, .int .i64 b.hd, .int .i64 b.n, vb] e (0, 0)))
    (fa : a.fit) (fb : b.fit) (la : Lies W S va a.args) (lb : Lies W S vb b.args) : Lies W S (.slice (some ⟨g, 0, none⟩) 2 2) [a, b] := by
  have row := Lies.row (w := W) (S := S) (some ⟨g, 0, none⟩) g 0 2 2 (fun i => if i = 0 then a.op else b.op) (fun i => if i = 0 then a.hd else b.hd) (fun i => if i = 0 then a.n else b.n) (fun i => if i = 0 then va else vb) (fun i => if i = 0 then a.args else b.args)
    (fun _ => rfl) (fun _ => hS) (Nat.le_refl _) (by omega)
    (fun i hi => by rcases (by omega : i = 0 ∨ i = 1) with rfl | rfl <;> exact cell_in hg _ _ rfl) (fun i hi => by rcases (by omega : i = 0 ∨ i = 1) with rfl | rfl <;> exact cell_in hg _ _ rfl)
    (fun i hi => by rcases (by omega : i = 0 ∨ i = 1) with rfl | rfl <;> exact cell_in hg _ _ rfl) (fun i hi => by rcases (by omega : i = 0 ∨ i = 1) with rfl | rfl <;> exact cell_in hg _ _ rfl)
    (fun i hi => by rcases (by omega : i = 0 ∨ i = 1) with rfl | rfl; exact fa.1; exact fb.1) (fun i hi => by rcases (by omega : i = 0 ∨ i = 1) with rfl | rfl; exact fa.2.1; exact fb.2.1) (fun i hi => by rcases (by omega : i = 0 ∨ i = 1) with rfl | rfl; exact fa.2.2; exact fb.2.2)
    (fun i hi => by rcases (by omega : i = 0 ∨ i = 1) with rfl | rfl; exact la; exact lb)
  cases a; cases b; exact row

/-- the TPi with a domain and a body -/
def Tm.pi (a b : Tm) : Tm := .mk 2 0 0 [a, b]
/-- the TPis with these domains, the indices from the last one to the first one, around a term -/
def joinI {len : Nat} (g : Nat → Tm) (t : Tm) (pre : List (Idx len)) : Tm := pre.foldl (fun acc i => Tm.pi (g i.1) acc) t
theorem joinI_snoc {len : Nat} (g : Nat → Tm) (t : Tm) (pre : List (Idx len)) (x : Idx len) : joinI g t (pre ++ [x]) = Tm.pi (g x.1) (joinI g t pre) := by simp [joinI]

/-- what Join keeps in memory: the result's box, and the term that has been joined so far -/
structure JI (s G : Nat) (T : Tm) (W : World) : Prop where
  c : ∃ v, W.heap[G]? = some (.cells #[.int .i64 T.op, .int .i64 T.hd, .int .i64 T.n, v] 24 (0, 0)) ∧ Lies W (fun b => s + 2 ≤ b ∧ b ≠ G) v T.args
  r : W.heap[s + 1]? = some (.cells #[.int .i64 0, .int .i64 0, .int .i64 0, .slice none 0 0] 24 (0, 0))
  fit : T.fit
theorem heap_own {A B : World} {row : Option Nat} {k : Nat} {cs : Array Value} {t : TypeId} {fr : Nat × Nat} (h : A.heap[k]? = some (.cells cs t fr)) (hg : A.grownBy B row) (hr : ∀ r, row = some r → ∃ o : Obj, A.heap[r]? = some o ∧ o.isCells = false) : B.heap[k]? = some (.cells cs t fr) := by
  rw [hg.block k (lt_of_block h) (fun e => by
    obtain ⟨o, ho, hc⟩ := hr _ e.symm
    rw [h] at ho
    cases ho
    cases hc)]
  exact h
theorem JI.own {β : Type} (s G : Nat) (T : β → Tm) : Own (fun pre W => JI s G (T pre) W) := fun pre A B row h hg hr => by
  obtain ⟨v, hc, hl⟩ := h.c
  exact ⟨⟨v, heap_own hc hg hr, hl.kept fun p u e => cell_kept e hg hr⟩, heap_own h.r hg hr, h.fit⟩
theorem JI.below {s G : Nat} {T : Tm} {W W' : World} (h : JI s G T W) (hb : Below W.heap.size W W') : JI s G T W' := by
  obtain ⟨v, hc, hl⟩ := h.c
  exact ⟨⟨v, heap_kept hb hc, hl.keep hb⟩, heap_kept hb h.r, h.fit⟩

/-- what a round is handed, in a box -/
def BoxT (W : World) (B : Nat) (x0 x1 x2 : Int) (v : Value) : Prop := Cells4 W B (.int .i64 x0) (.int .i64 x1) (.int .i64 x2) v

/-- what Join returns when it has joined -/
def joinEnd (T : Tm) : Tm × Int := if Tm.proper T then (T, 0) else (Tm.zero, 5)

theorem JI.put {s G : Nat} {T a : Tm} {W X : World} {va vT : Value} (hs : s + 1 < G) (h : JI s G T W) (hT : W.heap[G]? = some (.cells #[.int .i64 T.op, .int .i64 T.hd, .int .i64 T.n, vT] 24 (0, 0))) (hlT : Lies W (fun b => s + 2 ≤ b ∧ b ≠ G) vT T.args) (hb : Below W.heap.size W X)
    (fa : a.fit) (la : Lies X (W.heap.size ≤ ·) va a.args) :
    JI s G (Tm.pi a T) (((((X.setCell ⟨G, 0, none⟩ (.int .i64 2)).setCell ⟨G, 1, none⟩ (.int .i64 0)).setCell ⟨G, 2, none⟩ (.int .i64 0)).setCell ⟨G, 3, none⟩ (.slice (some ⟨X.heap.size, 0, none⟩) 2 2)).alloc
      (.cells #[.int .i64 a.op, .int .i64 a.hd, .int .i64 a.n, va, .int .i64 T.op, .int .i64 T.hd, .int .i64 T.n, vT] 24)) := by
  have hG := lt_of_block hT
  have hsX := hb.size
  have hset := set4_at (heap_kept hb hT) (.int .i64 2) (.int .i64 0) (.int .i64 0) (.slice (some ⟨X.heap.size, 0, none⟩) 2 2)
  have hoth : ∀ k, k ≠ G → ((((X.setCell ⟨G, 0, none⟩ (.int .i64 2)).setCell ⟨G, 1, none⟩ (.int .i64 0)).setCell ⟨G, 2, none⟩ (.int .i64 0)).setCell ⟨G, 3, none⟩ (.slice (some ⟨X.heap.size, 0, none⟩) 2 2)).heap[k]? = X.heap[k]? := fun k hk => heap_set4 _ _ _ _ hk hk hk hk
  have hsz : ((((X.setCell ⟨G, 0, none⟩ (.int .i64 2)).setCell ⟨G, 1, none⟩ (.int .i64 0)).setCell ⟨G, 2, none⟩ (.int .i64 0)).setCell ⟨G, 3, none⟩ (.slice (some ⟨X.heap.size, 0, none⟩) 2 2)).heap.size = X.heap.size := by simp [World.setCell]
  generalize (((X.setCell ⟨G, 0, none⟩ (.int .i64 2)).setCell ⟨G, 1, none⟩ (.int .i64 0)).setCell ⟨G, 2, none⟩ (.int .i64 0)).setCell ⟨G, 3, none⟩ (.slice (some ⟨X.heap.size, 0, none⟩) 2 2) = Z at hset hoth hsz ⊢
  have hba := one_below Z (.cells #[.int .i64 a.op, .int .i64 a.hd, .int .i64 a.n, va, .int .i64 T.op, .int .i64 T.hd, .int .i64 T.n, vT] 24)
  have hn := heap_alloc_new Z (.cells #[.int .i64 a.op, .int .i64 a.hd, .int .i64 a.n, va, .int .i64 T.op, .int .i64 T.hd, .int .i64 T.n, vT] 24)
  rw [hsz] at hn
  have lT : Lies Z (fun b => s + 2 ≤ b ∧ b ≠ G) vT T.args := (hlT.keep hb).still fun b hS _ => hoth b hS.2
  have lA : Lies Z (fun b => s + 2 ≤ b ∧ b ≠ G) va a.args := (la.still fun b hS _ => hoth b (by omega)).more fun b _ hS => ⟨by omega, by omega⟩
  exact ⟨⟨_, heap_kept hba hset, Lies.two (S := fun b => s + 2 ≤ b ∧ b ≠ G) ⟨by omega, by omega⟩ hn fa h.fit (lA.keep hba) (lT.keep hba)⟩, heap_kept hba ((hoth (s + 1) (by omega)).trans (heap_kept hb h.r)), ⟨by simp [Tm.pi, Tm.op], by simp [Tm.pi, Tm.hd], by simp [Tm.pi, Tm.n]⟩⟩

theorem put_keeps {B G : Nat} {W X : World} {ob : Obj} {u0 u1 u2 u3 : Value} (hb : Below W.heap.size W X) : KeepsFrom B W (((((X.setCell ⟨G, 0, none⟩ u0).setCell ⟨G, 1, none⟩ u1).setCell ⟨G, 2, none⟩ u2).setCell ⟨G, 3, none⟩ u3).alloc ob) :=
  (⟨hb.size, fun k o _ hk _ => heap_kept hb hk⟩ : KeepsFrom B W X).trans ((((((KeepsOthers.setCell X _ _).trans (KeepsOthers.setCell _ _ _)).trans (KeepsOthers.setCell _ _ _)).trans (KeepsOthers.setCell _ _ _)).trans (KeepsOthers.alloc _ _)).from B)
theorem put_keepR {n₀ Bs G : Nat} {W X : World} {ob : Obj} {u0 u1 u2 u3 : Value} (hb : Below W.heap.size W X) (h1 : Bs ≠ G) (h2 : n₀ ≤ G) : KeepR n₀ Bs W (((((X.setCell ⟨G, 0, none⟩ u0).setCell ⟨G, 1, none⟩ u1).setCell ⟨G, 2, none⟩ u2).setCell ⟨G, 3, none⟩ u3).alloc ob) := by
  have hs := hb.size
  refine ⟨by simp [World.setCell]; omega, fun k hk hlt => ?_⟩
  rw [Below.heap_alloc _ _ _ (by simp [World.setCell]; omega), heap_set4 _ _ _ _ (by show k ≠ G; omega) (by show k ≠ G; omega) (by show k ≠ G; omega) (by show k ≠ G; omega), hb.block k hlt]

set_option maxHeartbeats 4000000 in
set_option maxRecDepth 100000 in
theorem join_good (o h n : Int) (a2 : Option Addr) (n2 m2 : Nat) (l : List Tm) (ad : Option Addr) (bb off len cap : Nat) (oo hh kk : Nat → Int) (sv : Nat → Value) (ts : Nat → List Tm) (ds : List Tm) (w : World) (hv : Lies w (fun _ => True) (.slice a2 n2 m2) l) (R : RowAt w (fun _ => True) ad bb off len cap oo hh kk sv ts ds) (hd : Lies w (fun _ => True) (.slice ad len cap) ds) (hlen : len < 40)
    (hp : Tm.proper (.mk o h n l) = true) (hps : ds.all Tm.proper = true) :
    Calls Try.prog 33 #[.slice ad len cap, .agg #[.int .i64 o, .int .i64 h, .int .i64 n, .slice a2 n2 m2]] w (GivesE w (joinEnd (joinI (fun i => .mk (oo i) (hh i) (kk i) (ts i)) (.mk o h n l) (backOf len)))) := by
  have c1 := fun w1 (hb : Below w.heap.size w w1) => containsBad_any _ ds w1 (hd.keep hb)
  have c2 := fun w1 (hb : Below w.heap.size w w1) => joinWrong_any o h n _ l w1 (hv.keep hb)
  have c3 := fun w1 (hb : Below w.heap.size w w1) => clone_any o h n _ l w1 (hv.keep hb) hp
  have c4 : ∀ i, i < len → ∀ w1, Below w.heap.size w w1 → Calls Try.prog 66 #[.agg #[.int .i64 (oo i), .int .i64 (hh i), .int .i64 (kk i), sv i]] w1 (GivesT w1 (.mk (oo i) (hh i) (kk i) (ts i))) := fun i hi w1 hb =>
    clone_any _ _ _ _ _ w1 ((R.sub i hi).keep hb) (List.all_eq_true.1 hps _ (R.mem i hi))
  have hsl : ∀ i, i < len → ∃ a m c, sv i = .slice a m c := fun i hi => (R.sub i hi).isSlice
  have hft : (Tm.mk o h n l).fit := Tm.proper_fit hp
  have hfg : ∀ i, i < len → (Tm.mk (oo i) (hh i) (kk i) (ts i)).fit := fun i hi => ⟨R.r0 i hi, R.r1 i hi, R.r2 i hi⟩
  rw [hps] at c1
  rw [hp] at c2
  unfold GivesT at c3 c4
  simp only [Tm.op, Tm.hd, Tm.n, Tm.args] at c3 c4
  have h2 := two_below w (.cells #[.int .i64 o, .int .i64 h, .int .i64 n, .slice a2 n2 m2] 24) (.cells #[.int .i64 0, .int .i64 0, .int .i64 0, .slice none 0 0] 24)
  have H2 := Lib.hid h2
  have HB := Lib.hid (two_blocks w #[.int .i64 o, .int .i64 h, .int .i64 n, .slice a2 n2 m2] #[.int .i64 0, .int .i64 0, .int .i64 0, .slice none 0 0] 24 24)
  have HR := Lib.hid R
  have C4 := Lib.hid c4
  have HSL := Lib.hid hsl
  have HFG := Lib.hid hfg
  have HFT := Lib.hid hft
  have hszw : ((w.alloc (.cells #[.int .i64 o, .int .i64 h, .int .i64 n, .slice a2 n2 m2] 24)).alloc (.cells #[.int .i64 0, .int .i64 0, .int .i64 0, .slice none 0 0] 24)).heap.size = w.heap.size + 2 := by simp
  have HSZ := Lib.hid hszw
  clear h2 hv hd hp hps R c4 hsl hfg hft hszw
  refine (callsIn_wide (n := 6)).1 ?_
  refine callsIn_of_wp_marks Try.func33 rfl trivial ?_ rfl
  simp only [Try.ntmps33, List.size_toArray, List.length_cons, List.length_nil, Nat.reduceAdd, Nat.reduceSub, Array.replicate_succ, Array.replicate_zero, List.push_toArray, List.append_toArray, List.nil_append, List.cons_append]
  have f1 : Fence.wide.fn 65 := trivial
  have f2 : Fence.wide.fn 64 := trivial
  have f3 : Fence.wide.fn 66 := trivial
  have f4 : Fence.wide.fn 67 := trivial
  gi_wp2_with (first
    | (gi_at_call 65; refine (callsIn_wide.2 (c1 _ H2.out)).mono ?_; rintro e w1 ⟨rfl, hb1⟩; obtain ⟨q0, q1, q2, q3⟩ := cells4_of (heap_kept hb1 HB.out.1); have B1 := H2.out.trans (hb1.mono H2.out.size))
    | (gi_at_call 64; refine (callsIn_wide.2 (c2 _ B1)).mono ?_; rintro e w2 ⟨rfl, hb2⟩; obtain ⟨r0, r1, r2, r3⟩ := keep4 hb2 ⟨q0, q1, q2, q3⟩; have B2 := B1.trans (hb2.mono B1.size))
    | (gi_at_call 66; refine (callsIn_wide.2 (c3 _ B2)).mono ?_; rintro e w3 ⟨v3, rfl, hb3, hx3⟩; obtain ⟨b3, k3, j3, rfl⟩ := hx3.isSlice; have B3 := B2.trans (hb3.mono B2.size))
    | (gi_at_call 67; refine (bwd_in Fence.wide 5 f4 rfl _ _ _ _).mono ?_; rintro e w4 ⟨rfl, rfl⟩))
  have hs2 : w.heap.size + 2 ≤ w2.heap.size := by have := hb1.size; have := hb2.size; have := HSZ.out; omega
  have hs3 : w2.heap.size ≤ w3.heap.size := hb3.size
  have h5 := two_below w3 (.cells #[.int .i64 o, .int .i64 h, .int .i64 n, .slice b3 k3 j3] 24) (.cells #[.slice ad len cap] 22)
  have hk5 := two_blocks w3 #[.int .i64 o, .int .i64 h, .int .i64 n, .slice b3 k3 j3] #[.slice ad len cap] 24 22
  have hz5 : ((w3.alloc (.cells #[.int .i64 o, .int .i64 h, .int .i64 n, .slice b3 k3 j3] 24)).alloc (.cells #[.slice ad len cap] 22)).heap.size = w3.heap.size + 2 := by simp
  obtain ⟨W5, hW5⟩ : ∃ W5, ((w3.alloc (.cells #[.int .i64 o, .int .i64 h, .int .i64 n, .slice b3 k3 j3] 24)).alloc (.cells #[.slice ad len cap] 22)) = W5 := ⟨_, rfl⟩
  rw [hW5] at h5 hk5 hz5 ⊢
  clear hW5
  have B5 : Below w.heap.size w W5 := B3.trans (h5.mono B3.size)
  have hres : W5.heap[w.heap.size + 1]? = some (.cells #[.int .i64 0, .int .i64 0, .int .i64 0, .slice none 0 0] 24 (0, 0)) := heap_kept h5 (heap_kept hb3 (heap_kept hb2 (heap_kept hb1 HB.out.2)))
  have hJ0 : JI w.heap.size w3.heap.size (.mk o h n l) W5 :=
    ⟨⟨_, hk5.1, (hx3.more (S' := fun b => w.heap.size + 2 ≤ b ∧ b ≠ w3.heap.size) fun b hb hS => ⟨by omega, by omega⟩).keep h5⟩, hres, HFT.out⟩
  generalize hz21 : Value.bool (decide (40 ≤ (len : Int))) = z21
  have hgd : ∀ j, j < len → W5.cell? ⟨bb, off + j * 4, none⟩ = some (.int .i64 (oo j)) ∧ W5.cell? ⟨bb, off + j * 4 + 1, none⟩ = some (.int .i64 (hh j)) ∧ W5.cell? ⟨bb, off + j * 4 + 2, none⟩ = some (.int .i64 (kk j)) ∧ W5.cell? ⟨bb, off + j * 4 + 3, none⟩ = some (sv j) := fun j hj => by
    obtain ⟨d0, d1, d2, d3, _⟩ := HR.out.at B5 j hj
    exact ⟨d0, d1, d2, d3⟩
  have hao : 0 < len → ad = some ⟨bb, off, none⟩ ∧ bb < w.heap.size := fun h0 => ⟨HR.out.hao h0, World.block_lt_of_cell? w _ (HR.out.c0 0 h0)⟩
  have hl9 : len ≤ 9223372036854775807 := by omega
  refine wpIn_rangeFunc_ownH rfl (by omega) (gf := 89) (lb := #[.pointer (some ⟨w3.heap.size + 1, 0, none⟩)]) rfl trivial (enters_of Try.func89 (by kernel_rfl) rfl)
    (bwd_stops (len := len) (oo := oo) (hh := hh) (kk := kk) (sv := sv) Fence.wide 5 trivial rfl (by omega) (w3.heap.size + 1) w.heap.size bb off cap ad W5 hl9 hao HSL.out (cell_in hk5.2 0 _ rfl) hgd)
    (fun h1 h2 => h1.trans h2) (fun X q o' o'' hq hX _ _ => ⟨by simp, fun k hk hlt => World.putObj_heap_other (by omega)⟩) (Below.refl _ _) (fun _ => rfl)
    (fun pre W => JI w.heap.size w3.heap.size (joinI (fun i => .mk (oo i) (hh i) (kk i) (ts i)) (.mk o h n l) pre) W ∧ Below w.heap.size w W)
    (fun _ _ _ => False)
    (OwnFrom.and (Own.from (JI.own _ _ _) _) (ownFrom_below (Nat.le_refl _) (by omega)))
    (fun _ _ _ _ _ hs _ _ => hs)
    ⟨hJ0, B5⟩
    (fun x a' W => ∃ Bx, w3.heap.size < Bx ∧ BoxT W Bx (oo x.1) (hh x.1) (kk x.1) (sv x.1) ∧ a' = { tmps := #[.slice ad len cap, .agg #[.int .i64 o, .int .i64 h, .int .i64 n, .slice a2 n2 m2], undef, .pointer (some ⟨w.heap.size, 0, none⟩), .pointer (some ⟨w.heap.size + 1, 0, none⟩), .int .i64 0,
      .func (.func 64) #[] #[], .pointer (some ⟨w3.heap.size, 0, none⟩), undef, .pointer (some ⟨Bx, 0, none⟩), .slice ad len cap, .func (.func 64) #[] #[], .bool false, .bool false, .func (.func 64) #[] #[],
      .agg #[.int .i64 o, .int .i64 h, .int .i64 n, .slice a2 n2 m2], .bool false, .bool false, undef, .slice ad len cap, .int .i64 len, z21, undef, .agg #[.int .i64 o, .int .i64 h, .int .i64 n, .slice a2 n2 m2], .agg #[.int .i64 o, .int .i64 h, .int .i64 n, .slice b3 k3 j3], .slice ad len cap,
      .func (.func 89) #[] #[.pointer (some ⟨w3.heap.size + 1, 0, none⟩)], .int .i64 (x.1 : Int), .agg #[.int .i64 (oo x.1), .int .i64 (hh x.1), .int .i64 (kk x.1), sv x.1], undef, undef, undef, undef, undef, undef, undef, undef, undef, undef], defers := [] })
    (fun x a' _ X Y row hs hg hr => by
      obtain ⟨Bx, h1, ⟨x0, x1, x2, x3⟩, h3⟩ := hs
      have hr' := fun r e => (hr r e).2
      exact ⟨Bx, h1, ⟨cell_kept x0 hg hr', cell_kept x1 hg hr', cell_kept x2 hg hr', cell_kept x3 hg hr'⟩, h3⟩)
    ?assign ?body ?done ?stop
  case assign =>
    rintro q pre x W K ⟨hJ, hB⟩ hK
    obtain ⟨sa, sm, sc, hsv⟩ := HSL.out x.1 x.2
    unfold encT at *
    rw [hsv] at hK ⊢
    have hG : w3.heap.size < W.heap.size := by obtain ⟨v, hc, _⟩ := hJ.c; exact lt_of_block hc
    have hn := heap_alloc_new W (.cells #[.int .i64 (oo x.1), .int .i64 (hh x.1), .int .i64 (kk x.1), .slice sa sm sc] 24)
    have hba := one_below W (.cells #[.int .i64 (oo x.1), .int .i64 (hh x.1), .int .i64 (kk x.1), .slice sa sm sc] 24)
    gi_wp2
    exact hK _ _ ((KeepsOthers.alloc _ _).from _) (KeepR.below hba) ⟨hJ.below hba, hB.trans (hba.mono hB.size)⟩ ⟨W.heap.size, hG, cells4_of hn, rfl⟩
  case body =>
    rintro q pre x a' W hl ⟨r, hr⟩ ⟨hJ, hB⟩ ⟨Bx, hBx, ⟨x0, x1, x2, x3⟩, rfl⟩ hlt
    obtain ⟨sa, sm, sc, hsv⟩ := HSL.out x.1 x.2
    have call := C4.out x.1 x.2
    rw [hsv] at x3 call ⊢
    obtain ⟨T, hT⟩ : ∃ T, T = joinI (fun i => .mk (oo i) (hh i) (kk i) (ts i)) (.mk o h n l) pre := ⟨_, rfl⟩
    rw [← hT] at hJ
    have HT := Lib.hid hT
    have HJ := Lib.hid hJ
    obtain ⟨vT, hcT, hlT⟩ := hJ.c
    obtain ⟨aT, nT, mT, rfl⟩ := hlT.isSlice
    obtain ⟨t0, t1, t2, t3⟩ := cells4_of hcT
    have tf0 := free_in hcT 0
    have tf1 := free_in hcT 1
    have tf2 := free_in hcT 2
    have tf3 := free_in hcT 3
    have HCT := Lib.hid hcT
    have HLT := Lib.hid hlT
    have hbd : Below W.heap.size W W.drew := (Below.refl _ _).drew
    clear hcT hlT
    have h1' : 1 ≤ 6 - 1 - 1 := by omega
    clear hT hJ
    have hmo : Try.prog.follows Departure.mixedOrders = true := by kernel_rfl
    dsimp only
    gi_wp2_with fail
    gi_region_with_o (gi_at_call 66; refine (CallsIn.inRound q (callsIn_wide.2 (call _ ?_))).mono ?_; (first | exact hB | exact hB.drew); rintro e w6 ⟨v6, rfl, hb6, hx6⟩; obtain ⟨a6, n6, m6, rfl⟩ := hx6.isSlice; obtain ⟨y0, y1, y2, y3⟩ := keep4 hb6 ⟨t0, t1, t2, t3⟩; have z0 := frozen_kept hb6 t0 tf0; have z1 := frozen_kept hb6 t1 tf1; have z2 := frozen_kept hb6 t2 tf2; have z3 := frozen_kept hb6 t3 tf3; have lt6 : w3.heap.size < w6.heap.size := World.block_lt_of_cell? w6 _ y0; have hA := Lib.hid (one_below w6 (.cells #[.int .i64 (oo x.1), .int .i64 (hh x.1), .int .i64 (kk x.1), .slice a6 n6 m6, .int .i64 T.op, .int .i64 T.hd, .int .i64 T.n, .slice aT nT mT] 24)); obtain ⟨g0, g1, g2, g3⟩ := keep4 hA.out ⟨y0, y1, y2, y3⟩; have k0 := frozen_kept hA.out y0 z0; have k1 := frozen_kept hA.out y1 z1; have k2 := frozen_kept hA.out y2 z2; have k3 := frozen_kept hA.out y3 z3)
    all_goals
      have b6 : Below W.heap.size W w6 := hbd.trans hb6
      have hfx := HFG.out x.1 x.2
      have hbw : Below w.heap.size w w6 := hB.trans (b6.mono hB.size)
      refine ⟨put_keeps b6, put_keepR b6 (by omega) (by omega), ?_, ((((hbw.setCell (by show w.heap.size ≤ w3.heap.size; omega) _).setCell (by show w.heap.size ≤ w3.heap.size; omega) _).setCell (by show w.heap.size ≤ w3.heap.size; omega) _).setCell (by show w.heap.size ≤ w3.heap.size; omega) _).alloc (by have := hbw.size; simp [World.setCell]; omega) _⟩
      rw [joinI_snoc, ← HT.out]
      exact JI.put (a := .mk (oo x.1) (hh x.1) (kk x.1) (ts x.1)) (by omega) HJ.out HCT.out HLT.out b6 hfx hx6
  case done =>
    rintro D ys W hD rfl ⟨hJ, hB⟩ hK
    obtain ⟨T, hT⟩ : ∃ T, T = joinI (fun i => .mk (oo i) (hh i) (kk i) (ts i)) (.mk o h n l) (backOf len) := ⟨_, rfl⟩
    rw [← hT] at hJ
    have HT := Lib.hid hT
    obtain ⟨vT, hcT, hlT⟩ := hJ.c
    obtain ⟨aT, nT, mT, rfl⟩ := hlT.isSlice
    have call := isProper_any T.op T.hd T.n _ T.args W (hlT.more fun _ _ _ => trivial)
    rw [Tm.eta] at call
    obtain ⟨t0, t1, t2, t3⟩ := cells4_of hcT
    have HCT := Lib.hid hcT
    have HLT := Lib.hid hlT
    have HRS := Lib.hid hJ.r
    have HK := Lib.hid hK
    have f5 : Fence.wide.fn 47 := trivial
    rcases hp : Tm.proper T with _ | _
    · rw [hp] at call
      have HE : Hid (joinEnd T = (Tm.zero, 5)) := by show _ = _; unfold joinEnd; rw [hp]; rfl
      clear hT hJ hcT hlT hK hp
      gi_wp2_with (gi_at_call 47; refine (callsIn_wide.2 call).mono ?_; rintro e w6 ⟨rfl, hb6⟩; have hr6 := Lib.hid (heap_kept hb6 HRS.out); obtain ⟨y0, y1, y2, y3⟩ := cells4_of hr6.out; have z0 := free_in hr6.out 0; have z1 := free_in hr6.out 1; have z2 := free_in hr6.out 2; have z3 := free_in hr6.out 3)
      have hDs : w.heap.size + 1 ≠ D := by omega
      have hz := set4_at hr6.out (.int .i64 0) (.int .i64 0) (.int .i64 0) (.slice none 0 0)
      have hoth : ∀ k, k ≠ w.heap.size + 1 → _ := fun k hk => heap_set4 (w := w6) (p1 := ⟨w.heap.size + 1, 0, none⟩) (p2 := ⟨w.heap.size + 1, 1, none⟩) (p3 := ⟨w.heap.size + 1, 2, none⟩) (p4 := ⟨w.heap.size + 1, 3, none⟩) (.int .i64 0) (.int .i64 0) (.int .i64 0) (.slice none 0 0) hk hk hk hk
      have hKZ := (hoth D hDs.symm).trans (heap_kept hb6 HK.out)
      have hbZ : Below w.heap.size w _ := ((((hB.trans (hb6.mono hB.size)).setCell (p := ⟨w.heap.size + 1, 0, none⟩) (by simp) (.int .i64 0)).setCell (p := ⟨w.heap.size + 1, 1, none⟩) (by simp) (.int .i64 0)).setCell (p := ⟨w.heap.size + 1, 2, none⟩) (by simp) (.int .i64 0)).setCell (p := ⟨w.heap.size + 1, 3, none⟩) (by simp) (.slice none 0 0)
      refine ⟨by simp, .inl ⟨_, _, rfl, run_takeDeferred hKZ, ?_⟩⟩
      have hgr := grownBy_putObj' ((((w6.setCell ⟨w.heap.size + 1, 0, none⟩ (.int .i64 0)).setCell ⟨w.heap.size + 1, 1, none⟩ (.int .i64 0)).setCell ⟨w.heap.size + 1, 2, none⟩ (.int .i64 0)).setCell ⟨w.heap.size + 1, 3, none⟩ (.slice none 0 0)) D (.deferred none)
      have hrw : ∀ r, some D = some r → ∃ o : Obj, ((((w6.setCell ⟨w.heap.size + 1, 0, none⟩ (.int .i64 0)).setCell ⟨w.heap.size + 1, 1, none⟩ (.int .i64 0)).setCell ⟨w.heap.size + 1, 2, none⟩ (.int .i64 0)).setCell ⟨w.heap.size + 1, 3, none⟩ (.slice none 0 0)).heap[r]? = some o ∧ o.isCells = false := fun r e => by cases e; exact ⟨_, hKZ, rfl⟩
      have d0 := cell_kept (cell_in hz 0 (.int .i64 0) rfl) hgr hrw
      have d1 := cell_kept (cell_in hz 1 (.int .i64 0) rfl) hgr hrw
      have d2 := cell_kept (cell_in hz 2 (.int .i64 0) rfl) hgr hrw
      have d3 := cell_kept (cell_in hz 3 (.slice none 0 0) rfl) hgr hrw
      refine ⟨.tuple #[.agg #[.int .i64 0, .int .i64 0, .int .i64 0, .slice none 0 0], .int .i64 5], ?_, ?_⟩
      · simp [results, Try.f33, go_sem, d0, d1, d2, d3]
      · rw [← HT.out, HE.out]
        exact ⟨_, rfl, hbZ.trans (belowK_b (w := w) (Nat.le_refl _) _ D _ _ (by omega) hKZ rfl rfl), Lies.nil _ _⟩
    · rw [hp] at call
      have HE : Hid (joinEnd T = (T, 0)) := by show _ = _; unfold joinEnd; rw [hp]; rfl
      clear hT hJ hcT hlT hK hp
      gi_wp2_with (gi_at_call 47; refine (callsIn_wide.2 call).mono ?_; rintro e w6 ⟨rfl, hb6⟩; have hr6 := Lib.hid (heap_kept hb6 HRS.out); obtain ⟨y0, y1, y2, y3⟩ := cells4_of hr6.out; have z0 := free_in hr6.out 0; have z1 := free_in hr6.out 1; have z2 := free_in hr6.out 2; have z3 := free_in hr6.out 3; obtain ⟨u0, u1, u2, u3⟩ := keep4 hb6 ⟨t0, t1, t2, t3⟩)
      have hDs : w.heap.size + 1 ≠ D := by omega
      have hz := set4_at hr6.out (.int .i64 T.op) (.int .i64 T.hd) (.int .i64 T.n) (.slice aT nT mT)
      have hoth : ∀ k, k ≠ w.heap.size + 1 → _ := fun k hk => heap_set4 (w := w6) (p1 := ⟨w.heap.size + 1, 0, none⟩) (p2 := ⟨w.heap.size + 1, 1, none⟩) (p3 := ⟨w.heap.size + 1, 2, none⟩) (p4 := ⟨w.heap.size + 1, 3, none⟩) (.int .i64 T.op) (.int .i64 T.hd) (.int .i64 T.n) (.slice aT nT mT) hk hk hk hk
      have hKZ := (hoth D hDs.symm).trans (heap_kept hb6 HK.out)
      have hbZ : Below w.heap.size w _ := ((((hB.trans (hb6.mono hB.size)).setCell (p := ⟨w.heap.size + 1, 0, none⟩) (by simp) (.int .i64 T.op)).setCell (p := ⟨w.heap.size + 1, 1, none⟩) (by simp) (.int .i64 T.hd)).setCell (p := ⟨w.heap.size + 1, 2, none⟩) (by simp) (.int .i64 T.n)).setCell (p := ⟨w.heap.size + 1, 3, none⟩) (by simp) (.slice aT nT mT)
      refine ⟨by simp, .inl ⟨_, _, rfl, run_takeDeferred hKZ, ?_⟩⟩
      have hgr := grownBy_putObj' ((((w6.setCell ⟨w.heap.size + 1, 0, none⟩ (.int .i64 T.op)).setCell ⟨w.heap.size + 1, 1, none⟩ (.int .i64 T.hd)).setCell ⟨w.heap.size + 1, 2, none⟩ (.int .i64 T.n)).setCell ⟨w.heap.size + 1, 3, none⟩ (.slice aT nT mT)) D (.deferred none)
      have hrw : ∀ r, some D = some r → ∃ o : Obj, ((((w6.setCell ⟨w.heap.size + 1, 0, none⟩ (.int .i64 T.op)).setCell ⟨w.heap.size + 1, 1, none⟩ (.int .i64 T.hd)).setCell ⟨w.heap.size + 1, 2, none⟩ (.int .i64 T.n)).setCell ⟨w.heap.size + 1, 3, none⟩ (.slice aT nT mT)).heap[r]? = some o ∧ o.isCells = false := fun r e => by cases e; exact ⟨_, hKZ, rfl⟩
      have d0 := cell_kept (cell_in hz 0 (.int .i64 T.op) rfl) hgr hrw
      have d1 := cell_kept (cell_in hz 1 (.int .i64 T.hd) rfl) hgr hrw
      have d2 := cell_kept (cell_in hz 2 (.int .i64 T.n) rfl) hgr hrw
      have d3 := cell_kept (cell_in hz 3 (.slice aT nT mT) rfl) hgr hrw
      refine ⟨.tuple #[.agg #[.int .i64 T.op, .int .i64 T.hd, .int .i64 T.n, .slice aT nT mT], .int .i64 0], ?_, ?_⟩
      · simp [results, Try.f33, go_sem, d0, d1, d2, d3]
      · rw [← HT.out, HE.out]
        exact ⟨_, rfl, hbZ.trans (belowK_b (w := w) (Nat.le_refl _) _ D _ _ (by omega) hKZ rfl rfl), (((HLT.out.keep hb6).still fun b hS _ => hoth b (by omega)).kept fun p u e => cell_kept e hgr hrw).more fun b _ hS => by omega⟩
  case stop =>
    rintro D c pre W _ _ h _
    exact h.elim
end Go.Proofs.Ytnooeaefldklaaa
