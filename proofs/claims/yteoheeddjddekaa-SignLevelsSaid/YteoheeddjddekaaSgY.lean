/- The contracts of the closure of copies.Renumbered, and of Renumbered and Sig. -/
import Derived.Test.YteoheeddjddekaaSgX
import Derived.Deep.RegionHeld3
namespace Go.Proofs.Yteoheeddjddekaa
open Go.RowKit
set_option linter.unusedSimpArgs false
set_option linter.unusedVariables false

theorem set6D_at {w : World} {B : Nat} {a0 b0 c0 d0 e0 f0 : Value} {t : TypeId} (h : w.heap[B]? = some (.cells #[a0, b0, c0, d0, e0, f0] t (0, 0))) (a b c d e f : Value) :
    ((((((w.setCell ⟨B, 0, none⟩ a).setCell ⟨B, 1, none⟩ b).setCell ⟨B, 2, none⟩ c).setCell ⟨B, 3, none⟩ d).setCell ⟨B, 4, none⟩ e).setCell ⟨B, 5, none⟩ f).heap[B]? = some (.cells #[a, b, c, d, e, f] t (0, 0)) := by
  have := heap_set_at (j := 5) f (heap_set_at (j := 4) e (heap_set_at (j := 3) d (heap_set_at (j := 2) c (heap_set_at (j := 1) b (heap_set_at (j := 0) a h)))))
  simpa using this
theorem set6D_other {w : World} {B k : Nat} (a b c d e f : Value) (h : k ≠ B) : ((((((w.setCell ⟨B, 0, none⟩ a).setCell ⟨B, 1, none⟩ b).setCell ⟨B, 2, none⟩ c).setCell ⟨B, 3, none⟩ d).setCell ⟨B, 4, none⟩ e).setCell ⟨B, 5, none⟩ f).heap[k]? = w.heap[k]? := by
  rw [Below.heap_setCell _ _ _ _ (by simpa using h), Below.heap_setCell _ _ _ _ (by simpa using h), Below.heap_setCell _ _ _ _ (by simpa using h), Below.heap_setCell _ _ _ _ (by simpa using h), Below.heap_setCell _ _ _ _ (by simpa using h), Below.heap_setCell _ _ _ _ (by simpa using h)]
theorem givesD_set {w w1 : World} {d : Dc} {B : Nat} {v : Value} (hB : w.heap.size ≤ B) (hb : Below w.heap.size w w1) (hl : Lies w1 (fun b => w.heap.size ≤ b ∧ b ≠ B) v d.cl.args) {x0 x1 x2 x3 x4 x5 : Value} :
    GivesD w d (.returned (dcV d v)) ((((((w1.setCell ⟨B, 0, none⟩ x0).setCell ⟨B, 1, none⟩ x1).setCell ⟨B, 2, none⟩ x2).setCell ⟨B, 3, none⟩ x3).setCell ⟨B, 4, none⟩ x4).setCell ⟨B, 5, none⟩ x5) :=
  ⟨v, rfl, (((((hb.setCell hB _).setCell hB _).setCell hB _).setCell hB _).setCell hB _).setCell hB _, (hl.still fun j hS _ => set6D_other _ _ _ _ _ _ hS.2).more fun _ _ hS => hS.1⟩
theorem cellsDF_six {W : World} {B k : Nat} {x0 x1 x2 x3 x4 x5 x6 a0 a1 a2 a3 a4 a5 : Value} {P : Addr} (h : P.block ≠ k ∧ B ≠ k) (x : CellsDF W B x0 x1 x2 x3 x4 x5 P x6) :
    CellsDF ((((((W.setCell ⟨k, 0, none⟩ a0).setCell ⟨k, 1, none⟩ a1).setCell ⟨k, 2, none⟩ a2).setCell ⟨k, 3, none⟩ a3).setCell ⟨k, 4, none⟩ a4).setCell ⟨k, 5, none⟩ a5) B x0 x1 x2 x3 x4 x5 P x6 := by
  have go : ∀ p : Addr, p.block ≠ k → ∀ u, W.cell? p = some u → ((((((W.setCell ⟨k, 0, none⟩ a0).setCell ⟨k, 1, none⟩ a1).setCell ⟨k, 2, none⟩ a2).setCell ⟨k, 3, none⟩ a3).setCell ⟨k, 4, none⟩ a4).setCell ⟨k, 5, none⟩ a5).cell? p = some u := fun p hp u e => by
    rw [World.cell?_of_block (w := W)]
    · exact e
    · rw [Below.heap_setCell _ _ _ _ (by simpa using hp), Below.heap_setCell _ _ _ _ (by simpa using hp), Below.heap_setCell _ _ _ _ (by simpa using hp), Below.heap_setCell _ _ _ _ (by simpa using hp), Below.heap_setCell _ _ _ _ (by simpa using hp), Below.heap_setCell _ _ _ _ (by simpa using hp)]
  obtain ⟨y6, y0, y1, y2, y3, y4, y5⟩ := x
  exact ⟨go _ h.1 _ y6, go _ h.2 _ y0, go _ h.2 _ y1, go _ h.2 _ y2, go _ h.2 _ y3, go _ h.2 _ y4, go _ h.2 _ y5⟩

set_option maxHeartbeats 4000000 in
set_option maxRecDepth 100000 in
theorem renD_any (d : Dc) (F : Nat) (cp : Array Value) (g : Int → Int) (B : Nat) (v : Value) (w : World) (hv : Lies w (fun _ => True) v d.cl.args) (hB : w.heap[B]? = some (.cells #[.func (.func F) #[] cp] 70 (0, 0)))
    (hp : Tm.proper d.cl = true) (HN : NumF w F cp g) :
    Calls Try.prog 62 #[dcV d v, .pointer (some ⟨B, 0, none⟩)] w (GivesD w (d.num g)) := by
  obtain ⟨nm, ⟨o, h, n, l⟩, im⟩ := d
  unfold dcV
  simp only [Tm.op, Tm.hd, Tm.n, Tm.args] at hv ⊢
  obtain ⟨a2, n2, m2, rfl⟩ := hv.isSlice
  have h2 := two_below w (.cells #[.string nm, .int .i64 o, .int .i64 h, .int .i64 n, .slice a2 n2 m2, .int .i64 im] 40) (.cells #[.string ⟨#[]⟩, .int .i64 0, .int .i64 0, .int .i64 0, .slice none 0 0, .int .i64 0] 40)
  have hk2 := two_blocks w #[.string nm, .int .i64 o, .int .i64 h, .int .i64 n, .slice a2 n2 m2, .int .i64 im] #[.string ⟨#[]⟩, .int .i64 0, .int .i64 0, .int .i64 0, .slice none 0 0, .int .i64 0] 40 40
  have c1 := fun w1 (hb : Below w.heap.size w w1) => ren_any F cp g (.mk o h n l) (.slice a2 n2 m2) w1 hp (HN.keep hb) (hv.keep hb)
  have hT : Hid (Dc.num g ⟨nm, .mk o h n l, im⟩ = ⟨nm, Tm.num g (.mk o h n l), im⟩) := Lib.hid rfl
  rw [hT.out]
  generalize Tm.num g (.mk o h n l) = T at c1
  clear hT
  obtain ⟨tq, th, tn, tl⟩ := T
  unfold GivesT at c1
  simp only [Tm.op, Tm.hd, Tm.n, Tm.args] at c1
  have hs2 : ((w.alloc (.cells #[.string nm, .int .i64 o, .int .i64 h, .int .i64 n, .slice a2 n2 m2, .int .i64 im] 40)).alloc (.cells #[.string ⟨#[]⟩, .int .i64 0, .int .i64 0, .int .i64 0, .slice none 0 0, .int .i64 0] 40)).heap.size = w.heap.size + 2 := by simp
  have hne : (⟨B, 0, none⟩ : Addr).block ≠ w.heap.size + 1 ∧ w.heap.size ≠ w.heap.size + 1 := ⟨by have := lt_of_block hB; show B ≠ _; omega, by omega⟩
  have hS0 : CellsDF _ w.heap.size (.string nm) (.int .i64 o) (.int .i64 h) (.int .i64 n) (.slice a2 n2 m2) (.int .i64 im) ⟨B, 0, none⟩ (.func (.func F) #[] cp) := ⟨cell_in (heap_kept h2 hB) 0 _ rfl, cells6_of' hk2.1⟩
  have HR2 := Lib.hid hk2.2
  have HD := Lib.hid (h2.trans ((Below.refl _ _).drew.mono h2.size))
  have HSZ := Lib.hid hs2
  have HNE := Lib.hid hne
  clear hs2 hk2 hv hB HN hp h2 hne
  go_enter Try.func62, Try.ntmps62
  go_upto_region 1 with fail
  generalize ((w.alloc (.cells #[.string nm, .int .i64 o, .int .i64 h, .int .i64 n, .slice a2 n2 m2, .int .i64 im] 40)).alloc (.cells #[.string ⟨#[]⟩, .int .i64 0, .int .i64 0, .int .i64 0, .slice none 0 0, .int .i64 0] 40)) = W at *
  go_region_held3 (fun X => CellsDF X w.heap.size (.string nm) (.int .i64 o) (.int .i64 h) (.int .i64 n) (.slice a2 n2 m2) (.int .i64 im) ⟨B, 0, none⟩ (.func (.func F) #[] cp))
    (first | (with_reducible exact cellsDF_below (Below.refl _ _).drew hS0) | (with_reducible exact cellsDF_six HNE.out hcn) | (with_reducible exact hcn) | fail)
    (first | (go_at_call 63; (with_reducible refine (c1 _ HD.out).mono ?_); rintro e w4 ⟨v4, rfl, hb4, hl4⟩; obtain ⟨a4, n4, m4, rfl⟩ := hl4.isSlice; have hcn := cellsDF_below hb4 (cellsDF_below (Below.refl _ _).drew hS0); have hr4 := heap_kept hb4 (heap_kept (Below.refl _ _).drew HR2.out); obtain ⟨y0, y1, y2, y3, y4, y5⟩ := cells6_of' hr4; have f0 := free_in hr4 0; have f1 := free_in hr4 1; have f2 := free_in hr4 2; have f3 := free_in hr4 3; have f4 := free_in hr4 4; have f5 := free_in hr4 5; have HX := Lib.hid (And.intro hb4 (And.intro hl4 hr4)); clear hb4 hl4 hr4 c1 hS0) | fail)
  go_wp2_with fail
  have hz := set6D_at HX.out.2.2 (.string nm) (.int .i64 tq) (.int .i64 th) (.int .i64 tn) (.slice a4 n4 m4) (.int .i64 im)
  obtain ⟨z0, z1, z2, z3, z4, z5⟩ := cells6_of' hz
  refine bodyPost_ret (v := .agg #[.string nm, .int .i64 tq, .int .i64 th, .int .i64 tn, .slice a4 n4 m4, .int .i64 im]) (by simp [results, Try.results62, go_sem, z0, z1, z2, z3, z4, z5]) rfl ?_
  have hsz := HSZ.out
  exact givesD_set (d := ⟨nm, .mk tq th tn tl, im⟩) (B := w.heap.size + 1) (by omega) (below_next HD.out HX.out.1) (HX.out.2.1.more fun b _ hS => by have hS' : W.heap.size ≤ b := hS; exact ⟨by omega, by omega⟩)

theorem DBuilt.low {w : World} {base base' : Nat} {v : Value} {l : List Dc} (h : DBuilt w base v l) (hb : base' ≤ base) : DBuilt w base' v l := by
  obtain ⟨⟨vs, hl, hown, hsub⟩, hf⟩ := h
  refine ⟨⟨vs, hl, ⟨hown.1, ?_⟩, fun i h h' => (hsub i h h').more fun b _ hS => ⟨by omega, hS.2⟩⟩, hf⟩
  rcases hown.2 with hn | ⟨g, cap, cur, hv, hg, rest⟩
  · exact .inl hn
  · exact .inr ⟨g, cap, cur, hv, by omega, rest⟩
theorem DLies.fits {w : World} {S : Nat → Prop} {v : Value} {l : List Dc} (h : DLies w S v l) : ∀ d ∈ l, d.fit := by
  obtain ⟨ao, b, off, len, cap, nm, o, hh, k, sv, ts, im, rfl, R⟩ := h
  intro d hd
  rw [R.isRow] at hd
  obtain ⟨i, hi, rfl⟩ := List.mem_map.1 hd
  have hi' := List.mem_range.1 hi
  exact ⟨R.rn i hi', ⟨R.r0 i hi', R.r1 i hi', R.r2 i hi'⟩, R.r3 i hi'⟩
theorem num_fitD (g : Int → Int) (hg : ∀ n, 0 ≤ n → n ≤ 9999 → I64 (g n)) {d : Dc} (h : d.fit) (hp : Tm.proper d.cl = true) : (d.num g).fit :=
  ⟨h.1, Tm.num_fit g hg (Tm.nums_of_formed _ 1 (Tm.proper_formed' hp).2), h.2.2⟩

set_option maxHeartbeats 1000000 in
set_option maxRecDepth 100000 in
theorem renum_any (F : Nat) (cp : Array Value) (g : Int → Int) (l : List Dc) (sv : Value) (w : World) (hl : DLies w (fun _ => True) sv l) (hp : ∀ d ∈ l, Tm.proper d.cl = true) (hlen : l.length ≤ 1000000) (HN : NumF w F cp g) :
    Calls Try.prog 37 #[sv, .func (.func F) #[] cp] w (GivesS w (l.map (Dc.num g))) := by
  have hb := one_below w (.cells #[.func (.func F) #[] cp] 70)
  have hn := heap_alloc_new w (.cells #[.func (.func F) #[] cp] 70)
  have hs : (w.alloc (.cells #[.func (.func F) #[] cp] 70)).heap.size = w.heap.size + 1 := by simp
  have c1 := eachD_any (Dc.num g) w.heap.size l sv _ (hl.keep hb) hlen (fun d hd => num_fitD g HN.fit (hl.fits d hd) (hp d hd)) fun d hd tv w1 hb1 ht => renD_any d F cp g w.heap.size tv w1 ht (heap_kept hb1 hn) (hp d hd) (HN.keep (below_next hb hb1))
  have hmf : ∀ (fn : Fn) (first cap : Array Value) (w : World), (Instr.makeFunc fn first cap).run Try.prog w = .ok (.func fn first cap) w := fun _ _ _ _ => rfl
  obtain ⟨a, m, rfl, hlen'⟩ := hl.isSlice
  have HH := Lib.hid (And.intro hb hs)
  clear hb hn hs hl hp HN hlen'
  go_enter Try.func37, Try.ntmps37
  go_wp2_with fail
  refine c1.mono ?_
  rintro e w1 ⟨v1, rfl, hb1, M⟩
  obtain ⟨a3, m3, hv3⟩ := M.isSlice
  rw [List.length_map] at hv3
  subst hv3
  have HX := Lib.hid (And.intro hb1 M)
  clear hb1 M c1
  go_wp2_with fail
  go_ret
  have hlow := DBuilt.low (base' := w.heap.size) HX.out.2 HH.out.1.size
  exact ⟨_, rfl, HH.out.1.trans (HX.out.1.mono HH.out.1.size), hlow⟩

set_option maxHeartbeats 400000 in
set_option maxRecDepth 100000 in
theorem same_num (w : World) : NumF w 67 #[] id := by
  refine ⟨fun args w => by simp [go_sem], fun n h0 h1 => ⟨by simp; omega, by simp; omega⟩, fun n w1 h0 h1 _ => ?_⟩
  simp only [Array.append_empty]
  go_enter Try.func67, Try.ntmps67
  go_wp2_with fail
  go_ret
  exact ⟨rfl, rfl⟩
namespace Tm
mutual
theorem num_id : ∀ t : Tm, num id t = t
  | .mk o h n l => by simp only [num, numL_id l, id, ite_self]
theorem numL_id : ∀ l : List Tm, numL id l = l
  | [] => rfl
  | t :: l => by simp only [numL, num_id t, numL_id l]
end
end Tm
theorem map_num_id (l : List Dc) : l.map (Dc.num id) = l := by
  rw [List.map_congr_left (g := id) (fun d _ => by cases d; simp only [Dc.num, Tm.num_id, id]), List.map_id]

set_option maxHeartbeats 1000000 in
set_option maxRecDepth 100000 in
theorem sig_any (l : List Dc) (sv : Value) (w : World) (hl : DLies w (fun _ => True) sv l) (hp : ∀ d ∈ l, Tm.proper d.cl = true) (hlen : l.length ≤ 1000000) :
    Calls Try.prog 45 #[sv] w (GivesS w l) := by
  have c1 := renum_any 67 #[] id l sv w hl hp hlen (same_num w)
  rw [map_num_id] at c1
  obtain ⟨a, m, rfl, hlen'⟩ := hl.isSlice
  clear hl hp hlen'
  go_enter Try.func45, Try.ntmps45
  go_wp2_with fail
  refine c1.mono ?_
  rintro e w1 ⟨v1, rfl, hb1, M⟩
  obtain ⟨a3, m3, rfl⟩ := M.isSlice
  have HX := Lib.hid (And.intro hb1 M)
  clear hb1 M c1
  go_wp2_with fail
  go_ret
  exact ⟨_, rfl, HX.out.1, HX.out.2⟩

/-- the numbers n and n + 1, exchanged -/
def swp (n : Int) (c : Int) : Int := if c = n then n + 1 else if c = n + 1 then n else c
set_option maxHeartbeats 400000 in
set_option maxRecDepth 100000 in
theorem swap_num (w : World) (B : Nat) (n : Int) (hB : w.heap[B]? = some (.cells #[.int .i64 n] 3 (0, 0))) (h0 : 0 ≤ n) (h1 : n ≤ 1000000) : NumF w 38 #[.pointer (some ⟨B, 0, none⟩)] (swp n) := by
  refine ⟨fun args w => by simp [go_sem], fun c c0 c1 => by unfold swp; constructor <;> (split; omega; split <;> omega), fun c w1 c0 c1 hb => ?_⟩
  have hx := cell_in (heap_kept hb hB) 0 _ rfl
  have hsum : IntKind.i64.wrap (n + 1) = n + 1 := IntWalk.i64_in _ (by omega)
  have hs : (#[Value.int .i64 c] ++ #[.pointer (some ⟨B, 0, none⟩)] : Array Value) = #[.int .i64 c, .pointer (some ⟨B, 0, none⟩)] := rfl
  rw [hs]
  unfold swp
  clear hs hb hB
  by_cases e1 : c = n
  · subst e1
    rw [if_pos rfl]
    go_enter Try.func38, Try.ntmps38
    go_wp2_with fail
    go_ret
    exact ⟨rfl, rfl⟩
  · rw [if_neg e1]
    have e1' : (c == n) = false := by simpa using e1
    by_cases e2 : c = n + 1
    · rw [if_pos e2]
      have e2' : (c == n + 1) = true := by simpa using e2
      clear e1
      go_enter Try.func38, Try.ntmps38
      go_wp2_with fail
      go_ret
      exact ⟨rfl, rfl⟩
    · rw [if_neg e2]
      have e2' : (c == n + 1) = false := by simpa using e2
      go_enter Try.func38, Try.ntmps38
      go_wp2_with fail
      go_ret
      exact ⟨rfl, rfl⟩
end Go.Proofs.Yteoheeddjddekaa
