/- Renumbering the constants of a term, as package copies does it: as a plain function, and the contracts of copies.each over terms and of copies.renumbered. -/
import Derived.Test.YteoheeddjddekaaSgD
namespace Go.Proofs.Yteoheeddjddekaa
open Go.RowKit
set_option linter.unusedSimpArgs false
set_option linter.unusedVariables false
namespace Tm
mutual
/-- the constants of a term, renumbered -/
def num (g : Int → Int) : Tm → Tm
  | .mk o h n l => .mk o h (if h = 2 then g n else n) (numL g l)
def numL (g : Int → Int) : List Tm → List Tm
  | [] => []
  | t :: l => num g t :: numL g l
end
theorem numL_map (g : Int → Int) : ∀ l : List Tm, numL g l = l.map (num g)
  | [] => rfl
  | t :: l => by simp only [numL, List.map_cons, numL_map g l]
theorem num_fit (g : Int → Int) (hg : ∀ n, 0 ≤ n → n ≤ 9999 → I64 (g n)) {t : Tm} (h : nums t = true) : (num g t).fit := by
  obtain ⟨o, hd, n, l⟩ := t
  have hn := nums_n h
  simp only [nums, Bool.and_eq_true, decide_eq_true_eq] at h
  simp only [Tm.fit, num, Tm.op, Tm.hd, Tm.n]
  refine ⟨by omega, by omega, ?_⟩
  split
  · exact hg n hn.1 hn.2
  · omega
end Tm

set_option maxHeartbeats 4000000 in
set_option maxRecDepth 100000 in
theorem eachT_any (G : Tm → Tm) (B : Nat) (l : List Tm) (v : Value) (w : World) (hv : Lies w (fun _ => True) v l) (hl6 : l.length ≤ 600) (hfit : ∀ t ∈ l, (G t).fit)
    (call : ∀ t ∈ l, ∀ (tv : Value) (w1 : World), Below w.heap.size w w1 → Lies w1 (fun _ => True) tv t.args → Calls Try.prog 83 #[.agg #[.int .i64 t.op, .int .i64 t.hd, .int .i64 t.n, tv], .pointer (some ⟨B, 0, none⟩)] w1 (GivesT w1 (G t))) :
    Calls Try.prog 82 #[v, .func (.func 83) #[] #[.pointer (some ⟨B, 0, none⟩)]] w fun e w' => ∃ a, e = .returned a ∧ Below w.heap.size w w' ∧ Lies w' (w.heap.size ≤ ·) a (l.map G) := by
  obtain ⟨ao, b, off, len, cap, oo, hh, kk, sv, tt, rfl, R⟩ := hv.open
  obtain ⟨i0, hi0, hz0, hz1, hz2⟩ := info_parts tm_info
  have hr := R.hr
  have hl := R.hl
  have hlen : len ≤ 600 := by rw [← R.length]; exact hl6
  have HLEN := Lib.hid R.length
  have HR := Lib.hid R
  have HC := Lib.hid call
  have HF := Lib.hid hfit
  have HI0 := Lib.hid hi0
  have HZ0 := Lib.hid hz0
  have HB0 := Lib.hid (Below.refl w.heap.size w)
  clear hv R call hfit hi0 hz0 hl6
  go_enter Try.func82, Try.ntmps82
  go_wp2_with fail
  go_loopw [5, 10] (fun v i wr => ∃ j : Nat, j ≤ len ∧ i = .int .i64 j ∧ Below w.heap.size w wr ∧ Built wr w.heap.size 25 v ((l.take j).map G)) (fun _ i _ => len - (RowKit.intOf i).toNat)
  case atStart => exact ⟨0, Nat.zero_le _, rfl, HB0.out, by rw [List.take_zero]; exact Built.nil _ _ _⟩
  case round =>
    obtain ⟨j, hj, rfl, hbw, M⟩ := hrel
    by_cases hlt : j < len
    · obtain rfl := HR.out.hao (by omega)
      obtain ⟨d0, d1, d2, d3, hsub⟩ := HR.out.at hbw j hlt
      obtain ⟨a5, n5, m5, hs5⟩ := hsub.isSlice
      rw [hs5] at d3 hsub
      have hjl : j < l.length := by rw [HLEN.out]; exact hlt
      have hg := HR.out.get j hlt
      have hba := one_below wr (.cells #[.int .i64 (oo j), .int .i64 (hh j), .int .i64 (kk j), .slice a5 n5 m5] 25)
      have c1 := HC.out l[j] (List.getElem_mem hjl) (.slice a5 n5 m5) _ (hbw.trans (hba.mono hbw.size)) (by rw [hg]; exact hsub.keep hba)
      have hft := HF.out l[j] (List.getElem_mem hjl)
      have hstep : (l.take (j + 1)).map G = (l.take j).map G ++ [G l[j]] := by rw [List.take_succ_eq_append_getElem hjl, List.map_append]; rfl
      have hlenk : ((l.take j).map G).length = j := by simp; omega
      generalize G l[j] = T at c1 hft hstep
      rw [hg] at c1
      obtain ⟨tq, th, tn, tl⟩ := T
      unfold GivesT at c1
      simp only [Tm.op, Tm.hd, Tm.n, Tm.args] at c1
      generalize (l.take j).map G = ts at M hstep hlenk
      subst hlenk
      have hrl := M.lt
      have hws := hbw.size
      have HM := Lib.hid M
      have HRL := Lib.hid hrl
      have HBW := Lib.hid hbw
      have HFT := Lib.hid hft
      have HSTEP := Lib.hid hstep
      have HBA := Lib.hid hba
      clear M hsub hg hrl hbw hft hstep hba
      go_wp2_with fail
      refine c1.mono ?_
      rintro e w2 ⟨v2, rfl, hb2, hx2⟩
      obtain ⟨a7, n7, m7, rfl⟩ := hx2.isSlice
      have hb12 := below_next HBA.out hb2
      have hs2 := hb12.size
      have hsA := hb2.size
      simp at hsA
      obtain ⟨vs, hvl, hown2, hsub2⟩ := (HM.out.below hb12).own
      have HVL := Lib.hid hvl
      have HSB := Lib.hid hsub2
      have HOW := Lib.hid hown2
      have HX2 := Lib.hid (hx2.more (S' := fun b' => w.heap.size ≤ b' ∧ u5.ownBlock ≠ some b') fun b' hlt' hS => ⟨by simp at hS; omega, fun e => by have := (HRL.out b' e).2; simp at hS; omega⟩)
      have HB12 := Lib.hid hb12
      clear hvl hsub2 hown2 hx2 hb12 hb2 c1 d0 d1 d2 d3
      go_wp2_with (at_builtin; refine wpList_append_lies _ (by rfl) _ _ _ (by rfl) w.heap.size 25 i0 _ 4 48 Try.underlying23 HI0.out HZ0.out hz1 hz2 rfl (by omega) u5 _ _ (by rfl) (HOW.out.alloc _) ⟨w2.heap.size, 0, none⟩ 1 1 [.int .i64 tq, .int .i64 th, .int .i64 tn, .slice a7 n7 m7] (by rfl) (by rfl) (World.news_of_block (cs := #[.int .i64 tq, .int .i64 th, .int .i64 tn, .slice a7 n7 m7]) (t := 25) (fr := (0, 0)) (heap_alloc_new _ _)) (by intro u hu; simp at hu; rcases hu with rfl | rfl | rfl | rfl <;> rfl) (by omega) (by unfold maxLen; omega) (by omega) (by simp; omega) _ rfl ?_; intro g cap3 w3 hown3 hgrow3 hat3 hlt3)
      go_roundw
      case rel =>
        refine ⟨ts.length + 1, by omega, by go_num, ((below_next HBW.out HB12.out).alloc (by omega) _).grown hgrow3 (by simp; omega) (fun k hk => (HRL.out k hk).1), ?_⟩
        rw [HSTEP.out]
        exact Built.push (w := w2.alloc (.cells #[.int .i64 tq, .int .i64 th, .int .i64 tn, .slice a7 n7 m7] 25)) (t := .mk tq th tn tl) (s := .slice a7 n7 m7) HVL.out (fun i h h' => (HSB.out i h h').keep (one_below _ _)) HM.out.fit HFT.out (HX2.out.keep (one_below _ _)) hown3 hgrow3 hat3
      case measure => simp [RowKit.intOf]; omega
    · obtain rfl : j = len := by omega
      have hM := M.lies
      rw [List.take_of_length_le (by rw [HLEN.out]; exact Nat.le_refl _)] at hM
      have HM := Lib.hid hM
      have HBW := Lib.hid hbw
      clear M hM hbw
      go_wp2_with fail
      go_ret
      exact ⟨_, rfl, HBW.out, HM.out⟩

/-- a function of numbers: what it says, and that it leaves all as it was -/
structure NumF (w : World) (F : Nat) (cap : Array Value) (g : Int → Int) : Prop where
  enter : ∀ args w, (callFunc F args).run Try.prog w = .ok (.enter F args) w
  fit : ∀ n, 0 ≤ n → n ≤ 9999 → I64 (g n)
  call : ∀ (n : Int) (w1 : World), 0 ≤ n → n ≤ 9999 → Below w.heap.size w w1 → Calls Try.prog F (#[.int .i64 n] ++ cap) w1 fun e w' => e = .returned (.int .i64 (g n)) ∧ w1 = w'
theorem NumF.keep {w w' : World} {F : Nat} {cap : Array Value} {g : Int → Int} (h : NumF w F cap g) (hb : Below w.heap.size w w') : NumF w' F cap g :=
  ⟨h.enter, h.fit, fun n w1 h0 h1 hb1 => h.call n w1 h0 h1 (below_next hb hb1)⟩

theorem givesT_set {w w1 : World} {T : Tm} {B : Nat} {v : Value} (hB : w.heap.size ≤ B) (hb : Below w.heap.size w w1) (hl : Lies w1 (fun b => w.heap.size ≤ b ∧ b ≠ B) v T.args) {a b c d : Value} :
    GivesT w T (.returned (.agg #[.int .i64 T.op, .int .i64 T.hd, .int .i64 T.n, v])) ((((w1.setCell ⟨B, 0, none⟩ a).setCell ⟨B, 1, none⟩ b).setCell ⟨B, 2, none⟩ c).setCell ⟨B, 3, none⟩ d) :=
  ⟨v, rfl, (((hb.setCell hB _).setCell hB _).setCell hB _).setCell hB _, (hl.still fun j hS _ => heap_set4 _ _ _ _ hS.2 hS.2 hS.2 hS.2).more fun _ _ hS => hS.1⟩

set_option maxHeartbeats 1000000 in
set_option maxRecDepth 100000 in
theorem renC_any (t T : Tm) (F : Nat) (cp : Array Value) (B : Nat) (v : Value) (w : World) (hv : Lies w (fun _ => True) v t.args) (hB : w.heap[B]? = some (.cells #[.func (.func F) #[] cp] 70 (0, 0)))
    (call : ∀ w1, Below w.heap.size w w1 → Calls Try.prog 63 #[.agg #[.int .i64 t.op, .int .i64 t.hd, .int .i64 t.n, v], .func (.func F) #[] cp] w1 (GivesT w1 T)) :
    Calls Try.prog 83 #[.agg #[.int .i64 t.op, .int .i64 t.hd, .int .i64 t.n, v], .pointer (some ⟨B, 0, none⟩)] w (GivesT w T) := by
  obtain ⟨o, h, n, l⟩ := t
  simp only [Tm.op, Tm.hd, Tm.n, Tm.args] at hv call ⊢
  obtain ⟨a2, n2, m2, rfl⟩ := hv.isSlice
  have h2 := two_below w (.cells #[.int .i64 o, .int .i64 h, .int .i64 n, .slice a2 n2 m2] 25) (.cells #[.int .i64 0, .int .i64 0, .int .i64 0, .slice none 0 0] 25)
  have hk2 := two_blocks w #[.int .i64 o, .int .i64 h, .int .i64 n, .slice a2 n2 m2] #[.int .i64 0, .int .i64 0, .int .i64 0, .slice none 0 0] 25 25
  have hs2 : ((w.alloc (.cells #[.int .i64 o, .int .i64 h, .int .i64 n, .slice a2 n2 m2] 25)).alloc (.cells #[.int .i64 0, .int .i64 0, .int .i64 0, .slice none 0 0] 25)).heap.size = w.heap.size + 2 := by simp
  have c1 := call _ h2
  obtain ⟨tq, th, tn, tl⟩ := T
  unfold GivesT at c1
  simp only [Tm.op, Tm.hd, Tm.n, Tm.args] at c1
  have x4 := cell_in (heap_kept h2 hB) 0 _ rfl
  have HH := Lib.hid (And.intro h2 (And.intro hk2 hs2))
  clear h2 hk2 hs2 call hv hB
  go_enter Try.func83, Try.ntmps83
  go_wp2_with fail
  refine c1.mono ?_
  rintro e w1 ⟨v1, rfl, hb1, hl1⟩
  obtain ⟨a3, n3, m3, rfl⟩ := hl1.isSlice
  have hr := heap_kept hb1 HH.out.2.1.2
  obtain ⟨y0, y1, y2, y3⟩ := cells4_of hr
  have f0 := free_in hr 0
  have f1 := free_in hr 1
  have f2 := free_in hr 2
  have f3 := free_in hr 3
  have HX := Lib.hid (And.intro hb1 (And.intro hl1 hr))
  clear hb1 hl1 hr c1 x4
  go_wp2_with fail
  have hz := set4_at HX.out.2.2 (.int .i64 tq) (.int .i64 th) (.int .i64 tn) (.slice a3 n3 m3)
  obtain ⟨z0, z1, z2, z3⟩ := cells4_of hz
  refine bodyPost_ret (v := .agg #[.int .i64 tq, .int .i64 th, .int .i64 tn, .slice a3 n3 m3]) (by simp [results, Try.results83, go_sem, z0, z1, z2, z3]) rfl ?_
  have hsz := HH.out.2.2
  exact givesT_set (T := .mk tq th tn tl) (by omega) (HH.out.1.trans (HX.out.1.mono HH.out.1.size)) (HX.out.2.1.more fun b _ hS => by rw [hsz] at hS; exact ⟨by omega, by omega⟩)
end Go.Proofs.Yteoheeddjddekaa
