/- Renumbering the constants of a term, as package copies does it: as a plain function, and the contracts of copies.each over terms and of copies.renumbered. * The contract of copies.renumbered. * The contract of sign.isNext: whether a constant may come behind others. * The map of the positions of constants: plain facts, and the contract of sign.positions. * The contracts of sign.isFormed, Check, checkConstant. * Signatures that a call builds: a row of constants that grows by append; the contracts of copies.each over constants and of copies.Renumbered. * The contracts of the closure of copies.Renumbered, and of Renumbered and Sig. * Contracts of sign: checkConstant, Check, IsFamily, Target, Find. * The contract of sign.Find. -/
import Derived.Test.YteoheeddjddekaaL5b
import Derived.Test.YteoheeddjddekaaLexB
import Derived.Test.YteoheeddjddekaaTmHeads
import Derived.Test.YteoheeddjddekaaSgP
import Derived.Maps.OwnSet
import Derived.Maps.Views
import Derived.MapKept
import Derived.Deep.RegionHeld3
namespace Go.Proofs.Yteoheeddjddekaa
open Go.RowKit
set_option linter.unusedSimpArgs false
set_option linter.unusedVariables false
namespace Tm
mutual
/-- the constants of a term, renumbered -/
def num (g : Int → Int) : Tm → Tm
  | .mk o h n l => .mk o h (if h = 2 then g n else n) (numL g l)
def numL (g : Int → Int) : List Tm → List Tm
  | [] => []
  | t :: l => num g t :: numL g l
end
theorem numL_map (g : Int → Int) : ∀ l : List Tm, numL g l = l.map (num g)
  | [] => rfl
  | t :: l => by simp only [numL, List.map_cons, numL_map g l]
theorem num_fit (g : Int → Int) (hg : ∀ n, 0 ≤ n → n ≤ 9999 → I64 (g n)) {t : Tm} (h : nums t = true) : (num g t).fit := by
  obtain ⟨o, hd, n, l⟩ := t
  have hn := nums_n h
  simp only [nums, Bool.and_eq_true, decide_eq_true_eq] at h
  simp only [Tm.fit, num, Tm.op, Tm.hd, Tm.n]
  refine ⟨by omega, by omega, ?_⟩
  split
  · exact hg n hn.1 hn.2
  · omega
end Tm

set_option maxHeartbeats 4000000 in
set_option maxRecDepth 100000 in
theorem eachT_any (G : Tm → Tm) (B : Nat) (l : List Tm) (v : Value) (w : World) (hv : Lies w (fun _ => True) v l) (hl6 : l.length ≤ 600) (hfit : ∀ t ∈ l, (G t).fit)
    (call : ∀ t ∈ l, ∀ (tv : Value) (w1 : World), Below w.heap.size w w1 → Lies w1 (fun _ => True) tv t.args → Calls Try.prog 83 #[.agg #[.int .i64 t.op, .int .i64 t.hd, .int .i64 t.n, tv], .pointer (some ⟨B, 0, none⟩)] w1 (GivesT w1 (G t))) :
    Calls Try.prog 82 #[v, .func (.func 83) #[] #[.pointer (some ⟨B, 0, none⟩)]] w fun e w' => ∃ a, e = .returned a ∧ Below w.heap.size w w' ∧ Lies w' (w.heap.size ≤ ·) a (l.map G) := by
  obtain ⟨ao, b, off, len, cap, oo, hh, kk, sv, tt, rfl, R⟩ := hv.open
  obtain ⟨i0, hi0, hz0, hz1, hz2⟩ := info_parts tm_info
  have hr := R.hr
  have hl := R.hl
  have hlen : len ≤ 600 := by rw [← R.length]; exact hl6
  have HLEN := Lib.hid R.length
  have HR := Lib.hid R
  have HC := Lib.hid call
  have HF := Lib.hid hfit
  have HI0 := Lib.hid hi0
  have HZ0 := Lib.hid hz0
  have HB0 := Lib.hid (Below.refl w.heap.size w)
  clear hv R call hfit hi0 hz0 hl6
  go_enter Try.func82, Try.ntmps82
  go_wp2_with fail
  go_loopw [5, 10] (fun v i wr => ∃ j : Nat, j ≤ len ∧ i = .int .i64 j ∧ Below w.heap.size w wr ∧ Built wr w.heap.size 25 v ((l.take j).map G)) (fun _ i _ => len - (RowKit.intOf i).toNat)
  case atStart => exact ⟨0, Nat.zero_le _, rfl, HB0.out, by rw [List.take_zero]; exact Built.nil _ _ _⟩
  case round =>
    obtain ⟨j, hj, rfl, hbw, M⟩ := hrel
    by_cases hlt : j < len
    · obtain rfl := HR.out.hao (by omega)
      obtain ⟨d0, d1, d2, d3, hsub⟩ := HR.out.at hbw j hlt
      obtain ⟨a5, n5, m5, hs5⟩ := hsub.isSlice
      rw [hs5] at d3 hsub
      have hjl : j < l.length := by rw [HLEN.out]; exact hlt
      have hg := HR.out.get j hlt
      have hba := one_below wr (.cells #[.int .i64 (oo j), .int .i64 (hh j), .int .i64 (kk j), .slice a5 n5 m5] 25)
      have c1 := HC.out l[j] (List.getElem_mem hjl) (.slice a5 n5 m5) _ (hbw.trans (hba.mono hbw.size)) (by rw [hg]; exact hsub.keep hba)
      have hft := HF.out l[j] (List.getElem_mem hjl)
      have hstep : (l.take (j + 1)).map G = (l.take j).map G ++ [G l[j]] := by rw [List.take_succ_eq_append_getElem hjl, List.map_append]; rfl
      have hlenk : ((l.take j).map G).length = j := by simp; omega
      generalize G l[j] = T at c1 hft hstep
      rw [hg] at c1
      obtain ⟨tq, th, tn, tl⟩ := T
      unfold GivesT at c1
      simp only [Tm.op, Tm.hd, Tm.n, Tm.args] at c1
      generalize (l.take j).map G = ts at M hstep hlenk
      subst hlenk
      have hrl := M.lt
      have hws := hbw.size
      have HM := Lib.hid M
      have HRL := Lib.hid hrl
      have HBW := Lib.hid hbw
      have HFT := Lib.hid hft
      have HSTEP := Lib.hid hstep
      have HBA := Lib.hid hba
      clear M hsub hg hrl hbw hft hstep hba
      go_wp2_with fail
      refine c1.mono ?_
      rintro e w2 ⟨v2, rfl, hb2, hx2⟩
      obtain ⟨a7, n7, m7, rfl⟩ := hx2.isSlice
      have hb12 := below_next HBA.out hb2
      have hs2 := hb12.size
      have hsA := hb2.size
      simp at hsA
      obtain ⟨vs, hvl, hown2, hsub2⟩ := (HM.out.below hb12).own
      have HVL := Lib.hid hvl
      have HSB := Lib.hid hsub2
      have HOW := Lib.hid hown2
      have HX2 := Lib.hid (hx2.more (S' := fun b' => w.heap.size ≤ b' ∧ u5.ownBlock ≠ some b') fun b' hlt' hS => ⟨by simp at hS; omega, fun e => by have := (HRL.out b' e).2; simp at hS; omega⟩)
      have HB12 := Lib.hid hb12
      clear hvl hsub2 hown2 hx2 hb12 hb2 c1 d0 d1 d2 d3
      go_wp2_with (at_builtin; refine wpList_append_lies _ (by rfl) _ _ _ (by rfl) w.heap.size 25 i0 _ 4 48 Try.underlying23 HI0.out HZ0.out hz1 hz2 rfl (by omega) u5 _ _ (by rfl) (HOW.out.alloc _) ⟨w2.heap.size, 0, none⟩ 1 1 [.int .i64 tq, .int .i64 th, .int .i64 tn, .slice a7 n7 m7] (by rfl) (by rfl) (World.news_of_block (cs := #[.int .i64 tq, .int .i64 th, .int .i64 tn, .slice a7 n7 m7]) (t := 25) (fr := (0, 0)) (heap_alloc_new _ _)) (by intro u hu; simp at hu; rcases hu with rfl | rfl | rfl | rfl <;> rfl) (by omega) (by unfold maxLen; omega) (by omega) (by simp; omega) _ rfl ?_; intro g cap3 w3 hown3 hgrow3 hat3 hlt3)
      go_roundw
      case rel =>
        refine ⟨ts.length + 1, by omega, by go_num, ((below_next HBW.out HB12.out).alloc (by omega) _).grown hgrow3 (by simp; omega) (fun k hk => (HRL.out k hk).1), ?_⟩
        rw [HSTEP.out]
        exact Built.push (w := w2.alloc (.cells #[.int .i64 tq, .int .i64 th, .int .i64 tn, .slice a7 n7 m7] 25)) (t := .mk tq th tn tl) (s := .slice a7 n7 m7) HVL.out (fun i h h' => (HSB.out i h h').keep (one_below _ _)) HM.out.fit HFT.out (HX2.out.keep (one_below _ _)) hown3 hgrow3 hat3
      case measure => simp [RowKit.intOf]; omega
    · obtain rfl : j = len := by omega
      have hM := M.lies
      rw [List.take_of_length_le (by rw [HLEN.out]; exact Nat.le_refl _)] at hM
      have HM := Lib.hid hM
      have HBW := Lib.hid hbw
      clear M hM hbw
      go_wp2_with fail
      go_ret
      exact ⟨_, rfl, HBW.out, HM.out⟩

/-- a function of numbers: what it says, and that it leaves all as it was -/
structure NumF (w : World) (F : Nat) (cap : Array Value) (g : Int → Int) : Prop where
  enter : ∀ args w, (callFunc F args).run Try.prog w = .ok (.enter F args) w
  fit : ∀ n, 0 ≤ n → n ≤ 9999 → I64 (g n)
  call : ∀ (n : Int) (w1 : World), 0 ≤ n → n ≤ 9999 → Below w.heap.size w w1 → Calls Try.prog F (#[.int .i64 n] ++ cap) w1 fun e w' => e = .returned (.int .i64 (g n)) ∧ w1 = w'
theorem NumF.keep {w w' : World} {F : Nat} {cap : Array Value} {g : Int → Int} (h : NumF w F cap g) (hb : Below w.heap.size w w') : NumF w' F cap g :=
  ⟨h.enter, h.fit, fun n w1 h0 h1 hb1 => h.call n w1 h0 h1 (below_next hb hb1)⟩

theorem givesT_set {w w1 : World} {T : Tm} {B : Nat} {v : Value} (hB : w.heap.size ≤ B) (hb : Below w.heap.size w w1) (hl : Lies w1 (fun b => w.heap.size ≤ b ∧ b ≠ B) v T.args) {a b c d : Value} :
    GivesT w T (.returned (.agg #[.int .i64 T.op, .int .i64 T.hd, .int .i64 T.n, v])) ((((w1.setCell ⟨B, 0, none⟩ a).setCell ⟨B, 1, none⟩ b).setCell ⟨B, 2, none⟩ c).setCell ⟨B, 3, none⟩ d) :=
  ⟨v, rfl, (((hb.setCell hB _).setCell hB _).setCell hB _).setCell hB _, (hl.still fun j hS _ => heap_set4 _ _ _ _ hS.2 hS.2 hS.2 hS.2).more fun _ _ hS => hS.1⟩

set_option maxHeartbeats 1000000 in
set_option maxRecDepth 100000 in
theorem renC_any (t T : Tm) (F : Nat) (cp : Array Value) (B : Nat) (v : Value) (w : World) (hv : Lies w (fun _ => True) v t.args) (hB : w.heap[B]? = some (.cells #[.func (.func F) #[] cp] 70 (0, 0)))
    (call : ∀ w1, Below w.heap.size w w1 → Calls Try.prog 63 #[.agg #[.int .i64 t.op, .int .i64 t.hd, .int .i64 t.n, v], .func (.func F) #[] cp] w1 (GivesT w1 T)) :
    Calls Try.prog 83 #[.agg #[.int .i64 t.op, .int .i64 t.hd, .int .i64 t.n, v], .pointer (some ⟨B, 0, none⟩)] w (GivesT w T) := by
  obtain ⟨o, h, n, l⟩ := t
  simp only [Tm.op, Tm.hd, Tm.n, Tm.args] at hv call ⊢
  obtain ⟨a2, n2, m2, rfl⟩ := hv.isSlice
  have h2 := two_below w (.cells #[.int .i64 o, .int .i64 h, .int .i64 n, .slice a2 n2 m2] 25) (.cells #[.int .i64 0, .int .i64 0, .int .i64 0, .slice none 0 0] 25)
  have hk2 := two_blocks w #[.int .i64 o, .int .i64 h, .int .i64 n, .slice a2 n2 m2] #[.int .i64 0, .int .i64 0, .int .i64 0, .slice none 0 0] 25 25
  have hs2 : ((w.alloc (.cells #[.int .i64 o, .int .i64 h, .int .i64 n, .slice a2 n2 m2] 25)).alloc (.cells #[.int .i64 0, .int .i64 0, .int .i64 0, .slice none 0 0] 25)).heap.size = w.heap.size + 2 := by simp
  have c1 := call _ h2
  obtain ⟨tq, th, tn, tl⟩ := T
  unfold GivesT at c1
  simp only [Tm.op, Tm.hd, Tm.n, Tm.args] at c1
  have x4 := cell_in (heap_kept h2 hB) 0 _ rfl
  have HH := Lib.hid (And.intro h2 (And.intro hk2 hs2))
  clear h2 hk2 hs2 call hv hB
  go_enter Try.func83, Try.ntmps83
  go_wp2_with fail
  refine c1.mono ?_
  rintro e w1 ⟨v1, rfl, hb1, hl1⟩
  obtain ⟨a3, n3, m3, rfl⟩ := hl1.isSlice
  have hr := heap_kept hb1 HH.out.2.1.2
  obtain ⟨y0, y1, y2, y3⟩ := cells4_of hr
  have f0 := free_in hr 0
  have f1 := free_in hr 1
  have f2 := free_in hr 2
  have f3 := free_in hr 3
  have HX := Lib.hid (And.intro hb1 (And.intro hl1 hr))
  clear hb1 hl1 hr c1 x4
  go_wp2_with fail
  have hz := set4_at HX.out.2.2 (.int .i64 tq) (.int .i64 th) (.int .i64 tn) (.slice a3 n3 m3)
  obtain ⟨z0, z1, z2, z3⟩ := cells4_of hz
  refine bodyPost_ret (v := .agg #[.int .i64 tq, .int .i64 th, .int .i64 tn, .slice a3 n3 m3]) (by simp [results, Try.results83, go_sem, z0, z1, z2, z3]) rfl ?_
  have hsz := HH.out.2.2
  exact givesT_set (T := .mk tq th tn tl) (by omega) (HH.out.1.trans (HX.out.1.mono HH.out.1.size)) (HX.out.2.1.more fun b _ hS => by rw [hsz] at hS; exact ⟨by omega, by omega⟩)
end Go.Proofs.Yteoheeddjddekaa

namespace Go.Proofs.Yteoheeddjddekaa
open Go.RowKit
set_option linter.unusedSimpArgs false
set_option linter.unusedVariables false

/-- the four boxes of renumbered -/
structure RnSt (w : World) (o h n n' : Int) (v : Value) (F : Nat) (cp : Array Value) (X : World) : Prop where
  b0 : X.heap[w.heap.size]? = some (.cells #[.int .i64 o, .int .i64 h, .int .i64 n, v] 25 (0, 0))
  b1 : X.heap[w.heap.size + 1]? = some (.cells #[.func (.func F) #[] cp] 70 (0, 0))
  b2 : X.heap[w.heap.size + 1 + 1]? = some (.cells #[.int .i64 0, .int .i64 0, .int .i64 0, .slice none 0 0] 25 (0, 0))
  b3 : X.heap[w.heap.size + 1 + 1 + 1]? = some (.cells #[.int .i64 o, .int .i64 h, .int .i64 n', .slice none 0 0] 25 (0, 0))
  below : Below w.heap.size w X
  sz : X.heap.size = w.heap.size + 4
theorem RnSt.put {w : World} {o h n n' : Int} {v : Value} {F : Nat} {cp : Array Value} {X : World} (H : RnSt w o h n n' v F cp X) (m : Int) : RnSt w o h n m v F cp (X.setCell ⟨w.heap.size + 1 + 1 + 1, 2, none⟩ (.int .i64 m)) := by
  have go : ∀ k, k ≠ w.heap.size + 1 + 1 + 1 → (X.setCell ⟨w.heap.size + 1 + 1 + 1, 2, none⟩ (.int .i64 m)).heap[k]? = X.heap[k]? := fun k hk => Below.heap_setCell _ _ _ _ (by simpa using hk)
  exact ⟨(go _ (by omega)).trans H.b0, (go _ (by omega)).trans H.b1, (go _ (by omega)).trans H.b2, by simpa using heap_set_at (j := 2) (.int .i64 m) H.b3, H.below.setCell (by simp; omega) _, by simpa [World.setCell] using H.sz⟩

/-- what is asked of a call of renumbered -/
def RenOk (f : Nat) (F : Nat) (cp : Array Value) (g : Int → Int) : Prop := ∀ (t : Tm) (v : Value) (w : World), Tm.sz t ≤ f → Tm.sz t ≤ 600 → Tm.nums t = true → NumF w F cp g → Lies w (fun _ => True) v t.args →
  Calls Try.prog 63 #[.agg #[.int .i64 t.op, .int .i64 t.hd, .int .i64 t.n, v], .func (.func F) #[] cp] w (GivesT w (Tm.num g t))

set_option maxHeartbeats 4000000 in
set_option maxRecDepth 100000 in
theorem ren_walk (f F : Nat) (cp : Array Value) (g : Int → Int) (ih : RenOk f F cp g) : RenOk (f + 1) F cp g := by
  intro t v w hf hf6 hn HN hv
  obtain ⟨o, h, n, l⟩ := t
  simp only [Tm.op, Tm.hd, Tm.n, Tm.args] at hv ⊢
  have hnn := Tm.nums_n hn
  have hln := Tm.nums_l hn
  have hsz : Tm.sz (.mk o h n l) = 1 + Tm.szL l := by simp [Tm.sz]
  have hlen := Tm.length_le_szL l
  have cE : ∀ n' X, RnSt w o h n n' v F cp X → Calls Try.prog 82 #[v, .func (.func 83) #[] #[.pointer (some ⟨w.heap.size + 1, 0, none⟩)]] X fun e w' => ∃ a, e = .returned a ∧ Below X.heap.size X w' ∧ Lies w' (X.heap.size ≤ ·) a (Tm.numL g l) := fun n' X H => by
    rw [Tm.numL_map]
    refine eachT_any (Tm.num g) (w.heap.size + 1) l v X (hv.keep H.below) (by omega) (fun t ht => Tm.num_fit g HN.fit (Tm.numsL_mem hln ht)) fun t ht tv w1 hb hl => ?_
    have hs := Tm.szL_le_of_mem ht
    exact renC_any t (Tm.num g t) F cp (w.heap.size + 1) tv w1 hl (heap_kept hb H.b1) fun w2 hb2 => ih t tv w2 (by omega) (by omega) (Tm.numsL_mem hln ht) (HN.keep (below_next (below_next H.below hb) hb2)) (hl.keep hb2)
  have h4 := four_blocks w #[.int .i64 o, .int .i64 h, .int .i64 n, v] #[.func (.func F) #[] cp] #[.int .i64 0, .int .i64 0, .int .i64 0, .slice none 0 0] #[.int .i64 o, .int .i64 h, .int .i64 n, .slice none 0 0] 25 70 25 25
  have hst : RnSt w o h n n v F cp _ := ⟨h4.1, h4.2.1, h4.2.2.1, h4.2.2.2.1, h4.2.2.2.2.1, h4.2.2.2.2.2⟩
  have HST := Lib.hid hst
  have CE := Lib.hid cE
  have hmf : ∀ (fn : Fn) (first cap : Array Value) (w : World), (Instr.makeFunc fn first cap).run Try.prog w = .ok (.func fn first cap) w := fun _ _ _ _ => rfl
  obtain ⟨a2, n2, m2, rfl⟩ := hv.isSlice
  have hFe := HN.enter
  have cN := HN.call n _ hnn.1 hnn.2 hst.below
  clear h4 hst cE hln hsz hlen hf hf6 ih HN hv hn
  rcases hh : (h == 2) with _ | _
  · have hT : Hid (Tm.num g (.mk o h n l) = .mk o h n (Tm.numL g l)) := Lib.hid (by simp only [Tm.num]; rw [if_neg (by simpa using hh)])
    rw [hT.out]
    clear cN
    go_enter Try.func63, Try.ntmps63
    go_wp2_with fail
    refine (CE.out n _ HST.out).mono ?_
    rintro e w2 ⟨a, rfl, hb2, hl2⟩
    have hX := HST.out
    obtain ⟨X, hXe⟩ : ∃ X, X = (((w.alloc (.cells #[.int .i64 o, .int .i64 h, .int .i64 n, .slice a2 n2 m2] 25)).alloc (.cells #[.func (.func F) #[] cp] 70)).alloc (.cells #[.int .i64 0, .int .i64 0, .int .i64 0, .slice none 0 0] 25)).alloc (.cells #[.int .i64 o, .int .i64 h, .int .i64 n, .slice none 0 0] 25) := ⟨_, rfl⟩
    rw [← hXe] at hX hb2 hl2
    clear hXe
    have h3 := heap_kept hb2 hX.b3
    have hr := heap_kept hb2 hX.b2
    obtain ⟨a3, n3, m3, rfl⟩ := hl2.isSlice
    obtain ⟨x0, x1, x2, x3⟩ := cells4_of h3
    obtain ⟨y0, y1, y2, y3⟩ := cells4_of hr
    have xf3 := free_in h3 3
    have f0 := free_in hr 0
    have f1 := free_in hr 1
    have f2 := free_in hr 2
    have f3 := free_in hr 3
    have HX := Lib.hid (And.intro hX (And.intro hb2 (And.intro hl2 hr)))
    clear hX hb2 hl2 hr h3 HST CE
    go_wp2_with fail
    have hz := set4_at ((Below.heap_setCell w2 ⟨w.heap.size + 1 + 1 + 1, 3, none⟩ (.slice a3 n3 m3) (w.heap.size + 1 + 1) (by simp)).trans HX.out.2.2.2) (.int .i64 o) (.int .i64 h) (.int .i64 n) (.slice a3 n3 m3)
    obtain ⟨z0, z1, z2, z3⟩ := cells4_of hz
    refine bodyPost_ret (v := .agg #[.int .i64 o, .int .i64 h, .int .i64 n, .slice a3 n3 m3]) (by simp [results, Try.results63, go_sem, z0, z1, z2, z3]) rfl ?_
    have hsX := HX.out.1.sz
    refine givesT_set (T := .mk o h n (Tm.numL g l)) (B := w.heap.size + 1 + 1) (by omega) ((below_next HX.out.1.below HX.out.2.1).setCell (by simp; omega) _) ?_
    exact (HX.out.2.2.1.still fun b hS _ => Below.heap_setCell _ _ _ _ (by simp; omega)).more fun b _ hS => by rw [hsX] at hS; exact ⟨by omega, by omega⟩
  · have hT : Hid (Tm.num g (.mk o h n l) = .mk o h (g n) (Tm.numL g l)) := Lib.hid (by simp only [Tm.num]; rw [if_pos (by simpa using hh)])
    rw [hT.out]
    go_enter Try.func63, Try.ntmps63
    go_wp2_with fail
    refine cN.mono ?_
    rintro e w1 ⟨rfl, hw1⟩
    have hX := HST.out
    rw [hw1] at hX
    clear hw1 HST cN
    obtain ⟨t0, t1, t2, t3⟩ := cells4_of hX.b0
    obtain ⟨x0, x1, x2, x3⟩ := cells4_of hX.b3
    have xf2 := free_in hX.b3 2
    have HX1 := Lib.hid hX
    clear hX
    go_wp2_with fail
    refine (CE.out (g n) _ (HX1.out.put (g n))).mono ?_
    rintro e w2 ⟨a, rfl, hb2, hl2⟩
    have hX := HX1.out.put (g n)
    have h3 := heap_kept hb2 hX.b3
    have hr := heap_kept hb2 hX.b2
    obtain ⟨a3, n3, m3, rfl⟩ := hl2.isSlice
    clear t0 t1 t2 t3 x0 x1 x2 x3 xf2
    obtain ⟨x0, x1, x2, x3⟩ := cells4_of h3
    obtain ⟨y0, y1, y2, y3⟩ := cells4_of hr
    have xf3 := free_in h3 3
    have f0 := free_in hr 0
    have f1 := free_in hr 1
    have f2 := free_in hr 2
    have f3 := free_in hr 3
    have HX := Lib.hid (And.intro hX (And.intro hb2 (And.intro hl2 hr)))
    clear hX hb2 hl2 hr h3 HX1 CE
    go_wp2_with fail
    have hz := set4_at ((Below.heap_setCell w2 ⟨w.heap.size + 1 + 1 + 1, 3, none⟩ (.slice a3 n3 m3) (w.heap.size + 1 + 1) (by simp)).trans HX.out.2.2.2) (.int .i64 o) (.int .i64 h) (.int .i64 (g n)) (.slice a3 n3 m3)
    obtain ⟨z0, z1, z2, z3⟩ := cells4_of hz
    refine bodyPost_ret (v := .agg #[.int .i64 o, .int .i64 h, .int .i64 (g n), .slice a3 n3 m3]) (by simp [results, Try.results63, go_sem, z0, z1, z2, z3]) rfl ?_
    have hsX := HX.out.1.sz
    refine givesT_set (T := .mk o h (g n) (Tm.numL g l)) (B := w.heap.size + 1 + 1) (by omega) ((below_next HX.out.1.below HX.out.2.1).setCell (by simp; omega) _) ?_
    exact (HX.out.2.2.1.still fun b hS _ => Below.heap_setCell _ _ _ _ (by simp; omega)).more fun b _ hS => by rw [hsX] at hS; exact ⟨by omega, by omega⟩

theorem ren_calls (F : Nat) (cp : Array Value) (g : Int → Int) : ∀ f : Nat, RenOk f F cp g
  | 0 => fun t v w hf => by have := Tm.sz_pos t; omega
  | f + 1 => ren_walk f F cp g (ren_calls F cp g f)
theorem ren_any (F : Nat) (cp : Array Value) (g : Int → Int) (t : Tm) (v : Value) (w : World) (hp : Tm.proper t = true) (HN : NumF w F cp g) (hv : Lies w (fun _ => True) v t.args) :
    Calls Try.prog 63 #[.agg #[.int .i64 t.op, .int .i64 t.hd, .int .i64 t.n, v], .func (.func F) #[] cp] w (GivesT w (Tm.num g t)) := by
  have h := Tm.proper_formed' hp
  exact ren_calls F cp g _ t v w (Nat.le_refl _) h.1 (Tm.nums_of_formed _ 1 h.2) HN hv
end Go.Proofs.Yteoheeddjddekaa

namespace Go.Proofs.Yteoheeddjddekaa
open Go.RowKit
set_option linter.unusedSimpArgs false
set_option linter.unusedVariables false
namespace Tm
theorem res_proper : ∀ (f : Nat) (t : Tm), sz t ≤ f → proper t = true → proper (res t).1 = true ∧ (res t).1.op ≠ 2
  | 0, t, h, _ => by have := sz_pos t; omega
  | f + 1, .mk o h n l, hs, hp => by
    by_cases ho : o = 2
    · subst ho
      obtain ⟨a, b, rfl, rfl, rfl, ha, hb⟩ := proper_pi hp
      rw [res_pi]
      exact res_proper f b (by simp [sz, szL] at hs; omega) hb
    · rw [res_else (t := .mk o h n l) ho]; exact ⟨hp, ho⟩
theorem res_over (N : Int) : ∀ (f : Nat) (t : Tm) (b : Int), sz t ≤ f → proper t = true → over N b t = true → ∃ b', over N b' (res t).1 = true
  | 0, t, _, h, _, _ => by have := sz_pos t; omega
  | f + 1, .mk o h n l, b, hs, hp, hv => by
    by_cases ho : o = 2
    · subst ho
      obtain ⟨x, y, rfl, rfl, rfl, ha, hb⟩ := proper_pi hp
      rw [res_pi]
      simp only [over, overL, Bool.and_eq_true] at hv
      exact res_over N f y _ (by simp [sz, szL] at hs; omega) hb hv.2.2.1
    · rw [res_else (t := .mk o h n l) ho]; exact ⟨b, hv⟩
theorem over_hd {N b : Int} {t : Tm} (h : over N b t = true) (h2 : t.hd = 2) : t.n < N := by
  obtain ⟨o, h', n, l⟩ := t
  have h3 : h' = 2 := h2
  subst h3
  simp only [over, Bool.and_eq_true] at h
  simp at h
  exact h.1
theorem proper_n {t : Tm} (h : proper t = true) : 0 ≤ t.n ∧ t.n ≤ 9999 := by
  obtain ⟨o, hd, n, l⟩ := t
  have hf := (proper_formed' h).2
  simp only [formed, Bool.and_eq_true] at hf
  have := headOk_yes _ _ _ _ hf.1.2
  show 0 ≤ n ∧ n ≤ 9999
  omega
end Tm

theorem next_no1 {l : List Dc} {d : Dc} (h : Sg.nameOk d.nm = false) : Sg.next l d = false := by unfold Sg.next; rw [h]; rfl
theorem next_no2 {l : List Dc} {d : Dc} (h : Tm.proper d.cl = false) : Sg.next l d = false := by unfold Sg.next; rw [h]; simp
theorem next_no3 {l : List Dc} {d : Dc} (h : Tm.over l.length 0 d.cl = false) : Sg.next l d = false := by unfold Sg.next; rw [h]; simp
theorem next_no4 {l : List Dc} {d : Dc} (h : d.im < 0) : Sg.next l d = false := by unfold Sg.next; rw [decide_eq_false (show ¬ 0 ≤ d.im by omega)]; simp
theorem next_no5 {l : List Dc} {d : Dc} (h : ((Tm.res d.cl).2 : Int) < d.im) : Sg.next l d = false := by unfold Sg.next; rw [decide_eq_false (show ¬ d.im ≤ ((Tm.res d.cl).2 : Int) by omega)]; simp
theorem next_yes {l : List Dc} {d : Dc} (h1 : Sg.nameOk d.nm = true) (h2 : Tm.proper d.cl = true) (h3 : Tm.over l.length 0 d.cl = true) (h4 : ¬ d.im < 0) (h5 : ¬ ((Tm.res d.cl).2 : Int) < d.im) :
    Sg.next l d = ((Tm.res d.cl).1.op == 1 || ((Tm.res d.cl).1.hd == 2 && Tm.kind ((l.map Dc.cl).getD (Tm.res d.cl).1.n.toNat Tm.zero))) := by
  unfold Sg.next
  rw [h1, h2, h3, decide_eq_true (show 0 ≤ d.im by omega), decide_eq_true (show d.im ≤ ((Tm.res d.cl).2 : Int) by omega)]; rfl

theorem cells6_of' {w : World} {B : Nat} {x0 x1 x2 x3 x4 x5 : Value} {T : TypeId} (h : w.heap[B]? = some (.cells #[x0, x1, x2, x3, x4, x5] T (0, 0))) : w.cell? ⟨B, 0, none⟩ = some x0 ∧ w.cell? ⟨B, 1, none⟩ = some x1 ∧ w.cell? ⟨B, 2, none⟩ = some x2 ∧ w.cell? ⟨B, 3, none⟩ = some x3 ∧ w.cell? ⟨B, 4, none⟩ = some x4 ∧ w.cell? ⟨B, 5, none⟩ = some x5 :=
  ⟨cell_in h 0 _ rfl, cell_in h 1 _ rfl, cell_in h 2 _ rfl, cell_in h 3 _ rfl, cell_in h 4 _ rfl, cell_in h 5 _ rfl⟩

set_option maxHeartbeats 8000000 in
set_option maxRecDepth 100000 in
theorem next_any (S : Nat → Prop) (l : List Dc) (d : Dc) (sv dv : Value) (w : World) (hl : DLies w S sv l) (hpl : ∀ x ∈ l, Tm.proper x.cl = true) (hd : Lies w S dv d.cl.args) (hs : d.nm.size ≤ 140737488351232) (him : I64 d.im) :
    Calls Try.prog 44 #[sv, dcV d dv] w fun e w' => e = .returned (.bool (Sg.next l d)) ∧ Below w.heap.size w w' := by
  obtain ⟨ao, bb, off, len, cap, nm, oo, hh, kk, sc, tt, im, rfl, R⟩ := hl
  obtain ⟨nme, ⟨o, h, n, ar⟩, imp⟩ := d
  obtain ⟨a2, n2, m2, rfl⟩ := hd.isSlice
  have hrl := R.hl
  have hrc := R.hr
  have him1 := him.1
  have him2 := him.2
  have hbx := one_below w (.cells #[.string nme, .int .i64 o, .int .i64 h, .int .i64 n, .slice a2 n2 m2, .int .i64 imp] 40)
  have HB := Lib.hid hbx
  have cN := fun w1 => sgName_any nme w1 hs
  have cC := fun w1 (hb : Below w.heap.size w w1) => check_any o h n _ ar w1 ((hd.more fun _ _ _ => trivial).keep hb)
  have HLEN := Lib.hid R.length
  have HD := Lib.hid hd
  have HR := Lib.hid R
  have HPL := Lib.hid hpl
  unfold dcV
  simp only [Tm.op, Tm.hd, Tm.n] at *
  clear R hpl him hd hs
  rcases h1 : Sg.nameOk nme with _ | _
  · rw [next_no1 (d := ⟨nme, .mk o h n ar, imp⟩) h1]
    simp only [h1] at cN
    clear h1 cC
    go_enter Try.func44, Try.ntmps44
    go_wp2_with (go_at_call 51; (with_reducible refine (cN _).mono ?_); rintro e w1 ⟨rfl, rfl⟩)
    go_ret
    exact ⟨rfl, HB.out⟩
  rcases h2 : Tm.proper (.mk o h n ar) with _ | _
  · rw [next_no2 (d := ⟨nme, .mk o h n ar, imp⟩) h2]
    simp only [h1, h2] at cN cC
    clear h1 h2
    go_enter Try.func44, Try.ntmps44
    go_wp2_with (first
      | (go_at_call 51; (with_reducible refine (cN _).mono ?_); rintro e w1 ⟨rfl, rfl⟩)
      | (go_at_call 65; (with_reducible refine (cC _ HB.out).mono ?_); rintro e w2 ⟨rfl, hb2⟩))
    go_ret
    exact ⟨rfl, below_next HB.out hb2⟩
  have cO := fun w1 (hb : Below w.heap.size w w1) => over_any S ao len cap (by omega) (.mk o h n ar) _ w1 h2 (HD.out.keep hb)
  simp only [Tm.op, Tm.hd, Tm.n] at cO
  rcases h3 : Tm.over len 0 (.mk o h n ar) with _ | _
  · rw [next_no3 (d := ⟨nme, .mk o h n ar, imp⟩) (by rw [HLEN.out]; exact h3)]
    simp only [h1, h2, h3] at cN cC cO
    clear h1 h2 h3
    go_enter Try.func44, Try.ntmps44
    go_wp2_with (first
      | (go_at_call 51; (with_reducible refine (cN _).mono ?_); rintro e w1 ⟨rfl, rfl⟩)
      | (go_at_call 65; (with_reducible refine (cC _ HB.out).mono ?_); rintro e w2 ⟨rfl, hb2⟩; have HB2 := Lib.hid (below_next HB.out hb2); have x1 := cell_in (heap_kept hb2 (heap_alloc_new w _)) 1 _ rfl; have x2 := cell_in (heap_kept hb2 (heap_alloc_new w _)) 2 _ rfl; have x3 := cell_in (heap_kept hb2 (heap_alloc_new w _)) 3 _ rfl; have x4 := cell_in (heap_kept hb2 (heap_alloc_new w _)) 4 _ rfl; clear hb2)
      | (go_at_call 66; (with_reducible refine (cO _ HB2.out).mono ?_); rintro e w3 ⟨rfl, hb3⟩))
    go_ret
    exact ⟨rfl, below_next HB2.out hb3⟩
  have hres := (Tm.res_proper _ _ (Nat.le_refl _) h2)
  have hrsz := Tm.res_lt _ (.mk o h n ar) (Nat.le_refl _)
  have hsz6 := (Tm.proper_formed' h2).1
  have hrov : (Tm.res (.mk o h n ar)).1.hd = 2 → (Tm.res (.mk o h n ar)).1.n < (len : Int) := fun e => by
    obtain ⟨b', hb'⟩ := Tm.res_over _ _ _ _ (Nat.le_refl _) h2 h3
    exact Tm.over_hd hb' e
  have hrn := Tm.proper_n hres.1
  have cR := fun w1 (hb : Below w.heap.size w w1) => result_any S (.mk o h n ar) _ w1 (HD.out.keep hb) h2
  simp only [Tm.op, Tm.hd, Tm.n] at cR
  have E := fun h4 h5 => next_yes (l := l) (d := ⟨nme, .mk o h n ar, imp⟩) h1 h2 (by rw [HLEN.out]; exact h3) h4 h5
  have N4 := fun h4 => next_no4 (l := l) (d := ⟨nme, .mk o h n ar, imp⟩) h4
  have N5 := fun h5 => next_no5 (l := l) (d := ⟨nme, .mk o h n ar, imp⟩) h5
  generalize Sg.next l ⟨nme, .mk o h n ar, imp⟩ = r at E N4 N5 ⊢
  simp only at E N4 N5
  simp only [h1, h2, h3] at cN cC cO
  generalize Tm.res (.mk o h n ar) = rr at *
  obtain ⟨⟨uo, uh, un, ul⟩, cnt⟩ := rr
  simp only [Tm.op, Tm.hd, Tm.n] at *
  have hcnt : cnt ≤ 600 := by have := Tm.sz_pos (.mk uo uh un ul); omega
  have HRP := Lib.hid hres.1
  have HE := Lib.hid E
  have HN4 := Lib.hid N4
  have HN5 := Lib.hid N5
  have HOV := Lib.hid hrov
  clear hres hrsz hsz6 E N4 N5 hrov h1 h2 h3
  have cs : imp < 0 ∨ (¬ imp < 0 ∧ (cnt : Int) < imp) ∨ (¬ imp < 0 ∧ ¬ (cnt : Int) < imp ∧ (uo == 1) = true) ∨ (¬ imp < 0 ∧ ¬ (cnt : Int) < imp ∧ (uo == 1) = false ∧ (uh == 2) = false) ∨ (¬ imp < 0 ∧ ¬ (cnt : Int) < imp ∧ (uo == 1) = false ∧ (uh == 2) = true) := by
    rcases c1 : (uo == 1) with _ | _ <;> rcases c2 : (uh == 2) with _ | _ <;> simp <;> omega
  rcases cs with c4 | ⟨c4, c5⟩ | ⟨c4, c5, c6⟩ | ⟨c4, c5, c6, c7⟩ | ⟨c4, c5, c6, c7⟩
  all_goals
    go_enter Try.func44, Try.ntmps44
    go_wp2_with (first
      | (go_at_call 51; (with_reducible refine (cN _).mono ?_); rintro e w1 ⟨rfl, rfl⟩)
      | (go_at_call 65; (with_reducible refine (cC _ HB.out).mono ?_); rintro e w2 ⟨rfl, hb2⟩; have HB2 := Lib.hid (below_next HB.out hb2); have HX2 := Lib.hid (heap_kept hb2 (heap_alloc_new w _)); have x1 := cell_in HX2.out 1 _ rfl; have x2 := cell_in HX2.out 2 _ rfl; have x3 := cell_in HX2.out 3 _ rfl; have x4 := cell_in HX2.out 4 _ rfl; clear hb2)
      | (go_at_call 66; (with_reducible refine (cO _ HB2.out).mono ?_); rintro e w3 ⟨rfl, hb3⟩; have HB3 := Lib.hid (below_next HB2.out hb3); have HX3 := Lib.hid (heap_kept hb3 HX2.out); clear x1 x2 x3 x4 hb3; have x1 := cell_in HX3.out 1 _ rfl; have x2 := cell_in HX3.out 2 _ rfl; have x3 := cell_in HX3.out 3 _ rfl; have x4 := cell_in HX3.out 4 _ rfl)
      | fail)
    refine (cR _ HB3.out).mono ?_
    rintro e w4 ⟨b4, rfl, hb4, hl4⟩
    obtain ⟨a5, n5, m5, rfl⟩ := hl4.isSlice
    have HB4 := Lib.hid (below_next HB3.out hb4)
    have HX4 := Lib.hid (heap_kept hb4 HX3.out)
    clear x1 x2 x3 x4 hb4 hl4
    have x5 := cell_in HX4.out 5 _ rfl
    have hlt4 := lt_of_block HX4.out
    have HB5 := Lib.hid (HB4.out.trans ((one_below w4 (.cells #[.int .i64 uo, .int .i64 uh, .int .i64 un, .slice a5 n5 m5] 25)).mono HB4.out.size))
  · go_wp2_with fail
    go_ret
    exact ⟨ret_bool (a := false) (HN4.out c4).symm, HB5.out⟩
  · go_wp2_with fail
    go_ret
    exact ⟨ret_bool (a := false) (HN5.out c5).symm, HB5.out⟩
  · go_wp2_with fail
    go_ret
    exact ⟨ret_bool (a := true) (by rw [HE.out c4 c5, c6]; rfl), HB5.out⟩
  · go_wp2_with fail
    go_ret
    exact ⟨ret_bool (a := false) (by rw [HE.out c4 c5, c6, c7]; rfl), HB5.out⟩
  · obtain ⟨i, rfl⟩ : ∃ i : Nat, un = (i : Int) := ⟨un.toNat, by omega⟩
    have hil : i < len := by have := HOV.out (by simpa using c7); omega
    have hil' : i < l.length := by rw [HLEN.out]; exact hil
    obtain rfl := HR.out.hao (by omega)
    obtain ⟨d0, d1, d2, d3, d4, d5, hsub⟩ := HR.out.at HB5.out i hil
    have hget := HR.out.get i hil
    have hk := isKind_any S (.mk (oo i) (hh i) (kk i) (tt i)) (sc i) _ hsub (by have := HPL.out l[i] (List.getElem_mem _); rw [hget] at this; exact this)
    obtain ⟨a6, n6, m6, hsc⟩ := hsub.isSlice
    rw [hsc] at d4 hk
    have HG := Lib.hid hget
    simp only [Tm.op, Tm.hd, Tm.n] at hk
    clear hsub hget d0 d5
    go_wp2_with fail
    refine hk.mono ?_
    rintro e w6 ⟨rfl, hb6⟩
    go_wp2_with fail
    go_ret
    refine ⟨ret_bool ?_, below_next HB5.out hb6⟩
    rw [HE.out c4 c5, c6, c7]
    simp only [Bool.false_or, Bool.true_and, Int.toNat_natCast]
    rw [List.getD_eq_getElem?_getD, List.getElem?_map, List.getElem?_eq_getElem hil', Option.map_some, Option.getD_some, HG.out]
end Go.Proofs.Yteoheeddjddekaa

namespace Go.Proofs.Yteoheeddjddekaa
open Go.RowKit Go.Maps Go.WideMaps
set_option linter.unusedSimpArgs false
set_option linter.unusedVariables false

namespace Sg
/-- the map of the first k names -/
def posD {H : Type} (l : List Dc) : Nat → DataW H
  | 0 => .map []
  | k + 1 => match l[k]? with
    | some d => (posD l k).put (.string d.nm.data.toList) (.lit (.int .i64 k))
    | none => posD l k
variable {H : Type}
theorem keyStr {b : List UInt8} : WideAt.IsKeyLit (.string b) := trivial
theorem posD_step (l : List Dc) (k : Nat) (hk : k < l.length) : (posD l (k + 1) : DataW H) = (posD l k).put (.string l[k].nm.data.toList) (.lit (.int .i64 k)) := by
  simp only [posD, List.getElem?_eq_getElem hk]
theorem str_ne {a b : ByteArray} (h : a ≠ b) : Lit.string a.data.toList ≠ Lit.string b.data.toList := by
  intro e
  injection e with e
  exact h (WideShapes.bytes_inj e)
theorem tidy_posD (l : List Dc) : ∀ k, k ≤ l.length → Tidy (posD l k : DataW H)
  | 0, _ => tidy_empty
  | k + 1, h => by
    rw [posD_step l k (by omega)]
    exact (tidy_posD l k (by omega)).put keyStr _
theorem has_posD (l : List Dc) (s : ByteArray) : ∀ k, k ≤ l.length → (Maps.has (posD l k : DataW H) (.string s.data.toList) = true ↔ s ∈ (l.take k).map Dc.nm)
  | 0, _ => by simp [posD, Maps.has]
  | k + 1, h => by
    rw [posD_step l k (by omega), List.take_succ_eq_append_getElem (show k < l.length by omega), List.map_append, List.mem_append]
    by_cases e : s = l[k].nm
    · subst e
      rw [has_put_same (tidy_posD l k (by omega)).isMap keyStr]; simp
    · rw [has_put_other (str_ne e), has_posD l s k (by omega)]; simp [e]
theorem size_posD_le (l : List Dc) : ∀ k, k ≤ l.length → Maps.size (posD l k : DataW H) ≤ k
  | 0, _ => by simp [posD, Maps.size]
  | k + 1, h => by
    have := size_posD_le l k (by omega)
    rw [posD_step l k (by omega), size_put (tidy_posD l k (by omega))]
    split <;> omega
theorem size_posD (l : List Dc) : ∀ k, k ≤ l.length → (Maps.size (posD l k : DataW H) = k ↔ ((l.take k).map Dc.nm).Nodup)
  | 0, _ => by simp [posD, Maps.size]
  | k + 1, h => by
    have h1 := size_posD_le (H := H) l k (by omega)
    have ih := size_posD l k (by omega)
    have hh := has_posD (H := H) l l[k].nm k (by omega)
    rw [posD_step l k (by omega), size_put (tidy_posD l k (by omega)), List.take_succ_eq_append_getElem (show k < l.length by omega), List.map_append, List.nodup_append]
    by_cases e : Maps.has (posD l k : DataW H) (.string l[k].nm.data.toList) = true
    · rw [if_pos e]
      constructor
      · intro h2; omega
      · rintro ⟨_, _, h2⟩
        exact absurd rfl (h2 _ (hh.1 e) l[k].nm (by simp))
    · rw [if_neg e]
      constructor
      · intro h2
        refine ⟨ih.1 (by omega), by simp, ?_⟩
        intro a ha b hb hab
        simp only [List.map_cons, List.map_nil, List.mem_singleton] at hb
        subst hab hb
        exact e (hh.2 ha)
      · rintro ⟨h2, _, _⟩
        have := ih.2 h2; omega
/-- where a name stands in a list without repeats -/
theorem atKey_posD (l : List Dc) (s : ByteArray) (z : DataW H) : ∀ k, k ≤ l.length → ((l.take k).map Dc.nm).Nodup → ∀ j (hj : j < l.length), j < k → l[j].nm = s → (posD l k : DataW H).atKey (.string s.data.toList) z = .lit (.int .i64 j)
  | 0, _, _, j, _, h, _ => by omega
  | k + 1, h, hn, j, hj, hjk, e => by
    rw [posD_step l k (by omega)]
    rw [List.take_succ_eq_append_getElem (show k < l.length by omega), List.map_append, List.nodup_append] at hn
    by_cases e1 : j = k
    · subst e1; subst e
      exact atKey_put_same (tidy_posD l j (by omega)).isMap keyStr _ _
    · have hm : l[j].nm ∈ (l.take k).map Dc.nm := List.mem_map.2 ⟨l[j], by rw [List.mem_take_iff_getElem]; exact ⟨j, by omega, rfl⟩, rfl⟩
      have hne : s ≠ l[k].nm := by subst e; exact hn.2.2 _ hm _ (by simp)
      rw [atKey_put_other (str_ne hne)]
      exact atKey_posD l s z k (by omega) hn.1 j hj (by omega) e
end Sg

theorem sgMap_law : Keyed Try.prog 9 := string_keyed Try.underlying9
theorem run_makeMap_hint (n : Int) (w : World) : (Instr.makeMap 73 (some (.int .i64 n))).run Try.prog w = .ok (.map (some w.heap.size)) (w.alloc (.map #[] 0)) := by
  simp [Instr.makeMap, run_underlying Try.underlying73, asInt, asIntOf, Result.andThen]

set_option maxHeartbeats 2000000 in
set_option maxRecDepth 100000 in
theorem positions_any {H : Type} (S : Nat → Prop) (l : List Dc) (sv : Value) (w : World) (hl : DLies w S sv l) (hlen : l.length ≤ 1000) :
    Calls Try.prog 40 #[sv] w fun e w' => ∃ B, e = .returned (.map (some B)) ∧ w.heap.size ≤ B ∧ w'.ownsMap Try.prog 9 (plainElem (H := H) Try.prog 3) B l.length (Sg.posD l l.length) ∧ Below w.heap.size w w' := by
  obtain ⟨ao, bb, off, len, cap, nm, oo, hh, kk, sc, tt, im, rfl, R⟩ := hl
  have hrl := R.hl
  have hrc := R.hr
  have HLEN := Lib.hid R.length
  have hln : len ≤ 1000 := by rw [← R.length]; exact hlen
  have hmm := @run_makeMap_hint
  have HR := Lib.hid R
  clear R hlen
  go_enter Try.func40, Try.ntmps40
  go_wp2
  go_loopw [11] (fun i wr => ∃ k : Nat, k ≤ len ∧ i = .int .i64 k ∧ wr.ownsMap Try.prog 9 (plainElem (H := H) Try.prog 3) w.heap.size k (Sg.posD l k) ∧ Below w.heap.size w wr ∧ w.heap.size < wr.heap.size) (fun i _ => len - (RowKit.intOf i).toNat)
  case atStart => exact ⟨0, Nat.zero_le _, rfl, World.ownsMap_made _ _ _ _, one_below w _, by simp⟩
  case round =>
    obtain ⟨k, hk, rfl, hown, hbw, hlt0⟩ := hrel
    by_cases hlt : k < len
    · obtain rfl := HR.out.hao (by omega)
      obtain ⟨d0, d1, d2, d3, d4, d5, hsub⟩ := HR.out.at hbw k hlt
      have hkl : k < l.length := by rw [HLEN.out]; exact hlt
      have hst := Sg.posD_step (H := H) l k hkl
      rw [HR.out.get k hlt] at hst
      have HST := Lib.hid hst
      have HKEY : Hid (keyOf Try.prog 9 (.string (nm k)) = some (.string (nm k).data.toList)) := Lib.hid (keyOf_string_mk Try.underlying9 (by have := HR.out.rn k hlt; unfold maxLen; omega))
      obtain ⟨a9, n9, m9, hsc⟩ := hsub.isSlice
      rw [hsc] at d4
      have HOWN := Lib.hid hown
      have HBW := Lib.hid hbw
      clear hst hsub hown hbw
      go_wp2_with (first
        | (at_mapUpdate; refine wpList_mapUpdate_own _ rfl _ _ _ 73 rfl 9 3 sgMap_law Try.underlying73 _ w.heap.size k _ rfl (HOWN.out.alloc _) (by unfold maxLen; omega) _ _ _ rfl rfl HKEY.out _ [] (plainElem_int Try.underlying3 (WalkArith.wf_i64 (by omega))) ?_; intro w1 hown1 hgrow1)
        | fail)
      go_roundw
      case rel =>
        have hb1 := (HBW.out.alloc (Nat.le_of_lt hlt0) (.cells #[.string (nm k), .int .i64 (oo k), .int .i64 (hh k), .int .i64 (kk k), .slice a9 n9 m9, .int .i64 (im k)] 40))
        refine ⟨k + 1, by omega, by go_num, ?_, hb1.grown hgrow1 hb1.size (fun j hj => by cases hj; exact Nat.le_refl _), ?_⟩
        · rw [HST.out]; exact hown1
        · have := hgrow1.size; simp at this; omega
      case measure => simp [RowKit.intOf]; omega
    · have HN : k = len := by omega
      subst HN
      go_wp2
      go_ret
      exact ⟨_, rfl, Nat.le_refl _, by rw [HLEN.out]; exact hown, hbw⟩
end Go.Proofs.Yteoheeddjddekaa

namespace Go.Proofs.Yteoheeddjddekaa
open Go.RowKit Go.Maps
set_option linter.unusedSimpArgs false
set_option linter.unusedVariables false

theorem next_proper {l : List Dc} {d : Dc} (h : Sg.next l d = true) : Tm.proper d.cl = true := by
  unfold Sg.next at h
  simp only [Bool.and_eq_true] at h
  exact h.1.1.1.1.2
theorem nextTo_proper (l : List Dc) : ∀ k, k ≤ l.length → Sg.nextTo l k = true → ∀ x ∈ l.take k, Tm.proper x.cl = true
  | 0, _, _, x, hx => by simp at hx
  | k + 1, h, e, x, hx => by
    rw [Sg.nextTo_step l k (by omega), Bool.and_eq_true] at e
    rw [List.take_succ_eq_append_getElem (show k < l.length by omega)] at hx
    rcases List.mem_append.1 hx with hx | hx
    · exact nextTo_proper l k (by omega) e.1 x hx
    · rw [List.mem_singleton.1 hx]; exact next_proper e.2
theorem formed_long {l : List Dc} (h : 100 < l.length) : Sg.formed l = false := by unfold Sg.formed; rw [decide_eq_false (by omega)]; rfl
theorem formed_not {l : List Dc} {k : Nat} (hk : k < l.length) (e : Sg.next (l.take k) l[k] = false) : Sg.formed l = false := by
  unfold Sg.formed
  have : Sg.nextTo l l.length = false := by
    rw [Bool.eq_false_iff]
    intro h
    have := Sg.nextTo_of_le l (show k + 1 ≤ l.length by omega) h
    rw [Sg.nextTo_step l k hk, e, Bool.and_false] at this
    cases this
  rw [this]; simp
theorem formed_end {l : List Dc} (h : ¬ 100 < l.length) (e : Sg.nextTo l l.length = true) : Sg.formed l = ((Maps.size (Sg.posD l l.length : DataW Unit) : Int) == (l.length : Int)) := by
  unfold Sg.formed
  rw [decide_eq_true (by omega), e, Bool.eq_iff_iff]
  unfold Sg.once
  have := Sg.size_posD (H := Unit) l l.length (Nat.le_refl _)
  rw [List.take_length] at this
  simp only [Bool.true_and, decide_eq_true_eq, beq_iff_eq, Bool.and_self]
  rw [← this]; omega

abbrev CellsD (W : World) (B : Nat) (x0 x1 x2 x3 x4 x5 : Value) : Prop :=
  W.cell? ⟨B, 0, none⟩ = some x0 ∧ W.cell? ⟨B, 1, none⟩ = some x1 ∧ W.cell? ⟨B, 2, none⟩ = some x2 ∧ W.cell? ⟨B, 3, none⟩ = some x3 ∧ W.cell? ⟨B, 4, none⟩ = some x4 ∧ W.cell? ⟨B, 5, none⟩ = some x5
theorem cellsD_below {W W' : World} {B : Nat} {x0 x1 x2 x3 x4 x5 : Value} (hb : Below W.heap.size W W') (x : CellsD W B x0 x1 x2 x3 x4 x5) : CellsD W' B x0 x1 x2 x3 x4 x5 := by
  obtain ⟨y0, y1, y2, y3, y4, y5⟩ := x
  exact ⟨kept_cell hb y0, kept_cell hb y1, kept_cell hb y2, kept_cell hb y3, kept_cell hb y4, kept_cell hb y5⟩

set_option maxHeartbeats 4000000 in
set_option maxRecDepth 100000 in
theorem sgFormed_any (S : Nat → Prop) (l : List Dc) (sv : Value) (w : World) (hl : DLies w S sv l) :
    Calls Try.prog 24 #[sv] w fun e w' => e = .returned (.bool (Sg.formed l)) ∧ Below w.heap.size w w' := by
  have HDL := Lib.hid hl
  obtain ⟨ao, bb, off, len, cap, nm, oo, hh, kk, sc, tt, im, rfl, R⟩ := hl
  have hrl := R.hl
  have hrc := R.hr
  have HLEN := Lib.hid R.length
  have HR := Lib.hid R
  have HB0 := Lib.hid (Below.refl w.heap.size w)
  clear R
  by_cases hbig : 100 < len
  · have hn : (100 : Int) < (len : Int) := by omega
    rw [formed_long (by rw [HLEN.out]; exact hbig)]
    go_enter Try.func24, Try.ntmps24
    go_wp2
    go_ret
    exact ⟨rfl, HB0.out⟩
  · have hn : ¬ (100 : Int) < (len : Int) := by omega
    have HE := Lib.hid (formed_end (l := l) (by rw [HLEN.out]; exact hbig))
    go_enter Try.func24, Try.ntmps24
    go_wp2
    go_loopw [10] (fun i wr => ∃ k : Nat, k ≤ len ∧ i = .int .i64 k ∧ Below w.heap.size w wr ∧ Hid (Sg.nextTo l k = true)) (fun i _ => len - (RowKit.intOf i).toNat)
    case atStart => exact ⟨0, Nat.zero_le _, rfl, HB0.out, Lib.hid (Sg.nextTo_zero l)⟩
    case round =>
      obtain ⟨k, hk, rfl, hbw, HN⟩ := hrel
      have HBW := Lib.hid hbw
      by_cases hlt : k < len
      · obtain rfl := HR.out.hao (by omega)
        obtain ⟨d0, d1, d2, d3, d4, d5, hsub⟩ := HR.out.at hbw k hlt
        have hkl : k < l.length := by rw [HLEN.out]; exact hlt
        have HG := Lib.hid (HR.out.get k hlt)
        obtain ⟨a9, n9, m9, hsc⟩ := hsub.isSlice
        rw [hsc] at d4 hsub
        have cN := fun (w1 : World) (hb : Below w.heap.size w w1) => next_any S (l.take k) ⟨nm k, .mk (oo k) (hh k) (kk k) (tt k), im k⟩ (.slice (some ⟨bb, off, none⟩) k cap) (.slice a9 n9 m9) w1
          ⟨_, _, _, _, _, _, _, _, _, _, _, _, rfl, (HR.out.take k hk).keep hb⟩ (nextTo_proper l k (by omega) HN.out) (by rw [← hsc]; exact (HR.out.sub k hlt).keep hb) (HR.out.rn k hlt) (HR.out.r3 k hlt)
        unfold dcV at cN
        simp only [Tm.op, Tm.hd, Tm.n] at cN
        have HB1 := Lib.hid (one_below wr (.cells #[.string (nm k), .int .i64 (oo k), .int .i64 (hh k), .int .i64 (kk k), .slice a9 n9 m9, .int .i64 (im k)] 40))
        have hS0 : CellsD (wr.alloc (.cells #[.string (nm k), .int .i64 (oo k), .int .i64 (hh k), .int .i64 (kk k), .slice a9 n9 m9, .int .i64 (im k)] 40)) wr.heap.size (.string (nm k)) (.int .i64 (oo k)) (.int .i64 (hh k)) (.int .i64 (kk k)) (.slice a9 n9 m9) (.int .i64 (im k)) := cells6_of' (heap_alloc_new wr _)
        have HD := Lib.hid (HBW.out.trans (((one_below wr (.cells #[.string (nm k), .int .i64 (oo k), .int .i64 (hh k), .int .i64 (kk k), .slice a9 n9 m9, .int .i64 (im k)] 40)).drew).mono HBW.out.size))
        have HT := Lib.hid (Sg.nextTo_step l k hkl)
        have HF := Lib.hid (formed_not hkl)
        have hkc : (k : Int) ≤ (cap : Int) := by omega
        rcases hr : Sg.next (l.take k) ⟨nm k, .mk (oo k) (hh k) (kk k) (tt k), im k⟩ with _ | _
        · have HFF := Lib.hid (HF.out (by rw [HG.out]; exact hr))
          simp only [hr] at cN
          clear hr hsub hbw
          go_upto_region 6 with fail
          go_region_held3 (fun X => CellsD X wr.heap.size (.string (nm k)) (.int .i64 (oo k)) (.int .i64 (hh k)) (.int .i64 (kk k)) (.slice a9 n9 m9) (.int .i64 (im k)))
            (first | (with_reducible exact cellsD_below (Below.refl _ _).drew hS0) | (with_reducible exact hcn) | fail)
            (first | (go_at_call 44; (with_reducible refine (cN _ HD.out).mono ?_); rintro e w4 ⟨rfl, hb4⟩; have hcn := cellsD_below hb4 (cellsD_below (Below.refl _ _).drew hS0); have HB4 := Lib.hid (below_next HD.out hb4); clear hb4) | fail)
          go_wp2_with fail
          go_ret
          exact ⟨ret_bool (a := false) HFF.out.symm, HB4.out⟩
        · have HTT := Lib.hid (by rw [HT.out, HN.out, HG.out, hr]; rfl : Sg.nextTo l (k + 1) = true)
          simp only [hr] at cN
          clear hr hsub hbw
          go_upto_region 6 with fail
          go_region_held3 (fun X => CellsD X wr.heap.size (.string (nm k)) (.int .i64 (oo k)) (.int .i64 (hh k)) (.int .i64 (kk k)) (.slice a9 n9 m9) (.int .i64 (im k)))
            (first | (with_reducible exact cellsD_below (Below.refl _ _).drew hS0) | (with_reducible exact hcn) | fail)
            (first | (go_at_call 44; (with_reducible refine (cN _ HD.out).mono ?_); rintro e w4 ⟨rfl, hb4⟩; have hcn := cellsD_below hb4 (cellsD_below (Below.refl _ _).drew hS0); have HB4 := Lib.hid (below_next HD.out hb4); clear hb4) | fail)
          go_wp2_with fail
          go_roundw
          case rel => exact ⟨k + 1, by omega, by go_num, HB4.out, HTT⟩
          case measure => simp [RowKit.intOf]; omega
      · obtain rfl : k = len := by omega
        have cP := positions_any (H := Unit) S l (.slice ao k cap) wr (HDL.out.keep HBW.out) (by rw [HLEN.out]; omega)
        rw [HLEN.out] at cP
        have HEE := Lib.hid (HE.out (by rw [HLEN.out]; exact HN.out))
        clear hbw
        go_wp2_with (first
          | (go_at_call 40; (with_reducible refine cP.mono ?_); rintro e w4 ⟨B, rfl, hB, hown, hb4⟩; have HO := Lib.hid hown; have HB4 := Lib.hid hb4; clear hown hb4)
          | (at_len; refine wpList_len_own _ rfl _ 73 rfl 9 3 Try.underlying73 _ B k _ rfl HO.out ?_)
          | fail)
        go_ret
        refine ⟨ret_bool ?_, below_next HBW.out HB4.out⟩
        rw [HEE.out, HLEN.out]
end Go.Proofs.Yteoheeddjddekaa

namespace Go.Proofs.Yteoheeddjddekaa
open Go.RowKit
set_option linter.unusedSimpArgs false
set_option linter.unusedVariables false

/-- the six cells of a constant -/
def dcells (d : Dc) (v : Value) : List Value := [.string d.nm, .int .i64 d.cl.op, .int .i64 d.cl.hd, .int .i64 d.cl.n, v, .int .i64 d.im]
def dflat : List Dc → List Value → List Value
  | d :: l, v :: vs => .string d.nm :: .int .i64 d.cl.op :: .int .i64 d.cl.hd :: .int .i64 d.cl.n :: v :: .int .i64 d.im :: dflat l vs
  | _, _ => []
theorem dflat_length : ∀ (ts : List Dc) (vs : List Value), ts.length = vs.length → (dflat ts vs).length = ts.length * 6
  | [], [], _ => rfl
  | t :: ts, v :: vs, h => by simp only [dflat, List.length_cons, dflat_length ts vs (by simpa using h)]; omega
  | [], _ :: _, h => by simp at h
  | _ :: _, [], h => by simp at h
theorem dflat_snoc : ∀ (ts : List Dc) (vs : List Value) (t : Dc) (v : Value), ts.length = vs.length → dflat (ts ++ [t]) (vs ++ [v]) = dflat ts vs ++ dcells t v
  | [], [], _, _, _ => rfl
  | t :: ts, v :: vs, t', v', h => by simp only [List.cons_append, dflat, dflat_snoc ts vs t' v' (by simpa using h)]
  | [], _ :: _, _, _, h => by simp at h
  | _ :: _, [], _, _, h => by simp at h
theorem dflat_get : ∀ (ts : List Dc) (vs : List Value) (i : Nat) (h : i < ts.length) (h' : i < vs.length),
    (dflat ts vs)[i * 6]? = some (.string ts[i].nm) ∧ (dflat ts vs)[i * 6 + 1]? = some (.int .i64 ts[i].cl.op) ∧ (dflat ts vs)[i * 6 + 2]? = some (.int .i64 ts[i].cl.hd) ∧ (dflat ts vs)[i * 6 + 3]? = some (.int .i64 ts[i].cl.n) ∧
      (dflat ts vs)[i * 6 + 4]? = some vs[i] ∧ (dflat ts vs)[i * 6 + 5]? = some (.int .i64 ts[i].im)
  | t :: ts, v :: vs, 0, _, _ => by simp [dflat]
  | t :: ts, v :: vs, i + 1, h, h' => by
    have := dflat_get ts vs i (by simpa using h) (by simpa using h')
    have e : ∀ j, (i + 1) * 6 + j = (i * 6 + j) + 1 + 1 + 1 + 1 + 1 + 1 := fun j => by omega
    have e0 : (i + 1) * 6 = i * 6 + 1 + 1 + 1 + 1 + 1 + 1 := by omega
    simp only [dflat, List.getElem_cons_succ]
    rw [e 1, e 2, e 3, e 4, e 5, e0]
    simp only [List.getElem?_cons_succ]
    exact this
  | [], _, _, h, _ => by simp at h
  | _ :: _, [], _, _, h => by simp at h

/-- a constant that a machine holds -/
def Dc.fit (d : Dc) : Prop := d.nm.size ≤ 140737488351232 ∧ d.cl.fit ∧ I64 d.im
/-- The slice value v is the call's own row of constants (in a block from base on); their spines lie in other blocks from base on. -/
structure DBuilt (w : World) (base : Nat) (v : Value) (ts : List Dc) : Prop where
  has : ∃ vs : List Value, ts.length = vs.length ∧ w.ownsRow base 40 6 v ts.length (dflat ts vs) ∧ ∀ i (h : i < ts.length) (h' : i < vs.length), Lies w (fun b => base ≤ b ∧ v.ownBlock ≠ some b) vs[i] ts[i].cl.args
  fit : ∀ d ∈ ts, d.fit
section
variable {w w' : World} {base : Nat} {v : Value} {ts : List Dc}
theorem DBuilt.nil (w : World) (base : Nat) : DBuilt w base (.slice none 0 0) [] :=
  ⟨⟨[], rfl, World.ownsRow_nil _ _ _ _, fun i h => by simp at h⟩, by simp⟩
theorem DBuilt.keep (h : DBuilt w base v ts) (hb : ∀ b, base ≤ b → b < w.heap.size → w'.heap[b]? = w.heap[b]?) : DBuilt w' base v ts := by
  obtain ⟨⟨vs, hl, hown, hsub⟩, hf⟩ := h
  refine ⟨⟨vs, hl, ⟨hown.1, ?_⟩, fun i h h' => (hsub i h h').still fun b hS hlt => hb b hS.1 hlt⟩, hf⟩
  rcases hown.2 with hn | ⟨g, cap, cur, rfl, hg, hh, rest⟩
  · exact .inl hn
  · exact .inr ⟨g, cap, cur, rfl, hg, (hb g hg (Array.getElem?_eq_some_iff.1 hh).1).trans hh, rest⟩
theorem DBuilt.below (h : DBuilt w base v ts) (hb : Below w.heap.size w w') : DBuilt w' base v ts := h.keep fun b _ hlt => hb.block b hlt
theorem DBuilt.lt (h : DBuilt w base v ts) : ∀ k, v.ownBlock = some k → base ≤ k ∧ k < w.heap.size := by
  obtain ⟨vs, _, hown, _⟩ := h.has; exact hown.lt
theorem DBuilt.own (h : DBuilt w base v ts) : ∃ vs : List Value, ts.length = vs.length ∧ w.ownsRow base 40 6 v ts.length (dflat ts vs) ∧ ∀ i (h : i < ts.length) (h' : i < vs.length), Lies w (fun b => base ≤ b ∧ v.ownBlock ≠ some b) vs[i] ts[i].cl.args := h.has
theorem DBuilt.isSlice (h : DBuilt w base v ts) : ∃ a m, v = .slice a ts.length m := by
  obtain ⟨vs, _, hown, _⟩ := h.has
  rcases hown.2 with ⟨rfl, h0⟩ | ⟨g, cap, cur, rfl, _⟩
  · exact ⟨_, _, by rw [h0]⟩
  · exact ⟨_, _, rfl⟩
/-- one more constant -/
theorem DBuilt.push {vs : List Value} {g cap : Nat} {t : Dc} {s : Value}
    (hl : ts.length = vs.length) (hsub : ∀ i (h : i < ts.length) (h' : i < vs.length), Lies w (fun b => base ≤ b ∧ v.ownBlock ≠ some b) vs[i] ts[i].cl.args) (hfit : ∀ t ∈ ts, t.fit) (ht : t.fit)
    (hs : Lies w (fun b => base ≤ b ∧ v.ownBlock ≠ some b) s t.cl.args)
    (hown' : w'.ownsRow base 40 6 (.slice (some ⟨g, 0, none⟩) (ts.length + 1) cap) (ts.length + 1) (dflat ts vs ++ dcells t s))
    (hgrow : w.grownBy w' v.ownBlock) (hat : v.ownBlock = some g ∨ g = w.heap.size) : DBuilt w' base (.slice (some ⟨g, 0, none⟩) (ts.length + 1) cap) (ts ++ [t]) := by
  have move : ∀ {x : Value} {l : List Tm}, Lies w (fun b => base ≤ b ∧ v.ownBlock ≠ some b) x l → Lies w' (fun b => base ≤ b ∧ (Value.slice (some ⟨g, 0, none⟩) (ts.length + 1) cap).ownBlock ≠ some b) x l := by
    intro x l h
    have h2 : Lies w (fun b => base ≤ b ∧ b ≠ g ∧ v.ownBlock ≠ some b) x l := h.more fun b hlt hS => ⟨hS.1, fun e => by
      subst e
      rcases hat with hat | hat
      · exact hS.2 hat
      · omega, hS.2⟩
    refine (h2.still (w' := w') fun b hS hlt => hgrow.block b hlt (fun e => hS.2.2 e.symm)).more fun b _ hS => ⟨hS.1, ?_⟩
    simp only [Value.ownBlock, ne_eq, Option.some.injEq]
    exact fun e => hS.2.1 e.symm
  refine ⟨⟨vs ++ [s], by simp [hl], by rw [dflat_snoc ts vs t s hl]; simpa using hown', ?_⟩, ?_⟩
  · intro i h h'
    by_cases hi : i < ts.length
    · rw [List.getElem_append_left (by omega)]
      simp only [List.getElem_append_left hi]
      exact move (hsub i hi (by omega))
    · obtain rfl : i = ts.length := by simp at h; omega
      simp only [List.getElem_append_right (Nat.le_refl _), Nat.sub_self, List.getElem_cons_zero]
      rw [List.getElem_append_right (by omega)]
      simp only [hl, Nat.sub_self, List.getElem_cons_zero]
      rw [← hl]
      exact move hs
  · intro x hx
    rcases List.mem_append.1 hx with hx | hx
    · exact hfit x hx
    · simp at hx; rw [hx]; exact ht
theorem DLies.nil (w : World) (S : Nat → Prop) : DLies w S (.slice none 0 0) [] :=
  ⟨none, 0, 0, 0, 0, fun _ => ⟨#[]⟩, fun _ => 0, fun _ => 0, fun _ => 0, fun _ => .slice none 0 0, fun _ => [], fun _ => 0, rfl, rfl, by simp, by simp, by simp, by simp, by simp, by simp, by simp, by simp, by simp, by simp, by simp, by simp, by simp, by simp, by simp, by simp⟩
/-- a row of constants, from its cells -/
theorem DLies.of {S : Nat → Prop} {g off len cap : Nat} (l : List Dc) (vs : List Value) (hl : l.length = vs.length) (hlen : l.length = len) (hS : 0 < len → S g) (hc : len ≤ cap) (hm : cap ≤ 9223372036854775807)
    (cells : ∀ i (h : i < l.length) (h' : i < vs.length), w.cell? ⟨g, off + i * 6, none⟩ = some (.string l[i].nm) ∧ w.cell? ⟨g, off + i * 6 + 1, none⟩ = some (.int .i64 l[i].cl.op) ∧ w.cell? ⟨g, off + i * 6 + 2, none⟩ = some (.int .i64 l[i].cl.hd) ∧
      w.cell? ⟨g, off + i * 6 + 3, none⟩ = some (.int .i64 l[i].cl.n) ∧ w.cell? ⟨g, off + i * 6 + 4, none⟩ = some vs[i] ∧ w.cell? ⟨g, off + i * 6 + 5, none⟩ = some (.int .i64 l[i].im))
    (hf : ∀ d ∈ l, d.fit) (hsub : ∀ i (h : i < l.length) (h' : i < vs.length), Lies w S vs[i] l[i].cl.args) : DLies w S (.slice (some ⟨g, off, none⟩) len cap) l := by
  subst hlen
  have hget : ∀ i (h : i < l.length), l[i]?.getD ⟨⟨#[]⟩, Tm.zero, 0⟩ = l[i] := fun i h => by rw [List.getElem?_eq_getElem h]; rfl
  have hvs : ∀ i (h : i < vs.length), vs[i]?.getD (.slice none 0 0) = vs[i] := fun i h => by rw [List.getElem?_eq_getElem h]; rfl
  refine ⟨some ⟨g, off, none⟩, g, off, l.length, cap, fun i => (l[i]?.getD ⟨⟨#[]⟩, Tm.zero, 0⟩).nm, fun i => (l[i]?.getD ⟨⟨#[]⟩, Tm.zero, 0⟩).cl.op, fun i => (l[i]?.getD ⟨⟨#[]⟩, Tm.zero, 0⟩).cl.hd, fun i => (l[i]?.getD ⟨⟨#[]⟩, Tm.zero, 0⟩).cl.n, fun i => vs[i]?.getD (.slice none 0 0), fun i => (l[i]?.getD ⟨⟨#[]⟩, Tm.zero, 0⟩).cl.args, fun i => (l[i]?.getD ⟨⟨#[]⟩, Tm.zero, 0⟩).im, rfl, ?_⟩
  refine ⟨?_, fun _ => rfl, hS, hc, hm, fun i hi => by rw [hget i hi]; exact (cells i hi (by omega)).1, fun i hi => by rw [hget i hi]; exact (cells i hi (by omega)).2.1, fun i hi => by rw [hget i hi]; exact (cells i hi (by omega)).2.2.1, fun i hi => by rw [hget i hi]; exact (cells i hi (by omega)).2.2.2.1,
    fun i hi => by rw [hvs i (by omega)]; exact (cells i hi (by omega)).2.2.2.2.1, fun i hi => by rw [hget i hi]; exact (cells i hi (by omega)).2.2.2.2.2, fun i hi => by rw [hget i hi]; exact (hf _ (List.getElem_mem hi)).1, fun i hi => by rw [hget i hi]; exact (hf _ (List.getElem_mem hi)).2.1.1,
    fun i hi => by rw [hget i hi]; exact (hf _ (List.getElem_mem hi)).2.1.2.1, fun i hi => by rw [hget i hi]; exact (hf _ (List.getElem_mem hi)).2.1.2.2, fun i hi => by rw [hget i hi]; exact (hf _ (List.getElem_mem hi)).2.2, fun i hi => by rw [hget i hi, hvs i (by omega)]; exact hsub i hi (by omega)⟩
  apply List.ext_getElem
  · simp
  · intro i h1 h2
    simp only [List.getElem_map, List.getElem_range, List.getElem?_eq_getElem h1, Option.getD_some]
    obtain ⟨nm, ⟨o, h, n, a⟩, im⟩ := l[i]
    rfl
theorem DBuilt.cells (h : DBuilt w base v ts) : (v = .slice none 0 0 ∧ ts = []) ∨ ∃ (g cap : Nat) (vs : List Value) (hl : ts.length = vs.length), v = .slice (some ⟨g, 0, none⟩) ts.length cap ∧ base ≤ g ∧ ts.length ≤ cap ∧ cap ≤ 9223372036854775807 ∧
    (∀ i (h : i < ts.length) (h' : i < vs.length), w.cell? ⟨g, 0 + i * 6, none⟩ = some (.string ts[i].nm) ∧ w.cell? ⟨g, 0 + i * 6 + 1, none⟩ = some (.int .i64 ts[i].cl.op) ∧ w.cell? ⟨g, 0 + i * 6 + 2, none⟩ = some (.int .i64 ts[i].cl.hd) ∧
      w.cell? ⟨g, 0 + i * 6 + 3, none⟩ = some (.int .i64 ts[i].cl.n) ∧ w.cell? ⟨g, 0 + i * 6 + 4, none⟩ = some vs[i] ∧ w.cell? ⟨g, 0 + i * 6 + 5, none⟩ = some (.int .i64 ts[i].im)) ∧
    (∀ i (h : i < ts.length) (h' : i < vs.length), Lies w (fun b => base ≤ b ∧ b ≠ g) vs[i] ts[i].cl.args) := by
  obtain ⟨⟨vs, hl, hown, hsub⟩, hf⟩ := h
  have hcells := @World.ownsRow.cells w base 40 6 v ts.length (dflat ts vs) hown
  rcases hown.2 with ⟨rfl, h0⟩ | ⟨g, cap, cur, rfl, hg, hh, hle, hmx, _⟩
  · exact .inl ⟨rfl, List.eq_nil_of_length_eq_zero h0⟩
  · have hc : ∀ j u, (dflat ts vs)[j]? = some u → w.cell? ⟨g, 0 + j, none⟩ = some u := fun j u hu => by
      have := hcells (g := g) (by simp [Value.ownBlock]) j u hu
      rwa [Addr.add_lit] at this
    have hm : cap ≤ 9223372036854775807 := by unfold maxLen at hmx; exact hmx
    refine .inr ⟨g, cap, vs, hl, rfl, hg, hle, hm, fun i hi hi' => ?_, fun i hi hi' => (hsub i hi hi').more fun b _ hS => ⟨hS.1, fun e => hS.2 (by simp [Value.ownBlock, e])⟩⟩
    have hf := dflat_get ts vs i hi hi'
    refine ⟨hc _ _ hf.1, ?_, ?_, ?_, ?_, ?_⟩
    · have := hc _ _ hf.2.1; rwa [← Nat.add_assoc] at this
    · have := hc _ _ hf.2.2.1; rwa [← Nat.add_assoc] at this
    · have := hc _ _ hf.2.2.2.1; rwa [← Nat.add_assoc] at this
    · have := hc _ _ hf.2.2.2.2.1; rwa [← Nat.add_assoc] at this
    · have := hc _ _ hf.2.2.2.2.2; rwa [← Nat.add_assoc] at this
theorem DBuilt.lies (h : DBuilt w base v ts) : DLies w (base ≤ ·) v ts := by
  have hf := h.fit
  rcases h.cells with ⟨rfl, rfl⟩ | ⟨g, cap, vs, hl, rfl, hg, hc, hm, cells, hsub⟩
  · exact DLies.nil _ _
  · exact DLies.of ts vs hl rfl (fun _ => hg) hc hm cells hf fun i h h' => (hsub i h h').more fun b _ hS => hS.1
end
theorem dc_info : (Try.prog.info? 40).map (fun i => (i.zero, i.size, i.bytes)) = some (some (.agg #[.string ⟨#[]⟩, .int .i64 0, .int .i64 0, .int .i64 0, .slice none 0 0, .int .i64 0]), 6, 72) := by kernel_rfl

/-- a constant that is handed back: its spine in new memory -/
def GivesD (w : World) (d : Dc) (e : Ending) (w' : World) : Prop := ∃ v, e = .returned (dcV d v) ∧ Below w.heap.size w w' ∧ Lies w' (w.heap.size ≤ ·) v d.cl.args
/-- a signature that is handed back, all of it in new memory -/
def GivesS (w : World) (l : List Dc) (e : Ending) (w' : World) : Prop := ∃ a, e = .returned a ∧ Below w.heap.size w w' ∧ DBuilt w' w.heap.size a l

set_option maxHeartbeats 4000000 in
set_option maxRecDepth 100000 in
theorem eachD_any (G : Dc → Dc) (B : Nat) (l : List Dc) (v : Value) (w : World) (hv : DLies w (fun _ => True) v l) (hl6 : l.length ≤ 1000000) (hfit : ∀ t ∈ l, (G t).fit)
    (call : ∀ t ∈ l, ∀ (tv : Value) (w1 : World), Below w.heap.size w w1 → Lies w1 (fun _ => True) tv t.cl.args → Calls Try.prog 62 #[dcV t tv, .pointer (some ⟨B, 0, none⟩)] w1 (GivesD w1 (G t))) :
    Calls Try.prog 61 #[v, .func (.func 62) #[] #[.pointer (some ⟨B, 0, none⟩)]] w (GivesS w (l.map G)) := by
  obtain ⟨ao, b, off, len, cap, nm, oo, hh, kk, sc, tt, im, rfl, R⟩ := hv
  obtain ⟨i0, hi0, hz0, hz1, hz2⟩ := info_parts dc_info
  have hr := R.hr
  have hl := R.hl
  have hlen : len ≤ 1000000 := by rw [← R.length]; exact hl6
  have HLEN := Lib.hid R.length
  have HR := Lib.hid R
  have HC := Lib.hid call
  have HF := Lib.hid hfit
  have HI0 := Lib.hid hi0
  have HZ0 := Lib.hid hz0
  have HB0 := Lib.hid (Below.refl w.heap.size w)
  clear R call hfit hi0 hz0 hl6
  go_enter Try.func61, Try.ntmps61
  go_wp2_with fail
  go_loopw [5, 10] (fun v i wr => ∃ j : Nat, j ≤ len ∧ i = .int .i64 j ∧ Below w.heap.size w wr ∧ DBuilt wr w.heap.size v ((l.take j).map G)) (fun _ i _ => len - (RowKit.intOf i).toNat)
  case atStart => exact ⟨0, Nat.zero_le _, rfl, HB0.out, by rw [List.take_zero]; exact DBuilt.nil _ _⟩
  case round =>
    obtain ⟨j, hj, rfl, hbw, M⟩ := hrel
    by_cases hlt : j < len
    · obtain rfl := HR.out.hao (by omega)
      obtain ⟨d0, d1, d2, d3, d4, d5, hsub⟩ := HR.out.at hbw j hlt
      obtain ⟨a5, n5, m5, hs5⟩ := hsub.isSlice
      rw [hs5] at d4 hsub
      have hjl : j < l.length := by rw [HLEN.out]; exact hlt
      have hg := HR.out.get j hlt
      have hba := one_below wr (.cells #[.string (nm j), .int .i64 (oo j), .int .i64 (hh j), .int .i64 (kk j), .slice a5 n5 m5, .int .i64 (im j)] 40)
      have c1 := HC.out l[j] (List.getElem_mem hjl) (.slice a5 n5 m5) _ (hbw.trans (hba.mono hbw.size)) (by rw [hg]; exact hsub.keep hba)
      have hft := HF.out l[j] (List.getElem_mem hjl)
      have hstep : (l.take (j + 1)).map G = (l.take j).map G ++ [G l[j]] := by rw [List.take_succ_eq_append_getElem hjl, List.map_append]; rfl
      have hlenk : ((l.take j).map G).length = j := by simp; omega
      generalize G l[j] = T at c1 hft hstep
      rw [hg] at c1
      obtain ⟨tnm, ⟨tq, th, tn, tl⟩, tim⟩ := T
      unfold GivesD dcV at c1
      simp only [Tm.op, Tm.hd, Tm.n, Tm.args] at c1
      generalize (l.take j).map G = ts at M hstep hlenk
      subst hlenk
      have hrl := M.lt
      have hws := hbw.size
      have HM := Lib.hid M
      have HRL := Lib.hid hrl
      have HBW := Lib.hid hbw
      have HFT := Lib.hid hft
      have HSTEP := Lib.hid hstep
      have HBA := Lib.hid hba
      clear M hsub hg hrl hbw hft hstep hba
      go_wp2_with fail
      refine c1.mono ?_
      rintro e w2 ⟨v2, rfl, hb2, hx2⟩
      obtain ⟨a7, n7, m7, rfl⟩ := hx2.isSlice
      have hb12 := below_next HBA.out hb2
      have hs2 := hb12.size
      have hsA := hb2.size
      simp at hsA
      obtain ⟨vs, hvl, hown2, hsub2⟩ := (HM.out.below hb12).own
      have HVL := Lib.hid hvl
      have HSB := Lib.hid hsub2
      have HOW := Lib.hid hown2
      have HX2 := Lib.hid (hx2.more (S' := fun b' => w.heap.size ≤ b' ∧ u5.ownBlock ≠ some b') fun b' hlt' hS => ⟨by simp at hS; omega, fun e => by have := (HRL.out b' e).2; simp at hS; omega⟩)
      have HB12 := Lib.hid hb12
      clear hvl hsub2 hown2 hx2 hb12 hb2 c1 d0 d1 d2 d3 d4 d5
      go_wp2_with (at_builtin; refine wpList_append_lies _ (by rfl) _ _ _ (by rfl) w.heap.size 40 i0 _ 6 72 Try.underlying22 HI0.out HZ0.out hz1 hz2 rfl (by omega) u5 _ _ (by rfl) (HOW.out.alloc _) ⟨w2.heap.size, 0, none⟩ 1 1 [.string tnm, .int .i64 tq, .int .i64 th, .int .i64 tn, .slice a7 n7 m7, .int .i64 tim] (by rfl) (by rfl) (World.news_of_block (cs := #[.string tnm, .int .i64 tq, .int .i64 th, .int .i64 tn, .slice a7 n7 m7, .int .i64 tim]) (t := 40) (fr := (0, 0)) (heap_alloc_new _ _)) (by intro u hu; simp at hu; rcases hu with rfl | rfl | rfl | rfl | rfl | rfl <;> rfl) (by omega) (by unfold maxLen; omega) (by omega) (by simp; omega) _ rfl ?_; intro g cap3 w3 hown3 hgrow3 hat3 hlt3)
      go_roundw
      case rel =>
        refine ⟨ts.length + 1, by omega, by go_num, ((below_next HBW.out HB12.out).alloc (by omega) _).grown hgrow3 (by simp; omega) (fun k hk => (HRL.out k hk).1), ?_⟩
        rw [HSTEP.out]
        exact DBuilt.push (w := w2.alloc (.cells #[.string tnm, .int .i64 tq, .int .i64 th, .int .i64 tn, .slice a7 n7 m7, .int .i64 tim] 40)) (t := ⟨tnm, .mk tq th tn tl, tim⟩) (s := .slice a7 n7 m7) HVL.out (fun i h h' => (HSB.out i h h').keep (one_below _ _)) HM.out.fit HFT.out (HX2.out.keep (one_below _ _)) hown3 hgrow3 hat3
      case measure => simp [RowKit.intOf]; omega
    · obtain rfl : j = len := by omega
      have hM := M
      rw [List.take_of_length_le (by rw [HLEN.out]; exact Nat.le_refl _)] at hM
      obtain ⟨a7, m7, rfl⟩ := hM.isSlice
      have HM := Lib.hid hM
      have HBW := Lib.hid hbw
      clear M hM hbw
      go_wp2_with fail
      go_ret
      exact ⟨_, rfl, HBW.out, HM.out⟩

/-- a constant whose class has its constants renumbered -/
def Dc.num (g : Int → Int) (d : Dc) : Dc := ⟨d.nm, Tm.num g d.cl, d.im⟩

abbrev CellsDF (W : World) (B : Nat) (x0 x1 x2 x3 x4 x5 : Value) (P : Addr) (x6 : Value) : Prop :=
  W.cell? P = some x6 ∧ W.cell? ⟨B, 0, none⟩ = some x0 ∧ W.cell? ⟨B, 1, none⟩ = some x1 ∧ W.cell? ⟨B, 2, none⟩ = some x2 ∧ W.cell? ⟨B, 3, none⟩ = some x3 ∧ W.cell? ⟨B, 4, none⟩ = some x4 ∧ W.cell? ⟨B, 5, none⟩ = some x5
theorem cellsDF_below {W W' : World} {B : Nat} {x0 x1 x2 x3 x4 x5 x6 : Value} {P : Addr} (hb : Below W.heap.size W W') (x : CellsDF W B x0 x1 x2 x3 x4 x5 P x6) : CellsDF W' B x0 x1 x2 x3 x4 x5 P x6 :=
  ⟨kept_cell hb x.1, cellsD_below hb x.2⟩

end Go.Proofs.Yteoheeddjddekaa

namespace Go.Proofs.Yteoheeddjddekaa
open Go.RowKit
set_option linter.unusedSimpArgs false
set_option linter.unusedVariables false

theorem set6D_at {w : World} {B : Nat} {a0 b0 c0 d0 e0 f0 : Value} {t : TypeId} (h : w.heap[B]? = some (.cells #[a0, b0, c0, d0, e0, f0] t (0, 0))) (a b c d e f : Value) :
    ((((((w.setCell ⟨B, 0, none⟩ a).setCell ⟨B, 1, none⟩ b).setCell ⟨B, 2, none⟩ c).setCell ⟨B, 3, none⟩ d).setCell ⟨B, 4, none⟩ e).setCell ⟨B, 5, none⟩ f).heap[B]? = some (.cells #[a, b, c, d, e, f] t (0, 0)) := by
  have := heap_set_at (j := 5) f (heap_set_at (j := 4) e (heap_set_at (j := 3) d (heap_set_at (j := 2) c (heap_set_at (j := 1) b (heap_set_at (j := 0) a h)))))
  simpa using this
theorem set6D_other {w : World} {B k : Nat} (a b c d e f : Value) (h : k ≠ B) : ((((((w.setCell ⟨B, 0, none⟩ a).setCell ⟨B, 1, none⟩ b).setCell ⟨B, 2, none⟩ c).setCell ⟨B, 3, none⟩ d).setCell ⟨B, 4, none⟩ e).setCell ⟨B, 5, none⟩ f).heap[k]? = w.heap[k]? := by
  rw [Below.heap_setCell _ _ _ _ (by simpa using h), Below.heap_setCell _ _ _ _ (by simpa using h), Below.heap_setCell _ _ _ _ (by simpa using h), Below.heap_setCell _ _ _ _ (by simpa using h), Below.heap_setCell _ _ _ _ (by simpa using h), Below.heap_setCell _ _ _ _ (by simpa using h)]
theorem givesD_set {w w1 : World} {d : Dc} {B : Nat} {v : Value} (hB : w.heap.size ≤ B) (hb : Below w.heap.size w w1) (hl : Lies w1 (fun b => w.heap.size ≤ b ∧ b ≠ B) v d.cl.args) {x0 x1 x2 x3 x4 x5 : Value} :
    GivesD w d (.returned (dcV d v)) ((((((w1.setCell ⟨B, 0, none⟩ x0).setCell ⟨B, 1, none⟩ x1).setCell ⟨B, 2, none⟩ x2).setCell ⟨B, 3, none⟩ x3).setCell ⟨B, 4, none⟩ x4).setCell ⟨B, 5, none⟩ x5) :=
  ⟨v, rfl, (((((hb.setCell hB _).setCell hB _).setCell hB _).setCell hB _).setCell hB _).setCell hB _, (hl.still fun j hS _ => set6D_other _ _ _ _ _ _ hS.2).more fun _ _ hS => hS.1⟩
theorem cellsDF_six {W : World} {B k : Nat} {x0 x1 x2 x3 x4 x5 x6 a0 a1 a2 a3 a4 a5 : Value} {P : Addr} (h : P.block ≠ k ∧ B ≠ k) (x : CellsDF W B x0 x1 x2 x3 x4 x5 P x6) :
    CellsDF ((((((W.setCell ⟨k, 0, none⟩ a0).setCell ⟨k, 1, none⟩ a1).setCell ⟨k, 2, none⟩ a2).setCell ⟨k, 3, none⟩ a3).setCell ⟨k, 4, none⟩ a4).setCell ⟨k, 5, none⟩ a5) B x0 x1 x2 x3 x4 x5 P x6 := by
  have go : ∀ p : Addr, p.block ≠ k → ∀ u, W.cell? p = some u → ((((((W.setCell ⟨k, 0, none⟩ a0).setCell ⟨k, 1, none⟩ a1).setCell ⟨k, 2, none⟩ a2).setCell ⟨k, 3, none⟩ a3).setCell ⟨k, 4, none⟩ a4).setCell ⟨k, 5, none⟩ a5).cell? p = some u := fun p hp u e => by
    rw [World.cell?_of_block (w := W)]
    · exact e
    · rw [Below.heap_setCell _ _ _ _ (by simpa using hp), Below.heap_setCell _ _ _ _ (by simpa using hp), Below.heap_setCell _ _ _ _ (by simpa using hp), Below.heap_setCell _ _ _ _ (by simpa using hp), Below.heap_setCell _ _ _ _ (by simpa using hp), Below.heap_setCell _ _ _ _ (by simpa using hp)]
  obtain ⟨y6, y0, y1, y2, y3, y4, y5⟩ := x
  exact ⟨go _ h.1 _ y6, go _ h.2 _ y0, go _ h.2 _ y1, go _ h.2 _ y2, go _ h.2 _ y3, go _ h.2 _ y4, go _ h.2 _ y5⟩

set_option maxHeartbeats 4000000 in
set_option maxRecDepth 100000 in
theorem renD_any (d : Dc) (F : Nat) (cp : Array Value) (g : Int → Int) (B : Nat) (v : Value) (w : World) (hv : Lies w (fun _ => True) v d.cl.args) (hB : w.heap[B]? = some (.cells #[.func (.func F) #[] cp] 70 (0, 0)))
    (hp : Tm.proper d.cl = true) (HN : NumF w F cp g) :
    Calls Try.prog 62 #[dcV d v, .pointer (some ⟨B, 0, none⟩)] w (GivesD w (d.num g)) := by
  obtain ⟨nm, ⟨o, h, n, l⟩, im⟩ := d
  unfold dcV
  simp only [Tm.op, Tm.hd, Tm.n, Tm.args] at hv ⊢
  obtain ⟨a2, n2, m2, rfl⟩ := hv.isSlice
  have h2 := two_below w (.cells #[.string nm, .int .i64 o, .int .i64 h, .int .i64 n, .slice a2 n2 m2, .int .i64 im] 40) (.cells #[.string ⟨#[]⟩, .int .i64 0, .int .i64 0, .int .i64 0, .slice none 0 0, .int .i64 0] 40)
  have hk2 := two_blocks w #[.string nm, .int .i64 o, .int .i64 h, .int .i64 n, .slice a2 n2 m2, .int .i64 im] #[.string ⟨#[]⟩, .int .i64 0, .int .i64 0, .int .i64 0, .slice none 0 0, .int .i64 0] 40 40
  have c1 := fun w1 (hb : Below w.heap.size w w1) => ren_any F cp g (.mk o h n l) (.slice a2 n2 m2) w1 hp (HN.keep hb) (hv.keep hb)
  have hT : Hid (Dc.num g ⟨nm, .mk o h n l, im⟩ = ⟨nm, Tm.num g (.mk o h n l), im⟩) := Lib.hid rfl
  rw [hT.out]
  generalize Tm.num g (.mk o h n l) = T at c1
  clear hT
  obtain ⟨tq, th, tn, tl⟩ := T
  unfold GivesT at c1
  simp only [Tm.op, Tm.hd, Tm.n, Tm.args] at c1
  have hs2 : ((w.alloc (.cells #[.string nm, .int .i64 o, .int .i64 h, .int .i64 n, .slice a2 n2 m2, .int .i64 im] 40)).alloc (.cells #[.string ⟨#[]⟩, .int .i64 0, .int .i64 0, .int .i64 0, .slice none 0 0, .int .i64 0] 40)).heap.size = w.heap.size + 2 := by simp
  have hne : (⟨B, 0, none⟩ : Addr).block ≠ w.heap.size + 1 ∧ w.heap.size ≠ w.heap.size + 1 := ⟨by have := lt_of_block hB; show B ≠ _; omega, by omega⟩
  have hS0 : CellsDF _ w.heap.size (.string nm) (.int .i64 o) (.int .i64 h) (.int .i64 n) (.slice a2 n2 m2) (.int .i64 im) ⟨B, 0, none⟩ (.func (.func F) #[] cp) := ⟨cell_in (heap_kept h2 hB) 0 _ rfl, cells6_of' hk2.1⟩
  have HR2 := Lib.hid hk2.2
  have HD := Lib.hid (h2.trans ((Below.refl _ _).drew.mono h2.size))
  have HSZ := Lib.hid hs2
  have HNE := Lib.hid hne
  clear hs2 hk2 hv hB HN hp h2 hne
  go_enter Try.func62, Try.ntmps62
  go_upto_region 1 with fail
  generalize ((w.alloc (.cells #[.string nm, .int .i64 o, .int .i64 h, .int .i64 n, .slice a2 n2 m2, .int .i64 im] 40)).alloc (.cells #[.string ⟨#[]⟩, .int .i64 0, .int .i64 0, .int .i64 0, .slice none 0 0, .int .i64 0] 40)) = W at *
  go_region_held3 (fun X => CellsDF X w.heap.size (.string nm) (.int .i64 o) (.int .i64 h) (.int .i64 n) (.slice a2 n2 m2) (.int .i64 im) ⟨B, 0, none⟩ (.func (.func F) #[] cp))
    (first | (with_reducible exact cellsDF_below (Below.refl _ _).drew hS0) | (with_reducible exact cellsDF_six HNE.out hcn) | (with_reducible exact hcn) | fail)
    (first | (go_at_call 63; (with_reducible refine (c1 _ HD.out).mono ?_); rintro e w4 ⟨v4, rfl, hb4, hl4⟩; obtain ⟨a4, n4, m4, rfl⟩ := hl4.isSlice; have hcn := cellsDF_below hb4 (cellsDF_below (Below.refl _ _).drew hS0); have hr4 := heap_kept hb4 (heap_kept (Below.refl _ _).drew HR2.out); obtain ⟨y0, y1, y2, y3, y4, y5⟩ := cells6_of' hr4; have f0 := free_in hr4 0; have f1 := free_in hr4 1; have f2 := free_in hr4 2; have f3 := free_in hr4 3; have f4 := free_in hr4 4; have f5 := free_in hr4 5; have HX := Lib.hid (And.intro hb4 (And.intro hl4 hr4)); clear hb4 hl4 hr4 c1 hS0) | fail)
  go_wp2_with fail
  have hz := set6D_at HX.out.2.2 (.string nm) (.int .i64 tq) (.int .i64 th) (.int .i64 tn) (.slice a4 n4 m4) (.int .i64 im)
  obtain ⟨z0, z1, z2, z3, z4, z5⟩ := cells6_of' hz
  refine bodyPost_ret (v := .agg #[.string nm, .int .i64 tq, .int .i64 th, .int .i64 tn, .slice a4 n4 m4, .int .i64 im]) (by simp [results, Try.results62, go_sem, z0, z1, z2, z3, z4, z5]) rfl ?_
  have hsz := HSZ.out
  exact givesD_set (d := ⟨nm, .mk tq th tn tl, im⟩) (B := w.heap.size + 1) (by omega) (below_next HD.out HX.out.1) (HX.out.2.1.more fun b _ hS => by have hS' : W.heap.size ≤ b := hS; exact ⟨by omega, by omega⟩)

theorem DBuilt.low {w : World} {base base' : Nat} {v : Value} {l : List Dc} (h : DBuilt w base v l) (hb : base' ≤ base) : DBuilt w base' v l := by
  obtain ⟨⟨vs, hl, hown, hsub⟩, hf⟩ := h
  refine ⟨⟨vs, hl, ⟨hown.1, ?_⟩, fun i h h' => (hsub i h h').more fun b _ hS => ⟨by omega, hS.2⟩⟩, hf⟩
  rcases hown.2 with hn | ⟨g, cap, cur, hv, hg, rest⟩
  · exact .inl hn
  · exact .inr ⟨g, cap, cur, hv, by omega, rest⟩
theorem DLies.fits {w : World} {S : Nat → Prop} {v : Value} {l : List Dc} (h : DLies w S v l) : ∀ d ∈ l, d.fit := by
  obtain ⟨ao, b, off, len, cap, nm, o, hh, k, sv, ts, im, rfl, R⟩ := h
  intro d hd
  rw [R.isRow] at hd
  obtain ⟨i, hi, rfl⟩ := List.mem_map.1 hd
  have hi' := List.mem_range.1 hi
  exact ⟨R.rn i hi', ⟨R.r0 i hi', R.r1 i hi', R.r2 i hi'⟩, R.r3 i hi'⟩
theorem num_fitD (g : Int → Int) (hg : ∀ n, 0 ≤ n → n ≤ 9999 → I64 (g n)) {d : Dc} (h : d.fit) (hp : Tm.proper d.cl = true) : (d.num g).fit :=
  ⟨h.1, Tm.num_fit g hg (Tm.nums_of_formed _ 1 (Tm.proper_formed' hp).2), h.2.2⟩

set_option maxHeartbeats 1000000 in
set_option maxRecDepth 100000 in
theorem renum_any (F : Nat) (cp : Array Value) (g : Int → Int) (l : List Dc) (sv : Value) (w : World) (hl : DLies w (fun _ => True) sv l) (hp : ∀ d ∈ l, Tm.proper d.cl = true) (hlen : l.length ≤ 1000000) (HN : NumF w F cp g) :
    Calls Try.prog 37 #[sv, .func (.func F) #[] cp] w (GivesS w (l.map (Dc.num g))) := by
  have hb := one_below w (.cells #[.func (.func F) #[] cp] 70)
  have hn := heap_alloc_new w (.cells #[.func (.func F) #[] cp] 70)
  have hs : (w.alloc (.cells #[.func (.func F) #[] cp] 70)).heap.size = w.heap.size + 1 := by simp
  have c1 := eachD_any (Dc.num g) w.heap.size l sv _ (hl.keep hb) hlen (fun d hd => num_fitD g HN.fit (hl.fits d hd) (hp d hd)) fun d hd tv w1 hb1 ht => renD_any d F cp g w.heap.size tv w1 ht (heap_kept hb1 hn) (hp d hd) (HN.keep (below_next hb hb1))
  have hmf : ∀ (fn : Fn) (first cap : Array Value) (w : World), (Instr.makeFunc fn first cap).run Try.prog w = .ok (.func fn first cap) w := fun _ _ _ _ => rfl
  obtain ⟨a, m, rfl, hlen'⟩ := hl.isSlice
  have HH := Lib.hid (And.intro hb hs)
  clear hb hn hs hl hp HN hlen'
  go_enter Try.func37, Try.ntmps37
  go_wp2_with fail
  refine c1.mono ?_
  rintro e w1 ⟨v1, rfl, hb1, M⟩
  obtain ⟨a3, m3, hv3⟩ := M.isSlice
  rw [List.length_map] at hv3
  subst hv3
  have HX := Lib.hid (And.intro hb1 M)
  clear hb1 M c1
  go_wp2_with fail
  go_ret
  have hlow := DBuilt.low (base' := w.heap.size) HX.out.2 HH.out.1.size
  exact ⟨_, rfl, HH.out.1.trans (HX.out.1.mono HH.out.1.size), hlow⟩

set_option maxHeartbeats 400000 in
set_option maxRecDepth 100000 in
theorem same_num (w : World) : NumF w 67 #[] id := by
  refine ⟨fun args w => by simp [go_sem], fun n h0 h1 => ⟨by simp; omega, by simp; omega⟩, fun n w1 h0 h1 _ => ?_⟩
  simp only [Array.append_empty]
  go_enter Try.func67, Try.ntmps67
  go_wp2_with fail
  go_ret
  exact ⟨rfl, rfl⟩
namespace Tm
mutual
theorem num_id : ∀ t : Tm, num id t = t
  | .mk o h n l => by simp only [num, numL_id l, id, ite_self]
theorem numL_id : ∀ l : List Tm, numL id l = l
  | [] => rfl
  | t :: l => by simp only [numL, num_id t, numL_id l]
end
end Tm
theorem map_num_id (l : List Dc) : l.map (Dc.num id) = l := by
  rw [List.map_congr_left (g := id) (fun d _ => by cases d; simp only [Dc.num, Tm.num_id, id]), List.map_id]

set_option maxHeartbeats 1000000 in
set_option maxRecDepth 100000 in
theorem sig_any (l : List Dc) (sv : Value) (w : World) (hl : DLies w (fun _ => True) sv l) (hp : ∀ d ∈ l, Tm.proper d.cl = true) (hlen : l.length ≤ 1000000) :
    Calls Try.prog 45 #[sv] w (GivesS w l) := by
  have c1 := renum_any 67 #[] id l sv w hl hp hlen (same_num w)
  rw [map_num_id] at c1
  obtain ⟨a, m, rfl, hlen'⟩ := hl.isSlice
  clear hl hp hlen'
  go_enter Try.func45, Try.ntmps45
  go_wp2_with fail
  refine c1.mono ?_
  rintro e w1 ⟨v1, rfl, hb1, M⟩
  obtain ⟨a3, m3, rfl⟩ := M.isSlice
  have HX := Lib.hid (And.intro hb1 M)
  clear hb1 M c1
  go_wp2_with fail
  go_ret
  exact ⟨_, rfl, HX.out.1, HX.out.2⟩

/-- the numbers n and n + 1, exchanged -/
def swp (n : Int) (c : Int) : Int := if c = n then n + 1 else if c = n + 1 then n else c
set_option maxHeartbeats 400000 in
set_option maxRecDepth 100000 in
theorem swap_num (w : World) (B : Nat) (n : Int) (hB : w.heap[B]? = some (.cells #[.int .i64 n] 3 (0, 0))) (h0 : 0 ≤ n) (h1 : n ≤ 1000000) : NumF w 38 #[.pointer (some ⟨B, 0, none⟩)] (swp n) := by
  refine ⟨fun args w => by simp [go_sem], fun c c0 c1 => by unfold swp; constructor <;> (split; omega; split <;> omega), fun c w1 c0 c1 hb => ?_⟩
  have hx := cell_in (heap_kept hb hB) 0 _ rfl
  have hsum : IntKind.i64.wrap (n + 1) = n + 1 := IntWalk.i64_in _ (by omega)
  have hs : (#[Value.int .i64 c] ++ #[.pointer (some ⟨B, 0, none⟩)] : Array Value) = #[.int .i64 c, .pointer (some ⟨B, 0, none⟩)] := rfl
  rw [hs]
  unfold swp
  clear hs hb hB
  by_cases e1 : c = n
  · subst e1
    rw [if_pos rfl]
    go_enter Try.func38, Try.ntmps38
    go_wp2_with fail
    go_ret
    exact ⟨rfl, rfl⟩
  · rw [if_neg e1]
    have e1' : (c == n) = false := by simpa using e1
    by_cases e2 : c = n + 1
    · rw [if_pos e2]
      have e2' : (c == n + 1) = true := by simpa using e2
      clear e1
      go_enter Try.func38, Try.ntmps38
      go_wp2_with fail
      go_ret
      exact ⟨rfl, rfl⟩
    · rw [if_neg e2]
      have e2' : (c == n + 1) = false := by simpa using e2
      go_enter Try.func38, Try.ntmps38
      go_wp2_with fail
      go_ret
      exact ⟨rfl, rfl⟩
end Go.Proofs.Yteoheeddjddekaa

namespace Go.Proofs.Yteoheeddjddekaa
open Go.RowKit Go.Maps Go.WideMaps
set_option linter.unusedSimpArgs false
set_option linter.unusedVariables false

theorem formed_proper {l : List Dc} (h : Sg.formed l = true) : ∀ x ∈ l, Tm.proper x.cl = true := by
  unfold Sg.formed at h
  simp only [Bool.and_eq_true] at h
  have := nextTo_proper l l.length (Nat.le_refl _) h.1.2
  rwa [List.take_length] at this
theorem formed_len {l : List Dc} (h : Sg.formed l = true) : l.length ≤ 100 := by
  unfold Sg.formed at h
  simp only [Bool.and_eq_true, decide_eq_true_eq] at h
  exact h.1.1
theorem formed_nodup {l : List Dc} (h : Sg.formed l = true) : (l.map Dc.nm).Nodup := by
  unfold Sg.formed Sg.once at h
  simp only [Bool.and_eq_true, decide_eq_true_eq] at h
  exact h.2

/-- what checkConstant says -/
def ckOut (l : List Dc) (n : Int) : Int := if Sg.formed l = true then (if n < 0 ∨ (l.length : Int) ≤ n then 6 else 0) else 2
theorem ckOut_no {l : List Dc} {n : Int} (h : Sg.formed l = false) : ckOut l n = 2 := by unfold ckOut; rw [h]; rfl
theorem ckOut_out {l : List Dc} {n : Int} (h : Sg.formed l = true) (h1 : n < 0 ∨ (l.length : Int) ≤ n) : ckOut l n = 6 := by unfold ckOut; rw [if_pos h, if_pos h1]
theorem ckOut_in {l : List Dc} {n : Int} (h : Sg.formed l = true) (h1 : ¬ (n < 0 ∨ (l.length : Int) ≤ n)) : ckOut l n = 0 := by unfold ckOut; rw [if_pos h, if_neg h1]

set_option maxHeartbeats 1000000 in
set_option maxRecDepth 100000 in
theorem ck_any (S : Nat → Prop) (l : List Dc) (n : Int) (sv : Value) (w : World) (hl : DLies w S sv l) :
    Calls Try.prog 35 #[sv, .int .i64 n] w fun e w' => e = .returned (.int .i64 (ckOut l n)) ∧ Below w.heap.size w w' := by
  have call := sgFormed_any S l sv w hl
  obtain ⟨a, m, rfl, hlen⟩ := hl.isSlice
  rcases hf : Sg.formed l with _ | _
  · rw [hf] at call
    rw [ckOut_no hf]
    clear hf
    go_enter Try.func35, Try.ntmps35
    go_wp2_with (go_at_call 24; (with_reducible refine call.mono ?_); rintro e w1 ⟨rfl, hb1⟩)
    go_ret
    exact ⟨rfl, hb1⟩
  · rw [hf] at call
    have cs : n < 0 ∨ (¬ n < 0 ∧ (l.length : Int) ≤ n) ∨ (¬ n < 0 ∧ ¬ (l.length : Int) ≤ n) := by omega
    rcases cs with c | ⟨c, c2⟩ | ⟨c, c2⟩
    · rw [ckOut_out hf (.inl c)]
      clear hf
      go_enter Try.func35, Try.ntmps35
      go_wp2_with (go_at_call 24; (with_reducible refine call.mono ?_); rintro e w1 ⟨rfl, hb1⟩)
      go_ret
      exact ⟨rfl, hb1⟩
    · rw [ckOut_out hf (.inr c2)]
      clear hf
      go_enter Try.func35, Try.ntmps35
      go_wp2_with (go_at_call 24; (with_reducible refine call.mono ?_); rintro e w1 ⟨rfl, hb1⟩)
      go_ret
      exact ⟨rfl, hb1⟩
    · rw [ckOut_in hf (by omega)]
      clear hf
      go_enter Try.func35, Try.ntmps35
      go_wp2_with (go_at_call 24; (with_reducible refine call.mono ?_); rintro e w1 ⟨rfl, hb1⟩)
      go_ret
      exact ⟨rfl, hb1⟩

set_option maxHeartbeats 1000000 in
set_option maxRecDepth 100000 in
theorem sgCheck_any (S : Nat → Prop) (l : List Dc) (sv : Value) (w : World) (hl : DLies w S sv l) :
    Calls Try.prog 15 #[sv] w fun e w' => e = .returned (.int .i64 (if Sg.formed l = true then 0 else 2)) ∧ Below w.heap.size w w' := by
  have call := sgFormed_any S l sv w hl
  obtain ⟨a, m, rfl, hlen⟩ := hl.isSlice
  rcases hf : Sg.formed l with _ | _
  all_goals
    rw [hf] at call
    clear hf
    go_enter Try.func15, Try.ntmps15
    go_wp2_with (go_at_call 24; (with_reducible refine call.mono ?_); rintro e w1 ⟨rfl, hb1⟩)
    go_ret
    exact ⟨rfl, hb1⟩

/-- the class of a constant -/
def clAt (l : List Dc) (i : Nat) : Tm := (l.map Dc.cl).getD i Tm.zero
theorem clAt_get {l : List Dc} {i : Nat} (h : i < l.length) : clAt l i = l[i].cl := by
  unfold clAt
  rw [List.getD_eq_getElem?_getD, List.getElem?_map, List.getElem?_eq_getElem h, Option.map_some, Option.getD_some]
/-- what IsFamily returns -/
def famOut (l : List Dc) (n : Int) : Bool × Int := if ckOut l n = 0 then (Tm.kind (clAt l n.toNat), 0) else (false, ckOut l n)
/-- what Target returns -/
def tarOut (l : List Dc) (n : Int) : Int × Int := if ckOut l n = 0 then (if Tm.kind (clAt l n.toNat) = true then n else (Tm.res (clAt l n.toNat)).1.n, 0) else (0, ckOut l n)
theorem ckOut_zero {l : List Dc} {n : Int} (h : ckOut l n = 0) : Sg.formed l = true ∧ ∃ i : Nat, n = i ∧ i < l.length := by
  unfold ckOut at h
  split at h
  · rename_i hf
    split at h
    · omega
    · exact ⟨hf, n.toNat, by omega, by omega⟩
  · omega

set_option maxHeartbeats 2000000 in
set_option maxRecDepth 100000 in
theorem isFamily_any (S : Nat → Prop) (l : List Dc) (n : Int) (sv : Value) (w : World) (hl : DLies w S sv l) :
    Calls Try.prog 17 #[sv, .int .i64 n] w fun e w' => e = .returned (.tuple #[.bool (famOut l n).1, .int .i64 (famOut l n).2]) ∧ Below w.heap.size w w' := by
  have call := ck_any S l n sv w hl
  by_cases hc : ckOut l n = 0
  · obtain ⟨hf, i, rfl, hi⟩ := ckOut_zero hc
    have hp := formed_proper hf
    have HE : Hid (famOut l (i : Int) = (Tm.kind l[i].cl, 0)) := Lib.hid (by unfold famOut; rw [if_pos hc, Int.toNat_natCast, clAt_get hi])
    rw [hc] at call
    obtain ⟨ao, bb, off, len, cap, nm, oo, hh, kk, sc, tt, im, rfl, R⟩ := hl
    have hil : i < len := by rw [← R.length]; exact hi
    have hrl := R.hl
    have hrc := R.hr
    obtain rfl := R.hao (by omega)
    have hg := R.get i hil
    rw [hg] at HE
    have hpi : Tm.proper (.mk (oo i) (hh i) (kk i) (tt i)) = true := by have := hp l[i] (List.getElem_mem hi); rwa [hg] at this
    have cK := fun w1 (hb : Below w.heap.size w w1) => isKind_any S (.mk (oo i) (hh i) (kk i) (tt i)) (sc i) w1 ((R.sub i hil).keep hb) hpi
    obtain ⟨a9, n9, m9, hsc⟩ := (R.sub i hil).isSlice
    rw [hsc] at cK
    simp only [Tm.op, Tm.hd, Tm.n] at cK
    have HR := Lib.hid R
    clear R hg hp hpi hf hc hi
    go_enter Try.func17, Try.ntmps17
    go_wp2_with (first
      | (go_at_call 35; (with_reducible refine call.mono ?_); rintro e w1 ⟨rfl, hb1⟩; have HB1 := Lib.hid hb1; obtain ⟨d0, d1, d2, d3, d4, d5, hsub⟩ := HR.out.at hb1 i hil; rw [hsc] at d4; clear hb1 hsub d0 d5)
      | (go_at_call 41; (with_reducible refine (cK _ HB1.out).mono ?_); rintro e w2 ⟨rfl, hb2⟩; have HB2 := Lib.hid (below_next HB1.out hb2); clear hb2)
      | fail)
    go_ret2
    rw [HE.out]
    exact ⟨rfl, HB2.out⟩
  · have HE : Hid (famOut l n = (false, ckOut l n)) := Lib.hid (by unfold famOut; rw [if_neg hc])
    have hc' : (ckOut l n == 0) = false := by simpa using hc
    obtain ⟨a, m, rfl, hlen⟩ := hl.isSlice
    generalize ckOut l n = z at *
    go_enter Try.func17, Try.ntmps17
    go_wp2_with (go_at_call 35; (with_reducible refine call.mono ?_); rintro e w1 ⟨rfl, hb1⟩)
    go_ret2
    rw [HE.out]
    exact ⟨rfl, hb1⟩

set_option maxHeartbeats 2000000 in
set_option maxRecDepth 100000 in
theorem target_any (S : Nat → Prop) (l : List Dc) (n : Int) (sv : Value) (w : World) (hl : DLies w S sv l) :
    Calls Try.prog 18 #[sv, .int .i64 n] w fun e w' => e = .returned (.tuple #[.int .i64 (tarOut l n).1, .int .i64 (tarOut l n).2]) ∧ Below w.heap.size w w' := by
  have call := ck_any S l n sv w hl
  by_cases hc : ckOut l n = 0
  · obtain ⟨hf, i, rfl, hi⟩ := ckOut_zero hc
    have hp := formed_proper hf
    have HE : Hid (tarOut l (i : Int) = (if Tm.kind l[i].cl = true then (i : Int) else (Tm.res l[i].cl).1.n, 0)) := Lib.hid (by unfold tarOut; rw [if_pos hc, Int.toNat_natCast, clAt_get hi])
    rw [hc] at call
    obtain ⟨ao, bb, off, len, cap, nm, oo, hh, kk, sc, tt, im, rfl, R⟩ := hl
    have hil : i < len := by rw [← R.length]; exact hi
    have hrl := R.hl
    have hrc := R.hr
    obtain rfl := R.hao (by omega)
    have hg := R.get i hil
    rw [hg] at HE
    have hpi : Tm.proper (.mk (oo i) (hh i) (kk i) (tt i)) = true := by have := hp l[i] (List.getElem_mem hi); rwa [hg] at this
    have cK := fun w1 (hb : Below w.heap.size w w1) => isKind_any S (.mk (oo i) (hh i) (kk i) (tt i)) (sc i) w1 ((R.sub i hil).keep hb) hpi
    have cR := fun w1 (hb : Below w.heap.size w w1) => result_any S (.mk (oo i) (hh i) (kk i) (tt i)) (sc i) w1 ((R.sub i hil).keep hb) hpi
    obtain ⟨a9, n9, m9, hsc⟩ := (R.sub i hil).isSlice
    rw [hsc] at cK cR
    simp only [Tm.op, Tm.hd, Tm.n] at cK cR
    have HR := Lib.hid R
    clear R hg hp hpi hf hc hi
    generalize Tm.res (.mk (oo i) (hh i) (kk i) (tt i)) = rr at *
    obtain ⟨⟨uo, uh, un, ul⟩, cnt⟩ := rr
    simp only [Tm.op, Tm.hd, Tm.n] at cR HE
    rcases hk : Tm.kind (.mk (oo i) (hh i) (kk i) (tt i)) with _ | _
    · simp only [hk] at cK
      rw [hk] at HE
      clear hk
      go_enter Try.func18, Try.ntmps18
      go_wp2_with (first
        | (go_at_call 35; (with_reducible refine call.mono ?_); rintro e w1 ⟨rfl, hb1⟩; have HB1 := Lib.hid hb1; obtain ⟨d0, d1, d2, d3, d4, d5, hsub⟩ := HR.out.at hb1 i hil; rw [hsc] at d4; clear hb1 hsub d0 d5)
        | (go_at_call 41; (with_reducible refine (cK _ HB1.out).mono ?_); rintro e w2 ⟨rfl, hb2⟩; have HB2 := Lib.hid (below_next HB1.out hb2); clear d1 d2 d3 d4; obtain ⟨d0, d1, d2, d3, d4, d5, hsub⟩ := HR.out.at HB2.out i hil; rw [hsc] at d4; clear hb2 hsub d0 d5)
        | (go_at_call 42; (with_reducible refine (cR _ HB2.out).mono ?_); rintro e w3 ⟨b3, rfl, hb3, hl3⟩; obtain ⟨a5, n5, m5, rfl⟩ := hl3.isSlice; have HB3 := Lib.hid (below_next HB2.out hb3); clear hb3 hl3 d1 d2 d3 d4)
        | fail)
      go_ret2
      rw [HE.out]
      exact ⟨rfl, HB3.out.trans ((one_below w3 _).mono HB3.out.size)⟩
    · simp only [hk] at cK
      rw [hk] at HE
      clear hk
      go_enter Try.func18, Try.ntmps18
      go_wp2_with (first
        | (go_at_call 35; (with_reducible refine call.mono ?_); rintro e w1 ⟨rfl, hb1⟩; have HB1 := Lib.hid hb1; obtain ⟨d0, d1, d2, d3, d4, d5, hsub⟩ := HR.out.at hb1 i hil; rw [hsc] at d4; clear hb1 hsub d0 d5)
        | (go_at_call 41; (with_reducible refine (cK _ HB1.out).mono ?_); rintro e w2 ⟨rfl, hb2⟩; have HB2 := Lib.hid (below_next HB1.out hb2); clear hb2)
        | fail)
      go_ret2
      rw [HE.out]
      exact ⟨rfl, HB2.out⟩
  · have HE : Hid (tarOut l n = (0, ckOut l n)) := Lib.hid (by unfold tarOut; rw [if_neg hc])
    have hc' : (ckOut l n == 0) = false := by simpa using hc
    obtain ⟨a, m, rfl, hlen⟩ := hl.isSlice
    generalize ckOut l n = z at *
    go_enter Try.func18, Try.ntmps18
    go_wp2_with (go_at_call 35; (with_reducible refine call.mono ?_); rintro e w1 ⟨rfl, hb1⟩)
    go_ret2
    rw [HE.out]
    exact ⟨rfl, hb1⟩
end Go.Proofs.Yteoheeddjddekaa

namespace Go.Proofs.Yteoheeddjddekaa
open Go.RowKit Go.Maps Go.WideMaps
set_option linter.unusedSimpArgs false
set_option linter.unusedVariables false

/-- where a name stands -/
def posOf (l : List Dc) (s : ByteArray) : Option Nat := l.findIdx? (fun d => decide (d.nm = s))
theorem posOf_some {l : List Dc} {s : ByteArray} {i : Nat} (h : posOf l s = some i) : ∃ hi : i < l.length, l[i].nm = s := by
  unfold posOf at h
  rw [List.findIdx?_eq_some_iff_getElem] at h
  obtain ⟨hi, e, _⟩ := h
  exact ⟨hi, of_decide_eq_true e⟩
theorem posOf_none {l : List Dc} {s : ByteArray} (h : posOf l s = none) : ¬ s ∈ l.map Dc.nm := by
  unfold posOf at h
  rw [List.findIdx?_eq_none_iff] at h
  intro hm
  obtain ⟨x, hx, e⟩ := List.mem_map.1 hm
  have := h x hx
  rw [decide_eq_true e] at this
  cases this
/-- what Find returns -/
def findOut (l : List Dc) (s : ByteArray) : Int × Int := if Sg.formed l = true then (match posOf l s with | some i => ((i : Int), 0) | none => (0, 6)) else (0, 2)

theorem zeroInt (w : World) : (zeroValue 3).run Try.prog w = .ok (.int .i64 0) w := by kernel_rfl

set_option maxHeartbeats 2000000 in
set_option maxRecDepth 100000 in
theorem find_any (S : Nat → Prop) (l : List Dc) (s : ByteArray) (hs : s.size ≤ 140737488351232) (sv : Value) (w : World) (hl : DLies w S sv l) :
    Calls Try.prog 16 #[sv, .string s] w fun e w' => e = .returned (.tuple #[.int .i64 (findOut l s).1, .int .i64 (findOut l s).2]) ∧ Below w.heap.size w w' := by
  have call := sgFormed_any S l sv w hl
  rcases hf : Sg.formed l with _ | _
  · have HE : Hid (findOut l s = (0, 2)) := Lib.hid (by unfold findOut; rw [hf]; rfl)
    obtain ⟨a, m, rfl, hlen⟩ := hl.isSlice
    rw [hf] at call
    clear hf
    go_enter Try.func16, Try.ntmps16
    go_wp2_with (go_at_call 24; (with_reducible refine call.mono ?_); rintro e w1 ⟨rfl, hb1⟩)
    go_ret2
    rw [HE.out]
    exact ⟨rfl, hb1⟩
  · have hl100 := formed_len hf
    have hnd := formed_nodup hf
    have cP := fun w1 (hb : Below w.heap.size w w1) => positions_any (H := Unit) S l sv w1 (hl.keep hb) (by omega)
    have HKEY : Hid (keyOf Try.prog 9 (.string s) = some (.string s.data.toList)) := Lib.hid (keyOf_string_mk Try.underlying9 (by unfold maxLen; omega))
    rw [hf] at call
    rcases hp : posOf l s with _ | i
    · have HE : Hid (findOut l s = (0, 6)) := Lib.hid (by unfold findOut; rw [if_pos hf, hp])
      have hno := posOf_none hp
      have HH : Hid (Maps.has (Sg.posD l l.length : DataW Unit) (.string s.data.toList) = false) := Lib.hid (by
        rw [Bool.eq_false_iff]
        intro h
        have := (Sg.has_posD l s l.length (Nat.le_refl _)).1 h
        rw [List.take_length] at this
        exact hno this)
      obtain ⟨a, m, rfl, hlen⟩ := hl.isSlice
      clear hf hp hno hnd
      go_enter Try.func16, Try.ntmps16
      go_wp2_with (first
        | (go_at_call 24; (with_reducible refine call.mono ?_); rintro e w1 ⟨rfl, hb1⟩; have HB1 := Lib.hid hb1; clear hb1)
        | (go_at_call 40; (with_reducible refine (cP _ HB1.out).mono ?_); rintro e w4 ⟨B, rfl, hB, hown, hb4⟩; have HO := Lib.hid hown; have HB4 := Lib.hid (below_next HB1.out hb4); clear hown hb4)
        | (at_lookup; refine wpList_lookup_own_ok_int _ rfl _ _ 73 rfl 9 3 .i64 sgMap_law Try.underlying73 Try.underlying3 (zeroInt _) B l.length _ rfl HO.out _ _ rfl HKEY.out ?_; intro c hat hwc; rw [HH.out])
        | fail)
      go_ret2
      rw [HE.out]
      exact ⟨rfl, HB4.out⟩
    · have HE : Hid (findOut l s = ((i : Int), 0)) := Lib.hid (by unfold findOut; rw [if_pos hf, hp])
      obtain ⟨hi, hin⟩ := posOf_some hp
      have HH : Hid (Maps.has (Sg.posD l l.length : DataW Unit) (.string s.data.toList) = true) := Lib.hid (by
        rw [Sg.has_posD l s l.length (Nat.le_refl _), List.take_length]
        exact List.mem_map.2 ⟨l[i], List.getElem_mem hi, hin⟩)
      have HA : Hid (∀ z, (Sg.posD l l.length : DataW Unit).atKey (.string s.data.toList) z = .lit (.int .i64 i)) := Lib.hid (fun z => Sg.atKey_posD l s z l.length (Nat.le_refl _) (by rw [List.take_length]; exact hnd) i hi hi hin)
      obtain ⟨a, m, rfl, hlen⟩ := hl.isSlice
      clear hf hp hin hnd
      go_enter Try.func16, Try.ntmps16
      go_wp2_with (first
        | (go_at_call 24; (with_reducible refine call.mono ?_); rintro e w1 ⟨rfl, hb1⟩; have HB1 := Lib.hid hb1; clear hb1)
        | (go_at_call 40; (with_reducible refine (cP _ HB1.out).mono ?_); rintro e w4 ⟨B, rfl, hB, hown, hb4⟩; have HO := Lib.hid hown; have HB4 := Lib.hid (below_next HB1.out hb4); clear hown hb4)
        | (at_lookup; refine wpList_lookup_own_ok_int _ rfl _ _ 73 rfl 9 3 .i64 sgMap_law Try.underlying73 Try.underlying3 (zeroInt _) B l.length _ rfl HO.out _ _ rfl HKEY.out ?_; intro c hat hwc; rw [HH.out]; rw [HA.out] at hat; have HAT := Lib.hid hat; clear hat hwc)
        | fail)
      go_ret2
      rw [HE.out]
      have e := HAT.out
      simp only [DataW.lit.injEq, Lit.int.injEq, true_and] at e
      subst e
      exact ⟨rfl, HB4.out⟩
end Go.Proofs.Yteoheeddjddekaa
