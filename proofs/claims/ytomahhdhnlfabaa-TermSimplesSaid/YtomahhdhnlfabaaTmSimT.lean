/- The contract of simpleType. -/
import Derived.Test.YtomahhdhnlfabaaTmSimR
import Derived.Test.YtomahhdhnlfabaaSmInsW
namespace Go.Proofs.Ytomahhdhnlfabaa
open Go.RowKit
set_option linter.unusedSimpArgs false
set_option linter.unusedVariables false

/-- a simple type in a row of the call's own, and whether there is one -/
def GivesB (w : World) (r : Option Sp.Tm) (e : Ending) (w' : World) : Prop :=
  ∃ v, e = .returned (.tuple #[.agg #[v, .int .i64 (spOf r).n], .bool r.isSome]) ∧ Below w.heap.size w w' ∧ Sp.Built w' w.heap.size (w.heap.size ≤ ·) 27 v (spOf r).args ∧ ((spOf r).args = [] → v = .slice none 0 0)

set_option maxHeartbeats 1000000 in
set_option maxRecDepth 100000 in
theorem insert_nil (base : Nat) (S : Nat → Prop) (x : Sp.Tm) (xv : Value) (vb : Nat) (w : World) (hb : base ≤ w.heap.size)
    (hx : Sp.Lies w S xv x.args) (hf : x.fit) (hvb : w.heap[vb]? = some (.cells #[xv, .int .i64 x.n] 27 (0, 0))) :
    Calls Try.prog 89 #[.slice none 0 0, .int .i64 0, .slice (some ⟨vb, 0, none⟩) 1 1] w (Sp.GivesIns w base S 27 (.slice none 0 0) [x]) := by
  obtain ⟨i0, hi0, hz0, hz1, hz2⟩ := info_parts Sp.sm_info
  have hx1 : xv.oneCell' = true := by obtain ⟨a, n, m, e⟩ := hx.isSlice; rw [e]; rfl
  have HX := Lib.hid hx
  have HV := Lib.hid hvb
  have HI0 := Lib.hid hi0
  have HZ0 := Lib.hid hz0
  have H1 := Lib.hid hx1
  clear hx hvb hi0 hz0 hx1
  go_enter Try.func89, Try.ntmps89
  go_wp2_with (at_builtin; refine wpList_append_lies _ (by rfl) _ _ _ (by rfl) base 27 i0 _ 2 32 Sp.il_underlying HI0.out HZ0.out hz1 hz2 rfl (by omega) (.slice none 0 0) 0 [] (by rfl) (World.ownsRow_nil _ _ _ _) ⟨vb, 0, none⟩ 1 1 [xv, .int .i64 x.n] (by rfl) (by rfl) (World.news_of_block (cs := #[xv, .int .i64 x.n]) (t := 27) (fr := (0, 0)) HV.out) (by intro u hu; simp at hu; rcases hu with rfl | rfl; exact H1.out; rfl) (by omega) (by unfold maxLen; omega) (by omega) hb _ rfl ?_; intro g cap3 w3 hown3 hgrow3 hat3 hlt3)
  go_ret
  have hat : w.heap.size ≤ g := by
    rcases hat3 with h | h
    · simp [Value.ownBlock] at h
    · omega
  refine ⟨_, rfl, ?_, hgrow3, .inr ⟨g, by simp [Value.ownBlock], hat⟩⟩
  refine Sp.Built.of (v := .slice none 0 0) (w := w) (vs := [xv]) rfl rfl (fun i h h' => ?_) (fun t ht => by simp at ht; rw [ht]; exact hf) (by simpa [Sp.flat] using hown3) (fun k hk hne => hgrow3.block k hk hne) (.inr hat)
  obtain rfl : i = 0 := by simpa using h
  exact HX.out.more fun b _ hS => ⟨hS, by simp [Value.ownBlock]⟩

/-- one simple type ahead of those of a row of the call's own, whether there are some or none -/
theorem insert_all (base : Nat) (S : Nat → Prop) (v : Value) (ts : List Sp.Tm) (x : Sp.Tm) (xv : Value) (vb : Nat) (w : World) (H : Sp.Built w base S 27 v ts) (h0 : ts = [] → v = .slice none 0 0) (hn : ts.length ≤ 1000000) (hb : base ≤ w.heap.size)
    (hx : Sp.Lies w (fun b => S b ∧ v.ownBlock ≠ some b) xv x.args) (hf : x.fit) (hvb : w.heap[vb]? = some (.cells #[xv, .int .i64 x.n] 27 (0, 0))) (hne : v.ownBlock ≠ some vb) :
    Calls Try.prog 89 #[v, .int .i64 0, .slice (some ⟨vb, 0, none⟩) 1 1] w (Sp.GivesIns w base S 27 v (x :: ts)) := by
  by_cases he : ts = []
  · subst he
    obtain rfl := h0 rfl
    exact insert_nil base S x xv vb w hb (hx.more fun b _ hS => hS.1) hf hvb
  · obtain ⟨a, n, m, rfl⟩ := H.isSlice
    have : ts.length = n := H.len
    exact Sp.insert_any base S a n m ts x xv vb w H he (by omega) hb hx hf hvb hne

set_option maxHeartbeats 1000000 in
set_option maxRecDepth 100000 in
theorem simT_con (o n : Int) (v : Value) (l : List Tm) (w : World) (S : Nat → Prop) (hv : Lies w S v l) (ho : (o == 2) = false) :
    Calls Try.prog 45 #[.agg #[.int .i64 o, .int .i64 2, .int .i64 n, v]] w (GivesB w (some (.mk n []))) := by
  obtain ⟨a2, n2, m2, rfl⟩ := hv.isSlice
  clear hv
  go_enter Try.func45, Try.ntmps45
  go_wp2
  refine bodyPost_ret (v := .tuple #[.agg #[.slice none 0 0, .int .i64 n], .bool true]) (by simp [results, Try.results45, go_sem]) rfl ?_
  exact ⟨_, rfl, two_below _ _ _, Sp.Built.nil _ _ _ _, fun _ => rfl⟩

set_option maxHeartbeats 1000000 in
set_option maxRecDepth 100000 in
theorem simT_no (o h n : Int) (v : Value) (l : List Tm) (w : World) (S : Nat → Prop) (hv : Lies w S v l) (e2 : (o == 2) = false) (e4 : (h != 2) = true) :
    Calls Try.prog 45 #[.agg #[.int .i64 o, .int .i64 h, .int .i64 n, v]] w (GivesB w none) := by
  obtain ⟨a2, n2, m2, rfl⟩ := hv.isSlice
  clear hv
  go_enter Try.func45, Try.ntmps45
  go_wp2
  refine bodyPost_ret (v := .tuple #[.agg #[.slice none 0 0, .int .i64 0], .bool false]) (by simp [results, Try.results45, go_sem]) rfl ?_
  exact ⟨_, rfl, two_below _ _ _, Sp.Built.nil _ _ _ _, fun _ => rfl⟩

/-- the two parts' simple types, by their numbers and lists -/
theorem simp_two (a b : Tm) : ∃ (n1 n2 : Int) (l1 l2 : List Sp.Tm) (k1 k2 : Bool), spOf (Tm.simp a) = .mk n1 l1 ∧ spOf (Tm.simp b) = .mk n2 l2 ∧ (Tm.simp a).isSome = k1 ∧ (Tm.simp b).isSome = k2 ∧
    (k1 = true → Tm.simp a = some (.mk n1 l1)) ∧ (k2 = true → Tm.simp b = some (.mk n2 l2)) ∧
    (Tm.simpJ (Tm.simp a) (Tm.simp b) = if k1 = true ∧ k2 = true then some (.mk n2 (.mk n1 l1 :: l2)) else (none : Option Sp.Tm)) := by
  rcases Tm.simp a with _ | ⟨n1, l1⟩ <;> rcases Tm.simp b with _ | ⟨n2, l2⟩
  · exact ⟨0, 0, [], [], false, false, rfl, rfl, rfl, rfl, by simp, by simp, by simp [Tm.simpJ]⟩
  · exact ⟨0, n2, [], l2, false, true, rfl, rfl, rfl, rfl, by simp, by simp, by simp [Tm.simpJ]⟩
  · exact ⟨n1, 0, l1, [], true, false, rfl, rfl, rfl, rfl, by simp, by simp, by simp [Tm.simpJ]⟩
  · exact ⟨n1, n2, l1, l2, true, true, rfl, rfl, rfl, rfl, by simp, by simp, by simp [Tm.simpJ, Sp.Tm.n, Sp.Tm.args]⟩

set_option maxHeartbeats 4000000 in
set_option maxRecDepth 100000 in
theorem simT_walk (S : Nat → Prop) (f : Nat) (ih : ∀ (o h n : Int) (v : Value) (l : List Tm) (w : World) (d : Nat), Tm.sz (.mk o h n l) ≤ f → Tm.sz (.mk o h n l) ≤ 600 → Lies w S v l → Tm.formed (.mk o h n l) d = true →
      Calls Try.prog 45 #[.agg #[.int .i64 o, .int .i64 h, .int .i64 n, v]] w (GivesB w (Tm.simp (.mk o h n l))))
    (h n : Int) (v : Value) (l : List Tm) (w : World) (d : Nat) (hf : Tm.sz (.mk 2 h n l) ≤ f + 1) (h6 : Tm.sz (.mk 2 h n l) ≤ 600) (hv : Lies w S v l) (hw : Tm.formed (.mk 2 h n l) d = true) :
    Calls Try.prog 45 #[.agg #[.int .i64 2, .int .i64 h, .int .i64 n, v]] w (GivesB w (Tm.simp (.mk 2 h n l))) := by
  obtain ⟨a, b, rfl, ha, hb⟩ := Tm.formed_pi hw
  rw [Tm.simp_pi]
  obtain ⟨ad, bb, off, len, cap, oo, hh, kk, sv, tt, rfl, R⟩ := hv.open
  obtain rfl : 2 = len := R.length
  obtain rfl := R.hao (by omega)
  have ea : a = .mk (oo 0) (hh 0) (kk 0) (tt 0) := R.get 0 (by omega)
  have eb : b = .mk (oo 1) (hh 1) (kk 1) (tt 1) := R.get 1 (by omega)
  have h2 := two_below w (.cells #[.int .i64 2, .int .i64 h, .int .i64 n, .slice (some ⟨bb, off, none⟩) 2 cap] 24) (.cells #[.slice none 0 0, .int .i64 0] 27)
  have hk2 := two_blocks w #[.int .i64 2, .int .i64 h, .int .i64 n, .slice (some ⟨bb, off, none⟩) 2 cap] #[.slice none 0 0, .int .i64 0] 24 27
  have hsza : Tm.sz a ≤ f ∧ Tm.sz a ≤ 600 := by simp only [Tm.sz, Tm.szL] at hf h6; omega
  have hszb : Tm.sz b ≤ f ∧ Tm.sz b ≤ 600 := by simp only [Tm.sz, Tm.szL] at hf h6; omega
  obtain ⟨d0, d1, d2, d3, hs0⟩ := R.at h2 0 (by omega)
  simp only [Nat.zero_mul, Nat.add_zero] at d0 d1 d2 d3
  obtain ⟨a6, n6, m6, hsv0⟩ := hs0.isSlice
  rw [hsv0] at d3 hs0
  have c1 := fun w1 hb1 => ih (oo 0) (hh 0) (kk 0) _ (tt 0) w1 (d + 1) (by rw [← ea]; exact hsza.1) (by rw [← ea]; exact hsza.2) (hs0.keep (w' := w1) hb1) (by rw [← ea]; exact ha)
  rw [← ea] at c1
  obtain ⟨a7, n7, m7, hsv1⟩ := (R.sub 1 (by omega)).isSlice
  have c2 := fun w1 hb1 => ih (oo 1) (hh 1) (kk 1) _ (tt 1) w1 (d + 1) (by rw [← eb]; exact hszb.1) (by rw [← eb]; exact hszb.2) ((R.sub 1 (by omega)).keep (w' := w1) hb1) (by rw [← eb]; exact hb)
  rw [← eb, hsv1] at c2
  have R1 := fun w1 hb1 => R.at (wr := w1) hb1 1 (by omega)
  rw [hsv1] at R1
  have hfa := fun s hs => Tm.simp_fit a (d + 1) ha s hs
  have hfb := fun s hs => Tm.simp_fit b (d + 1) hb s hs
  obtain ⟨n1, n2, l1, l2, k1, k2, e1, e2, e3, e4, e5, e6, e7⟩ := simp_two a b
  rw [e7]
  unfold GivesB at c1 c2
  simp only [e1, e2, e3, e4, Sp.Tm.n, Sp.Tm.args] at c1 c2
  have R1H := Lib.hid R1
  have H2 := Lib.hid h2
  have HK2 := Lib.hid hk2
  have HSZ := Lib.hid (And.intro hsza.2 hszb.2)
  have HFA := Lib.hid hfa
  have HFB := Lib.hid hfb
  have HE5 := Lib.hid e5
  have HE6 := Lib.hid e6
  clear R1 h2 hk2 ea eb ha hb hsza hszb hs0 hsv0 hsv1 R hv ih hf h6 hw e1 e2 e3 e4 e5 e6 e7 hfa hfb
  cases k1 <;> cases k2
  all_goals
    go_enter Try.func45, Try.ntmps45
    go_wp2_with fail
    refine (c1 _ (Below.refl _ _)).mono ?_
    rintro e w2 ⟨v1, rfl, hb1, B1, hn1⟩
    obtain ⟨a8, n8, m8, rfl⟩ := B1.isSlice
    have hbA := H2.out.trans (hb1.mono H2.out.size)
    have hbA' := hbA.alloc hbA.size (.cells #[.slice a8 n8 m8, .int .i64 n1] 27)
    obtain ⟨g0, g1, g2, g3, _⟩ := R1H.out _ hbA'
    simp only [Nat.one_mul] at g0 g1 g2 g3
    obtain ⟨q0, q1, q2, q3⟩ := c4_of (heap_kept (one_below w2 (.cells #[.slice a8 n8 m8, .int .i64 n1] 27)) (heap_kept hb1 HK2.out.1))
    have HB1 := Lib.hid B1
    have HN1 := Lib.hid hn1
    clear B1 hn1
    go_wp2_with fail
    refine (c2 _ hbA').mono ?_
    rintro e w3 ⟨v2, rfl, hb2, B2, hn2⟩
    obtain ⟨a9, n9, m9, rfl⟩ := B2.isSlice
    have hz2 := heap_alloc_new w2 (.cells #[.slice a8 n8 m8, .int .i64 n1] 27)
    have hz3 := heap_kept (one_below w3 (.cells #[.slice a9 n9 m9, .int .i64 n2] 27)) (heap_kept hb2 hz2)
    obtain ⟨t0, t1, _, _⟩ := cells2_of hz3
    have hzr := heap_kept (one_below w3 (.cells #[.slice a9 n9 m9, .int .i64 n2] 27)) (heap_kept hb2 (heap_kept (one_below w2 (.cells #[.slice a8 n8 m8, .int .i64 n1] 27)) (heap_kept hb1 HK2.out.2)))
    obtain ⟨y0, y1, f0, f1⟩ := cells2_of hzr
    have hbB := hbA'.trans (hb2.mono hbA'.size)
    have HB2 := Lib.hid B2
    have HN2 := Lib.hid hn2
    have HZ3 := Lib.hid hz3
    have HZR := Lib.hid hzr
    clear B2 hn2 hz3 hzr hz2
  · go_wp2
    have hz := set2_at HZR.out (.slice none 0 0) (.int .i64 0)
    obtain ⟨z0, z1, _, _⟩ := cells2_of hz
    refine bodyPost_ret (v := .tuple #[.agg #[.slice none 0 0, .int .i64 0], .bool false]) (by simp [results, Try.results45, go_sem, z0, z1]) rfl ?_
    exact ⟨_, rfl, ((hbB.alloc hbB.size _).setCell (by simp) _).setCell (by simp) _, Sp.Built.nil _ _ _ _, fun _ => rfl⟩
  · go_wp2
    have hz := set2_at HZR.out (.slice none 0 0) (.int .i64 0)
    obtain ⟨z0, z1, _, _⟩ := cells2_of hz
    refine bodyPost_ret (v := .tuple #[.agg #[.slice none 0 0, .int .i64 0], .bool false]) (by simp [results, Try.results45, go_sem, z0, z1]) rfl ?_
    exact ⟨_, rfl, ((hbB.alloc hbB.size _).setCell (by simp) _).setCell (by simp) _, Sp.Built.nil _ _ _ _, fun _ => rfl⟩
  · go_wp2
    have hz := set2_at HZR.out (.slice none 0 0) (.int .i64 0)
    obtain ⟨z0, z1, _, _⟩ := cells2_of hz
    refine bodyPost_ret (v := .tuple #[.agg #[.slice none 0 0, .int .i64 0], .bool false]) (by simp [results, Try.results45, go_sem, z0, z1]) rfl ?_
    exact ⟨_, rfl, ((hbB.alloc hbB.size _).setCell (by simp) _).setCell (by simp) _, Sp.Built.nil _ _ _ _, fun _ => rfl⟩
  · have hfx := HFA.out (.mk n1 l1) (by simpa using HE5.out)
    have hfy := HFB.out (.mk n2 l2) (by simpa using HE6.out)
    have hsz := HSZ.out
    have hbC := hbB.alloc hbB.size (.cells #[.slice a9 n9 m9, .int .i64 n2] 27)
    have hY : Below w3.heap.size w3 ((w3.alloc (.cells #[.slice a9 n9 m9, .int .i64 n2] 27)).alloc (.cells #[.slice a8 n8 m8, .int .i64 n1] 27)) := two_below _ _ _
    have hYk := two_blocks w3 #[.slice a9 n9 m9, .int .i64 n2] #[.slice a8 n8 m8, .int .i64 n1] 27 27
    have s1 := H2.out.size
    have s2 := hb1.size
    have s3 := hb2.size
    simp at s2 s3
    have hown := HB2.out.lt
    have hlY : Sp.Lies ((w3.alloc (.cells #[.slice a9 n9 m9, .int .i64 n2] 27)).alloc (.cells #[.slice a8 n8 m8, .int .i64 n1] 27)) (fun b => (w.heap.size + 1 + 1 ≤ b ∧ b ≠ w3.heap.size) ∧ (Value.slice a9 n9 m9).ownBlock ≠ some b) (.slice a8 n8 m8) l1 := by
      have h1 := (HB1.out.lies (fun b h _ => h)).more (S' := fun b => w.heap.size + 1 + 1 ≤ b ∧ b < w2.heap.size) fun b hlt hS => ⟨by simp at hS; omega, hlt⟩
      exact (((h1.keep (one_below _ _)).keep hb2).keep hY).more fun b _ hS => ⟨⟨hS.1, by omega⟩, fun e => by have := (hown b e).1; simp at this; omega⟩
    have hszl : l2.length ≤ 1000000 := by
      have h1 := hfy.2.2
      have h2 := Sp.Tm.length_le_szL l2
      simp only [Sp.Tm.sz] at h1
      omega
    have c3 := insert_all (w.heap.size + 1 + 1) (fun b => w.heap.size + 1 + 1 ≤ b ∧ b ≠ w3.heap.size) (.slice a9 n9 m9) l2 (.mk n1 l1) (.slice a8 n8 m8) (w3.heap.size + 1) _ ((HB2.out.low (base' := w.heap.size + 1 + 1) (by simp; omega) (S' := fun b => w.heap.size + 1 + 1 ≤ b ∧ b ≠ w3.heap.size) (fun b hlt hS => by simp at hS; omega)).below hY) HN2.out hszl (by simp; omega) hlY ⟨by have := hfx.1; omega, by have := hfx.2.1; omega⟩ hYk.2 (fun e => by have := (hown _ e).2; omega)
    unfold Sp.GivesIns at c3
    have hYr := (hY.block (w.heap.size + 1) (by omega)).trans ((hb2.block (w.heap.size + 1) (by simp; omega)).trans (((one_below w2 (.cells #[.slice a8 n8 m8, .int .i64 n1] 27)).block (w.heap.size + 1) (by omega)).trans ((hb1.block (w.heap.size + 1) (by simp)).trans HK2.out.2)))
    have HY1 := Lib.hid hYk.1
    have HYR := Lib.hid hYr
    have HOW := Lib.hid hown
    clear hYk hYr hown hlY hszl hfx hfy hsz
    go_wp2_with fail
    refine c3.mono ?_
    rintro e w5 ⟨v5, rfl, B5, hg5, ho5⟩
    have hx5 : w5.heap[w3.heap.size]? = _ := (hg5.block w3.heap.size (by simp; omega) (fun e => by have := (HOW.out _ e.symm).2; omega)).trans HY1.out
    have hr5 : w5.heap[w.heap.size + 1]? = _ := (hg5.block (w.heap.size + 1) (by simp; omega) (fun e => by have := (HOW.out _ e.symm).1; simp at this; omega)).trans HYR.out
    obtain ⟨x0, x1, xf0, xf1⟩ := cells2_of hx5
    obtain ⟨y0', y1', yf0, yf1⟩ := cells2_of hr5
    obtain ⟨a5, n5, m5, rfl⟩ := B5.isSlice
    have hne5 : ∀ k, (Value.slice a5 n5 m5).ownBlock = some k → k ≠ w3.heap.size := fun k hk => by
      rcases ho5 with h | ⟨g, hg, hl⟩
      · rw [h] at hk; have := (HOW.out k hk).2; omega
      · rw [hg] at hk; simp at hk; simp at hl; omega
    have HR5 := Lib.hid hr5
    have HB5 := Lib.hid B5
    have HG5 := Lib.hid hg5
    have HYB := Lib.hid (hbB.trans (hY.mono (by omega)))
    have HN5 := Lib.hid hne5
    clear hr5 hx5 B5 hg5 ho5 hne5
    go_wp2
    have hr6 := set2_at ((Below.heap_setCell w5 ⟨w3.heap.size, 0, none⟩ (.slice a5 n5 m5) (w.heap.size + 1) (by simp; omega)).trans HR5.out) (.slice a5 n5 m5) (.int .i64 n2)
    obtain ⟨z0, z1, _, _⟩ := cells2_of hr6
    refine bodyPost_ret (v := .tuple #[.agg #[.slice a5 n5 m5, .int .i64 n2], .bool true]) (by simp [results, Try.results45, go_sem, z0, z1]) rfl ?_
    have hb5 : Below w.heap.size w w5 := HYB.out.grown HG5.out (by simp; omega) (fun k hk => by have := (HOW.out k hk).1; simp at this; omega)
    refine ⟨_, rfl, ((hb5.setCell (by simp; omega) _).setCell (by simp) _).setCell (by simp) _, ?_, fun h => by simp [spOf, Sp.Tm.args] at h⟩
    have hlt5 := HB5.out.lt
    refine (HB5.out.keep fun b hb _ => ?_).low (by omega) (fun b _ hS => by have := hS.1; simp; omega)
    have h1 : b ≠ w3.heap.size ∧ b ≠ w.heap.size + 1 := by
      rcases hb with hb | hb
      · exact ⟨hb.2, by have := hb.1; omega⟩
      · exact ⟨HN5.out b hb, by have := (hlt5 b hb).1; omega⟩
    rw [Below.heap_setCell _ _ _ _ (by simp; omega), Below.heap_setCell _ _ _ _ (by simp; omega), Below.heap_setCell _ _ _ _ (by simp; omega)]

theorem simT_calls (S : Nat → Prop) : ∀ (f : Nat) (o h n : Int) (v : Value) (l : List Tm) (w : World) (d : Nat), Tm.sz (.mk o h n l) ≤ f → Tm.sz (.mk o h n l) ≤ 600 → Lies w S v l → Tm.formed (.mk o h n l) d = true →
      Calls Try.prog 45 #[.agg #[.int .i64 o, .int .i64 h, .int .i64 n, v]] w (GivesB w (Tm.simp (.mk o h n l)))
  | 0, o, h, n, _, l, _, _, hf, _, _, _ => by have := Tm.sz_pos (.mk o h n l); omega
  | f + 1, o, h, n, v, l, w, d, hf, h6, hv, hw => by
    by_cases ho : o = 2
    · subst ho
      exact simT_walk S f (simT_calls S f) h n v l w d hf h6 hv hw
    · have e2 : (o == 2) = false := by simpa using ho
      by_cases hh : h = 2
      · subst hh
        rw [Tm.simp_con o n l ho]
        exact simT_con o n v l w S hv e2
      · rw [Tm.simp_no o h n l ho hh]
        exact simT_no o h n v l w S hv e2 (by simpa using hh)
end Go.Proofs.Ytomahhdhnlfabaa
