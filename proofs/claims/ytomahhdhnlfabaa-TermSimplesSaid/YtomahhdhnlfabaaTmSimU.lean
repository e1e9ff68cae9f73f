/- The contract of the reference's Simple, at TPis and whole; the contract of term.Simple. -/
import Derived.Test.YtomahhdhnlfabaaTmSimT
namespace Go.Proofs.Ytomahhdhnlfabaa
open Go.RowKit
set_option linter.unusedSimpArgs false
set_option linter.unusedVariables false

set_option maxHeartbeats 4000000 in
set_option maxRecDepth 100000 in
theorem simR_walk (S : Nat → Prop) (f : Nat) (ih : ∀ (o h n : Int) (v : Value) (l : List Tm) (w : World) (d : Nat), Tm.sz (.mk o h n l) ≤ f → Tm.sz (.mk o h n l) ≤ 600 → Lies w S v l → Tm.formed (.mk o h n l) d = true →
      Calls Try.prog 17 #[.agg #[.int .i64 o, .int .i64 h, .int .i64 n, v]] w (GivesS w (Tm.simp (.mk o h n l))))
    (h n : Int) (v : Value) (l : List Tm) (w : World) (d : Nat) (hf : Tm.sz (.mk 2 h n l) ≤ f + 1) (h6 : Tm.sz (.mk 2 h n l) ≤ 600) (hv : Lies w S v l) (hw : Tm.formed (.mk 2 h n l) d = true) :
    Calls Try.prog 17 #[.agg #[.int .i64 2, .int .i64 h, .int .i64 n, v]] w (GivesS w (Tm.simp (.mk 2 h n l))) := by
  obtain ⟨a, b, rfl, ha, hb⟩ := Tm.formed_pi hw
  rw [Tm.simp_pi]
  obtain ⟨i0, hi0, hzz0, hz1, hz2⟩ := info_parts Sp.sm_info
  have HI0 := Lib.hid hi0
  have HZ0 := Lib.hid hzz0
  clear hi0 hzz0
  obtain ⟨ad, bb, off, len, cap, oo, hh, kk, sv, tt, rfl, R⟩ := hv.open
  obtain rfl : 2 = len := R.length
  obtain rfl := R.hao (by omega)
  have ea : a = .mk (oo 0) (hh 0) (kk 0) (tt 0) := R.get 0 (by omega)
  have eb : b = .mk (oo 1) (hh 1) (kk 1) (tt 1) := R.get 1 (by omega)
  have h2 := two_below w (.cells #[.int .i64 2, .int .i64 h, .int .i64 n, .slice (some ⟨bb, off, none⟩) 2 cap] 24) (.cells #[.slice none 0 0, .int .i64 0] 27)
  have hk2 := two_blocks w #[.int .i64 2, .int .i64 h, .int .i64 n, .slice (some ⟨bb, off, none⟩) 2 cap] #[.slice none 0 0, .int .i64 0] 24 27
  have hsza : Tm.sz a ≤ f ∧ Tm.sz a ≤ 600 := by simp only [Tm.sz, Tm.szL] at hf h6; omega
  have hszb : Tm.sz b ≤ f ∧ Tm.sz b ≤ 600 := by simp only [Tm.sz, Tm.szL] at hf h6; omega
  obtain ⟨d0, d1, d2, d3, hs0⟩ := R.at h2 0 (by omega)
  simp only [Nat.zero_mul, Nat.add_zero] at d0 d1 d2 d3
  obtain ⟨a6, n6, m6, hsv0⟩ := hs0.isSlice
  rw [hsv0] at d3 hs0
  have c1 := fun w1 hb1 => ih (oo 0) (hh 0) (kk 0) _ (tt 0) w1 (d + 1) (by rw [← ea]; exact hsza.1) (by rw [← ea]; exact hsza.2) (hs0.keep (w' := w1) hb1) (by rw [← ea]; exact ha)
  rw [← ea] at c1
  obtain ⟨a7, n7, m7, hsv1⟩ := (R.sub 1 (by omega)).isSlice
  have c2 := fun w1 hb1 => ih (oo 1) (hh 1) (kk 1) _ (tt 1) w1 (d + 1) (by rw [← eb]; exact hszb.1) (by rw [← eb]; exact hszb.2) ((R.sub 1 (by omega)).keep (w' := w1) hb1) (by rw [← eb]; exact hb)
  rw [← eb, hsv1] at c2
  have R1 := fun w1 hb1 => R.at (wr := w1) hb1 1 (by omega)
  rw [hsv1] at R1
  have hfa := fun s hs => Tm.simp_fit a (d + 1) ha s hs
  have hfb := fun s hs => Tm.simp_fit b (d + 1) hb s hs
  obtain ⟨n1, n2, l1, l2, k1, k2, e1, e2, e3, e4, e5, e6, e7⟩ := simp_two a b
  rw [e7]
  unfold GivesS at c1 c2
  simp only [e1, e2, e3, e4, Sp.Tm.n, Sp.Tm.args] at c1 c2
  have R1H := Lib.hid R1
  have H2 := Lib.hid h2
  have HK2 := Lib.hid hk2
  have HSZ := Lib.hid (And.intro hsza.2 hszb.2)
  have HFA := Lib.hid hfa
  have HFB := Lib.hid hfb
  have HE5 := Lib.hid e5
  have HE6 := Lib.hid e6
  clear R1 h2 hk2 ea eb ha hb hsza hszb hs0 hsv0 hsv1 R hv ih hf h6 hw e1 e2 e3 e4 e5 e6 e7 hfa hfb
  cases k1 <;> cases k2
  all_goals
    go_enter Try.func17, Try.ntmps17
    go_wp2_with fail
    refine (c1 _ (Below.refl _ _)).mono ?_
    rintro e w2 ⟨v1, rfl, hb1, B1⟩
    obtain ⟨a8, n8, m8, rfl⟩ := B1.isSlice
    have hbA := H2.out.trans (hb1.mono H2.out.size)
    have hbA' := hbA.alloc hbA.size (.cells #[.slice a8 n8 m8, .int .i64 n1] 27)
    obtain ⟨g0, g1, g2, g3, _⟩ := R1H.out _ hbA'
    simp only [Nat.one_mul] at g0 g1 g2 g3
    obtain ⟨q0, q1, q2, q3⟩ := c4_of (heap_kept (one_below w2 (.cells #[.slice a8 n8 m8, .int .i64 n1] 27)) (heap_kept hb1 HK2.out.1))
    have HB1 := Lib.hid B1
    clear B1
    go_wp2_with fail
    refine (c2 _ hbA').mono ?_
    rintro e w3 ⟨v2, rfl, hb2, B2⟩
    obtain ⟨a9, n9, m9, rfl⟩ := B2.isSlice
    have hz2 := heap_alloc_new w2 (.cells #[.slice a8 n8 m8, .int .i64 n1] 27)
    have hz3 := heap_kept (one_below w3 (.cells #[.slice a9 n9 m9, .int .i64 n2] 27)) (heap_kept hb2 hz2)
    obtain ⟨t0, t1, _, _⟩ := cells2_of hz3
    have hzr := heap_kept (one_below w3 (.cells #[.slice a9 n9 m9, .int .i64 n2] 27)) (heap_kept hb2 (heap_kept (one_below w2 (.cells #[.slice a8 n8 m8, .int .i64 n1] 27)) (heap_kept hb1 HK2.out.2)))
    obtain ⟨y0, y1, f0, f1⟩ := cells2_of hzr
    have hbB := hbA'.trans (hb2.mono hbA'.size)
    have HB2 := Lib.hid B2
    have HZ3 := Lib.hid hz3
    have HZR := Lib.hid hzr
    clear B2 hz3 hzr hz2
  · go_wp2
    have hz := set2_at HZR.out (.slice none 0 0) (.int .i64 0)
    obtain ⟨z0, z1, _, _⟩ := cells2_of hz
    refine bodyPost_ret (v := .tuple #[.agg #[.slice none 0 0, .int .i64 0], .bool false]) (by simp [results, Try.results17, go_sem, z0, z1]) rfl ?_
    exact ⟨_, rfl, ((hbB.alloc hbB.size _).setCell (by simp) _).setCell (by simp) _, Sp.Lies.nil _ _⟩
  · go_wp2
    have hz := set2_at HZR.out (.slice none 0 0) (.int .i64 0)
    obtain ⟨z0, z1, _, _⟩ := cells2_of hz
    refine bodyPost_ret (v := .tuple #[.agg #[.slice none 0 0, .int .i64 0], .bool false]) (by simp [results, Try.results17, go_sem, z0, z1]) rfl ?_
    exact ⟨_, rfl, ((hbB.alloc hbB.size _).setCell (by simp) _).setCell (by simp) _, Sp.Lies.nil _ _⟩
  · go_wp2
    have hz := set2_at HZR.out (.slice none 0 0) (.int .i64 0)
    obtain ⟨z0, z1, _, _⟩ := cells2_of hz
    refine bodyPost_ret (v := .tuple #[.agg #[.slice none 0 0, .int .i64 0], .bool false]) (by simp [results, Try.results17, go_sem, z0, z1]) rfl ?_
    exact ⟨_, rfl, ((hbB.alloc hbB.size _).setCell (by simp) _).setCell (by simp) _, Sp.Lies.nil _ _⟩
  · have hfx := HFA.out (.mk n1 l1) (by simpa using HE5.out)
    have hfy := HFB.out (.mk n2 l2) (by simpa using HE6.out)
    have hsz := HSZ.out
    have hY : Below w3.heap.size w3 ((w3.alloc (.cells #[.slice a9 n9 m9, .int .i64 n2] 27)).alloc (.cells #[.slice a8 n8 m8, .int .i64 n1] 27)) := two_below _ _ _
    have hYk := two_blocks w3 #[.slice a9 n9 m9, .int .i64 n2] #[.slice a8 n8 m8, .int .i64 n1] 27 27
    have s1 := H2.out.size
    have s2 := hb1.size
    have s3 := hb2.size
    simp at s2 s3
    obtain ⟨ao, b9, off9, len9, cap9, kk9, sv9, ts9, hed, R9⟩ := HB2.out.open
    simp only [Value.slice.injEq] at hed
    obtain ⟨rfl, rfl, rfl⟩ := hed
    have hlen9 := R9.length
    have h1' : Sp.Lies w2 (fun b => w.heap.size + 1 + 1 ≤ b ∧ b < w2.heap.size) (.slice a8 n8 m8) l1 := HB1.out.more fun b hlt hS => ⟨by simp at hS; omega, hlt⟩
    have hlY := ((h1'.keep (one_below _ (.cells #[.slice a8 n8 m8, .int .i64 n1] 27))).keep hb2).keep hY
    have hrow1 : World.ownsRow ((w3.alloc (.cells #[.slice a9 n9 m9, .int .i64 n2] 27)).alloc (.cells #[.slice a8 n8 m8, .int .i64 n1] 27)) (w.heap.size + 1 + 1) 27 2 (.slice (some ⟨w3.heap.size + 1, 0, none⟩) 1 1) 1 [.slice a8 n8 m8, .int .i64 n1] :=
      ⟨rfl, .inr ⟨w3.heap.size + 1, 1, _, rfl, by omega, hYk.2, Nat.le_refl _, by unfold maxLen; omega, rfl, rfl⟩⟩
    have hnews := R9.news hY
    have hszl : n9 ≤ 1000000 := by
      have h1 := hfy.2.2
      have h2 := Sp.Tm.length_le_szL l2
      simp only [Sp.Tm.sz] at h1
      omega
    have HR9 := Lib.hid R9
    have HROW := Lib.hid hrow1
    have HNEWS := Lib.hid hnews
    have HONE := Lib.hid R9.one
    have HLY := Lib.hid hlY
    have HFX := Lib.hid hfx
    have HL9 := Lib.hid hlen9
    have HYR := Lib.hid ((hY.block (w.heap.size + 1) (by omega)).trans ((hb2.block (w.heap.size + 1) (by simp; omega)).trans (((one_below w2 (.cells #[.slice a8 n8 m8, .int .i64 n1] 27)).block (w.heap.size + 1) (by omega)).trans ((hb1.block (w.heap.size + 1) (by simp)).trans HK2.out.2))))
    have HY1 := Lib.hid hYk.1
    have HAO : Hid (a9 = none → n9 = 0) := Lib.hid fun e => by
      rcases Nat.eq_zero_or_pos n9 with h | h
      · exact h
      · have := R9.hao h; rw [e] at this; cases this
    have HLF : Hid ((Sp.flat l2 ((List.range n9).map sv9)).length = n9 * 2) := Lib.hid (by rw [Sp.flat_length _ _ (by simp [hlen9]), hlen9])
    clear R9 hnews hlY h1' hYk hrow1 hfx hfy hsz hlen9
    go_wp2_with (at_builtin; go_loud (refine wpList_append_any (by rfl) _ _ _ (by rfl) (w.heap.size + 1 + 1) 27 i0 _ 2 32 Sp.il_underlying HI0.out HZ0.out hz1 hz2 rfl (by omega) (w3.heap.size + 1) 1 1 [.slice a8 n8 m8, .int .i64 n1] (by rfl) HROW.out a9 n9 m9 (Sp.flat l2 ((List.range n9).map sv9)) (by rfl) HLF.out HAO.out HNEWS.out HONE.out (by unfold maxLen; omega) (by omega) (by simp; omega) ?_; intro g5 cap5 w5 hown5 hgrow5 hat5 hlt5; have hx5 : w5.heap[w3.heap.size]? = _ := (hgrow5.block w3.heap.size (by simp; omega) (by simp)).trans HY1.out; have hr5 : w5.heap[w.heap.size + 1]? = _ := (hgrow5.block (w.heap.size + 1) (by simp; omega) (by simp; omega)).trans HYR.out; obtain ⟨x0, x1, xf0, xf1⟩ := cells2_of hx5; obtain ⟨y0', y1', yf0, yf1⟩ := cells2_of hr5))
    have HR5 := Lib.hid hr5
    have hr6 := set2_at HR5.out (.slice (some ⟨g5, 0, none⟩) (1 + n9) cap5) (.int .i64 n2)
    obtain ⟨z0, z1, _, _⟩ := cells2_of hr6
    have hb5 : Below w.heap.size w w5 := (hbB.trans (hY.mono (by omega))).grown hgrow5 (by simp; omega) (fun k hk => by simp at hk; omega)
    refine bodyPost_ret (v := .tuple #[.agg #[.slice (some ⟨g5, 0, none⟩) (1 + n9) cap5, .int .i64 n2], .bool true]) (by simp [results, Try.results17, go_sem, z0, z1]) rfl ?_
    have hL9 := HL9.out
    have hB : Sp.Built w5 (w.heap.size + 1 + 1) (w.heap.size + 1 + 1 ≤ ·) 27 (.slice (some ⟨g5, 0, none⟩) (1 + n9) cap5) (.mk n1 l1 :: l2) := by
      refine Sp.Built.of (w := (w3.alloc (.cells #[.slice a9 n9 m9, .int .i64 n2] 27)).alloc (.cells #[.slice a8 n8 m8, .int .i64 n1] 27)) (v := .slice (some ⟨w3.heap.size + 1, 0, none⟩) 1 1) (vs := .slice a8 n8 m8 :: (List.range n9).map sv9) (by simp [hL9]; omega) (by simp [hL9]) (fun i h h' => ?_) (fun t ht => ?_) (by simpa [Sp.flat, Sp.Tm.n] using hown5) (fun k hk hne => hgrow5.block k hk (by simpa [Value.ownBlock] using hne)) (by rcases hat5 with h | h; exact .inl (by simp [Value.ownBlock, h]); exact .inr (by omega))
      · cases i with
        | zero => exact HLY.out.more fun b _ hS => ⟨hS.1, by simp [Value.ownBlock]; omega⟩
        | succ i =>
          have hi : i < n9 := by simp at h'; exact h'
          have := ((HR9.out.subs (Below.refl _ _) i (by omega) (by simpa using hi)).more (S' := fun b => w.heap.size + 1 + 1 ≤ b ∧ b < w3.heap.size) (fun b hlt hS => ⟨by simp at hS; omega, hlt⟩)).keep hY
          exact this.more fun b hlt hS => ⟨hS.1, by simp [Value.ownBlock]; omega⟩
      · rcases List.mem_cons.1 ht with rfl | ht
        · exact ⟨by have := HFX.out.1; omega, by have := HFX.out.2.1; omega⟩
        · exact HR9.out.fits t ht
    refine ⟨_, rfl, (hb5.setCell (by simp) _).setCell (by simp) _, ?_⟩
    exact ((hB.keep fun b hb _ => heap_set2 _ _ _ _ (by rcases hb with h | h; omega; have := (hB.lt b h).1; omega)).low (Nat.le_refl _) (S' := (w.heap.size ≤ ·)) (fun b _ h => by omega)).lies (fun b h _ => by omega)

theorem simR_calls (S : Nat → Prop) : ∀ (f : Nat) (o h n : Int) (v : Value) (l : List Tm) (w : World) (d : Nat), Tm.sz (.mk o h n l) ≤ f → Tm.sz (.mk o h n l) ≤ 600 → Lies w S v l → Tm.formed (.mk o h n l) d = true →
      Calls Try.prog 17 #[.agg #[.int .i64 o, .int .i64 h, .int .i64 n, v]] w (GivesS w (Tm.simp (.mk o h n l)))
  | 0, o, h, n, _, l, _, _, hf, _, _, _ => by have := Tm.sz_pos (.mk o h n l); omega
  | f + 1, o, h, n, v, l, w, d, hf, h6, hv, hw => by
    by_cases ho : o = 2
    · subst ho
      exact simR_walk S f (simR_calls S f) h n v l w d hf h6 hv hw
    · have e2 : (o == 2) = false := by simpa using ho
      have hh := hw
      simp only [Tm.formed, Bool.and_eq_true, decide_eq_true_eq] at hh
      have hh' := Tm.headOk_yes _ _ _ _ hh.1.2
      by_cases h2 : h = 2
      · subst h2
        rw [Tm.simp_con o n l ho]
        exact simR_con o n v l w S hv (by omega)
      · rw [Tm.simp_no o h n l ho h2]
        refine simR_no o h n v l w S hv e2 ?_
        by_cases h4 : o = 4
        · exact .inr ⟨h4, by simpa using h2⟩
        · exact .inl (by simpa using h4)

/-- R.Simple of a proper term: its simple type, or none. -/
theorem simR_any (S : Nat → Prop) (o h n : Int) (v : Value) (l : List Tm) (w : World) (hv : Lies w S v l) (hp : Tm.proper (.mk o h n l) = true) :
    Calls Try.prog 17 #[.agg #[.int .i64 o, .int .i64 h, .int .i64 n, v]] w (GivesS w (Tm.simp (.mk o h n l))) := by
  simp only [Tm.proper, Bool.and_eq_true, decide_eq_true_eq] at hp
  exact simR_calls S _ o h n v l w 1 (Nat.le_refl _) hp.1 hv hp.2

/-- what term.Simple returns -/
def simpleOut (t : Tm) : Sp.Tm × Int := if Tm.proper t then (match Tm.simp t with | some s => (s, 0) | none => (.mk 0 [], 22)) else (.mk 0 [], 2)
/-- a simple type in new memory, and an error -/
def GivesSE (w : World) (x : Sp.Tm × Int) (e : Ending) (w' : World) : Prop :=
  ∃ v, e = .returned (.tuple #[.agg #[v, .int .i64 x.1.n], .int .i64 x.2]) ∧ Below w.heap.size w w' ∧ Sp.Lies w' (w.heap.size ≤ ·) v x.1.args

set_option maxHeartbeats 2000000 in
set_option maxRecDepth 100000 in
theorem simple_any (o h n : Int) (v : Value) (l : List Tm) (w : World) (hv : Lies w (fun _ => True) v l) :
    Calls Try.prog 15 #[.agg #[.int .i64 o, .int .i64 h, .int .i64 n, v]] w (GivesSE w (simpleOut (.mk o h n l))) := by
  obtain ⟨a2, n2, m2, rfl⟩ := hv.isSlice
  have h2 := two_below w (.cells #[.int .i64 o, .int .i64 h, .int .i64 n, .slice a2 n2 m2] 24) (.cells #[.slice none 0 0, .int .i64 0] 27)
  have hk2 := Lib.hid (two_blocks w #[.int .i64 o, .int .i64 h, .int .i64 n, .slice a2 n2 m2] #[.slice none 0 0, .int .i64 0] 24 27)
  have c1 := isProper_any o h n _ l _ (hv.keep h2)
  have HV := Lib.hid (hv.keep h2)
  have H2 := Lib.hid h2
  unfold simpleOut
  rcases hp : Tm.proper (.mk o h n l) with _ | _
  · rw [hp] at c1
    simp only [if_false, Bool.false_eq_true]
    clear h2 hv hp
    go_enter Try.func15, Try.ntmps15
    go_wp2_with (go_at_call 44; (with_reducible refine c1.mono ?_); rintro e w1 ⟨rfl, hb1⟩; have hr := heap_kept hb1 hk2.out.2; obtain ⟨y0, y1, f0, f1⟩ := cells2_of hr)
    have hz := set2_at hr (.slice none 0 0) (.int .i64 0)
    obtain ⟨z0, z1, _, _⟩ := cells2_of hz
    refine bodyPost_ret (v := .tuple #[.agg #[.slice none 0 0, .int .i64 0], .int .i64 2]) (by simp [results, Try.results15, go_sem, z0, z1]) rfl ?_
    have B2 := H2.out.trans (hb1.mono H2.out.size)
    exact ⟨_, rfl, (B2.setCell (by simp) _).setCell (by simp) _, Sp.Lies.nil _ _⟩
  · rw [hp] at c1
    simp only [if_true]
    have hpr := hp
    simp only [Tm.proper, Bool.and_eq_true, decide_eq_true_eq] at hpr
    have c2 := fun w1 hb => simT_calls (fun _ => True) _ o h n _ l w1 1 (Nat.le_refl _) hpr.1 (HV.out.keep (w' := w1) hb) hpr.2
    unfold GivesB at c2
    clear h2 hv hp hpr
    rcases hs : Tm.simp (.mk o h n l) with _ | ⟨sn, sl⟩
    all_goals
      rw [hs] at c2
      simp only [spOf, Option.isSome, Sp.Tm.n, Sp.Tm.args] at c2
      clear hs
      go_enter Try.func15, Try.ntmps15
      go_wp2_with fail
      refine c1.mono ?_
      rintro e w1 ⟨rfl, hb1⟩
      obtain ⟨q0, q1, q2, q3⟩ := c4_of (heap_kept hb1 hk2.out.1)
      go_wp2_with fail
      refine (c2 _ hb1).mono ?_
      rintro e w2 ⟨v2, rfl, hb2, B2, -⟩
      obtain ⟨a8, n8, m8, rfl⟩ := B2.isSlice
      have HL := Lib.hid (B2.lies (fun _ h _ => h))
      clear B2
    · have hr := heap_kept (one_below w2 (.cells #[.slice a8 n8 m8, .int .i64 0] 27)) (heap_kept hb2 (heap_kept hb1 hk2.out.2))
      obtain ⟨y0, y1, f0, f1⟩ := cells2_of hr
      have B1 := H2.out.trans (hb1.mono H2.out.size)
      have B2 := B1.trans (hb2.mono B1.size)
      go_wp2
      have hz := set2_at hr (.slice none 0 0) (.int .i64 0)
      obtain ⟨z0, z1, _, _⟩ := cells2_of hz
      refine bodyPost_ret (v := .tuple #[.agg #[.slice none 0 0, .int .i64 0], .int .i64 22]) (by simp [results, Try.results15, go_sem, z0, z1]) rfl ?_
      exact ⟨_, rfl, ((B2.alloc B2.size _).setCell (by simp) _).setCell (by simp) _, Sp.Lies.nil _ _⟩
    · have hr := heap_kept (one_below w2 (.cells #[.slice a8 n8 m8, .int .i64 sn] 27)) (heap_kept hb2 (heap_kept hb1 hk2.out.2))
      obtain ⟨y0, y1, f0, f1⟩ := cells2_of hr
      have B1 := H2.out.trans (hb1.mono H2.out.size)
      have B2 := B1.trans (hb2.mono B1.size)
      have s1 := hb1.size
      have s2 := hb2.size
      simp at s1
      go_wp2
      have hz := set2_at hr (.slice a8 n8 m8) (.int .i64 sn)
      obtain ⟨z0, z1, _, _⟩ := cells2_of hz
      refine bodyPost_ret (v := .tuple #[.agg #[.slice a8 n8 m8, .int .i64 sn], .int .i64 0]) (by simp [results, Try.results15, go_sem, z0, z1]) rfl ?_
      refine ⟨_, rfl, ((B2.alloc B2.size _).setCell (by simp) _).setCell (by simp) _, ?_⟩
      exact ((HL.out.keep (one_below _ _)).still fun b hS _ => heap_set2 _ _ _ _ (by omega)).more fun b _ hS => by omega
end Go.Proofs.Ytomahhdhnlfabaa
