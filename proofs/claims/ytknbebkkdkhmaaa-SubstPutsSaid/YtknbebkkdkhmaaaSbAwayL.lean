/- The law SubstAway, walked. -/

import Derived.Test.YtknbebkkdkhmaaaSbAwake
import Derived.Test.YtknbebkkdkhmaaaSbAway
import Derived.Test.YtknbebkkdkhmaaaSbSmR
import Derived.Test.YtknbebkkdkhmaaaSbOpen
import Derived.BigRegion
import Derived.ProofKit
namespace Go.Proofs.Ytknbebkkdkhmaaa.Sb
open Go.RowKit
set_option linter.unusedSimpArgs false
set_option linter.unusedVariables false

/-- the boxes of a substitution's parts -/
structure PutBox (w wx : World) (D E F : Nat) (t s : Tm) (tv sv Sv : Value) (cn : Int) : Prop where
  below : Below w.heap.size w wx
  hD : wx.heap[D]? = some (.cells #[.int .i64 t.op, .int .i64 t.hd, .int .i64 t.n, tv] 24 (0, 0))
  hE : wx.heap[E]? = some (.cells #[.int .i64 s.op, .int .i64 s.hd, .int .i64 s.n, sv] 24 (0, 0))
  hF : wx.heap[F]? = some (.cells #[Sv, .int .i64 cn] 27 (0, 0))
theorem PutBox.keep {w wx wy : World} {D E F : Nat} {t s : Tm} {tv sv Sv : Value} {cn : Int} (H : PutBox w wx D E F t s tv sv Sv cn) (hb : Below wx.heap.size wx wy) : PutBox w wy D E F t s tv sv Sv cn :=
  ⟨below_next H.below hb, heap_kept hb H.hD, heap_kept hb H.hE, heap_kept hb H.hF⟩

set_option maxHeartbeats 1000000 in
set_option maxRecDepth 100000 in
theorem occR_any (t : Tm) (v : Value) (m : Int) (w : World) (hv : Lies w (fun _ => True) v t.args) (hp : Tm.proper t = true) (h0 : 0 ≤ m) (h9 : m ≤ 9999) :
    Calls Try.prog 30 #[.agg #[.int .i64 t.op, .int .i64 t.hd, .int .i64 t.n, v], .int .i64 m] w fun e w' => e = .returned (.bool (Tm.low m m t)) ∧ Below w.heap.size w w' := by
  obtain ⟨o, h, n, l⟩ := t
  obtain ⟨a2, n2, m2, rfl⟩ := hv.isSlice
  have hb := one_below w (.cells #[.int .i64 o, .int .i64 h, .int .i64 n, .slice a2 n2 m2] 24)
  have hsz := (Tm.proper_two hp).1
  have call := low_calls _ _ o h n m m _ l _ (Nat.le_refl _) (by omega) (by omega) (by omega) (by omega) (hv.keep hb)
  generalize Tm.low m m (.mk o h n l) = r at call ⊢
  simp only [Tm.op, Tm.hd, Tm.n]
  clear hv hp hsz
  go_enter Try.func30, Try.ntmps30
  go_wp2_with (go_at_call 71; (with_reducible refine call.mono ?_); rintro e w1 ⟨rfl, hb1⟩)
  go_ret
  exact ⟨rfl, hb.trans (hb1.mono hb.size)⟩

/-- the ways of the law -/
theorem away_ways (t s : Tm) (n cn : Int) (Ss : List Sp.Tm) : Tm.proper t = false ∨ (Tm.proper t = true ∧ Tm.proper s = false) ∨ (Tm.proper t = true ∧ Tm.proper s = true ∧ Sp.Tm.small (.mk cn Ss) = false) ∨
    (Tm.proper t = true ∧ Tm.proper s = true ∧ Sp.Tm.small (.mk cn Ss) = true ∧ n < 0) ∨ (Tm.proper t = true ∧ Tm.proper s = true ∧ Sp.Tm.small (.mk cn Ss) = true ∧ 0 ≤ n ∧ 9999 < n) ∨
    (Tm.proper t = true ∧ Tm.proper s = true ∧ Sp.Tm.small (.mk cn Ss) = true ∧ 0 ≤ n ∧ n ≤ 9999 ∧ Tm.low n n t = true) ∨
    (Tm.proper t = true ∧ Tm.proper s = true ∧ Sp.Tm.small (.mk cn Ss) = true ∧ 0 ≤ n ∧ n ≤ 9999 ∧ Tm.low n n t = false ∧ substOut t n s (.mk cn Ss) = (Tm.moved (-1) n t, 0) ∧ shiftRef (-1) n t = (Tm.moved (-1) n t, 0)) := by
  cases hp : Tm.proper t
  · exact .inl rfl
  cases hs : Tm.proper s
  · exact .inr (.inl ⟨rfl, rfl⟩)
  cases hS : Sp.Tm.small (.mk cn Ss)
  · exact .inr (.inr (.inl ⟨rfl, rfl, rfl⟩))
  by_cases h0 : n < 0
  · exact .inr (.inr (.inr (.inl ⟨rfl, rfl, rfl, h0⟩)))
  by_cases h9 : 9999 < n
  · exact .inr (.inr (.inr (.inr (.inl ⟨rfl, rfl, rfl, by omega, h9⟩))))
  cases hl : Tm.low n n t
  · refine .inr (.inr (.inr (.inr (.inr (.inr ⟨rfl, rfl, rfl, by omega, by omega, rfl, ?_, ?_⟩)))))
    · have hq : isNum n = true := by simp [isNum]; omega
      have hz := (Tm.proper_two hp).1
      simp only [substOut, hp, hs, hq, hS, Bool.and_self, if_true, put_away (.mk cn Ss) s t n 0 hp (by omega) hl (by omega), outOf]
    · have hm := moved_back_proper hp (by omega) hl
      have ha : shiftArgs (-1) n t = true := by simp [shiftArgs, hp]; omega
      unfold shiftRef
      rw [ha, hm, show n - -1 - 1 = n by omega, hl]; simp
  · exact .inr (.inr (.inr (.inr (.inr (.inl ⟨rfl, rfl, rfl, by omega, by omega, rfl⟩)))))

set_option maxHeartbeats 8000000 in
set_option maxRecDepth 100000 in
theorem substAway_walk (t s : Tm) (n cn : Int) (tv sv Sv : Value) (Ss : List Sp.Tm) (w : World) (ft : t.fit) (fs : s.fit) (hn : I64 n) (lt : Lies w (fun _ => True) tv t.args) (ls : Lies w (fun _ => True) sv s.args) (lS : Sp.Lies w (fun _ => True) Sv Ss) :
    Calls Try.prog 9 #[.agg #[.int .i64 t.op, .int .i64 t.hd, .int .i64 t.n, tv, .int .i64 n, .int .i64 s.op, .int .i64 s.hd, .int .i64 s.n, sv, Sv, .int .i64 cn]] w fun e w' => e = .returned (.bool true) ∧ Below w.heap.size w w' := by
  obtain ⟨a1, n1, m1, rfl⟩ := lt.isSlice
  obtain ⟨a2, n2, m2, rfl⟩ := ls.isSlice
  obtain ⟨a3, n3, m3, rfl⟩ := lS.isSlice
  have HLT := Lib.hid (And.intro lt (And.intro ls lS))
  have HFT := Lib.hid (And.intro ft (And.intro fs hn))
  clear lt ls lS ft fs hn
  go_enter Try.func9, Try.ntmps9
  go_upto_region 1 with fail
  go_cut [3, 4, 5, 6] (fun p3 p4 p5 p6 wx => ∃ D E F, p3 = .pointer (some ⟨D, 0, none⟩) ∧ p4 = .int .i64 n ∧ p5 = .pointer (some ⟨E, 0, none⟩) ∧ p6 = .pointer (some ⟨F, 0, none⟩) ∧ PutBox w wx D E F t s (.slice a1 n1 m1) (.slice a2 n2 m2) (.slice a3 n3 m3) cn)
  case first =>
    go_region
    all_goals
      go_wp2_with fail
      go_meet
      case rel =>
        refine ⟨_, _, _, rfl, rfl, rfl, rfl, ⟨?_, ?_, ?_, ?_⟩⟩
        · exact ((((Below.refl _ _).alloc (Nat.le_refl _) _).alloc (by simp) _).alloc (by simp; omega) _ |>.alloc (by simp; omega) _).drew
        all_goals (repeat (first | (with_reducible exact heap_new_at (by simp; done)) | (with_reducible refine heap_kept (one_below _ _) ?_) | (with_reducible refine heap_kept (Below.refl _ _).drew ?_)))
  case rest =>
    obtain ⟨D, E, F, rfl, rfl, rfl, rfl, A⟩ := hcut
    have HA := Lib.hid A
    obtain ⟨x0, x1, x2, x3⟩ := c4_of A.hD
    clear A
    have c1 : ∀ wx, PutBox w wx D E F t s (.slice a1 n1 m1) (.slice a2 n2 m2) (.slice a3 n3 m3) cn → _ := fun wx A => proper_t t (fun _ => True) (.slice a1 n1 m1) wx (HLT.out.1.keep A.below)
    have c2 : ∀ wx, PutBox w wx D E F t s (.slice a1 n1 m1) (.slice a2 n2 m2) (.slice a3 n3 m3) cn → _ := fun wx A => proper_t s (fun _ => True) (.slice a2 n2 m2) wx (HLT.out.2.1.keep A.below)
    have c3 : ∀ wx, PutBox w wx D E F t s (.slice a1 n1 m1) (.slice a2 n2 m2) (.slice a3 n3 m3) cn → _ := fun wx A => smallR_any cn (.slice a3 n3 m3) Ss wx (HLT.out.2.2.keep A.below)
    have c4 : ∀ (hp : Tm.proper t = true) (h0 : 0 ≤ n) (h9 : n ≤ 9999) wx, PutBox w wx D E F t s (.slice a1 n1 m1) (.slice a2 n2 m2) (.slice a3 n3 m3) cn → _ := fun hp h0 h9 wx A => occR_any t (.slice a1 n1 m1) n wx (HLT.out.1.keep A.below) hp h0 h9
    have c5 : ∀ wx, PutBox w wx D E F t s (.slice a1 n1 m1) (.slice a2 n2 m2) (.slice a3 n3 m3) cn → _ := fun wx A => subst_any t s n cn Ss (.slice a1 n1 m1) (.slice a2 n2 m2) (.slice a3 n3 m3) wx (HLT.out.1.keep A.below) (HLT.out.2.1.keep A.below) (HLT.out.2.2.keep A.below) HFT.out.1 HFT.out.2.1
    have c6 : ∀ wx, PutBox w wx D E F t s (.slice a1 n1 m1) (.slice a2 n2 m2) (.slice a3 n3 m3) cn → Calls Try.prog 31 #[.agg #[.int .i64 t.op, .int .i64 t.hd, .int .i64 t.n, .slice a1 n1 m1], .int .i64 (-1), .int .i64 n] wx (GivesE wx (shiftRef (-1) n t)) := fun wx A => by
      obtain ⟨o, h, k, l⟩ := t
      exact shiftR_any o h k (-1) n (.slice a1 n1 m1) l wx (HLT.out.1.keep A.below) ⟨by omega, by omega⟩ HFT.out.2.2
    have ways := away_ways t s n cn Ss
    rcases ways with h1 | ⟨h1, h2⟩ | ⟨h1, h2, h3⟩ | ⟨h1, h2, h3, h4⟩ | ⟨h1, h2, h3, h4, h5⟩ | ⟨h1, h2, h3, h4, h5, h6⟩ | ⟨h1, h2, h3, h4, h5, h6, h7, h8⟩
    all_goals
      try (have c4 := c4 h1 h4 h5)
      try simp only [h1] at c1
      try simp only [h2] at c2
      try simp only [h3] at c3
      try simp only [h6] at c4
      try simp only [h7] at c5
      try simp only [h8] at c6
      clear h1
      try clear h2
      try clear h3
      try clear h6
      try clear h7
      try clear h8
      go_wp2_with fail
      refine (c1 _ HA.out).mono ?_
      rintro e w1 ⟨rfl, hb1⟩
      have HA1 := Lib.hid (HA.out.keep hb1)
      clear x0 x1 x2 x3 hb1 HA c1
      obtain ⟨y0, y1, y2, y3⟩ := c4_of HA1.out.hE
      go_wp2_with fail
    · refine (awake_any _).mono ?_
      rintro e w9 ⟨rfl, hb9⟩
      go_wp2_with fail
      go_ret
      exact ⟨rfl, below_next HA1.out.below hb9⟩
    · refine (c2 _ HA1.out).mono ?_
      rintro e w2 ⟨rfl, hb2⟩
      have HA2 := Lib.hid (HA1.out.keep hb2)
      clear y0 y1 y2 y3 hb2 HA1 c2
      obtain ⟨⟨q0, q1⟩, _⟩ := cells2_of HA2.out.hF
      go_wp2_with fail
      refine (awake_any _).mono ?_
      rintro e w9 ⟨rfl, hb9⟩
      go_wp2_with fail
      go_ret
      exact ⟨rfl, below_next HA2.out.below hb9⟩
    · refine (c2 _ HA1.out).mono ?_
      rintro e w2 ⟨rfl, hb2⟩
      have HA2 := Lib.hid (HA1.out.keep hb2)
      clear y0 y1 y2 y3 hb2 HA1 c2
      obtain ⟨⟨q0, q1⟩, _⟩ := cells2_of HA2.out.hF
      go_wp2_with fail
      refine (c3 _ HA2.out).mono ?_
      rintro e w3 ⟨rfl, hb3⟩
      have HA3 := Lib.hid (HA2.out.keep hb3)
      clear q0 q1 hb3 HA2 c3
      obtain ⟨x0, x1, x2, x3⟩ := c4_of HA3.out.hD
      go_wp2_with fail
      refine (awake_any _).mono ?_
      rintro e w9 ⟨rfl, hb9⟩
      go_wp2_with fail
      go_ret
      exact ⟨rfl, below_next HA3.out.below hb9⟩
    · refine (c2 _ HA1.out).mono ?_
      rintro e w2 ⟨rfl, hb2⟩
      have HA2 := Lib.hid (HA1.out.keep hb2)
      clear y0 y1 y2 y3 hb2 HA1 c2
      obtain ⟨⟨q0, q1⟩, _⟩ := cells2_of HA2.out.hF
      go_wp2_with fail
      refine (c3 _ HA2.out).mono ?_
      rintro e w3 ⟨rfl, hb3⟩
      have HA3 := Lib.hid (HA2.out.keep hb3)
      clear q0 q1 hb3 HA2 c3
      obtain ⟨x0, x1, x2, x3⟩ := c4_of HA3.out.hD
      go_wp2_with fail
      refine (awake_any _).mono ?_
      rintro e w9 ⟨rfl, hb9⟩
      go_wp2_with fail
      go_ret
      exact ⟨rfl, below_next HA3.out.below hb9⟩
    · refine (c2 _ HA1.out).mono ?_
      rintro e w2 ⟨rfl, hb2⟩
      have HA2 := Lib.hid (HA1.out.keep hb2)
      clear y0 y1 y2 y3 hb2 HA1 c2
      obtain ⟨⟨q0, q1⟩, _⟩ := cells2_of HA2.out.hF
      go_wp2_with fail
      refine (c3 _ HA2.out).mono ?_
      rintro e w3 ⟨rfl, hb3⟩
      have HA3 := Lib.hid (HA2.out.keep hb3)
      clear q0 q1 hb3 HA2 c3
      obtain ⟨x0, x1, x2, x3⟩ := c4_of HA3.out.hD
      go_wp2_with fail
      refine (awake_any _).mono ?_
      rintro e w9 ⟨rfl, hb9⟩
      go_wp2_with fail
      go_ret
      exact ⟨rfl, below_next HA3.out.below hb9⟩
    · refine (c2 _ HA1.out).mono ?_
      rintro e w2 ⟨rfl, hb2⟩
      have HA2 := Lib.hid (HA1.out.keep hb2)
      clear y0 y1 y2 y3 hb2 HA1 c2
      obtain ⟨⟨q0, q1⟩, _⟩ := cells2_of HA2.out.hF
      go_wp2_with fail
      refine (c3 _ HA2.out).mono ?_
      rintro e w3 ⟨rfl, hb3⟩
      have HA3 := Lib.hid (HA2.out.keep hb3)
      clear q0 q1 hb3 HA2 c3
      obtain ⟨x0, x1, x2, x3⟩ := c4_of HA3.out.hD
      go_wp2_with fail
      refine (c4 _ HA3.out).mono ?_
      rintro e w4 ⟨rfl, hb4⟩
      have HA4 := Lib.hid (HA3.out.keep hb4)
      clear x0 x1 x2 x3 hb4 HA3 c4
      obtain ⟨x0, x1, x2, x3⟩ := c4_of HA4.out.hD
      obtain ⟨y0, y1, y2, y3⟩ := c4_of HA4.out.hE
      obtain ⟨⟨q0, q1⟩, _⟩ := cells2_of HA4.out.hF
      go_wp2_with fail
      refine (awake_any _).mono ?_
      rintro e w9 ⟨rfl, hb9⟩
      go_wp2_with fail
      go_ret
      exact ⟨rfl, below_next HA4.out.below hb9⟩
    · refine (c2 _ HA1.out).mono ?_
      rintro e w2 ⟨rfl, hb2⟩
      have HA2 := Lib.hid (HA1.out.keep hb2)
      clear y0 y1 y2 y3 hb2 HA1 c2
      obtain ⟨⟨q0, q1⟩, _⟩ := cells2_of HA2.out.hF
      go_wp2_with fail
      refine (c3 _ HA2.out).mono ?_
      rintro e w3 ⟨rfl, hb3⟩
      have HA3 := Lib.hid (HA2.out.keep hb3)
      clear q0 q1 hb3 HA2 c3
      obtain ⟨x0, x1, x2, x3⟩ := c4_of HA3.out.hD
      go_wp2_with fail
      refine (c4 _ HA3.out).mono ?_
      rintro e w4 ⟨rfl, hb4⟩
      have HA4 := Lib.hid (HA3.out.keep hb4)
      clear x0 x1 x2 x3 hb4 HA3 c4
      obtain ⟨x0, x1, x2, x3⟩ := c4_of HA4.out.hD
      obtain ⟨y0, y1, y2, y3⟩ := c4_of HA4.out.hE
      obtain ⟨⟨q0, q1⟩, _⟩ := cells2_of HA4.out.hF
      go_wp2_with fail
      refine (c5 _ HA4.out).mono ?_
      rintro e w5 ⟨v5, rfl, hb5, L5⟩
      obtain ⟨a5, n5, m5, rfl⟩ := L5.isSlice
      generalize hT : Tm.moved (-1) n t = T at c6 L5 ⊢
      clear hT
      have hba := one_below w5 (.cells #[.int .i64 T.op, .int .i64 T.hd, .int .i64 T.n, .slice a5 n5 m5] 24)
      have HA5 := Lib.hid (And.intro ((HA4.out.keep hb5).keep hba) (And.intro (heap_alloc_new w5 (.cells #[.int .i64 T.op, .int .i64 T.hd, .int .i64 T.n, .slice a5 n5 m5] 24)) ((L5.more (S' := fun _ => True) fun _ _ _ => trivial).keep hba)))
      clear x0 x1 x2 x3 y0 y1 y2 y3 q0 q1 hb5 L5 hba HA4 c5
      obtain ⟨x0, x1, x2, x3⟩ := c4_of HA5.out.1.hD
      go_wp2_with fail
      refine (c6 _ HA5.out.1).mono ?_
      rintro e w6 ⟨v6, rfl, hb6, L6⟩
      obtain ⟨a6, n6, m6, rfl⟩ := L6.isSlice
      have hba := one_below w6 (.cells #[.int .i64 T.op, .int .i64 T.hd, .int .i64 T.n, .slice a6 n6 m6] 24)
      have z5 := heap_kept hba (heap_kept hb6 HA5.out.2.1)
      have z6 := heap_alloc_new w6 (.cells #[.int .i64 T.op, .int .i64 T.hd, .int .i64 T.n, .slice a6 n6 m6] 24)
      have c7 := gives_any (fun _ => True) _ T T 0 0 (.slice a5 n5 m5) (.slice a6 n6 m6) _ ((HA5.out.2.2.keep hb6).keep hba) (L6.keep hba)
      have hsm : (Tm.same T T && ((0 : Int) == 0)) = true := by rw [(Tm.same_iff T T).2 rfl]; rfl
      rw [hsm] at c7
      have HA6 := Lib.hid ((HA5.out.1.keep hb6).keep hba)
      clear x0 x1 x2 x3 hb6 L6 hba HA5 c6 hsm
      obtain ⟨x0, x1, x2, x3⟩ := c4_of z5
      obtain ⟨y0, y1, y2, y3⟩ := c4_of z6
      clear z5 z6
      go_wp2_with fail
      refine c7.mono ?_
      rintro e w7 ⟨rfl, hb7⟩
      have HA7 := Lib.hid (HA6.out.keep hb7)
      clear x0 x1 x2 x3 y0 y1 y2 y3 hb7 HA6 c7
      go_wp2_with fail
      refine (awake_any _).mono ?_
      rintro e w9 ⟨rfl, hb9⟩
      go_wp2_with fail
      go_ret
      exact ⟨rfl, below_next HA7.out.below hb9⟩
end Go.Proofs.Ytknbebkkdkhmaaa.Sb
