/- The law SubstPuts, walked. -/
import Derived.Test.YtknbebkkdkhmaaaSbAwayL
import Derived.Test.YtknbebkkdkhmaaaSbPutE
namespace Go.Proofs.Ytknbebkkdkhmaaa.Sb
open Go.RowKit
set_option linter.unusedSimpArgs false
set_option linter.unusedVariables false

set_option maxHeartbeats 4000000 in
set_option maxRecDepth 100000 in
theorem substPuts_walk (t s : Tm) (n cn : Int) (tv sv Sv : Value) (Ss : List Sp.Tm) (w : World) (ft : t.fit) (fs : s.fit) (hn : I64 n) (lt : Lies w (fun _ => True) tv t.args) (ls : Lies w (fun _ => True) sv s.args) (lS : Sp.Lies w (fun _ => True) Sv Ss) :
    Calls Try.prog 3 #[.agg #[.int .i64 t.op, .int .i64 t.hd, .int .i64 t.n, tv, .int .i64 n, .int .i64 s.op, .int .i64 s.hd, .int .i64 s.n, sv, Sv, .int .i64 cn]] w fun e w' => e = .returned (.bool true) ∧ Below w.heap.size w w' := by
  obtain ⟨a1, n1, m1, rfl⟩ := lt.isSlice
  obtain ⟨a2, n2, m2, rfl⟩ := ls.isSlice
  obtain ⟨a3, n3, m3, rfl⟩ := lS.isSlice
  have HLT := Lib.hid (And.intro lt (And.intro ls lS))
  have HFT := Lib.hid (And.intro ft (And.intro fs hn))
  clear lt ls lS ft fs hn
  go_enter Try.func3, Try.ntmps3
  go_upto_region 1 with fail
  go_cut [3, 4, 5, 6] (fun p3 p4 p5 p6 wx => ∃ D E F, p3 = .pointer (some ⟨D, 0, none⟩) ∧ p4 = .int .i64 n ∧ p5 = .pointer (some ⟨E, 0, none⟩) ∧ p6 = .pointer (some ⟨F, 0, none⟩) ∧ PutBox w wx D E F t s (.slice a1 n1 m1) (.slice a2 n2 m2) (.slice a3 n3 m3) cn)
  case first =>
    go_region
    all_goals
      go_wp2_with fail
      go_meet
      case rel =>
        refine ⟨_, _, _, rfl, rfl, rfl, rfl, ⟨?_, ?_, ?_, ?_⟩⟩
        · exact ((((Below.refl _ _).alloc (Nat.le_refl _) _).alloc (by simp) _).alloc (by simp; omega) _ |>.alloc (by simp; omega) _).drew
        all_goals (repeat (first | (with_reducible exact heap_new_at (by simp; done)) | (with_reducible refine heap_kept (one_below _ _) ?_) | (with_reducible refine heap_kept (Below.refl _ _).drew ?_)))
  case rest =>
    obtain ⟨D, E, F, rfl, rfl, rfl, rfl, A⟩ := hcut
    have c5 : ∀ wx, PutBox w wx D E F t s (.slice a1 n1 m1) (.slice a2 n2 m2) (.slice a3 n3 m3) cn → _ := fun wx A => subst_any t s n cn Ss (.slice a1 n1 m1) (.slice a2 n2 m2) (.slice a3 n3 m3) wx (HLT.out.1.keep A.below) (HLT.out.2.1.keep A.below) (HLT.out.2.2.keep A.below) HFT.out.1 HFT.out.2.1
    have c6 : ∀ wx, PutBox w wx D E F t s (.slice a1 n1 m1) (.slice a2 n2 m2) (.slice a3 n3 m3) cn → _ := fun wx A => substRF_any t s n cn Ss (.slice a1 n1 m1) (.slice a2 n2 m2) (.slice a3 n3 m3) wx (HLT.out.1.keep A.below) (HLT.out.2.1.keep A.below) (HLT.out.2.2.keep A.below)
    generalize substOut t n s (.mk cn Ss) = r at c5 c6
    obtain ⟨T, f⟩ := r
    have HA4 := Lib.hid A
    obtain ⟨x0, x1, x2, x3⟩ := c4_of A.hD
    obtain ⟨y0, y1, y2, y3⟩ := c4_of A.hE
    obtain ⟨⟨q0, q1⟩, _⟩ := cells2_of A.hF
    clear A
    go_wp2_with fail
    refine (c5 _ HA4.out).mono ?_
    rintro e w5 ⟨v5, rfl, hb5, L5⟩
    obtain ⟨a5, n5, m5, rfl⟩ := L5.isSlice
    have hba := one_below w5 (.cells #[.int .i64 T.op, .int .i64 T.hd, .int .i64 T.n, .slice a5 n5 m5] 24)
    have HA5 := Lib.hid (And.intro ((HA4.out.keep hb5).keep hba) (And.intro (heap_alloc_new w5 (.cells #[.int .i64 T.op, .int .i64 T.hd, .int .i64 T.n, .slice a5 n5 m5] 24)) ((L5.more (S' := fun _ => True) fun _ _ _ => trivial).keep hba)))
    clear x0 x1 x2 x3 y0 y1 y2 y3 q0 q1 hb5 L5 hba HA4 c5
    obtain ⟨x0, x1, x2, x3⟩ := c4_of HA5.out.1.hD
    obtain ⟨y0, y1, y2, y3⟩ := c4_of HA5.out.1.hE
    obtain ⟨⟨q0, q1⟩, _⟩ := cells2_of HA5.out.1.hF
    go_wp2_with fail
    refine (c6 _ HA5.out.1).mono ?_
    rintro e w6 ⟨v6, rfl, hb6, L6⟩
    obtain ⟨a6, n6, m6, rfl⟩ := L6.isSlice
    have hba := one_below w6 (.cells #[.int .i64 T.op, .int .i64 T.hd, .int .i64 T.n, .slice a6 n6 m6] 24)
    have z5 := heap_kept hba (heap_kept hb6 HA5.out.2.1)
    have z6 := heap_alloc_new w6 (.cells #[.int .i64 T.op, .int .i64 T.hd, .int .i64 T.n, .slice a6 n6 m6] 24)
    have c7 := gives_any (fun _ => True) _ T T f f (.slice a5 n5 m5) (.slice a6 n6 m6) _ ((HA5.out.2.2.keep hb6).keep hba) (L6.keep hba)
    have hsm : (Tm.same T T && (f == f)) = true := by rw [(Tm.same_iff T T).2 rfl]; simp
    rw [hsm] at c7
    have HA6 := Lib.hid ((HA5.out.1.keep hb6).keep hba)
    clear x0 x1 x2 x3 y0 y1 y2 y3 q0 q1 hb6 L6 hba HA5 c6 hsm
    obtain ⟨x0, x1, x2, x3⟩ := c4_of z5
    obtain ⟨y0, y1, y2, y3⟩ := c4_of z6
    clear z5 z6
    go_wp2_with fail
    refine c7.mono ?_
    rintro e w7 ⟨rfl, hb7⟩
    have HA7 := Lib.hid (HA6.out.keep hb7)
    clear x0 x1 x2 x3 y0 y1 y2 y3 hb7 HA6 c7
    go_wp2_with fail
    refine (awake_any _).mono ?_
    rintro e w9 ⟨rfl, hb9⟩
    go_wp2_with fail
    go_ret
    exact ⟨rfl, below_next HA7.out.below hb9⟩
end Go.Proofs.Ytknbebkkdkhmaaa.Sb
