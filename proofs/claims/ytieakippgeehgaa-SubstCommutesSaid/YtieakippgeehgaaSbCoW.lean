/- The law SubstCommutes, walked. -/
import Derived.Test.YtieakippgeehgaaSbCoM
import Derived.Deep.CutRange
namespace Go.Proofs.Ytieakippgeehgaa.Sb
open Go.RowKit
set_option linter.unusedSimpArgs false
set_option linter.unusedVariables false

theorem co_same (T : Tm) (v v' : Value) (w : World) (hv : Lies w (fun _ => True) v T.args) (hv' : Lies w (fun _ => True) v' T.args) :
    Calls Try.prog 36 #[.agg #[.int .i64 T.op, .int .i64 T.hd, .int .i64 T.n, v], .agg #[.int .i64 T.op, .int .i64 T.hd, .int .i64 T.n, v']] w fun e' w' => e' = .returned (.bool true) ∧ Below w.heap.size w w' := by
  have c := same_any _ _ T.op T.hd T.n T.op T.hd T.n v v' T.args T.args w hv hv'
  rw [(Tm.same_iff _ _).2 rfl] at c
  exact c
/-- a box with a term -/
structure CoTm (wx : World) (B : Nat) (T : Tm) (v : Value) : Prop where
  h : wx.heap[B]? = some (.cells #[.int .i64 T.op, .int .i64 T.hd, .int .i64 T.n, v] 24 (0, 0))
  l : Lies wx (fun _ => True) v T.args
theorem CoTm.keep {wx wy : World} {B : Nat} {T : Tm} {v : Value} (H : CoTm wx B T v) (hb : Below wx.heap.size wx wy) : CoTm wy B T v := ⟨heap_kept hb H.h, H.l.keep hb⟩
theorem co_tm {w w' : World} {T : Tm} {v : Value} (L : Lies w' (w.heap.size ≤ ·) v T.args) : CoTm (w'.alloc (.cells #[.int .i64 T.op, .int .i64 T.hd, .int .i64 T.n, v] 24)) w'.heap.size T v :=
  ⟨heap_alloc_new _ _, (L.more fun _ _ _ => trivial).keep (one_below _ _)⟩
theorem co_two (w : World) (oA oB : Obj) : Below w.heap.size w ((w.alloc oA).alloc oB).drew ∧ ((w.alloc oA).alloc oB).drew.heap[w.heap.size]? = some oA ∧ ((w.alloc oA).alloc oB).drew.heap[w.heap.size + 1]? = some oB :=
  ⟨(((Below.refl _ _).alloc (Nat.le_refl _) _).alloc (by simp) _).drew, heap_kept (one_below _ _).drew (heap_alloc_new w oA), heap_kept (Below.refl _ _).drew (heap_new_at (by simp))⟩
/-- the boxes of the call -/
structure CoBox (w wx : World) (D E : Nat) (t s r : Tm) (Kv Gv tv Sv sv rv : Value) (cn : Int) : Prop where
  below : Below w.heap.size w wx
  hX : wx.heap[w.heap.size]? = some (.cells #[Kv, Gv, .int .i64 t.op, .int .i64 t.hd, .int .i64 t.n, tv, Sv, .int .i64 cn] 59 (0, 0))
  hD : wx.heap[D]? = some (.cells #[.int .i64 s.op, .int .i64 s.hd, .int .i64 s.n, sv] 24 (0, 0))
  hE : wx.heap[E]? = some (.cells #[.int .i64 r.op, .int .i64 r.hd, .int .i64 r.n, rv] 24 (0, 0))
theorem CoBox.keep {w wx wy : World} {D E : Nat} {t s r : Tm} {Kv Gv tv Sv sv rv : Value} {cn : Int} (H : CoBox w wx D E t s r Kv Gv tv Sv sv rv cn) (hb : Below wx.heap.size wx wy) : CoBox w wy D E t s r Kv Gv tv Sv sv rv cn :=
  ⟨below_next H.below hb, heap_kept hb H.hX, heap_kept hb H.hD, heap_kept hb H.hE⟩

/-- the boxes of the types, too -/
structure CoAll (w wx : World) (D E A B : Nat) (t s r : Tm) (Kv Gv tv Sv sv rv : Value) (cn : Int) (av bv : Value) (ka kb : Int) (la lb : List Sp.Tm) : Prop where
  box : CoBox w wx D E t s r Kv Gv tv Sv sv rv cn
  hA : wx.heap[A]? = some (.cells #[av, .int .i64 ka] 27 (0, 0))
  hB : wx.heap[B]? = some (.cells #[bv, .int .i64 kb] 27 (0, 0))
  qA : Sp.Lies wx (fun _ => True) av la
  qB : Sp.Lies wx (fun _ => True) bv lb
theorem CoAll.keep {w wx wy : World} {D E A B : Nat} {t s r : Tm} {Kv Gv tv Sv sv rv : Value} {cn : Int} {av bv : Value} {ka kb : Int} {la lb : List Sp.Tm} (H : CoAll w wx D E A B t s r Kv Gv tv Sv sv rv cn av bv ka kb la lb) (hb : Below wx.heap.size wx wy) : CoAll w wy D E A B t s r Kv Gv tv Sv sv rv cn av bv ka kb la lb :=
  ⟨H.box.keep hb, heap_kept hb H.hA, heap_kept hb H.hB, H.qA.keep hb, H.qB.keep hb⟩

theorem co_all {w w3 : World} {D E : Nat} {t s r : Tm} {Kv Gv tv Sv sv rv : Value} {cn : Int} {av bv : Value} {ka kb : Int} {la lb : List Sp.Tm} (H : CoBox w w3 D E t s r Kv Gv tv Sv sv rv cn) (qA : Sp.Lies w3 (fun _ => True) av la) (qB : Sp.Lies w3 (fun _ => True) bv lb) :
    CoAll w ((w3.alloc (.cells #[av, .int .i64 ka] 27)).alloc (.cells #[bv, .int .i64 kb] 27)).drew D E w3.heap.size (w3.heap.size + 1) t s r Kv Gv tv Sv sv rv cn av bv ka kb la lb := by
  obtain ⟨hb, hA, hB⟩ := co_two w3 (.cells #[av, .int .i64 ka] 27) (.cells #[bv, .int .i64 kb] 27)
  exact ⟨H.keep hb, hA, hB, qA.keep hb, qB.keep hb⟩
theorem co_all' {w w3 : World} {D E : Nat} {t s r : Tm} {Kv Gv tv Sv sv rv : Value} {cn : Int} {av bv : Value} {ka kb : Int} {la lb : List Sp.Tm} (H : CoBox w w3 D E t s r Kv Gv tv Sv sv rv cn) (qA : Sp.Lies w3 (fun _ => True) av la) (qB : Sp.Lies w3 (fun _ => True) bv lb) :
    CoAll w ((w3.alloc (.cells #[bv, .int .i64 kb] 27)).alloc (.cells #[av, .int .i64 ka] 27)).drew D E (w3.heap.size + 1) w3.heap.size t s r Kv Gv tv Sv sv rv cn av bv ka kb la lb := by
  obtain ⟨hb, hB, hA⟩ := co_two w3 (.cells #[bv, .int .i64 kb] 27) (.cells #[av, .int .i64 ka] 27)
  exact ⟨H.keep hb, hA, hB, qA.keep hb, qB.keep hb⟩

/-- what the drawn region of the two tests reads -/
abbrev CCo (W : World) (X D E A B : Nat) (Kv Gv s0 s1 s2 s3 r0 r1 r2 r3 a0 a1 b0 b1 : Value) : Prop :=
  (W.cell? ⟨X, 0, none⟩ = some Kv ∧ W.cell? ⟨X, 1, none⟩ = some Gv) ∧ (W.cell? ⟨D, 0, none⟩ = some s0 ∧ W.cell? ⟨D, 1, none⟩ = some s1 ∧ W.cell? ⟨D, 2, none⟩ = some s2 ∧ W.cell? ⟨D, 3, none⟩ = some s3) ∧
  (W.cell? ⟨E, 0, none⟩ = some r0 ∧ W.cell? ⟨E, 1, none⟩ = some r1 ∧ W.cell? ⟨E, 2, none⟩ = some r2 ∧ W.cell? ⟨E, 3, none⟩ = some r3) ∧ (W.cell? ⟨A, 0, none⟩ = some a0 ∧ W.cell? ⟨A, 1, none⟩ = some a1) ∧ (W.cell? ⟨B, 0, none⟩ = some b0 ∧ W.cell? ⟨B, 1, none⟩ = some b1)
theorem cco_below {W W' : World} {X D E A B : Nat} {Kv Gv s0 s1 s2 s3 r0 r1 r2 r3 a0 a1 b0 b1 : Value} (hb : Below W.heap.size W W') (x : CCo W X D E A B Kv Gv s0 s1 s2 s3 r0 r1 r2 r3 a0 a1 b0 b1) : CCo W' X D E A B Kv Gv s0 s1 s2 s3 r0 r1 r2 r3 a0 a1 b0 b1 := by
  obtain ⟨⟨x1, x2⟩, ⟨x3, x4, x5, x6⟩, ⟨x7, x8, x9, x10⟩, ⟨x11, x12⟩, ⟨x13, x14⟩⟩ := x
  exact ⟨⟨kept_cell hb x1, kept_cell hb x2⟩, ⟨kept_cell hb x3, kept_cell hb x4, kept_cell hb x5, kept_cell hb x6⟩, ⟨kept_cell hb x7, kept_cell hb x8, kept_cell hb x9, kept_cell hb x10⟩, ⟨kept_cell hb x11, kept_cell hb x12⟩, ⟨kept_cell hb x13, kept_cell hb x14⟩⟩

set_option maxHeartbeats 32000000 in
set_option maxRecDepth 100000 in
theorem substCommutes_walk (t s r : Tm) (N M cn : Int) (K G Ss : List Sp.Tm) (Kv Gv tv Sv sv rv : Value) (w : World) (ft : t.fit) (fs : s.fit) (fr : r.fit) (lK : Sp.Lies w (fun _ => True) Kv K) (lG : Sp.Lies w (fun _ => True) Gv G) (lt : Lies w (fun _ => True) tv t.args) (lS : Sp.Lies w (fun _ => True) Sv Ss) (ls : Lies w (fun _ => True) sv s.args) (lr : Lies w (fun _ => True) rv r.args) :
    Calls Try.prog 11 #[.agg #[Kv, Gv, .int .i64 t.op, .int .i64 t.hd, .int .i64 t.n, tv, Sv, .int .i64 cn], .agg #[.int .i64 N, .int .i64 M, .int .i64 s.op, .int .i64 s.hd, .int .i64 s.n, sv, .int .i64 r.op, .int .i64 r.hd, .int .i64 r.n, rv]] w fun e w' => e = .returned (.bool true) ∧ Below w.heap.size w w' := by
  obtain ⟨a1, n1, m1, rfl⟩ := lt.isSlice
  obtain ⟨a2, n2, m2, rfl⟩ := lS.isSlice
  obtain ⟨a3, n3, m3, rfl⟩ := ls.isSlice
  obtain ⟨a4, n4, m4, rfl⟩ := lK.isSlice
  obtain ⟨a6, n6, m6, rfl⟩ := lr.isSlice
  obtain ⟨aG, bG, oG, lG', cG, kG, sG, tG, rfl, GR⟩ := lG.open
  have hGl := GR.length
  have hGc := GR.hl
  have hGr := GR.hr
  have HGR := Lib.hid GR
  have HL := Lib.hid (And.intro lK (And.intro lG (And.intro lt (And.intro lS (And.intro ls lr)))))
  have HF := Lib.hid (And.intro ft (And.intro fs fr))
  clear lK lG lt lS ls lr GR ft fs fr
  have HX0 := Lib.hid (And.intro hGl (And.intro hGc hGr))
  clear hGl hGc hGr
  go_enter Try.func11, Try.ntmps11
  go_upto_region 1 with fail
  go_cut [5, 6, 7, 8] from 21 to 28 (fun p5 p6 p7 p8 wx => ∃ D E, p5 = .int .i64 N ∧ p6 = .int .i64 M ∧ p7 = .pointer (some ⟨D, 0, none⟩) ∧ p8 = .pointer (some ⟨E, 0, none⟩) ∧ CoBox w wx D E t s r (.slice a4 n4 m4) (.slice aG lG' cG) (.slice a1 n1 m1) (.slice a2 n2 m2) (.slice a3 n3 m3) (.slice a6 n6 m6) cn)
  case first =>
    go_region
    all_goals
      go_wp2_with fail
      go_meet
      case rel =>
        refine ⟨_, _, rfl, rfl, rfl, rfl, ⟨?_, ?_, ?_, ?_⟩⟩
        · repeat (first | (with_reducible exact Below.refl _ _) | (with_reducible refine Below.drew ?_) | (with_reducible refine Below.alloc ?_ (by simp <;> omega) _))
        all_goals (repeat (first | (with_reducible exact heap_new_at (by simp; done)) | (with_reducible refine heap_kept (one_below _ _) ?_) | (with_reducible refine heap_kept (Below.refl _ _).drew ?_)))
  case rest =>
    obtain ⟨D, E, rfl, rfl, rfl, rfl, A⟩ := hcut
    have cR := right_any K G Ss t cn (.slice a4 n4 m4) (.slice aG lG' cG) (.slice a1 n1 m1) (.slice a2 n2 m2) _ (HL.out.1.keep A.below) (HL.out.2.1.keep A.below) (HL.out.2.2.1.keep A.below) (HL.out.2.2.2.1.keep A.below)
    have HA := Lib.hid A
    obtain ⟨x0, x1, x2, x3, x4, x5, x6, x7⟩ := cells8v A.hX
    clear A
    rcases hR : rightB K G t (.mk cn Ss) with _ | _
    · rw [hR] at cR
      clear hR
      go_wp2_with fail
      refine cR.mono ?_
      rintro e w1 ⟨rfl, hb1⟩
      have HA1 := Lib.hid (below_next HA.out.below hb1)
      clear x0 x1 x2 x3 x4 x5 x6 x7 hb1 cR
      go_wp2_with fail
      refine (awake_any _).mono ?_
      rintro e w9 ⟨rfl, hb9⟩
      go_wp2_with fail
      go_ret
      exact ⟨rfl, below_next HA1.out hb9⟩
    · rw [hR] at cR
      by_cases hz : lG' < 2
      · have hz1 : (lG' : Int) < 2 := by omega
        clear hR hz
        go_wp2_with fail
        refine cR.mono ?_
        rintro e w1 ⟨rfl, hb1⟩
        have HA1 := Lib.hid (HA.out.keep hb1)
        clear x0 x1 x2 x3 x4 x5 x6 x7 hb1 cR
        obtain ⟨x0, x1, x2, x3, x4, x5, x6, x7⟩ := cells8v HA1.out.hX
        go_wp2_with fail
        refine (awake_any _).mono ?_
        rintro e w9 ⟨rfl, hb9⟩
        go_wp2_with fail
        go_ret
        exact ⟨rfl, below_next HA1.out.below hb9⟩
      · have hz1 : ¬ (lG' : Int) < 2 := by omega
        obtain rfl := HGR.out.hao (by omega)
        have hl20 := (rightB_parts hR).1
        rw [HX0.out.1] at hl20
        have HR := Lib.hid hR
        clear hR
        go_wp2_with fail
        refine cR.mono ?_
        rintro e w1 ⟨rfl, hb1⟩
        have HA1 := Lib.hid (HA.out.keep hb1)
        clear x0 x1 x2 x3 x4 x5 x6 x7 hb1 cR
        obtain ⟨x0, x1, x2, x3, x4, x5, x6, x7⟩ := cells8v HA1.out.hX
        obtain ⟨y0, y1, y2, y3⟩ := c4_of HA1.out.hD
        have cP := proper_t s (fun _ => True) (.slice a3 n3 m3) _ (HL.out.2.2.2.2.1.keep HA1.out.below)
        rcases hps : Tm.proper s with _ | _
        · rw [hps] at cP
          clear hps
          go_wp2_with fail
          refine cP.mono ?_
          rintro e w2 ⟨rfl, hb2⟩
          have HA2 := Lib.hid (below_next HA1.out.below hb2)
          clear x0 x1 x2 x3 x4 x5 x6 x7 y0 y1 y2 y3 hb2 cP
          go_wp2_with fail
          refine (awake_any _).mono ?_
          rintro e w9 ⟨rfl, hb9⟩
          go_wp2_with fail
          go_ret
          exact ⟨rfl, below_next HA2.out hb9⟩
        · rw [hps] at cP
          have HPS := Lib.hid hps
          clear hps
          go_wp2_with fail
          refine cP.mono ?_
          rintro e w2 ⟨rfl, hb2⟩
          have HA2 := Lib.hid (HA1.out.keep hb2)
          clear x0 x1 x2 x3 x4 x5 x6 x7 y0 y1 y2 y3 hb2 cP
          obtain ⟨y0, y1, y2, y3⟩ := c4_of HA2.out.hE
          have cP := proper_t r (fun _ => True) (.slice a6 n6 m6) _ (HL.out.2.2.2.2.2.keep HA2.out.below)
          rcases hpr : Tm.proper r with _ | _
          · rw [hpr] at cP
            clear hpr
            go_wp2_with fail
            refine cP.mono ?_
            rintro e w3 ⟨rfl, hb3⟩
            have HA3 := Lib.hid (below_next HA2.out.below hb3)
            clear y0 y1 y2 y3 hb3 cP
            go_wp2_with fail
            refine (awake_any _).mono ?_
            rintro e w9 ⟨rfl, hb9⟩
            go_wp2_with fail
            go_ret
            exact ⟨rfl, below_next HA3.out hb9⟩
          · rw [hpr] at cP
            have HPR := Lib.hid hpr
            clear hpr
            go_wp2_with fail
            refine cP.mono ?_
            rintro e w3 ⟨rfl, hb3⟩
            have HA3 := Lib.hid (HA2.out.keep hb3)
            clear y0 y1 y2 y3 hb3 cP
            obtain ⟨x0, x1, x2, x3, x4, x5, x6, x7⟩ := cells8v HA3.out.hX
            obtain ⟨m0, hm0, hm0l⟩ := mod_inI M (L := (lG' : Int) - 1) (by omega) (by omega)
            have hm1 : (1 : Int) + (m0 : Int) = ((m0 + 1 : Nat) : Int) := by omega
            have hm2 : m0 + 1 < lG' := by omega
            generalize m0 + 1 = m at hm1 hm2
            have hm3 : 0 < m := by omega
            obtain ⟨n, hn0, hn1⟩ := mod_inI N (L := (m : Int)) (by omega) (by omega)
            have hn2 : n < lG' := by omega
            go_upto_region 6 with fail
            try rw [hn0]
            have hlx : w.heap.size < w3.heap.size := lt_blk HA3.out.hX
            obtain ⟨pa0, pa1, pas⟩ := HGR.out.at HA3.out.below (lG' - 1 - n) (by omega)
            obtain ⟨a7, n7, m7, hs7⟩ := pas.isSlice
            rw [hs7] at pa0 pas
            obtain ⟨pb0, pb1, pbs⟩ := HGR.out.at HA3.out.below (lG' - 1 - m) (by omega)
            obtain ⟨a8, n8, m8, hs8⟩ := pbs.isSlice
            rw [hs8] at pb0 pbs
            have i0 : (0 : Int) ≤ (lG' : Int) - 1 - n := by omega
            have i1 : (lG' : Int) - 1 - n < (lG' : Int) := by omega
            have j0 : (0 : Int) ≤ (lG' : Int) - 1 - m := by omega
            have j1 : (lG' : Int) - 1 - m < (lG' : Int) := by omega
            have hlg : bG < w3.heap.size := World.block_lt_of_cell? _ _ pa0
            have HPA := Lib.hid (And.intro pas pbs)
            have HGA : Hid (G[lG' - 1 - n]? = some (.mk (kG (lG' - 1 - n)) (tG (lG' - 1 - n))) ∧ G[lG' - 1 - m]? = some (.mk (kG (lG' - 1 - m)) (tG (lG' - 1 - m)))) := Lib.hid ⟨List.getElem?_eq_some_iff.2 ⟨_, HGR.out.get (lG' - 1 - n) (by omega)⟩, List.getElem?_eq_some_iff.2 ⟨_, HGR.out.get (lG' - 1 - m) (by omega)⟩⟩
            have HNM : Hid (n < m ∧ m < lG' ∧ lG' ≤ 20) := Lib.hid (by omega)
            clear hm0 hm0l hm1 hm3 hn0 hn1 hs7 hs8 pas pbs x2 x3 x4 x5 x6 x7
            go_cut [9, 10] from 29 to 84 (fun p9 p10 wx => ∃ A B, p9 = .pointer (some ⟨A, 0, none⟩) ∧ p10 = .pointer (some ⟨B, 0, none⟩) ∧ CoAll w wx D E A B t s r (.slice a4 n4 m4) (.slice (some ⟨bG, oG, none⟩) lG' cG) (.slice a1 n1 m1) (.slice a2 n2 m2) (.slice a3 n3 m3) (.slice a6 n6 m6) cn (.slice a7 n7 m7) (.slice a8 n8 m8) (kG (lG' - 1 - n)) (kG (lG' - 1 - m)) (tG (lG' - 1 - n)) (tG (lG' - 1 - m)))
            case first =>
              go_region
              all_goals
                go_wp2_with fail
                go_meet
                case rel =>
                  first
                    | exact ⟨_, _, rfl, rfl, co_all HA3.out HPA.out.1 HPA.out.2⟩
                    | exact ⟨_, _, rfl, rfl, co_all' HA3.out HPA.out.1 HPA.out.2⟩
                    | fail
            case rest =>
            obtain ⟨A, B, rfl, rfl, C⟩ := hcut
            rename World => wq
            have hA := C.hA
            have hB := C.hB
            have HC := Lib.hid (And.intro C.box (And.intro C.hA C.hB))
            have HQ := Lib.hid (And.intro C.qA C.qB)
            clear C x0 x1 pa0 pa1 pb0 pb1 hlx hlg i0 i1 j0 j1
            obtain ⟨x0, x1, _, _, _, _, _, _⟩ := cells8v HC.out.1.hX
            obtain ⟨⟨z0, z1⟩, _⟩ := cells2_of hA
            obtain ⟨⟨u0, u1⟩, _⟩ := cells2_of hB
            have hS0 : CCo _ w.heap.size D E A B (.slice a4 n4 m4) (.slice (some ⟨bG, oG, none⟩) lG' cG) (.int .i64 s.op) (.int .i64 s.hd) (.int .i64 s.n) (.slice a3 n3 m3) (.int .i64 r.op) (.int .i64 r.hd) (.int .i64 r.n) (.slice a6 n6 m6) (.slice a7 n7 m7) (.int .i64 (kG (lG' - 1 - n))) (.slice a8 n8 m8) (.int .i64 (kG (lG' - 1 - m))) := ⟨⟨x0, x1⟩, c4_of HC.out.1.hD, c4_of HC.out.1.hE, ⟨z0, z1⟩, ⟨u0, u1⟩⟩
            clear x0 x1 z0 z1 u0 u1 hA hB
            have HD : Hid (Below wq.heap.size wq wq.drew) := Lib.hid (Below.refl _ _).drew
            have cB1 : ∀ W', Below wq.heap.size wq W' → _ := fun W' hb => before_any G n (.slice (some ⟨bG, oG, none⟩) lG' cG) W' (by rw [HX0.out.1]; exact hn2) (HL.out.2.1.keep (below_next HC.out.1.below hb))
            have cB2 : ∀ W', Below wq.heap.size wq W' → _ := fun W' hb => before_any G m (.slice (some ⟨bG, oG, none⟩) lG' cG) W' (by rw [HX0.out.1]; exact hm2) (HL.out.2.1.keep (below_next HC.out.1.below hb))
            rw [HX0.out.1] at cB1 cB2
            have cF1 : ∀ v W', Below wq.heap.size wq W' → Sp.Lies W' (fun _ => True) v (G.take (lG' - 1 - n)) → _ := fun v W' hb L => fits_any K (G.take (lG' - 1 - n)) (tG (lG' - 1 - n)) s (kG (lG' - 1 - n)) (.slice a4 n4 m4) v (.slice a3 n3 m3) (.slice a7 n7 m7) W' HPS.out (by rw [List.length_take]; have := HNM.out; omega) (HL.out.1.keep (below_next HC.out.1.below hb)) L (HL.out.2.2.2.2.1.keep (below_next HC.out.1.below hb)) (HQ.out.1.keep hb)
            have cF2 : ∀ v W', Below wq.heap.size wq W' → Sp.Lies W' (fun _ => True) v (G.take (lG' - 1 - m)) → _ := fun v W' hb L => fits_any K (G.take (lG' - 1 - m)) (tG (lG' - 1 - m)) r (kG (lG' - 1 - m)) (.slice a4 n4 m4) v (.slice a6 n6 m6) (.slice a8 n8 m8) W' HPR.out (by rw [List.length_take]; have := HNM.out; omega) (HL.out.1.keep (below_next HC.out.1.below hb)) L (HL.out.2.2.2.2.2.keep (below_next HC.out.1.below hb)) (HQ.out.2.keep hb)
            clear hn2 hm2 hl20
            rcases h1 : fitb K s (G.take (lG' - 1 - n)).reverse (tG (lG' - 1 - n)) (kG (lG' - 1 - n)) with _ | _
            · simp only [h1] at cF1
              clear h1 cB2 cF2
              go_upto_region 7 with fail
              refine wp_region_held_drew (S := (fun X => CCo X w.heap.size D E A B (.slice a4 n4 m4) (.slice (some ⟨bG, oG, none⟩) lG' cG) (.int .i64 s.op) (.int .i64 s.hd) (.int .i64 s.n) (.slice a3 n3 m3) (.int .i64 r.op) (.int .i64 r.hd) (.int .i64 r.n) (.slice a6 n6 m6) (.slice a7 n7 m7) (.int .i64 (kG (lG' - 1 - n))) (.slice a8 n8 m8) (.int .i64 (kG (lG' - 1 - m))))) (by kernel_rfl) ?_ (fun hHeld => ?_)
              · try dsimp only
                with_reducible exact cco_below HD.out hS0
              refine wpAnyH_take (i := 0) (oi := { dst := some 85, op := Op.fieldAddr 59 (Operand.tmp 2) 0, type := 0, pos := "law.go:209", after := #[], guard := none }) (v := ?_) rfl (by kernel_rfl) (by kernel_rfl) (by kernel_rfl) (fun _ _ _ h => h) (Or.inl ⟨by rfl, ?_⟩) (by assumption) ?_
              rotate_left 1
              · intro w hSw
                try dsimp only at hSw
                go_simp
                try with_reducible rfl
              try simp only [Act.put, List.setIfInBounds_toArray, List.set_cons_zero, List.set_cons_succ]
              refine wpAnyH_take (i := 1) (oi := { dst := some 86, op := Op.load 25 (Operand.tmp 85), type := 25, pos := "law.go:209", after := #[{ on := 0, ground := Ground.data }], guard := none }) (v := ?_) rfl (by kernel_rfl) (by kernel_rfl) (by kernel_rfl) (fun _ _ _ h => h) (Or.inl ⟨by rfl, ?_⟩) (by assumption) ?_
              rotate_left 1
              · intro w hSw
                try dsimp only at hSw
                go_simp
                try with_reducible rfl
              try simp only [Act.put, List.setIfInBounds_toArray, List.set_cons_zero, List.set_cons_succ]
              refine wpAnyH_take (i := 2) (oi := { dst := some 87, op := Op.fieldAddr 59 (Operand.tmp 2) 1, type := 0, pos := "law.go:209", after := #[], guard := none }) (v := ?_) rfl (by kernel_rfl) (by kernel_rfl) (by kernel_rfl) (fun _ _ _ h => h) (Or.inl ⟨by rfl, ?_⟩) (by assumption) ?_
              rotate_left 1
              · intro w hSw
                try dsimp only at hSw
                go_simp
                try with_reducible rfl
              try simp only [Act.put, List.setIfInBounds_toArray, List.set_cons_zero, List.set_cons_succ]
              refine wpAnyH_take (i := 3) (oi := { dst := some 88, op := Op.load 25 (Operand.tmp 87), type := 25, pos := "law.go:209", after := #[{ on := 2, ground := Ground.data }], guard := none }) (v := ?_) rfl (by kernel_rfl) (by kernel_rfl) (by kernel_rfl) (fun _ _ _ h => h) (Or.inl ⟨by rfl, ?_⟩) (by assumption) ?_
              rotate_left 1
              · intro w hSw
                try dsimp only at hSw
                go_simp
                try with_reducible rfl
              try simp only [Act.put, List.setIfInBounds_toArray, List.set_cons_zero, List.set_cons_succ]
              refine wpAnyH_take (i := 4) (oi := { dst := some 89, op := Op.move (Operand.tmp 5), type := 3, pos := "law.go:209", after := #[], guard := none }) (v := ?_) rfl (by kernel_rfl) (by kernel_rfl) (by kernel_rfl) (fun _ _ _ h => h) (Or.inl ⟨by rfl, ?_⟩) (by assumption) ?_
              rotate_left 1
              · intro w hSw
                try dsimp only at hSw
                go_simp
                try with_reducible rfl
              try simp only [Act.put, List.setIfInBounds_toArray, List.set_cons_zero, List.set_cons_succ]
              refine wpAnyH_take (i := 6) (oi := { dst := some 91, op := Op.load 24 (Operand.tmp 7), type := 24, pos := "law.go:209", after := #[], guard := none }) (v := ?_) rfl (by kernel_rfl) (by kernel_rfl) (by kernel_rfl) (fun _ _ _ h => h) (Or.inl ⟨by rfl, ?_⟩) (by assumption) ?_
              rotate_left 1
              · intro w hSw
                try dsimp only at hSw
                go_simp
                try with_reducible rfl
              try simp only [Act.put, List.setIfInBounds_toArray, List.set_cons_zero, List.set_cons_succ]
              refine wpAnyH_take (i := 7) (oi := { dst := some 92, op := Op.load 27 (Operand.tmp 9), type := 27, pos := "law.go:209", after := #[], guard := none }) (v := ?_) rfl (by kernel_rfl) (by kernel_rfl) (by kernel_rfl) (fun _ _ _ h => h) (Or.inl ⟨by rfl, ?_⟩) (by assumption) ?_
              rotate_left 1
              · intro w hSw
                try dsimp only at hSw
                go_simp
                try with_reducible rfl
              try simp only [Act.put, List.setIfInBounds_toArray, List.set_cons_zero, List.set_cons_succ]
              refine wpAnyH_ready (rs := [5]) (by kernel_rfl) (by simp) ?_
              refine AllReadyH.cons (o := { dst := some 90, op := Op.call { callee := Callee.value (Operand.func 34), args := #[Operand.tmp 88, Operand.tmp 89], argTypes := #[25, 3] }, type := 25, pos := "law.go:209", after := #[{ on := 3, ground := Ground.data }, { on := 4, ground := Ground.data }], guard := none }) rfl (fun K hK => ?_) AllReadyH.nil
              go_simp
              go_at_call 34; (with_reducible refine (cB1 _ ?_).mono ?_); (first | (with_reducible exact HD.out) | fail); rintro e w4 ⟨v4, rfl, hb4, L4⟩; have hcn4 := cco_below hb4 (cco_below HD.out hS0); have HB4 := Lib.hid (And.intro (HD.out.trans (hb4.mono HD.out.size)) L4); clear hb4 L4
              try dsimp only
              refine hK.out _ _ ?_ (fun hHeld => ?_)
              · try dsimp only
                with_reducible exact hcn4
              clear hK K
              try simp only [Act.put, List.setIfInBounds_toArray, List.set_cons_zero, List.set_cons_succ]
              refine wpAnyH_ready (rs := [8]) (by kernel_rfl) (by simp) ?_
              refine AllReadyH.cons (o := { dst := some 93, op := Op.call { callee := Callee.value (Operand.func 33), args := #[Operand.tmp 86, Operand.tmp 90, Operand.tmp 91, Operand.tmp 92], argTypes := #[25, 25, 24, 27] }, type := 4, pos := "law.go:209", after := #[{ on := 1, ground := Ground.data }, { on := 5, ground := Ground.data }, { on := 6, ground := Ground.data }, { on := 7, ground := Ground.data }, { on := 5, ground := Ground.chain }], guard := none }) rfl (fun K hK => ?_) AllReadyH.nil
              go_simp
              go_at_call 33; (with_reducible refine (cF1 _ _ ?_ ?_).mono ?_); (first | (with_reducible exact HB4.out.1) | fail); (first | (with_reducible exact HB4.out.2) | fail); rintro e w5 ⟨rfl, hb5⟩; have hcn5 := cco_below hb5 hcn4; have HB5 := Lib.hid (HB4.out.1.trans (hb5.mono HB4.out.1.size)); clear hb5
              try dsimp only
              refine hK.out _ _ ?_ (fun hHeld => ?_)
              · try dsimp only
                with_reducible exact hcn5
              clear hK K
              try simp only [Act.put, List.setIfInBounds_toArray, List.set_cons_zero, List.set_cons_succ]
              refine wpAnyH_take (i := 9) (oi := { dst := some 94, op := Op.unOp UnOp.not 4 (Operand.tmp 93), type := 4, pos := "law.go:209", after := #[{ on := 8, ground := Ground.data }], guard := none }) (v := ?_) rfl (by kernel_rfl) (by kernel_rfl) (by kernel_rfl) (fun _ _ _ h => h) (Or.inl ⟨by rfl, ?_⟩) (by assumption) ?_
              rotate_left 1
              · intro w hSw
                try dsimp only at hSw
                go_simp
                try with_reducible rfl
              try simp only [Act.put, List.setIfInBounds_toArray, List.set_cons_zero, List.set_cons_succ]
              refine wpAnyH_take (i := 10) (oi := { dst := some 95, op := Op.move (Operand.tmp 94), type := 4, pos := "law.go:209", after := #[{ on := 9, ground := Ground.data }, { on := 8, ground := Ground.chain }], guard := none }) (v := ?_) rfl (by kernel_rfl) (by kernel_rfl) (by kernel_rfl) (fun _ _ _ h => h) (Or.inl ⟨by rfl, ?_⟩) (by assumption) ?_
              rotate_left 1
              · intro w hSw
                try dsimp only at hSw
                go_simp
                try with_reducible rfl
              try simp only [Act.put, List.setIfInBounds_toArray, List.set_cons_zero, List.set_cons_succ]
              refine wpAnyH_take (i := 11) (oi := { dst := some 96, op := Op.fieldAddr 59 (Operand.tmp 2) 0, type := 0, pos := "law.go:209", after := #[{ on := 10, ground := Ground.guard }], guard := some (10, false) }) (v := undef) rfl (by kernel_rfl) (by kernel_rfl) (by kernel_rfl) (fun _ _ _ h => h) (Or.inr ⟨by kernel_rfl, rfl⟩) (by assumption) ?_
              try simp only [Act.put, List.setIfInBounds_toArray, List.set_cons_zero, List.set_cons_succ]
              refine wpAnyH_take (i := 12) (oi := { dst := some 97, op := Op.load 25 (Operand.tmp 96), type := 25, pos := "law.go:209", after := #[{ on := 11, ground := Ground.data }, { on := 10, ground := Ground.guard }], guard := some (10, false) }) (v := undef) rfl (by kernel_rfl) (by kernel_rfl) (by kernel_rfl) (fun _ _ _ h => h) (Or.inr ⟨by kernel_rfl, rfl⟩) (by assumption) ?_
              try simp only [Act.put, List.setIfInBounds_toArray, List.set_cons_zero, List.set_cons_succ]
              refine wpAnyH_take (i := 13) (oi := { dst := some 98, op := Op.fieldAddr 59 (Operand.tmp 2) 1, type := 0, pos := "law.go:209", after := #[{ on := 10, ground := Ground.guard }], guard := some (10, false) }) (v := undef) rfl (by kernel_rfl) (by kernel_rfl) (by kernel_rfl) (fun _ _ _ h => h) (Or.inr ⟨by kernel_rfl, rfl⟩) (by assumption) ?_
              try simp only [Act.put, List.setIfInBounds_toArray, List.set_cons_zero, List.set_cons_succ]
              refine wpAnyH_take (i := 14) (oi := { dst := some 99, op := Op.load 25 (Operand.tmp 98), type := 25, pos := "law.go:209", after := #[{ on := 13, ground := Ground.data }, { on := 10, ground := Ground.guard }], guard := some (10, false) }) (v := undef) rfl (by kernel_rfl) (by kernel_rfl) (by kernel_rfl) (fun _ _ _ h => h) (Or.inr ⟨by kernel_rfl, rfl⟩) (by assumption) ?_
              try simp only [Act.put, List.setIfInBounds_toArray, List.set_cons_zero, List.set_cons_succ]
              refine wpAnyH_take (i := 15) (oi := { dst := some 100, op := Op.move (Operand.tmp 6), type := 3, pos := "law.go:209", after := #[{ on := 10, ground := Ground.guard }], guard := some (10, false) }) (v := undef) rfl (by kernel_rfl) (by kernel_rfl) (by kernel_rfl) (fun _ _ _ h => h) (Or.inr ⟨by kernel_rfl, rfl⟩) (by assumption) ?_
              try simp only [Act.put, List.setIfInBounds_toArray, List.set_cons_zero, List.set_cons_succ]
              refine wpAnyH_take (i := 17) (oi := { dst := some 102, op := Op.load 24 (Operand.tmp 8), type := 24, pos := "law.go:209", after := #[{ on := 10, ground := Ground.guard }], guard := some (10, false) }) (v := undef) rfl (by kernel_rfl) (by kernel_rfl) (by kernel_rfl) (fun _ _ _ h => h) (Or.inr ⟨by kernel_rfl, rfl⟩) (by assumption) ?_
              try simp only [Act.put, List.setIfInBounds_toArray, List.set_cons_zero, List.set_cons_succ]
              refine wpAnyH_take (i := 18) (oi := { dst := some 103, op := Op.load 27 (Operand.tmp 10), type := 27, pos := "law.go:209", after := #[{ on := 10, ground := Ground.guard }], guard := some (10, false) }) (v := undef) rfl (by kernel_rfl) (by kernel_rfl) (by kernel_rfl) (fun _ _ _ h => h) (Or.inr ⟨by kernel_rfl, rfl⟩) (by assumption) ?_
              try simp only [Act.put, List.setIfInBounds_toArray, List.set_cons_zero, List.set_cons_succ]
              refine wpAnyH_take (i := 16) (oi := { dst := some 101, op := Op.call { callee := Callee.value (Operand.func 34), args := #[Operand.tmp 99, Operand.tmp 100], argTypes := #[25, 3] }, type := 25, pos := "law.go:209", after := #[{ on := 14, ground := Ground.data }, { on := 15, ground := Ground.data }, { on := 10, ground := Ground.chain }, { on := 10, ground := Ground.guard }], guard := some (10, false) }) (v := undef) rfl (by kernel_rfl) (by kernel_rfl) (by kernel_rfl) (fun _ _ _ h => h) (Or.inr ⟨by kernel_rfl, rfl⟩) (by assumption) ?_
              try simp only [Act.put, List.setIfInBounds_toArray, List.set_cons_zero, List.set_cons_succ]
              refine wpAnyH_take (i := 19) (oi := { dst := some 104, op := Op.call { callee := Callee.value (Operand.func 33), args := #[Operand.tmp 97, Operand.tmp 101, Operand.tmp 102, Operand.tmp 103], argTypes := #[25, 25, 24, 27] }, type := 4, pos := "law.go:209", after := #[{ on := 12, ground := Ground.data }, { on := 16, ground := Ground.data }, { on := 17, ground := Ground.data }, { on := 18, ground := Ground.data }, { on := 16, ground := Ground.chain }, { on := 10, ground := Ground.guard }], guard := some (10, false) }) (v := undef) rfl (by kernel_rfl) (by kernel_rfl) (by kernel_rfl) (fun _ _ _ h => h) (Or.inr ⟨by kernel_rfl, rfl⟩) (by assumption) ?_
              try simp only [Act.put, List.setIfInBounds_toArray, List.set_cons_zero, List.set_cons_succ]
              refine wpAnyH_take (i := 20) (oi := { dst := some 105, op := Op.unOp UnOp.not 4 (Operand.tmp 104), type := 4, pos := "law.go:209", after := #[{ on := 19, ground := Ground.data }, { on := 10, ground := Ground.guard }], guard := some (10, false) }) (v := undef) rfl (by kernel_rfl) (by kernel_rfl) (by kernel_rfl) (fun _ _ _ h => h) (Or.inr ⟨by kernel_rfl, rfl⟩) (by assumption) ?_
              try simp only [Act.put, List.setIfInBounds_toArray, List.set_cons_zero, List.set_cons_succ]
              refine wpAnyH_take (i := 21) (oi := { dst := some 106, op := Op.pick (Operand.tmp 95) (Operand.const (Value.bool true)) (Operand.tmp 105), type := 4, pos := "law.go:209", after := #[{ on := 10, ground := Ground.data }, { on := 20, ground := Ground.data }], guard := none }) (v := ?_) rfl (by kernel_rfl) (by kernel_rfl) (by kernel_rfl) (fun _ _ _ h => h) (Or.inl ⟨by rfl, ?_⟩) (by assumption) ?_
              rotate_left 1
              · intro w hSw
                try dsimp only at hSw
                go_simp
                try with_reducible rfl
              try simp only [Act.put, List.setIfInBounds_toArray, List.set_cons_zero, List.set_cons_succ]
              refine wpAnyH_done (by kernel_rfl) ?_ _
              go_wp2_with fail
              refine (awake_any _).mono ?_
              rintro e w9 ⟨rfl, hb9⟩
              go_wp2_with fail
              go_ret
              exact ⟨rfl, below_next (below_next HC.out.1.below HB5.out) hb9⟩
            · simp only [h1] at cF1
              rcases h2 : fitb K r (G.take (lG' - 1 - m)).reverse (tG (lG' - 1 - m)) (kG (lG' - 1 - m)) with _ | _
              · simp only [h2] at cF2
                clear h1 h2
                go_upto_region 7 with fail
                go_region_held3 (fun X => CCo X w.heap.size D E A B (.slice a4 n4 m4) (.slice (some ⟨bG, oG, none⟩) lG' cG) (.int .i64 s.op) (.int .i64 s.hd) (.int .i64 s.n) (.slice a3 n3 m3) (.int .i64 r.op) (.int .i64 r.hd) (.int .i64 r.n) (.slice a6 n6 m6) (.slice a7 n7 m7) (.int .i64 (kG (lG' - 1 - n))) (.slice a8 n8 m8) (.int .i64 (kG (lG' - 1 - m))))
                  (first | (with_reducible exact hS0) | (with_reducible exact hcn7) | (with_reducible exact hcn6) | (with_reducible exact hcn5) | (with_reducible exact hcn4) | (with_reducible exact cco_below HD.out hS0) | fail)
                  (first | (go_at_call 34; (with_reducible refine (cB1 _ ?_).mono ?_); (first | (with_reducible exact HD.out) | fail); rintro e w4 ⟨v4, rfl, hb4, L4⟩; have hcn4 := cco_below hb4 (cco_below HD.out hS0); have HB4 := Lib.hid (And.intro (HD.out.trans (hb4.mono HD.out.size)) L4); clear hb4 L4) | (go_at_call 33; (with_reducible refine (cF1 _ _ ?_ ?_).mono ?_); (first | (with_reducible exact HB4.out.1) | fail); (first | (with_reducible exact HB4.out.2) | fail); rintro e w5 ⟨rfl, hb5⟩; have hcn5 := cco_below hb5 hcn4; have HB5 := Lib.hid (HB4.out.1.trans (hb5.mono HB4.out.1.size)); clear hb5) | (go_at_call 34; (with_reducible refine (cB2 _ ?_).mono ?_); (first | (with_reducible exact HB5.out) | fail); rintro e w6 ⟨v6, rfl, hb6, L6⟩; have hcn6 := cco_below hb6 hcn5; have HB6 := Lib.hid (And.intro (HB5.out.trans (hb6.mono HB5.out.size)) L6); clear hb6 L6) | (go_at_call 33; (with_reducible refine (cF2 _ _ ?_ ?_).mono ?_); (first | (with_reducible exact HB6.out.1) | fail); (first | (with_reducible exact HB6.out.2) | fail); rintro e w7 ⟨rfl, hb7⟩; have hcn7 := cco_below hb7 hcn6; have HB7 := Lib.hid (HB6.out.1.trans (hb7.mono HB6.out.1.size)); clear hb7) | fail)
                go_wp2_with fail
                refine (awake_any _).mono ?_
                rintro e w9 ⟨rfl, hb9⟩
                go_wp2_with fail
                go_ret
                exact ⟨rfl, below_next (below_next HC.out.1.below HB7.out) hb9⟩
              · simp only [h2] at cF2
                have hma := commutes_math HX0.out.1 HGA.out.1 HGA.out.2 HNM.out.1 HNM.out.2.1 HR.out HPS.out HPR.out h1 h2
                clear h1 h2
                have cS1 := fun (W' : World) (hb : Below w.heap.size w W') (L8 : Sp.Lies W' (fun _ => True) (.slice a8 n8 m8) (tG (lG' - 1 - m))) => subst_any t r m (kG (lG' - 1 - m)) (tG (lG' - 1 - m)) (.slice a1 n1 m1) (.slice a6 n6 m6) (.slice a8 n8 m8) W' (HL.out.2.2.1.keep hb) (HL.out.2.2.2.2.2.keep hb) L8 HF.out.1 HF.out.2.2
                have cS2 := fun (W' : World) (hb : Below w.heap.size w W') (L8 : Sp.Lies W' (fun _ => True) (.slice a8 n8 m8) (tG (lG' - 1 - m))) => subst_any s r ((m : Int) - n - 1) (kG (lG' - 1 - m)) (tG (lG' - 1 - m)) (.slice a3 n3 m3) (.slice a6 n6 m6) (.slice a8 n8 m8) W' (HL.out.2.2.2.2.1.keep hb) (HL.out.2.2.2.2.2.keep hb) L8 HF.out.2.1 HF.out.2.2
                have cS3 := fun (W' : World) (hb : Below w.heap.size w W') (L7 : Sp.Lies W' (fun _ => True) (.slice a7 n7 m7) (tG (lG' - 1 - n))) => subst_any t s n (kG (lG' - 1 - n)) (tG (lG' - 1 - n)) (.slice a1 n1 m1) (.slice a3 n3 m3) (.slice a7 n7 m7) W' (HL.out.2.2.1.keep hb) (HL.out.2.2.2.2.1.keep hb) L7 HF.out.1 HF.out.2.1
                generalize substOut t m r (.mk (kG (lG' - 1 - m)) (tG (lG' - 1 - m))) = o1 at cS1 hma
                generalize substOut s ((m : Int) - n - 1) r (.mk (kG (lG' - 1 - m)) (tG (lG' - 1 - m))) = o2 at cS2 hma
                generalize substOut t n s (.mk (kG (lG' - 1 - n)) (tG (lG' - 1 - n))) = o3 at cS3 hma
                obtain ⟨T1, e1⟩ := o1
                obtain ⟨T2, e2⟩ := o2
                obtain ⟨T3, e3⟩ := o3
                simp only at hma
                have cS4 := fun (W' : World) (v1 v2 : Value) (l1 : Lies W' (fun _ => True) v1 T1.args) (l2 : Lies W' (fun _ => True) v2 T2.args) (L7 : Sp.Lies W' (fun _ => True) (.slice a7 n7 m7) (tG (lG' - 1 - n))) (f1 : T1.fit) (f2 : T2.fit) => subst_any T1 T2 n (kG (lG' - 1 - n)) (tG (lG' - 1 - n)) v1 v2 (.slice a7 n7 m7) W' l1 l2 L7 f1 f2
                have cS5 := fun (W' : World) (v1 : Value) (hb : Below w.heap.size w W') (l1 : Lies W' (fun _ => True) v1 T3.args) (L8 : Sp.Lies W' (fun _ => True) (.slice a8 n8 m8) (tG (lG' - 1 - m))) (f1 : T3.fit) => subst_any T3 r ((m : Int) - 1) (kG (lG' - 1 - m)) (tG (lG' - 1 - m)) v1 (.slice a6 n6 m6) (.slice a8 n8 m8) W' l1 (HL.out.2.2.2.2.2.keep hb) L8 f1 HF.out.2.2
                generalize substOut T1 n T2 (.mk (kG (lG' - 1 - n)) (tG (lG' - 1 - n))) = o4 at cS4 hma
                generalize substOut T3 ((m : Int) - 1) r (.mk (kG (lG' - 1 - m)) (tG (lG' - 1 - m))) = o5 at cS5 hma
                obtain ⟨T4, e4⟩ := o4
                obtain ⟨T5, e5⟩ := o5
                simp only at hma
                have HMA := Lib.hid hma
                clear hma
                go_upto_region 7 with fail
                go_region_held3 (fun X => CCo X w.heap.size D E A B (.slice a4 n4 m4) (.slice (some ⟨bG, oG, none⟩) lG' cG) (.int .i64 s.op) (.int .i64 s.hd) (.int .i64 s.n) (.slice a3 n3 m3) (.int .i64 r.op) (.int .i64 r.hd) (.int .i64 r.n) (.slice a6 n6 m6) (.slice a7 n7 m7) (.int .i64 (kG (lG' - 1 - n))) (.slice a8 n8 m8) (.int .i64 (kG (lG' - 1 - m))))
                  (first | (with_reducible exact hS0) | (with_reducible exact hcn7) | (with_reducible exact hcn6) | (with_reducible exact hcn5) | (with_reducible exact hcn4) | (with_reducible exact cco_below HD.out hS0) | fail)
                  (first | (go_at_call 34; (with_reducible refine (cB1 _ ?_).mono ?_); (first | (with_reducible exact HD.out) | fail); rintro e w4 ⟨v4, rfl, hb4, L4⟩; have hcn4 := cco_below hb4 (cco_below HD.out hS0); have HB4 := Lib.hid (And.intro (HD.out.trans (hb4.mono HD.out.size)) L4); clear hb4 L4) | (go_at_call 33; (with_reducible refine (cF1 _ _ ?_ ?_).mono ?_); (first | (with_reducible exact HB4.out.1) | fail); (first | (with_reducible exact HB4.out.2) | fail); rintro e w5 ⟨rfl, hb5⟩; have hcn5 := cco_below hb5 hcn4; have HB5 := Lib.hid (HB4.out.1.trans (hb5.mono HB4.out.1.size)); clear hb5) | (go_at_call 34; (with_reducible refine (cB2 _ ?_).mono ?_); (first | (with_reducible exact HB5.out) | fail); rintro e w6 ⟨v6, rfl, hb6, L6⟩; have hcn6 := cco_below hb6 hcn5; have HB6 := Lib.hid (And.intro (HB5.out.trans (hb6.mono HB5.out.size)) L6); clear hb6 L6) | (go_at_call 33; (with_reducible refine (cF2 _ _ ?_ ?_).mono ?_); (first | (with_reducible exact HB6.out.1) | fail); (first | (with_reducible exact HB6.out.2) | fail); rintro e w7 ⟨rfl, hb7⟩; have hcn7 := cco_below hb7 hcn6; have HB7 := Lib.hid (HB6.out.1.trans (hb7.mono HB6.out.1.size)); clear hb7) | fail)
                have HW7 : Hid (CoAll w _ D E A B t s r (.slice a4 n4 m4) (.slice (some ⟨bG, oG, none⟩) lG' cG) (.slice a1 n1 m1) (.slice a2 n2 m2) (.slice a3 n3 m3) (.slice a6 n6 m6) cn (.slice a7 n7 m7) (.slice a8 n8 m8) (kG (lG' - 1 - n)) (kG (lG' - 1 - m)) (tG (lG' - 1 - n)) (tG (lG' - 1 - m))) := Lib.hid ⟨HC.out.1.keep HB7.out, heap_kept HB7.out HC.out.2.1, heap_kept HB7.out HC.out.2.2, HQ.out.1.keep HB7.out, HQ.out.2.keep HB7.out⟩
                clear hS0 hcn4 hcn5 hcn6 hcn7 cB1 cB2 cF1 cF2
                obtain ⟨hnm1, hnm2, hnm3⟩ := HNM.out
                obtain ⟨_, _, x2, x3, x4, x5, _, _⟩ := cells8v HW7.out.box.hX
                obtain ⟨y0, y1, y2, y3⟩ := c4_of HW7.out.box.hE
                obtain ⟨⟨u0, u1⟩, _⟩ := cells2_of HW7.out.hB
                go_wp2_with fail
                with_reducible refine (cS1 _ HW7.out.box.below HW7.out.qB).mono ?_
                rintro e w8 ⟨v8, rfl, hb8, L8⟩
                obtain ⟨b1, nb1, mb1, rfl⟩ := L8.isSlice
                have hba := one_below w8 (.cells #[.int .i64 T1.op, .int .i64 T1.hd, .int .i64 T1.n, .slice b1 nb1 mb1] 24)
                have HW8 := Lib.hid (And.intro ((HW7.out.keep hb8).keep hba) (co_tm L8))
                clear x2 x3 x4 x5 y0 y1 y2 y3 u0 u1 hb8 L8 hba cS1
                obtain ⟨x0, x1, x2, x3⟩ := c4_of HW8.out.1.box.hD
                obtain ⟨y0, y1, y2, y3⟩ := c4_of HW8.out.1.box.hE
                obtain ⟨⟨u0, u1⟩, _⟩ := cells2_of HW8.out.1.hB
                go_wp2_with fail
                with_reducible refine (cS2 _ HW8.out.1.box.below HW8.out.1.qB).mono ?_
                rintro e w9 ⟨v9, rfl, hb9, L9⟩
                obtain ⟨b2, nb2, mb2, rfl⟩ := L9.isSlice
                have hba := one_below w9 (.cells #[.int .i64 T2.op, .int .i64 T2.hd, .int .i64 T2.n, .slice b2 nb2 mb2] 24)
                have HW9 := Lib.hid (And.intro ((HW8.out.1.keep hb9).keep hba) (And.intro ((HW8.out.2.keep hb9).keep hba) (co_tm L9)))
                clear x0 x1 x2 x3 y0 y1 y2 y3 u0 u1 hb9 L9 hba cS2
                obtain ⟨_, _, x2, x3, x4, x5, _, _⟩ := cells8v HW9.out.1.box.hX
                obtain ⟨y0, y1, y2, y3⟩ := c4_of HW9.out.1.box.hD
                obtain ⟨⟨u0, u1⟩, _⟩ := cells2_of HW9.out.1.hA
                go_wp2_with fail
                with_reducible refine (cS3 _ HW9.out.1.box.below HW9.out.1.qA).mono ?_
                rintro e w10 ⟨v10, rfl, hb10, L10⟩
                obtain ⟨b3, nb3, mb3, rfl⟩ := L10.isSlice
                have hba := one_below w10 (.cells #[.int .i64 T3.op, .int .i64 T3.hd, .int .i64 T3.n, .slice b3 nb3 mb3] 24)
                have HW10 := Lib.hid (And.intro ((HW9.out.1.keep hb10).keep hba) (And.intro ((HW9.out.2.1.keep hb10).keep hba) (And.intro ((HW9.out.2.2.keep hb10).keep hba) (co_tm L10))))
                clear x2 x3 x4 x5 y0 y1 y2 y3 u0 u1 hb10 L10 hba cS3
                rcases HMA.out with rfl | ⟨rfl, p1, rfl | ⟨rfl, p2, rfl | ⟨rfl, p3, hrest⟩⟩⟩
                · go_wp2_with fail
                  refine (awake_any _).mono ?_
                  rintro e w9 ⟨rfl, hb9⟩
                  go_wp2_with fail
                  go_ret
                  exact ⟨rfl, below_next HW10.out.1.box.below hb9⟩
                · go_wp2_with fail
                  refine (awake_any _).mono ?_
                  rintro e w9 ⟨rfl, hb9⟩
                  go_wp2_with fail
                  go_ret
                  exact ⟨rfl, below_next HW10.out.1.box.below hb9⟩
                · go_wp2_with fail
                  refine (awake_any _).mono ?_
                  rintro e w9 ⟨rfl, hb9⟩
                  go_wp2_with fail
                  go_ret
                  exact ⟨rfl, below_next HW10.out.1.box.below hb9⟩
                · obtain ⟨x0, x1, x2, x3⟩ := c4_of HW10.out.2.1.h
                  obtain ⟨y0, y1, y2, y3⟩ := c4_of HW10.out.2.2.1.h
                  obtain ⟨⟨u0, u1⟩, _⟩ := cells2_of HW10.out.1.hA
                  have c4 := cS4 _ _ _ HW10.out.2.1.l HW10.out.2.2.1.l HW10.out.1.qA (fit_of p1) (fit_of p2)
                  have HRR := Lib.hid (And.intro hrest (fit_of p3))
                  clear p1 p2 p3 hrest cS4
                  go_wp2_with fail
                  with_reducible refine c4.mono ?_
                  rintro e w11 ⟨v11, rfl, hb11, L11⟩
                  obtain ⟨b4, nb4, mb4, rfl⟩ := L11.isSlice
                  have hba := one_below w11 (.cells #[.int .i64 T4.op, .int .i64 T4.hd, .int .i64 T4.n, .slice b4 nb4 mb4] 24)
                  have HW11 := Lib.hid (And.intro ((HW10.out.1.keep hb11).keep hba) (And.intro ((HW10.out.2.2.2.keep hb11).keep hba) (co_tm L11)))
                  clear x0 x1 x2 x3 y0 y1 y2 y3 u0 u1 hb11 L11 hba c4
                  obtain ⟨x0, x1, x2, x3⟩ := c4_of HW11.out.2.1.h
                  obtain ⟨y0, y1, y2, y3⟩ := c4_of HW11.out.1.box.hE
                  obtain ⟨⟨u0, u1⟩, _⟩ := cells2_of HW11.out.1.hB
                  have c5 := cS5 _ _ HW11.out.1.box.below HW11.out.2.1.l HW11.out.1.qB HRR.out.2
                  clear cS5
                  go_wp2_with fail
                  with_reducible refine c5.mono ?_
                  rintro e w12 ⟨v12, rfl, hb12, L12⟩
                  obtain ⟨b5, nb5, mb5, rfl⟩ := L12.isSlice
                  have hba := one_below w12 (.cells #[.int .i64 T5.op, .int .i64 T5.hd, .int .i64 T5.n, .slice b5 nb5 mb5] 24)
                  have HW12 := Lib.hid (And.intro ((HW11.out.1.keep hb12).keep hba) (And.intro ((HW11.out.2.2.keep hb12).keep hba) (co_tm L12)))
                  clear x0 x1 x2 x3 y0 y1 y2 y3 u0 u1 hb12 L12 hba c5
                  rcases HRR.out.1 with rfl | ⟨rfl, rfl | ⟨rfl, rfl⟩⟩
                  · go_wp2_with fail
                    refine (awake_any _).mono ?_
                    rintro e w9 ⟨rfl, hb9⟩
                    go_wp2_with fail
                    go_ret
                    exact ⟨rfl, below_next HW12.out.1.box.below hb9⟩
                  · go_wp2_with fail
                    refine (awake_any _).mono ?_
                    rintro e w9 ⟨rfl, hb9⟩
                    go_wp2_with fail
                    go_ret
                    exact ⟨rfl, below_next HW12.out.1.box.below hb9⟩
                  · obtain ⟨x0, x1, x2, x3⟩ := c4_of HW12.out.2.1.h
                    obtain ⟨y0, y1, y2, y3⟩ := c4_of HW12.out.2.2.h
                    have c6 := co_same _ _ _ _ HW12.out.2.1.l HW12.out.2.2.l
                    go_wp2_with fail
                    with_reducible refine c6.mono ?_
                    rintro e w13 ⟨rfl, hb13⟩
                    have HW13 := Lib.hid (below_next HW12.out.1.box.below hb13)
                    clear x0 x1 x2 x3 y0 y1 y2 y3 hb13 c6
                    go_wp2_with fail
                    refine (awake_any _).mono ?_
                    rintro e w9 ⟨rfl, hb9⟩
                    go_wp2_with fail
                    go_ret
                    exact ⟨rfl, below_next HW13.out hb9⟩
end Go.Proofs.Ytieakippgeehgaa.Sb
