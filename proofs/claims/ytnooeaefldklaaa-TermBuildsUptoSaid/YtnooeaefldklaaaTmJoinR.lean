/- The contract of the reference's Join. -/
import Derived.Test.YtnooeaefldklaaaTmArrowR
namespace Go.Proofs.Ytnooeaefldklaaa
open Go.RowKit
set_option linter.unusedSimpArgs false
set_option linter.unusedVariables false

/-- the joined tail: the domains from the k-th on -/
def joinFrom (l : List Tm) (t : Tm) (k : Nat) : Tm := joinL (l.drop k) t
theorem joinFrom_end {l : List Tm} {t : Tm} {k : Nat} (h : l.length ≤ k) : joinFrom l t k = t := by
  unfold joinFrom; rw [List.drop_eq_nil_of_le h]; rfl
theorem joinFrom_step {l : List Tm} {t : Tm} {k : Nat} (h : k < l.length) : joinFrom l t k = Tm.pi l[k] (joinFrom l t (k + 1)) := by
  unfold joinFrom; rw [List.drop_eq_getElem_cons h]; rfl
theorem joinFrom_fit {l : List Tm} {t : Tm} (ht : t.fit) : ∀ k, (joinFrom l t k).fit := by
  intro k
  by_cases h : k < l.length
  · rw [joinFrom_step h]; exact ⟨by simp [Tm.pi, Tm.op], by simp [Tm.pi, Tm.hd], by simp [Tm.pi, Tm.n]⟩
  · rw [joinFrom_end (by omega)]; exact ht

/-- what the reference's Join returns: for forty domains too the result is not proper -/
theorem joinL_deep : ∀ (l : List Tm) (t : Tm) (d : Nat), Tm.formed (joinL l t) d = true → d + l.length ≤ 40
  | [], t, d, h => by
    obtain ⟨o, hd, n, a⟩ := t
    simp only [joinL, List.foldr_nil, Tm.formed, Bool.and_eq_true, decide_eq_true_eq] at h
    simp; omega
  | a :: l, t, d, h => by
    have h' : Tm.formed (.mk 2 0 0 [a, joinL l t]) d = true := h
    simp only [Tm.formed, Tm.formedL, Bool.and_eq_true] at h'
    have := joinL_deep l t (d + 1) h'.2.2.1
    simp only [List.length_cons]; omega
theorem joinOut_ref (l : List Tm) (t : Tm) : joinOut l t = if l.all Tm.proper && Tm.proper t then (if 40 < l.length then (Tm.zero, 5) else joinEnd (joinL l t)) else (Tm.zero, 2) := by
  unfold joinOut
  by_cases h : l.length = 40
  · have hn : ¬ Tm.proper (joinL l t) = true := by
      intro hp
      have := joinL_deep l t 1 (Tm.proper_formed' hp).2
      omega
    have e : joinEnd (joinL l t) = (Tm.zero, 5) := by unfold joinEnd; rw [if_neg hn]
    rw [e]; simp [h]
  · have : (40 ≤ l.length) ↔ (40 < l.length) := by omega
    simp only [this]

/-- the second loop: the parameter's box holds what has been joined -/
structure JoinSt (w : World) (T : Tm) (wr : World) : Prop where
  box : ∃ v, wr.heap[w.heap.size]? = some (.cells #[.int .i64 T.op, .int .i64 T.hd, .int .i64 T.n, v] 24 (0, 0)) ∧ Lies wr (fun b => b ≠ w.heap.size ∧ b ≠ w.heap.size + 1) v T.args
  res : wr.heap[w.heap.size + 1]? = some (.cells #[.int .i64 0, .int .i64 0, .int .i64 0, .slice none 0 0] 24 (0, 0))
  below : Below w.heap.size w wr
  fit : T.fit
theorem JoinSt.keep {w wr w' : World} {T : Tm} (h : JoinSt w T wr) (hb : Below wr.heap.size wr w') : JoinSt w T w' := by
  obtain ⟨v, h1, h2⟩ := h.box
  exact ⟨⟨v, heap_kept hb h1, h2.keep hb⟩, heap_kept hb h.res, h.below.trans (hb.mono h.below.size), h.fit⟩
theorem JoinSt.put {w wr : World} {T a : Tm} {x : Option Addr} {n m : Nat} (h : JoinSt w T wr) (hl : Lies wr (fun b => b ≠ w.heap.size ∧ b ≠ w.heap.size + 1) (.slice x n m) [a, T]) :
    JoinSt w (Tm.pi a T) ((((wr.setCell ⟨w.heap.size, 0, none⟩ (.int .i64 2)).setCell ⟨w.heap.size, 1, none⟩ (.int .i64 0)).setCell ⟨w.heap.size, 2, none⟩ (.int .i64 0)).setCell ⟨w.heap.size, 3, none⟩ (.slice x n m)) := by
  obtain ⟨v, h1, _⟩ := h.box
  refine ⟨⟨_, set4_at h1 _ _ _ _, hl.still fun b hS _ => heap_set4 _ _ _ _ hS.1 hS.1 hS.1 hS.1⟩, (heap_set4 _ _ _ _ (by simp) (by simp) (by simp) (by simp)).trans h.res, (((h.below.setCell (by simp) _).setCell (by simp) _).setCell (by simp) _).setCell (by simp) _, ⟨by simp [Tm.pi, Tm.op], by simp [Tm.pi, Tm.hd], by simp [Tm.pi, Tm.n]⟩⟩
set_option maxHeartbeats 16000000 in
set_option maxRecDepth 100000 in
theorem joinR_any (t : Tm) (v vl : Value) (l : List Tm) (w : World) (hv : Lies w (fun _ => True) v t.args) (hl : Lies w (fun _ => True) vl l) (T : Tm) (er : Int) (hT : joinOut l t = (T, er)) :
    Calls Try.prog 34 #[vl, .agg #[.int .i64 t.op, .int .i64 t.hd, .int .i64 t.n, v]] w (GivesOne w T er) := by
  obtain ⟨a2, n2, m2, rfl⟩ := hv.isSlice
  obtain ⟨ad, bb, off, len, cap, oo, hh, kk, sv, ts, rfl, R⟩ := hl.open
  rw [joinOut_ref] at hT
  have hl9 : len ≤ 9223372036854775807 := Nat.le_trans R.hl R.hr
  have HV := Lib.hid hv
  have HR := Lib.hid R
  have HTT := Lib.hid hT
  have HLN := Lib.hid R.length
  have HB := Lib.hid (two_blocks w #[.int .i64 t.op, .int .i64 t.hd, .int .i64 t.n, .slice a2 n2 m2] #[.int .i64 0, .int .i64 0, .int .i64 0, .slice none 0 0] 24 24)
  have H2 := Lib.hid (two_below w (.cells #[.int .i64 t.op, .int .i64 t.hd, .int .i64 t.n, .slice a2 n2 m2] 24) (.cells #[.int .i64 0, .int .i64 0, .int .i64 0, .slice none 0 0] 24))
  clear hv hl R hT
  go_enter Try.func34, Try.ntmps34
  go_wp2_with fail
  obtain ⟨w0, hw0⟩ : ∃ w0, (w.alloc (.cells #[.int .i64 t.op, .int .i64 t.hd, .int .i64 t.n, .slice a2 n2 m2] 24)).alloc (.cells #[.int .i64 0, .int .i64 0, .int .i64 0, .slice none 0 0] 24) = w0 := ⟨_, rfl⟩
  rw [hw0] at HB H2 ⊢
  clear hw0
  go_loopw [6] (fun i wr => ∃ k : Nat, k ≤ len ∧ i = .int .i64 k ∧ PropTo l k ∧ Below w0.heap.size w0 wr) (fun i _ => len - (intOf i).toNat)
  case atStart => exact ⟨0, Nat.zero_le _, rfl, PropTo.zero _, Below.refl _ _⟩
  case round =>
    obtain ⟨k, hk, rfl, hpr, hbr⟩ := hrel
    have hbw := below_next H2.out hbr
    have hr0 := Lib.hid (heap_kept hbr HB.out.2)
    have hb0 := Lib.hid (heap_kept hbr HB.out.1)
    by_cases hlt : k < len
    · obtain rfl := HR.out.hao (by omega)
      obtain ⟨d0, d1, d2, d3, hs⟩ := HR.out.at hbw k hlt
      have hkl : k < l.length := by rw [HLN.out]; exact hlt
      have hg := HR.out.get k hlt
      have ca := proper_t (.mk (oo k) (hh k) (kk k) (ts k)) (sv k) wr hs
      simp only [Tm.op, Tm.hd, Tm.n] at ca
      have hk0 : (0 : Int) ≤ (k : Int) := by omega
      have hk1 : (k : Int) < (len : Int) := by omega
      rcases hp : Tm.proper (.mk (oo k) (hh k) (kk k) (ts k)) with _ | _
      · have HN := Lib.hid (PropTo.not hkl (by rw [hg]; exact hp))
        rw [hp] at ca
        clear hp hpr hg
        go_wp2_with fail
        refine ca.mono ?_
        rintro e w1 ⟨rfl, hb1⟩
        have hr1 := Lib.hid (heap_kept hb1 hr0.out)
        obtain ⟨y0, y1, y2, y3⟩ := cells4_of hr1.out
        have f0 := free_in hr1.out 0
        have f1 := free_in hr1.out 1
        have f2 := free_in hr1.out 2
        have f3 := free_in hr1.out 3
        go_wp2
        have hb := below_next hbw hb1
        have hTe := HTT.out
        rw [HN.out] at hTe
        simp only [Bool.false_and, Bool.false_eq_true, if_false] at hTe
        have hz := set4_at hr1.out (.int .i64 0) (.int .i64 0) (.int .i64 0) (.slice none 0 0)
        obtain ⟨e0, e1, e2, e3⟩ := cells4_of hz
        refine bodyPost_ret (v := .tuple #[.agg #[.int .i64 0, .int .i64 0, .int .i64 0, .slice none 0 0], .int .i64 2]) (by simp [results, Try.results34, go_sem, e0, e1, e2, e3]) rfl ?_
        obtain ⟨rfl, rfl⟩ := Prod.mk.inj hTe
        exact ⟨_, _, _, rfl, (((hb.setCell (by simp) _).setCell (by simp) _).setCell (by simp) _).setCell (by simp) _, Lies.nil _ _⟩
      · have HP := Lib.hid (hpr.step hkl (by rw [hg]; exact hp))
        rw [hp] at ca
        clear hp hpr hg
        go_wp2_with fail
        refine ca.mono ?_
        rintro e w1 ⟨rfl, hb1⟩
        go_wp2_with fail
        go_roundw
        case rel => exact ⟨k + 1, by omega, by go_num, HP.out, hbr.trans (hb1.mono hbr.size)⟩
        case measure => simp [intOf]; omega
    · obtain rfl : k = len := by omega
      have HAL := Lib.hid (hpr.all (by rw [HLN.out]; omega))
      have c3 := proper_t t _ wr (HV.out.keep hbw)
      obtain ⟨x0, x1, x2, x3⟩ := cells4_of hb0.out
      clear hpr
      rcases hp : Tm.proper t with _ | _
      · rw [hp] at c3
        have HP := Lib.hid hp
        clear hp
        go_wp2_with fail
        refine c3.mono ?_
        rintro e w1 ⟨rfl, hb1⟩
        have hr1 := Lib.hid (heap_kept hb1 hr0.out)
        obtain ⟨y0, y1, y2, y3⟩ := cells4_of hr1.out
        have f0 := free_in hr1.out 0
        have f1 := free_in hr1.out 1
        have f2 := free_in hr1.out 2
        have f3 := free_in hr1.out 3
        go_wp2
        have hb := below_next hbw hb1
        have hTe := HTT.out
        rw [HP.out] at hTe
        simp only [Bool.and_false, Bool.false_eq_true, if_false] at hTe
        have hz := set4_at hr1.out (.int .i64 0) (.int .i64 0) (.int .i64 0) (.slice none 0 0)
        obtain ⟨e0, e1, e2, e3⟩ := cells4_of hz
        refine bodyPost_ret (v := .tuple #[.agg #[.int .i64 0, .int .i64 0, .int .i64 0, .slice none 0 0], .int .i64 2]) (by simp [results, Try.results34, go_sem, e0, e1, e2, e3]) rfl ?_
        obtain ⟨rfl, rfl⟩ := Prod.mk.inj hTe
        exact ⟨_, _, _, rfl, (((hb.setCell (by simp) _).setCell (by simp) _).setCell (by simp) _).setCell (by simp) _, Lies.nil _ _⟩
      · rw [hp] at c3
        have HP := Lib.hid hp
        clear hp
        go_wp2_with fail
        refine c3.mono ?_
        rintro e w1 ⟨rfl, hb1⟩
        have hr1 := Lib.hid (heap_kept hb1 hr0.out)
        have hb := below_next hbw hb1
        by_cases h40 : 40 < k
        · have h40' : (40 : Int) < (k : Int) := by omega
          obtain ⟨y0, y1, y2, y3⟩ := cells4_of hr1.out
          have f0 := free_in hr1.out 0
          have f1 := free_in hr1.out 1
          have f2 := free_in hr1.out 2
          have f3 := free_in hr1.out 3
          go_wp2
          have hTe := HTT.out
          rw [HAL.out, HP.out, HLN.out] at hTe
          simp only [Bool.and_self, if_true, h40] at hTe
          have hz := set4_at hr1.out (.int .i64 0) (.int .i64 0) (.int .i64 0) (.slice none 0 0)
          obtain ⟨e0, e1, e2, e3⟩ := cells4_of hz
          refine bodyPost_ret (v := .tuple #[.agg #[.int .i64 0, .int .i64 0, .int .i64 0, .slice none 0 0], .int .i64 5]) (by simp [results, Try.results34, go_sem, e0, e1, e2, e3]) rfl ?_
          obtain ⟨rfl, rfl⟩ := Prod.mk.inj hTe
          exact ⟨_, _, _, rfl, (((hb.setCell (by simp) _).setCell (by simp) _).setCell (by simp) _).setCell (by simp) _, Lies.nil _ _⟩
        · have h40' : ¬ (40 : Int) < (k : Int) := by omega
          have hTe := HTT.out
          rw [HAL.out, HP.out, HLN.out] at hTe
          simp only [Bool.and_self, if_true, h40, if_false] at hTe
          have HTE := Lib.hid hTe
          have hft := Tm.proper_fit HP.out
          have hst : JoinSt w (joinFrom l t k) w1 := by
            rw [joinFrom_end (by rw [HLN.out]; omega)]
            refine ⟨⟨_, heap_kept hb1 hb0.out, ?_⟩, hr1.out, hb, hft⟩
            exact ((HV.out.more (S' := fun b => b < w.heap.size) fun b hb _ => hb).keep hb).more fun b _ hS => ⟨by omega, by omega⟩
          have HST := Lib.hid hst
          have hsubk : IntKind.i64.wrap ((k : Int) - 1) = (k : Int) - 1 := IntWalk.i64_in _ (by omega)
          clear hTe hst x0 x1 x2 x3
          go_wp2_with fail
          go_loopw [7] (fun i wr => ∃ j : Nat, j ≤ k ∧ i = .int .i64 ((j : Int) - 1) ∧ JoinSt w (joinFrom l t j) wr) (fun i _ => (intOf i + 1).toNat)
          case atStart => exact ⟨k, Nat.le_refl _, rfl, HST.out⟩
          case round =>
            obtain ⟨j, hj, hi, H⟩ := hrel
            obtain ⟨J, hJ⟩ : ∃ J, J = joinFrom l t j := ⟨_, rfl⟩
            rw [← hJ] at H
            have HJ := Lib.hid hJ
            clear hJ
            obtain ⟨vJ, hbx, hlJ⟩ := H.box
            obtain ⟨aJ, nJ, mJ, rfl⟩ := hlJ.isSlice
            obtain ⟨x0, x1, x2, x3⟩ := cells4_of hbx
            have HBX := Lib.hid hbx
            have HLJ := Lib.hid hlJ
            have HH := Lib.hid H
            have hsz := lt_of_block H.res
            clear hbx hlJ H
            cases j with
            | zero =>
              have hi' : u7 = .int .i64 (-1) := by rw [hi]; rfl
              clear hi
              subst hi'
              have hJL : J = joinL l t := HJ.out
              have c4 := proper_t J _ wr (HLJ.out.more fun _ _ _ => trivial)
              rcases hq : Tm.proper J with _ | _
              · have hTe : (Tm.zero, (5 : Int)) = (T, er) := by
                  rw [← HTE.out, ← hJL]; unfold joinEnd; rw [hq]; rfl
                rw [hq] at c4
                have HTQ := Lib.hid hTe
                clear hq hTe hJL
                go_wp2_with fail
                refine c4.mono ?_
                rintro e w5 ⟨rfl, hb5⟩
                have hr1 := Lib.hid (heap_kept hb5 HH.out.res)
                have hb := below_next HH.out.below hb5
                obtain ⟨y0, y1, y2, y3⟩ := cells4_of hr1.out
                have f0 := free_in hr1.out 0
                have f1 := free_in hr1.out 1
                have f2 := free_in hr1.out 2
                have f3 := free_in hr1.out 3
                go_wp2
                have hTe := HTQ.out
                have hz := set4_at hr1.out (.int .i64 0) (.int .i64 0) (.int .i64 0) (.slice none 0 0)
                obtain ⟨e0, e1, e2, e3⟩ := cells4_of hz
                refine bodyPost_ret (v := .tuple #[.agg #[.int .i64 0, .int .i64 0, .int .i64 0, .slice none 0 0], .int .i64 5]) (by simp [results, Try.results34, go_sem, e0, e1, e2, e3]) rfl ?_
                obtain ⟨rfl, rfl⟩ := Prod.mk.inj hTe
                exact ⟨_, _, _, rfl, (((hb.setCell (by simp) _).setCell (by simp) _).setCell (by simp) _).setCell (by simp) _, Lies.nil _ _⟩
              · have hTe : (J, (0 : Int)) = (T, er) := by
                  rw [← HTE.out, ← hJL]; unfold joinEnd; rw [hq]; rfl
                rw [hq] at c4
                have HTQ := Lib.hid hTe
                clear hq hTe hJL
                go_wp2_with fail
                refine c4.mono ?_
                rintro e w5 ⟨rfl, hb5⟩
                have hr1 := Lib.hid (heap_kept hb5 HH.out.res)
                have hb := below_next HH.out.below hb5
                obtain ⟨g0, g1, g2, g3⟩ := cells4_of (heap_kept hb5 HBX.out)
                obtain ⟨y0, y1, y2, y3⟩ := cells4_of hr1.out
                have f0 := free_in hr1.out 0
                have f1 := free_in hr1.out 1
                have f2 := free_in hr1.out 2
                have f3 := free_in hr1.out 3
                clear x0 x1 x2 x3
                go_wp2
                have hz := set4_at hr1.out (.int .i64 J.op) (.int .i64 J.hd) (.int .i64 J.n) (.slice aJ nJ mJ)
                obtain ⟨e0, e1, e2, e3⟩ := cells4_of hz
                refine bodyPost_ret (v := .tuple #[.agg #[.int .i64 J.op, .int .i64 J.hd, .int .i64 J.n, .slice aJ nJ mJ], .int .i64 0]) (by simp [results, Try.results34, go_sem, e0, e1, e2, e3]) rfl ?_
                obtain ⟨rfl, rfl⟩ := Prod.mk.inj HTQ.out
                exact ⟨_, _, _, rfl, (((hb.setCell (by simp) _).setCell (by simp) _).setCell (by simp) _).setCell (by simp) _, ((HLJ.out.keep hb5).still fun b hS _ => heap_set4 _ _ _ _ hS.2 hS.2 hS.2 hS.2).more fun _ _ _ => trivial⟩
            | succ m =>
              have hi' : u7 = .int .i64 (m : Int) := by rw [hi]; congr 1; omega
              clear hi
              subst hi'
              have hmk : m < k := by omega
              obtain rfl := HR.out.hao (by omega)
              obtain ⟨d0, d1, d2, d3, _⟩ := HR.out.at HH.out.below m hmk
              obtain ⟨a8, n8, m8, hsv⟩ := (HR.out.sub m hmk).isSlice
              have hel : Lies wr (fun b => b ≠ w.heap.size ∧ b ≠ w.heap.size + 1) (sv m) (Tm.mk (oo m) (hh m) (kk m) (ts m)).args := (((HR.out.sub m hmk).more (S' := fun b => b < w.heap.size) fun b hb _ => hb).keep HH.out.below).more fun b _ hS => ⟨by omega, by omega⟩
              have cp := fun w1 (hb : Below wr.heap.size wr w1) => pi_flat (fun b => b ≠ w.heap.size ∧ b ≠ w.heap.size + 1) (.mk (oo m) (hh m) (kk m) (ts m)) J (sv m) (.slice aJ nJ mJ) w1 (hel.keep hb) (HLJ.out.keep hb) ⟨HR.out.r0 m hmk, HR.out.r1 m hmk, HR.out.r2 m hmk⟩ HH.out.fit
              simp only [show (Tm.mk (oo m) (hh m) (kk m) (ts m)).op = oo m from rfl, show (Tm.mk (oo m) (hh m) (kk m) (ts m)).hd = hh m from rfl, show (Tm.mk (oo m) (hh m) (kk m) (ts m)).n = kk m from rfl] at cp
              rw [hsv] at d3 cp
              have hdr : Below wr.heap.size wr wr.drew := (Below.refl _ _).drew
              have hm0 : (0 : Int) ≤ (m : Int) := by omega
              have hm1 : (m : Int) < (k : Int) := by omega
              have hmw : IntKind.i64.wrap ((m : Int) - 1) = (m : Int) - 1 := IntWalk.i64_in _ (by omega)
              clear hel
              go_upto_region 13 with fail
              go_region_with (go_at_call 63; (with_reducible refine (cp _ hdr).mono ?_); rintro e w9 ⟨x9, n9, m9, rfl, hb9, hx9⟩; have hd9 := hdr.trans hb9; have H9 := HH.out.keep hd9; have hbx9 := heap_kept hd9 HBX.out; obtain ⟨y0, y1, y2, y3⟩ := cells4_of hbx9; have f0 := free_in hbx9 0; have f1 := free_in hbx9 1; have f2 := free_in hbx9 2; have f3 := free_in hbx9 3)
              all_goals
                go_wp2_with fail
                go_roundw
                case rel =>
                  refine ⟨m, by omega, rfl, ?_⟩
                  rw [joinFrom_step (by rw [HLN.out]; exact hmk), HR.out.get m hmk, ← HJ.out]
                  exact H9.put (hx9.more fun b _ hS => by rcases hS with hS | hS; exact hS; exact ⟨by simp at hS; omega, by simp at hS; omega⟩)
                case measure => simp [intOf] <;> omega
end Go.Proofs.Ytnooeaefldklaaa
