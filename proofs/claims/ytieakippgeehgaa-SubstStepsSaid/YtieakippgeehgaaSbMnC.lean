/- The contract of the closure of Many. -/
import Derived.Test.YtieakippgeehgaaSbInC
import Derived.Test.YtieakippgeehgaaSbMnA
namespace Go.Proofs.Ytieakippgeehgaa.Sb
open Go.RowKit
set_option linter.unusedSimpArgs false
set_option linter.unusedVariables false

/-- the three boxes of Many's closure -/
structure MnBox (w : World) (C A L Q : Nat) (t : Tm) (tv : Value) (l : List Tm) (lv : Value) (Ss : List Sp.Tm) (qv : Value) : Prop where
  hA : w.heap[A]? = some (.cells #[.int .i64 t.op, .int .i64 t.hd, .int .i64 t.n, tv] 24 (0, 0))
  hL : w.heap[L]? = some (.cells #[lv] 22 (0, 0))
  hQ : w.heap[Q]? = some (.cells #[qv] 25 (0, 0))
  lt : Lies w (· ≠ C) tv t.args
  ll : Lies w (· ≠ C) lv l
  lq : Sp.Lies w (· ≠ C) qv Ss
  ne : A ≠ C ∧ L ≠ C ∧ Q ≠ C
theorem MnBox.keep {w w' : World} {C A L Q : Nat} {t : Tm} {tv : Value} {l : List Tm} {lv : Value} {Ss : List Sp.Tm} {qv : Value} (H : MnBox w C A L Q t tv l lv Ss qv) (hb : Below w.heap.size w w') : MnBox w' C A L Q t tv l lv Ss qv :=
  ⟨heap_kept hb H.hA, heap_kept hb H.hL, heap_kept hb H.hQ, H.lt.keep hb, H.ll.keep hb, H.lq.keep hb, H.ne⟩

/-- what the region of in's call reads -/
abbrev CellsM (W : World) (O Q b bo B : Nat) (o0 o1 o2 o3 q0 e0 e1 v0 v1 v2 v3 : Value) : Prop :=
  W.cell? ⟨O, 0, none⟩ = some o0 ∧ W.cell? ⟨O, 1, none⟩ = some o1 ∧ W.cell? ⟨O, 2, none⟩ = some o2 ∧ W.cell? ⟨O, 3, none⟩ = some o3 ∧ W.cell? ⟨Q, 0, none⟩ = some q0 ∧ W.cell? ⟨b, bo, none⟩ = some e0 ∧ W.cell? ⟨b, bo + 1, none⟩ = some e1 ∧
  W.cell? ⟨B, 0, none⟩ = some v0 ∧ W.cell? ⟨B, 1, none⟩ = some v1 ∧ W.cell? ⟨B, 2, none⟩ = some v2 ∧ W.cell? ⟨B, 3, none⟩ = some v3
theorem cellsM_below {W W' : World} {O Q b bo B : Nat} {o0 o1 o2 o3 q0 e0 e1 v0 v1 v2 v3 : Value} (hb : Below W.heap.size W W') (x : CellsM W O Q b bo B o0 o1 o2 o3 q0 e0 e1 v0 v1 v2 v3) : CellsM W' O Q b bo B o0 o1 o2 o3 q0 e0 e1 v0 v1 v2 v3 := by
  obtain ⟨x1, x2, x3, x4, x5, x6, x7, x8, x9, x10, x11⟩ := x
  exact ⟨kept_cell hb x1, kept_cell hb x2, kept_cell hb x3, kept_cell hb x4, kept_cell hb x5, kept_cell hb x6, kept_cell hb x7, kept_cell hb x8, kept_cell hb x9, kept_cell hb x10, kept_cell hb x11⟩

theorem call_false (hF : Hid False) {p : Program} {F : Nat} {args : Array Value} {w : World} : Calls p F args w (fun e w' => e = .returned (.agg #[.int .i64 0, .int .i64 0, .int .i64 0, .slice none 0 0, .int .i64 0, .int .i64 0]) ∧ w = w') := hF.out.elim

set_option maxHeartbeats 16000000 in
set_option maxRecDepth 100000 in
theorem manyC_any (C A L Q : Nat) (tq th tn : Int) (ta : List Tm) (l : List Tm) (Ss : List Sp.Tm) (tv lv qv : Value) (w : World) (H : MnBox w C A L Q (.mk tq th tn ta) tv l lv Ss qv) (hC : cntAt C 0 w) (hpt : Tm.proper (.mk tq th tn ta) = true) (hpl : ∀ t ∈ l, Tm.proper t = true) (hl6 : l.length ≤ 600) (hlq : Ss.length = l.length) :
    Calls Try.prog 66 #[.pointer (some ⟨C, 0, none⟩), .pointer (some ⟨A, 0, none⟩), .pointer (some ⟨L, 0, none⟩), .pointer (some ⟨Q, 0, none⟩)] w (GivesP w C (manyO l Ss (.mk tq th tn ta) 0)) := by
  obtain ⟨ao, b, off, len, cap, oo, hh, kk, sv, tt, rfl, R⟩ := H.ll.open
  obtain ⟨aq, bq, oq, lenq, capq, kq, sq, tq2, rfl, RQ⟩ := H.lq.open
  obtain rfl : lenq = len := by rw [← R.length, ← RQ.length, hlq]
  obtain ⟨a1, n1, m1, rfl⟩ := H.lt.isSlice
  have hlen : lenq ≤ 600 := by rw [← R.length]; exact hl6
  have hb0 := one_below w (.cells #[.int .i64 0, .int .i64 0, .int .i64 0, .slice none 0 0, .int .i64 0, .int .i64 0] 77)
  have hz0 := heap_alloc_new w (.cells #[.int .i64 0, .int .i64 0, .int .i64 0, .slice none 0 0, .int .i64 0, .int .i64 0] 77)
  have hs0 : (w.alloc (.cells #[.int .i64 0, .int .i64 0, .int .i64 0, .slice none 0 0, .int .i64 0, .int .i64 0] 77)).heap.size = w.heap.size + 1 := by simp
  obtain ⟨X, hX⟩ : ∃ X, X = Tm.sz (.mk tq th tn ta) := ⟨_, rfl⟩
  obtain ⟨Y, hY⟩ : ∃ Y, Y = Tm.depth (.mk tq th tn ta) := ⟨_, rfl⟩
  have H0 := H.keep hb0
  obtain ⟨x0, x1, x2, x3⟩ := c4_of H0.hA
  have call1 := measured_any tq th tn (.slice a1 n1 m1) ta _ (H0.lt.more (S' := fun _ => True) fun _ _ _ => trivial) hpt
  have call2 : ∀ w1, Below (w.alloc (.cells #[.int .i64 0, .int .i64 0, .int .i64 0, .slice none 0 0, .int .i64 0, .int .i64 0] 77)).heap.size (w.alloc (.cells #[.int .i64 0, .int .i64 0, .int .i64 0, .slice none 0 0, .int .i64 0, .int .i64 0] 77)) w1 → Calls Try.prog 61 #[.agg #[.int .i64 tq, .int .i64 th, .int .i64 tn, .slice a1 n1 m1, .int .i64 X, .int .i64 Y], .int .i64 0] w1 fun e w2 => ∃ a3 n3 m3, e = .returned (.agg #[.int .i64 tq, .int .i64 th, .int .i64 tn, .slice a3 n3 m3, .int .i64 X, .int .i64 Y]) ∧ Below w1.heap.size w1 w2 ∧ Lies w2 (w1.heap.size ≤ ·) (.slice a3 n3 m3) ta := fun w1 hb => by
    have h := shifted_any tq th tn 0 (.slice a1 n1 m1) ta w1 ((H0.lt.more (S' := fun _ => True) (fun _ _ _ => trivial)).keep hb) hpt (by omega) (by omega)
    unfold GivesSh GivesPc at h
    rw [Tm.moved_zero] at h
    simp only [hpt, if_true, ← hX, ← hY] at h
    refine h.mono fun e w2 hx => ?_
    obtain ⟨v, rfl, hb2, L⟩ := hx
    obtain ⟨a3, n3, m3, rfl⟩ := L.isSlice
    exact ⟨a3, n3, m3, rfl, hb2, L⟩
  rw [← hX, ← hY] at call1
  have hcl := lt_blk hC
  have HH := Lib.hid H
  have HR := Lib.hid R
  have HRQ := Lib.hid RQ
  have HC := Lib.hid hC
  have HB0 := Lib.hid (And.intro hb0 (And.intro hz0 hs0))
  have HXY := Lib.hid (And.intro hX hY)
  have HP := Lib.hid (And.intro hpt hpl)
  have HL0 := Lib.hid H0.hL
  have hcc := fail_concrete
  have hlc := R.hl
  have hcap := R.hr
  have hlcq := RQ.hl
  have hcapq := RQ.hr
  clear H R RQ hC hb0 hz0 hs0 hX hY hpt hpl H0 hlq hl6
  go_enter Try.func66, Try.ntmps66
  go_wp2_with fail
  refine call1.mono ?_
  rintro e w1 ⟨rfl, hb1⟩
  have HB1 := Lib.hid hb1
  clear hb1 call1 x0 x1 x2 x3
  go_wp2_with fail
  refine (call2 _ HB1.out).mono ?_
  rintro e w2 ⟨a3, n3, m3, rfl, hb2, L2⟩
  have hbB := one_below w2 (.cells #[.int .i64 tq, .int .i64 th, .int .i64 tn, .slice a3 n3 m3, .int .i64 X, .int .i64 Y] 77)
  have hbw1 := below_next HB0.out.1 HB1.out
  have hbw2 := below_next hbw1 hb2
  have hsz1 : w.heap.size + 1 ≤ w1.heap.size := by have := HB1.out.size; have := HB0.out.2.2; omega
  have hsz2 := hb2.size
  have hLx := cell_in (heap_kept hbB (heap_kept hb2 (heap_kept HB1.out HL0.out))) 0 _ rfl
  have hst : InL w (w2.alloc (.cells #[.int .i64 tq, .int .i64 th, .int .i64 tn, .slice a3 n3 m3, .int .i64 X, .int .i64 Y] 77)) C w2.heap.size (manyO l Ss (.mk tq th tn ta) 0) (fun j f c => manyO (l.drop j) (Ss.drop j) f c) 0 (.mk tq th tn ta) (.slice a3 n3 m3) 0 := by
    refine ⟨Only.below (below_next hbw2 hbB) C, heap_kept hbB (heap_kept hb2 (heap_kept HB1.out HB0.out.2.1)), heap_kept (below_next hbw2 hbB) HC.out, by omega, ?_, by omega, ?_, HP.out.1, rfl⟩
    · rw [← HXY.out.1, ← HXY.out.2]; exact heap_alloc_new w2 _
    · exact ((L2.more (S' := fun b => w.heap.size < b ∧ b ≠ w2.heap.size) fun b hlt hS => by have hS' : w1.heap.size ≤ b := hS; omega).keep hbB)
  have HST := Lib.hid hst
  clear hst hbB hb2 L2 call2 hbw1 hbw2 hsz1 hsz2
  go_wp2_with fail
  clear hLx
  generalize w2.heap.size = B at *
  go_loopw [15] (fun i wr => ∃ (j : Nat) (f : Tm) (fv : Value) (cj : Nat), j ≤ lenq ∧ i = .int .i64 j ∧ InL w wr C B (manyO l Ss (.mk tq th tn ta) 0) (fun j f c => manyO (l.drop j) (Ss.drop j) f c) j f fv cj) (fun i _ => lenq - (intOf i).toNat)
  case atStart => exact ⟨0, _, _, 0, Nat.zero_le _, rfl, HST.out⟩
  case round =>
    obtain ⟨j, f, fv, cj, hj, rfl, K⟩ := hrel
    obtain ⟨fo, fh, fk, fl⟩ := f
    have hcw : C < w.heap.size := hcl
    by_cases hlt : j < lenq
    · have hjl : j < l.length := by rw [HR.out.length]; exact hlt
      have hjq : j < Ss.length := by rw [HRQ.out.length]; exact hlt
      have hj0 : (0 : Int) ≤ (j : Int) := by omega
      have hj1 : (j : Int) < (lenq : Int) := by omega
      obtain rfl := HR.out.hao (by omega)
      obtain rfl := HRQ.out.hao (by omega)
      obtain ⟨d0, d1, d2, d3, hsub⟩ := HR.out.atO K.only j hlt
      obtain ⟨a5, n5, m5, hs5⟩ := hsub.isSlice
      rw [hs5] at d3 hsub
      obtain ⟨e0, e1, hsq⟩ := HRQ.out.atO K.only j hlt
      obtain ⟨a7, n7, m7, hs7⟩ := hsq.isSlice
      rw [hs7] at e0 hsq
      obtain ⟨a6, n6, m6, rfl⟩ := K.lf.isSlice
      have hg : l[j]'hjl = .mk (oo j) (hh j) (kk j) (tt j) := HR.out.get j hlt
      have hgq : Ss[j]'hjq = .mk (kq j) (tq2 j) := HRQ.out.get j hlt
      have hpj := HP.out.2 _ (List.getElem_mem hjl)
      rw [hg] at hpj
      have hsf := manyO_drop hjl hjq K.sofar
      have hleft : ((l.length - 1 - j : Nat) : Int) = (lenq : Int) - 1 - (j : Int) := by rw [HR.out.length]; omega
      rw [hg, hgq, hleft] at hsf
      have hba := one_below wr (.cells #[.int .i64 (oo j), .int .i64 (hh j), .int .i64 (kk j), .slice a5 n5 m5] 24)
      have hOn := heap_alloc_new wr (.cells #[.int .i64 (oo j), .int .i64 (hh j), .int .i64 (kk j), .slice a5 n5 m5] 24)
      have hLw := cell_in (heap_kept hba (Only.keepBlock K.only HH.out.hL HH.out.ne.2.1)) 0 _ rfl
      have hQw := cell_in (heap_kept hba (Only.keepBlock K.only HH.out.hQ HH.out.ne.2.2)) 0 _ rfl
      have hB : wr.heap[B]? = some (.cells #[.int .i64 fo, .int .i64 fh, .int .i64 fk, .slice a6 n6 m6, .int .i64 (Tm.sz (.mk fo fh fk fl) : Nat), .int .i64 (Tm.depth (.mk fo fh fk fl) : Nat)] 77 (0, 0)) := K.hB
      have hpf : Tm.proper (.mk fo fh fk fl) = true := K.pr
      have hfz := (Tm.proper_two hpf).1
      have lB := lt_blk hB
      have bB := K.bB
      have hlf0 : Lies wr (· ≠ C) (.slice a6 n6 m6) fl := K.lf.more fun b _ hS => by have := hS.1; omega
      have HK := Lib.hid K
      have HSZ := Lib.hid (And.intro hpf hfz)
      obtain ⟨F1, hF1⟩ : ∃ x : Int, x = (Tm.sz (.mk fo fh fk fl) : Nat) := ⟨_, rfl⟩
      obtain ⟨F2, hF2⟩ : ∃ x : Int, x = (Tm.depth (.mk fo fh fk fl) : Nat) := ⟨_, rfl⟩
      rw [← hF1, ← hF2] at hB
      have hgood := fun (s : Tm) => put_good (.mk (kq j) (tq2 j)) s 0 (.mk fo fh fk fl) cj K.bd hpf
      have hsw : (wr.alloc (.cells #[.int .i64 (oo j), .int .i64 (hh j), .int .i64 (kk j), .slice a5 n5 m5] 24)).heap.size = wr.heap.size + 1 := by simp
      have hOC : Only C w (wr.alloc (.cells #[.int .i64 (oo j), .int .i64 (hh j), .int .i64 (kk j), .slice a5 n5 m5] 24)) := K.only.trans (Only.below hba C)
      have hcW := heap_kept hba K.cnt
      have hcb := K.bd
      have hbW := heap_kept hba hB
      have hqW := kept_cell hba e0
      have hqW1 := kept_cell hba e1
      have hsubW := hsub.keep hba
      have hsqW := hsq.keep hba
      have hlfW := hlf0.keep hba
      have hOW := Only.below hba C
      clear K hsub hsq hs5 hs7 hg hgq hleft hB e0 e1 hF1 hF2 hlf0 hpf hfz
      generalize hWe : wr.alloc (.cells #[.int .i64 (oo j), .int .i64 (hh j), .int .i64 (kk j), .slice a5 n5 m5] 24) = W at *
      obtain ⟨c0, c1, c2, c3⟩ := c4_of hOn
      obtain ⟨⟨v0, v1, v2, v3, _, _⟩, _⟩ := cells6_of hbW
      have hS0 : CellsM W wr.heap.size Q bq (oq + j * 2) B (.int .i64 (oo j)) (.int .i64 (hh j)) (.int .i64 (kk j)) (.slice a5 n5 m5) (.slice (some ⟨bq, oq, none⟩) lenq capq) (.slice a7 n7 m7) (.int .i64 (kq j)) (.int .i64 fo) (.int .i64 fh) (.int .i64 fk) (.slice a6 n6 m6) :=
        ⟨c0, c1, c2, c3, hQw, hqW, hqW1, v0, v1, v2, v3⟩
      obtain ⟨X1, hX1⟩ : ∃ X, X = Tm.sz (.mk (oo j) (hh j) (kk j) (tt j)) := ⟨_, rfl⟩
      obtain ⟨Y1, hY1⟩ : ∃ Y, Y = Tm.depth (.mk (oo j) (hh j) (kk j) (tt j)) := ⟨_, rfl⟩
      have call1 : ∀ w1, Below W.heap.size W w1 → Calls Try.prog 44 #[.agg #[.int .i64 (oo j), .int .i64 (hh j), .int .i64 (kk j), .slice a5 n5 m5]] w1 fun e w2 => e = .returned (.agg #[.int .i64 (oo j), .int .i64 (hh j), .int .i64 (kk j), .slice a5 n5 m5, .int .i64 X1, .int .i64 Y1]) ∧ Below W.heap.size W w2 := fun w1 hb => by
        have h := measured_any (oo j) (hh j) (kk j) (.slice a5 n5 m5) (tt j) w1 ((hsubW.more (S' := fun _ => True) (fun _ _ _ => trivial)).keep hb) hpj
        rw [← hX1, ← hY1] at h
        exact h.mono fun e w2 hx => ⟨hx.1, below_next hb hx.2⟩
      have call2 : ∀ w1, Below W.heap.size W w1 → Calls Try.prog 61 #[.agg #[.int .i64 (oo j), .int .i64 (hh j), .int .i64 (kk j), .slice a5 n5 m5, .int .i64 X1, .int .i64 Y1], .int .i64 ((lenq : Int) - 1 - (j : Int))] w1 (GivesSh w1 (.mk (oo j) (hh j) (kk j) (tt j)) ((lenq : Int) - 1 - (j : Int))) := fun w1 hb => by
        have h := shifted_any (oo j) (hh j) (kk j) ((lenq : Int) - 1 - (j : Int)) (.slice a5 n5 m5) (tt j) w1 ((hsubW.more (S' := fun _ => True) (fun _ _ _ => trivial)).keep hb) hpj (by omega) (by omega)
        rw [← hX1, ← hY1] at h
        exact h
      have HD : Hid (Below W.heap.size W W.drew) := Lib.hid (Below.refl _ _).drew
      have HZ := Lib.hid hbW
      have HW : Hid (Only C w W ∧ Only C wr W ∧ B ≠ C ∧ C < W.heap.size) := Lib.hid ⟨hOC, hOW, by omega, by omega⟩
      have HCW := Lib.hid hcw
      have hcwi := HCW
      clear hX1 hY1 c0 c1 c2 c3 v0 v1 v2 v3 hqW hqW1 hQw hbW hOC hOW hcw lB bB
      go_upto_region 6 with fail
      clear hWe
      rcases hpm : Tm.proper (Tm.moved ((lenq : Int) - 1 - (j : Int)) 0 (.mk (oo j) (hh j) (kk j) (tt j))) with _ | _
      · simp only [hpm, Bool.false_eq_true, if_false] at hsf
        have call3 : ∀ w1, Below W.heap.size W w1 → Calls Try.prog 61 #[.agg #[.int .i64 (oo j), .int .i64 (hh j), .int .i64 (kk j), .slice a5 n5 m5, .int .i64 X1, .int .i64 Y1], .int .i64 ((lenq : Int) - 1 - (j : Int))] w1 fun e w2 => e = .panicked (failure 5) ∧ Only C W w2 := fun w1 hb => by
          have h := call2 w1 hb
          unfold GivesSh at h
          rw [hpm] at h
          exact h.mono fun e w2 hx => ⟨hx.1, Only.below (below_next hb hx.2) C⟩
        have HRR : Hid (manyO l Ss (.mk tq th tn ta) 0 = .er 5) := Lib.hid hsf
        clear hpm hsf hgood call2 hsubW hsqW hlfW hcW hpj hjl hjq hba hOn hsw
        go_region_held2 (fun W => CellsM W wr.heap.size Q bq (oq + j * 2) B (.int .i64 (oo j)) (.int .i64 (hh j)) (.int .i64 (kk j)) (.slice a5 n5 m5) (.slice (some ⟨bq, oq, none⟩) lenq capq) (.slice a7 n7 m7) (.int .i64 (kq j)) (.int .i64 fo) (.int .i64 fh) (.int .i64 fk) (.slice a6 n6 m6))
          (first | (with_reducible exact hS0) | (with_reducible exact hcn) | (with_reducible exact cellsM_below HD.out hS0) | (exact hF.out.elim) | fail)
          (first
            | (go_at_call 44; (with_reducible refine (call1 _ ?_).mono ?_); (first | (with_reducible exact HD.out) | fail); rintro e w1 ⟨rfl, hb1⟩; have hcn := cellsM_below hb1 hS0)
            | (go_at_call 61; (with_reducible refine (call3 _ ?_).mono ?_); (with_reducible exact hb1); intro e w2 h1; cases e; rotate_left; (obtain ⟨h1, ho⟩ := h1; cases h1; refine ⟨rfl, ?_⟩; rw [HRR.out]; exact ⟨rfl, HW.out.1.trans ho⟩); (exact absurd h1.1 (fun h => by cases h)); (obtain ⟨h1, ho⟩ := h1; have hF : Hid False := absurd h1 (fun h => by cases h)); (rename_i vv; obtain rfl : vv = Value.agg #[.int .i64 0, .int .i64 0, .int .i64 0, .slice none 0 0, .int .i64 0, .int .i64 0] := hF.out.elim); (clear h1); dsimp only; have hz2 := Only.keepBlock ho HZ.out HW.out.2.2.1; obtain ⟨⟨x0, x1, x2, x3, x4, x5⟩, f0, f1, f2, f3, f4, f5⟩ := cells6_of hz2; (clear hz2 ho))
            | (go_at_call 45; (with_reducible refine (call_false hF).mono ?_); rintro e w3 ⟨rfl, rfl⟩)
            | fail)
        all_goals (exact hF.out.elim)
      · simp only [hpm, if_true] at hsf
        obtain ⟨mo, mh, mk, ml, hmv⟩ : ∃ a b c d, Tm.moved ((lenq : Int) - 1 - (j : Int)) 0 (.mk (oo j) (hh j) (kk j) (tt j)) = .mk a b c d := ⟨_, _, _, _, (tm_eq _).symm⟩
        rw [hmv] at hsf hpm
        obtain ⟨X2, hX2⟩ : ∃ X, X = Tm.sz (.mk mo mh mk ml) := ⟨_, rfl⟩
        obtain ⟨Y2, hY2⟩ : ∃ Y, Y = Tm.depth (.mk mo mh mk ml) := ⟨_, rfl⟩
        have call3 : ∀ w1, Below W.heap.size W w1 → Calls Try.prog 61 #[.agg #[.int .i64 (oo j), .int .i64 (hh j), .int .i64 (kk j), .slice a5 n5 m5, .int .i64 X1, .int .i64 Y1], .int .i64 ((lenq : Int) - 1 - (j : Int))] w1 fun e w2 => ∃ a n m, e = .returned (.agg #[.int .i64 mo, .int .i64 mh, .int .i64 mk, .slice a n m, .int .i64 X2, .int .i64 Y2]) ∧ Below W.heap.size W w2 ∧ Lies w2 (W.heap.size ≤ ·) (.slice a n m) ml := fun w1 hb => by
          have h := call2 w1 hb
          unfold GivesSh GivesPc at h
          rw [hmv] at h
          simp only [hpm, if_true, ← hX2, ← hY2, Tm.op, Tm.hd, Tm.n, Tm.args] at h
          refine h.mono fun e w2 hx => ?_
          obtain ⟨v, rfl, hb2, L⟩ := hx
          obtain ⟨a3, n3, m3, rfl⟩ := L.isSlice
          exact ⟨a3, n3, m3, rfl, below_next hb hb2, L.more fun b _ hS => Nat.le_trans hb.size hS⟩
        have hgood := hgood (.mk mo mh mk ml)
        obtain ⟨r, hr⟩ : ∃ r, r = put (.mk (kq j) (tq2 j)) (.mk mo mh mk ml) 0 (.mk fo fh fk fl) cj := ⟨_, rfl⟩
        rw [← hr] at hsf hgood
        have call4 : ∀ a n m w1, Below W.heap.size W w1 → Lies w1 (W.heap.size ≤ ·) (.slice a n m) ml → Calls Try.prog 45 #[.agg #[.pointer (some ⟨C, 0, none⟩), .int .i64 mo, .int .i64 mh, .int .i64 mk, .slice a n m, .int .i64 X2, .int .i64 Y2, .slice a7 n7 m7, .int .i64 (kq j)], .agg #[.int .i64 fo, .int .i64 fh, .int .i64 fk, .slice a6 n6 m6], .int .i64 0] w1 (GivesP w1 C r) := fun a n m w1 hb hL => by
          have h := in_any C (kq j) (tq2 j) (.mk mo mh mk ml) hpm (.slice a n m) (.slice a7 n7 m7) (.mk fo fh fk fl) 0 cj w1 (.slice a6 n6 m6) (hlfW.keep hb) (hL.more fun b _ hS => by have hS' : W.heap.size ≤ b := hS; have := HW.out.2.2.2; omega) (hsqW.keep hb) (heap_kept hb hcW) hcb (by omega) (by have := HSZ.out.2; omega) HSZ.out.1
          rw [← hr] at h
          unfold subV at h
          simp only [Tm.op, Tm.hd, Tm.n, ← hX2, ← hY2] at h
          exact h
        have HRR := Lib.hid (And.intro hsf hgood)
        clear hpm hmv hsf hgood call2 hX2 hY2 hr hsubW hsqW hlfW hcW hpj hjl hjq hba hOn hsw hLw
        rcases r with ⟨x, c'⟩ | x
        · have call5 : ∀ a n m w1, Below W.heap.size W w1 → Lies w1 (W.heap.size ≤ ·) (.slice a n m) ml → Calls Try.prog 45 #[.agg #[.pointer (some ⟨C, 0, none⟩), .int .i64 mo, .int .i64 mh, .int .i64 mk, .slice a n m, .int .i64 X2, .int .i64 Y2, .slice a7 n7 m7, .int .i64 (kq j)], .agg #[.int .i64 fo, .int .i64 fh, .int .i64 fk, .slice a6 n6 m6], .int .i64 0] w1 fun e w2 => ∃ a3 n3 m3, e = .returned (.agg #[.int .i64 x.op, .int .i64 x.hd, .int .i64 x.n, .slice a3 n3 m3, .int .i64 (Tm.sz x : Nat), .int .i64 (Tm.depth x : Nat)]) ∧ Only C W w2 ∧ cntAt C c' w2 ∧ Lies w2 (W.heap.size ≤ ·) (.slice a3 n3 m3) x.args := fun a n m w1 hb hL => by
            refine (call4 a n m w1 hb hL).mono fun e w2 hx => ?_
            obtain ⟨v, rfl, ho, hc, L⟩ := hx
            obtain ⟨a3, n3, m3, rfl⟩ := L.isSlice
            exact ⟨a3, n3, m3, rfl, (Only.below hb C).trans ho, hc, L.more fun b _ hS => Nat.le_trans hb.size hS⟩
          clear call4
          obtain ⟨h0, h1, h2, h3, h4, h5, h6, h7, h8, h9, h10⟩ := hS0
          have HS0 := Lib.hid (show CellsM W wr.heap.size Q bq (oq + j * 2) B (.int .i64 (oo j)) (.int .i64 (hh j)) (.int .i64 (kk j)) (.slice a5 n5 m5) (.slice (some ⟨bq, oq, none⟩) lenq capq) (.slice a7 n7 m7) (.int .i64 (kq j)) (.int .i64 fo) (.int .i64 fh) (.int .i64 fk) (.slice a6 n6 m6) from ⟨h0, h1, h2, h3, h4, h5, h6, h7, h8, h9, h10⟩)
          go_region_law (first
              | (go_simp; go_at_call 44; (with_reducible refine (call1 _ ?_).mono ?_); (first | (with_reducible exact HD.out) | fail); rintro e w1 ⟨rfl, hb1⟩; (obtain ⟨k0, k1, k2, k3, k4, k5, k6, k7, k8, k9, k10⟩ := cellsM_below hb1 HS0.out))
              | (go_simp; go_at_call 61; (with_reducible refine (call3 _ ?_).mono ?_); (with_reducible exact hb1); rintro e w2 ⟨a2, n2, m2, rfl, hb2, L2⟩; (obtain ⟨l0, l1, l2, l3, l4, l5, l6, l7, l8, l9, l10⟩ := cellsM_below hb2 HS0.out))
              | (go_simp; go_at_call 45; (with_reducible refine (call5 _ _ _ _ ?_ ?_).mono ?_); (with_reducible exact hb2); (with_reducible exact L2); rintro e w3 ⟨a3, n3, m3, rfl, ho, hc, L⟩; have HO := Lib.hid (And.intro ho (And.intro hc L)); have hz2 := Only.keepBlock ho HZ.out HW.out.2.2.1; obtain ⟨⟨x0, x1, x2, x3, x4, x5⟩, f0, f1, f2, f3, f4, f5⟩ := cells6_of hz2; have HZ2 := Lib.hid hz2; (clear hz2 ho hc L))
              | fail)
          all_goals
            go_wp2_with fail
            go_roundw
            case rel =>
              have h := HK.out.next HCW.out (HW.out.2.1.trans HO.out.1) HO.out.2.1 HRR.out.2.2.2 (HO.out.2.2.more fun b _ hS => Nat.le_trans HW.out.2.1.size hS) HRR.out.2.1 HRR.out.1
              unfold set6 at h
              exact ⟨j + 1, x, .slice a3 n3 m3, c', by omega, by go_num, h⟩
            case measure => simp [intOf]; omega
        · have call5 : ∀ a n m w1, Below W.heap.size W w1 → Lies w1 (W.heap.size ≤ ·) (.slice a n m) ml → Calls Try.prog 45 #[.agg #[.pointer (some ⟨C, 0, none⟩), .int .i64 mo, .int .i64 mh, .int .i64 mk, .slice a n m, .int .i64 X2, .int .i64 Y2, .slice a7 n7 m7, .int .i64 (kq j)], .agg #[.int .i64 fo, .int .i64 fh, .int .i64 fk, .slice a6 n6 m6], .int .i64 0] w1 fun e w2 => e = .panicked (failure x) ∧ Only C W w2 := fun a n m w1 hb hL => (call4 a n m w1 hb hL).mono fun e w2 hx => ⟨hx.1, (Only.below hb C).trans hx.2⟩
          clear call4
          go_region_held2 (fun W => CellsM W wr.heap.size Q bq (oq + j * 2) B (.int .i64 (oo j)) (.int .i64 (hh j)) (.int .i64 (kk j)) (.slice a5 n5 m5) (.slice (some ⟨bq, oq, none⟩) lenq capq) (.slice a7 n7 m7) (.int .i64 (kq j)) (.int .i64 fo) (.int .i64 fh) (.int .i64 fk) (.slice a6 n6 m6))
            (first | (with_reducible exact hS0) | (with_reducible exact hcn2) | (with_reducible exact hcn) | (with_reducible exact cellsM_below HD.out hS0) | (exact hF.out.elim) | fail)
            (first
              | (go_at_call 44; (with_reducible refine (call1 _ ?_).mono ?_); (first | (with_reducible exact HD.out) | fail); rintro e w1 ⟨rfl, hb1⟩; have hcn := cellsM_below hb1 hS0)
              | (go_at_call 61; (with_reducible refine (call3 _ ?_).mono ?_); (with_reducible exact hb1); rintro e w2 ⟨a2, n2, m2, rfl, hb2, L2⟩; have hcn2 := cellsM_below hb2 hS0)
              | (go_at_call 45; (with_reducible refine (call5 _ _ _ _ ?_ ?_).mono ?_); (with_reducible exact hb2); (with_reducible exact L2); intro e w3 h1; cases e; rotate_left; (obtain ⟨h1, ho⟩ := h1; cases h1; refine ⟨rfl, ?_⟩; rw [HRR.out.1]; exact ⟨rfl, HK.out.only.trans (HW.out.2.1.trans ho)⟩); (exact absurd h1.1 (fun h => by cases h)); (obtain ⟨h1, ho⟩ := h1; have hF : Hid False := absurd h1 (fun h => by cases h)); (rename_i vv; obtain rfl : vv = Value.agg #[.int .i64 0, .int .i64 0, .int .i64 0, .slice none 0 0, .int .i64 0, .int .i64 0] := hF.out.elim); (clear h1); dsimp only; have hz2 := Only.keepBlock ho HZ.out HW.out.2.2.1; obtain ⟨⟨x0, x1, x2, x3, x4, x5⟩, f0, f1, f2, f3, f4, f5⟩ := cells6_of hz2; (clear hz2 ho))
              | fail)
          all_goals (exact hF.out.elim)
    · obtain rfl : j = lenq := by omega
      have hsf := K.sofar
      simp only [List.drop_of_length_le (show l.length ≤ j by rw [HR.out.length]; exact Nat.le_refl _), manyO] at hsf
      have hj1 : ¬ (j : Int) < (j : Int) := by omega
      obtain ⟨F1, hF1⟩ : ∃ x, x = Tm.sz (.mk fo fh fk fl) := ⟨_, rfl⟩
      obtain ⟨F2, hF2⟩ : ∃ x, x = Tm.depth (.mk fo fh fk fl) := ⟨_, rfl⟩
      obtain ⟨a6, n6, m6, rfl⟩ := K.lf.isSlice
      have hB : wr.heap[B]? = some (.cells #[.int .i64 fo, .int .i64 fh, .int .i64 fk, .slice a6 n6 m6, .int .i64 F1, .int .i64 F2] 77 (0, 0)) := by rw [hF1, hF2]; exact K.hB
      obtain ⟨⟨x0, x1, x2, x3, x4, x5⟩, _⟩ := cells6_of hB
      obtain ⟨⟨z0, z1, z2, z3, z4, z5⟩, g0, g1, g2, g3, g4, g5⟩ := cells6_of K.hR
      have HK := Lib.hid K
      have HSF := Lib.hid hsf
      have HFF := Lib.hid (And.intro hF1 hF2)
      clear K hsf hF1 hF2 hB
      go_wp2_with fail
      have hz := set6_at HK.out.hR (.int .i64 fo) (.int .i64 fh) (.int .i64 fk) (.slice a6 n6 m6) (.int .i64 F1) (.int .i64 F2)
      obtain ⟨⟨v0, v1, v2, v3, v4, v5⟩, _⟩ := cells6_of hz
      unfold set6 at v0 v1 v2 v3 v4 v5
      refine bodyPost_ret (v := .agg #[.int .i64 fo, .int .i64 fh, .int .i64 fk, .slice a6 n6 m6, .int .i64 F1, .int .i64 F2]) (by simp [results, Try.results66, go_sem, v0, v1, v2, v3, v4, v5]) rfl ?_
      rw [HSF.out]
      exact givesP_stored (B := w.heap.size) HK.out.only HK.out.cnt hcw (Nat.le_refl _) (HK.out.lf.more fun b _ hS => ⟨by have := hS.1; omega, by have := hS.1; omega⟩) (by rw [HFF.out.1]) (by rw [HFF.out.2])
end Go.Proofs.Ytieakippgeehgaa.Sb
