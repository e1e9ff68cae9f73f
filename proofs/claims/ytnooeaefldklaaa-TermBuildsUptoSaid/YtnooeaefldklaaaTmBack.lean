/- For any term and any numbers: a term that is shifted by n and then by -n is the term, and by n and then by m it is shifted by n + m. No conditions. -/
import Derived.Test.YtnooeaefldklaaaRows
import Derived.Test.YtnooeaefldklaaaTmBackP
import Derived.Test.YtnooeaefldklaaaTmSameT
import Derived.Test.YtnooeaefldklaaaTmFormed
import Derived.ProofKit
namespace Go.Proofs.Ytnooeaefldklaaa
open Go.RowKit
set_option linter.unusedSimpArgs false
set_option linter.unusedVariables false

theorem u64_nonneg (N : Int) : 0 ≤ IntKind.u64.wrap N := by
  unfold IntKind.wrap
  simp [IntKind.bits, IntKind.signed]
  omega
theorem mod_small (N : Int) (k : Int) (h0 : 0 < k) (h1 : k ≤ 1000000) : 0 ≤ IntKind.i64.wrap ((IntKind.u64.wrap N).tmod k) ∧ IntKind.i64.wrap ((IntKind.u64.wrap N).tmod k) < k := by
  have h := u64_nonneg N
  generalize IntKind.u64.wrap N = x at h
  rw [Int.tmod_eq_emod_of_nonneg h]
  have h1 : 0 ≤ x % k := Int.emod_nonneg _ (by omega)
  have h2 : x % k < k := Int.emod_lt_of_pos _ (by omega)
  rw [IntWalk.i64_in _ ⟨by omega, by omega⟩]
  exact ⟨h1, h2⟩

theorem Tm.eta (t : Tm) : Tm.mk t.op t.hd t.n t.args = t := by cases t; rfl
theorem Tm.proper_fit {t : Tm} (h : Tm.proper t = true) : t.fit := by
  unfold Tm.proper at h
  simp only [Bool.and_eq_true] at h
  have hn := Tm.nums_of_formed t 1 h.2
  cases t with
  | mk o hd n l =>
    simp only [Tm.nums, Bool.and_eq_true, decide_eq_true_eq] at hn
    exact ⟨⟨by show _ ≤ o; omega, by show o ≤ _; omega⟩, ⟨by show _ ≤ hd; omega, by show hd ≤ _; omega⟩, ⟨by show _ ≤ n; omega, by show n ≤ _; omega⟩⟩
theorem Tm.zero_fit : Tm.zero.fit := ⟨by simp [Tm.zero, Tm.op], by simp [Tm.zero, Tm.hd], by simp [Tm.zero, Tm.n]⟩

/-- the contracts, said of a term that is a name -/
theorem proper_t (t : Tm) (v : Value) (w : World) (hv : Lies w (fun _ => True) v t.args) :
    Calls Try.prog 16 #[.agg #[.int .i64 t.op, .int .i64 t.hd, .int .i64 t.n, v]] w fun e w' => e = .returned (.bool (Tm.proper t)) ∧ Below w.heap.size w w' := by
  have c := proper_any _ t.op t.hd t.n v t.args w hv
  rwa [Tm.eta] at c
theorem shift_t (t : Tm) (d fr : Int) (v : Value) (w : World) (hv : Lies w (fun _ => True) v t.args) (hd : I64 d) (hf : I64 fr) :
    Calls Try.prog 19 #[.agg #[.int .i64 t.op, .int .i64 t.hd, .int .i64 t.n, v], .int .i64 d, .int .i64 fr] w (GivesE w (shiftRef d fr t)) := by
  have c := shift_any t.op t.hd t.n d fr v t.args w hv hd hf
  rwa [Tm.eta, shift_same] at c
theorem same_t (t : Tm) (v v' : Value) (w : World) (hv : Lies w (fun _ => True) v t.args) (hv' : Lies w (fun _ => True) v' t.args) (hf : t.fit) (hs : Tm.sz t ≤ 4194304) :
    Calls Try.prog 43 #[.agg #[.int .i64 t.op, .int .i64 t.hd, .int .i64 t.n, v], .agg #[.int .i64 t.op, .int .i64 t.hd, .int .i64 t.n, v']] w fun e w' => e = .returned (.bool true) ∧ Below w.heap.size w w' := by
  have c := sameT_any t.op t.hd t.n t.op t.hd t.n v v' t.args t.args w hv hv' (by rw [Tm.eta]; exact hf) (by rw [Tm.eta]; exact hf) (by rw [Tm.eta]; exact hs)
  rw [Tm.eta, (Tm.same_iff _ _).2 rfl] at c
  exact c
/-- a call of Shift whose answer is a term with no error -/
def GivesOne (w : World) (t : Tm) (x : Int) (e : Ending) (w' : World) : Prop :=
  ∃ a n m, e = .returned (.tuple #[.agg #[.int .i64 t.op, .int .i64 t.hd, .int .i64 t.n, .slice a n m], .int .i64 x]) ∧ Below w.heap.size w w' ∧ Lies w' (fun _ => True) (.slice a n m) t.args
theorem givesOne {w : World} {y : Tm × Int} {t : Tm} {x : Int} (hy : y = (t, x)) {args : Array Value} {f : FuncId} (h : Calls Try.prog f args w (GivesE w y)) : Calls Try.prog f args w (GivesOne w t x) := by
  refine h.mono ?_
  subst hy
  rintro e w' ⟨v, rfl, hb, hl⟩
  obtain ⟨a, n, m, rfl⟩ := hl.isSlice
  exact ⟨a, n, m, rfl, hb, hl.more fun _ _ _ => trivial⟩

theorem tBlock {w : World} {B : Nat} {x y z v : Value} (h : w.heap[B]? = some (.cells #[x, y, z, v] 24 (0, 0))) : w.cell? ⟨B, 0, none⟩ = some x ∧ w.cell? ⟨B, 1, none⟩ = some y ∧ w.cell? ⟨B, 2, none⟩ = some z ∧ w.cell? ⟨B, 3, none⟩ = some v :=
  ⟨cell_in h 0 _ rfl, cell_in h 1 _ rfl, cell_in h 2 _ rfl, cell_in h 3 _ rfl⟩

set_option maxHeartbeats 4000000 in
set_option maxRecDepth 100000 in
theorem termBack_walk (t : Tm) (N M F : Int) (v : Value) (w : World) (hv : Lies w (fun _ => True) v t.args) (hN : I64 N) (hM : I64 M) (hF : I64 F) :
    Calls Try.prog 10 #[.agg #[.int .i64 t.op, .int .i64 t.hd, .int .i64 t.n, v, .int .i64 N, .int .i64 M, .int .i64 F]] w fun e w' => e = .returned (.bool true) ∧ Below w.heap.size w w' := by
  obtain ⟨a2, n2, m2, rfl⟩ := hv.isSlice
  have hn1 := hN.1
  have hn2 := hN.2
  have hm1 := hM.1
  have hm2 := hM.2
  have hf1 := hF.1
  have hf2 := hF.2
  have HV := Lib.hid hv
  clear hN hM hF hv
  go_enter Try.func10, Try.ntmps10
  go_upto_region 1 with fail
  go_cut [3, 4, 5, 6] (fun p a b c wx => ∃ x y z : Int, p = .pointer (some ⟨w.heap.size + 1, 0, none⟩) ∧ a = .int .i64 x ∧ b = .int .i64 y ∧ c = .int .i64 z ∧ (0 ≤ x ∧ x < 50) ∧ (0 ≤ y ∧ y < 50) ∧ (0 ≤ z ∧ z < 50) ∧
    wx.heap[w.heap.size + 1]? = some (.cells #[.int .i64 t.op, .int .i64 t.hd, .int .i64 t.n, .slice a2 n2 m2] 24 (0, 0)) ∧ Below w.heap.size w wx)
  case first =>
    go_region_held3 (fun W => W.cell? ⟨w.heap.size, 0, none⟩ = some (.int .i64 t.op) ∧ W.cell? ⟨w.heap.size, 1, none⟩ = some (.int .i64 t.hd) ∧ W.cell? ⟨w.heap.size, 2, none⟩ = some (.int .i64 t.n) ∧ W.cell? ⟨w.heap.size, 3, none⟩ = some (.slice a2 n2 m2) ∧ W.cell? ⟨w.heap.size, 4, none⟩ = some (.int .i64 N) ∧ W.cell? ⟨w.heap.size, 5, none⟩ = some (.int .i64 M) ∧ W.cell? ⟨w.heap.size, 6, none⟩ = some (.int .i64 F))
      (first | go_keep)
      (fail)
    go_wp2_with fail
    go_meet
    case rel => exact ⟨_, _, _, rfl, rfl, rfl, rfl, mod_small N 50 (by omega) (by omega), mod_small M 50 (by omega) (by omega), mod_small F 50 (by omega) (by omega), (two_blocks w _ _ _ _).2, (two_below w _ _).drew⟩
  case rest =>
    obtain ⟨x, y, z, rfl, rfl, rfl, rfl, ⟨x0, x1⟩, ⟨y0, y1⟩, ⟨z0, z1⟩, hT, hB0⟩ := hcut
    have HT0 := Lib.hid hT
    obtain ⟨p0, p1, p2, p3⟩ := tBlock hT
    have c1 := proper_t t _ wc (HV.out.keep hB0)
    clear hT
    go_wp2_with fail
    rcases hp : Tm.proper t with _ | _
    · rw [hp] at c1
      clear hp
      refine c1.mono ?_
      rintro e w1 ⟨rfl, hb1⟩
      go_wp2_with fail
      refine (awake_any _).mono ?_
      rintro e w2 ⟨rfl, hb2⟩
      go_wp2
      go_ret
      exact ⟨rfl, below_next (below_next hB0 hb1) hb2⟩
    · rw [hp] at c1
      have HP := Lib.hid hp
      clear hp
      refine c1.mono ?_
      rintro e w1 ⟨rfl, hb1⟩
      have HT1 := Lib.hid (heap_kept hb1 HT0.out)
      obtain ⟨q0, q1, q2, q3⟩ := tBlock HT1.out
      have B1 := below_next hB0 hb1
      have c2 := shift_t t x z _ w1 (HV.out.keep B1) ⟨by omega, by omega⟩ ⟨by omega, by omega⟩
      have hup := shiftRef_up (d := x) (fr := z) HP.out x0 (by omega) z0 (by omega)
      rw [hup] at c2
      clear hup c1 p0 p1 p2 p3
      go_wp2_with fail
      rcases hpa : Tm.proper (Tm.moved x z t) with _ | _
      · rw [hpa] at c2
        clear hpa
        refine (givesOne (by rfl) c2).mono ?_
        rintro e w2 ⟨a3, n3, m3, rfl, hb2, hl2⟩
        go_wp2_with fail
        refine (awake_any _).mono ?_
        rintro e w3 ⟨rfl, hb3⟩
        go_wp2
        go_ret
        exact ⟨rfl, below_next (below_al (below_next B1 hb2) _) hb3⟩
      · rw [hpa] at c2
        have HPA := Lib.hid hpa
        obtain ⟨a, ha⟩ : ∃ a, a = Tm.moved x z t := ⟨_, rfl⟩
        have hback := shiftRef_back (n := x) (fr := z) HP.out HPA.out x0 (by omega) z0 (by omega)
        have htw := shiftRef_twice (n := x) (m := y) (fr := z) HP.out HPA.out x0 (by omega) y0 (by omega) z0 (by omega)
        rw [← ha] at c2 hback htw hpa
        obtain ⟨c, xc, hc, hxc, hcf, hcs⟩ : ∃ c xc, shiftRef (x + y) z t = (c, xc) ∧ (xc = 0 ∨ xc = 5) ∧ c.fit ∧ Tm.sz c ≤ 600 := by
          rw [shiftRef_up (d := x + y) (fr := z) HP.out (by omega) (by omega) z0 (by omega)]
          rcases h : Tm.proper (Tm.moved (x + y) z t) with _ | _
          · exact ⟨Tm.zero, 5, rfl, .inr rfl, Tm.zero_fit, by simp [Tm.zero, Tm.sz, Tm.szL]⟩
          · exact ⟨_, 0, rfl, .inl rfl, Tm.proper_fit h, Tm.proper_sz h⟩
        rw [hc] at htw
        have HBK := Lib.hid hback
        have HTW := Lib.hid htw
        have HCC := Lib.hid hc
        clear hpa ha hback htw hc
        refine (givesOne (by rfl) c2).mono ?_
        rintro e w2 ⟨a3, n3, m3, rfl, hb2, hl2⟩
        have hba2 := (Below.refl w2.heap.size w2).alloc (Nat.le_refl _) (.cells #[.int .i64 a.op, .int .i64 a.hd, .int .i64 a.n, .slice a3 n3 m3] 24)
        have B2 := below_next (below_next B1 hb2) hba2
        have HT2 := Lib.hid (heap_kept hba2 (heap_kept hb2 HT1.out))
        have HA2 := Lib.hid (heap_alloc_new w2 (.cells #[.int .i64 a.op, .int .i64 a.hd, .int .i64 a.n, .slice a3 n3 m3] 24))
        have L2 := Lib.hid (hl2.keep hba2)
        have c3 := givesOne HBK.out (shift_t a (-x) z _ _ L2.out ⟨by omega, by omega⟩ ⟨by omega, by omega⟩)
        clear c2 hb2 hl2 hba2 q0 q1 q2 q3 hb1 hB0
        go_wp2_with fail
        refine c3.mono ?_
        rintro e w3 ⟨a4, n4, m4, rfl, hb3, hl3⟩
        have hba3 := (Below.refl w3.heap.size w3).alloc (Nat.le_refl _) (.cells #[.int .i64 t.op, .int .i64 t.hd, .int .i64 t.n, .slice a4 n4 m4] 24)
        have b23 := below_next hb3 hba3
        have B3 := below_next B2 b23
        have HT3 := Lib.hid (heap_kept b23 HT2.out)
        have HA3 := Lib.hid (heap_kept b23 HA2.out)
        obtain ⟨p0, p1, p2, p3⟩ := tBlock HT3.out
        have c4 := same_t t (.slice a4 n4 m4) (.slice a2 n2 m2) _ (hl3.keep hba3) (HV.out.keep B3) (Tm.proper_fit HP.out) (by have := Tm.proper_sz HP.out; omega)
        have L3 := Lib.hid (L2.out.keep b23)
        clear c3 hb3 hl3 hba3 b23
        go_wp2_with fail
        refine c4.mono ?_
        rintro e w4 ⟨rfl, hb4⟩
        have B4 := below_next B3 hb4
        have HT4 := Lib.hid (heap_kept hb4 HT3.out)
        have HA4 := Lib.hid (heap_kept hb4 HA3.out)
        obtain ⟨q0, q1, q2, q3⟩ := tBlock HA4.out
        have c5 := givesOne HTW.out (shift_t a y z _ w4 (L3.out.keep hb4) ⟨by omega, by omega⟩ ⟨by omega, by omega⟩)
        clear c4 hb4 p0 p1 p2 p3
        go_wp2_with fail
        refine c5.mono ?_
        rintro e w5 ⟨a6, n6, m6, rfl, hb5, hl5⟩
        have hba5 := (Below.refl w5.heap.size w5).alloc (Nat.le_refl _) (.cells #[.int .i64 c.op, .int .i64 c.hd, .int .i64 c.n, .slice a6 n6 m6] 24)
        have b45 := below_next hb5 hba5
        have B5 := below_next B4 b45
        have HT5 := Lib.hid (heap_kept b45 HT4.out)
        obtain ⟨p0, p1, p2, p3⟩ := tBlock HT5.out
        have HC5 := Lib.hid (heap_alloc_new w5 (.cells #[.int .i64 c.op, .int .i64 c.hd, .int .i64 c.n, .slice a6 n6 m6] 24))
        have L5 := Lib.hid (hl5.keep hba5)
        have c6 := givesOne HCC.out (shift_t t (x + y) z _ _ (HV.out.keep B5) ⟨by omega, by omega⟩ ⟨by omega, by omega⟩)
        clear c5 hb5 hl5 hba5 b45 q0 q1 q2 q3
        go_wp2_with fail
        refine c6.mono ?_
        rintro e w6 ⟨a7, n7, m7, rfl, hb6, hl6⟩
        have hba6 := (Below.refl w6.heap.size w6).alloc (Nat.le_refl _) (.cells #[.int .i64 c.op, .int .i64 c.hd, .int .i64 c.n, .slice a7 n7 m7] 24)
        have b56 := below_next hb6 hba6
        have B6 := below_next B5 b56
        have HC6 := Lib.hid (heap_kept b56 HC5.out)
        obtain ⟨q0, q1, q2, q3⟩ := tBlock HC6.out
        have c7 := same_t c (.slice a6 n6 m6) (.slice a7 n7 m7) _ (L5.out.keep b56) (hl6.keep hba6) hcf (by omega)
        clear c6 hb6 hl6 hba6 b56 p0 p1 p2 p3
        rcases hxc with rfl | rfl
        all_goals
          go_wp2_with fail
          refine c7.mono ?_
          rintro e w7 ⟨rfl, hb7⟩
          go_wp2_with fail
          refine (awake_any _).mono ?_
          rintro e w8 ⟨rfl, hb8⟩
          go_wp2
          go_ret
          exact ⟨rfl, below_next (below_next B6 hb7) hb8⟩

set_option maxRecDepth 100000
theorem mv_cells : Try.prog.cellsOf 74 = 7 := by kernel_rfl

section
variable {H : Type} {enc : TypeId × Value → H} {w : World} {base : Nat} {spare : Nat → Bool} {held : Bool}
open Go.ChangeShapes Go.WideShapes in
theorem open_moves {r : Reach} {b0 : Nat} {v : Value} {d : DataW H} {p : List MemPlace} (hv : Value.okWide Try.prog w r b0 74 v) (h : DataW.Trod enc Try.prog w base spare held 74 v d p) :
    ∃ (o h n N M F : Int) (s : Value) (l : List Tm), v = .agg #[.int .i64 o, .int .i64 h, .int .i64 n, s, .int .i64 N, .int .i64 M, .int .i64 F] ∧ I64 N ∧ I64 M ∧ I64 F ∧ Lies w (fun _ => True) s l := by
  obtain ⟨cs, rfl, hsz⟩ := okWide_struct Try.underlying74 hv
  obtain ⟨fuel, hfu⟩ := h
  have hc : (Value.agg cs).cells.toList = cs.toList := by simp [Value.cells]
  rw [hc] at hfu
  cases fuel with
  | zero => simp [DataW.trod] at hfu
  | succ fuel =>
    obtain ⟨xs, n, hn, _, hl, hlen, hf⟩ := DataW.trod_struct Try.underlying74 hfu
    obtain rfl : fuel = n := by omega
    rw [mv_cells] at hl
    obtain ⟨cl⟩ := cs
    simp only at hl hf
    match cl, hl with
    | [c0, c1, c2, c3, c4, c5, c6], _ =>
      match xs, hlen with
      | [y0, y1, y2, y3], _ =>
        have h0 : DataW.trod enc Try.prog w base spare held fuel 24 [c0, c1, c2, c3] = some y0 := by simpa [tm_cells, tm_cellsI] using hf 0 _ rfl
        have h1 : DataW.trod enc Try.prog w base spare held fuel 3 [c4] = some y1 := by simpa [tm_cells, tm_cellsI] using hf 1 _ rfl
        have h2 : DataW.trod enc Try.prog w base spare held fuel 3 [c5] = some y2 := by simpa [tm_cells, tm_cellsI] using hf 2 _ rfl
        have h3 : DataW.trod enc Try.prog w base spare held fuel 3 [c6] = some y3 := by simpa [tm_cells, tm_cellsI] using hf 3 _ rfl
        obtain ⟨o, hd, n, s, l, he, ro, rh, rn, lies⟩ := (open_both fuel).1 _ _ h0
        obtain ⟨N, rfl, rN⟩ := open_int_cell h1
        obtain ⟨M, rfl, rM⟩ := open_int_cell h2
        obtain ⟨F, rfl, rF⟩ := open_int_cell h3
        simp only [List.cons.injEq, and_true] at he
        obtain ⟨rfl, rfl, rfl, rfl⟩ := he
        exact ⟨o, hd, n, N, M, F, _, l, rfl, rN, rM, rF, lies⟩
end

theorem tb_own : ownKnob Try.prog.godebug = none := by kernel_rfl
theorem tb_laidOut : laidOutB Try.prog = true := by kernel_rfl

open Go.ChangeShapes Go.WideShapes Go.ChangeAt Go.Deep in
theorem termBack_lifted (os : Os) (started : os.Started) (H : Type) (enc : TypeId × Value → H) :
    ReturnsInHanded {} Try.checked os 10 .any (Rows.termBackSpec.pre6 enc Try.prog Try.f10 Rows.termBackRow.domain false) (Rows.termBackSpec.post enc Try.prog Try.f10 false true false false) := by
  refine returnsInHanded_of_change (C := Try.checked) tb_own started (by kernel_rfl) Try.func10
    (ChangeSpec.witness6 (enc := enc) (C := Try.checked) false ⟨#[], #[.agg #[.int .i64 0, .int .i64 0, .int .i64 0, .slice none 0 0, .int .i64 0, .int .i64 0, .int .i64 0]], []⟩ 8 (by kernel_rfl) (by kernel_rfl) (by kernel_rfl) (by kernel_rfl)) ?_
  intro W base args ds gs before hval0 hW _ _
  have hval : ∀ (j : Nat) t v, Try.f10.params[j]? = some t → args[j]? = some v → Value.okWide Try.prog W .any base t v := hval0
  have hW' := hW
  obtain ⟨p, q, hA0, hV, rfl, _, _⟩ := hW
  have hA : DataW.TrodAll enc Try.prog W 0 (fun _ => true) true Try.f10.params.toList args.toList ds p := hA0
  rw [Try.params10] at hA hval
  obtain ⟨v0, d0, rfl, rfl, h0⟩ := trodAll_one hA
  obtain ⟨rfl, rfl⟩ := trodVars_none hV
  clear hA0 hval0
  simp only [List.append_nil] at hW'
  have hlt0 : ∀ x ∈ p, x.block < W.heap.size := fun x hx => hW'.lt x (by simp [hx])
  obtain ⟨o, h, n, N, M, F, s, l, rfl, rN, rM, rF, hv⟩ := open_moves (hval 0 74 v0 rfl rfl) h0
  refine (termBack_walk (.mk o h n l) N M F s W hv rN rM rF).mono fun e W' ⟨he, hb⟩ => ?_
  subst he
  refine ⟨_, rfl, _, _, _, [], p, [], hW', ?_, ?_, rfl, hb.frame _, fun h => by cases h⟩
  · exact trodAll_mk1 (shut_bool Try.underlying4 true)
  · exact trodAll_mk1 (Below.trod tb_laidOut (by kernel_rfl) (of_decide_eq_true (by kernel_rfl)) h0 hb hlt0)

theorem termBack_holds : Rows.TermBackSaid :=
  OpenClaim.holds_of_wide 10 Try.f10 rfl rfl rfl rfl rfl rfl rfl ⟨rfl, rfl, rfl, rfl, rfl⟩ rfl rfl rfl rfl rfl (by kernel_rfl) Try.func10 (by kernel_rfl)
    (of_decide_eq_true (by kernel_rfl)) (by unfold Func.isWrapper; first | (rw [if_pos (by decide +kernel)]; kernel_rfl) | (rw [if_neg (by decide +kernel)]; exact ⟨rfl, rfl⟩))
    (fun os started H enc _ => termBack_lifted os started H enc)

end Go.Proofs.Ytnooeaefldklaaa
