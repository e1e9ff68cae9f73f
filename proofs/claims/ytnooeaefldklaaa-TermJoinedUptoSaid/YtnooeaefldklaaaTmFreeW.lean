/- For any term and any number: the free numbers of a term that is shifted by n are greater by n; what is the body of an Arrow has no variable 0, and one less each; the other contents stay. No conditions. -/
import Derived.Test.YtnooeaefldklaaaRows
import Derived.Test.YtnooeaefldklaaaTmFreeP
import Derived.ProofKit
namespace Go.Proofs.Ytnooeaefldklaaa
open Go.RowKit
set_option linter.unusedSimpArgs false
set_option linter.unusedVariables false

theorem mod_small64 (N : Int) (k : Int) (h0 : 0 < k) (h1 : k ≤ 1000000) : 0 ≤ wrap64 ((IntKind.u64.wrap N).tmod k) ∧ wrap64 ((IntKind.u64.wrap N).tmod k) < k := by
  have h := u64_nonneg N
  generalize IntKind.u64.wrap N = x at h
  rw [Int.tmod_eq_emod_of_nonneg h]
  have h1 : 0 ≤ x % k := Int.emod_nonneg _ (by omega)
  have h2 : x % k < k := Int.emod_lt_of_pos _ (by omega)
  rw [IntWalk.wrap64_in _ ⟨by omega, by omega⟩]
  exact ⟨h1, h2⟩
abbrev Cells5 (W : World) (b c j : Nat) (u1 u2 u3 u4 u5 : Value) : Prop := W.cell? ⟨b, 0, none⟩ = some u1 ∧ W.cell? ⟨b, 1, none⟩ = some u2 ∧ W.cell? ⟨b, 2, none⟩ = some u3 ∧ W.cell? ⟨b, 3, none⟩ = some u4 ∧ W.cell? ⟨c, j, none⟩ = some u5
theorem cells5_below {W W' : World} {b c j : Nat} {u1 u2 u3 u4 u5 : Value} (hb : Below W.heap.size W W') (x : Cells5 W b c j u1 u2 u3 u4 u5) : Cells5 W' b c j u1 u2 u3 u4 u5 := by
  obtain ⟨x1, x2, x3, x4, x5⟩ := x
  exact ⟨kept_cell hb x1, kept_cell hb x2, kept_cell hb x3, kept_cell hb x4, kept_cell hb x5⟩

theorem Ints.opened {w : World} {v : Value} {xs : List Int} (h : Ints w v xs) : ∃ a n m, v = .slice a n m ∧ xs.length = n := by
  obtain ⟨_, _, _, _, _, h⟩ := h
  exact ⟨_, _, _, h.hv, h.hlen⟩

theorem Lies.lenF {w : World} {S : Nat → Prop} {a : Option Addr} {n m : Nat} {l : List Tm} (h : Lies w S (.slice a n m) l) : l.length = n := by
  cases h
  simp
theorem zero_cells {w : World} {z : Nat} {t : TypeId} (h : w.heap[z]? = some (.cells #[.int .i64 0, .int .i64 0, .int .i64 0, .slice none 0 0] t (0, 0))) : ∀ j u, w.cell? ⟨z, j, none⟩ = some u → j ≤ 3 ∧ (j = 0 → u = .int .i64 0) := by
  intro j u e
  simp [World.cell?, h] at e
  match j, e with
  | 0, e => simp at e; exact ⟨by omega, fun _ => e.symm⟩
  | 1, e => exact ⟨by omega, fun h => by omega⟩
  | 2, e => exact ⟨by omega, fun h => by omega⟩
  | 3, e => exact ⟨by omega, fun h => by omega⟩
  | n + 4, e => simp at e
theorem cell_set4 {w : World} {z b j : Nat} {u x1 x2 x3 x4 : Value} (hb : b ≠ z) (e : w.cell? ⟨b, j, none⟩ = some u) : ((((w.setCell ⟨z, 0, none⟩ x1).setCell ⟨z, 1, none⟩ x2).setCell ⟨z, 2, none⟩ x3).setCell ⟨z, 3, none⟩ x4).cell? ⟨b, j, none⟩ = some u := by
  rw [World.cell?_of_block (w := w) (heap_set4 x1 x2 x3 x4 hb hb hb hb)]; exact e
/-- what is formed does not lie in a block that holds the zero term -/
theorem Lies.shun {W W' : World} {S : Nat → Prop} {z : Nat} (hz : ∀ j u, W.cell? ⟨z, j, none⟩ = some u → j ≤ 3 ∧ (j = 0 → u = .int .i64 0)) (hk : ∀ b j u, b ≠ z → W.cell? ⟨b, j, none⟩ = some u → W'.cell? ⟨b, j, none⟩ = some u) {v : Value} {l : List Tm} (h : Lies W S v l) : ∀ d, Tm.formedL l d = true → Lies W' S v l := by
  induction h with
  | row ao b off len cap o h k sv ts hao hS hl hr c0 c1 c2 c3 r0 r1 r2 _ ih =>
    intro d hf
    have hfi : ∀ i, i < len → Tm.formed (.mk (o i) (h i) (k i) (ts i)) d = true := by
      intro i hi
      rw [Tm.formedL_all, List.all_eq_true] at hf
      exact hf _ (List.mem_map.2 ⟨i, List.mem_range.2 hi, rfl⟩)
    have hbz : ∀ i, i < len → b ≠ z := by
      rintro i hi rfl
      have h3 := (hz _ _ (c3 i hi)).1
      have h0 := (hz _ _ (c0 i hi)).2 (by omega)
      simp only [Value.int.injEq, true_and] at h0
      have := hfi i hi
      simp [Tm.formed, Tm.headOk, h0] at this
    exact .row ao b off len cap o h k sv ts hao hS hl hr (fun i hi => hk _ _ _ (hbz i hi) (c0 i hi)) (fun i hi => hk _ _ _ (hbz i hi) (c1 i hi)) (fun i hi => hk _ _ _ (hbz i hi) (c2 i hi)) (fun i hi => hk _ _ _ (hbz i hi) (c3 i hi)) r0 r1 r2
      (fun i hi => ih i hi (d + 1) (by have := hfi i hi; simp only [Tm.formed, Bool.and_eq_true] at this; exact this.2))
theorem arrow_args {t T : Tm} {er : Int} (hT : (T, er) = arrowOut con0 t) (hw0 : (T, er) = (Tm.zero, 5) ∨ (Tm.proper (Tm.moved 1 0 t) = true ∧ (T, er) = (Tm.pi con0 (Tm.moved 1 0 t), 0))) (hp : Tm.proper t = true) : Tm.formedL T.args 1 = true := by
  rcases hw0 with h | ⟨hq, h⟩
  · obtain ⟨rfl, _⟩ := Prod.mk.inj h
    rfl
  · obtain ⟨rfl, _⟩ := Prod.mk.inj h
    show Tm.formedL [con0, Tm.moved 1 0 t] 1 = true
    simp [Tm.formedL, Tm.proper_formed con0_proper, Tm.proper_formed hq]

/-- the contracts, said of a term that is a name -/
theorem free_t (t : Tm) (v : Value) (w : World) (hv : Lies w (fun _ => True) v t.args) : Calls Try.prog 22 #[.agg #[.int .i64 t.op, .int .i64 t.hd, .int .i64 t.n, v]] w (NumE w (contOut 1 t)) := by
  have c := free_any t.op t.hd t.n v t.args w hv
  rwa [Tm.eta] at c
theorem consts_t (t : Tm) (v : Value) (w : World) (hv : Lies w (fun _ => True) v t.args) : Calls Try.prog 23 #[.agg #[.int .i64 t.op, .int .i64 t.hd, .int .i64 t.n, v]] w (NumE w (contOut 2 t)) := by
  have c := consts_any t.op t.hd t.n v t.args w hv
  rwa [Tm.eta] at c
theorem occurs_t (t : Tm) (v : Value) (m : Int) (w : World) (hv : Lies w (fun _ => True) v t.args) : Calls Try.prog 25 #[.agg #[.int .i64 t.op, .int .i64 t.hd, .int .i64 t.n, v], .int .i64 m] w fun e w' => e = .returned (.tuple #[.bool (occOut m t).1, .int .i64 (occOut m t).2]) ∧ Below w.heap.size w w' := by
  have c := occurs_any t.op t.hd t.n v t.args m w hv
  rwa [Tm.eta] at c

set_option maxHeartbeats 4000000 in
set_option maxRecDepth 100000 in
theorem termFree_walk (t : Tm) (N : Int) (v : Value) (w : World) (hv : Lies w (fun _ => True) v t.args) (hN : I64 N) :
    Calls Try.prog 11 #[.agg #[.int .i64 t.op, .int .i64 t.hd, .int .i64 t.n, v], .int .i64 N] w fun e w' => e = .returned (.bool true) ∧ Below w.heap.size w w' := by
  obtain ⟨a2, n2, m2, rfl⟩ := hv.isSlice
  have hn1 := hN.1
  have hn2 := hN.2
  have HV := Lib.hid hv
  clear hN hv
  go_enter Try.func11, Try.ntmps11
  go_upto_region 1 with fail
  go_cut [1] (fun a wx => ∃ x : Int, a = .int .i64 x ∧ (0 ≤ x ∧ x < 50) ∧ wx.heap[w.heap.size]? = some (.cells #[.int .i64 t.op, .int .i64 t.hd, .int .i64 t.n, .slice a2 n2 m2] 24 (0, 0)) ∧ Below w.heap.size w wx)
  case first =>
    go_wp2_with fail
    go_meet
    case rel => exact ⟨_, rfl, mod_small64 N 50 (by omega) (by omega), heap_alloc_new w _, one_below w _⟩
  case rest =>
    obtain ⟨x, rfl, ⟨x0, x1⟩, hT, hB0⟩ := hcut
    have HT0 := Lib.hid hT
    obtain ⟨p0, p1, p2, p3⟩ := tBlock hT
    have c1 := proper_t t _ wc (HV.out.keep hB0)
    clear hT
    go_wp2_with fail
    rcases hp : Tm.proper t with _ | _
    · rw [hp] at c1
      clear hp
      refine c1.mono ?_
      rintro e w1 ⟨rfl, hb1⟩
      go_wp2_with fail
      refine (awake_any _).mono ?_
      rintro e w2 ⟨rfl, hb2⟩
      go_wp2
      go_ret
      exact ⟨rfl, below_next (below_next hB0 hb1) hb2⟩
    · rw [hp] at c1
      have HP := Lib.hid hp
      clear hp
      refine c1.mono ?_
      rintro e w1 ⟨rfl, hb1⟩
      have HT1 := Lib.hid (heap_kept hb1 HT0.out)
      obtain ⟨q0, q1, q2, q3⟩ := tBlock HT1.out
      have B1 := below_next hB0 hb1
      have c2 := shift_t t x 0 _ w1 (HV.out.keep B1) ⟨by omega, by omega⟩ ⟨by omega, by omega⟩
      have hup := shiftRef_up (d := x) (fr := 0) HP.out x0 (by omega) (by omega) (by omega)
      rw [hup] at c2
      clear hup c1 p0 p1 p2 p3
      go_wp2_with fail
      rcases hpa : Tm.proper (Tm.moved x 0 t) with _ | _
      · rw [hpa] at c2
        clear hpa
        refine (givesOne (by rfl) c2).mono ?_
        rintro e w2 ⟨a3, n3, m3, rfl, hb2, hl2⟩
        go_wp2_with fail
        refine (awake_any _).mono ?_
        rintro e w3 ⟨rfl, hb3⟩
        go_wp2
        go_ret
        exact ⟨rfl, below_next (below_al (below_next B1 hb2) _) hb3⟩
      · rw [hpa] at c2
        have HPA := Lib.hid hpa
        obtain ⟨a, ha⟩ : ∃ a, a = Tm.moved x 0 t := ⟨_, rfl⟩
        have hcf := cont_free_moved x0 HP.out HPA.out
        have hch := cont_heads_moved (x := 2) (a := x) (by omega) HP.out HPA.out
        have hoc : ∀ y, y ∈ (contOut 1 t).1 → occOut (y + x) (Tm.moved x 0 t) = (true, 0) := fun y hy => occ_moved x0 HP.out HPA.out hy
        have hz1 : (contOut 1 t).2 = 0 := by unfold contOut; rw [HP.out]; rfl
        have hz2 : (contOut 2 t).2 = 0 := by unfold contOut; rw [HP.out]; rfl
        have hbd : ∀ y ∈ (contOut 1 t).1, 0 ≤ y ∧ y ≤ 9999 := fun y hy => by
          unfold contOut at hy
          rw [HP.out] at hy
          simp only [if_true, Tm.mem_insL, List.not_mem_nil, false_or] at hy
          have := Tm.hds_pos 0 t y hy
          exact ⟨this.1, this.2 (Tm.nums_of_formed _ 1 (Tm.proper_formed HP.out)) (Int.le_refl _)⟩
        rw [← ha] at c2 hcf hch hoc hpa
        obtain ⟨⟨ls, z1⟩, hls⟩ : ∃ r, r = contOut 1 t := ⟨_, rfl⟩
        obtain ⟨⟨cs, z2⟩, hcs⟩ : ∃ r, r = contOut 2 t := ⟨_, rfl⟩
        rw [← hls] at hcf hoc hz1 hbd
        rw [← hcs] at hch hz2
        obtain rfl : (0 : Int) = z1 := hz1.symm
        obtain rfl : (0 : Int) = z2 := hz2.symm
        have HCF := Lib.hid hcf
        have HCH := Lib.hid hch
        have HOC := Lib.hid hoc
        have HBD := Lib.hid hbd
        have HLS := Lib.hid hls
        have HCS := Lib.hid hcs
        clear hpa ha hcf hch hoc hbd hls hcs hz1 hz2
        refine (givesOne (by rfl) c2).mono ?_
        rintro e w2 ⟨a3, n3, m3, rfl, hb2, hl2⟩
        have hba2 := (Below.refl w2.heap.size w2).alloc (Nat.le_refl _) (.cells #[.int .i64 a.op, .int .i64 a.hd, .int .i64 a.n, .slice a3 n3 m3] 24)
        have B2 := below_next (below_next B1 hb2) hba2
        have HT2 := Lib.hid (heap_kept hba2 (heap_kept hb2 HT1.out))
        have HA2 := Lib.hid (heap_alloc_new w2 (.cells #[.int .i64 a.op, .int .i64 a.hd, .int .i64 a.n, .slice a3 n3 m3] 24))
        have L2 := Lib.hid (hl2.keep hba2)
        obtain ⟨p0, p1, p2, p3⟩ := tBlock HT2.out
        have c3 := free_t t _ _ (HV.out.keep B2)
        rw [← HLS.out] at c3
        clear c2 hb2 hl2 hba2 q0 q1 q2 q3 hb1 hB0
        go_wp2_with fail
        refine c3.mono ?_
        rintro e w3 ⟨v3, rfl, hi3, hb3⟩
        obtain ⟨a4, n4, m4, rfl, hk4⟩ := hi3.opened
        have B3 := below_next B2 hb3
        have HT3 := Lib.hid (heap_kept hb3 HT2.out)
        have HA3 := Lib.hid (heap_kept hb3 HA2.out)
        have I3 := Lib.hid hi3
        have L3 := Lib.hid (L2.out.keep hb3)
        have HK4 := Lib.hid hk4
        obtain ⟨q0, q1, q2, q3⟩ := tBlock HA3.out
        have c4 := free_t a _ w3 L3.out
        rw [HCF.out] at c4
        clear c3 hi3 hk4 p0 p1 p2 p3
        go_wp2_with fail
        refine c4.mono ?_
        rintro e w4 ⟨v4, rfl, hi4, hb4⟩
        obtain ⟨a5, n5, m5, rfl, hk5⟩ := hi4.opened
        have hk5' : ls.length = n5 := by rw [← hk5]; simp
        have HK5 := Lib.hid hk5'
        obtain rfl : n4 = n5 := by rw [← HK4.out, ← HK5.out]
        have B4 := below_next B3 hb4
        have HT4 := Lib.hid (heap_kept hb4 HT3.out)
        have HA4 := Lib.hid (heap_kept hb4 HA3.out)
        have I34 := Lib.hid (I3.out.below hb4)
        have I4 := Lib.hid hi4
        have L4 := Lib.hid (L3.out.keep hb4)
        obtain ⟨p0, p1, p2, p3⟩ := tBlock HT4.out
        have c5 := consts_t t _ _ (HV.out.keep B4)
        rw [← HCS.out] at c5
        clear c4 hi4 hk5 hk5' q0 q1 q2 q3
        go_wp2_with fail
        refine c5.mono ?_
        rintro e w5 ⟨v5, rfl, hi5, hb5⟩
        obtain ⟨a6, n6, m6, rfl, hk6⟩ := hi5.opened
        have B5 := below_next B4 hb5
        have HT5 := Lib.hid (heap_kept hb5 HT4.out)
        have HA5 := Lib.hid (heap_kept hb5 HA4.out)
        have I35 := Lib.hid (I34.out.below hb5)
        have I45 := Lib.hid (I4.out.below hb5)
        have I5 := Lib.hid hi5
        have L5 := Lib.hid (L4.out.keep hb5)
        obtain ⟨q0, q1, q2, q3⟩ := tBlock HA5.out
        have c6 := consts_t a _ _ L5.out
        rw [HCH.out] at c6
        clear c5 hi5 hk6 p0 p1 p2 p3
        go_wp2_with fail
        refine c6.mono ?_
        rintro e w6 ⟨v6, rfl, hi6, hb6⟩
        obtain ⟨a7, n7, m7, rfl, hk7⟩ := hi6.opened
        have B6 := below_next B5 hb6
        have HT6 := Lib.hid (heap_kept hb6 HT5.out)
        have HA6 := Lib.hid (heap_kept hb6 HA5.out)
        have I36 := Lib.hid (I35.out.below hb6)
        have I46 := Lib.hid (I45.out.below hb6)
        have c7 := numbers_any _ _ cs cs w6 (I5.out.below hb6) hi6
        rw [decide_eq_true rfl] at c7
        have L6 := Lib.hid (L5.out.keep hb6)
        clear c6 hi6 hk7 q0 q1 q2 q3
        go_wp2_with fail
        refine c7.mono ?_
        rintro e w7 ⟨rfl, hb7⟩
        have B7 := below_next B6 hb7
        have HT7 := Lib.hid (heap_kept hb7 HT6.out)
        have HA7 := Lib.hid (heap_kept hb7 HA6.out)
        have I37 := Lib.hid (I36.out.below hb7)
        have I47 := Lib.hid (I46.out.below hb7)
        have L7 := Lib.hid (L6.out.keep hb7)
        clear c7
        go_wp2_with fail
        obtain ⟨ao4, b4, off4, len4, cap4, e4, hl4, hao4, hle4, hr4, hc4⟩ := I37.out
        simp only [Value.slice.injEq] at e4
        obtain ⟨rfl, rfl, rfl⟩ := e4
        obtain ⟨ao5, b5, off5, len5, cap5, e5, hl5, hao5, hle5, hr5, hc5⟩ := I47.out
        simp only [Value.slice.injEq] at e5
        obtain ⟨rfl, rfl, rfl⟩ := e5
        have HC4 := Lib.hid hc4
        have HC5 := Lib.hid hc5
        have HL4 := Lib.hid hl4
        have hn9 : n4 ≤ 9223372036854775807 := by omega
        clear hc4 hc5 hl4 hl5
        go_loopw [92] (fun i wr => ∃ k : Nat, k ≤ n4 ∧ i = .int .i64 k ∧ Below w7.heap.size w7 wr) (fun i _ => n4 - (RowKit.intOf i).toNat)
        case atStart => exact ⟨0, Nat.zero_le _, rfl, Below.refl _ _⟩
        case round =>
          obtain ⟨k, hk, rfl, hbr⟩ := hrel
          by_cases hlt : k < n4
          · obtain rfl := hao4 (by omega)
            obtain rfl := hao5 (by omega)
            have hkx : k < ls.length := by rw [HL4.out]; exact hlt
            have hck := kept_cell hbr (HC4.out k hkx)
            have hcm := kept_cell hbr (HC5.out k (by simpa using hkx))
            obtain ⟨y, hy⟩ : ∃ y, y = ls[k] := ⟨_, rfl⟩
            simp only [List.getElem_map] at hcm
            rw [← hy] at hck hcm
            have hym : y ∈ ls := by rw [hy]; exact List.getElem_mem _
            obtain ⟨hy0, hy1⟩ := HBD.out y hym
            have HO := Lib.hid (HOC.out y hym)
            have ca := occurs_t a (.slice a3 n3 m3) (y + x)
            rw [HO.out] at ca
            have co := fun (w1 : World) (hb : Below wr.heap.size wr w1) => ca w1 (L7.out.keep (hbr.trans (hb.mono hbr.size)))
            obtain ⟨t0, t1, t2, t3⟩ := tBlock (heap_kept hbr HA7.out)
            have hdr : Below wr.heap.size wr wr.drew := (Below.refl _ _).drew
            have hx0 : Cells5 wr.drew w2.heap.size b4 (off4 + k) (.int .i64 a.op) (.int .i64 a.hd) (.int .i64 a.n) (.slice a3 n3 m3) (.int .i64 y) := cells5_below hdr ⟨t0, t1, t2, t3, hck⟩
            have hk0 : (0 : Int) ≤ (k : Int) := by omega
            have hk1 : (k : Int) < (n4 : Int) := by omega
            have hwr : IntKind.i64.wrap (y + x) = y + x := IntWalk.i64_in _ (by omega)
            clear hy hym ca
            go_wp2_with fail
            clear t0 t1 t2 t3 hck
            go_region_held3 (fun W => Cells5 W w2.heap.size b4 (off4 + k) (.int .i64 a.op) (.int .i64 a.hd) (.int .i64 a.n) (.slice a3 n3 m3) (.int .i64 y))
              (first | (with_reducible exact hx0) | (with_reducible exact cells5_below hb8 hx0))
              (first | (go_at_call 25; (with_reducible refine (co _ hdr).mono ?_); rintro e w8 ⟨rfl, hb8⟩))
            have hb8' : Below wr.heap.size wr w8 := hdr.trans hb8
            have hck8 := kept_cell hb8' (kept_cell hbr (HC4.out k hkx))
            have hcm8 := kept_cell hb8' hcm
            clear hwr
            go_wp2_with fail
            go_quiet (fail)
            go_wp2
            go_roundw
            case rel => exact ⟨k + 1, by omega, by go_num, below_drawn (hbr.trans (hb8'.mono hbr.size)) _⟩
            case measure => simp [RowKit.intOf]; omega
          · obtain rfl : k = n4 := by omega
            have B8 := below_next B7 hbr
            have HT8 := Lib.hid (heap_kept hbr HT7.out)
            obtain ⟨t0, t1, t2, t3⟩ := tBlock HT8.out
            have hdr : Below wr.heap.size wr wr.drew := (Below.refl _ _).drew
            have hx0 := keep4 hdr ⟨t0, t1, t2, t3⟩
            have ca := fun (w1 : World) (hb : Below wr.heap.size wr w1) => arrow_any 4 2 0 (.slice none 0 0) [] t.op t.hd t.n _ t.args w1 (Lies.nil _ _) (HV.out.keep (below_next B8 hb))
            rw [Tm.eta] at ca
            have hw0 := arrow_con0 HP.out
            obtain ⟨⟨T, er⟩, hT⟩ : ∃ r, r = arrowOut con0 t := ⟨_, rfl⟩
            rw [← hT] at hw0
            have HW0 := Lib.hid hw0
            have HFT := Lib.hid (arrow_args hT hw0 HP.out)
            have cz := fun (w1 : World) (hb : Below wr.heap.size wr w1) => givesOne hT.symm (ca w1 hb)
            clear hw0 ca hT
            go_upto_region 20 with fail
            go_cut [18, 19] (fun p e wx => ∃ B b n m, p = .pointer (some ⟨B, 0, none⟩) ∧ e = .int .i64 er ∧ wx.heap[B]? = some (.cells #[.int .i64 T.op, .int .i64 T.hd, .int .i64 T.n, .slice b n m] 24 (0, 0)) ∧ Lies wx (fun _ => True) (.slice b n m) T.args ∧ Below w.heap.size w wx)
            case first =>
              clear t0 t1 t2 t3
              go_region_held3 (fun W => Cells4 W w.heap.size (.int .i64 t.op) (.int .i64 t.hd) (.int .i64 t.n) (.slice a2 n2 m2))
                (first | (with_reducible exact hx0) | (with_reducible exact keep4 (one_below _ _) hx0) | (with_reducible exact keep4 hb9 hx0) | (with_reducible exact keep4 hb9 (keep4 (one_below _ _) hx0)) | (with_reducible exact keep4 (one_below _ _) (keep4 hb9 hx0)) | (with_reducible exact keep4 hb10 (keep4 hb9 hx0)) | (with_reducible exact keep4 hb10 (keep4 hb9 (keep4 (one_below _ _) hx0))) | (with_reducible exact keep4 hb10 (keep4 (one_below _ _) (keep4 hb9 hx0))) | (with_reducible exact keep4 (one_below _ _) (keep4 hb10 (keep4 hb9 hx0))) | (with_reducible exact keepH (heap_set4 _ _ _ _ hne hne hne hne) (keep4 hb10 (keep4 hb9 (keep4 (one_below _ _) hx0)))) | (with_reducible exact keepH (heap_set4 _ _ _ _ hne hne hne hne) (keep4 hb10 (keep4 (one_below _ _) (keep4 hb9 hx0)))))
                (first | (go_at_call 46; (with_reducible refine (app_any 2 0 none 0 0 _).mono ?_); rintro e w9 ⟨rfl, hb9⟩; have hd9 : Below wr.heap.size wr w9 := (by first | exact hdr.trans (hb9.mono hdr.size) | exact (hdr.alloc hdr.size _).trans (hb9.mono (hdr.alloc hdr.size _).size))) | (go_at_call 31; (with_reducible refine (cz _ ?_).mono ?_); (first | exact hd9 | exact hd9.alloc hd9.size _); rintro e w10 ⟨a10, n10, m10, rfl, hb10, hx10⟩; have hd10 : Below wr.heap.size wr w10 := (by first | exact hd9.trans (hb10.mono hd9.size) | exact (hd9.alloc hd9.size _).trans (hb10.mono (hd9.alloc hd9.size _).size)); (first | (have hzz := Lib.hid (heap_kept hb10 (heap_alloc_new w9 (.cells #[.int .i64 0, .int .i64 0, .int .i64 0, .slice none 0 0] 24))); have hne : w.heap.size ≠ w9.heap.size := (by have := lt_of_block HT8.out; have := hd9.size; omega); obtain ⟨y0, y1, y2, y3⟩ := tBlock hzz.out; have f0 := free_in hzz.out 0; have f1 := free_in hzz.out 1; have f2 := free_in hzz.out 2; have f3 := free_in hzz.out 3) | (have hzz := Lib.hid (show w10.heap[wr.heap.size]? = _ from heap_kept hb10 (heap_kept hb9 (heap_alloc_new wr.drew (.cells #[.int .i64 0, .int .i64 0, .int .i64 0, .slice none 0 0] 24)))); have hne : w.heap.size ≠ wr.heap.size := (by have := lt_of_block HT8.out; omega); obtain ⟨y0, y1, y2, y3⟩ := tBlock hzz.out; have f0 := free_in hzz.out 0; have f1 := free_in hzz.out 1; have f2 := free_in hzz.out 2; have f3 := free_in hzz.out 3) | skip)))
              · go_wp2_with fail
                go_meet
                case rel =>
                  have hbn := (Below.refl w10.heap.size w10).alloc (Nat.le_refl _) (.cells #[.int .i64 T.op, .int .i64 T.hd, .int .i64 T.n, .slice a10 n10 m10] 24)
                  exact ⟨_, _, _, _, rfl, rfl, heap_alloc_new w10 _, hx10.keep hbn, below_next (B8.trans (hd10.mono B8.size)) hbn⟩
              · go_wp2_with fail
                go_meet
                case rel =>
                  have hs8 := B8.size
                  have hs9 := hd9.size
                  exact ⟨_, _, _, _, rfl, rfl, set4_at hzz.out _ _ _ _, hx10.shun (zero_cells hzz.out) (fun b j u hb e => cell_set4 hb e) _ HFT.out, ((((B8.trans (hd10.mono B8.size)).setCell (by simp; omega) _).setCell (by simp; omega) _).setCell (by simp; omega) _).setCell (by simp; omega) _⟩
              · go_wp2_with fail
                go_meet
                case rel =>
                  have hs8 := B8.size
                  exact ⟨_, _, _, _, rfl, rfl, set4_at hzz.out _ _ _ _, hx10.shun (zero_cells hzz.out) (fun b j u hb e => cell_set4 hb e) _ HFT.out, ((((B8.trans (hd10.mono B8.size)).setCell (by simp; omega) _).setCell (by simp; omega) _).setCell (by simp; omega) _).setCell (by simp; omega) _⟩
            case rest =>
              obtain ⟨B, ab, nb, mb, rfl, rfl, hB, hL, hBw⟩ := hcut
              clear cz hdr hx0 t0 t1 t2 t3
              rcases HW0.out with hW | ⟨hq, hW⟩
              · obtain ⟨rfl, rfl⟩ := Prod.mk.inj hW
                go_wp2_with fail
                refine (awake_any _).mono ?_
                rintro e w3 ⟨rfl, hb3⟩
                go_wp2
                go_ret
                exact ⟨rfl, below_next hBw hb3⟩
              · obtain ⟨rfl, rfl⟩ := Prod.mk.inj hW
                obtain rfl : 2 = nb := hL.lenF
                obtain ⟨ad, bb, off, len, cap, oo, hh, kk, sv, ts, hed, R⟩ := hL.open
                simp only [Value.slice.injEq] at hed
                obtain ⟨rfl, rfl, rfl⟩ := hed
                obtain rfl := R.hao (by omega)
                obtain ⟨z0, z1, z2, z3⟩ := tBlock hB
                obtain ⟨d0, d1, d2, d3, hs⟩ := R.at (Below.refl _ _) 1 (by omega)
                have hg := R.get 1 (by omega)
                have hg' : Tm.moved 1 0 t = .mk (oo 1) (hh 1) (kk 1) (ts 1) := hg
                have hoc := occ_lifted hq
                rw [hg'] at hoc
                have ca := occurs_any (oo 1) (hh 1) (kk 1) (sv 1) (ts 1) 0 _ hs
                rw [hoc] at ca
                clear hg hg' hoc R hs hL
                go_wp2_with fail
                refine ca.mono ?_
                rintro e w4 ⟨rfl, hb4⟩
                go_wp2_with fail
                refine (awake_any _).mono ?_
                rintro e w3 ⟨rfl, hb3⟩
                go_wp2
                go_ret
                exact ⟨rfl, below_next (below_next hBw hb4) hb3⟩
end Go.Proofs.Ytnooeaefldklaaa
