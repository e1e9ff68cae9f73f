/- The contract of the laws' fits. -/
import Derived.Test.YtieakippgeehgaaSbFtA
import Derived.Test.YtieakippgeehgaaSbInC
import Derived.Deep.RegionHeld3
import Derived.OwnWalk
namespace Go.Proofs.Ytieakippgeehgaa.Sb
open Go.RowKit
set_option linter.unusedSimpArgs false
set_option linter.unusedVariables false

/-- what is asked of a call of fits -/
def FtOk (K : List Sp.Tm) (Kv : Value) (m : Nat) : Prop :=
  ∀ (o h n cn : Int) (l : List Tm) (Ss G : List Sp.Tm) (tv Sv Gv : Value) (w : World), Tm.sz (.mk o h n l) ≤ m → Tm.proper (.mk o h n l) = true → G.length + Tm.sz (.mk o h n l) ≤ 1000 → Sp.Lies w (fun _ => True) Kv K → Sp.Lies w (fun _ => True) Gv G → Lies w (fun _ => True) tv l → Sp.Lies w (fun _ => True) Sv Ss →
    Calls Try.prog 33 #[Kv, Gv, .agg #[.int .i64 o, .int .i64 h, .int .i64 n, tv], .agg #[Sv, .int .i64 cn]] w fun e w' => e = .returned (.bool (fitb K (.mk o h n l) G.reverse Ss cn)) ∧ Below w.heap.size w w'

/-- the loop that takes the TLams off -/
structure FiS (w wr : World) (K : List Sp.Tm) (t0 : Tm) (G0 Ss0 : List Sp.Tm) (cn : Int) (Sv : Value) (j : Nat) (t : Tm) (tv : Value) (G : List Sp.Tm) (Gv : Value) : Prop where
  below : Below w.heap.size w wr
  hT : wr.heap[w.heap.size]? = some (.cells #[.int .i64 t.op, .int .i64 t.hd, .int .i64 t.n, tv] 24 (0, 0))
  hD : wr.heap[w.heap.size + 1]? = some (.cells #[Sv, .int .i64 cn] 27 (0, 0))
  lt : Lies wr (· ≠ w.heap.size) tv t.args
  lG : Sp.Lies wr (· ≠ w.heap.size) Gv G
  pr : Tm.proper t = true
  bd : G.length + Tm.sz t ≤ G0.length + Tm.sz t0
  sz : Tm.sz t ≤ Tm.sz t0
  eq : fitb K t0 G0.reverse Ss0 cn = fitb K t G.reverse (Ss0.drop j) cn

/-- the row of one simple type in a box of its own -/
theorem Sp.one_row {w : World} {g : Nat} {S : Nat → Prop} {n : Int} {v : Value} {l : List Sp.Tm} {e : TypeId} (hg : w.heap[g]? = some (.cells #[v, .int .i64 n] e (0, 0))) (hS : S g) (hv : Sp.Lies w S v l) (hf : (Sp.Tm.mk n l).fit) :
    Sp.RowAt w S (some ⟨g, 0, none⟩) g 0 1 1 (fun _ => n) (fun _ => v) (fun _ => l) [.mk n l] :=
  ⟨rfl, fun _ => rfl, fun _ => hS, Nat.le_refl _, by omega, fun i hi => by obtain rfl : i = 0 := by omega
                                                                           exact cell_in hg 0 _ rfl, fun i hi => by obtain rfl : i = 0 := by omega
                                                                                                                    exact cell_in hg 1 _ rfl, fun i hi => hf, fun i hi => hv⟩

/-- the literal of one simple type, as a source -/
theorem ft_src {w wr w2 : World} {K : List Sp.Tm} {t0 t : Tm} {G0 Ss0 : List Sp.Tm} {cn : Int} {Sv tv Gv : Value} {G : List Sp.Tm} {j jx : Nat} {S0 : Nat → Prop} {aS : Option Addr} {bS oS lS cS : Nat} {kS : Nat → Int} {sS : Nat → Value} {tS : Nat → List Sp.Tm} {v2 : Value} {ob : Obj} {us : List Sp.Tm}
    (F : FiS w wr K t0 G0 Ss0 cn Sv jx t tv G Gv) (R : Sp.RowAt w S0 aS bS oS lS cS kS sS tS Ss0) (hj : j < lS) (hb2 : Below (wr.heap.size + 1) (wr.alloc ob) w2) (hB2 : Sp.Built w2 (wr.heap.size + 1) (· ≠ w.heap.size) 27 v2 us) (hf : (Sp.Tm.mk (kS j) (tS j)).fit) :
    wr.heap.size + 1 ≤ (w2.alloc (.cells #[sS j, .int .i64 (kS j)] 27)).heap.size ∧
    Sp.RowAt (w2.alloc (.cells #[sS j, .int .i64 (kS j)] 27)) (fun b => b < w.heap.size ∨ b = w2.heap.size) (some ⟨w2.heap.size, 0, none⟩) w2.heap.size 0 1 1 (fun _ => kS j) (fun _ => sS j) (fun _ => tS j) [.mk (kS j) (tS j)] ∧
    (∀ b, b < (w2.alloc (.cells #[sS j, .int .i64 (kS j)] 27)).heap.size → (b < w.heap.size ∨ b = w2.heap.size) → b ≠ w.heap.size ∧ v2.ownBlock ≠ some b) ∧ wr.heap.size + 1 ≤ w2.heap.size := by
  have hs2 : wr.heap.size + 1 ≤ w2.heap.size := by have := hb2.size; simpa using this
  have lT := lt_blk F.hT
  have hba := one_below wr ob
  have hbw : Below w.heap.size w (w2.alloc (.cells #[sS j, .int .i64 (kS j)] 27)) := below_next ((F.below.trans (hba.mono F.below.size)).trans (hb2.mono (by have := F.below.size; omega))) (one_below _ _)
  refine ⟨by simp; omega, Sp.one_row (heap_alloc_new _ _) (.inr rfl) (((R.sub j hj).more (S' := fun b => b < w.heap.size ∨ b = w2.heap.size) fun b hlt _ => .inl hlt).keep hbw) hf, fun b _ hS => ?_, hs2⟩
  rcases hS with h | h
  · exact ⟨by omega, fun e => by have := (hB2.lt b e).1; have := F.below.size; omega⟩
  · exact ⟨by omega, fun e => by have := (hB2.lt b e).2; omega⟩
theorem cells_still {w w' : World} {b o : Nat} {a0 a1 a2 a3 : Value} (h : w'.heap[b]? = w.heap[b]?) (x : w.cell? ⟨b, o, none⟩ = some a0 ∧ w.cell? ⟨b, o + 1, none⟩ = some a1 ∧ w.cell? ⟨b, o + 2, none⟩ = some a2 ∧ w.cell? ⟨b, o + 3, none⟩ = some a3) :
    w'.cell? ⟨b, o, none⟩ = some a0 ∧ w'.cell? ⟨b, o + 1, none⟩ = some a1 ∧ w'.cell? ⟨b, o + 2, none⟩ = some a2 ∧ w'.cell? ⟨b, o + 3, none⟩ = some a3 := by
  have go : ∀ j u, w.cell? ⟨b, j, none⟩ = some u → w'.cell? ⟨b, j, none⟩ = some u := fun j u e => by rw [World.cell?_of_block (w := w) h]; exact e
  exact ⟨go _ _ x.1, go _ _ x.2.1, go _ _ x.2.2.1, go _ _ x.2.2.2⟩
theorem FiS.next {w wr w3 : World} {K : List Sp.Tm} {t0 : Tm} {G0 Ss0 : List Sp.Tm} {cn : Int} {Sv : Value} {j : Nat} {bo bh bn : Int} {bl : List Tm} {tv bv : Value} {G : List Sp.Tm} {Gv v3 : Value} {x : Sp.Tm} {ob : Obj}
    (F : FiS w wr K t0 G0 Ss0 cn Sv j (.mk 3 0 0 [.mk bo bh bn bl]) tv G Gv) (hb3 : Below (wr.heap.size + 1) (wr.alloc ob) w3) (hB3 : Sp.Built w3 (wr.heap.size + 1) (· ≠ w.heap.size) 27 v3 (G ++ [x])) (lsub : Lies wr (· ≠ w.heap.size) bv bl) (hpb : Tm.proper (.mk bo bh bn bl) = true)
    (heq : fitb K t0 G0.reverse Ss0 cn = fitb K (.mk bo bh bn bl) (x :: G.reverse) (Ss0.drop (j + 1)) cn) :
    FiS w ((((w3.setCell ⟨w.heap.size, 0, none⟩ (.int .i64 bo)).setCell ⟨w.heap.size, 1, none⟩ (.int .i64 bh)).setCell ⟨w.heap.size, 2, none⟩ (.int .i64 bn)).setCell ⟨w.heap.size, 3, none⟩ bv) K t0 G0 Ss0 cn Sv (j + 1) (.mk bo bh bn bl) bv (G ++ [x]) v3 := by
  have lT := lt_blk F.hT
  have lD := lt_blk F.hD
  have hba := one_below wr ob
  have old : ∀ b, b < wr.heap.size → w3.heap[b]? = wr.heap[b]? := fun b hb => (hb3.block b (by omega)).trans (hba.block b hb)
  have hbw : Below w.heap.size w w3 := (F.below.trans (hba.mono F.below.size)).trans (hb3.mono (by have := F.below.size; omega))
  have h0 : w.heap.size ≤ w.heap.size := Nat.le_refl _
  have hbd := F.bd
  have hsz := F.sz
  simp only [Tm.sz, Tm.szL] at hbd hsz
  refine ⟨(((hbw.setCell h0 _).setCell h0 _).setCell h0 _).setCell h0 _, set4_at ((old _ lT).trans F.hT) _ _ _ _, (set4_other _ _ _ _ (by omega)).trans ((old _ lD).trans F.hD), ?_, ?_, hpb, ?_, ?_, ?_⟩
  · exact (lsub.still fun b _ hlt => old b hlt).still fun b hS _ => set4_other _ _ _ _ hS
  · exact (hB3.lies fun b hb _ => by omega).still fun b hS _ => set4_other _ _ _ _ hS
  · simp only [List.length_append, List.length_singleton, Tm.sz]; omega
  · simp only [Tm.sz]; omega
  · rw [List.reverse_append]; exact heq

/-- what the region of the inner call reads -/
abbrev CellsFt (W : World) (T b bo H q qo : Nat) (tv e0 e1 e2 e3 h0 q0 q1 : Value) : Prop :=
  W.cell? ⟨T, 3, none⟩ = some tv ∧ W.cell? ⟨b, bo, none⟩ = some e0 ∧ W.cell? ⟨b, bo + 1, none⟩ = some e1 ∧ W.cell? ⟨b, bo + 2, none⟩ = some e2 ∧ W.cell? ⟨b, bo + 3, none⟩ = some e3 ∧ W.cell? ⟨H, 0, none⟩ = some h0 ∧ W.cell? ⟨q, qo, none⟩ = some q0 ∧ W.cell? ⟨q, qo + 1, none⟩ = some q1
theorem cellsFt_below {W W' : World} {T b bo H q qo : Nat} {tv e0 e1 e2 e3 h0 q0 q1 : Value} (hb : Below W.heap.size W W') (x : CellsFt W T b bo H q qo tv e0 e1 e2 e3 h0 q0 q1) : CellsFt W' T b bo H q qo tv e0 e1 e2 e3 h0 q0 q1 := by
  obtain ⟨x1, x2, x3, x4, x5, x6, x7, x8⟩ := x
  exact ⟨kept_cell hb x1, kept_cell hb x2, kept_cell hb x3, kept_cell hb x4, kept_cell hb x5, kept_cell hb x6, kept_cell hb x7, kept_cell hb x8⟩

theorem hdT_var {K G : List Sp.Tm} {n : Int} {i : Nat} (h0 : 0 ≤ n) (hn : n < (G.length : Int)) (hi : i = G.length - 1 - n.toNat) (hi' : i < G.length) : hdT K G.reverse 1 n = some G[i] := by
  rw [hdT_some h0]
  left
  refine ⟨rfl, ?_⟩
  rw [List.getElem?_reverse (by omega), ← hi, List.getElem?_eq_getElem hi']
theorem hdT_con {K G : List Sp.Tm} {n : Int} (h0 : 0 ≤ n) (hn : n.toNat < K.length) : hdT K G 2 n = some K[n.toNat] := by
  rw [hdT_some h0]; right; exact ⟨rfl, List.getElem?_eq_getElem hn⟩
theorem hdT_novar {K G : List Sp.Tm} {n : Int} (h : (G.length : Int) ≤ n) : hdT K G 1 n = none := by unfold hdT; rw [if_neg (by omega), if_neg (by omega)]
theorem hdT_nocon {K G : List Sp.Tm} {n : Int} (h : (K.length : Int) ≤ n) : hdT K G 2 n = none := by unfold hdT; rw [if_neg (by omega), if_neg (by omega)]
theorem hdT_meta {K G : List Sp.Tm} {h n : Int} (h1 : ¬ h = 1) (h2 : ¬ h = 2) : hdT K G h n = none := by unfold hdT; rw [if_neg (by omega), if_neg (by omega)]

set_option maxHeartbeats 16000000 in
set_option maxRecDepth 100000 in
theorem fits_walk (K : List Sp.Tm) (Kv : Value) (m : Nat) (ih : FtOk K Kv m) : FtOk K Kv (m + 1) := by
  intro o0 h0 n0 cn l0 Ss0 G0 tv Sv Gv w hsz hp hbd hK hG ht hS
  obtain ⟨a1, n1, m1, rfl⟩ := ht.isSlice
  obtain ⟨aS, bS, oS, lS, cS, kS, sS, tS, rfl, SR⟩ := hS.open
  obtain ⟨aK, bK, oK, lK, cK, kK, sK, tK, rfl, KR⟩ := hK.open
  have h2 := two_blocks w #[.int .i64 o0, .int .i64 h0, .int .i64 n0, .slice a1 n1 m1] #[.slice aS lS cS, .int .i64 cn] 24 27
  have hb2 := two_below w (.cells #[.int .i64 o0, .int .i64 h0, .int .i64 n0, .slice a1 n1 m1] 24) (.cells #[.slice aS lS cS, .int .i64 cn] 27)
  have hst : FiS w ((w.alloc (.cells #[.int .i64 o0, .int .i64 h0, .int .i64 n0, .slice a1 n1 m1] 24)).alloc (.cells #[.slice aS lS cS, .int .i64 cn] 27)) K (.mk o0 h0 n0 l0) G0 Ss0 cn (.slice aS lS cS) 0 (.mk o0 h0 n0 l0) (.slice a1 n1 m1) G0 Gv :=
    ⟨hb2, h2.1, h2.2, (ht.more fun b hlt _ => by omega).keep hb2, (hG.more fun b hlt _ => by omega).keep hb2, hp, Nat.le_refl _, Nat.le_refl _, rfl⟩
  obtain ⟨d0, d1⟩ := (cells2_of h2.2).1
  obtain ⟨i0, hi0, hz0, hz1, hz2⟩ := info_parts Sp.sm_info
  have HI := Lib.hid (And.intro hi0 (And.intro hz0 (And.intro hz1 hz2)))
  have HSR := Lib.hid SR
  have HKR := Lib.hid KR
  have HKL := Lib.hid hK
  have HST := Lib.hid hst
  have HSZ := Lib.hid (And.intro hsz hbd)
  have hSl := SR.hl
  have hSr := SR.hr
  have hKl := KR.hl
  have hKr := KR.hr
  have hSlen := SR.length
  have HSL := Lib.hid hSlen
  clear h2 hb2 hst hK hG ht hS hp SR KR hi0 hz0 hz1 hz2 hsz hbd hSlen
  go_enter Try.func33, Try.ntmps33
  go_wp2_with fail
  go_loopw [17, 1] (fun i c wr => ∃ (j : Nat) (t : Tm) (tv : Value) (G : List Sp.Tm), j ≤ lS ∧ i = .int .i64 j ∧ FiS w wr K (.mk o0 h0 n0 l0) G0 Ss0 cn (.slice aS lS cS) j t tv G c) (fun i _ _ => lS - (intOf i).toNat)
  case atStart => exact ⟨0, _, _, _, Nat.zero_le _, rfl, HST.out⟩
  case round =>
    obtain ⟨j, t, tv, G, hj, rfl, F⟩ := hrel
    obtain ⟨o, h, n, l⟩ := t
    have hT : wr.heap[w.heap.size]? = some (.cells #[.int .i64 o, .int .i64 h, .int .i64 n, tv] 24 (0, 0)) := F.hT
    have hform := (Tm.proper_two F.pr).2
    simp only [Tm.formed, Bool.and_eq_true, decide_eq_true_eq] at hform
    have hhead := Tm.headOk_yes _ _ _ _ hform.1.2
    clear hform
    by_cases hlt : j < lS
    · have hjS : j < Ss0.length := by rw [HSL.out]; exact hlt
      have hj0 : (0 : Int) ≤ (j : Int) := by omega
      have hj1 : (j : Int) < (lS : Int) := by omega
      obtain rfl := HSR.out.hao (by omega)
      obtain ⟨p0, p1, psub⟩ := HSR.out.at F.below j hlt
      obtain ⟨a5, n5, m5, hs5⟩ := psub.isSlice
      rw [hs5] at p0 psub
      have hgS : Ss0[j]'hjS = .mk (kS j) (tS j) := HSR.out.get j hlt
      have heq := F.eq
      rw [List.drop_eq_getElem_cons hjS, hgS] at heq
      have hba := one_below wr (.cells #[.slice a5 n5 m5, .int .i64 (kS j)] 27)
      have hOn := heap_alloc_new wr (.cells #[.slice a5 n5 m5, .int .i64 (kS j)] 27)
      by_cases ho : o = 3
      · subst ho
        obtain ⟨⟨bo, bh, bn, bl⟩, rfl, rfl, rfl, hpb⟩ := Tm.proper_lam F.pr
        obtain ⟨aL, bL, oL, lL, cL, ooL, hhL, kkL, svL, ttL, rfl, LR⟩ := F.lt.open
        obtain rfl : lL = 1 := by have := LR.length; simpa [Tm.args] using this.symm
        obtain rfl := LR.hao (by omega)
        have hLl := LR.hl
        have hLr := LR.hr
        have hgL : Tm.mk bo bh bn bl = .mk (ooL 0) (hhL 0) (kkL 0) (ttL 0) := by have := LR.get 0 (by omega); simpa [Tm.args] using this
        injection hgL with eo eh en el
        subst eo eh en el
        obtain ⟨aG, bG, oG, lG, cG, kG, sG, tG, rfl, GR⟩ := F.lG.open
        have hGl := GR.length
        have hbd9 : G.length ≤ 1000 := by have := F.bd; have := HSZ.out.2; omega
        have hwT : w.heap.size < wr.heap.size := lt_blk F.hT
        have hLb : bL < wr.heap.size := World.block_lt_of_cell? _ _ (LR.c0 0 (by omega))
        have hLne : bL ≠ w.heap.size := LR.hS (by omega)
        obtain ⟨l0', l1', l2', l3', lsub⟩ := LR.at (Below.refl _ _) 0 (by omega)
        obtain ⟨a7, n7, m7, hs7⟩ := lsub.isSlice
        rw [hs7] at l3' lsub
        simp only [Nat.zero_mul, Nat.add_zero] at l0' l1' l2' l3'
        obtain ⟨x0, x1, x2, x3⟩ := c4_of (heap_kept hba hT)
        have hpf : (Sp.Tm.mk (kS j) (tS j)).fit := HSR.out.fits _ (HSR.out.mem j hlt)
        rw [fitb_lam] at heq
        have tok1 : Hid True := Lib.hid trivial
        have HS5 := Lib.hid hs5
        have HF := Lib.hid F
        have HH := Lib.hid (And.intro psub (And.intro heq (And.intro hba (And.intro hOn (And.intro hpb (And.intro lsub (And.intro hT hpf)))))))
        have HGR := Lib.hid GR
        have HL4 := Lib.hid (And.intro l0' (And.intro l1' (And.intro l2' l3')))
        clear F hT psub hs5 hgS heq hba hOn hhead hpb LR GR lsub hs7 l0' l1' l2' l3' hpf
        go_wp2_with (first
          | (at_builtin; have _t := tok1; refine Sp.wpList_append_row (by rfl) _ _ _ (by rfl) (wr.heap.size + 1) 27 i0 _ Sp.il_underlying HI.out.1 HI.out.2.1 HI.out.2.2.1 HI.out.2.2.2 rfl (S := (· ≠ w.heap.size)) (v := .slice none 0 0) (ts := []) (by rfl) (Sp.Built.nil _ _ _ _) (by simp) (by rfl) HGR.out HH.out.2.2.1 (fun b hlt hS => ⟨hS, by simp [Value.ownBlock]⟩) (by simp; omega) ?_; intro v2 w2 hB2 hgrow2; (have hb2 : Below (wr.heap.size + 1) (wr.alloc (.cells #[.slice a5 n5 m5, .int .i64 (kS j)] 27)) w2 := Below.grown (Below.refl _ _) hgrow2 (by simp) (fun k hk => by cases hk)); (obtain ⟨⟨u0, u1⟩, _⟩ := cells2_of ((hb2.block wr.heap.size (by omega)).trans HH.out.2.2.2.1)); have hsx := ft_src HF.out HSR.out hlt hb2 hB2 HH.out.2.2.2.2.2.2.2; rw [HS5.out] at hsx; have HSX := Lib.hid hsx; clear hsx; have HB2 := Lib.hid (And.intro hB2 hb2); clear hB2 hb2 hgrow2 tok1; have tok2 : Hid True := Lib.hid trivial)
          | (at_builtin; have _t := tok2; refine Sp.wpList_append_row (by rfl) _ _ _ (by rfl) (wr.heap.size + 1) 27 i0 _ Sp.il_underlying HI.out.1 HI.out.2.1 HI.out.2.2.1 HI.out.2.2.2 rfl (S := (· ≠ w.heap.size)) (v := v2) (ts := G) (by rfl) (HB2.out.1.below (one_below _ _)) HSX.out.1 (by rfl) HSX.out.2.1 (Below.refl _ _) HSX.out.2.2.1 (by omega) ?_; intro v3 w3 hB3 hgrow3; (have hb3 : Below (wr.heap.size + 1) (wr.alloc (.cells #[.slice a5 n5 m5, .int .i64 (kS j)] 27)) w3 := Below.grown (HB2.out.2.trans ((one_below _ _).mono HSX.out.2.2.2)) hgrow3 HSX.out.1 (fun k hk => (HB2.out.1.lt k hk).1)); have HB3 := Lib.hid (And.intro hB3 hb3); (have hT3 := (hb3.block w.heap.size (by omega)).trans (heap_kept HH.out.2.2.1 HH.out.2.2.2.2.2.2.1)); (obtain ⟨g0, g1, g2, g3⟩ := cells_still ((hb3.block bL (by omega)).trans (HH.out.2.2.1.block bL (by omega))) HL4.out); have f0 := free_in hT3 0; have f1 := free_in hT3 1; have f2 := free_in hT3 2; have f3 := free_in hT3 3; clear hB3 hb3 hgrow3 tok2 x0 x1 x2 x3 u0 u1; (obtain ⟨x0, x1, x2, x3⟩ := c4_of hT3); clear hT3)
          | fail)
        go_roundw
        case rel => exact ⟨j + 1, .mk (ooL 0) (hhL 0) (kkL 0) (ttL 0), .slice a7 n7 m7, G ++ [.mk (kS j) (tS j)], by omega, by go_num, HF.out.next HB3.out.2 HB3.out.1 HH.out.2.2.2.2.2.1 HH.out.2.2.2.2.1 HH.out.2.1⟩
        case measure => simp [intOf]; omega
      · have hop : (o != 3) = true := by simp [ho]
        obtain ⟨a6, n6, m6, rfl⟩ := F.lt.isSlice
        have HEQ := Lib.hid (show fitb K (.mk o0 h0 n0 l0) G0.reverse Ss0 cn = false by rw [heq, fitb_nolam (.inl ho)])
        obtain ⟨x0, x1, x2, x3⟩ := c4_of (heap_kept hba hT)
        have HB := Lib.hid (below_next F.below hba)
        clear F hT psub hs5 hgS heq hba hOn ho hhead
        go_wp2_with fail
        go_ret
        exact ⟨by rw [HEQ.out]; rfl, HB.out⟩
    · obtain rfl : j = lS := by omega
      have heq := F.eq
      rw [List.drop_of_length_le (by rw [HSL.out]; exact Nat.le_refl _)] at heq
      have hj1 : ¬ (j : Int) < (j : Int) := by omega
      obtain ⟨aT, bT, oT, lT, cT, ooT, hhT, kkT, svT, ttT, rfl, TR⟩ := F.lt.open
      obtain ⟨x0, x1, x2, x3⟩ := c4_of hT
      by_cases ho : o = 4
      · subst ho
        obtain ⟨N, rfl⟩ : ∃ N : Nat, n = N := ⟨n.toNat, by omega⟩
        have hnn : ¬ (N : Int) < 0 := by omega
        have hh13 : 1 ≤ h ∧ h ≤ 3 := by omega
        obtain ⟨aG, bG, oG, lG, cG, kG, sG, tG, rfl, GR⟩ := F.lG.open
        have hGl := GR.length
        have hGlc := GR.hl
        have hGr := GR.hr
        have hKlen := HKR.out.length
        have hbz := one_below wr (.cells #[.slice none 0 0, .int .i64 0] 27)
        have hZn := heap_alloc_new wr (.cells #[.slice none 0 0, .int .i64 0] 27)
        obtain ⟨y0, y1, y2, y3⟩ := c4_of (heap_kept hbz hT)
        obtain ⟨⟨z0, z1⟩, zf0, zf1⟩ := cells2_of hZn
        have way : (h = 1 ∧ N < lG) ∨ (h = 2 ∧ N < lK) ∨ ((h = 1 ∧ lG ≤ N) ∨ (h = 2 ∧ lK ≤ N) ∨ h = 3) := by omega
        rcases way with ⟨rfl, hN⟩ | ⟨rfl, hN⟩ | way
        · obtain rfl := GR.hao (by omega)
          have hi0 : (0 : Int) ≤ (lG : Int) - 1 - (N : Int) := by omega
          have hi1 : (lG : Int) - 1 - (N : Int) < (lG : Int) := by omega
          have hi2 : (N : Int) < (lG : Int) := by omega
          obtain ⟨p0', p1', psub'⟩ := GR.at (Below.refl _ _) (lG - 1 - N) (by omega)
          have psub := psub'.more (S' := fun _ => True) fun _ _ _ => trivial
          have p0 := kept_cell hbz p0'
          have p1 := kept_cell hbz p1'
          have hH : hdT K G.reverse 1 (N : Int) = some (.mk (kG (lG - 1 - N)) (tG (lG - 1 - N))) := by
            rw [hdT_var (i := lG - 1 - N) (by omega) (by omega) (by omega) (by omega), GR.get _ (by omega)]
          obtain ⟨aH, lH, cH, hsH⟩ := psub.isSlice
          rw [hsH] at p0 psub
          generalize tG (lG - 1 - N) = HA at hH psub
          generalize hkn : kG (lG - 1 - N) = kn at hH p1
          clear hkn hsH p0' p1' psub'
          rw [fitb_some (by omega) hH] at heq
          simp only [Sp.Tm.n, Sp.Tm.args] at heq
          have hWh := heap_alloc_new wr (.cells #[.slice aH lH cH, .int .i64 kn] 27)
          have hWb := one_below wr (.cells #[.slice aH lH cH, .int .i64 kn] 27)
          generalize hWe : wr.alloc (.cells #[.slice aH lH cH, .int .i64 kn] 27) = W at hWh hWb
          obtain ⟨aH', bH, oH, lH', cH', kH, sH, tH, hse, HAR⟩ := (psub.keep hWb).open
          obtain ⟨rfl, rfl, rfl⟩ : aH = aH' ∧ lH = lH' ∧ cH = cH' := by injection hse with e1 e2 e3; exact ⟨e1, e2, e3⟩
          obtain ⟨aT', bT', oT', lT', cT', ooT', hhT', kkT', svT', ttT', hse2, TW⟩ := (F.lt.keep hWb).open
          obtain ⟨rfl, rfl, rfl⟩ : aT = aT' ∧ lT = lT' ∧ cT = cT' := by injection hse2 with e1 e2 e3; exact ⟨e1, e2, e3⟩
          obtain ⟨⟨q0, q1⟩, _⟩ := cells2_of hWh
          obtain ⟨⟨d0, d1⟩, _⟩ := cells2_of (heap_kept hWb F.hD)
          have t3 := cell_in (heap_kept hWb hT) 3 _ rfl
          have hAl := HAR.length
          have hTl := TW.length
          have hbw := below_next F.below hWb
          have HBW := Lib.hid hbw
          have HPR := Lib.hid (And.intro (Tm.proper_parts F.pr) (And.intro F.sz F.bd))
          have HLG := Lib.hid ((F.lG.more (S' := fun _ => True) fun _ _ _ => trivial).keep hWb)
          by_cases hcon : kn = cn
          · subst hcon
            have hc1 : (kn != kn) = false := by simp
            by_cases hlen : lH = lT
            · have hl1 : ((lH : Int) != (lT : Int)) = false := by simp [hlen]
              have hll : HA.length = l.length := by rw [hAl]; exact hlen.trans hTl.symm
              have HEQ := Lib.hid (show fitb K (.mk o0 h0 n0 l0) G0.reverse Ss0 kn = fitbL K l G.reverse HA by rw [heq]; simp [hll])
              have HLL := Lib.hid (And.intro hll (And.intro hlen (And.intro hAl hTl)))
              have HTR := Lib.hid (And.intro TW HAR)
              have hTlc := TW.hl
              have hTr := TW.hr
              have hHlc := HAR.hl
              have hHr := HAR.hr
              clear F hT heq hll hAl hTl hWh hWb hbw TW HAR hlen hH psub GR TR hse hse2 hGl hKlen hbz hZn
              go_wp2_with fail
              clear hWe
              obtain ⟨wo, rfl⟩ : ∃ wo : World, wo = wr := ⟨_, rfl⟩
              go_loopw [104] (fun i wx => ∃ k : Nat, k ≤ lT ∧ i = .int .i64 k ∧ Below W.heap.size W wx ∧ FtTo K G.reverse l HA k) (fun i _ => lT - (intOf i).toNat)
              case atStart => exact ⟨0, Nat.zero_le _, rfl, Below.refl _ _, FtTo.zero _ _ _ _⟩
              case round =>
                obtain ⟨k, hk, rfl, hbx, hft⟩ := hrel
                have HF := Lib.hid (And.intro hbx hft)
                clear hft
                by_cases hkl : k < lT
                · have hk0 : (0 : Int) ≤ (k : Int) := by omega
                  have hk1 : (k : Int) < (lT : Int) := by omega
                  have hkH : k < lH := by have := HLL.out.2.1; omega
                  have hk2 : (k : Int) < (lH : Int) := by omega
                  have hka : k < l.length := by have := HLL.out.2.2.2; simp only [Tm.args] at this; omega
                  have hkb : k < HA.length := by rw [HLL.out.2.2.1]; exact hkH
                  obtain rfl := HTR.out.1.hao (by omega)
                  obtain rfl := HTR.out.2.hao (by omega)
                  obtain ⟨e0, e1, e2, e3, esub⟩ := HTR.out.1.at hbx k hkl
                  obtain ⟨p0, p1, psub⟩ := HTR.out.2.at hbx k hkH
                  obtain ⟨av, nv, mv, hev⟩ := esub.isSlice
                  obtain ⟨aw, nw, mw, hew⟩ := psub.isSlice
                  rw [hev] at e3 esub
                  rw [hew] at p0 psub
                  have hg1 : l[k] = .mk (ooT' k) (hhT' k) (kkT' k) (ttT' k) := HTR.out.1.get k hkl
                  have hg2 := HTR.out.2.get k hkH
                  have hS0 : CellsFt wr w.heap.size bT' (oT' + k * 4) wo.heap.size bH (oH + k * 2) (.slice (some ⟨bT', oT', none⟩) lT cT) (.int .i64 (ooT' k)) (.int .i64 (hhT' k)) (.int .i64 (kkT' k)) (.slice av nv mv) (.slice (some ⟨bH, oH, none⟩) lH cH) (.slice aw nw mw) (.int .i64 (kH k)) := ⟨kept_cell hbx t3, e0, e1, e2, e3, kept_cell hbx q0, p0, p1⟩
                  have hprk : Tm.proper (.mk (ooT' k) (hhT' k) (kkT' k) (ttT' k)) = true := by rw [← hg1]; exact HPR.out.1 _ (List.getElem_mem hka)
                  have hszk := Tm.szL_le_of_mem (HTR.out.1.mem k hkl)
                  have hbG := below_next HBW.out hbx
                  have call : ∀ w1, Below wr.heap.size wr w1 → Calls Try.prog 33 #[(.slice aK lK cK), (.slice (some ⟨bG, oG, none⟩) lG cG), .agg #[.int .i64 (ooT' k), .int .i64 (hhT' k), .int .i64 (kkT' k), .slice av nv mv], .agg #[.slice aw nw mw, .int .i64 (kH k)]] w1 fun e w' => e = .returned (.bool (fitb K (.mk (ooT' k) (hhT' k) (kkT' k) (ttT' k)) G.reverse (tH k) (kH k))) ∧ Below w1.heap.size w1 w' := fun w1 hb => by
                    have hz1 := HPR.out.2.1
                    have hz2 := HPR.out.2.2
                    have hz3 := HSZ.out
                    simp only [Tm.sz, Tm.args] at hz1 hz2 hz3 hszk
                    exact ih _ _ _ _ _ _ _ _ _ _ w1 (by simp only [Tm.sz]; omega) hprk (by simp only [Tm.sz]; omega) (HKL.out.keep (below_next hbG hb)) (HLG.out.keep (below_next hbx hb)) ((esub.more fun _ _ _ => trivial).keep hb) ((psub.more fun _ _ _ => trivial).keep hb)
                  have HD : Hid (Below wr.heap.size wr wr.drew) := Lib.hid (Below.refl _ _).drew
                  rcases hfi : fitb K (.mk (ooT' k) (hhT' k) (kkT' k) (ttT' k)) G.reverse (tH k) (kH k) with _ | _
                  · have HN := Lib.hid (FtTo.hit (K := K) (G := G.reverse) hka HLL.out.1.symm (by rw [hg1, hg2]; exact hfi))
                    simp only [hfi] at call
                    clear hfi hg1 hg2 hszk esub psub hprk hbG hbx e0 e1 e2 e3 p0 p1
                    go_upto_region 25 with fail
                    go_region_held3 (fun X => CellsFt X w.heap.size bT' (oT' + k * 4) wo.heap.size bH (oH + k * 2) (.slice (some ⟨bT', oT', none⟩) lT cT) (.int .i64 (ooT' k)) (.int .i64 (hhT' k)) (.int .i64 (kkT' k)) (.slice av nv mv) (.slice (some ⟨bH, oH, none⟩) lH cH) (.slice aw nw mw) (.int .i64 (kH k)))
                      (first | (with_reducible exact hS0) | (with_reducible exact hcn9) | (with_reducible exact cellsFt_below HD.out hS0) | fail)
                      (first | (go_at_call 33; (with_reducible refine (call _ ?_).mono ?_); (first | (with_reducible exact HD.out) | fail); rintro e w2 ⟨rfl, hb2⟩; have hcn9 := cellsFt_below hb2 (cellsFt_below HD.out hS0)) | fail)
                    go_wp2_with fail
                    go_ret
                    exact ⟨by rw [HEQ.out, HN.out]; rfl, below_next HBW.out (below_next (below_next HF.out.1 HD.out) hb2)⟩
                  · have HN := Lib.hid (HF.out.2.step hka hkb (by rw [hg1, hg2]; exact hfi))
                    simp only [hfi] at call
                    clear hfi hg1 hg2 hszk esub psub hprk hbG hbx e0 e1 e2 e3 p0 p1
                    go_upto_region 25 with fail
                    go_region_held3 (fun X => CellsFt X w.heap.size bT' (oT' + k * 4) wo.heap.size bH (oH + k * 2) (.slice (some ⟨bT', oT', none⟩) lT cT) (.int .i64 (ooT' k)) (.int .i64 (hhT' k)) (.int .i64 (kkT' k)) (.slice av nv mv) (.slice (some ⟨bH, oH, none⟩) lH cH) (.slice aw nw mw) (.int .i64 (kH k)))
                      (first | (with_reducible exact hS0) | (with_reducible exact hcn9) | (with_reducible exact cellsFt_below HD.out hS0) | fail)
                      (first | (go_at_call 33; (with_reducible refine (call _ ?_).mono ?_); (first | (with_reducible exact HD.out) | fail); rintro e w2 ⟨rfl, hb2⟩; have hcn9 := cellsFt_below hb2 (cellsFt_below HD.out hS0)) | fail)
                    go_wp2_with fail
                    go_roundw
                    case rel => exact ⟨k + 1, by omega, by go_num, below_next (below_next HF.out.1 HD.out) hb2, HN.out⟩
                    case measure => simp [intOf]; omega
                · obtain rfl : k = lT := by omega
                  have HA9 := Lib.hid (HF.out.2.all (by have := HLL.out.2.2.2; simp only [Tm.args] at this; omega) HLL.out.1.symm)
                  have hk1 : ¬ (k : Int) < (k : Int) := by omega
                  go_wp2_with fail
                  go_ret
                  exact ⟨by rw [HEQ.out, HA9.out]; rfl, below_next HBW.out HF.out.1⟩
            · have hl1 : ((lH : Int) != (lT : Int)) = true := by simp; omega
              have hll : ¬ HA.length = l.length := by intro h; exact hlen (hAl.symm.trans (h.trans hTl))
              have HEQ := Lib.hid (show fitb K (.mk o0 h0 n0 l0) G0.reverse Ss0 kn = false by rw [heq]; simp [hll])
              clear F hT heq hll hAl hTl hWh hWb hbw TW HAR hlen hH psub GR TR hse hse2 hGl hKlen hbz hZn
              go_wp2_with fail
              go_ret
              exact ⟨by rw [HEQ.out]; rfl, HBW.out⟩
          · have hc1 : (kn != cn) = true := by simp [hcon]
            have HEQ := Lib.hid (show fitb K (.mk o0 h0 n0 l0) G0.reverse Ss0 cn = false by rw [heq]; simp [hcon])
            clear F hT heq hAl hTl hWh hWb hbw TW HAR hH psub hcon GR TR hse hse2 hGl hKlen hbz hZn
            go_wp2_with fail
            go_ret
            exact ⟨by rw [HEQ.out]; rfl, HBW.out⟩
        · obtain rfl := HKR.out.hao (by omega)
          have hi2 : (N : Int) < (lK : Int) := by omega
          have hi3 : (0 : Int) ≤ (N : Int) := by omega
          obtain ⟨p0', p1', psub'⟩ := HKR.out.at F.below N (by omega)
          have psub := psub'.more (S' := fun _ => True) fun _ _ _ => trivial
          have p0 := kept_cell hbz p0'
          have p1 := kept_cell hbz p1'
          have hH : hdT K G.reverse 2 (N : Int) = some (.mk (kK N) (tK N)) := by
            rw [hdT_con (by omega) (show (N : Int).toNat < K.length by omega)]
            have := HKR.out.get N hN
            simpa using this
          obtain ⟨aH, lH, cH, hsH⟩ := psub.isSlice
          rw [hsH] at p0 psub
          generalize tK N = HA at hH psub
          generalize hkn : kK N = kn at hH p1
          clear hkn hsH p0' p1' psub'
          rw [fitb_some (by omega) hH] at heq
          simp only [Sp.Tm.n, Sp.Tm.args] at heq
          have hWh := heap_alloc_new wr (.cells #[.slice aH lH cH, .int .i64 kn] 27)
          have hWb := one_below wr (.cells #[.slice aH lH cH, .int .i64 kn] 27)
          generalize hWe : wr.alloc (.cells #[.slice aH lH cH, .int .i64 kn] 27) = W at hWh hWb
          obtain ⟨aH', bH, oH, lH', cH', kH, sH, tH, hse, HAR⟩ := (psub.keep hWb).open
          obtain ⟨rfl, rfl, rfl⟩ : aH = aH' ∧ lH = lH' ∧ cH = cH' := by injection hse with e1 e2 e3; exact ⟨e1, e2, e3⟩
          obtain ⟨aT', bT', oT', lT', cT', ooT', hhT', kkT', svT', ttT', hse2, TW⟩ := (F.lt.keep hWb).open
          obtain ⟨rfl, rfl, rfl⟩ : aT = aT' ∧ lT = lT' ∧ cT = cT' := by injection hse2 with e1 e2 e3; exact ⟨e1, e2, e3⟩
          obtain ⟨⟨q0, q1⟩, _⟩ := cells2_of hWh
          obtain ⟨⟨d0, d1⟩, _⟩ := cells2_of (heap_kept hWb F.hD)
          have t3 := cell_in (heap_kept hWb hT) 3 _ rfl
          have hAl := HAR.length
          have hTl := TW.length
          have hbw := below_next F.below hWb
          have HBW := Lib.hid hbw
          have HPR := Lib.hid (And.intro (Tm.proper_parts F.pr) (And.intro F.sz F.bd))
          have HLG := Lib.hid ((F.lG.more (S' := fun _ => True) fun _ _ _ => trivial).keep hWb)
          by_cases hcon : kn = cn
          · subst hcon
            have hc1 : (kn != kn) = false := by simp
            by_cases hlen : lH = lT
            · have hl1 : ((lH : Int) != (lT : Int)) = false := by simp [hlen]
              have hll : HA.length = l.length := by rw [hAl]; exact hlen.trans hTl.symm
              have HEQ := Lib.hid (show fitb K (.mk o0 h0 n0 l0) G0.reverse Ss0 kn = fitbL K l G.reverse HA by rw [heq]; simp [hll])
              have HLL := Lib.hid (And.intro hll (And.intro hlen (And.intro hAl hTl)))
              have HTR := Lib.hid (And.intro TW HAR)
              have hTlc := TW.hl
              have hTr := TW.hr
              have hHlc := HAR.hl
              have hHr := HAR.hr
              clear F hT heq hll hAl hTl hWh hWb hbw TW HAR hlen hH psub GR TR hse hse2 hGl hKlen hbz hZn
              go_wp2_with fail
              clear hWe
              obtain ⟨wo, rfl⟩ : ∃ wo : World, wo = wr := ⟨_, rfl⟩
              go_loopw [104] (fun i wx => ∃ k : Nat, k ≤ lT ∧ i = .int .i64 k ∧ Below W.heap.size W wx ∧ FtTo K G.reverse l HA k) (fun i _ => lT - (intOf i).toNat)
              case atStart => exact ⟨0, Nat.zero_le _, rfl, Below.refl _ _, FtTo.zero _ _ _ _⟩
              case round =>
                obtain ⟨k, hk, rfl, hbx, hft⟩ := hrel
                have HF := Lib.hid (And.intro hbx hft)
                clear hft
                by_cases hkl : k < lT
                · have hk0 : (0 : Int) ≤ (k : Int) := by omega
                  have hk1 : (k : Int) < (lT : Int) := by omega
                  have hkH : k < lH := by have := HLL.out.2.1; omega
                  have hk2 : (k : Int) < (lH : Int) := by omega
                  have hka : k < l.length := by have := HLL.out.2.2.2; simp only [Tm.args] at this; omega
                  have hkb : k < HA.length := by rw [HLL.out.2.2.1]; exact hkH
                  obtain rfl := HTR.out.1.hao (by omega)
                  obtain rfl := HTR.out.2.hao (by omega)
                  obtain ⟨e0, e1, e2, e3, esub⟩ := HTR.out.1.at hbx k hkl
                  obtain ⟨p0, p1, psub⟩ := HTR.out.2.at hbx k hkH
                  obtain ⟨av, nv, mv, hev⟩ := esub.isSlice
                  obtain ⟨aw, nw, mw, hew⟩ := psub.isSlice
                  rw [hev] at e3 esub
                  rw [hew] at p0 psub
                  have hg1 : l[k] = .mk (ooT' k) (hhT' k) (kkT' k) (ttT' k) := HTR.out.1.get k hkl
                  have hg2 := HTR.out.2.get k hkH
                  have hS0 : CellsFt wr w.heap.size bT' (oT' + k * 4) wo.heap.size bH (oH + k * 2) (.slice (some ⟨bT', oT', none⟩) lT cT) (.int .i64 (ooT' k)) (.int .i64 (hhT' k)) (.int .i64 (kkT' k)) (.slice av nv mv) (.slice (some ⟨bH, oH, none⟩) lH cH) (.slice aw nw mw) (.int .i64 (kH k)) := ⟨kept_cell hbx t3, e0, e1, e2, e3, kept_cell hbx q0, p0, p1⟩
                  have hprk : Tm.proper (.mk (ooT' k) (hhT' k) (kkT' k) (ttT' k)) = true := by rw [← hg1]; exact HPR.out.1 _ (List.getElem_mem hka)
                  have hszk := Tm.szL_le_of_mem (HTR.out.1.mem k hkl)
                  have hbG := below_next HBW.out hbx
                  have call : ∀ w1, Below wr.heap.size wr w1 → Calls Try.prog 33 #[(.slice (some ⟨bK, oK, none⟩) lK cK), (.slice aG lG cG), .agg #[.int .i64 (ooT' k), .int .i64 (hhT' k), .int .i64 (kkT' k), .slice av nv mv], .agg #[.slice aw nw mw, .int .i64 (kH k)]] w1 fun e w' => e = .returned (.bool (fitb K (.mk (ooT' k) (hhT' k) (kkT' k) (ttT' k)) G.reverse (tH k) (kH k))) ∧ Below w1.heap.size w1 w' := fun w1 hb => by
                    have hz1 := HPR.out.2.1
                    have hz2 := HPR.out.2.2
                    have hz3 := HSZ.out
                    simp only [Tm.sz, Tm.args] at hz1 hz2 hz3 hszk
                    exact ih _ _ _ _ _ _ _ _ _ _ w1 (by simp only [Tm.sz]; omega) hprk (by simp only [Tm.sz]; omega) (HKL.out.keep (below_next hbG hb)) (HLG.out.keep (below_next hbx hb)) ((esub.more fun _ _ _ => trivial).keep hb) ((psub.more fun _ _ _ => trivial).keep hb)
                  have HD : Hid (Below wr.heap.size wr wr.drew) := Lib.hid (Below.refl _ _).drew
                  rcases hfi : fitb K (.mk (ooT' k) (hhT' k) (kkT' k) (ttT' k)) G.reverse (tH k) (kH k) with _ | _
                  · have HN := Lib.hid (FtTo.hit (K := K) (G := G.reverse) hka HLL.out.1.symm (by rw [hg1, hg2]; exact hfi))
                    simp only [hfi] at call
                    clear hfi hg1 hg2 hszk esub psub hprk hbG hbx e0 e1 e2 e3 p0 p1
                    go_upto_region 25 with fail
                    go_region_held3 (fun X => CellsFt X w.heap.size bT' (oT' + k * 4) wo.heap.size bH (oH + k * 2) (.slice (some ⟨bT', oT', none⟩) lT cT) (.int .i64 (ooT' k)) (.int .i64 (hhT' k)) (.int .i64 (kkT' k)) (.slice av nv mv) (.slice (some ⟨bH, oH, none⟩) lH cH) (.slice aw nw mw) (.int .i64 (kH k)))
                      (first | (with_reducible exact hS0) | (with_reducible exact hcn9) | (with_reducible exact cellsFt_below HD.out hS0) | fail)
                      (first | (go_at_call 33; (with_reducible refine (call _ ?_).mono ?_); (first | (with_reducible exact HD.out) | fail); rintro e w2 ⟨rfl, hb2⟩; have hcn9 := cellsFt_below hb2 (cellsFt_below HD.out hS0)) | fail)
                    go_wp2_with fail
                    go_ret
                    exact ⟨by rw [HEQ.out, HN.out]; rfl, below_next HBW.out (below_next (below_next HF.out.1 HD.out) hb2)⟩
                  · have HN := Lib.hid (HF.out.2.step hka hkb (by rw [hg1, hg2]; exact hfi))
                    simp only [hfi] at call
                    clear hfi hg1 hg2 hszk esub psub hprk hbG hbx e0 e1 e2 e3 p0 p1
                    go_upto_region 25 with fail
                    go_region_held3 (fun X => CellsFt X w.heap.size bT' (oT' + k * 4) wo.heap.size bH (oH + k * 2) (.slice (some ⟨bT', oT', none⟩) lT cT) (.int .i64 (ooT' k)) (.int .i64 (hhT' k)) (.int .i64 (kkT' k)) (.slice av nv mv) (.slice (some ⟨bH, oH, none⟩) lH cH) (.slice aw nw mw) (.int .i64 (kH k)))
                      (first | (with_reducible exact hS0) | (with_reducible exact hcn9) | (with_reducible exact cellsFt_below HD.out hS0) | fail)
                      (first | (go_at_call 33; (with_reducible refine (call _ ?_).mono ?_); (first | (with_reducible exact HD.out) | fail); rintro e w2 ⟨rfl, hb2⟩; have hcn9 := cellsFt_below hb2 (cellsFt_below HD.out hS0)) | fail)
                    go_wp2_with fail
                    go_roundw
                    case rel => exact ⟨k + 1, by omega, by go_num, below_next (below_next HF.out.1 HD.out) hb2, HN.out⟩
                    case measure => simp [intOf]; omega
                · obtain rfl : k = lT := by omega
                  have HA9 := Lib.hid (HF.out.2.all (by have := HLL.out.2.2.2; simp only [Tm.args] at this; omega) HLL.out.1.symm)
                  have hk1 : ¬ (k : Int) < (k : Int) := by omega
                  go_wp2_with fail
                  go_ret
                  exact ⟨by rw [HEQ.out, HA9.out]; rfl, below_next HBW.out HF.out.1⟩
            · have hl1 : ((lH : Int) != (lT : Int)) = true := by simp; omega
              have hll : ¬ HA.length = l.length := by intro h; exact hlen (hAl.symm.trans (h.trans hTl))
              have HEQ := Lib.hid (show fitb K (.mk o0 h0 n0 l0) G0.reverse Ss0 kn = false by rw [heq]; simp [hll])
              clear F hT heq hll hAl hTl hWh hWb hbw TW HAR hlen hH psub GR TR hse hse2 hGl hKlen hbz hZn
              go_wp2_with fail
              go_ret
              exact ⟨by rw [HEQ.out]; rfl, HBW.out⟩
          · have hc1 : (kn != cn) = true := by simp [hcon]
            have HEQ := Lib.hid (show fitb K (.mk o0 h0 n0 l0) G0.reverse Ss0 cn = false by rw [heq]; simp [hcon])
            clear F hT heq hAl hTl hWh hWb hbw TW HAR hH psub hcon GR TR hse hse2 hGl hKlen hbz hZn
            go_wp2_with fail
            go_ret
            exact ⟨by rw [HEQ.out]; rfl, HBW.out⟩
        · have HEQ := Lib.hid (show fitb K (.mk o0 h0 n0 l0) G0.reverse Ss0 cn = false by
            rw [heq, fitb_none]
            rcases way with ⟨rfl, h8⟩ | ⟨rfl, h8⟩ | rfl
            · exact hdT_novar (by simp; omega)
            · exact hdT_nocon (by omega)
            · exact hdT_meta (by omega) (by omega))
          have HB := Lib.hid (below_next F.below hbz)
          clear F hT heq hhead TR GR hGl hKlen hbz hZn
          rcases way with ⟨rfl, h8⟩ | ⟨rfl, h8⟩ | rfl
          · have h9 : ¬ (N : Int) < (lG : Int) := by omega
            go_wp2_with fail
            go_ret
            exact ⟨by rw [HEQ.out]; rfl, HB.out⟩
          · have h9 : ¬ (N : Int) < (lK : Int) := by omega
            go_wp2_with fail
            go_ret
            exact ⟨by rw [HEQ.out]; rfl, HB.out⟩
          · go_wp2_with fail
            go_ret
            exact ⟨by rw [HEQ.out]; rfl, HB.out⟩
      · have hop : (o != 4) = true := by simp [ho]
        have HEQ := Lib.hid (show fitb K (.mk o0 h0 n0 l0) G0.reverse Ss0 cn = false by rw [heq, fitb_op ho])
        have HB := Lib.hid F.below
        clear F hT heq ho hhead TR
        go_wp2_with fail
        go_ret
        exact ⟨by rw [HEQ.out]; rfl, HB.out⟩

theorem fits_ok (K : List Sp.Tm) (Kv : Value) : ∀ m : Nat, FtOk K Kv m
  | 0 => fun o h n cn l Ss G tv Sv Gv w hsz => by have := Tm.sz_pos (.mk o h n l); omega
  | m + 1 => fits_walk K Kv m (fits_ok K Kv m)
/-- the contract of fits -/
theorem fits_any (K G Ss : List Sp.Tm) (t : Tm) (cn : Int) (Kv Gv tv Sv : Value) (w : World) (hp : Tm.proper t = true) (hG : G.length ≤ 400) (lK : Sp.Lies w (fun _ => True) Kv K) (lG : Sp.Lies w (fun _ => True) Gv G) (lt : Lies w (fun _ => True) tv t.args) (lS : Sp.Lies w (fun _ => True) Sv Ss) :
    Calls Try.prog 33 #[Kv, Gv, .agg #[.int .i64 t.op, .int .i64 t.hd, .int .i64 t.n, tv], .agg #[Sv, .int .i64 cn]] w fun e w' => e = .returned (.bool (fitb K t G.reverse Ss cn)) ∧ Below w.heap.size w w' := by
  obtain ⟨o, h, n, l⟩ := t
  exact fits_ok K Kv _ o h n cn l Ss G tv Sv Gv w (Nat.le_refl _) hp (by have := (Tm.proper_two hp).1; omega) lK lG lt lS
end Go.Proofs.Ytieakippgeehgaa.Sb
