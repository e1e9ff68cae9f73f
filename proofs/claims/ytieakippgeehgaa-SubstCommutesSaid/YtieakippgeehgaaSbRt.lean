/- The contracts of the laws' right, before and without. -/
import Derived.Test.YtieakippgeehgaaSbFt
import Derived.Test.YtieakippgeehgaaSbMnA
import Derived.Test.YtieakippgeehgaaSbSmR
namespace Go.Proofs.Ytieakippgeehgaa.Sb
open Go.RowKit
set_option linter.unusedSimpArgs false
set_option linter.unusedVariables false

/-- is a typed term one, and proper and small? -/
def rightB (K G : List Sp.Tm) (t : Tm) (S : Sp.Tm) : Bool :=
  decide (K.length ≤ 20) && decide (G.length ≤ 20) && Tm.proper t && Sp.Tm.small S && K.all Sp.Tm.small && G.all Sp.Tm.small && fitb K t G.reverse S.args S.n

theorem cells8v {w : World} {B : Nat} {a b c d e f g h : Value} {t : TypeId} (x : w.heap[B]? = some (.cells #[a, b, c, d, e, f, g, h] t (0, 0))) :
    w.cell? ⟨B, 0, none⟩ = some a ∧ w.cell? ⟨B, 1, none⟩ = some b ∧ w.cell? ⟨B, 2, none⟩ = some c ∧ w.cell? ⟨B, 3, none⟩ = some d ∧ w.cell? ⟨B, 4, none⟩ = some e ∧ w.cell? ⟨B, 5, none⟩ = some f ∧ w.cell? ⟨B, 6, none⟩ = some g ∧ w.cell? ⟨B, 7, none⟩ = some h :=
  ⟨cell_in x 0 _ rfl, cell_in x 1 _ rfl, cell_in x 2 _ rfl, cell_in x 3 _ rfl, cell_in x 4 _ rfl, cell_in x 5 _ rfl, cell_in x 6 _ rfl, cell_in x 7 _ rfl⟩

set_option maxHeartbeats 8000000 in
set_option maxRecDepth 100000 in
theorem right_any (K G Ss : List Sp.Tm) (t : Tm) (cn : Int) (Kv Gv tv Sv : Value) (w : World) (lKv : Sp.Lies w (fun _ => True) Kv K) (lGv : Sp.Lies w (fun _ => True) Gv G) (lt : Lies w (fun _ => True) tv t.args) (lS : Sp.Lies w (fun _ => True) Sv Ss) :
    Calls Try.prog 32 #[.agg #[Kv, Gv, .int .i64 t.op, .int .i64 t.hd, .int .i64 t.n, tv, Sv, .int .i64 cn]] w fun e w' => e = .returned (.bool (rightB K G t (.mk cn Ss))) ∧ Below w.heap.size w w' := by
  obtain ⟨a1, n1, m1, rfl⟩ := lt.isSlice
  obtain ⟨a2, n2, m2, rfl⟩ := lS.isSlice
  obtain ⟨aK, bK, oK, lK, cK, kK, sK, tK, rfl, KR⟩ := lKv.open
  obtain ⟨aG, bG, oG, lG, cG, kG, sG, tG, rfl, GR⟩ := lGv.open
  have hba := one_below w (.cells #[.slice aK lK cK, .slice aG lG cG, .int .i64 t.op, .int .i64 t.hd, .int .i64 t.n, .slice a1 n1 m1, .slice a2 n2 m2, .int .i64 cn] 59)
  have hbx := heap_alloc_new w (.cells #[.slice aK lK cK, .slice aG lG cG, .int .i64 t.op, .int .i64 t.hd, .int .i64 t.n, .slice a1 n1 m1, .slice a2 n2 m2, .int .i64 cn] 59)
  obtain ⟨x0, x1, x2, x3, x4, x5, x6, x7⟩ := cells8v hbx
  have c1 := proper_t t (fun _ => True) (.slice a1 n1 m1) _ (lt.keep hba)
  have c2 : ∀ w1, Below w.heap.size w w1 → _ := fun w1 hb => smallR_any cn (.slice a2 n2 m2) Ss w1 (lS.keep hb)
  have hKl := KR.length
  have hGl := GR.length
  have hKc := KR.hl
  have hKr := KR.hr
  have hGc := GR.hl
  have hGr := GR.hr
  have HB := Lib.hid (And.intro hba hbx)
  have HKR := Lib.hid (And.intro KR hKl)
  have HGR := Lib.hid (And.intro GR hGl)
  have HL := Lib.hid (And.intro lKv (And.intro lGv (And.intro lt lS)))
  clear hba hbx KR GR lKv lGv lt lS
  by_cases hk : lK ≤ 20
  · have hk1 : ¬ (20 : Int) < (lK : Int) := by omega
    by_cases hg : lG ≤ 20
    · have hg1 : ¬ (20 : Int) < (lG : Int) := by omega
      rcases hp : Tm.proper t with _ | _
      · have HR := Lib.hid (show rightB K G t (.mk cn Ss) = false by simp [rightB, hp])
        rw [hp] at c1
        clear hKl hGl hp c2
        go_enter Try.func32, Try.ntmps32
        go_wp2_with fail
        refine c1.mono ?_
        rintro e w1 ⟨rfl, hb1⟩
        go_wp2_with fail
        go_ret
        exact ⟨by rw [HR.out]; rfl, below_next HB.out.1 hb1⟩
      · rcases hsm : Sp.Tm.small (.mk cn Ss) with _ | _
        · have HR := Lib.hid (show rightB K G t (.mk cn Ss) = false by simp [rightB, hsm])
          rw [hp] at c1
          simp only [hsm] at c2
          clear hKl hGl hp hsm
          go_enter Try.func32, Try.ntmps32
          go_wp2_with fail
          refine c1.mono ?_
          rintro e w1 ⟨rfl, hb1⟩
          have HB1 := Lib.hid (And.intro (below_next HB.out.1 hb1) (heap_kept hb1 HB.out.2))
          clear x0 x1 x2 x3 x4 x5 x6 x7 hb1 c1
          obtain ⟨x0, x1, x2, x3, x4, x5, x6, x7⟩ := cells8v HB1.out.2
          go_wp2_with fail
          refine (c2 _ HB1.out.1).mono ?_
          rintro e w2 ⟨rfl, hb2⟩
          go_wp2_with fail
          go_ret
          exact ⟨by rw [HR.out]; rfl, below_next HB1.out.1 hb2⟩
        · have HR := Lib.hid (show rightB K G t (.mk cn Ss) = (K.all Sp.Tm.small && G.all Sp.Tm.small && fitb K t G.reverse Ss cn) by
            simp [rightB, hp, hsm, hKl, hGl, hk, hg, Sp.Tm.args, Sp.Tm.n])
          have HP := Lib.hid hp
          have hG20 : G.length ≤ 400 := by omega
          have HG20 := Lib.hid hG20
          rw [hp] at c1
          simp only [hsm] at c2
          clear hKl hGl hp hsm hG20
          go_enter Try.func32, Try.ntmps32
          go_wp2_with fail
          refine c1.mono ?_
          rintro e w1 ⟨rfl, hb1⟩
          have HB1 := Lib.hid (And.intro (below_next HB.out.1 hb1) (heap_kept hb1 HB.out.2))
          clear x0 x1 x2 x3 x4 x5 x6 x7 hb1 c1
          obtain ⟨x0, x1, x2, x3, x4, x5, x6, x7⟩ := cells8v HB1.out.2
          go_wp2_with fail
          refine (c2 _ HB1.out.1).mono ?_
          rintro e w2 ⟨rfl, hb2⟩
          have HB2 := Lib.hid (And.intro (below_next HB1.out.1 hb2) (heap_kept hb2 HB1.out.2))
          clear x0 x1 x2 x3 x4 x5 x6 x7 hb2 c2
          obtain ⟨x0, x1, x2, x3, x4, x5, x6, x7⟩ := cells8v HB2.out.2
          go_wp2_with fail
          go_loopw [32] (fun i wr => ∃ k : Nat, k ≤ lK ∧ i = .int .i64 k ∧ SmTo K k ∧ Below w2.heap.size w2 wr) (fun i _ => lK - (intOf i).toNat)
          case atStart => exact ⟨0, Nat.zero_le _, rfl, SmTo.zero _, Below.refl _ _⟩
          case round =>
            obtain ⟨k, hkl, rfl, hno, hbr⟩ := hrel
            have HNO := Lib.hid (And.intro hno hbr)
            clear hno
            by_cases hlt : k < lK
            · obtain rfl := HKR.out.1.hao (by omega)
              have hbw := below_next HB2.out.1 hbr
              obtain ⟨d0, d1, hsub⟩ := HKR.out.1.at hbw k hlt
              obtain ⟨a5, n5, m5, hs5⟩ := hsub.isSlice
              rw [hs5] at d0 hsub
              have hkk : k < K.length := by rw [HKR.out.2]; exact hlt
              have hba := one_below wr (.cells #[.slice a5 n5 m5, .int .i64 (kK k)] 27)
              have call := smallR_any (kK k) (.slice a5 n5 m5) (tK k) _ (hsub.keep hba)
              obtain ⟨⟨q0, q1⟩, _⟩ := cells2_of (heap_alloc_new wr (.cells #[.slice a5 n5 m5, .int .i64 (kK k)] 27))
              have hk0 : (0 : Int) ≤ (k : Int) := by omega
              have hk2 : (k : Int) < (lK : Int) := by omega
              have hget := HKR.out.1.get k hlt
              have HBA := Lib.hid (And.intro hba hbw)
              rcases hs : Sp.Tm.small (.mk (kK k) (tK k)) with _ | _
              · have HN := Lib.hid (SmTo.not hkk (by rw [hget]; exact hs))
                rw [hs] at call
                clear hs hget hsub hs5 hba hbw hbr
                go_wp2_with fail
                refine call.mono ?_
                rintro e w3 ⟨rfl, hb3⟩
                go_wp2_with fail
                go_ret
                exact ⟨by rw [HR.out, HN.out]; rfl, below_next (below_next HBA.out.2 HBA.out.1) hb3⟩
              · have HN := Lib.hid (HNO.out.1.step hkk (by rw [hget]; exact hs))
                rw [hs] at call
                clear hs hget hsub hs5 hba hbw hbr
                go_wp2_with fail
                refine call.mono ?_
                rintro e w3 ⟨rfl, hb3⟩
                go_wp2_with fail
                go_roundw
                case rel => exact ⟨k + 1, by omega, by go_num, HN.out, below_next (below_next HNO.out.2 HBA.out.1) hb3⟩
                case measure => simp [intOf]; omega
            · obtain rfl : k = lK := by omega
              have HA := Lib.hid (HNO.out.1.all (by rw [HKR.out.2]; exact Nat.le_refl _))
              have hk2 : ¬ (k : Int) < (k : Int) := by omega
              have HB3 := Lib.hid (And.intro (below_next HB2.out.1 hbr) (heap_kept hbr HB2.out.2))
              clear x0 x1 x2 x3 x4 x5 x6 x7 hbr
              obtain ⟨x0, x1, x2, x3, x4, x5, x6, x7⟩ := cells8v HB3.out.2
              go_wp2_with fail
              obtain ⟨wo, rfl⟩ : ∃ wo : World, wo = wr := ⟨_, rfl⟩
              go_loopw [43] (fun i wx => ∃ g : Nat, g ≤ lG ∧ i = .int .i64 g ∧ SmTo G g ∧ Below wo.heap.size wo wx) (fun i _ => lG - (intOf i).toNat)
              case atStart => exact ⟨0, Nat.zero_le _, rfl, SmTo.zero _, Below.refl _ _⟩
              case round =>
                obtain ⟨g, hgl, rfl, hno, hbr⟩ := hrel
                have HNO2 := Lib.hid (And.intro hno hbr)
                clear hno
                by_cases hlt : g < lG
                · obtain rfl := HGR.out.1.hao (by omega)
                  have hbw := below_next HB3.out.1 hbr
                  obtain ⟨d0, d1, hsub⟩ := HGR.out.1.at hbw g hlt
                  obtain ⟨a5, n5, m5, hs5⟩ := hsub.isSlice
                  rw [hs5] at d0 hsub
                  have hkk : g < G.length := by rw [HGR.out.2]; exact hlt
                  have hba := one_below wr (.cells #[.slice a5 n5 m5, .int .i64 (kG g)] 27)
                  have call := smallR_any (kG g) (.slice a5 n5 m5) (tG g) _ (hsub.keep hba)
                  obtain ⟨⟨q0, q1⟩, _⟩ := cells2_of (heap_alloc_new wr (.cells #[.slice a5 n5 m5, .int .i64 (kG g)] 27))
                  have hg0 : (0 : Int) ≤ (g : Int) := by omega
                  have hg2 : (g : Int) < (lG : Int) := by omega
                  have hget := HGR.out.1.get g hlt
                  have HBA := Lib.hid (And.intro hba hbw)
                  rcases hs : Sp.Tm.small (.mk (kG g) (tG g)) with _ | _
                  · have HN := Lib.hid (SmTo.not hkk (by rw [hget]; exact hs))
                    rw [hs] at call
                    clear hs hget hsub hs5 hba hbw hbr
                    go_wp2_with fail
                    refine call.mono ?_
                    rintro e w3 ⟨rfl, hb3⟩
                    go_wp2_with fail
                    go_ret
                    exact ⟨by rw [HR.out, HN.out, HA.out]; rfl, below_next (below_next HBA.out.2 HBA.out.1) hb3⟩
                  · have HN := Lib.hid (HNO2.out.1.step hkk (by rw [hget]; exact hs))
                    rw [hs] at call
                    clear hs hget hsub hs5 hba hbw hbr
                    go_wp2_with fail
                    refine call.mono ?_
                    rintro e w3 ⟨rfl, hb3⟩
                    go_wp2_with fail
                    go_roundw
                    case rel => exact ⟨g + 1, by omega, by go_num, HN.out, below_next (below_next HNO2.out.2 HBA.out.1) hb3⟩
                    case measure => simp [intOf]; omega
                · obtain rfl : g = lG := by omega
                  have HA2 := Lib.hid (HNO2.out.1.all (by rw [HGR.out.2]; exact Nat.le_refl _))
                  have hg2 : ¬ (g : Int) < (g : Int) := by omega
                  have hbw := below_next HB3.out.1 hbr
                  have call := fits_any K G Ss t cn (.slice aK k cK) (.slice aG g cG) (.slice a1 n1 m1) (.slice a2 n2 m2) wr HP.out HG20.out (HL.out.1.keep hbw) (HL.out.2.1.keep hbw) (HL.out.2.2.1.keep hbw) (HL.out.2.2.2.keep hbw)
                  have HB4 := Lib.hid (And.intro hbw (heap_kept hbr HB3.out.2))
                  clear x0 x1 x2 x3 x4 x5 x6 x7 hbr hbw
                  obtain ⟨x0, x1, x2, x3, x4, x5, x6, x7⟩ := cells8v HB4.out.2
                  go_wp2_with fail
                  refine call.mono ?_
                  rintro e w3 ⟨rfl, hb3⟩
                  go_wp2_with fail
                  go_ret
                  exact ⟨by rw [HR.out, HA.out, HA2.out]; rfl, below_next HB4.out.1 hb3⟩
    · have hg1 : (20 : Int) < (lG : Int) := by omega
      have HR := Lib.hid (show rightB K G t (.mk cn Ss) = false by simp [rightB, hGl, hg])
      clear hKl hGl c1 c2
      go_enter Try.func32, Try.ntmps32
      go_wp2_with fail
      go_ret
      exact ⟨by rw [HR.out]; rfl, HB.out.1⟩
  · have hk1 : (20 : Int) < (lK : Int) := by omega
    have HR := Lib.hid (show rightB K G t (.mk cn Ss) = false by simp [rightB, hKl, hk])
    clear hKl hGl c1 c2
    go_enter Try.func32, Try.ntmps32
    go_wp2_with fail
    go_ret
    exact ⟨by rw [HR.out]; rfl, HB.out.1⟩
end Go.Proofs.Ytieakippgeehgaa.Sb
