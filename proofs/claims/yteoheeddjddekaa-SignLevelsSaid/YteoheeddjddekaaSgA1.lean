/- sign.objects: the contract of its iterator: the object constants of a formed signature, each with its target, in their order. -/
import Derived.Test.YteoheeddjddekaaSgK
import Derived.RangeFuncNested
import Derived.RangeFuncBox
import Derived.RangeFuncLeaves
import Derived.Shelf.Abstract
import Derived.Outline
import Derived.OwnWalkIn
import Derived.TacticsInMore
import Derived.LoopNIn
import Derived.LoopIn
namespace Go.Proofs.Yteoheeddjddekaa
open Go.RowKit Go.Shelf
set_option linter.unusedSimpArgs false
set_option linter.unusedVariables false
attribute [local go_sem] Oper.semAt_some

/-- the indices of a slice -/
abbrev Idx (len : Nat) := { i : Nat // i < len }
/-- the object constants among the first k -/
def objUp (len : Nat) (p : Nat → Bool) : Nat → List (Idx len)
  | 0 => []
  | k + 1 => objUp len p k ++ (if h : k < len ∧ p k = true then [⟨k, h.1⟩] else [])
theorem objUp_yes {len : Nat} {p : Nat → Bool} {k : Nat} (h : k < len) (e : p k = true) : objUp len p (k + 1) = objUp len p k ++ [⟨k, h⟩] := by
  simp only [objUp]; rw [dif_pos ⟨h, e⟩]
theorem objUp_no {len : Nat} {p : Nat → Bool} {k : Nat} (e : p k = false) : objUp len p (k + 1) = objUp len p k := by
  simp only [objUp]; rw [dif_neg (by rw [e]; simp), List.append_nil]
theorem objUp_length (len : Nat) (p : Nat → Bool) : ∀ k, (objUp len p k).length ≤ k
  | 0 => by simp [objUp]
  | k + 1 => by
    have := objUp_length len p k
    rcases e : p k with _ | _
    · rw [objUp_no e]; omega
    · by_cases h : k < len
      · rw [objUp_yes h e]; simp; omega
      · simp only [objUp]; rw [dif_neg (by omega)]; simp; omega
/-- what a round is handed -/
def encO (T : Nat → Int) {len : Nat} (x : Idx len) : Array Value := #[.int .i64 (x.1 : Int), .int .i64 (T x.1)]
theorem below_grows {w w' : World} (h : Below w.heap.size w w') : w.grownBy w' none := ⟨h.os, h.tape, h.output, h.size, fun k hk _ => h.block k hk⟩

set_option maxRecDepth 100000 in
set_option maxHeartbeats 4000000 in
theorem obj1_in (n : Nat) (hn : 1 ≤ n) (l Bs : Nat) (S : Nat → Prop) (ls : List Dc) (ao : Option Addr) (b off len cap : Nat) (nm : Nat → ByteArray) (oo hh kk : Nat → Int) (sc : Nat → Value) (tt : Nat → List Tm) (im : Nat → Int) (w0 : World)
    (R : DRow w0 S ao b off len cap nm oo hh kk sc tt im ls) (hp : ∀ x ∈ ls, Tm.proper x.cl = true) (p : Nat → Bool) (T : Nat → Int)
    (hpT : ∀ i, i < len → p i = ((Tm.res (.mk (oo i) (hh i) (kk i) (tt i))).1.hd == 2) ∧ T i = (Tm.res (.mk (oo i) (hh i) (kk i) (tt i))).1.n)
    (J Jx : List (Idx len) → World → Prop) (W : World) (hW : Below w0.heap.size w0 W) (hJ : AbidesFrom W.heap.size J)
    (hY : ∀ pre x W1, J pre W1 → pre.length < len → YieldAt Fence.wide (n - 1) Try.prog l (encO T x) W1 fun e W' =>
      (e = .returned (.bool true) ∧ J (pre ++ [x]) W' ∧ Below w0.heap.size W1 W') ∨ (e = .returned (.bool false) ∧ Jx (pre ++ [x]) W'))
    (hBs : W.cell? ⟨Bs, 0, none⟩ = some (.slice ao len cap)) (hJ0 : J [] W) :
    CallsIn Fence.wide n Try.prog 64 #[.func (.yield l) #[] #[], .pointer (some ⟨Bs, 0, none⟩)] W fun e W' => (∃ v, e = .returned v) ∧
      ((∃ ys, ys = objUp len p len ∧ J ys W') ∨ (∃ pre, True ∧ Jx pre W')) := by
  have hF : Fence.wide.fn 64 := trivial
  have f2 : Fence.wide.fn 42 := trivial
  refine callsIn_of_wp Try.func64 rfl hF ?_ rfl
  simp only [Try.ntmps64, List.size_toArray, List.length_cons, List.length_nil, Nat.reduceAdd, Nat.reduceSub, Array.replicate_succ, Array.replicate_zero, List.push_toArray, List.append_toArray, List.nil_append, List.cons_append]
  have hl := R.hl
  have hr := R.hr
  have HR := Lib.hid R
  have HP := Lib.hid hp
  have HPT := Lib.hid hpT
  have HY := Lib.hid hY
  have HJ := Lib.hid hJ
  have HW := Lib.hid hW
  clear R hp hpT hY hJ hW
  gi_wp2
  gi_loopw [9] (fun i wr => ∃ j : Nat, j ≤ len ∧ i = .int .i64 j ∧ Below w0.heap.size w0 wr ∧ W.heap.size ≤ wr.heap.size ∧ J (objUp len p j) wr) (fun i _ => len - (RowKit.intOf i).toNat)
  case atStart => exact ⟨0, Nat.zero_le _, rfl, HW.out, Nat.le_refl _, hJ0⟩
  case round =>
    obtain ⟨j, hj, rfl, hbw, hsz, hJs⟩ := hrel
    clear hJ0 hBs
    by_cases hlt : j < len
    · obtain rfl := HR.out.hao (by omega)
      obtain ⟨d0, d1, d2, d3, d4, d5, hsub⟩ := HR.out.at hbw j hlt
      have hg := HR.out.get j hlt
      have hjl : j < ls.length := by rw [HR.out.length]; exact hlt
      have hpj := HP.out ls[j] (List.getElem_mem hjl)
      rw [hg] at hpj
      obtain ⟨hpe, hTe⟩ := HPT.out j hlt
      have cR := fun w1 (hb : Below wr.heap.size wr w1) => result_any S (.mk (oo j) (hh j) (kk j) (tt j)) (sc j) w1 (hsub.keep hb) hpj
      obtain ⟨a5, n5, m5, hs5⟩ := hsub.isSlice
      rw [hs5] at d4 cR
      simp only [Tm.op, Tm.hd, Tm.n] at cR
      generalize Tm.res (.mk (oo j) (hh j) (kk j) (tt j)) = rr at *
      obtain ⟨⟨uo, uh, un, ul⟩, cnt⟩ := rr
      simp only [Tm.op, Tm.hd, Tm.n, Tm.args] at cR hpe hTe
      have hba := one_below wr (.cells #[.string (nm j), .int .i64 (oo j), .int .i64 (hh j), .int .i64 (kk j), .slice a5 n5 m5, .int .i64 (im j)] 40)
      have c1 := cR _ hba
      have hyy := fun W1 (hb1 : Below wr.heap.size wr W1) => HY.out (objUp len p j) ⟨j, hlt⟩ W1 (HJ.out _ wr W1 none hJs (below_grows hb1) (by simp)) (by have := objUp_length len p j; omega)
      unfold encO at hyy
      dsimp only at hyy
      rw [hTe] at hyy
      have HYY := Lib.hid hyy
      have HBW := Lib.hid hbw
      have HBA := Lib.hid hba
      have HJS := Lib.hid hJs
      have hwz := hbw.size
      have hj0 : (0 : Int) ≤ (j : Int) := by omega
      have hj1 : (j : Int) < (len : Int) := by omega
      clear hyy hbw hba hJs cR hsub hg hpj hs5 hTe
      rcases hu : (uh == 2) with _ | _
      · rw [hu] at hpe
        have HOU := Lib.hid (objUp_no (len := len) hpe)
        clear hpe HYY
        gi_wp2_with (gi_at_call 42; refine (callsIn_wide.2 c1).mono ?_; rintro e w2 ⟨b2, rfl, hb2, hl2⟩; obtain ⟨a6, n6, m6, rfl⟩ := hl2.isSlice; have HB2 := Lib.hid (below_next HBA.out hb2); clear c1 hb2 hl2)
        refine ⟨fun _ h => (by cases h), ?_⟩
        gi_wp2
        go_roundw
        case rel =>
          have HB3 := below_next HB2.out (one_below w2 (.cells #[.int .i64 uo, .int .i64 uh, .int .i64 un, .slice a6 n6 m6] 25))
          refine ⟨j + 1, by omega, by go_num, below_next HBW.out HB3, Nat.le_trans hsz HB3.size, ?_⟩
          rw [HOU.out]
          exact HJ.out _ wr _ none HJS.out (below_grows HB3) (by simp)
        case measure => simp [RowKit.intOf]; omega
      · rw [hu] at hpe
        have HOU := Lib.hid (objUp_yes hlt hpe)
        clear hpe
        gi_wp2_with (gi_at_call 42; refine (callsIn_wide.2 c1).mono ?_; rintro e w2 ⟨b2, rfl, hb2, hl2⟩; obtain ⟨a6, n6, m6, rfl⟩ := hl2.isSlice; have HB2 := Lib.hid (below_next HBA.out hb2); have HB3 := Lib.hid (below_next HB2.out (one_below w2 (.cells #[.int .i64 uo, .int .i64 uh, .int .i64 un, .slice a6 n6 m6] 25))); obtain ⟨fn, tmps, assign, body, hy, hR⟩ := HYY.out _ HB3.out; clear c1 hb2 hl2)
        refine hR.mono ?_
        rintro e W3 (⟨rfl, hJ3, hk3⟩ | ⟨rfl, hJx3⟩)
        · have HX := Lib.hid (And.intro hJ3 hk3)
          clear hJ3 hk3 hR hy HYY
          gi_wp2
          go_roundw
          case rel =>
            have hs3 := HX.out.2.size
            have hb3 := HB3.out.size
            refine ⟨j + 1, by omega, by go_num, (below_next HBW.out HB3.out).trans HX.out.2, by omega, ?_⟩
            rw [HOU.out]
            exact HX.out.1
          case measure => simp [RowKit.intOf]; omega
        · clear hR hy HYY
          gi_wp2
          refine bodyPost_ret (results_none rfl _ _ _) rfl ?_
          exact ⟨⟨_, rfl⟩, .inr ⟨_, trivial, hJx3⟩⟩
    · obtain rfl : j = len := by omega
      gi_wp2
      go_end0
      exact ⟨⟨_, rfl⟩, .inl ⟨_, rfl, hJs⟩⟩

set_option maxHeartbeats 1000000 in
theorem objects_in (n : Nat) (a : Option Addr) (len cap : Nat) (w : World) :
    CallsIn Fence.wide n Try.prog 43 #[.slice a len cap] w fun e w' => e = .returned (.func (.func 64) #[] #[.pointer (some ⟨w.heap.size, 0, none⟩)]) ∧ w' = w.alloc (.cells #[.slice a len cap] 22) := by
  have hF : Fence.wide.fn 43 := trivial
  refine callsIn_of_wp Try.func43 rfl hF ?_ rfl
  simp only [Try.ntmps43, List.size_toArray, List.length_cons, List.length_nil, Nat.reduceAdd, Nat.reduceSub, Array.replicate_succ, Array.replicate_zero, List.push_toArray, List.append_toArray, List.nil_append, List.cons_append]
  gi_wp2
  go_ret
  exact ⟨rfl, rfl⟩

/-- objects hands back a function value that visits the object constants -/
theorem obj_stops (n : Nat) (hn : 1 ≤ n) (Bs : Nat) (S : Nat → Prop) (ls : List Dc) (ao : Option Addr) (b off len cap : Nat) (nm : Nat → ByteArray) (oo hh kk : Nat → Int) (sc : Nat → Value) (tt : Nat → List Tm) (im : Nat → Int) (w0 w : World)
    (R : DRow w0 S ao b off len cap nm oo hh kk sc tt im ls) (hp : ∀ x ∈ ls, Tm.proper x.cl = true) (p : Nat → Bool) (T : Nat → Int)
    (hpT : ∀ i, i < len → p i = ((Tm.res (.mk (oo i) (hh i) (kk i) (tt i))).1.hd == 2) ∧ T i = (Tm.res (.mk (oo i) (hh i) (kk i) (tt i))).1.n) (hw : Below w0.heap.size w0 w) (hBs : w.cell? ⟨Bs, 0, none⟩ = some (.slice ao len cap)) :
    SeqStopsK Fence.wide n Try.prog 64 #[.pointer (some ⟨Bs, 0, none⟩)] (encO (len := len) T) (Below w0.heap.size) (fun ys => ys = objUp len p len) (fun _ => True) len w := fun l J Jx W hW hJ _ hY h0 =>
  obj1_in n hn l Bs S ls ao b off len cap nm oo hh kk sc tt im w0 R hp p T hpT J Jx W (hw.trans (hW.mono hw.size)) hJ hY (kept_cell hW hBs) h0
end Go.Proofs.Yteoheeddjddekaa
