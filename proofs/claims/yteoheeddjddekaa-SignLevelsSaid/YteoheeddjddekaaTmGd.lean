/- A region that draws its order, and whose last operation waits for all others: what is said of the world need hold before that operation alone. Nothing of the program is imported. * The contracts of trussref03.below and moved. * The contract of the reference's low. * Plain facts: Shift as the program does it is Shift as the reference does it. Nothing of the program is walked. * The contract of the reference's Shift. -/
import Derived.OrdersHeld
import Derived.StillTail
import Derived.Deep.RegionHeld
import Derived.Test.YteoheeddjddekaaProg
import Derived.Test.YteoheeddjddekaaTmGc
import Derived.Test.YteoheeddjddekaaTmGb
import Derived.Deep.RegionHeld3
import Derived.Deep.AppendLies
import Derived.OwnWalk
import Derived.Laws.Pointers
import Derived.IntWalk
namespace Go.Proofs.Yteoheeddjddekaa

section
variable {P : Program} {ops : Array Oper} {st : Oper} {Q : Exit → Act → World → Prop} {md : Region.Mode}

/-- Behind all other operations the last one is run. -/
def lastQ (P : Program) (ops : Array Oper) (Q : Exit → Act → World → Prop) (n : Nat) : Exit → Act → World → Prop
  | .normal, a, w => wpOp P ops Q n (Q .normal) a w
  | e, a, w => Q e a w

theorem lastQ_list {n : Nat} {o : Oper} {a : Act} {w : World} (ho : ops[n]? = some o) (h : wpList P ops Q [o] a w) : lastQ P ops Q n .normal a w := by
  show wpOp P ops Q n (Q .normal) a w
  unfold wpOp
  rw [ho]
  exact h

/-- every guard is one of these operations -/
def guardsB (ops : Array Oper) : Bool := ops.all fun o => match o.guard with | some (g, _) => decide (g < ops.size) | none => true
/-- every operation waits for earlier ones alone -/
def backB (ops : Array Oper) : Bool := (List.range ops.size).all fun j => match ops[j]? with | some o => o.after.all (fun e => decide (e.on < j)) | none => true

theorem backB_spec (h : backB ops = true) {j : Nat} {o : Oper} (ho : ops[j]? = some o) : ∀ e ∈ o.after, e.on < j := by
  intro e he
  have hj : j < ops.size := (Array.getElem?_eq_some_iff.1 ho).1
  have h1 := List.all_eq_true.1 h j (List.mem_range.2 hj)
  rw [ho] at h1
  simpa using (Array.all_eq_true'.1 h1) e he

theorem push_get (i : Nat) (hi : i < ops.size) : (ops.push st)[i]? = ops[i]? := by rw [Array.getElem?_push, if_neg (by omega)]

theorem wanted_push {o : Oper} {i : Nat} (hg : guardsB ops = true) (ho : ops[i]? = some o) (t : Array Value) : Region.wanted o (yielded (ops.push st) t) = Region.wanted o (yielded ops t) := by
  unfold Region.wanted
  cases hgd : o.guard with
  | none => rfl
  | some g =>
    obtain ⟨g, b⟩ := g
    have h1 := (Array.all_eq_true'.1 hg) o (Array.mem_of_getElem? ho)
    rw [hgd] at h1
    have h2 : g < ops.size := by simpa using h1
    simp only [yielded, push_get g h2]

theorem wpOp_push {i : Nat} {K K' : Act → World → Prop} {a : Act} {w : World} (hi : i < ops.size) (hg : guardsB ops = true) (hk : ∀ a w, K' a w → K a w)
    (h : wpOp P ops (lastQ P (ops.push st) Q ops.size) i K' a w) : wpOp P (ops.push st) Q i K a w := by
  unfold wpOp at *
  rw [push_get i hi]
  obtain ⟨o, ho⟩ : ∃ o, ops[i]? = some o := ⟨ops[i], Array.getElem?_eq_getElem hi⟩
  simp only [ho] at h ⊢
  rw [wanted_push hg ho]
  have out : LetsOut (lastQ P (ops.push st) Q ops.size) → LetsOut Q := fun ⟨a, w, h⟩ => ⟨a, w, h⟩
  split
  · rename_i hw
    simp only [hw, if_true] at h
    rcases h with h | ⟨h1, h2⟩
    · refine .inl ?_
      unfold Oper.wp at *
      generalize (execOp a.eval o).run P w = r at *
      cases r with
      | ok n w' =>
        cases n <;> simp only [Oper.upon] at h ⊢
        case value => exact hk _ _ h
        case skip => exact hk _ _ h
        case defer => exact hk _ _ h
        case enter f args =>
          refine Calls.mono h fun e w'' he => ?_
          cases e with
          | returned u => exact hk _ _ he
          | panicked c => exact he
          | outgrown => exact out he
        case row row args => exact Rows.mono h fun u w'' he => hk _ _ he
      | halt x w' => cases x <;> simp only [Oper.upon] at h ⊢ <;> exact h
    · exact .inr ⟨h1, out h2⟩
  · rename_i hw
    simp only [hw] at h
    exact hk _ _ h

theorem getD_push_lt {listed : Array Bool} {i : Nat} (d b : Bool) (hi : i < listed.size) : (listed.push b).getD i d = listed.getD i d := by
  simp [Array.getD, hi, show i < listed.size + 1 by omega, Array.getElem_push_lt hi]

theorem ready_push {listed : Array Bool} (hl : listed.size = ops.size) (hback : backB (ops.push st) = true) {i : Nat} (hi : i < ops.size) :
    i ∈ Region.ready md (ops.push st) (listed.push false) ↔ i ∈ Region.ready md ops listed := by
  rw [mem_ready, mem_ready, push_get i hi, getD_push_lt _ _ (by omega)]
  refine and_congr_right fun _ => exists_congr fun o => and_congr_right fun ho => ?_
  refine forall_congr' fun e => forall_congr' fun he => forall_congr' fun _ => ?_
  have := backB_spec hback (j := i) (o := o) (by rw [push_get i hi]; exact ho) e he
  rw [getD_push_lt _ _ (by omega)]

theorem set_push_lt {listed : Array Bool} {i : Nat} (hi : i < listed.size) : (listed.push false).setIfInBounds i true = (listed.setIfInBounds i true).push false := by
  obtain ⟨l⟩ := listed
  simp only [List.push_toArray, List.setIfInBounds_toArray, List.size_toArray] at hi ⊢
  rw [List.set_append, if_pos hi]

theorem all_listed {listed : Array Bool} (hl : listed.size = ops.size) (hback : backB (ops.push st) = true) (hr : Region.ready md ops listed = []) : ∀ i, i < ops.size → listed.getD i true = true := by
  intro i
  induction i using Nat.strongRecOn with
  | _ i ih =>
    intro hi
    cases hc : listed.getD i true with
    | true => rfl
    | false =>
      exfalso
      have : i ∈ Region.ready md ops listed := by
        rw [mem_ready]
        refine ⟨hc, ops[i], Array.getElem?_eq_getElem hi, fun e he _ => ?_⟩
        have h1 := backB_spec hback (j := i) (o := ops[i]) (by rw [push_get i hi]; exact Array.getElem?_eq_getElem hi) e he
        have h2 := ih e.on h1 (by omega)
        simp [Array.getD, show e.on < listed.size by omega] at h2 ⊢
        exact h2
      rw [hr] at this
      cases this

theorem wpAny_last (hg : guardsB ops = true) (hback : backB (ops.push st) = true) (hs : Region.sinkB md (ops.push st) ops.size = true) (hc : Region.chainB md (ops.push st) ops.size = true) :
    ∀ (f : Nat) (listed : Array Bool) (a : Act) (w : World), listed.size = ops.size → HeadInv md (ops.push st) ops.size (listed.push false) →
      wpAny P md ops (lastQ P (ops.push st) Q ops.size) f listed a w → wpAny P md (ops.push st) Q (f + 1) (listed.push false) a w := by
  have final : ∀ (f : Nat) (listed : Array Bool) (a : Act) (w : World), listed.size = ops.size → Region.ready md ops listed = [] → lastQ P (ops.push st) Q ops.size .normal a w → wpAny P md (ops.push st) Q (f + 1) (listed.push false) a w := by
    intro f listed a w hl hr h
    have hall := all_listed hl hback hr
    have hn : ops.size ∈ Region.ready md (ops.push st) (listed.push false) := by
      rw [mem_ready]
      refine ⟨by rw [← hl]; simp [Array.getD], st, by simp, fun e he _ => ?_⟩
      have h1 := backB_spec hback (j := ops.size) (o := st) (by simp) e he
      have h2 := hall e.on h1
      rw [getD_push_lt _ _ (by omega)]
      simp [Array.getD, show e.on < listed.size by omega] at h2 ⊢
      exact h2
    refine ⟨(fun h0 => by rw [h0] at hn; cases hn), fun i hi => ?_⟩
    by_cases hin : i < ops.size
    · rw [ready_push hl hback hin, hr] at hi; cases hi
    · have hin' : i = ops.size := by
        obtain ⟨_, o, ho, _⟩ := mem_ready.1 hi
        have := (Array.getElem?_eq_some_iff.1 ho).1
        simp at this; omega
      subst hin'
      have done : Region.ready md (ops.push st) ((listed.push false).setIfInBounds ops.size true) = [] := by
        apply List.eq_nil_iff_forall_not_mem.2
        intro j hj
        obtain ⟨h1, o, ho, _⟩ := mem_ready.1 hj
        have hj2 := (Array.getElem?_eq_some_iff.1 ho).1
        simp only [Array.size_push] at hj2
        by_cases hjn : j = ops.size
        · subst hjn
          simp [Array.getD, hl] at h1
        · have h3 := hall j (by omega)
          rw [getD_set_ne true (by omega), getD_push_lt _ _ (by omega), h3] at h1
          cases h1
      refine wpOp_mono (fun a' w' hq => ?_) h
      cases f with
      | zero => exact ⟨done, hq⟩
      | succ f => exact ⟨fun _ => hq, by rw [done]; simp⟩
  intro f
  induction f with
  | zero => intro listed a w hl _ h; exact final 0 listed a w hl h.1 h.2
  | succ f ih =>
    intro listed a w hl inv h
    by_cases hr : Region.ready md ops listed = []
    · exact final _ listed a w hl hr (h.1 hr)
    · have hx : ∃ i0, i0 < ops.size ∧ i0 ∈ Region.ready md ops listed := by
        obtain ⟨i0, hi0⟩ := List.exists_mem_of_ne_nil _ hr
        obtain ⟨_, o, ho, _⟩ := mem_ready.1 hi0
        exact ⟨i0, (Array.getElem?_eq_some_iff.1 ho).1, hi0⟩
      obtain ⟨i0, hi0, hm0⟩ := hx
      refine ⟨(fun h0 => by rw [← ready_push hl hback hi0, h0] at hm0; cases hm0), fun i hi => ?_⟩
      by_cases hin : i < ops.size
      · refine wpOp_push hin hg (fun a' w' hk => ?_) (h.2 i ((ready_push hl hback hin).1 hi))
        have e := set_push_lt (listed := listed) (i := i) (by omega)
        rw [e]
        exact ih _ _ _ (by simp [hl]) (by rw [← e]; exact inv.set hi hin) hk
      · exfalso
        have hu : (listed.push false).getD i0 true = false := (mem_ready.1 ((ready_push hl hback hi0).2 hm0)).1
        exact tail_waits hs hc (by simp) inv (ops.size - i0) i0 rfl hi0 hu i (by omega) hi

/-- THE BEGINNING: the region without its last operation, under S; behind it the last one. -/
theorem wp_region_last {S : World → Prop} {id : Nat} {all : Array Oper} {a : Act} {w : World} (hm : P.follows .mixedOrders = true) (he : all = ops.push st) (hg : guardsB ops = true) (hback : backB all = true)
    (hs : Region.sinkB .any all ops.size = true) (hc : Region.chainB .any all ops.size = true) (hS : S w.drew)
    (h : S w.drew → wpAnyH P .any ops (lastQ P all Q ops.size) S ops.size (Array.replicate ops.size false) a w.drew) : (Code.region id all true).wp P Q a w := by
  subst he
  refine wp_region_any hm ?_
  have e : Array.replicate (ops.push st).size false = (Array.replicate ops.size false).push false := by simp [Array.replicate_succ]
  rw [e, Array.size_push]
  refine wpAny_last hg hback hs hc ops.size _ a _ (by simp) ⟨by simp, fun j oj _ hl => ?_, fun t ht ht' => ?_⟩ (wpAny_of_held _ _ _ _ (h hS))
  · exfalso
    rw [← e, getD_replicate_false] at hl
    cases hl
  · simp only [Array.size_push] at ht'
    obtain rfl : t = ops.size := by omega
    simp [Array.getD, Array.getElem_push]

theorem wp_region_last_of {S : World → Prop} {id : Nat} {all : Array Oper} {a : Act} {w : World} (hm : P.follows .mixedOrders = true) (he : all.pop = ops) (hl : all.back? = some st) (hg : guardsB ops = true) (hback : backB all = true)
    (hs : Region.sinkB .any all ops.size = true) (hc : Region.chainB .any all ops.size = true) (hS : S w.drew)
    (h : S w.drew → wpAnyH P .any ops (lastQ P all Q ops.size) S ops.size (Array.replicate ops.size false) a w.drew) : (Code.region id all true).wp P Q a w := by
  have e : all = ops.push st := by
    subst he
    obtain ⟨l⟩ := all
    simp only [List.back?_toArray] at hl
    simp only [List.pop_toArray, List.push_toArray]
    congr 1
    rw [List.getLast?_eq_some_iff] at hl
    obtain ⟨ys, rfl⟩ := hl
    simp
  exact wp_region_last hm e hg hback hs hc hS h

end
end Go.Proofs.Yteoheeddjddekaa

namespace Go.Proofs.Yteoheeddjddekaa
open Go.RowKit
set_option linter.unusedSimpArgs false
set_option linter.unusedVariables false

set_option maxHeartbeats 400000 in
theorem below_any (o h n : Int) (v : Value) (i : Nat) (w : World) :
    Calls Try.prog 80 #[.agg #[.int .i64 o, .int .i64 h, .int .i64 n, v], .int .i64 i] w fun e w' => e = .returned (.int .i64 (Tm.belowN o i)) ∧ Below w.heap.size w w' := by
  by_cases h3 : o = 3
  · subst h3
    go_enter Try.func80, Try.ntmps80
    go_wp2
    go_ret
    exact ⟨rfl, one_below w _⟩
  · by_cases h2 : o = 2
    · subst h2
      by_cases hi : i = 1
      · subst hi
        go_enter Try.func80, Try.ntmps80
        go_wp2
        go_ret
        exact ⟨rfl, one_below w _⟩
      · have e : Tm.belowN 2 i = 0 := by simp [Tm.belowN, hi]
        have E := Lib.hid e
        have hi' : ((i : Int) == 1) = false := by rw [beq_eq_false_iff_ne]; omega
        clear e
        go_enter Try.func80, Try.ntmps80
        go_wp2
        go_ret
        exact ⟨ret_int (by rw [E.out]), one_below w _⟩
    · have e : Tm.belowN o i = 0 := by simp [Tm.belowN, h3, h2]
      have E := Lib.hid e
      clear e
      go_enter Try.func80, Try.ntmps80
      go_wp2
      go_ret
      exact ⟨ret_int (by rw [E.out]), one_below w _⟩

/-- A call gives a term in new memory. -/
def GivesT (w : World) (t : Tm) (e : Ending) (w' : World) : Prop :=
  ∃ v, e = .returned (.agg #[.int .i64 t.op, .int .i64 t.hd, .int .i64 t.n, v]) ∧ Below w.heap.size w w' ∧ Lies w' (w.heap.size ≤ ·) v t.args

section
variable {W W' : World} {p1 p2 p3 p4 p5 p6 p7 p8 p9 : Addr} {u1 u2 u3 u4 u5 u6 u7 u8 u9 : Value}
abbrev CellsP9 (W : World) (p1 p2 p3 p4 p5 p6 p7 p8 p9 : Addr) (u1 u2 u3 u4 u5 u6 u7 u8 u9 : Value) : Prop :=
  W.cell? p1 = some u1 ∧ W.cell? p2 = some u2 ∧ W.cell? p3 = some u3 ∧ W.cell? p4 = some u4 ∧ W.cell? p5 = some u5 ∧ W.cell? p6 = some u6 ∧ W.cell? p7 = some u7 ∧ W.cell? p8 = some u8 ∧ W.cell? p9 = some u9
theorem cellsP9_below (hb : Below W.heap.size W W') (x : CellsP9 W p1 p2 p3 p4 p5 p6 p7 p8 p9 u1 u2 u3 u4 u5 u6 u7 u8 u9) : CellsP9 W' p1 p2 p3 p4 p5 p6 p7 p8 p9 u1 u2 u3 u4 u5 u6 u7 u8 u9 := by
  obtain ⟨x1, x2, x3, x4, x5, x6, x7, x8, x9⟩ := x
  exact ⟨kept_cell hb x1, kept_cell hb x2, kept_cell hb x3, kept_cell hb x4, kept_cell hb x5, kept_cell hb x6, kept_cell hb x7, kept_cell hb x8, kept_cell hb x9⟩
theorem cellsP9_far {B : Nat} {row : Option Nat} (hg : W.grownBy W' row) (hr : ∀ k, row = some k → B ≤ k) (hp : ∀ p, (p = p1 ∨ p = p2 ∨ p = p3 ∨ p = p4 ∨ p = p5 ∨ p = p6 ∨ p = p7 ∨ p = p8 ∨ p = p9) → p.block < B)
    (x : CellsP9 W p1 p2 p3 p4 p5 p6 p7 p8 p9 u1 u2 u3 u4 u5 u6 u7 u8 u9) : CellsP9 W' p1 p2 p3 p4 p5 p6 p7 p8 p9 u1 u2 u3 u4 u5 u6 u7 u8 u9 := by
  obtain ⟨x1, x2, x3, x4, x5, x6, x7, x8, x9⟩ := x
  exact ⟨far_cell hg x1 hr (hp _ (by simp)), far_cell hg x2 hr (hp _ (by simp)), far_cell hg x3 hr (hp _ (by simp)), far_cell hg x4 hr (hp _ (by simp)), far_cell hg x5 hr (hp _ (by simp)), far_cell hg x6 hr (hp _ (by simp)), far_cell hg x7 hr (hp _ (by simp)), far_cell hg x8 hr (hp _ (by simp)), far_cell hg x9 hr (hp _ (by simp))⟩
end

theorem lies_one {w : World} {S : Nat → Prop} {v : Value} {l : List Tm} (h : Lies w S v l) : v.oneCell' = true := by
  obtain ⟨ao, b, off, len, cap, oo, hh, kk, sv, ts, rfl, R⟩ := h.open; rfl

end Go.Proofs.Yteoheeddjddekaa

namespace Go.Proofs.Yteoheeddjddekaa
open Go.RowKit
set_option linter.unusedSimpArgs false
set_option linter.unusedVariables false
namespace Tm
mutual
/-- has a free variable a number from a to b? -/
def low : Int → Int → Tm → Bool
  | a, b, .mk o h n l => (o == 4 && h == 1 && decide (a ≤ n) && decide (n ≤ b)) || lowL a b o 0 l
def lowL : Int → Int → Int → Nat → List Tm → Bool
  | _, _, _, _, [] => false
  | a, b, o, i, t :: l => low (a + belowN o i) (b + belowN o i) t || lowL a b o (i + 1) l
end
theorem lowL_snoc (a b o : Int) : ∀ (l : List Tm) (i : Nat) (t : Tm), lowL a b o i (l ++ [t]) = (lowL a b o i l || low (a + belowN o (i + l.length)) (b + belowN o (i + l.length)) t)
  | [], i, t => by simp [lowL]
  | x :: l, i, t => by
    simp only [List.cons_append, lowL, lowL_snoc a b o l (i + 1) t, List.length_cons]
    rw [show i + 1 + l.length = i + (l.length + 1) by omega, Bool.or_assoc]
theorem lowL_append (a b o : Int) : ∀ (l m : List Tm) (i : Nat), lowL a b o i l = true → lowL a b o i (l ++ m) = true
  | x :: l, m, i, h => by
    simp only [List.cons_append, lowL, Bool.or_eq_true] at h ⊢
    rcases h with h | h
    · exact .inl h
    · exact .inr (lowL_append a b o l m (i + 1) h)
  | [], m, i, h => by simp [lowL] at h
/-- none of the first k parts has one -/
def LowTo (a b o : Int) (l : List Tm) (k : Nat) : Prop := lowL a b o 0 (l.take k) = false
theorem LowTo.zero (a b o : Int) (l : List Tm) : LowTo a b o l 0 := by simp [LowTo, lowL]
theorem LowTo.step {a b o : Int} {l : List Tm} {k : Nat} (h : LowTo a b o l k) (hk : k < l.length) (e : low (a + belowN o k) (b + belowN o k) l[k] = false) : LowTo a b o l (k + 1) := by
  unfold LowTo at *
  rw [List.take_succ_eq_append_getElem hk, lowL_snoc, h, List.length_take, Nat.min_eq_left (by omega), Nat.zero_add, e]; rfl
theorem LowTo.hit {a b o : Int} {l : List Tm} {k : Nat} (hk : k < l.length) (e : low (a + belowN o k) (b + belowN o k) l[k] = true) : lowL a b o 0 l = true := by
  have h : lowL a b o 0 (l.take (k + 1)) = true := by
    rw [List.take_succ_eq_append_getElem hk, lowL_snoc, List.length_take, Nat.min_eq_left (by omega), Nat.zero_add, e, Bool.or_true]
  have := lowL_append a b o (l.take (k + 1)) (l.drop (k + 1)) 0 h
  rwa [List.take_append_drop] at this
theorem LowTo.all {a b o : Int} {l : List Tm} {k : Nat} (h : LowTo a b o l k) (hk : l.length ≤ k) : lowL a b o 0 l = false := by
  unfold LowTo at h; rwa [List.take_of_length_le hk] at h
end Tm

end Go.Proofs.Yteoheeddjddekaa

namespace Go.Proofs.Yteoheeddjddekaa
open Go.RowKit
namespace Tm

theorem headOk_var {o n : Int} {len : Nat} {h : Int} (e : headOk o h n len = true) (h1 : (h == 1) = true) : (o == 4) = true := by
  have h1' : h = 1 := by simpa using h1
  rcases headOk_yes o h n len e with ⟨_, _, rfl, _⟩ | ⟨_, _, rfl, _⟩ | ⟨_, _, rfl, _⟩ | ⟨rfl, _⟩
  · omega
  · omega
  · omega
  · rfl

theorem formed_parts {o h n : Int} {l : List Tm} {dp : Nat} (hf : formed (.mk o h n l) dp = true) : dp ≤ 40 ∧ headOk o h n l.length = true ∧ formedL l (dp + 1) = true := by
  simp only [formed, Bool.and_eq_true, decide_eq_true_eq] at hf
  exact ⟨hf.1.1, hf.1.2, hf.2⟩

mutual
theorem ren_moved (d fr : Int) : ∀ (t : Tm) (b : Int) (dp : Nat), formed t dp = true → ren (shF d fr) b t = moved d (fr + b) t
  | .mk o h n l, b, dp, hf => by
    obtain ⟨_, h2, h3⟩ := formed_parts hf
    simp only [ren, moved, renL_moved d fr l b o 0 (dp + 1) h3, shF]
    congr 1
    rcases h1 : (h == 1) with _ | _
    · simp
    · simp [headOk_var h2 h1]
theorem renL_moved (d fr : Int) : ∀ (l : List Tm) (b o : Int) (i dp : Nat), formedL l dp = true → renL (shF d fr) b o i l = movedL d (fr + b) o i l
  | [], _, _, _, _, _ => rfl
  | t :: l, b, o, i, dp, hf => by
    simp only [formedL, Bool.and_eq_true] at hf
    simp only [renL, movedL, ren_moved d fr t (b + belowN o i) dp hf.1, renL_moved d fr l b o (i + 1) dp hf.2, Int.add_assoc]
end

mutual
theorem err_low (d fr : Int) (hd : d < 0) : ∀ (t : Tm) (b e : Int) (dp : Nat), formed t dp = true → errT (shG d fr) b t e = if low (fr + b) (fr + b - d - 1) t then 27 else e
  | .mk o h n l, b, e, dp, hf => by
    obtain ⟨_, h2, h3⟩ := formed_parts hf
    have hn : n ≤ 9999 := by rcases headOk_yes o h n l.length h2 with ⟨_, _, _, rfl⟩ | ⟨_, _, _, rfl⟩ | ⟨_, _, _, rfl⟩ | ⟨_, _, _, _, h⟩ <;> omega
    simp only [errT, low, errL_low d fr hd l b o 0 _ (dp + 1) h3]
    rcases Bool.eq_false_or_eq_true (h == 1) with h1 | h1
    rotate_left
    · simp [shG, h1]
    · have ho := headOk_var h2 h1
      simp only [shG, h1, ho, Bool.true_and]
      by_cases c1 : fr + b ≤ n
      · by_cases c2 : n + d < fr + b
        · have c3 : n ≤ fr + b - d - 1 := by omega
          simp [c1, c2, c3]
        · have c3 : ¬ n ≤ fr + b - d - 1 := by omega
          have c4 : ¬ 9999 < n + d := by omega
          simp [c1, c2, c3, c4]
      · simp [c1]
theorem errL_low (d fr : Int) (hd : d < 0) : ∀ (l : List Tm) (b o : Int) (i : Nat) (e : Int) (dp : Nat), formedL l dp = true → errL (shG d fr) b o i l e = if lowL (fr + b) (fr + b - d - 1) o i l then 27 else e
  | [], _, _, _, _, _, _ => rfl
  | t :: l, b, o, i, e, dp, hf => by
    simp only [formedL, Bool.and_eq_true] at hf
    simp only [errL, lowL, err_low d fr hd t (b + belowN o i) e dp hf.1, errL_low d fr hd l b o (i + 1) _ dp hf.2]
    rw [show fr + (b + belowN o i) = fr + b + belowN o i from by omega, show fr + b + belowN o i - d - 1 = fr + b - d - 1 + belowN o i from by omega]
    rcases Bool.eq_false_or_eq_true (low (fr + b + belowN o i) (fr + b - d - 1 + belowN o i) t) with h1 | h1 <;> rcases Bool.eq_false_or_eq_true (lowL (fr + b) (fr + b - d - 1) o (i + 1) l) with h2 | h2 <;> simp [h1, h2]
end

theorem headOk_num {o h n n' : Int} {len : Nat} (e : headOk o h n len = true) (h1 : (h == 1) = true) : headOk o h n' len = (decide (0 ≤ n') && decide (n' ≤ 9999)) := by
  have ho := headOk_var e h1
  have ho' : o = 4 := by simpa using ho
  have h1' : h = 1 := by simpa using h1
  subst ho' h1'
  simp [headOk]

mutual
theorem moved_formed (d fr : Int) : ∀ (t : Tm) (b : Int) (dp : Nat), formed t dp = true → 0 ≤ fr + b → (d < 0 → low (fr + b) (fr + b - d - 1) t = false) →
    ∀ e, errT (shG d fr) b t e = if formed (moved d (fr + b) t) dp then e else 5
  | .mk o h n l, b, dp, hf, h0, hlow, e => by
    obtain ⟨h1, h2, h3⟩ := formed_parts hf
    have hn : 0 ≤ n ∧ n ≤ 9999 := by rcases headOk_yes o h n l.length h2 with ⟨_, _, _, rfl⟩ | ⟨_, _, _, rfl⟩ | ⟨_, _, _, rfl⟩ | ⟨_, _, _, _, _⟩ <;> omega
    have hlowL : d < 0 → lowL (fr + b) (fr + b - d - 1) o 0 l = false := fun hd => by
      have := hlow hd
      simp only [low, Bool.or_eq_false_iff] at this
      exact this.2
    have hlowN : d < 0 → (h == 1) = true → ¬ (fr + b ≤ n ∧ n ≤ fr + b - d - 1) := fun hd hh => by
      have := hlow hd
      have ho := headOk_var h2 hh
      simp only [low, Bool.or_eq_false_iff, hh, ho, Bool.true_and, Bool.and_eq_false_iff, decide_eq_false_iff_not] at this
      intro hc
      rcases this.1 with h | h
      · exact h hc.1
      · exact h hc.2
    simp only [errT, movedL_formed d fr l b o 0 (dp + 1) h3 h0 hlowL, moved, formed, movedL_length]
    rcases hh : (h == 1) with _ | _
    · simp [shG, hh, h1, h2]
    · have ho := headOk_var h2 hh
      rw [headOk_num h2 hh]
      simp only [shG, hh, ho, Bool.true_and]
      by_cases c1 : fr + b ≤ n
      · have c2 : ¬ n + d < fr + b := fun c => by
          by_cases hd : d < 0
          · exact hlowN hd hh ⟨c1, by omega⟩
          · omega
        by_cases c3 : 9999 < n + d
        · have c4 : ¬ n + d ≤ 9999 := by omega
          simp [c1, c2, c3, c4]
        · have c4 : n + d ≤ 9999 := by omega
          have c5 : 0 ≤ n + d := by omega
          simp [c1, c2, c3, c4, c5, h1]
      · simp [c1, h1, hn]
theorem movedL_formed (d fr : Int) : ∀ (l : List Tm) (b o : Int) (i dp : Nat), formedL l dp = true → 0 ≤ fr + b → (d < 0 → lowL (fr + b) (fr + b - d - 1) o i l = false) →
    ∀ e, errL (shG d fr) b o i l e = if formedL (movedL d (fr + b) o i l) dp then e else 5
  | [], _, _, _, _, _, _, _, _ => rfl
  | t :: l, b, o, i, dp, hf, h0, hlow, e => by
    simp only [formedL, Bool.and_eq_true] at hf
    have hb := belowN_bd o i
    have l1 : d < 0 → low (fr + (b + belowN o i)) (fr + (b + belowN o i) - d - 1) t = false := fun hd => by
      have := hlow hd
      simp only [lowL, Bool.or_eq_false_iff] at this
      rw [show fr + (b + belowN o i) = fr + b + belowN o i from by omega, show fr + b + belowN o i - d - 1 = fr + b - d - 1 + belowN o i from by omega]
      exact this.1
    have l2 : d < 0 → lowL (fr + b) (fr + b - d - 1) o (i + 1) l = false := fun hd => by
      have := hlow hd
      simp only [lowL, Bool.or_eq_false_iff] at this
      exact this.2
    simp only [errL, movedL, formedL, moved_formed d fr t (b + belowN o i) dp hf.1 (by omega) l1, movedL_formed d fr l b o (i + 1) dp hf.2 h0 l2, Int.add_assoc]
    rcases formed (moved d (fr + (b + belowN o i)) t) dp with _ | _ <;> rcases formedL (movedL d (fr + b) o (i + 1) l) dp with _ | _ <;> rfl
end

mutual
theorem moved_sz (d : Int) : ∀ (t : Tm) (fr : Int), sz (moved d fr t) = sz t
  | .mk o h n l, fr => by simp only [moved, sz, movedL_sz d l fr o 0]
theorem movedL_sz (d : Int) : ∀ (l : List Tm) (fr o : Int) (i : Nat), szL (movedL d fr o i l) = szL l
  | [], _, _, _ => rfl
  | t :: l, fr, o, i => by simp only [movedL, szL, moved_sz d t, movedL_sz d l fr o (i + 1)]
end
end Tm

/-- what the reference's Shift returns -/
def shiftRef (d fr : Int) (t : Tm) : Tm × Int :=
  if shiftArgs d fr t then (if d < 0 ∧ Tm.low fr (fr - d - 1) t = true then (Tm.zero, 27) else if Tm.proper (Tm.moved d fr t) then (Tm.moved d fr t, 0) else (Tm.zero, 5)) else (Tm.zero, 2)

theorem shift_same (d fr : Int) (t : Tm) : shiftOut d fr t = shiftRef d fr t := by
  unfold shiftOut shiftRef
  rcases hs : shiftArgs d fr t with _ | _
  · rfl
  · have hs' := hs
    simp only [shiftArgs, Bool.and_eq_true, decide_eq_true_eq] at hs'
    obtain ⟨⟨⟨⟨hp, hd0⟩, hd1⟩, hf0⟩, hf1⟩ := hs'
    have hpf := hp
    simp only [Tm.proper, Bool.and_eq_true, decide_eq_true_eq] at hpf
    have hr := Tm.ren_moved d fr t 0 1 hpf.2
    rw [Int.add_zero] at hr
    have hpm : Tm.proper (Tm.moved d fr t) = Tm.formed (Tm.moved d fr t) 1 := by
      unfold Tm.proper
      rw [Tm.moved_sz, decide_eq_true hpf.1, Bool.true_and]
    simp only [if_true]
    rw [hr, hpm]
    by_cases hlow : d < 0 ∧ Tm.low fr (fr - d - 1) t = true
    · have he := Tm.err_low d fr hlow.1 t 0 0 1 hpf.2
      rw [Int.add_zero, hlow.2] at he
      rw [if_pos hlow, he]
      rfl
    · rw [if_neg hlow]
      have he := Tm.moved_formed d fr t 0 1 hpf.2 (by omega) (fun hd => by
        rw [Int.add_zero]
        rcases h : Tm.low fr (fr - d - 1) t with _ | _
        · rfl
        · exact absurd ⟨hd, h⟩ hlow) 0
      rw [Int.add_zero] at he
      rw [he]
      rcases Tm.formed (Tm.moved d fr t) 1 with _ | _ <;> rfl
end Go.Proofs.Yteoheeddjddekaa

namespace Go.Proofs.Yteoheeddjddekaa
open Go.RowKit
set_option linter.unusedSimpArgs false
set_option linter.unusedVariables false

/-- the end of a call that returns a zero term and an error behind its result's block -/
theorem ends_zero {w w1 : World} {x : Int} {y : Tm × Int} (hy : y = (Tm.zero, x)) (hb : Below w.heap.size w w1) : GivesE w y (.returned (.tuple #[.agg #[.int .i64 0, .int .i64 0, .int .i64 0, .slice none 0 0], .int .i64 x]))
    ((((w1.setCell ⟨w.heap.size + 1, 0, none⟩ (.int .i64 0)).setCell ⟨w.heap.size + 1, 1, none⟩ (.int .i64 0)).setCell ⟨w.heap.size + 1, 2, none⟩ (.int .i64 0)).setCell ⟨w.heap.size + 1, 3, none⟩ (.slice none 0 0)) :=
  givesE_zero hy ((((hb.setCell (by simp) _).setCell (by simp) _).setCell (by simp) _).setCell (by simp) _)

end Go.Proofs.Yteoheeddjddekaa
