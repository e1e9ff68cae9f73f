/- A region that draws its order, and whose last operation waits for all others: what is said of the world need hold before that operation alone. Nothing of the program is imported. * The contracts of trussref03.below and moved. * The contract of the reference's low. * Plain facts: Shift as the program does it is Shift as the reference does it. Nothing of the program is walked. * The contract of the reference's Shift. -/
import Derived.OrdersHeld
import Derived.StillTail
import Derived.Deep.RegionHeld
import Derived.Test.YtieakippgeehgaaProg
import Derived.Test.YtieakippgeehgaaTmGc
import Derived.Test.YtieakippgeehgaaTmGb
import Derived.Deep.RegionHeld3
import Derived.Deep.AppendLies
import Derived.OwnWalk
import Derived.Laws.Pointers
import Derived.IntWalk
namespace Go.Proofs.Ytieakippgeehgaa

section
variable {P : Program} {ops : Array Oper} {st : Oper} {Q : Exit → Act → World → Prop} {md : Region.Mode}

/-- Behind all other operations the last one is run. -/
def lastQ (P : Program) (ops : Array Oper) (Q : Exit → Act → World → Prop) (n : Nat) : Exit → Act → World → Prop
  | .normal, a, w => wpOp P ops Q n (Q .normal) a w
  | e, a, w => Q e a w

theorem lastQ_list {n : Nat} {o : Oper} {a : Act} {w : World} (ho : ops[n]? = some o) (h : wpList P ops Q [o] a w) : lastQ P ops Q n .normal a w := by
  show wpOp P ops Q n (Q .normal) a w
  unfold wpOp
  rw [ho]
  exact h

/-- every guard is one of these operations -/
def guardsB (ops : Array Oper) : Bool := ops.all fun o => match o.guard with | some (g, _) => decide (g < ops.size) | none => true
/-- every operation waits for earlier ones alone -/
def backB (ops : Array Oper) : Bool := (List.range ops.size).all fun j => match ops[j]? with | some o => o.after.all (fun e => decide (e.on < j)) | none => true

theorem backB_spec (h : backB ops = true) {j : Nat} {o : Oper} (ho : ops[j]? = some o) : ∀ e ∈ o.after, e.on < j := by
  intro e he
  have hj : j < ops.size := (Array.getElem?_eq_some_iff.1 ho).1
  have h1 := List.all_eq_true.1 h j (List.mem_range.2 hj)
  rw [ho] at h1
  simpa using (Array.all_eq_true'.1 h1) e he

theorem push_get (i : Nat) (hi : i < ops.size) : (ops.push st)[i]? = ops[i]? := by rw [Array.getElem?_push, if_neg (by omega)]

theorem wanted_push {o : Oper} {i : Nat} (hg : guardsB ops = true) (ho : ops[i]? = some o) (t : Array Value) : Region.wanted o (yielded (ops.push st) t) = Region.wanted o (yielded ops t) := by
  unfold Region.wanted
  cases hgd : o.guard with
  | none => rfl
  | some g =>
    obtain ⟨g, b⟩ := g
    have h1 := (Array.all_eq_true'.1 hg) o (Array.mem_of_getElem? ho)
    rw [hgd] at h1
    have h2 : g < ops.size := by simpa using h1
    simp only [yielded, push_get g h2]

theorem wpOp_push {i : Nat} {K K' : Act → World → Prop} {a : Act} {w : World} (hi : i < ops.size) (hg : guardsB ops = true) (hk : ∀ a w, K' a w → K a w)
    (h : wpOp P ops (lastQ P (ops.push st) Q ops.size) i K' a w) : wpOp P (ops.push st) Q i K a w := by
  unfold wpOp at *
  rw [push_get i hi]
  obtain ⟨o, ho⟩ : ∃ o, ops[i]? = some o := ⟨ops[i], Array.getElem?_eq_getElem hi⟩
  simp only [ho] at h ⊢
  rw [wanted_push hg ho]
  have out : LetsOut (lastQ P (ops.push st) Q ops.size) → LetsOut Q := fun ⟨a, w, h⟩ => ⟨a, w, h⟩
  split
  · rename_i hw
    simp only [hw, if_true] at h
    rcases h with h | ⟨h1, h2⟩
    · refine .inl ?_
      unfold Oper.wp at *
      generalize (execOp a.eval o).run P w = r at *
      cases r with
      | ok n w' =>
        cases n <;> simp only [Oper.upon] at h ⊢
        case value => exact hk _ _ h
        case skip => exact hk _ _ h
        case defer => exact hk _ _ h
        case enter f args =>
          refine Calls.mono h fun e w'' he => ?_
          cases e with
          | returned u => exact hk _ _ he
          | panicked c => exact he
          | outgrown => exact out he
        case row row args => exact Rows.mono h fun u w'' he => hk _ _ he
      | halt x w' => cases x <;> simp only [Oper.upon] at h ⊢ <;> exact h
    · exact .inr ⟨h1, out h2⟩
  · rename_i hw
    simp only [hw] at h
    exact hk _ _ h

theorem getD_push_lt {listed : Array Bool} {i : Nat} (d b : Bool) (hi : i < listed.size) : (listed.push b).getD i d = listed.getD i d := by
  simp [Array.getD, hi, show i < listed.size + 1 by omega, Array.getElem_push_lt hi]

theorem ready_push {listed : Array Bool} (hl : listed.size = ops.size) (hback : backB (ops.push st) = true) {i : Nat} (hi : i < ops.size) :
    i ∈ Region.ready md (ops.push st) (listed.push false) ↔ i ∈ Region.ready md ops listed := by
  rw [mem_ready, mem_ready, push_get i hi, getD_push_lt _ _ (by omega)]
  refine and_congr_right fun _ => exists_congr fun o => and_congr_right fun ho => ?_
  refine forall_congr' fun e => forall_congr' fun he => forall_congr' fun _ => ?_
  have := backB_spec hback (j := i) (o := o) (by rw [push_get i hi]; exact ho) e he
  rw [getD_push_lt _ _ (by omega)]

theorem set_push_lt {listed : Array Bool} {i : Nat} (hi : i < listed.size) : (listed.push false).setIfInBounds i true = (listed.setIfInBounds i true).push false := by
  obtain ⟨l⟩ := listed
  simp only [List.push_toArray, List.setIfInBounds_toArray, List.size_toArray] at hi ⊢
  rw [List.set_append, if_pos hi]

theorem all_listed {listed : Array Bool} (hl : listed.size = ops.size) (hback : backB (ops.push st) = true) (hr : Region.ready md ops listed = []) : ∀ i, i < ops.size → listed.getD i true = true := by
  intro i
  induction i using Nat.strongRecOn with
  | _ i ih =>
    intro hi
    cases hc : listed.getD i true with
    | true => rfl
    | false =>
      exfalso
      have : i ∈ Region.ready md ops listed := by
        rw [mem_ready]
        refine ⟨hc, ops[i], Array.getElem?_eq_getElem hi, fun e he _ => ?_⟩
        have h1 := backB_spec hback (j := i) (o := ops[i]) (by rw [push_get i hi]; exact Array.getElem?_eq_getElem hi) e he
        have h2 := ih e.on h1 (by omega)
        simp [Array.getD, show e.on < listed.size by omega] at h2 ⊢
        exact h2
      rw [hr] at this
      cases this

theorem wpAny_last (hg : guardsB ops = true) (hback : backB (ops.push st) = true) (hs : Region.sinkB md (ops.push st) ops.size = true) (hc : Region.chainB md (ops.push st) ops.size = true) :
    ∀ (f : Nat) (listed : Array Bool) (a : Act) (w : World), listed.size = ops.size → HeadInv md (ops.push st) ops.size (listed.push false) →
      wpAny P md ops (lastQ P (ops.push st) Q ops.size) f listed a w → wpAny P md (ops.push st) Q (f + 1) (listed.push false) a w := by
  have final : ∀ (f : Nat) (listed : Array Bool) (a : Act) (w : World), listed.size = ops.size → Region.ready md ops listed = [] → lastQ P (ops.push st) Q ops.size .normal a w → wpAny P md (ops.push st) Q (f + 1) (listed.push false) a w := by
    intro f listed a w hl hr h
    have hall := all_listed hl hback hr
    have hn : ops.size ∈ Region.ready md (ops.push st) (listed.push false) := by
      rw [mem_ready]
      refine ⟨by rw [← hl]; simp [Array.getD], st, by simp, fun e he _ => ?_⟩
      have h1 := backB_spec hback (j := ops.size) (o := st) (by simp) e he
      have h2 := hall e.on h1
      rw [getD_push_lt _ _ (by omega)]
      simp [Array.getD, show e.on < listed.size by omega] at h2 ⊢
      exact h2
    refine ⟨(fun h0 => by rw [h0] at hn; cases hn), fun i hi => ?_⟩
    by_cases hin : i < ops.size
    · rw [ready_push hl hback hin, hr] at hi; cases hi
    · have hin' : i = ops.size := by
        obtain ⟨_, o, ho, _⟩ := mem_ready.1 hi
        have := (Array.getElem?_eq_some_iff.1 ho).1
        simp at this; omega
      subst hin'
      have done : Region.ready md (ops.push st) ((listed.push false).setIfInBounds ops.size true) = [] := by
        apply List.eq_nil_iff_forall_not_mem.2
        intro j hj
        obtain ⟨h1, o, ho, _⟩ := mem_ready.1 hj
        have hj2 := (Array.getElem?_eq_some_iff.1 ho).1
        simp only [Array.size_push] at hj2
        by_cases hjn : j = ops.size
        · subst hjn
          simp [Array.getD, hl] at h1
        · have h3 := hall j (by omega)
          rw [getD_set_ne true (by omega), getD_push_lt _ _ (by omega), h3] at h1
          cases h1
      refine wpOp_mono (fun a' w' hq => ?_) h
      cases f with
      | zero => exact ⟨done, hq⟩
      | succ f => exact ⟨fun _ => hq, by rw [done]; simp⟩
  intro f
  induction f with
  | zero => intro listed a w hl _ h; exact final 0 listed a w hl h.1 h.2
  | succ f ih =>
    intro listed a w hl inv h
    by_cases hr : Region.ready md ops listed = []
    · exact final _ listed a w hl hr (h.1 hr)
    · have hx : ∃ i0, i0 < ops.size ∧ i0 ∈ Region.ready md ops listed := by
        obtain ⟨i0, hi0⟩ := List.exists_mem_of_ne_nil _ hr
        obtain ⟨_, o, ho, _⟩ := mem_ready.1 hi0
        exact ⟨i0, (Array.getElem?_eq_some_iff.1 ho).1, hi0⟩
      obtain ⟨i0, hi0, hm0⟩ := hx
      refine ⟨(fun h0 => by rw [← ready_push hl hback hi0, h0] at hm0; cases hm0), fun i hi => ?_⟩
      by_cases hin : i < ops.size
      · refine wpOp_push hin hg (fun a' w' hk => ?_) (h.2 i ((ready_push hl hback hin).1 hi))
        have e := set_push_lt (listed := listed) (i := i) (by omega)
        rw [e]
        exact ih _ _ _ (by simp [hl]) (by rw [← e]; exact inv.set hi hin) hk
      · exfalso
        have hu : (listed.push false).getD i0 true = false := (mem_ready.1 ((ready_push hl hback hi0).2 hm0)).1
        exact tail_waits hs hc (by simp) inv (ops.size - i0) i0 rfl hi0 hu i (by omega) hi

/-- THE BEGINNING: the region without its last operation, under S; behind it the last one. -/
theorem wp_region_last {S : World → Prop} {id : Nat} {all : Array Oper} {a : Act} {w : World} (hm : P.follows .mixedOrders = true) (he : all = ops.push st) (hg : guardsB ops = true) (hback : backB all = true)
    (hs : Region.sinkB .any all ops.size = true) (hc : Region.chainB .any all ops.size = true) (hS : S w.drew)
    (h : S w.drew → wpAnyH P .any ops (lastQ P all Q ops.size) S ops.size (Array.replicate ops.size false) a w.drew) : (Code.region id all true).wp P Q a w := by
  subst he
  refine wp_region_any hm ?_
  have e : Array.replicate (ops.push st).size false = (Array.replicate ops.size false).push false := by simp [Array.replicate_succ]
  rw [e, Array.size_push]
  refine wpAny_last hg hback hs hc ops.size _ a _ (by simp) ⟨by simp, fun j oj _ hl => ?_, fun t ht ht' => ?_⟩ (wpAny_of_held _ _ _ _ (h hS))
  · exfalso
    rw [← e, getD_replicate_false] at hl
    cases hl
  · simp only [Array.size_push] at ht'
    obtain rfl : t = ops.size := by omega
    simp [Array.getD, Array.getElem_push]

theorem wp_region_last_of {S : World → Prop} {id : Nat} {all : Array Oper} {a : Act} {w : World} (hm : P.follows .mixedOrders = true) (he : all.pop = ops) (hl : all.back? = some st) (hg : guardsB ops = true) (hback : backB all = true)
    (hs : Region.sinkB .any all ops.size = true) (hc : Region.chainB .any all ops.size = true) (hS : S w.drew)
    (h : S w.drew → wpAnyH P .any ops (lastQ P all Q ops.size) S ops.size (Array.replicate ops.size false) a w.drew) : (Code.region id all true).wp P Q a w := by
  have e : all = ops.push st := by
    subst he
    obtain ⟨l⟩ := all
    simp only [List.back?_toArray] at hl
    simp only [List.pop_toArray, List.push_toArray]
    congr 1
    rw [List.getLast?_eq_some_iff] at hl
    obtain ⟨ys, rfl⟩ := hl
    simp
  exact wp_region_last hm e hg hback hs hc hS h

end
end Go.Proofs.Ytieakippgeehgaa

namespace Go.Proofs.Ytieakippgeehgaa
open Go.RowKit
set_option linter.unusedSimpArgs false
set_option linter.unusedVariables false

set_option maxHeartbeats 400000 in
theorem below_any (o h n : Int) (v : Value) (i : Nat) (w : World) :
    Calls Try.prog 88 #[.agg #[.int .i64 o, .int .i64 h, .int .i64 n, v], .int .i64 i] w fun e w' => e = .returned (.int .i64 (Tm.belowN o i)) ∧ Below w.heap.size w w' := by
  by_cases h3 : o = 3
  · subst h3
    go_enter Try.func88, Try.ntmps88
    go_wp2
    go_ret
    exact ⟨rfl, one_below w _⟩
  · by_cases h2 : o = 2
    · subst h2
      by_cases hi : i = 1
      · subst hi
        go_enter Try.func88, Try.ntmps88
        go_wp2
        go_ret
        exact ⟨rfl, one_below w _⟩
      · have e : Tm.belowN 2 i = 0 := by simp [Tm.belowN, hi]
        have E := Lib.hid e
        have hi' : ((i : Int) == 1) = false := by rw [beq_eq_false_iff_ne]; omega
        clear e
        go_enter Try.func88, Try.ntmps88
        go_wp2
        go_ret
        exact ⟨ret_int (by rw [E.out]), one_below w _⟩
    · have e : Tm.belowN o i = 0 := by simp [Tm.belowN, h3, h2]
      have E := Lib.hid e
      clear e
      go_enter Try.func88, Try.ntmps88
      go_wp2
      go_ret
      exact ⟨ret_int (by rw [E.out]), one_below w _⟩

/-- A call gives a term in new memory. -/
def GivesT (w : World) (t : Tm) (e : Ending) (w' : World) : Prop :=
  ∃ v, e = .returned (.agg #[.int .i64 t.op, .int .i64 t.hd, .int .i64 t.n, v]) ∧ Below w.heap.size w w' ∧ Lies w' (w.heap.size ≤ ·) v t.args

section
variable {W W' : World} {p1 p2 p3 p4 p5 p6 p7 p8 p9 : Addr} {u1 u2 u3 u4 u5 u6 u7 u8 u9 : Value}
abbrev CellsP9 (W : World) (p1 p2 p3 p4 p5 p6 p7 p8 p9 : Addr) (u1 u2 u3 u4 u5 u6 u7 u8 u9 : Value) : Prop :=
  W.cell? p1 = some u1 ∧ W.cell? p2 = some u2 ∧ W.cell? p3 = some u3 ∧ W.cell? p4 = some u4 ∧ W.cell? p5 = some u5 ∧ W.cell? p6 = some u6 ∧ W.cell? p7 = some u7 ∧ W.cell? p8 = some u8 ∧ W.cell? p9 = some u9
theorem cellsP9_below (hb : Below W.heap.size W W') (x : CellsP9 W p1 p2 p3 p4 p5 p6 p7 p8 p9 u1 u2 u3 u4 u5 u6 u7 u8 u9) : CellsP9 W' p1 p2 p3 p4 p5 p6 p7 p8 p9 u1 u2 u3 u4 u5 u6 u7 u8 u9 := by
  obtain ⟨x1, x2, x3, x4, x5, x6, x7, x8, x9⟩ := x
  exact ⟨kept_cell hb x1, kept_cell hb x2, kept_cell hb x3, kept_cell hb x4, kept_cell hb x5, kept_cell hb x6, kept_cell hb x7, kept_cell hb x8, kept_cell hb x9⟩
theorem cellsP9_far {B : Nat} {row : Option Nat} (hg : W.grownBy W' row) (hr : ∀ k, row = some k → B ≤ k) (hp : ∀ p, (p = p1 ∨ p = p2 ∨ p = p3 ∨ p = p4 ∨ p = p5 ∨ p = p6 ∨ p = p7 ∨ p = p8 ∨ p = p9) → p.block < B)
    (x : CellsP9 W p1 p2 p3 p4 p5 p6 p7 p8 p9 u1 u2 u3 u4 u5 u6 u7 u8 u9) : CellsP9 W' p1 p2 p3 p4 p5 p6 p7 p8 p9 u1 u2 u3 u4 u5 u6 u7 u8 u9 := by
  obtain ⟨x1, x2, x3, x4, x5, x6, x7, x8, x9⟩ := x
  exact ⟨far_cell hg x1 hr (hp _ (by simp)), far_cell hg x2 hr (hp _ (by simp)), far_cell hg x3 hr (hp _ (by simp)), far_cell hg x4 hr (hp _ (by simp)), far_cell hg x5 hr (hp _ (by simp)), far_cell hg x6 hr (hp _ (by simp)), far_cell hg x7 hr (hp _ (by simp)), far_cell hg x8 hr (hp _ (by simp)), far_cell hg x9 hr (hp _ (by simp))⟩
end

theorem lies_one {w : World} {S : Nat → Prop} {v : Value} {l : List Tm} (h : Lies w S v l) : v.oneCell' = true := by
  obtain ⟨ao, b, off, len, cap, oo, hh, kk, sv, ts, rfl, R⟩ := h.open; rfl

set_option maxHeartbeats 4000000 in
set_option maxRecDepth 100000 in
theorem moved_walk (S : Nat → Prop) (f : Nat) (d : Int) (hd0 : -9999 ≤ d) (hd1 : d ≤ 9999) (ih : ∀ (o h n fr : Int) (v : Value) (l : List Tm) (w : World), Tm.sz (.mk o h n l) ≤ f → Tm.sz (.mk o h n l) ≤ 600 → Tm.nums (.mk o h n l) = true → 0 ≤ fr → fr + (Tm.sz (.mk o h n l) : Int) ≤ 20000 → Lies w S v l →
      Calls Try.prog 72 #[.agg #[.int .i64 o, .int .i64 h, .int .i64 n, v], .int .i64 d, .int .i64 fr] w (GivesT w (Tm.moved d fr (.mk o h n l))))
    (o h n fr : Int) (v : Value) (l : List Tm) (w : World) (hf : Tm.sz (.mk o h n l) ≤ f + 1) (hf6 : Tm.sz (.mk o h n l) ≤ 600) (hn : Tm.nums (.mk o h n l) = true) (h0 : 0 ≤ fr) (h1 : fr + (Tm.sz (.mk o h n l) : Int) ≤ 20000) (hv : Lies w S v l) :
    Calls Try.prog 72 #[.agg #[.int .i64 o, .int .i64 h, .int .i64 n, v], .int .i64 d, .int .i64 fr] w (GivesT w (Tm.moved d fr (.mk o h n l))) := by
  obtain ⟨ao, b, off, len, cap, oo, hh, kk, sv, ts, rfl, R⟩ := hv.open
  have hr := R.hr
  have hl := R.hl
  obtain ⟨n', hn', hmv, hways⟩ : ∃ n', (-9999 ≤ n' ∧ n' ≤ 20000) ∧ Tm.moved d fr (.mk o h n l) = .mk o h n' (Tm.movedL d fr o 0 l) ∧
      (((o == 4) = true ∧ (h == 1) = true ∧ fr ≤ n ∧ n' = n + d) ∨ ((o == 4) = true ∧ (h == 1) = true ∧ n < fr ∧ n' = n) ∨ ((o == 4) = true ∧ (h == 1) = false ∧ n' = n) ∨ ((o == 4) = false ∧ n' = n)) := Tm.moved_ways d fr o h n l hn hd0 hd1
  have hnb : 0 ≤ n ∧ n ≤ 9999 := Tm.nums_n hn
  rw [hmv]
  obtain ⟨i0, hi0, hz0, hz1, hz2⟩ := info_parts tm_info
  have HNP := Lib.hid hn'
  have HMV := Lib.hid hmv
  have HNN := Lib.hid hn
  clear hv hmv hn
  rcases hways with ⟨w1, w2, hle, hnn⟩ | ⟨w1, w2, hle, hnn⟩ | ⟨w1, w2, hnn⟩ | ⟨w1, hnn⟩
  all_goals
    have HE := Lib.hid hnn
    clear hnn
    go_enter Try.func72, Try.ntmps72
    go_wp2
    go_loopw [8] (fun i wr => ∃ k : Nat, k ≤ len ∧ i = .int .i64 k ∧ ∃ v, Building w wr 24 #[.int .i64 o, .int .i64 h, .int .i64 n, .slice ao len cap] #[.int .i64 0, .int .i64 0, .int .i64 0, .slice none 0 0] o h n' v (Tm.movedTo d fr o l k))
      (fun i _ => len - (intOf i).toNat)
    case atStart =>
      refine ⟨0, Nat.zero_le _, rfl, .slice none 0 0, ?_⟩
      rw [HE.out, Tm.movedTo_zero]
      exact Building.start _ _ _ rfl
    case round =>
      obtain ⟨k, hk, rfl, v, M⟩ := hrel
      by_cases hlt : k < len
      · obtain rfl := R.hao (by omega)
        obtain ⟨d0, d1, d2, d3, hsub⟩ := R.at M.below k hlt
        have b0 : wr.cell? ⟨w.heap.size, 0, none⟩ = some (.int .i64 o) := cell_in M.box 0 _ rfl
        have b1 : wr.cell? ⟨w.heap.size, 1, none⟩ = some (.int .i64 h) := cell_in M.box 1 _ rfl
        have b2 : wr.cell? ⟨w.heap.size, 2, none⟩ = some (.int .i64 n) := cell_in M.box 2 _ rfl
        have b3 : wr.cell? ⟨w.heap.size, 3, none⟩ = some (.slice (some ⟨b, off, none⟩) len cap) := cell_in M.box 3 _ rfl
        have z0 : wr.cell? ⟨w.heap.size + 1 + 1, 3, none⟩ = some v := cell_in M.out 3 _ rfl
        have f0 : wr.frozen? ⟨w.heap.size + 1 + 1, 3, none⟩ = false := free_in M.out 3
        have hbb : b < w.heap.size := World.block_lt_of_cell? w _ (R.c0 k hlt)
        have hs0 : w.heap.size + 1 + 1 + 1 ≤ wr.heap.size := by have := (Array.getElem?_eq_some_iff.1 M.out).1; omega
        have hk6 : (Tm.movedTo d fr o l k).length ≤ 600 := by rw [Tm.movedTo_length _ _ _ _ _ (by rw [R.length]; omega)]; have := Tm.length_le_szL l; simp only [Tm.sz] at hf6; rw [R.length] at this; omega
        have hrow := fun q (hq : v.ownBlock = some q) => (M.row.lt q hq).1
        have hbl := Tm.belowN_bd o k
        have hszk := R.size hf k hlt
        have hsz6 : Tm.sz (.mk (oo k) (hh k) (kk k) (ts k)) + 1 ≤ Tm.sz (.mk o h n l) := R.size_lt k hlt
        have hnk := Tm.numsL_mem (Tm.nums_l HNN.out) (R.mem k hlt)
        have hsum : IntKind.i64.wrap (fr + Tm.belowN o k) = fr + Tm.belowN o k := IntWalk.i64_in _ (by omega)
        have hk0 : (0 : Int) ≤ (k : Int) := by omega
        have hk1 : (k : Int) < (len : Int) := by omega
        have HNK := Lib.hid hnk
        have HR := Lib.hid R
        have HM := Lib.hid M
        clear hnk M R
        go_wp2_with fail
        refine wp_region_last_of (S := fun W => W.cell? ⟨w.heap.size, 0, none⟩ = some (.int .i64 o) ∧ W.cell? ⟨w.heap.size, 1, none⟩ = some (.int .i64 h) ∧ W.cell? ⟨w.heap.size, 2, none⟩ = some (.int .i64 n) ∧ W.cell? ⟨w.heap.size, 3, none⟩ = some (.slice (some ⟨b, off, none⟩) len cap) ∧
            W.cell? ⟨b, off + k * 4, none⟩ = some (.int .i64 (oo k)) ∧ W.cell? ⟨b, off + k * 4 + 1, none⟩ = some (.int .i64 (hh k)) ∧ W.cell? ⟨b, off + k * 4 + 2, none⟩ = some (.int .i64 (kk k)) ∧ W.cell? ⟨b, off + k * 4 + 3, none⟩ = some (sv k) ∧ W.cell? ⟨w.heap.size + 1 + 1, 3, none⟩ = some v)
          (by kernel_rfl) (by simp only [List.pop_toArray, List.dropLast_cons_cons, List.dropLast_singleton]; rfl) (by rfl) (by kernel_rfl) (by kernel_rfl) (by kernel_rfl) (by kernel_rfl) ⟨b0, b1, b2, b3, d0, d1, d2, d3, z0⟩ (fun hHeld => ?_)
        refine wpAnyH_take (i := 0) (v := .pointer (some ⟨w.heap.size + 1 + 1, 3, none⟩)) rfl (by kernel_rfl) (by kernel_rfl) (by kernel_rfl) (fun _ _ _ h => h) (Or.inl ⟨by rfl, ?_⟩) hHeld ?_
        · (intro W hW; (try dsimp only at hW); go_simp)
        (try simp only [Act.put, List.setIfInBounds_toArray, List.set_cons_zero, List.set_cons_succ])
        refine wpAnyH_take (i := 1) (v := v) rfl (by kernel_rfl) (by kernel_rfl) (by kernel_rfl) (fun _ _ _ h => h) (Or.inl ⟨by rfl, ?_⟩) hHeld ?_
        · (intro W hW; (try dsimp only at hW); go_simp)
        (try simp only [Act.put, List.setIfInBounds_toArray, List.set_cons_zero, List.set_cons_succ])
        refine wpAnyH_take (i := 2) (v := .pointer (some ⟨w.heap.size, 3, none⟩)) rfl (by kernel_rfl) (by kernel_rfl) (by kernel_rfl) (fun _ _ _ h => h) (Or.inl ⟨by rfl, ?_⟩) hHeld ?_
        · (intro W hW; (try dsimp only at hW); go_simp)
        (try simp only [Act.put, List.setIfInBounds_toArray, List.set_cons_zero, List.set_cons_succ])
        refine wpAnyH_take (i := 3) (v := .slice (some ⟨b, off, none⟩) len cap) rfl (by kernel_rfl) (by kernel_rfl) (by kernel_rfl) (fun _ _ _ h => h) (Or.inl ⟨by rfl, ?_⟩) hHeld ?_
        · (intro W hW; (try dsimp only at hW); go_simp)
        (try simp only [Act.put, List.setIfInBounds_toArray, List.set_cons_zero, List.set_cons_succ])
        refine wpAnyH_take (i := 4) (v := .int .i64 k) rfl (by kernel_rfl) (by kernel_rfl) (by kernel_rfl) (fun _ _ _ h => h) (Or.inl ⟨by rfl, ?_⟩) hHeld ?_
        · (intro W hW; (try dsimp only at hW); go_simp)
        (try simp only [Act.put, List.setIfInBounds_toArray, List.set_cons_zero, List.set_cons_succ])
        refine wpAnyH_take (i := 5) (v := .pointer (some ⟨b, off + k * 4, none⟩)) rfl (by kernel_rfl) (by kernel_rfl) (by kernel_rfl) (fun _ _ _ h => h) (Or.inl ⟨by rfl, ?_⟩) hHeld ?_
        · (intro W hW; (try dsimp only at hW); go_simp)
        (try simp only [Act.put, List.setIfInBounds_toArray, List.set_cons_zero, List.set_cons_succ])
        refine wpAnyH_take (i := 6) (v := .agg #[.int .i64 (oo k), .int .i64 (hh k), .int .i64 (kk k), sv k]) rfl (by kernel_rfl) (by kernel_rfl) (by kernel_rfl) (fun _ _ _ h => h) (Or.inl ⟨by rfl, ?_⟩) hHeld ?_
        · (intro W hW; (try dsimp only at hW); go_simp)
        (try simp only [Act.put, List.setIfInBounds_toArray, List.set_cons_zero, List.set_cons_succ])
        refine wpAnyH_take (i := 7) (v := .int .i64 d) rfl (by kernel_rfl) (by kernel_rfl) (by kernel_rfl) (fun _ _ _ h => h) (Or.inl ⟨by rfl, ?_⟩) hHeld ?_
        · (intro W hW; (try dsimp only at hW); go_simp)
        (try simp only [Act.put, List.setIfInBounds_toArray, List.set_cons_zero, List.set_cons_succ])
        refine wpAnyH_take (i := 8) (v := .int .i64 fr) rfl (by kernel_rfl) (by kernel_rfl) (by kernel_rfl) (fun _ _ _ h => h) (Or.inl ⟨by rfl, ?_⟩) hHeld ?_
        · (intro W hW; (try dsimp only at hW); go_simp)
        (try simp only [Act.put, List.setIfInBounds_toArray, List.set_cons_zero, List.set_cons_succ])
        refine wpAnyH_take (i := 9) (v := .agg #[.int .i64 o, .int .i64 h, .int .i64 n, .slice (some ⟨b, off, none⟩) len cap]) rfl (by kernel_rfl) (by kernel_rfl) (by kernel_rfl) (fun _ _ _ h => h) (Or.inl ⟨by rfl, ?_⟩) hHeld ?_
        · (intro W hW; (try dsimp only at hW); go_simp)
        (try simp only [Act.put, List.setIfInBounds_toArray, List.set_cons_zero, List.set_cons_succ])
        refine wpAnyH_take (i := 10) (v := .int .i64 k) rfl (by kernel_rfl) (by kernel_rfl) (by kernel_rfl) (fun _ _ _ h => h) (Or.inl ⟨by rfl, ?_⟩) hHeld ?_
        · (intro W hW; (try dsimp only at hW); go_simp)
        (try simp only [Act.put, List.setIfInBounds_toArray, List.set_cons_zero, List.set_cons_succ])
        refine wpAnyH_ready (rs := [11]) (by kernel_rfl) (by simp) (AllReadyH.cons rfl (fun K hK => ?_) AllReadyH.nil)
        go_simp
        go_at_call 88
        refine (below_any o h n _ k _).mono ?_
        rintro e w1 ⟨rfl, hb1⟩
        (try dsimp only)
        refine hK.out _ _ ?_ (fun hNew => ?_)
        · exact cellsP9_below hb1 hHeld
        clear hK K hHeld
        have hHeld := hNew
        clear hNew
        (try simp only [Act.put, List.setIfInBounds_toArray, List.set_cons_zero, List.set_cons_succ])
        have hb1' := (Below.refl _ _).drew.trans hb1
        have hs1 : wr.heap.size ≤ w1.heap.size := hb1'.size
        refine wpAnyH_take (i := 12) (v := .int .i64 (fr + Tm.belowN o k)) rfl (by kernel_rfl) (by kernel_rfl) (by kernel_rfl) (fun _ _ _ h => h) (Or.inl ⟨by rfl, ?_⟩) hHeld ?_
        · (intro W hW; (try dsimp only at hW); go_simp)
        (try simp only [Act.put, List.setIfInBounds_toArray, List.set_cons_zero, List.set_cons_succ])
        refine wpAnyH_ready (rs := [13]) (by kernel_rfl) (by simp) (AllReadyH.cons rfl (fun K hK => ?_) AllReadyH.nil)
        go_simp
        go_at_call 72
        refine (ih (oo k) (hh k) (kk k) (fr + Tm.belowN o k) (sv k) (ts k) w1 hszk (by omega) HNK.out (by omega) (by omega) (hsub.keep hb1')).mono ?_
        rintro e w2 ⟨x, rfl, hb2, hx⟩
        (try dsimp only)
        refine hK.out _ _ ?_ (fun hNew => ?_)
        · exact cellsP9_below hb2 hHeld
        clear hK K hHeld
        have hHeld := hNew
        clear hNew
        (try simp only [Act.put, List.setIfInBounds_toArray, List.set_cons_zero, List.set_cons_succ])
        have hs2 : w1.heap.size ≤ w2.heap.size := hb2.size
        obtain ⟨vs, hvl, hown2, hsub2⟩ := ((HM.out.row.below hb1').below hb2).own
        refine wpAnyH_ready (rs := [14]) (by kernel_rfl) (by simp) (AllReadyH.cons rfl (fun K hK => ?_) AllReadyH.nil)
        go_simp
        (try dsimp only)
        refine hK.out _ _ ?_ (fun hNew => ?_)
        · exact cellsP9_below ((Below.refl _ _).alloc (Nat.le_refl _) _) hHeld
        clear hK K hHeld
        have hHeld := hNew
        clear hNew
        (try simp only [Act.put, List.setIfInBounds_toArray, List.set_cons_zero, List.set_cons_succ])
        refine wpAnyH_ready (rs := [15]) (by kernel_rfl) (by simp) (AllReadyH.cons rfl (fun K hK => ?_) AllReadyH.nil)
        refine step_append_lies _ (by rfl) _ _ _ (by rfl) (w.heap.size + 1 + 1 + 1) 24 i0 _ 4 48 Try.underlying22 hi0 hz0 hz1 hz2 rfl (by omega) v _ _ (by rfl) (hown2.alloc _) ⟨w2.heap.size, 0, none⟩ 1 1 [.int .i64 (Tm.moved d (fr + Tm.belowN o k) (.mk (oo k) (hh k) (kk k) (ts k))).op, .int .i64 (Tm.moved d (fr + Tm.belowN o k) (.mk (oo k) (hh k) (kk k) (ts k))).hd, .int .i64 (Tm.moved d (fr + Tm.belowN o k) (.mk (oo k) (hh k) (kk k) (ts k))).n, x] (by rfl) (by rfl) (World.news_of_block (cs := #[.int .i64 (Tm.moved d (fr + Tm.belowN o k) (.mk (oo k) (hh k) (kk k) (ts k))).op, .int .i64 (Tm.moved d (fr + Tm.belowN o k) (.mk (oo k) (hh k) (kk k) (ts k))).hd, .int .i64 (Tm.moved d (fr + Tm.belowN o k) (.mk (oo k) (hh k) (kk k) (ts k))).n, x]) (t := 24) (fr := (0, 0)) (heap_alloc_new w2 _)) (by intro u hu; simp at hu; rcases hu with rfl | rfl | rfl | rfl <;> first | rfl | exact lies_one hx) (by omega) (by unfold maxLen; omega) (by omega) (by simp; omega) (w2.heap.size + 1) (by simp) ?_
        intro g cap3 w3 hown3 hgrow3 hat3 hlt3
        (try dsimp only)
        refine hK.out _ _ ?_ (fun hNew => ?_)
        · exact cellsP9_far hgrow3 hrow (by rintro p (rfl | rfl | rfl | rfl | rfl | rfl | rfl | rfl | rfl) <;> simp <;> omega) hHeld
        clear hK K hHeld
        have hHeld := hNew
        clear hNew
        (try simp only [Act.put, List.setIfInBounds_toArray, List.set_cons_zero, List.set_cons_succ])
        refine wpAnyH_take (i := 16) (v := .pointer (some ⟨w.heap.size + 1 + 1, 3, none⟩)) rfl (by kernel_rfl) (by kernel_rfl) (by kernel_rfl) (fun _ _ _ h => h) (Or.inl ⟨by rfl, ?_⟩) hHeld ?_
        · (intro W hW; (try dsimp only at hW); go_simp)
        (try simp only [Act.put, List.setIfInBounds_toArray, List.set_cons_zero, List.set_cons_succ])
        refine wpAnyH_done (by kernel_rfl) ?_ _
        refine lastQ_list (by rfl) ?_
        have fz : w3.frozen? ⟨w.heap.size + 1 + 1, 3, none⟩ = false := far_frozen hgrow3 (kept_cell ((Below.refl _ _).alloc (Nat.le_refl _) _) (kept_cell hb2 (kept_cell hb1' z0))) ((Below.frozen ((Below.refl _ _).alloc (Nat.le_refl _) _) (by show w.heap.size + 1 + 1 < w2.heap.size; omega)).trans (frozen_kept hb2 (kept_cell hb1' z0) (frozen_kept hb1' z0 f0))) hrow (by show w.heap.size + 1 + 1 < w.heap.size + 1 + 1 + 1; omega)
        obtain ⟨e0, e1, e2, e3, e4, e5, e6, e7, e8⟩ := hHeld
        clear e4 e5 e6 e7
        have HVL := Lib.hid hvl
        clear hvl
        go_wp2
        go_roundw
        case rel =>
          refine ⟨k + 1, by omega, by go_num, .slice (some ⟨g, 0, none⟩) ((Tm.movedTo d fr o l k).length + 1) cap3, ?_⟩
          rw [Tm.movedTo_step d fr o l k (by rw [HR.out.length]; exact hlt), HR.out.get k hlt]
          exact Building.step HM.out hb1' hb2 hx (Tm.moved_fit d (fr + Tm.belowN o k) (oo k) (hh k) (kk k) (ts k) HNK.out hd0 hd1) HVL.out hsub2 hown3 hgrow3 hat3
        case measure => simp [intOf]; omega
      · obtain rfl : k = len := by omega
        have HM := Lib.hid M
        have HR := Lib.hid R
        have HLn := Lib.hid (Tm.movedTo_all d fr o l k (by rw [R.length]; exact Nat.le_refl _))
        have b3 : wr.cell? ⟨w.heap.size, 3, none⟩ = some (.slice ao k cap) := cell_in M.box 3 _ rfl
        have y0 := cell_in M.res 0 (.int .i64 0) rfl
        have y1 := cell_in M.res 1 (.int .i64 0) rfl
        have y2 := cell_in M.res 2 (.int .i64 0) rfl
        have y3 := cell_in M.res 3 (.slice none 0 0) rfl
        have yf0 := free_in M.res 0
        have yf1 := free_in M.res 1
        have yf2 := free_in M.res 2
        have yf3 := free_in M.res 3
        have HV := Lib.hid M.row.lies
        obtain ⟨a3, n3, m3, rfl⟩ := M.row.lies.isSlice
        have g0 := cell_in M.out 0 (.int .i64 o) rfl
        have g1 := cell_in M.out 1 (.int .i64 h) rfl
        have g2 := cell_in M.out 2 (.int .i64 n') rfl
        have g3 := cell_in M.out 3 (.slice a3 n3 m3) rfl
        clear M R
        go_wp2
        have hz := set4_at HM.out.res (.int .i64 o) (.int .i64 h) (.int .i64 n') (.slice a3 n3 m3)
        have z0 := cell_in hz 0 (.int .i64 o) rfl
        have z1 := cell_in hz 1 (.int .i64 h) rfl
        have z2 := cell_in hz 2 (.int .i64 n') rfl
        have z3 := cell_in hz 3 (.slice a3 n3 m3) rfl
        have hoth : ∀ j, j ≠ w.heap.size + 1 → ((((wr.setCell ⟨w.heap.size + 1, 0, none⟩ (.int .i64 o)).setCell ⟨w.heap.size + 1, 1, none⟩ (.int .i64 h)).setCell ⟨w.heap.size + 1, 2, none⟩ (.int .i64 n')).setCell ⟨w.heap.size + 1, 3, none⟩ (.slice a3 n3 m3)).heap[j]? = wr.heap[j]? := fun j hj => heap_set4 _ _ _ _ hj hj hj hj
        refine bodyPost_ret (v := .agg #[.int .i64 o, .int .i64 h, .int .i64 n', .slice a3 n3 m3]) (by simp [results, Try.results72, go_sem, z0, z1, z2, z3]) rfl ⟨.slice a3 n3 m3, rfl, ?_, ?_⟩
        · exact (((HM.out.below.setCell (by simp) _).setCell (by simp) _).setCell (by simp) _).setCell (by simp) _
        · show Lies _ _ _ (Tm.movedL d fr o 0 l)
          rw [← HLn.out]
          exact (HV.out.still fun j hS _ => hoth j (by omega)).more fun j _ hS => by omega

theorem moved_calls (S : Nat → Prop) (d : Int) (hd0 : -9999 ≤ d) (hd1 : d ≤ 9999) : ∀ (f : Nat) (o h n fr : Int) (v : Value) (l : List Tm) (w : World), Tm.sz (.mk o h n l) ≤ f → Tm.sz (.mk o h n l) ≤ 600 → Tm.nums (.mk o h n l) = true → 0 ≤ fr → fr + (Tm.sz (.mk o h n l) : Int) ≤ 20000 → Lies w S v l →
      Calls Try.prog 72 #[.agg #[.int .i64 o, .int .i64 h, .int .i64 n, v], .int .i64 d, .int .i64 fr] w (GivesT w (Tm.moved d fr (.mk o h n l)))
  | 0, o, h, n, _, _, l, _, hf, _, _, _, _, _ => by have := Tm.sz_pos (.mk o h n l); omega
  | f + 1, o, h, n, fr, v, l, w, hf, h6, hn, h0, h1, hv => moved_walk S f d hd0 hd1 (moved_calls S d hd0 hd1 f) o h n fr v l w hf h6 hn h0 h1 hv

end Go.Proofs.Ytieakippgeehgaa

namespace Go.Proofs.Ytieakippgeehgaa
open Go.RowKit
set_option linter.unusedSimpArgs false
set_option linter.unusedVariables false
namespace Tm
mutual
/-- has a free variable a number from a to b? -/
def low : Int → Int → Tm → Bool
  | a, b, .mk o h n l => (o == 4 && h == 1 && decide (a ≤ n) && decide (n ≤ b)) || lowL a b o 0 l
def lowL : Int → Int → Int → Nat → List Tm → Bool
  | _, _, _, _, [] => false
  | a, b, o, i, t :: l => low (a + belowN o i) (b + belowN o i) t || lowL a b o (i + 1) l
end
theorem lowL_snoc (a b o : Int) : ∀ (l : List Tm) (i : Nat) (t : Tm), lowL a b o i (l ++ [t]) = (lowL a b o i l || low (a + belowN o (i + l.length)) (b + belowN o (i + l.length)) t)
  | [], i, t => by simp [lowL]
  | x :: l, i, t => by
    simp only [List.cons_append, lowL, lowL_snoc a b o l (i + 1) t, List.length_cons]
    rw [show i + 1 + l.length = i + (l.length + 1) by omega, Bool.or_assoc]
theorem lowL_append (a b o : Int) : ∀ (l m : List Tm) (i : Nat), lowL a b o i l = true → lowL a b o i (l ++ m) = true
  | x :: l, m, i, h => by
    simp only [List.cons_append, lowL, Bool.or_eq_true] at h ⊢
    rcases h with h | h
    · exact .inl h
    · exact .inr (lowL_append a b o l m (i + 1) h)
  | [], m, i, h => by simp [lowL] at h
/-- none of the first k parts has one -/
def LowTo (a b o : Int) (l : List Tm) (k : Nat) : Prop := lowL a b o 0 (l.take k) = false
theorem LowTo.zero (a b o : Int) (l : List Tm) : LowTo a b o l 0 := by simp [LowTo, lowL]
theorem LowTo.step {a b o : Int} {l : List Tm} {k : Nat} (h : LowTo a b o l k) (hk : k < l.length) (e : low (a + belowN o k) (b + belowN o k) l[k] = false) : LowTo a b o l (k + 1) := by
  unfold LowTo at *
  rw [List.take_succ_eq_append_getElem hk, lowL_snoc, h, List.length_take, Nat.min_eq_left (by omega), Nat.zero_add, e]; rfl
theorem LowTo.hit {a b o : Int} {l : List Tm} {k : Nat} (hk : k < l.length) (e : low (a + belowN o k) (b + belowN o k) l[k] = true) : lowL a b o 0 l = true := by
  have h : lowL a b o 0 (l.take (k + 1)) = true := by
    rw [List.take_succ_eq_append_getElem hk, lowL_snoc, List.length_take, Nat.min_eq_left (by omega), Nat.zero_add, e, Bool.or_true]
  have := lowL_append a b o (l.take (k + 1)) (l.drop (k + 1)) 0 h
  rwa [List.take_append_drop] at this
theorem LowTo.all {a b o : Int} {l : List Tm} {k : Nat} (h : LowTo a b o l k) (hk : l.length ≤ k) : lowL a b o 0 l = false := by
  unfold LowTo at h; rwa [List.take_of_length_le hk] at h
end Tm

set_option maxHeartbeats 2000000 in
set_option maxRecDepth 100000 in
theorem low_hit (o h n a b : Int) (a2 : Option Addr) (n2 m2 : Nat) (w : World) (e1 : (o == 4) = true) (e2 : (h == 1) = true) (e3 : a ≤ n) (e4 : n ≤ b) :
    Calls Try.prog 71 #[.agg #[.int .i64 o, .int .i64 h, .int .i64 n, .slice a2 n2 m2], .int .i64 a, .int .i64 b] w fun e w' => e = .returned (.bool true) ∧ Below w.heap.size w w' := by
  go_enter Try.func71, Try.ntmps71
  go_wp2
  go_ret
  exact ⟨rfl, one_below w _⟩

set_option maxHeartbeats 4000000 in
set_option maxRecDepth 100000 in
theorem low_walk (S : Nat → Prop) (f : Nat) (ih : ∀ (o h n a b : Int) (v : Value) (l : List Tm) (w : World), Tm.sz (.mk o h n l) ≤ f → 0 ≤ a → 0 ≤ b → a + (Tm.sz (.mk o h n l) : Int) ≤ 1000000 → b + (Tm.sz (.mk o h n l) : Int) ≤ 1000000 → Lies w S v l →
      Calls Try.prog 71 #[.agg #[.int .i64 o, .int .i64 h, .int .i64 n, v], .int .i64 a, .int .i64 b] w fun e w' => e = .returned (.bool (Tm.low a b (.mk o h n l))) ∧ Below w.heap.size w w')
    (o h n a b : Int) (v : Value) (l : List Tm) (w : World) (hf : Tm.sz (.mk o h n l) ≤ f + 1) (ha0 : 0 ≤ a) (hb0 : 0 ≤ b) (ha1 : a + (Tm.sz (.mk o h n l) : Int) ≤ 1000000) (hb1 : b + (Tm.sz (.mk o h n l) : Int) ≤ 1000000) (hv : Lies w S v l)
    (e : (o == 4) = false ∨ ((o == 4) = true ∧ (h == 1) = false) ∨ ((o == 4) = true ∧ (h == 1) = true ∧ n < a) ∨ ((o == 4) = true ∧ (h == 1) = true ∧ a ≤ n ∧ b < n)) :
    Calls Try.prog 71 #[.agg #[.int .i64 o, .int .i64 h, .int .i64 n, v], .int .i64 a, .int .i64 b] w fun e w' => e = .returned (.bool (Tm.lowL a b o 0 l)) ∧ Below w.heap.size w w' := by
  obtain ⟨ao, bb, off, len, cap, oo, hh, kk, sv, ts, rfl, R⟩ := hv.open
  have hr := R.hr
  have hl := R.hl
  have HL := Lib.hid R.length
  have hszp := Tm.sz_pos (.mk o h n l)
  clear hv
  rcases e with e1 | ⟨e1, e2⟩ | ⟨e1, e2, e3⟩ | ⟨e1, e2, e3, e4⟩
  all_goals
    go_enter Try.func71, Try.ntmps71
    go_wp2
    go_loopw [7] (fun i wr => ∃ k : Nat, k ≤ len ∧ i = .int .i64 k ∧ Below w.heap.size w wr ∧ wr.heap[w.heap.size]? = some (.cells #[.int .i64 o, .int .i64 h, .int .i64 n, .slice ao len cap] 24 (0, 0)) ∧ Tm.LowTo a b o l k)
      (fun i _ => len - (intOf i).toNat)
    case atStart => exact ⟨0, Nat.zero_le _, rfl, one_below w _, heap_alloc_new w _, Tm.LowTo.zero _ _ _ _⟩
    case round =>
      obtain ⟨k, hk, rfl, hbw, hbx, hlo⟩ := hrel
      have q0 := cell_in hbx 0 (.int .i64 o) rfl
      have q1 := cell_in hbx 1 (.int .i64 h) rfl
      have q2 := cell_in hbx 2 (.int .i64 n) rfl
      have q3 := cell_in hbx 3 (.slice ao len cap) rfl
      have HB := Lib.hid hbx
      clear hbx
      by_cases hlt : k < len
      · obtain rfl := R.hao (by omega)
        obtain ⟨d0, d1, d2, d3, hsub⟩ := R.at hbw k hlt
        have hsz := R.size hf k hlt
        have hs6 := R.size_lt (x := o) (y := h) (z := n) k hlt
        have hkl : k < l.length := by rw [HL.out]; exact hlt
        have hbl := Tm.belowN_bd o k
        have hx := ih (oo k) (hh k) (kk k) (a + Tm.belowN o k) (b + Tm.belowN o k) (sv k) (ts k)
        rcases hr' : Tm.low (a + Tm.belowN o k) (b + Tm.belowN o k) (.mk (oo k) (hh k) (kk k) (ts k)) with _ | _
        · have HN := Lib.hid (hlo.step hkl (by rw [R.get k hlt]; exact hr'))
          have call := fun (w1 : World) (hb : Below wr.heap.size wr w1) => hx w1 hsz (by omega) (by omega) (by omega) (by omega) (hsub.keep hb)
          rw [hr'] at call
          clear hr' hlo ih hx
          go_wp2_with fail
          refine (below_any o h n _ k wr).mono ?_
          rintro e w1 ⟨rfl, hb1'⟩
          have hbx1 := heap_kept hb1' HB.out
          have p0 := cell_in hbx1 3 (.slice (some ⟨bb, off, none⟩) len cap) rfl
          have f0 := kept_cell hb1' d0
          have f1 := kept_cell hb1' d1
          have f2 := kept_cell hb1' d2
          have f3 := kept_cell hb1' d3
          have HB1 := Lib.hid hbx1
          clear hbx1
          go_wp2_with fail
          refine (call _ hb1').mono ?_
          rintro e w2 ⟨rfl, hb2'⟩
          go_wp2
          go_roundw
          case rel => exact ⟨k + 1, by omega, by go_num, below_next (below_next hbw hb1') hb2', heap_kept hb2' HB1.out, HN.out⟩
          case measure => simp [intOf]; omega
        · have HN := Lib.hid (Tm.LowTo.hit hkl (by rw [R.get k hlt]; exact hr'))
          have call := fun (w1 : World) (hb : Below wr.heap.size wr w1) => hx w1 hsz (by omega) (by omega) (by omega) (by omega) (hsub.keep hb)
          rw [hr'] at call
          clear hr' hlo ih hx
          go_wp2_with fail
          refine (below_any o h n _ k wr).mono ?_
          rintro e w1 ⟨rfl, hb1'⟩
          have hbx1 := heap_kept hb1' HB.out
          have p0 := cell_in hbx1 3 (.slice (some ⟨bb, off, none⟩) len cap) rfl
          have f0 := kept_cell hb1' d0
          have f1 := kept_cell hb1' d1
          have f2 := kept_cell hb1' d2
          have f3 := kept_cell hb1' d3
          clear hbx1
          go_wp2_with fail
          refine (call _ hb1').mono ?_
          rintro e w2 ⟨rfl, hb2'⟩
          go_wp2
          go_ret
          exact ⟨ret_bool (a := true) (by rw [HN.out]), below_next (below_next hbw hb1') hb2'⟩
      · have HN := Lib.hid (hlo.all (by rw [HL.out]; omega))
        clear hlo
        go_wp2
        go_ret
        exact ⟨ret_bool (a := false) (by rw [HN.out]), hbw⟩

theorem low_calls (S : Nat → Prop) : ∀ (f : Nat) (o h n a b : Int) (v : Value) (l : List Tm) (w : World), Tm.sz (.mk o h n l) ≤ f → 0 ≤ a → 0 ≤ b → a + (Tm.sz (.mk o h n l) : Int) ≤ 1000000 → b + (Tm.sz (.mk o h n l) : Int) ≤ 1000000 → Lies w S v l →
      Calls Try.prog 71 #[.agg #[.int .i64 o, .int .i64 h, .int .i64 n, v], .int .i64 a, .int .i64 b] w fun e w' => e = .returned (.bool (Tm.low a b (.mk o h n l))) ∧ Below w.heap.size w w'
  | 0, o, h, n, _, _, _, l, _, hf, _, _, _, _, _ => by have := Tm.sz_pos (.mk o h n l); omega
  | f + 1, o, h, n, a, b, v, l, w, hf, ha0, hb0, ha1, hb1, hv => by
    by_cases c : (o == 4 && h == 1 && decide (a ≤ n) && decide (n ≤ b)) = true
    · have e : Tm.low a b (.mk o h n l) = true := by simp only [Tm.low, c, Bool.true_or]
      rw [e]
      obtain ⟨a2, n2, m2, rfl⟩ := hv.isSlice
      simp only [Bool.and_eq_true, decide_eq_true_eq] at c
      exact low_hit o h n a b a2 n2 m2 w c.1.1.1 c.1.1.2 c.1.2 c.2
    · have c' := Bool.eq_false_iff.2 c
      have e : Tm.low a b (.mk o h n l) = Tm.lowL a b o 0 l := by simp only [Tm.low, c', Bool.false_or]
      rw [e]
      refine low_walk S f (low_calls S f) o h n a b v l w hf ha0 hb0 ha1 hb1 hv ?_
      rcases e1 : (o == 4) with _ | _
      · exact .inl rfl
      · rcases e2 : (h == 1) with _ | _
        · exact .inr (.inl ⟨rfl, rfl⟩)
        · rw [e1, e2] at c'
          simp only [Bool.and_true, Bool.true_and, Bool.and_eq_false_iff, decide_eq_false_iff_not] at c'
          simp only [true_and]
          right; right
          omega
end Go.Proofs.Ytieakippgeehgaa

namespace Go.Proofs.Ytieakippgeehgaa
open Go.RowKit
namespace Tm

theorem headOk_var {o n : Int} {len : Nat} {h : Int} (e : headOk o h n len = true) (h1 : (h == 1) = true) : (o == 4) = true := by
  have h1' : h = 1 := by simpa using h1
  rcases headOk_yes o h n len e with ⟨_, _, rfl, _⟩ | ⟨_, _, rfl, _⟩ | ⟨_, _, rfl, _⟩ | ⟨rfl, _⟩
  · omega
  · omega
  · omega
  · rfl

theorem formed_parts {o h n : Int} {l : List Tm} {dp : Nat} (hf : formed (.mk o h n l) dp = true) : dp ≤ 40 ∧ headOk o h n l.length = true ∧ formedL l (dp + 1) = true := by
  simp only [formed, Bool.and_eq_true, decide_eq_true_eq] at hf
  exact ⟨hf.1.1, hf.1.2, hf.2⟩

mutual
theorem ren_moved (d fr : Int) : ∀ (t : Tm) (b : Int) (dp : Nat), formed t dp = true → ren (shF d fr) b t = moved d (fr + b) t
  | .mk o h n l, b, dp, hf => by
    obtain ⟨_, h2, h3⟩ := formed_parts hf
    simp only [ren, moved, renL_moved d fr l b o 0 (dp + 1) h3, shF]
    congr 1
    rcases h1 : (h == 1) with _ | _
    · simp
    · simp [headOk_var h2 h1]
theorem renL_moved (d fr : Int) : ∀ (l : List Tm) (b o : Int) (i dp : Nat), formedL l dp = true → renL (shF d fr) b o i l = movedL d (fr + b) o i l
  | [], _, _, _, _, _ => rfl
  | t :: l, b, o, i, dp, hf => by
    simp only [formedL, Bool.and_eq_true] at hf
    simp only [renL, movedL, ren_moved d fr t (b + belowN o i) dp hf.1, renL_moved d fr l b o (i + 1) dp hf.2, Int.add_assoc]
end

mutual
theorem err_low (d fr : Int) (hd : d < 0) : ∀ (t : Tm) (b e : Int) (dp : Nat), formed t dp = true → errT (shG d fr) b t e = if low (fr + b) (fr + b - d - 1) t then 27 else e
  | .mk o h n l, b, e, dp, hf => by
    obtain ⟨_, h2, h3⟩ := formed_parts hf
    have hn : n ≤ 9999 := by rcases headOk_yes o h n l.length h2 with ⟨_, _, _, rfl⟩ | ⟨_, _, _, rfl⟩ | ⟨_, _, _, rfl⟩ | ⟨_, _, _, _, h⟩ <;> omega
    simp only [errT, low, errL_low d fr hd l b o 0 _ (dp + 1) h3]
    rcases Bool.eq_false_or_eq_true (h == 1) with h1 | h1
    rotate_left
    · simp [shG, h1]
    · have ho := headOk_var h2 h1
      simp only [shG, h1, ho, Bool.true_and]
      by_cases c1 : fr + b ≤ n
      · by_cases c2 : n + d < fr + b
        · have c3 : n ≤ fr + b - d - 1 := by omega
          simp [c1, c2, c3]
        · have c3 : ¬ n ≤ fr + b - d - 1 := by omega
          have c4 : ¬ 9999 < n + d := by omega
          simp [c1, c2, c3, c4]
      · simp [c1]
theorem errL_low (d fr : Int) (hd : d < 0) : ∀ (l : List Tm) (b o : Int) (i : Nat) (e : Int) (dp : Nat), formedL l dp = true → errL (shG d fr) b o i l e = if lowL (fr + b) (fr + b - d - 1) o i l then 27 else e
  | [], _, _, _, _, _, _ => rfl
  | t :: l, b, o, i, e, dp, hf => by
    simp only [formedL, Bool.and_eq_true] at hf
    simp only [errL, lowL, err_low d fr hd t (b + belowN o i) e dp hf.1, errL_low d fr hd l b o (i + 1) _ dp hf.2]
    rw [show fr + (b + belowN o i) = fr + b + belowN o i from by omega, show fr + b + belowN o i - d - 1 = fr + b - d - 1 + belowN o i from by omega]
    rcases Bool.eq_false_or_eq_true (low (fr + b + belowN o i) (fr + b - d - 1 + belowN o i) t) with h1 | h1 <;> rcases Bool.eq_false_or_eq_true (lowL (fr + b) (fr + b - d - 1) o (i + 1) l) with h2 | h2 <;> simp [h1, h2]
end

theorem headOk_num {o h n n' : Int} {len : Nat} (e : headOk o h n len = true) (h1 : (h == 1) = true) : headOk o h n' len = (decide (0 ≤ n') && decide (n' ≤ 9999)) := by
  have ho := headOk_var e h1
  have ho' : o = 4 := by simpa using ho
  have h1' : h = 1 := by simpa using h1
  subst ho' h1'
  simp [headOk]

mutual
theorem moved_formed (d fr : Int) : ∀ (t : Tm) (b : Int) (dp : Nat), formed t dp = true → 0 ≤ fr + b → (d < 0 → low (fr + b) (fr + b - d - 1) t = false) →
    ∀ e, errT (shG d fr) b t e = if formed (moved d (fr + b) t) dp then e else 5
  | .mk o h n l, b, dp, hf, h0, hlow, e => by
    obtain ⟨h1, h2, h3⟩ := formed_parts hf
    have hn : 0 ≤ n ∧ n ≤ 9999 := by rcases headOk_yes o h n l.length h2 with ⟨_, _, _, rfl⟩ | ⟨_, _, _, rfl⟩ | ⟨_, _, _, rfl⟩ | ⟨_, _, _, _, _⟩ <;> omega
    have hlowL : d < 0 → lowL (fr + b) (fr + b - d - 1) o 0 l = false := fun hd => by
      have := hlow hd
      simp only [low, Bool.or_eq_false_iff] at this
      exact this.2
    have hlowN : d < 0 → (h == 1) = true → ¬ (fr + b ≤ n ∧ n ≤ fr + b - d - 1) := fun hd hh => by
      have := hlow hd
      have ho := headOk_var h2 hh
      simp only [low, Bool.or_eq_false_iff, hh, ho, Bool.true_and, Bool.and_eq_false_iff, decide_eq_false_iff_not] at this
      intro hc
      rcases this.1 with h | h
      · exact h hc.1
      · exact h hc.2
    simp only [errT, movedL_formed d fr l b o 0 (dp + 1) h3 h0 hlowL, moved, formed, movedL_length]
    rcases hh : (h == 1) with _ | _
    · simp [shG, hh, h1, h2]
    · have ho := headOk_var h2 hh
      rw [headOk_num h2 hh]
      simp only [shG, hh, ho, Bool.true_and]
      by_cases c1 : fr + b ≤ n
      · have c2 : ¬ n + d < fr + b := fun c => by
          by_cases hd : d < 0
          · exact hlowN hd hh ⟨c1, by omega⟩
          · omega
        by_cases c3 : 9999 < n + d
        · have c4 : ¬ n + d ≤ 9999 := by omega
          simp [c1, c2, c3, c4]
        · have c4 : n + d ≤ 9999 := by omega
          have c5 : 0 ≤ n + d := by omega
          simp [c1, c2, c3, c4, c5, h1]
      · simp [c1, h1, hn]
theorem movedL_formed (d fr : Int) : ∀ (l : List Tm) (b o : Int) (i dp : Nat), formedL l dp = true → 0 ≤ fr + b → (d < 0 → lowL (fr + b) (fr + b - d - 1) o i l = false) →
    ∀ e, errL (shG d fr) b o i l e = if formedL (movedL d (fr + b) o i l) dp then e else 5
  | [], _, _, _, _, _, _, _, _ => rfl
  | t :: l, b, o, i, dp, hf, h0, hlow, e => by
    simp only [formedL, Bool.and_eq_true] at hf
    have hb := belowN_bd o i
    have l1 : d < 0 → low (fr + (b + belowN o i)) (fr + (b + belowN o i) - d - 1) t = false := fun hd => by
      have := hlow hd
      simp only [lowL, Bool.or_eq_false_iff] at this
      rw [show fr + (b + belowN o i) = fr + b + belowN o i from by omega, show fr + b + belowN o i - d - 1 = fr + b - d - 1 + belowN o i from by omega]
      exact this.1
    have l2 : d < 0 → lowL (fr + b) (fr + b - d - 1) o (i + 1) l = false := fun hd => by
      have := hlow hd
      simp only [lowL, Bool.or_eq_false_iff] at this
      exact this.2
    simp only [errL, movedL, formedL, moved_formed d fr t (b + belowN o i) dp hf.1 (by omega) l1, movedL_formed d fr l b o (i + 1) dp hf.2 h0 l2, Int.add_assoc]
    rcases formed (moved d (fr + (b + belowN o i)) t) dp with _ | _ <;> rcases formedL (movedL d (fr + b) o (i + 1) l) dp with _ | _ <;> rfl
end

mutual
theorem moved_sz (d : Int) : ∀ (t : Tm) (fr : Int), sz (moved d fr t) = sz t
  | .mk o h n l, fr => by simp only [moved, sz, movedL_sz d l fr o 0]
theorem movedL_sz (d : Int) : ∀ (l : List Tm) (fr o : Int) (i : Nat), szL (movedL d fr o i l) = szL l
  | [], _, _, _ => rfl
  | t :: l, fr, o, i => by simp only [movedL, szL, moved_sz d t, movedL_sz d l fr o (i + 1)]
end
end Tm

/-- what the reference's Shift returns -/
def shiftRef (d fr : Int) (t : Tm) : Tm × Int :=
  if shiftArgs d fr t then (if d < 0 ∧ Tm.low fr (fr - d - 1) t = true then (Tm.zero, 27) else if Tm.proper (Tm.moved d fr t) then (Tm.moved d fr t, 0) else (Tm.zero, 5)) else (Tm.zero, 2)

theorem shift_same (d fr : Int) (t : Tm) : shiftOut d fr t = shiftRef d fr t := by
  unfold shiftOut shiftRef
  rcases hs : shiftArgs d fr t with _ | _
  · rfl
  · have hs' := hs
    simp only [shiftArgs, Bool.and_eq_true, decide_eq_true_eq] at hs'
    obtain ⟨⟨⟨⟨hp, hd0⟩, hd1⟩, hf0⟩, hf1⟩ := hs'
    have hpf := hp
    simp only [Tm.proper, Bool.and_eq_true, decide_eq_true_eq] at hpf
    have hr := Tm.ren_moved d fr t 0 1 hpf.2
    rw [Int.add_zero] at hr
    have hpm : Tm.proper (Tm.moved d fr t) = Tm.formed (Tm.moved d fr t) 1 := by
      unfold Tm.proper
      rw [Tm.moved_sz, decide_eq_true hpf.1, Bool.true_and]
    simp only [if_true]
    rw [hr, hpm]
    by_cases hlow : d < 0 ∧ Tm.low fr (fr - d - 1) t = true
    · have he := Tm.err_low d fr hlow.1 t 0 0 1 hpf.2
      rw [Int.add_zero, hlow.2] at he
      rw [if_pos hlow, he]
      rfl
    · rw [if_neg hlow]
      have he := Tm.moved_formed d fr t 0 1 hpf.2 (by omega) (fun hd => by
        rw [Int.add_zero]
        rcases h : Tm.low fr (fr - d - 1) t with _ | _
        · rfl
        · exact absurd ⟨hd, h⟩ hlow) 0
      rw [Int.add_zero] at he
      rw [he]
      rcases Tm.formed (Tm.moved d fr t) 1 with _ | _ <;> rfl
end Go.Proofs.Ytieakippgeehgaa

namespace Go.Proofs.Ytieakippgeehgaa
open Go.RowKit
set_option linter.unusedSimpArgs false
set_option linter.unusedVariables false

set_option maxHeartbeats 4000000 in
set_option maxRecDepth 100000 in
theorem shiftR_bad (o h n d fr : Int) (v : Value) (l : List Tm) (w : World) (hv : Lies w (fun _ => True) v l) (e : shiftArgs d fr (.mk o h n l) = false) (hd : I64 d) (hf : I64 fr) :
    Calls Try.prog 31 #[.agg #[.int .i64 o, .int .i64 h, .int .i64 n, v], .int .i64 d, .int .i64 fr] w (GivesE w (shiftRef d fr (.mk o h n l))) := by
  obtain ⟨a2, n2, m2, rfl⟩ := hv.isSlice
  have hy : shiftRef d fr (.mk o h n l) = (Tm.zero, 2) := by unfold shiftRef; rw [e]; rfl
  have HY := Lib.hid hy
  have HT := Lib.hid (two_blocks w #[.int .i64 o, .int .i64 h, .int .i64 n, .slice a2 n2 m2] #[.int .i64 0, .int .i64 0, .int .i64 0, .slice none 0 0] 24 24)
  have HB := Lib.hid (two_below w (.cells #[.int .i64 o, .int .i64 h, .int .i64 n, .slice a2 n2 m2] 24) (.cells #[.int .i64 0, .int .i64 0, .int .i64 0, .slice none 0 0] 24))
  have call := proper_any _ o h n _ l _ (hv.keep HB.out)
  have ways : Tm.proper (.mk o h n l) = false ∨ (Tm.proper (.mk o h n l) = true ∧ d < -9999) ∨ (Tm.proper (.mk o h n l) = true ∧ -9999 ≤ d ∧ 9999 < d) ∨ (Tm.proper (.mk o h n l) = true ∧ -9999 ≤ d ∧ d ≤ 9999 ∧ fr < 0) ∨ (Tm.proper (.mk o h n l) = true ∧ -9999 ≤ d ∧ d ≤ 9999 ∧ 0 ≤ fr ∧ 9999 < fr) := by
    unfold shiftArgs at e
    rcases hp : Tm.proper (.mk o h n l) with _ | _
    · exact .inl rfl
    · right
      rw [hp] at e
      simp only [Bool.true_and, Bool.and_eq_false_iff, decide_eq_false_iff_not] at e
      simp only [true_and]
      omega
  clear hy e hv
  rcases ways with hp | ⟨hp, k1⟩ | ⟨hp, k1, k2⟩ | ⟨hp, k1, k2, k3⟩ | ⟨hp, k1, k2, k3, k4⟩
  all_goals
    rw [hp] at call
    clear hp
    go_enter Try.func31, Try.ntmps31
    go_wp2_with (go_at_call 27; (with_reducible refine call.mono ?_); rintro e w1 ⟨rfl, hb1⟩; have hz := Lib.hid (heap_kept hb1 HT.out.2); have z0 := cell_in hz.out 0 (.int .i64 0) rfl; have z1 := cell_in hz.out 1 (.int .i64 0) rfl; have z2 := cell_in hz.out 2 (.int .i64 0) rfl; have z3 := cell_in hz.out 3 (.slice none 0 0) rfl; have f0 := free_in hz.out 0; have f1 := free_in hz.out 1; have f2 := free_in hz.out 2; have f3 := free_in hz.out 3)
    have hq := set4_at hz.out (.int .i64 0) (.int .i64 0) (.int .i64 0) (.slice none 0 0)
    have q0 := cell_in hq 0 (.int .i64 0) rfl
    have q1 := cell_in hq 1 (.int .i64 0) rfl
    have q2 := cell_in hq 2 (.int .i64 0) rfl
    have q3 := cell_in hq 3 (.slice none 0 0) rfl
    have hbw := below_next HB.out hb1
    refine bodyPost_ret (v := .tuple #[.agg #[.int .i64 0, .int .i64 0, .int .i64 0, .slice none 0 0], .int .i64 2]) (by simp [results, Try.results31, go_sem, q0, q1, q2, q3]) rfl (givesE_zero HY.out ?_)
    exact (((hbw.setCell (by simp) _).setCell (by simp) _).setCell (by simp) _).setCell (by simp) _

/-- the end of a call that returns a zero term and an error behind its result's block -/
theorem ends_zero {w w1 : World} {x : Int} {y : Tm × Int} (hy : y = (Tm.zero, x)) (hb : Below w.heap.size w w1) : GivesE w y (.returned (.tuple #[.agg #[.int .i64 0, .int .i64 0, .int .i64 0, .slice none 0 0], .int .i64 x]))
    ((((w1.setCell ⟨w.heap.size + 1, 0, none⟩ (.int .i64 0)).setCell ⟨w.heap.size + 1, 1, none⟩ (.int .i64 0)).setCell ⟨w.heap.size + 1, 2, none⟩ (.int .i64 0)).setCell ⟨w.heap.size + 1, 3, none⟩ (.slice none 0 0)) :=
  givesE_zero hy ((((hb.setCell (by simp) _).setCell (by simp) _).setCell (by simp) _).setCell (by simp) _)

set_option maxHeartbeats 4000000 in
set_option maxRecDepth 100000 in
theorem shiftR_low (o h n d fr : Int) (v : Value) (l : List Tm) (w : World) (hv : Lies w (fun _ => True) v l) (hp : Tm.proper (.mk o h n l) = true) (hd0 : -9999 ≤ d) (hd1 : d < 0) (hf0 : 0 ≤ fr) (hf1 : fr ≤ 9999)
    (hlow : Tm.low fr (fr - d - 1) (.mk o h n l) = true) :
    Calls Try.prog 31 #[.agg #[.int .i64 o, .int .i64 h, .int .i64 n, v], .int .i64 d, .int .i64 fr] w (GivesE w (Tm.zero, 27)) := by
  obtain ⟨a2, n2, m2, rfl⟩ := hv.isSlice
  have h6 := Tm.proper_sz hp
  have HT := Lib.hid (two_blocks w #[.int .i64 o, .int .i64 h, .int .i64 n, .slice a2 n2 m2] #[.int .i64 0, .int .i64 0, .int .i64 0, .slice none 0 0] 24 24)
  have HB := Lib.hid (two_below w (.cells #[.int .i64 o, .int .i64 h, .int .i64 n, .slice a2 n2 m2] 24) (.cells #[.int .i64 0, .int .i64 0, .int .i64 0, .slice none 0 0] 24))
  have call := proper_any _ o h n _ l _ (hv.keep HB.out)
  have call2 := fun w1 hb => low_calls _ _ o h n fr (fr - d - 1) _ l w1 (Nat.le_refl _) hf0 (by omega) (by omega) (by omega) (hv.keep (w' := w1) hb)
  rw [hp] at call
  rw [hlow] at call2
  clear hp hlow hv
  go_enter Try.func31, Try.ntmps31
  go_wp2_with fail
  refine call.mono ?_
  rintro e w1 ⟨rfl, hb1⟩
  have hx := Lib.hid (heap_kept hb1 HT.out.1)
  have hz := Lib.hid (heap_kept hb1 HT.out.2)
  have x0 := cell_in hx.out 0 (.int .i64 o) rfl
  have x1 := cell_in hx.out 1 (.int .i64 h) rfl
  have x2 := cell_in hx.out 2 (.int .i64 n) rfl
  have x3 := cell_in hx.out 3 (.slice a2 n2 m2) rfl
  have B1 := below_next HB.out hb1
  go_wp2_with fail
  refine (call2 _ B1).mono ?_
  rintro e w2 ⟨rfl, hb2⟩
  have hz2 := Lib.hid (heap_kept hb2 hz.out)
  have z0 := cell_in hz2.out 0 (.int .i64 0) rfl
  have z1 := cell_in hz2.out 1 (.int .i64 0) rfl
  have z2 := cell_in hz2.out 2 (.int .i64 0) rfl
  have z3 := cell_in hz2.out 3 (.slice none 0 0) rfl
  have f0 := free_in hz2.out 0
  have f1 := free_in hz2.out 1
  have f2 := free_in hz2.out 2
  have f3 := free_in hz2.out 3
  go_wp2
  have hq := set4_at hz2.out (.int .i64 0) (.int .i64 0) (.int .i64 0) (.slice none 0 0)
  have q0 := cell_in hq 0 (.int .i64 0) rfl
  have q1 := cell_in hq 1 (.int .i64 0) rfl
  have q2 := cell_in hq 2 (.int .i64 0) rfl
  have q3 := cell_in hq 3 (.slice none 0 0) rfl
  exact bodyPost_ret (v := .tuple #[.agg #[.int .i64 0, .int .i64 0, .int .i64 0, .slice none 0 0], .int .i64 27]) (by simp [results, Try.results31, go_sem, q0, q1, q2, q3]) rfl (ends_zero rfl (below_next B1 hb2))

set_option maxHeartbeats 4000000 in
set_option maxRecDepth 100000 in
theorem shiftR_go (o h n d fr : Int) (v : Value) (l : List Tm) (w : World) (hv : Lies w (fun _ => True) v l) (hp : Tm.proper (.mk o h n l) = true) (hd0 : -9999 ≤ d) (hd1 : d ≤ 9999) (hf0 : 0 ≤ fr) (hf1 : fr ≤ 9999)
    (hlow : 0 ≤ d ∨ (d < 0 ∧ Tm.low fr (fr - d - 1) (.mk o h n l) = false)) :
    Calls Try.prog 31 #[.agg #[.int .i64 o, .int .i64 h, .int .i64 n, v], .int .i64 d, .int .i64 fr] w (GivesE w (if Tm.proper (Tm.moved d fr (.mk o h n l)) then (Tm.moved d fr (.mk o h n l), 0) else (Tm.zero, 5))) := by
  obtain ⟨a2, n2, m2, rfl⟩ := hv.isSlice
  have h6 := Tm.proper_sz hp
  have hnum : Tm.nums (.mk o h n l) = true := by
    have hp' := hp
    unfold Tm.proper at hp'
    simp only [Bool.and_eq_true] at hp'
    exact Tm.nums_of_formed _ 1 hp'.2
  have HT := Lib.hid (two_blocks w #[.int .i64 o, .int .i64 h, .int .i64 n, .slice a2 n2 m2] #[.int .i64 0, .int .i64 0, .int .i64 0, .slice none 0 0] 24 24)
  have HB := Lib.hid (two_below w (.cells #[.int .i64 o, .int .i64 h, .int .i64 n, .slice a2 n2 m2] 24) (.cells #[.int .i64 0, .int .i64 0, .int .i64 0, .slice none 0 0] 24))
  have call := proper_any _ o h n _ l _ (hv.keep HB.out)
  have call3 := fun w1 hb => moved_calls _ d hd0 hd1 _ o h n fr _ l w1 (Nat.le_refl _) h6 hnum hf0 (by omega) (hv.keep (w' := w1) hb)
  rw [hp] at call
  obtain ⟨t', ht'⟩ : ∃ t', t' = Tm.moved d fr (.mk o h n l) := ⟨_, rfl⟩
  rw [← ht'] at call3
  rw [← ht']
  obtain ⟨y, hy⟩ : ∃ y, y = (if Tm.proper t' then (t', (0 : Int)) else (Tm.zero, 5)) := ⟨_, rfl⟩
  rw [← hy]
  have HY := Lib.hid hy
  have HV := Lib.hid hv
  clear hp hv hnum ht' hy
  rcases hlow with hlow | ⟨hlow, hl2⟩
  · go_enter Try.func31, Try.ntmps31
    go_wp2_with fail
    refine call.mono ?_
    rintro e w1 ⟨rfl, hb1⟩
    have hx := Lib.hid (heap_kept hb1 HT.out.1)
    have hz := Lib.hid (heap_kept hb1 HT.out.2)
    have x0 := cell_in hx.out 0 (.int .i64 o) rfl
    have x1 := cell_in hx.out 1 (.int .i64 h) rfl
    have x2 := cell_in hx.out 2 (.int .i64 n) rfl
    have x3 := cell_in hx.out 3 (.slice a2 n2 m2) rfl
    have B1 := below_next HB.out hb1
    go_wp2_with fail
    refine (call3 _ B1).mono ?_
    rintro e w3 ⟨v3, rfl, hb3, hl3⟩
    obtain ⟨a4, n4, m4, rfl⟩ := hl3.isSlice
    have hbz := (Below.refl w3.heap.size w3).alloc (Nat.le_refl _) (.cells #[.int .i64 t'.op, .int .i64 t'.hd, .int .i64 t'.n, .slice a4 n4 m4] 24)
    have B3 := below_next (below_next B1 hb3) hbz
    have hl4 := Lib.hid (hl3.keep hbz)
    have call4 := proper_any _ t'.op t'.hd t'.n _ t'.args _ hl4.out
    have hte : Tm.mk t'.op t'.hd t'.n t'.args = t' := by cases t'; rfl
    rw [hte] at call4
    have hres := Lib.hid (heap_kept hbz (heap_kept hb3 hz.out))
    have hnew := Lib.hid (heap_alloc_new w3 (.cells #[.int .i64 t'.op, .int .i64 t'.hd, .int .i64 t'.n, .slice a4 n4 m4] 24))
    have hs3 : w1.heap.size ≤ w3.heap.size := hb3.size
    have hs1 : w.heap.size + 1 < w1.heap.size := lt_of_block hz.out
    clear hte x0 x1 x2 x3 hl3
    go_wp2_with fail
    rcases hpt : Tm.proper t' with _ | _
    · rw [hpt] at call4
      have hyy : y = (Tm.zero, 5) := by rw [HY.out, hpt]; rfl
      have HYY := Lib.hid hyy
      clear hpt hyy
      refine call4.mono ?_
      rintro e w4 ⟨rfl, hb4⟩
      have hr4 := Lib.hid (heap_kept hb4 hres.out)
      have z0 := cell_in hr4.out 0 (.int .i64 0) rfl
      have z1 := cell_in hr4.out 1 (.int .i64 0) rfl
      have z2 := cell_in hr4.out 2 (.int .i64 0) rfl
      have z3 := cell_in hr4.out 3 (.slice none 0 0) rfl
      have f0 := free_in hr4.out 0
      have f1 := free_in hr4.out 1
      have f2 := free_in hr4.out 2
      have f3 := free_in hr4.out 3
      go_wp2
      have hq := set4_at hr4.out (.int .i64 0) (.int .i64 0) (.int .i64 0) (.slice none 0 0)
      have q0 := cell_in hq 0 (.int .i64 0) rfl
      have q1 := cell_in hq 1 (.int .i64 0) rfl
      have q2 := cell_in hq 2 (.int .i64 0) rfl
      have q3 := cell_in hq 3 (.slice none 0 0) rfl
      exact bodyPost_ret (v := .tuple #[.agg #[.int .i64 0, .int .i64 0, .int .i64 0, .slice none 0 0], .int .i64 5]) (by simp [results, Try.results31, go_sem, q0, q1, q2, q3]) rfl (ends_zero HYY.out (below_next B3 hb4))
    · rw [hpt] at call4
      have hyy : y = (t', 0) := by rw [HY.out, hpt]; rfl
      have HYY := Lib.hid hyy
      clear hpt hyy
      refine call4.mono ?_
      rintro e w4 ⟨rfl, hb4⟩
      have hr4 := Lib.hid (heap_kept hb4 hres.out)
      have hn4 := Lib.hid (heap_kept hb4 hnew.out)
      have z0 := cell_in hr4.out 0 (.int .i64 0) rfl
      have z1 := cell_in hr4.out 1 (.int .i64 0) rfl
      have z2 := cell_in hr4.out 2 (.int .i64 0) rfl
      have z3 := cell_in hr4.out 3 (.slice none 0 0) rfl
      have f0 := free_in hr4.out 0
      have f1 := free_in hr4.out 1
      have f2 := free_in hr4.out 2
      have f3 := free_in hr4.out 3
      have m0 := cell_in hn4.out 0 (.int .i64 t'.op) rfl
      have m1 := cell_in hn4.out 1 (.int .i64 t'.hd) rfl
      have m2' := cell_in hn4.out 2 (.int .i64 t'.n) rfl
      have m3 := cell_in hn4.out 3 (.slice a4 n4 m4) rfl
      go_wp2
      have hq := set4_at hr4.out (.int .i64 t'.op) (.int .i64 t'.hd) (.int .i64 t'.n) (.slice a4 n4 m4)
      have q0 := cell_in hq 0 (.int .i64 t'.op) rfl
      have q1 := cell_in hq 1 (.int .i64 t'.hd) rfl
      have q2 := cell_in hq 2 (.int .i64 t'.n) rfl
      have q3 := cell_in hq 3 (.slice a4 n4 m4) rfl
      refine bodyPost_ret (v := .tuple #[.agg #[.int .i64 t'.op, .int .i64 t'.hd, .int .i64 t'.n, .slice a4 n4 m4], .int .i64 0]) (by simp [results, Try.results31, go_sem, q0, q1, q2, q3]) rfl ?_
      rw [HYY.out]
      refine ⟨_, rfl, ((((below_next B3 hb4).setCell (by simp) _).setCell (by simp) _).setCell (by simp) _).setCell (by simp) _, ?_⟩
      exact ((hl4.out.keep hb4).still fun j hS _ => heap_set4 _ _ _ _ (by show j ≠ w.heap.size + 1; omega) (by show j ≠ w.heap.size + 1; omega) (by show j ≠ w.heap.size + 1; omega) (by show j ≠ w.heap.size + 1; omega)).more fun j _ hS => by omega
  · have call2 := fun w1 hb => low_calls _ _ o h n fr (fr - d - 1) _ l w1 (Nat.le_refl _) hf0 (by omega) (by omega) (by omega) (HV.out.keep (w' := w1) hb)
    rw [hl2] at call2
    clear hl2
    go_enter Try.func31, Try.ntmps31
    go_wp2_with fail
    refine call.mono ?_
    rintro e w0 ⟨rfl, hb0⟩
    have hx0 := Lib.hid (heap_kept hb0 HT.out.1)
    have hz0 := Lib.hid (heap_kept hb0 HT.out.2)
    have u0 := cell_in hx0.out 0 (.int .i64 o) rfl
    have u1 := cell_in hx0.out 1 (.int .i64 h) rfl
    have u2 := cell_in hx0.out 2 (.int .i64 n) rfl
    have u3 := cell_in hx0.out 3 (.slice a2 n2 m2) rfl
    have B0 := below_next HB.out hb0
    go_wp2_with fail
    refine (call2 _ B0).mono ?_
    rintro e w1 ⟨rfl, hb1⟩
    have hx := Lib.hid (heap_kept hb1 hx0.out)
    have hz := Lib.hid (heap_kept hb1 hz0.out)
    have x0 := cell_in hx.out 0 (.int .i64 o) rfl
    have x1 := cell_in hx.out 1 (.int .i64 h) rfl
    have x2 := cell_in hx.out 2 (.int .i64 n) rfl
    have x3 := cell_in hx.out 3 (.slice a2 n2 m2) rfl
    have B1 := below_next B0 hb1
    clear u0 u1 u2 u3
    go_wp2_with fail
    refine (call3 _ B1).mono ?_
    rintro e w3 ⟨v3, rfl, hb3, hl3⟩
    obtain ⟨a4, n4, m4, rfl⟩ := hl3.isSlice
    have hbz := (Below.refl w3.heap.size w3).alloc (Nat.le_refl _) (.cells #[.int .i64 t'.op, .int .i64 t'.hd, .int .i64 t'.n, .slice a4 n4 m4] 24)
    have B3 := below_next (below_next B1 hb3) hbz
    have hl4 := Lib.hid (hl3.keep hbz)
    have call4 := proper_any _ t'.op t'.hd t'.n _ t'.args _ hl4.out
    have hte : Tm.mk t'.op t'.hd t'.n t'.args = t' := by cases t'; rfl
    rw [hte] at call4
    have hres := Lib.hid (heap_kept hbz (heap_kept hb3 hz.out))
    have hnew := Lib.hid (heap_alloc_new w3 (.cells #[.int .i64 t'.op, .int .i64 t'.hd, .int .i64 t'.n, .slice a4 n4 m4] 24))
    have hs3 : w1.heap.size ≤ w3.heap.size := hb3.size
    have hs1 : w.heap.size + 1 < w1.heap.size := lt_of_block hz.out
    clear hte x0 x1 x2 x3 hl3
    go_wp2_with fail
    rcases hpt : Tm.proper t' with _ | _
    · rw [hpt] at call4
      have hyy : y = (Tm.zero, 5) := by rw [HY.out, hpt]; rfl
      have HYY := Lib.hid hyy
      clear hpt hyy
      refine call4.mono ?_
      rintro e w4 ⟨rfl, hb4⟩
      have hr4 := Lib.hid (heap_kept hb4 hres.out)
      have z0 := cell_in hr4.out 0 (.int .i64 0) rfl
      have z1 := cell_in hr4.out 1 (.int .i64 0) rfl
      have z2 := cell_in hr4.out 2 (.int .i64 0) rfl
      have z3 := cell_in hr4.out 3 (.slice none 0 0) rfl
      have f0 := free_in hr4.out 0
      have f1 := free_in hr4.out 1
      have f2 := free_in hr4.out 2
      have f3 := free_in hr4.out 3
      go_wp2
      have hq := set4_at hr4.out (.int .i64 0) (.int .i64 0) (.int .i64 0) (.slice none 0 0)
      have q0 := cell_in hq 0 (.int .i64 0) rfl
      have q1 := cell_in hq 1 (.int .i64 0) rfl
      have q2 := cell_in hq 2 (.int .i64 0) rfl
      have q3 := cell_in hq 3 (.slice none 0 0) rfl
      exact bodyPost_ret (v := .tuple #[.agg #[.int .i64 0, .int .i64 0, .int .i64 0, .slice none 0 0], .int .i64 5]) (by simp [results, Try.results31, go_sem, q0, q1, q2, q3]) rfl (ends_zero HYY.out (below_next B3 hb4))
    · rw [hpt] at call4
      have hyy : y = (t', 0) := by rw [HY.out, hpt]; rfl
      have HYY := Lib.hid hyy
      clear hpt hyy
      refine call4.mono ?_
      rintro e w4 ⟨rfl, hb4⟩
      have hr4 := Lib.hid (heap_kept hb4 hres.out)
      have hn4 := Lib.hid (heap_kept hb4 hnew.out)
      have z0 := cell_in hr4.out 0 (.int .i64 0) rfl
      have z1 := cell_in hr4.out 1 (.int .i64 0) rfl
      have z2 := cell_in hr4.out 2 (.int .i64 0) rfl
      have z3 := cell_in hr4.out 3 (.slice none 0 0) rfl
      have f0 := free_in hr4.out 0
      have f1 := free_in hr4.out 1
      have f2 := free_in hr4.out 2
      have f3 := free_in hr4.out 3
      have m0 := cell_in hn4.out 0 (.int .i64 t'.op) rfl
      have m1 := cell_in hn4.out 1 (.int .i64 t'.hd) rfl
      have m2' := cell_in hn4.out 2 (.int .i64 t'.n) rfl
      have m3 := cell_in hn4.out 3 (.slice a4 n4 m4) rfl
      go_wp2
      have hq := set4_at hr4.out (.int .i64 t'.op) (.int .i64 t'.hd) (.int .i64 t'.n) (.slice a4 n4 m4)
      have q0 := cell_in hq 0 (.int .i64 t'.op) rfl
      have q1 := cell_in hq 1 (.int .i64 t'.hd) rfl
      have q2 := cell_in hq 2 (.int .i64 t'.n) rfl
      have q3 := cell_in hq 3 (.slice a4 n4 m4) rfl
      refine bodyPost_ret (v := .tuple #[.agg #[.int .i64 t'.op, .int .i64 t'.hd, .int .i64 t'.n, .slice a4 n4 m4], .int .i64 0]) (by simp [results, Try.results31, go_sem, q0, q1, q2, q3]) rfl ?_
      rw [HYY.out]
      refine ⟨_, rfl, ((((below_next B3 hb4).setCell (by simp) _).setCell (by simp) _).setCell (by simp) _).setCell (by simp) _, ?_⟩
      exact ((hl4.out.keep hb4).still fun j hS _ => heap_set4 _ _ _ _ (by show j ≠ w.heap.size + 1; omega) (by show j ≠ w.heap.size + 1; omega) (by show j ≠ w.heap.size + 1; omega) (by show j ≠ w.heap.size + 1; omega)).more fun j _ hS => by omega

/-- The reference's Shift answers shiftRef. -/
theorem shiftR_any (o h n d fr : Int) (v : Value) (l : List Tm) (w : World) (hv : Lies w (fun _ => True) v l) (hd : I64 d) (hf : I64 fr) :
    Calls Try.prog 31 #[.agg #[.int .i64 o, .int .i64 h, .int .i64 n, v], .int .i64 d, .int .i64 fr] w (GivesE w (shiftRef d fr (.mk o h n l))) := by
  rcases e : shiftArgs d fr (.mk o h n l) with _ | _
  · exact shiftR_bad o h n d fr v l w hv e hd hf
  · have e' := e
    simp only [shiftArgs, Bool.and_eq_true, decide_eq_true_eq] at e'
    obtain ⟨⟨⟨⟨hp, hd0⟩, hd1⟩, hf0⟩, hf1⟩ := e'
    by_cases hl : d < 0 ∧ Tm.low fr (fr - d - 1) (.mk o h n l) = true
    · have hy : shiftRef d fr (.mk o h n l) = (Tm.zero, 27) := by unfold shiftRef; rw [e, if_pos rfl, if_pos hl]
      rw [hy]
      exact shiftR_low o h n d fr v l w hv hp hd0 hl.1 hf0 hf1 hl.2
    · have hy : shiftRef d fr (.mk o h n l) = if Tm.proper (Tm.moved d fr (.mk o h n l)) then (Tm.moved d fr (.mk o h n l), 0) else (Tm.zero, 5) := by unfold shiftRef; rw [e, if_pos rfl, if_neg hl]
      rw [hy]
      refine shiftR_go o h n d fr v l w hv hp hd0 hd1 hf0 hf1 ?_
      by_cases h0 : 0 ≤ d
      · exact .inl h0
      · refine .inr ⟨by omega, ?_⟩
        rcases h : Tm.low fr (fr - d - 1) (.mk o h n l) with _ | _
        · rfl
        · exact absurd ⟨by omega, h⟩ hl

end Go.Proofs.Ytieakippgeehgaa
