/- A region that draws its order, and whose last operation waits for all others: what is said of the world need hold before that operation alone. Nothing of the program is imported. -/
import Derived.OrdersHeld
import Derived.StillTail
import Derived.Deep.RegionHeld
namespace Go.Proofs.Ytnooeaefldklaaa

section
variable {P : Program} {ops : Array Oper} {st : Oper} {Q : Exit → Act → World → Prop} {md : Region.Mode}

/-- Behind all other operations the last one is run. -/
def lastQ (P : Program) (ops : Array Oper) (Q : Exit → Act → World → Prop) (n : Nat) : Exit → Act → World → Prop
  | .normal, a, w => wpOp P ops Q n (Q .normal) a w
  | e, a, w => Q e a w

theorem lastQ_list {n : Nat} {o : Oper} {a : Act} {w : World} (ho : ops[n]? = some o) (h : wpList P ops Q [o] a w) : lastQ P ops Q n .normal a w := by
  show wpOp P ops Q n (Q .normal) a w
  unfold wpOp
  rw [ho]
  exact h

/-- every guard is one of these operations -/
def guardsB (ops : Array Oper) : Bool := ops.all fun o => match o.guard with | some (g, _) => decide (g < ops.size) | none => true
/-- every operation waits for earlier ones alone -/
def backB (ops : Array Oper) : Bool := (List.range ops.size).all fun j => match ops[j]? with | some o => o.after.all (fun e => decide (e.on < j)) | none => true

theorem backB_spec (h : backB ops = true) {j : Nat} {o : Oper} (ho : ops[j]? = some o) : ∀ e ∈ o.after, e.on < j := by
  intro e he
  have hj : j < ops.size := (Array.getElem?_eq_some_iff.1 ho).1
  have h1 := List.all_eq_true.1 h j (List.mem_range.2 hj)
  rw [ho] at h1
  simpa using (Array.all_eq_true'.1 h1) e he

theorem push_get (i : Nat) (hi : i < ops.size) : (ops.push st)[i]? = ops[i]? := by rw [Array.getElem?_push, if_neg (by omega)]

theorem wanted_push {o : Oper} {i : Nat} (hg : guardsB ops = true) (ho : ops[i]? = some o) (t : Array Value) : Region.wanted o (yielded (ops.push st) t) = Region.wanted o (yielded ops t) := by
  unfold Region.wanted
  cases hgd : o.guard with
  | none => rfl
  | some g =>
    obtain ⟨g, b⟩ := g
    have h1 := (Array.all_eq_true'.1 hg) o (Array.mem_of_getElem? ho)
    rw [hgd] at h1
    have h2 : g < ops.size := by simpa using h1
    simp only [yielded, push_get g h2]

theorem wpOp_push {i : Nat} {K K' : Act → World → Prop} {a : Act} {w : World} (hi : i < ops.size) (hg : guardsB ops = true) (hk : ∀ a w, K' a w → K a w)
    (h : wpOp P ops (lastQ P (ops.push st) Q ops.size) i K' a w) : wpOp P (ops.push st) Q i K a w := by
  unfold wpOp at *
  rw [push_get i hi]
  obtain ⟨o, ho⟩ : ∃ o, ops[i]? = some o := ⟨ops[i], Array.getElem?_eq_getElem hi⟩
  simp only [ho] at h ⊢
  rw [wanted_push hg ho]
  have out : LetsOut (lastQ P (ops.push st) Q ops.size) → LetsOut Q := fun ⟨a, w, h⟩ => ⟨a, w, h⟩
  split
  · rename_i hw
    simp only [hw, if_true] at h
    rcases h with h | ⟨h1, h2⟩
    · refine .inl ?_
      unfold Oper.wp at *
      generalize (execOp a.eval o).run P w = r at *
      cases r with
      | ok n w' =>
        cases n <;> simp only [Oper.upon] at h ⊢
        case value => exact hk _ _ h
        case skip => exact hk _ _ h
        case defer => exact hk _ _ h
        case enter f args =>
          refine Calls.mono h fun e w'' he => ?_
          cases e with
          | returned u => exact hk _ _ he
          | panicked c => exact he
          | outgrown => exact out he
        case row row args => exact Rows.mono h fun u w'' he => hk _ _ he
      | halt x w' => cases x <;> simp only [Oper.upon] at h ⊢ <;> exact h
    · exact .inr ⟨h1, out h2⟩
  · rename_i hw
    simp only [hw] at h
    exact hk _ _ h

theorem getD_push_lt {listed : Array Bool} {i : Nat} (d b : Bool) (hi : i < listed.size) : (listed.push b).getD i d = listed.getD i d := by
  simp [Array.getD, hi, show i < listed.size + 1 by omega, Array.getElem_push_lt hi]

theorem ready_push {listed : Array Bool} (hl : listed.size = ops.size) (hback : backB (ops.push st) = true) {i : Nat} (hi : i < ops.size) :
    i ∈ Region.ready md (ops.push st) (listed.push false) ↔ i ∈ Region.ready md ops listed := by
  rw [mem_ready, mem_ready, push_get i hi, getD_push_lt _ _ (by omega)]
  refine and_congr_right fun _ => exists_congr fun o => and_congr_right fun ho => ?_
  refine forall_congr' fun e => forall_congr' fun he => forall_congr' fun _ => ?_
  have := backB_spec hback (j := i) (o := o) (by rw [push_get i hi]; exact ho) e he
  rw [getD_push_lt _ _ (by omega)]

theorem set_push_lt {listed : Array Bool} {i : Nat} (hi : i < listed.size) : (listed.push false).setIfInBounds i true = (listed.setIfInBounds i true).push false := by
  obtain ⟨l⟩ := listed
  simp only [List.push_toArray, List.setIfInBounds_toArray, List.size_toArray] at hi ⊢
  rw [List.set_append, if_pos hi]

theorem all_listed {listed : Array Bool} (hl : listed.size = ops.size) (hback : backB (ops.push st) = true) (hr : Region.ready md ops listed = []) : ∀ i, i < ops.size → listed.getD i true = true := by
  intro i
  induction i using Nat.strongRecOn with
  | _ i ih =>
    intro hi
    cases hc : listed.getD i true with
    | true => rfl
    | false =>
      exfalso
      have : i ∈ Region.ready md ops listed := by
        rw [mem_ready]
        refine ⟨hc, ops[i], Array.getElem?_eq_getElem hi, fun e he _ => ?_⟩
        have h1 := backB_spec hback (j := i) (o := ops[i]) (by rw [push_get i hi]; exact Array.getElem?_eq_getElem hi) e he
        have h2 := ih e.on h1 (by omega)
        simp [Array.getD, show e.on < listed.size by omega] at h2 ⊢
        exact h2
      rw [hr] at this
      cases this

theorem wpAny_last (hg : guardsB ops = true) (hback : backB (ops.push st) = true) (hs : Region.sinkB md (ops.push st) ops.size = true) (hc : Region.chainB md (ops.push st) ops.size = true) :
    ∀ (f : Nat) (listed : Array Bool) (a : Act) (w : World), listed.size = ops.size → HeadInv md (ops.push st) ops.size (listed.push false) →
      wpAny P md ops (lastQ P (ops.push st) Q ops.size) f listed a w → wpAny P md (ops.push st) Q (f + 1) (listed.push false) a w := by
  have final : ∀ (f : Nat) (listed : Array Bool) (a : Act) (w : World), listed.size = ops.size → Region.ready md ops listed = [] → lastQ P (ops.push st) Q ops.size .normal a w → wpAny P md (ops.push st) Q (f + 1) (listed.push false) a w := by
    intro f listed a w hl hr h
    have hall := all_listed hl hback hr
    have hn : ops.size ∈ Region.ready md (ops.push st) (listed.push false) := by
      rw [mem_ready]
      refine ⟨by rw [← hl]; simp [Array.getD], st, by simp, fun e he _ => ?_⟩
      have h1 := backB_spec hback (j := ops.size) (o := st) (by simp) e he
      have h2 := hall e.on h1
      rw [getD_push_lt _ _ (by omega)]
      simp [Array.getD, show e.on < listed.size by omega] at h2 ⊢
      exact h2
    refine ⟨(fun h0 => by rw [h0] at hn; cases hn), fun i hi => ?_⟩
    by_cases hin : i < ops.size
    · rw [ready_push hl hback hin, hr] at hi; cases hi
    · have hin' : i = ops.size := by
        obtain ⟨_, o, ho, _⟩ := mem_ready.1 hi
        have := (Array.getElem?_eq_some_iff.1 ho).1
        simp at this; omega
      subst hin'
      have done : Region.ready md (ops.push st) ((listed.push false).setIfInBounds ops.size true) = [] := by
        apply List.eq_nil_iff_forall_not_mem.2
        intro j hj
        obtain ⟨h1, o, ho, _⟩ := mem_ready.1 hj
        have hj2 := (Array.getElem?_eq_some_iff.1 ho).1
        simp only [Array.size_push] at hj2
        by_cases hjn : j = ops.size
        · subst hjn
          simp [Array.getD, hl] at h1
        · have h3 := hall j (by omega)
          rw [getD_set_ne true (by omega), getD_push_lt _ _ (by omega), h3] at h1
          cases h1
      refine wpOp_mono (fun a' w' hq => ?_) h
      cases f with
      | zero => exact ⟨done, hq⟩
      | succ f => exact ⟨fun _ => hq, by rw [done]; simp⟩
  intro f
  induction f with
  | zero => intro listed a w hl _ h; exact final 0 listed a w hl h.1 h.2
  | succ f ih =>
    intro listed a w hl inv h
    by_cases hr : Region.ready md ops listed = []
    · exact final _ listed a w hl hr (h.1 hr)
    · have hx : ∃ i0, i0 < ops.size ∧ i0 ∈ Region.ready md ops listed := by
        obtain ⟨i0, hi0⟩ := List.exists_mem_of_ne_nil _ hr
        obtain ⟨_, o, ho, _⟩ := mem_ready.1 hi0
        exact ⟨i0, (Array.getElem?_eq_some_iff.1 ho).1, hi0⟩
      obtain ⟨i0, hi0, hm0⟩ := hx
      refine ⟨(fun h0 => by rw [← ready_push hl hback hi0, h0] at hm0; cases hm0), fun i hi => ?_⟩
      by_cases hin : i < ops.size
      · refine wpOp_push hin hg (fun a' w' hk => ?_) (h.2 i ((ready_push hl hback hin).1 hi))
        have e := set_push_lt (listed := listed) (i := i) (by omega)
        rw [e]
        exact ih _ _ _ (by simp [hl]) (by rw [← e]; exact inv.set hi hin) hk
      · exfalso
        have hu : (listed.push false).getD i0 true = false := (mem_ready.1 ((ready_push hl hback hi0).2 hm0)).1
        exact tail_waits hs hc (by simp) inv (ops.size - i0) i0 rfl hi0 hu i (by omega) hi

/-- THE BEGINNING: the region without its last operation, under S; behind it the last one. -/
theorem wp_region_last {S : World → Prop} {id : Nat} {all : Array Oper} {a : Act} {w : World} (hm : P.follows .mixedOrders = true) (he : all = ops.push st) (hg : guardsB ops = true) (hback : backB all = true)
    (hs : Region.sinkB .any all ops.size = true) (hc : Region.chainB .any all ops.size = true) (hS : S w.drew)
    (h : S w.drew → wpAnyH P .any ops (lastQ P all Q ops.size) S ops.size (Array.replicate ops.size false) a w.drew) : (Code.region id all true).wp P Q a w := by
  subst he
  refine wp_region_any hm ?_
  have e : Array.replicate (ops.push st).size false = (Array.replicate ops.size false).push false := by simp [Array.replicate_succ]
  rw [e, Array.size_push]
  refine wpAny_last hg hback hs hc ops.size _ a _ (by simp) ⟨by simp, fun j oj _ hl => ?_, fun t ht ht' => ?_⟩ (wpAny_of_held _ _ _ _ (h hS))
  · exfalso
    rw [← e, getD_replicate_false] at hl
    cases hl
  · simp only [Array.size_push] at ht'
    obtain rfl : t = ops.size := by omega
    simp [Array.getD, Array.getElem_push]

theorem wp_region_last_of {S : World → Prop} {id : Nat} {all : Array Oper} {a : Act} {w : World} (hm : P.follows .mixedOrders = true) (he : all.pop = ops) (hl : all.back? = some st) (hg : guardsB ops = true) (hback : backB all = true)
    (hs : Region.sinkB .any all ops.size = true) (hc : Region.chainB .any all ops.size = true) (hS : S w.drew)
    (h : S w.drew → wpAnyH P .any ops (lastQ P all Q ops.size) S ops.size (Array.replicate ops.size false) a w.drew) : (Code.region id all true).wp P Q a w := by
  have e : all = ops.push st := by
    subst he
    obtain ⟨l⟩ := all
    simp only [List.back?_toArray] at hl
    simp only [List.pop_toArray, List.push_toArray]
    congr 1
    rw [List.getLast?_eq_some_iff] at hl
    obtain ⟨ys, rfl⟩ := hl
    simp
  exact wp_region_last hm e hg hback hs hc hS h

end
end Go.Proofs.Ytnooeaefldklaaa
