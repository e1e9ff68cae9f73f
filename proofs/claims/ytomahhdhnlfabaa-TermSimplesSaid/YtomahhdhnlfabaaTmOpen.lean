/- An argument that is a term, or a list of terms, opened: what the row's reading says of it. -/
import Derived.Test.YtomahhdhnlfabaaProg
import Derived.Test.YtomahhdhnlfabaaTmSpec
import Derived.ChangeArms
import Derived.DataReads
import Derived.KernelRfl
import Derived.OpenShut
import Derived.ProofKit
import Derived.Lib.SmallJoins
namespace Go.Proofs.Ytomahhdhnlfabaa
open Go.RowKit
set_option maxRecDepth 100000

section
variable {H : Type} {enc : TypeId × Value → H} {w : World} {base : Nat} {spare : Nat → Bool} {held : Bool}

theorem tm_cells : Try.prog.cellsOf 24 = 4 := by kernel_rfl
theorem tm_cellsI : Try.prog.cellsOf 3 = 1 := by kernel_rfl
theorem tm_cellsS : Try.prog.cellsOf 22 = 1 := by kernel_rfl

/-- what a number that is read is between -/
def I64 (n : Int) : Prop := -9223372036854775808 ≤ n ∧ n ≤ 9223372036854775807
theorem I64.of {n : Int} (h : (Lit.int .i64 n).wf = true) : I64 n := by
  exact bounds_i64 h

def OpenT (w : World) (cs : List Value) : Prop := ∃ (o h n : Int) (v : Value) (l : List Tm), cs = [.int .i64 o, .int .i64 h, .int .i64 n, v] ∧ I64 o ∧ I64 h ∧ I64 n ∧ Lies w (fun _ => True) v l
def OpenL (w : World) (cs : List Value) : Prop := ∃ (v : Value) (l : List Tm), cs = [v] ∧ Lies w (fun _ => True) v l

theorem open_int_cell {fuel : Nat} {c : Value} {x : DataW H × List MemPlace} (h : DataW.trod enc Try.prog w base spare held fuel 3 [c] = some x) : ∃ n, c = .int .i64 n ∧ I64 n := by
  obtain ⟨n, hc, _, hw⟩ := DataW.trod_int Try.underlying3 h
  exact ⟨n, by simpa using hc, I64.of hw⟩

theorem open_tm_step (fuel : Nat) (ih : ∀ (cs : List Value) (x : DataW H × List MemPlace), DataW.trod enc Try.prog w base spare held fuel 22 cs = some x → OpenL w cs)
    (cs : List Value) (x : DataW H × List MemPlace) (h : DataW.trod enc Try.prog w base spare held (fuel + 1) 24 cs = some x) : OpenT w cs := by
  obtain ⟨xs, n, hn, _, hl, hlen, hf⟩ := DataW.trod_struct Try.underlying24 h
  obtain rfl : fuel = n := by omega
  rw [tm_cells] at hl
  match cs, hl with
  | [c0, c1, c2, c3], _ =>
    match xs, hlen with
    | [y0, y1, y2, y3], _ =>
      have h0 : DataW.trod enc Try.prog w base spare held fuel 3 [c0] = some y0 := by simpa [tm_cellsI] using hf 0 _ rfl
      have h1 : DataW.trod enc Try.prog w base spare held fuel 3 [c1] = some y1 := by simpa [tm_cellsI] using hf 1 _ rfl
      have h2 : DataW.trod enc Try.prog w base spare held fuel 3 [c2] = some y2 := by simpa [tm_cellsI] using hf 2 _ rfl
      have h3 : DataW.trod enc Try.prog w base spare held fuel 22 [c3] = some y3 := by simpa [tm_cellsS] using hf 3 _ rfl
      obtain ⟨o, rfl, ro⟩ := open_int_cell h0
      obtain ⟨hd, rfl, rh⟩ := open_int_cell h1
      obtain ⟨n, rfl, rn⟩ := open_int_cell h2
      obtain ⟨v, l, hv, lies⟩ := ih _ _ h3
      exact ⟨o, hd, n, v, l, by simp at hv; rw [hv], ro, rh, rn, lies⟩

theorem open_list_step (fuel : Nat) (ih : ∀ (cs : List Value) (x : DataW H × List MemPlace), DataW.trod enc Try.prog w base spare held fuel 24 cs = some x → OpenT w cs)
    (cs : List Value) (x : DataW H × List MemPlace) (h : DataW.trod enc Try.prog w base spare held (fuel + 1) 22 cs = some x) : OpenL w cs := by
  rcases DataW.trod_slice Try.underlying22 h with ⟨rfl, _⟩ | ⟨a, len, cap, elems, rest, n, hn, rfl, _, _, hl, hm, hlen, hel, _, _⟩
  · exact ⟨_, [], rfl, Lies.nil w _⟩
  · obtain rfl : fuel = n := by omega
    rw [tm_cells] at hel
    have each : ∀ i, ∃ y : Int × Int × Int × Value × List Tm, i < len → (w.cell? (a.add (i * 4)) = some (.int .i64 y.1) ∧ w.cell? ((a.add (i * 4)).add 1) = some (.int .i64 y.2.1) ∧ w.cell? ((a.add (i * 4)).add 2) = some (.int .i64 y.2.2.1) ∧ w.cell? ((a.add (i * 4)).add 3) = some y.2.2.2.1 ∧
        I64 y.1 ∧ I64 y.2.1 ∧ I64 y.2.2.1 ∧ Lies w (fun _ => True) y.2.2.2.1 y.2.2.2.2) := by
      intro i
      by_cases hi : i < len
      · have e := hel i hi
        rw [List.getElem?_eq_getElem (by omega), Option.bind_eq_some_iff] at e
        obtain ⟨cs', hc, ht⟩ := e
        obtain ⟨o, h, n, v, l, rfl, ro, rh, rn, lies⟩ := ih _ _ ht
        obtain ⟨_, _, hat⟩ := World.cells?_some hc
        refine ⟨(o, h, n, v, l), fun _ => ⟨?_, by simpa using hat 1 (by omega), by simpa using hat 2 (by omega), by simpa using hat 3 (by omega), ro, rh, rn, lies⟩⟩
        simpa [Addr.add] using hat 0 (by omega)
      · exact ⟨(0, 0, 0, .slice none 0 0, []), fun h => absurd h hi⟩
    obtain ⟨g, hg⟩ := Classical.axiomOfChoice each
    have spot : 0 < len → a = ⟨a.block, a.off, none⟩ := by
      intro h0
      have e := (hg 0 h0).1
      simp only [Nat.zero_mul, Addr.add, if_true] at e
      obtain ⟨b, off, sp⟩ := a
      unfold World.cell? at e
      simp only at e ⊢
      split at e
      · cases sp with
        | none => rfl
        | some s => simp at e
      · cases e
    have at0 : ∀ i, i < len → ∀ j, ((a.add (i * 4)).add j) = ⟨a.block, a.off + i * 4 + j, none⟩ := by
      intro i hi j
      rw [spot (by omega)]
      unfold Addr.add
      by_cases e1 : i * 4 = 0 <;> by_cases e2 : j = 0 <;> simp [e1, e2]
    refine ⟨_, _, rfl, Lies.row (some a) a.block a.off len cap (fun i => (g i).1) (fun i => (g i).2.1) (fun i => (g i).2.2.1) (fun i => (g i).2.2.2.1) (fun i => (g i).2.2.2.2) (fun h0 => by rw [← spot h0]) (fun _ => trivial) hl hm ?_ ?_ ?_ ?_ (fun i hi => (hg i hi).2.2.2.2.1) (fun i hi => (hg i hi).2.2.2.2.2.1) (fun i hi => (hg i hi).2.2.2.2.2.2.1) (fun i hi => (hg i hi).2.2.2.2.2.2.2)⟩
    · intro i hi
      have e := (hg i hi).1
      have q := at0 i hi 0
      simp only [Addr.add, if_true, Nat.add_zero] at q e
      rw [← q]; exact e
    · intro i hi; rw [← at0 i hi 1]; exact (hg i hi).2.1
    · intro i hi; rw [← at0 i hi 2]; exact (hg i hi).2.2.1
    · intro i hi; rw [← at0 i hi 3]; exact (hg i hi).2.2.2.1

theorem open_both : ∀ fuel : Nat, (∀ (cs : List Value) (x : DataW H × List MemPlace), DataW.trod enc Try.prog w base spare held fuel 24 cs = some x → OpenT w cs) ∧
    (∀ (cs : List Value) (x : DataW H × List MemPlace), DataW.trod enc Try.prog w base spare held fuel 22 cs = some x → OpenL w cs)
  | 0 => ⟨fun _ _ h => by simp [DataW.trod] at h, fun _ _ h => by simp [DataW.trod] at h⟩
  | fuel + 1 => ⟨open_tm_step fuel (open_both fuel).2, open_list_step fuel (open_both fuel).1⟩

open Go.ChangeShapes Go.WideShapes in
/-- a parameter that is a term -/
theorem open_term {r : Reach} {b0 : Nat} {v : Value} {d : DataW H} {p : List MemPlace} (hv : Value.okWide Try.prog w r b0 24 v) (h : DataW.Trod enc Try.prog w base spare held 24 v d p) :
    ∃ (o h n : Int) (s : Value) (l : List Tm), v = .agg #[.int .i64 o, .int .i64 h, .int .i64 n, s] ∧ I64 o ∧ I64 h ∧ I64 n ∧ Lies w (fun _ => True) s l := by
  obtain ⟨cs, rfl, hsz⟩ := okWide_struct Try.underlying24 hv
  obtain ⟨fuel, hf⟩ := h
  obtain ⟨o, h, n, s, l, hc, r⟩ := (open_both fuel).1 _ _ hf
  refine ⟨o, h, n, s, l, ?_, r⟩
  have e : cs.toList = [.int .i64 o, .int .i64 h, .int .i64 n, s] := by simpa [Value.cells] using hc
  obtain ⟨cl⟩ := cs
  simp at e
  rw [e]

open Go.ChangeShapes Go.WideShapes in
/-- a parameter that is a list of terms -/
theorem open_terms {r : Reach} {b0 : Nat} {v : Value} {d : DataW H} {p : List MemPlace} (hv : Value.okWide Try.prog w r b0 22 v) (h : DataW.Trod enc Try.prog w base spare held 22 v d p) :
    ∃ l : List Tm, Lies w (fun _ => True) v l := by
  obtain ⟨a0, len, cap, rfl⟩ := okWide_slice Try.underlying22 hv
  obtain ⟨fuel, hf⟩ := h
  obtain ⟨v, l, hc, r⟩ := (open_both fuel).2 _ _ hf
  refine ⟨l, ?_⟩
  simp [Value.cells] at hc
  rw [hc]; exact r

end
end Go.Proofs.Ytomahhdhnlfabaa
