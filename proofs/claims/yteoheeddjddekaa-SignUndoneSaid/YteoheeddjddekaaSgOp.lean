/- A parameter that is a list of constants, opened: what it reads as, and that its strings are within the reach. -/
import Derived.Test.YteoheeddjddekaaL5c
import Derived.SizedLaws
namespace Go.Proofs.Yteoheeddjddekaa
open Go.RowKit
set_option maxRecDepth 100000
set_option linter.unusedSimpArgs false
set_option linter.unusedVariables false

section
variable {H : Type} {enc : TypeId × Value → H} {w : World} {base : Nat} {spare : Nat → Bool} {held : Bool}
theorem dc_cells : Try.prog.cellsOf 40 = 6 := by kernel_rfl
theorem dc_cellsStr : Try.prog.cellsOf 9 = 1 := by kernel_rfl

theorem all_app {a b : List Nat} (h : (a ++ b).all (· ≤ reachBytes) = true) : a.all (· ≤ reachBytes) = true ∧ b.all (· ≤ reachBytes) = true := by
  rw [List.all_append, Bool.and_eq_true] at h; exact h

/-- a constant that is read -/
def OpenDc (w : World) (cs : List Value) : Prop := ∃ (nm : ByteArray) (o h n : Int) (v : Value) (l : List Tm) (im : Int), cs = [.string nm, .int .i64 o, .int .i64 h, .int .i64 n, v, .int .i64 im] ∧ nm.size ≤ 140737488351232 ∧ I64 o ∧ I64 h ∧ I64 n ∧ I64 im ∧ Lies w (fun _ => True) v l

theorem open_decl (fuel : Nat) (cs : List Value) (x : DataW H × List MemPlace) (h : DataW.trod enc Try.prog w base spare held fuel 40 cs = some x) (hw : (x.1.weights Try.prog 40).all (· ≤ reachBytes) = true) : OpenDc w cs := by
  obtain ⟨xs, n, hn, hx, hl, hlen, hf⟩ := DataW.trod_struct Try.underlying40 h
  rw [dc_cells] at hl
  match cs, hl with
  | [c0, c1, c2, c3, c4, c5], _ =>
    match xs, hlen with
    | [y0, y1, y2], _ =>
      have h0 : DataW.trod enc Try.prog w base spare held n 9 [c0] = some y0 := by simpa [dc_cellsStr] using hf 0 _ rfl
      have h1 : DataW.trod enc Try.prog w base spare held n 25 [c1, c2, c3, c4] = some y1 := by simpa [tm_cells] using hf 1 _ rfl
      have h2 : DataW.trod enc Try.prog w base spare held n 3 [c5] = some y2 := by simpa [tm_cellsI] using hf 2 _ rfl
      obtain ⟨nm, hc, hy, _⟩ := DataW.trod_string Try.underlying9 h0
      obtain ⟨o, hd, k, v, l, hc1, ro, rh, rk, lies⟩ := (open_both n).1 _ _ h1
      obtain ⟨im, hc2, ri⟩ := open_int_cell h2
      subst hx
      have hsz : nm.size ≤ 140737488351232 := by
        rw [show (DataW.agg ([y0, y1, y2].map (·.1)) : DataW H).weights Try.prog 40 = _ from by simp only [DataW.weights, Try.underlying40]; rfl] at hw
        simp only [List.map_cons, List.map_nil] at hw
        have hw0 := (all_app hw).1
        rw [hy] at hw0
        simp only [DataW.weights, List.all_cons, List.all_nil, Bool.and_true, reachBytes] at hw0
        have h9 := of_decide_eq_true hw0
        simpa using h9
      simp only [List.cons.injEq, and_true] at hc hc1
      obtain ⟨rfl, rfl, rfl, rfl⟩ := hc1
      subst hc hc2
      exact ⟨nm, o, hd, k, _, l, im, rfl, hsz, ro, rh, rk, ri, lies⟩

theorem weights_all_get {P : Program} {e : TypeId} : ∀ {ds : List (DataW H)} {i : Nat} {d : DataW H}, (DataW.weightsAll P e ds).all (· ≤ reachBytes) = true → ds[i]? = some d → (d.weights P e).all (· ≤ reachBytes) = true
  | [], _, _, _, h => by simp at h
  | d0 :: ds, 0, d, hw, h => by
    simp only [List.getElem?_cons_zero, Option.some.injEq] at h
    subst h
    simp only [DataW.weightsAll] at hw
    exact (all_app hw).1
  | d0 :: ds, i + 1, d, hw, h => by
    simp only [List.getElem?_cons_succ] at h
    simp only [DataW.weightsAll] at hw
    exact weights_all_get (all_app hw).2 h

theorem open_decls_cells (fuel : Nat) (cs : List Value) (x : DataW H × List MemPlace) (h : DataW.trod enc Try.prog w base spare held fuel 22 cs = some x) (hw : (x.1.weights Try.prog 22).all (· ≤ reachBytes) = true) :
    ∃ (v : Value) (l : List Dc), cs = [v] ∧ DLies w (fun _ => True) v l := by
  rcases DataW.trod_slice Try.underlying22 h with ⟨rfl, _⟩ | ⟨a, len, cap, elems, rest, n, hn, rfl, hx, _, hl, hm, hlen, hel, _, _⟩
  · exact ⟨_, [], rfl, DLies.nil w _⟩
  · rw [dc_cells] at hel
    have hwe : (DataW.weightsAll Try.prog 40 (elems.map (·.1))).all (· ≤ reachBytes) = true := by
      subst hx
      simp only [DataW.weights, Try.underlying22] at hw
      rw [List.all_cons, Bool.and_eq_true] at hw
      exact (all_app hw.2).1
    have each : ∀ i, ∃ y : ByteArray × Int × Int × Int × Value × List Tm × Int, i < len → (w.cell? (a.add (i * 6)) = some (.string y.1) ∧ w.cell? ((a.add (i * 6)).add 1) = some (.int .i64 y.2.1) ∧ w.cell? ((a.add (i * 6)).add 2) = some (.int .i64 y.2.2.1) ∧ w.cell? ((a.add (i * 6)).add 3) = some (.int .i64 y.2.2.2.1) ∧ w.cell? ((a.add (i * 6)).add 4) = some y.2.2.2.2.1 ∧ w.cell? ((a.add (i * 6)).add 5) = some (.int .i64 y.2.2.2.2.2.2) ∧
        y.1.size ≤ 140737488351232 ∧ I64 y.2.1 ∧ I64 y.2.2.1 ∧ I64 y.2.2.2.1 ∧ I64 y.2.2.2.2.2.2 ∧ Lies w (fun _ => True) y.2.2.2.2.1 y.2.2.2.2.2.1) := by
      intro i
      by_cases hi : i < len
      · have e := hel i hi
        rw [List.getElem?_eq_getElem (by omega), Option.bind_eq_some_iff] at e
        obtain ⟨cs', hc, ht⟩ := e
        obtain ⟨nm, o, h, k, v, l, im, rfl, rs, ro, rh, rk, ri, lies⟩ := open_decl _ _ _ ht (weights_all_get (i := i) hwe (by rw [List.getElem?_map, List.getElem?_eq_getElem (by omega)]; rfl))
        obtain ⟨_, _, hat⟩ := World.cells?_some hc
        refine ⟨(nm, o, h, k, v, l, im), fun _ => ⟨?_, by simpa using hat 1 (by omega), by simpa using hat 2 (by omega), by simpa using hat 3 (by omega), by simpa using hat 4 (by omega), by simpa using hat 5 (by omega), rs, ro, rh, rk, ri, lies⟩⟩
        simpa [Addr.add] using hat 0 (by omega)
      · exact ⟨(⟨#[]⟩, 0, 0, 0, .slice none 0 0, [], 0), fun h => absurd h hi⟩
    obtain ⟨g, hg⟩ := Classical.axiomOfChoice each
    have spot : 0 < len → a = ⟨a.block, a.off, none⟩ := by
      intro h0
      have e := (hg 0 h0).1
      simp only [Nat.zero_mul, Addr.add, if_true] at e
      obtain ⟨b, off, sp⟩ := a
      unfold World.cell? at e
      simp only at e ⊢
      split at e
      · cases sp with
        | none => rfl
        | some s => simp at e
      · cases e
    have at0 : ∀ i, i < len → ∀ j, ((a.add (i * 6)).add j) = ⟨a.block, a.off + i * 6 + j, none⟩ := by
      intro i hi j
      rw [spot (by omega)]
      unfold Addr.add
      by_cases e1 : i * 6 = 0 <;> by_cases e2 : j = 0 <;> simp [e1, e2]
    refine ⟨_, (List.range len).map fun i => ⟨(g i).1, .mk (g i).2.1 (g i).2.2.1 (g i).2.2.2.1 (g i).2.2.2.2.2.1, (g i).2.2.2.2.2.2⟩, rfl, some a, a.block, a.off, len, cap, fun i => (g i).1, fun i => (g i).2.1, fun i => (g i).2.2.1, fun i => (g i).2.2.2.1, fun i => (g i).2.2.2.2.1, fun i => (g i).2.2.2.2.2.1, fun i => (g i).2.2.2.2.2.2, rfl,
      ⟨rfl, fun h0 => by rw [← spot h0], fun _ => trivial, hl, by unfold maxLen at hm; exact hm, ?_, ?_, ?_, ?_, ?_, ?_, fun i hi => (hg i hi).2.2.2.2.2.2.1, fun i hi => (hg i hi).2.2.2.2.2.2.2.1, fun i hi => (hg i hi).2.2.2.2.2.2.2.2.1, fun i hi => (hg i hi).2.2.2.2.2.2.2.2.2.1, fun i hi => (hg i hi).2.2.2.2.2.2.2.2.2.2.1, fun i hi => (hg i hi).2.2.2.2.2.2.2.2.2.2.2⟩⟩
    · intro i hi
      have e := (hg i hi).1
      have q := at0 i hi 0
      simp only [Addr.add, if_true, Nat.add_zero] at q e
      rw [← q]; exact e
    · intro i hi; rw [← at0 i hi 1]; exact (hg i hi).2.1
    · intro i hi; rw [← at0 i hi 2]; exact (hg i hi).2.2.1
    · intro i hi; rw [← at0 i hi 3]; exact (hg i hi).2.2.2.1
    · intro i hi; rw [← at0 i hi 4]; exact (hg i hi).2.2.2.2.1
    · intro i hi; rw [← at0 i hi 5]; exact (hg i hi).2.2.2.2.2.1

open Go.ChangeShapes Go.WideShapes in
/-- a parameter that is a list of constants -/
theorem open_decls {r : Reach} {b0 : Nat} {v : Value} {d : DataW H} {p : List MemPlace} (hv : Value.okWide Try.prog w r b0 22 v) (h : DataW.Trod enc Try.prog w base spare held 22 v d p) (hw : (d.weights Try.prog 22).all (· ≤ reachBytes) = true) :
    ∃ l : List Dc, DLies w (fun _ => True) v l := by
  obtain ⟨a0, len, cap, rfl⟩ := okWide_slice Try.underlying22 hv
  obtain ⟨fuel, hf⟩ := h
  obtain ⟨v, l, hc, r⟩ := open_decls_cells fuel _ _ hf hw
  refine ⟨l, ?_⟩
  simp [Value.cells] at hc
  rw [hc]; exact r

open Go.ChangeShapes Go.WideShapes in
/-- a parameter that is a constant -/
theorem open_declV {r : Reach} {b0 : Nat} {v : Value} {d : DataW H} {p : List MemPlace} (hv : Value.okWide Try.prog w r b0 40 v) (h : DataW.Trod enc Try.prog w base spare held 40 v d p) (hw : (d.weights Try.prog 40).all (· ≤ reachBytes) = true) :
    ∃ (dc : Dc) (s : Value), v = dcV dc s ∧ dc.fit ∧ Lies w (fun _ => True) s dc.cl.args := by
  obtain ⟨cs, rfl, hsz⟩ := okWide_struct Try.underlying40 hv
  obtain ⟨fuel, hf⟩ := h
  obtain ⟨nm, o, h, n, s, l, im, hc, rs, ro, rh, rn, ri, lies⟩ := open_decl fuel _ _ hf hw
  refine ⟨⟨nm, .mk o h n l, im⟩, s, ?_, ⟨rs, ⟨ro, rh, rn⟩, ri⟩, lies⟩
  have e : cs.toList = [.string nm, .int .i64 o, .int .i64 h, .int .i64 n, s, .int .i64 im] := by simpa [Value.cells] using hc
  obtain ⟨cl⟩ := cs
  simp at e
  rw [e]; rfl
end
end Go.Proofs.Yteoheeddjddekaa
