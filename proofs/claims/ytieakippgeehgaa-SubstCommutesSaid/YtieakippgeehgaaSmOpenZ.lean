/- An argument that is a simple type, opened, with what its size is at most: the bulk of its reading. -/
import Derived.Test.YtieakippgeehgaaTmOpenZ
import Derived.Test.YtieakippgeehgaaSmGa
namespace Go.Proofs.Ytieakippgeehgaa.Sp
open Go.RowKit
set_option maxRecDepth 100000
set_option linter.unusedSimpArgs false
set_option linter.unusedVariables false

section
variable {H : Type} {enc : TypeId × Value → H} {w : World} {base : Nat} {spare : Nat → Bool} {held : Bool}

theorem szL_bulk : ∀ (l : List Tm) (ds : List (DataW H)), l.length = ds.length → (∀ i (h : i < l.length) (h' : i < ds.length), Tm.sz l[i] ≤ Rows.uptoBulk ds[i]) → Tm.szL l ≤ Rows.uptoBulkAll ds
  | [], [], _, _ => by simp [Tm.szL]
  | t :: l, d :: ds, h, hi => by
    have h0 := hi 0 (by simp) (by simp)
    have hr := szL_bulk l ds (by simpa using h) (fun i h h' => hi (i + 1) (Nat.succ_lt_succ h) (Nat.succ_lt_succ h'))
    simp only [Tm.szL, Rows.uptoBulkAll]
    simp only [List.getElem_cons_zero] at h0
    omega
  | [], _ :: _, h, _ => by simp at h
  | _ :: _, [], h, _ => by simp at h

theorem sm_cells : Try.prog.cellsOf 27 = 2 := by kernel_rfl
theorem sm_cellsS : Try.prog.cellsOf 25 = 1 := by kernel_rfl

def OpenZT (w : World) (cs : List Value) (d : DataW H) : Prop := ∃ (n : Int) (v : Value) (l : List Tm), cs = [v, .int .i64 n] ∧ I64 n ∧ Lies w (fun _ => True) v l ∧ Tm.sz (.mk n l) ≤ Rows.uptoBulk d
def OpenZL (w : World) (cs : List Value) (d : DataW H) : Prop := ∃ (v : Value) (l : List Tm), cs = [v] ∧ Lies w (fun _ => True) v l ∧ Tm.szL l + 1 ≤ Rows.uptoBulk d

theorem openZ_t_step (fuel : Nat) (ih : ∀ (cs : List Value) (x : DataW H × List MemPlace), DataW.trod enc Try.prog w base spare held fuel 25 cs = some x → OpenZL w cs x.1)
    (cs : List Value) (x : DataW H × List MemPlace) (h : DataW.trod enc Try.prog w base spare held (fuel + 1) 27 cs = some x) : OpenZT w cs x.1 := by
  obtain ⟨xs, n, hn, hx, hl, hlen, hf⟩ := DataW.trod_struct Try.underlying27 h
  obtain rfl : fuel = n := by omega
  rw [sm_cells] at hl
  match cs, hl with
  | [c0, c1], _ =>
    match xs, hlen with
    | [y0, y1], _ =>
      have h0 : DataW.trod enc Try.prog w base spare held fuel 25 [c0] = some y0 := by simpa [sm_cellsS] using hf 0 _ rfl
      have h1 : DataW.trod enc Try.prog w base spare held fuel 3 [c1] = some y1 := by simpa [tm_cellsI] using hf 1 _ rfl
      obtain ⟨n, rfl, rn⟩ := open_int_cell h1
      obtain ⟨v, l, hv, lies, hb⟩ := ih _ _ h0
      refine ⟨n, v, l, by simp at hv; rw [hv], rn, lies, ?_⟩
      subst hx
      simp only [List.map_cons, List.map_nil, Rows.uptoBulk, Rows.uptoBulkAll, Tm.sz]
      omega

theorem openZ_l_step (fuel : Nat) (ih : ∀ (cs : List Value) (x : DataW H × List MemPlace), DataW.trod enc Try.prog w base spare held fuel 27 cs = some x → OpenZT w cs x.1)
    (cs : List Value) (x : DataW H × List MemPlace) (h : DataW.trod enc Try.prog w base spare held (fuel + 1) 25 cs = some x) : OpenZL w cs x.1 := by
  rcases DataW.trod_slice Try.underlying25 h with ⟨rfl, hx⟩ | ⟨a, len, cap, elems, rest, n, hn, rfl, hx, _, hl, hm, hlen, hel, _, _⟩
  · exact ⟨_, [], rfl, Lies.nil w _, by subst hx; simp [Tm.szL, Rows.uptoBulk]⟩
  · obtain rfl : fuel = n := by omega
    rw [sm_cells] at hel
    have each : ∀ i, ∃ y : Int × Value × List Tm, i < len → (w.cell? (a.add (i * 2)) = some y.2.1 ∧ w.cell? ((a.add (i * 2)).add 1) = some (.int .i64 y.1) ∧ I64 y.1 ∧ Lies w (fun _ => True) y.2.1 y.2.2 ∧ (∀ e, elems[i]? = some e → Tm.sz (.mk y.1 y.2.2) ≤ Rows.uptoBulk e.1)) := by
      intro i
      by_cases hi : i < len
      · have e := hel i hi
        rw [List.getElem?_eq_getElem (by omega), Option.bind_eq_some_iff] at e
        obtain ⟨cs', hc, ht⟩ := e
        obtain ⟨n, v, l, rfl, rn, lies, hbz⟩ := ih _ _ ht
        obtain ⟨_, _, hat⟩ := World.cells?_some hc
        refine ⟨(n, v, l), fun _ => ⟨?_, by simpa using hat 1 (by omega), rn, lies, fun e he => ?_⟩⟩
        · simpa [Addr.add] using hat 0 (by omega)
        · rw [List.getElem?_eq_getElem (by omega)] at he
          cases he
          exact hbz
      · exact ⟨(0, .slice none 0 0, []), fun h => absurd h hi⟩
    obtain ⟨g, hg⟩ := Classical.axiomOfChoice each
    have spot : 0 < len → a = ⟨a.block, a.off, none⟩ := by
      intro h0
      have e := (hg 0 h0).1
      simp only [Nat.zero_mul, Addr.add, if_true] at e
      obtain ⟨b, off, sp⟩ := a
      unfold World.cell? at e
      simp only at e ⊢
      split at e
      · cases sp with
        | none => rfl
        | some s => simp at e
      · cases e
    have at0 : ∀ i, i < len → ∀ j, ((a.add (i * 2)).add j) = ⟨a.block, a.off + i * 2 + j, none⟩ := by
      intro i hi j
      rw [spot (by omega)]
      unfold Addr.add
      by_cases e1 : i * 2 = 0 <;> by_cases e2 : j = 0 <;> simp [e1, e2]
    refine ⟨_, _, rfl, Lies.row (some a) a.block a.off len cap (fun i => (g i).1) (fun i => (g i).2.1) (fun i => (g i).2.2) (fun h0 => by rw [← spot h0]) (fun _ => trivial) hl hm ?_ ?_ (fun i hi => (hg i hi).2.2.1) (fun i hi => (hg i hi).2.2.2.1), ?_⟩
    · intro i hi
      have e := (hg i hi).1
      have q := at0 i hi 0
      simp only [Addr.add, if_true, Nat.add_zero] at q e
      rw [← q]; exact e
    · intro i hi; rw [← at0 i hi 1]; exact (hg i hi).2.1
    · subst hx
      simp only [Rows.uptoBulk]
      have := szL_bulk ((List.range len).map fun i => .mk (g i).1 (g i).2.2) (elems.map (·.1)) (by simp [hlen]) (fun i h h' => by
        have hi : i < len := by simpa using h
        have := (hg i hi).2.2.2.2 elems[i] (List.getElem?_eq_getElem (by omega))
        simpa using this)
      omega

theorem openZ_both : ∀ fuel : Nat, (∀ (cs : List Value) (x : DataW H × List MemPlace), DataW.trod enc Try.prog w base spare held fuel 27 cs = some x → OpenZT w cs x.1) ∧
    (∀ (cs : List Value) (x : DataW H × List MemPlace), DataW.trod enc Try.prog w base spare held fuel 25 cs = some x → OpenZL w cs x.1)
  | 0 => ⟨fun _ _ h => by simp [DataW.trod] at h, fun _ _ h => by simp [DataW.trod] at h⟩
  | fuel + 1 => ⟨openZ_t_step fuel (openZ_both fuel).2, openZ_l_step fuel (openZ_both fuel).1⟩
end
end Go.Proofs.Ytieakippgeehgaa.Sp
