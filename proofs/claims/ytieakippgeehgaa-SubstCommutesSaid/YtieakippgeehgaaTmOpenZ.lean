/- An argument that is a term, opened, with what its size is at most: the bulk of its reading. -/
import Derived.Test.YtieakippgeehgaaRows
import Derived.Test.YtieakippgeehgaaTmGb
import Derived.Test.YtieakippgeehgaaTmGa
namespace Go.Proofs.Ytieakippgeehgaa
open Go.RowKit
set_option maxRecDepth 100000
set_option linter.unusedSimpArgs false
set_option linter.unusedVariables false

theorem bulk_one {H : Type} (d : DataW H) : 1 ≤ Rows.uptoBulk d := by
  cases d with
  | lit l => cases l <;> simp [Rows.uptoBulk]
  | nil => simp [Rows.uptoBulk]
  | ptr d => simp [Rows.uptoBulk]
  | slice elems spare => simp [Rows.uptoBulk]
  | agg parts => simp [Rows.uptoBulk]
  | iface t d => simp [Rows.uptoBulk]
  | map entries => simp [Rows.uptoBulk]
  | held h => simp [Rows.uptoBulk]

section
variable {H : Type} {enc : TypeId × Value → H} {w : World} {base : Nat} {spare : Nat → Bool} {held : Bool}

theorem szL_bulk : ∀ (l : List Tm) (ds : List (DataW H)), l.length = ds.length → (∀ i (h : i < l.length) (h' : i < ds.length), Tm.sz l[i] ≤ Rows.uptoBulk ds[i]) → Tm.szL l ≤ Rows.uptoBulkAll ds
  | [], [], _, _ => by simp [Tm.szL]
  | t :: l, d :: ds, h, hi => by
    have h0 := hi 0 (by simp) (by simp)
    have hr := szL_bulk l ds (by simpa using h) (fun i h h' => hi (i + 1) (Nat.succ_lt_succ h) (Nat.succ_lt_succ h'))
    simp only [Tm.szL, Rows.uptoBulkAll]
    simp only [List.getElem_cons_zero] at h0
    omega
  | [], _ :: _, h, _ => by simp at h
  | _ :: _, [], h, _ => by simp at h

def OpenZT (w : World) (cs : List Value) (d : DataW H) : Prop := ∃ (o h n : Int) (v : Value) (l : List Tm), cs = [.int .i64 o, .int .i64 h, .int .i64 n, v] ∧ I64 o ∧ I64 h ∧ I64 n ∧ Lies w (fun _ => True) v l ∧ Tm.sz (.mk o h n l) ≤ Rows.uptoBulk d
def OpenZL (w : World) (cs : List Value) (d : DataW H) : Prop := ∃ (v : Value) (l : List Tm), cs = [v] ∧ Lies w (fun _ => True) v l ∧ Tm.szL l + 1 ≤ Rows.uptoBulk d

theorem openZ_t_step (fuel : Nat) (ih : ∀ (cs : List Value) (x : DataW H × List MemPlace), DataW.trod enc Try.prog w base spare held fuel 22 cs = some x → OpenZL w cs x.1)
    (cs : List Value) (x : DataW H × List MemPlace) (h : DataW.trod enc Try.prog w base spare held (fuel + 1) 24 cs = some x) : OpenZT w cs x.1 := by
  obtain ⟨xs, n, hn, hx, hl, hlen, hf⟩ := DataW.trod_struct Try.underlying24 h
  obtain rfl : fuel = n := by omega
  rw [tm_cells] at hl
  match cs, hl with
  | [c0, c1, c2, c3], _ =>
    match xs, hlen with
    | [y0, y1, y2, y3], _ =>
      have h0 : DataW.trod enc Try.prog w base spare held fuel 3 [c0] = some y0 := by simpa [tm_cellsI] using hf 0 _ rfl
      have h1 : DataW.trod enc Try.prog w base spare held fuel 3 [c1] = some y1 := by simpa [tm_cellsI] using hf 1 _ rfl
      have h2 : DataW.trod enc Try.prog w base spare held fuel 3 [c2] = some y2 := by simpa [tm_cellsI] using hf 2 _ rfl
      have h3 : DataW.trod enc Try.prog w base spare held fuel 22 [c3] = some y3 := by simpa [tm_cellsS] using hf 3 _ rfl
      obtain ⟨o, rfl, ro⟩ := open_int_cell h0
      obtain ⟨hd, rfl, rh⟩ := open_int_cell h1
      obtain ⟨n, rfl, rn⟩ := open_int_cell h2
      obtain ⟨v, l, hv, lies, hb⟩ := ih _ _ h3
      refine ⟨o, hd, n, v, l, by simp at hv; rw [hv], ro, rh, rn, lies, ?_⟩
      subst hx
      simp only [List.map_cons, List.map_nil, Rows.uptoBulk, Rows.uptoBulkAll, Tm.sz]
      omega

theorem openZ_l_step (fuel : Nat) (ih : ∀ (cs : List Value) (x : DataW H × List MemPlace), DataW.trod enc Try.prog w base spare held fuel 24 cs = some x → OpenZT w cs x.1)
    (cs : List Value) (x : DataW H × List MemPlace) (h : DataW.trod enc Try.prog w base spare held (fuel + 1) 22 cs = some x) : OpenZL w cs x.1 := by
  rcases DataW.trod_slice Try.underlying22 h with ⟨rfl, hx⟩ | ⟨a, len, cap, elems, rest, n, hn, rfl, hx, _, hl, hm, hlen, hel, _, _⟩
  · exact ⟨_, [], rfl, Lies.nil w _, by subst hx; simp [Tm.szL, Rows.uptoBulk]⟩
  · obtain rfl : fuel = n := by omega
    rw [tm_cells] at hel
    have each : ∀ i, ∃ y : Int × Int × Int × Value × List Tm, i < len → (w.cell? (a.add (i * 4)) = some (.int .i64 y.1) ∧ w.cell? ((a.add (i * 4)).add 1) = some (.int .i64 y.2.1) ∧ w.cell? ((a.add (i * 4)).add 2) = some (.int .i64 y.2.2.1) ∧ w.cell? ((a.add (i * 4)).add 3) = some y.2.2.2.1 ∧ I64 y.1 ∧ I64 y.2.1 ∧ I64 y.2.2.1 ∧ Lies w (fun _ => True) y.2.2.2.1 y.2.2.2.2 ∧ (∀ e, elems[i]? = some e → Tm.sz (.mk y.1 y.2.1 y.2.2.1 y.2.2.2.2) ≤ Rows.uptoBulk e.1)) := by
      intro i
      by_cases hi : i < len
      · have e := hel i hi
        rw [List.getElem?_eq_getElem (by omega), Option.bind_eq_some_iff] at e
        obtain ⟨cs', hc, ht⟩ := e
        obtain ⟨o, h, n, v, l, rfl, ro, rh, rn, lies, hbz⟩ := ih _ _ ht
        obtain ⟨_, _, hat⟩ := World.cells?_some hc
        refine ⟨(o, h, n, v, l), fun _ => ⟨?_, by simpa using hat 1 (by omega), by simpa using hat 2 (by omega), by simpa using hat 3 (by omega), ro, rh, rn, lies, fun e he => ?_⟩⟩
        · simpa [Addr.add] using hat 0 (by omega)
        · rw [List.getElem?_eq_getElem (by omega)] at he
          cases he
          exact hbz
      · exact ⟨(0, 0, 0, .slice none 0 0, []), fun h => absurd h hi⟩
    obtain ⟨g, hg⟩ := Classical.axiomOfChoice each
    have spot : 0 < len → a = ⟨a.block, a.off, none⟩ := by
      intro h0
      have e := (hg 0 h0).1
      simp only [Nat.zero_mul, Addr.add, if_true] at e
      obtain ⟨b, off, sp⟩ := a
      unfold World.cell? at e
      simp only at e ⊢
      split at e
      · cases sp with
        | none => rfl
        | some s => simp at e
      · cases e
    have at0 : ∀ i, i < len → ∀ j, ((a.add (i * 4)).add j) = ⟨a.block, a.off + i * 4 + j, none⟩ := by
      intro i hi j
      rw [spot (by omega)]
      unfold Addr.add
      by_cases e1 : i * 4 = 0 <;> by_cases e2 : j = 0 <;> simp [e1, e2]
    refine ⟨_, _, rfl, Lies.row (some a) a.block a.off len cap (fun i => (g i).1) (fun i => (g i).2.1) (fun i => (g i).2.2.1) (fun i => (g i).2.2.2.1) (fun i => (g i).2.2.2.2) (fun h0 => by rw [← spot h0]) (fun _ => trivial) hl hm ?_ ?_ ?_ ?_ (fun i hi => (hg i hi).2.2.2.2.1) (fun i hi => (hg i hi).2.2.2.2.2.1) (fun i hi => (hg i hi).2.2.2.2.2.2.1) (fun i hi => (hg i hi).2.2.2.2.2.2.2.1), ?_⟩
    · intro i hi
      have e := (hg i hi).1
      have q := at0 i hi 0
      simp only [Addr.add, if_true, Nat.add_zero] at q e
      rw [← q]; exact e
    · intro i hi; rw [← at0 i hi 1]; exact (hg i hi).2.1
    · intro i hi; rw [← at0 i hi 2]; exact (hg i hi).2.2.1
    · intro i hi; rw [← at0 i hi 3]; exact (hg i hi).2.2.2.1
    · subst hx
      simp only [Rows.uptoBulk]
      have := szL_bulk ((List.range len).map fun i => .mk (g i).1 (g i).2.1 (g i).2.2.1 (g i).2.2.2.2) (elems.map (·.1)) (by simp [hlen]) (fun i h h' => by
        have hi : i < len := by simpa using h
        have := (hg i hi).2.2.2.2.2.2.2.2 elems[i] (List.getElem?_eq_getElem (by omega))
        simpa using this)
      omega

theorem openZ_both : ∀ fuel : Nat, (∀ (cs : List Value) (x : DataW H × List MemPlace), DataW.trod enc Try.prog w base spare held fuel 24 cs = some x → OpenZT w cs x.1) ∧
    (∀ (cs : List Value) (x : DataW H × List MemPlace), DataW.trod enc Try.prog w base spare held fuel 22 cs = some x → OpenZL w cs x.1)
  | 0 => ⟨fun _ _ h => by simp [DataW.trod] at h, fun _ _ h => by simp [DataW.trod] at h⟩
  | fuel + 1 => ⟨openZ_t_step fuel (openZ_both fuel).2, openZ_l_step fuel (openZ_both fuel).1⟩
end
end Go.Proofs.Ytieakippgeehgaa
