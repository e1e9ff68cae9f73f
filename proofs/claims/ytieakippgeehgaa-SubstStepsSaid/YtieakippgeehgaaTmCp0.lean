/- Append of a whole list to an empty slice that is not nil. -/
import Derived.Test.YtieakippgeehgaaTmCpy
namespace Go
open Go.RowKit
set_option linter.unusedSimpArgs false
set_option linter.unusedVariables false
section
variable {P : Program} (w : World)
theorem append_zero_eq (t ty e : TypeId) (i : TypeInfo) (bytes : Nat) (ht : P.underlying t = some (.slice e)) (hi : P.info? e = some i)
    (hby : i.bytes = bytes) (a0 ad : Addr) (m c : Nat) (hm : 0 < m) (h63 : m ≤ 9223372036854775807) (hbytes : m * bytes ≤ 140737488355328) :
    (Builtin.append_ #[t, t] ty #[.slice (some a0) 0 0, .slice (some ad) m c]).run P w = (Builtin.append_ #[t, t] ty #[.slice none 0 0, .slice (some ad) m c]).run P w := by
  subst hby
  have h1 : ¬ m = 0 := by omega
  have h2 : ¬ ((9223372036854775807 : Int) < (m : Int) ∧ i.bytes = 0) := by omega
  have h3 : ¬ 281474976710656 < Builtin.nextslicecap m 0 * i.bytes := by
    have : Builtin.nextslicecap m 0 = m := by simp [Builtin.nextslicecap, h1]
    rw [this]; omega
  simp [Builtin.append_, run_underlying ht, sizeOf, typeInfo, hi, Builtin.lenOf, Builtin.firstCells, h1, h2, h3, loadCells, loadCellsFrom]
theorem run_append_zero (t ty : TypeId) (e : TypeId) (i : TypeInfo) (z : Value) (size bytes : Nat) (ht : P.underlying t = some (.slice e)) (hi : P.info? e = some i) (hz : i.zero = some z)
    (hsize : i.size = size) (hby : i.bytes = bytes) (hzs : z.cells.size = size) (hsz : 0 < size) (g0 : Nat)
    (ao : Option Addr) (m c : Nat) (news : List Value) (hl : news.length = m * size) (hao : ao = none → m = 0) (hnews : ∀ ad, ao = some ad → ∀ j u, news[j]? = some u → w.cell? (ad.add j) = some u) (h1 : ∀ u ∈ news, u.oneCell' = true)
    (h63 : m ≤ maxLen) (hbytes : m * bytes ≤ 140737488355328) :
    ∃ g cap w', (Builtin.append_ #[t, t] ty #[.slice (some ⟨g0, 0, none⟩) 0 0, .slice ao m c]).run P w = .ok (.slice (some ⟨g, 0, none⟩) m cap) w' ∧ Below w.heap.size w w' ∧ m ≤ cap ∧ cap ≤ maxLen ∧
      ∀ j u, news[j]? = some u → w'.cell? ⟨g, 0 + j, none⟩ = some u := by
  by_cases hm : m = 0
  · subst hm
    obtain rfl : news = [] := List.eq_nil_of_length_eq_zero (by simpa using hl)
    refine ⟨g0, 0, w, ?_, Below.refl _ _, Nat.le_refl _, Nat.zero_le _, fun j u h => by simp at h⟩
    cases ao <;> simp [Builtin.append_, run_underlying ht, sizeOf, typeInfo, hi, Builtin.lenOf, Builtin.firstCells, storeCells, loadCells, loadCellsFrom]
  · cases ao with
    | none => exact absurd (hao rfl) hm
    | some ad =>
      obtain ⟨g, cap, w', hr, h2, h3, _, _⟩ := run_append_lies (P := P) w t ty 0 e i z size bytes ht hi hz hsize hby hzs hsz (.slice none 0 0) 0 [] ⟨by simp, .inl ⟨rfl, rfl⟩⟩ ad m c news hl (hnews ad rfl) h1 (by omega) (by omega) (by rw [Nat.zero_add]; exact hbytes) (Nat.zero_le _) w.heap.size rfl
      rw [← append_zero_eq w t ty e i bytes ht hi hby ⟨g0, 0, none⟩ ad m c (by omega) (by unfold maxLen at h63; omega) hbytes] at hr
      simp only [Nat.zero_add, List.nil_append] at hr h2
      have hb : Below w.heap.size w w' := Below.grown (Below.refl _ _) h3 (Nat.le_refl _) (fun k hk => by cases hk)
      have hcells := @World.ownsRow.cells w' 0 e size _ m news h2
      obtain ⟨hle, hmx⟩ : m ≤ cap ∧ cap ≤ maxLen := by
        rcases h2.2 with ⟨h, _⟩ | ⟨_, _, _, hv, _, _, h1, h2, _⟩
        · cases h
        · cases hv; exact ⟨h1, h2⟩
      refine ⟨g, cap, w', hr, hb, hle, hmx, fun j u hu => ?_⟩
      have := hcells (g := g) (by simp [Value.ownBlock]) j u hu
      rwa [Addr.add_lit] at this

theorem step_append_zero {ops : Array Oper} {o : Oper} {a : Act} {K : Act → World → Prop} {Q : Exit → Act → World → Prop} {E : Prop} (hgd : o.guard = none) (s x : Operand) (t : TypeId)
    (ho : o.op = .call { callee := .builtin .append, args := #[s, x], argTypes := #[t, t] })
    (e : TypeId) (i : TypeInfo) (z : Value) (size bytes : Nat) (ht : P.underlying t = some (.slice e)) (hi : P.info? e = some i) (hz : i.zero = some z)
    (hsize : i.size = size) (hby : i.bytes = bytes) (hzs : z.cells.size = size) (hsz : 0 < size) (g0 : Nat) (hs : a.eval s = .slice (some ⟨g0, 0, none⟩) 0 0)
    (ao : Option Addr) (m c : Nat) (news : List Value) (hx : a.eval x = .slice ao m c) (hl : news.length = m * size) (hao : ao = none → m = 0) (hnews : ∀ ad, ao = some ad → ∀ j u, news[j]? = some u → w.cell? (ad.add j) = some u) (h1 : ∀ u ∈ news, u.oneCell' = true)
    (h63 : m ≤ maxLen) (hbytes : m * bytes ≤ 140737488355328)
    (h : ∀ g cap w', Below w.heap.size w w' → m ≤ cap → cap ≤ maxLen → (∀ j u, news[j]? = some u → w'.cell? ⟨g, 0 + j, none⟩ = some u) → K (a.put o.dst (.slice (some ⟨g, 0, none⟩) m cap)) w') :
    if Region.wanted o (yielded ops a.tmps) = true then Oper.wp P o a w K Q else E := by
  have hw : Region.wanted o (yielded ops a.tmps) = true := by simp [Region.wanted, hgd]
  rw [if_pos hw]
  obtain ⟨g, cap, w', hr, h2, h3, h4, h5⟩ := run_append_zero (P := P) w t o.type e i z size bytes ht hi hz hsize hby hzs hsz g0 ao m c news hl hao hnews h1 h63 hbytes
  unfold Oper.wp execOp
  simp only [ho, resolve, invoke, builtin, Sem.run_bind, Sem.run_pure, Result.andThen_ok, List.map_toArray, List.map_cons, List.map_nil, hs, hx, hr]
  exact h g cap w' h2 h3 h4 h5
end
end Go

namespace Go.Proofs.Ytieakippgeehgaa
open Go.RowKit
section
variable {w : World} {ao : Option Addr} {b off len cap : Nat} {o h k : Nat → Int} {sv : Nat → Value} {ts : Nat → List Tm} {l : List Tm}
theorem RowAt.copied0 (R : RowAt w (fun _ => True) ao b off len cap o h k sv ts l) {w9 : World} {g cap9 : Nat} (hc : ∀ j u, (rowCells l sv len)[j]? = some u → w9.cell? ⟨g, 0 + j, none⟩ = some u) (hle : len ≤ cap9) (hmx : cap9 ≤ maxLen) (hb : Below w.heap.size w w9) :
    Lies w9 (fun _ => True) (.slice (some ⟨g, 0, none⟩) len cap9) l := by
  have hm : cap9 ≤ 9223372036854775807 := by unfold maxLen at hmx; exact hmx
  have row := Lies.row (w := w9) (S := fun _ => True) (some ⟨g, 0, none⟩) g 0 len cap9 o h k sv ts (fun _ => rfl) (fun _ => trivial) hle hm
    (fun i hi => hc _ _ (R.cellAt i hi).1) (fun i hi => by have := hc _ _ (R.cellAt i hi).2.1; rwa [← Nat.add_assoc] at this)
    (fun i hi => by have := hc _ _ (R.cellAt i hi).2.2.1; rwa [← Nat.add_assoc] at this) (fun i hi => by have := hc _ _ (R.cellAt i hi).2.2.2; rwa [← Nat.add_assoc] at this)
    R.r0 R.r1 R.r2 (fun i hi => (R.sub i hi).keep hb)
  rw [← R.isRow] at row
  exact row
end
/-- append of a list of terms to an empty list -/
theorem step_copy {ops : Array Oper} {o : Oper} {a : Act} {K : Act → World → Prop} {Q : Exit → Act → World → Prop} {E : Prop} {W w : World} (hgd : o.guard = none) (s x : Operand)
    (ho : o.op = .call { callee := .builtin .append, args := #[s, x], argTypes := #[22, 22] })
    (i : TypeInfo) (z : Value) (hi : Try.prog.info? 24 = some i) (hz : i.zero = some z) (hsize : i.size = 4) (hby : i.bytes = 48) (hzs : z.cells.size = 4) (g0 : Nat) (hs : a.eval s = .slice (some ⟨g0, 0, none⟩) 0 0)
    {ao : Option Addr} {b off len cap : Nat} {o2 h2 k2 : Nat → Int} {sv : Nat → Value} {ts : Nat → List Tm} {l : List Tm} (hx : a.eval x = .slice ao len cap) (R : RowAt W (fun _ => True) ao b off len cap o2 h2 k2 sv ts l)
    (hb : Below W.heap.size W w) (hlen : len ≤ 1048576)
    (h : ∀ g cap9 w9, Below w.heap.size w w9 → Below W.heap.size W w9 → Lies w9 (fun _ => True) (.slice (some ⟨g, 0, none⟩) len cap9) l → K (a.put o.dst (.slice (some ⟨g, 0, none⟩) len cap9)) w9) :
    if Region.wanted o (yielded ops a.tmps) = true then Oper.wp Try.prog o a w K Q else E :=
  step_append_zero w hgd s x 22 ho 24 i z 4 48 Try.underlying22 hi hz hsize hby hzs (by omega) g0 hs ao len cap (rowCells l sv len) hx R.cellsLen R.noAddr (R.newsOf hb) R.ones (by unfold maxLen; omega) (by omega)
    fun g cap9 w9 hb9 hle hmx hc => h g cap9 w9 hb9 (hb.trans (hb9.mono hb.size)) (R.copied0 hc hle hmx (hb.trans (hb9.mono hb.size)))
end Go.Proofs.Ytieakippgeehgaa
