/- The contracts of the laws' before and without. -/
import Derived.Test.YtieakippgeehgaaSbFtA
import Derived.Test.YtieakippgeehgaaSbGb
import Derived.Test.YtieakippgeehgaaSbInC
import Derived.OwnWalk
namespace Go.Proofs.Ytieakippgeehgaa.Sb
open Go.RowKit
set_option linter.unusedSimpArgs false
set_option linter.unusedVariables false

theorem spPre {w : World} {S : Nat → Prop} {ao : Option Addr} {b off len cap : Nat} {k : Nat → Int} {sv : Nat → Value} {ts : Nat → List Sp.Tm} {l : List Sp.Tm} (R : Sp.RowAt w S ao b off len cap k sv ts l) {m : Nat} (hm : m ≤ len) :
    Sp.RowAt w S ao b off m cap k sv ts (l.take m) :=
  ⟨by rw [R.isRow, ← List.map_take, List.take_range, Nat.min_eq_left hm], fun h => R.hao (by omega), fun h => R.hS (by omega), by have := R.hl; omega, R.hr,
   fun i hi => R.c0 i (by omega), fun i hi => R.c1 i (by omega), fun i hi => R.r2 i (by omega), fun i hi => R.sub i (by omega)⟩
theorem spDrop {w : World} {S : Nat → Prop} {ao ao' : Option Addr} {b off len cap : Nat} {k : Nat → Int} {sv : Nat → Value} {ts : Nat → List Sp.Tm} {l : List Sp.Tm} (R : Sp.RowAt w S ao b off len cap k sv ts l) {m : Nat} (hm : m ≤ len) (ha : 0 < len - m → ao' = some ⟨b, off + m * 2, none⟩) :
    Sp.RowAt w S ao' b (off + m * 2) (len - m) (cap - m) (fun i => k (i + m)) (fun i => sv (i + m)) (fun i => ts (i + m)) (l.drop m) :=
  ⟨by rw [R.isRow]
      refine List.ext_getElem (by simp) fun i h1 h2 => ?_
      simp [Nat.add_comm], ha, fun h => R.hS (by omega), by have := R.hl; omega, by have := R.hr; omega,
   fun i hi => by have := R.c0 (i + m) (by omega); rwa [show off + (i + m) * 2 = off + m * 2 + i * 2 by omega] at this,
   fun i hi => by have := R.c1 (i + m) (by omega); rwa [show off + (i + m) * 2 + 1 = off + m * 2 + i * 2 + 1 by omega] at this,
   fun i hi => R.r2 (i + m) (by omega), fun i hi => R.sub (i + m) (by omega)⟩
theorem spRow {w : World} {S : Nat → Prop} {ao : Option Addr} {b off len cap : Nat} {k : Nat → Int} {sv : Nat → Value} {ts : Nat → List Sp.Tm} {l : List Sp.Tm} (R : Sp.RowAt w S ao b off len cap k sv ts l) : Sp.Lies w S (.slice ao len cap) l := by
  rw [R.isRow]; exact .row ao b off len cap k sv ts R.hao R.hS R.hl R.hr R.c0 R.c1 R.r2 R.sub

set_option maxHeartbeats 4000000 in
set_option maxRecDepth 100000 in
theorem before_any (G : List Sp.Tm) (n : Nat) (Gv : Value) (w : World) (hn : n < G.length) (lG : Sp.Lies w (fun _ => True) Gv G) :
    Calls Try.prog 34 #[Gv, .int .i64 n] w fun e w' => ∃ v, e = .returned v ∧ Below w.heap.size w w' ∧ Sp.Lies w' (fun _ => True) v (G.take (G.length - 1 - n)) := by
  obtain ⟨aG, bG, oG, lG', cG, kG, sG, tG, rfl, GR⟩ := lG.open
  have hGl := GR.length
  have hGc := GR.hl
  have hGr := GR.hr
  obtain rfl := GR.hao (by omega)
  have L := spRow (spPre GR (m := lG' - 1 - n) (by omega))
  have HL := Lib.hid L
  have HE := Lib.hid (show G.length = lG' by omega)
  have h0 : (0 : Int) ≤ (lG' : Int) - 1 - n := by omega
  have h1 : (lG' : Int) - 1 - n ≤ (cG : Int) := by omega
  have h3 : n < lG' := by omega
  clear L lG GR hGl hn
  go_enter Try.func34, Try.ntmps34
  go_wp2_with fail
  go_ret
  exact ⟨_, rfl, Below.refl _ _, by rw [HE.out]; exact HL.out⟩
set_option maxHeartbeats 4000000 in
set_option maxRecDepth 100000 in
theorem without_any (G : List Sp.Tm) (n : Nat) (Gv : Value) (w : World) (hn : n < G.length) (hG : G.length ≤ 400) (lG : Sp.Lies w (fun _ => True) Gv G) :
    Calls Try.prog 35 #[Gv, .int .i64 n] w fun e w' => ∃ v, e = .returned v ∧ Below w.heap.size w w' ∧ Sp.Lies w' (fun _ => True) v (G.take (G.length - 1 - n) ++ G.drop (G.length - n)) := by
  obtain ⟨aG, bG, oG, lG', cG, kG, sG, tG, rfl, GR⟩ := lG.open
  have hGl := GR.length
  have hGc := GR.hl
  have hGr := GR.hr
  obtain rfl := GR.hao (by omega)
  have RP := spPre GR (m := lG' - 1 - n) (by omega)
  have RD := spDrop (ao' := if cG = lG' - 1 - n + 1 then some ⟨bG, oG, none⟩ else some ⟨bG, oG + (lG' - 1 - n + 1) * 2, none⟩) GR (m := lG' - 1 - n + 1) (by omega) (fun h => by rw [if_neg (by omega)])
  have HRP := Lib.hid RP
  have HRD := Lib.hid RD
  have HE := Lib.hid (show G.length = lG' ∧ lG' - n = lG' - 1 - n + 1 ∧ (G.take (lG' - 1 - n)).length = lG' - 1 - n by refine ⟨by omega, by omega, ?_⟩; rw [List.length_take]; omega)
  have h0 : (0 : Int) ≤ (lG' : Int) - 1 - n := by omega
  have h1 : (lG' : Int) - 1 - n + 1 ≤ (cG : Int) := by omega
  have h3 : n < lG' := by omega
  have hm4 : lG' ≤ 400 := by omega
  obtain ⟨i0, hi0, hz0, hz1, hz2⟩ := info_parts Sp.sm_info
  have HI := Lib.hid (And.intro hi0 (And.intro hz0 (And.intro hz1 hz2)))
  have tok1 : Hid True := Lib.hid trivial
  clear RP RD lG GR hGl hn hG hi0 hz0 hz1 hz2
  go_enter Try.func35, Try.ntmps35
  go_wp2_with (first
    | (at_builtin; have _t := tok1; refine Sp.wpList_append_row (by rfl) _ _ _ (by rfl) w.heap.size 27 i0 _ Sp.il_underlying HI.out.1 HI.out.2.1 HI.out.2.2.1 HI.out.2.2.2 rfl (S := fun _ => True) (v := .slice none 0 0) (ts := []) (by rfl) (Sp.Built.nil _ _ _ _) (Nat.le_refl _) (by rfl) HRP.out (Below.refl _ _) (fun b hlt hS => ⟨trivial, by simp [Value.ownBlock]⟩) (by simp; omega) ?_; intro v2 w2 hB2 hgrow2; (have hb2 : Below w.heap.size w w2 := Below.grown (Below.refl _ _) hgrow2 (Nat.le_refl _) (fun k hk => by cases hk)); have HB2 := Lib.hid (And.intro hB2 hb2); clear hB2 hb2 hgrow2 tok1; have tok2 : Hid True := Lib.hid trivial)
    | (at_builtin; have _t := tok2; refine Sp.wpList_append_row (by rfl) _ _ _ (by rfl) w.heap.size 27 i0 _ Sp.il_underlying HI.out.1 HI.out.2.1 HI.out.2.2.1 HI.out.2.2.2 rfl (S := fun _ => True) (v := v2) (by rfl) HB2.out.1 HB2.out.2.size (by rfl) HRD.out HB2.out.2 (fun b hlt hS => ⟨trivial, fun e => by have := (HB2.out.1.lt b e).1; omega⟩) (by rw [List.nil_append, HE.out.2.2]; omega) ?_; intro v3 w3 hB3 hgrow3; (have hb3 : Below w.heap.size w w3 := Below.grown HB2.out.2 hgrow3 HB2.out.2.size (fun k hk => (HB2.out.1.lt k hk).1)); have HB3 := Lib.hid (And.intro hB3 hb3); clear hB3 hb3 hgrow3 tok2)
    | fail)
  all_goals
    go_ret
    refine ⟨_, rfl, HB3.out.2, ?_⟩
    rw [HE.out.1, HE.out.2.1]
    exact HB3.out.1.lies fun _ _ _ => trivial
end Go.Proofs.Ytieakippgeehgaa.Sb
