/- Signatures that a call builds: a row of constants that grows by append; the contracts of copies.each over constants and of copies.Renumbered. -/
import Derived.Test.YteoheeddjddekaaSgW
import Derived.Test.YteoheeddjddekaaSgG
namespace Go.Proofs.Yteoheeddjddekaa
open Go.RowKit
set_option linter.unusedSimpArgs false
set_option linter.unusedVariables false

/-- the six cells of a constant -/
def dcells (d : Dc) (v : Value) : List Value := [.string d.nm, .int .i64 d.cl.op, .int .i64 d.cl.hd, .int .i64 d.cl.n, v, .int .i64 d.im]
def dflat : List Dc → List Value → List Value
  | d :: l, v :: vs => .string d.nm :: .int .i64 d.cl.op :: .int .i64 d.cl.hd :: .int .i64 d.cl.n :: v :: .int .i64 d.im :: dflat l vs
  | _, _ => []
theorem dflat_length : ∀ (ts : List Dc) (vs : List Value), ts.length = vs.length → (dflat ts vs).length = ts.length * 6
  | [], [], _ => rfl
  | t :: ts, v :: vs, h => by simp only [dflat, List.length_cons, dflat_length ts vs (by simpa using h)]; omega
  | [], _ :: _, h => by simp at h
  | _ :: _, [], h => by simp at h
theorem dflat_snoc : ∀ (ts : List Dc) (vs : List Value) (t : Dc) (v : Value), ts.length = vs.length → dflat (ts ++ [t]) (vs ++ [v]) = dflat ts vs ++ dcells t v
  | [], [], _, _, _ => rfl
  | t :: ts, v :: vs, t', v', h => by simp only [List.cons_append, dflat, dflat_snoc ts vs t' v' (by simpa using h)]
  | [], _ :: _, _, _, h => by simp at h
  | _ :: _, [], _, _, h => by simp at h
theorem dflat_get : ∀ (ts : List Dc) (vs : List Value) (i : Nat) (h : i < ts.length) (h' : i < vs.length),
    (dflat ts vs)[i * 6]? = some (.string ts[i].nm) ∧ (dflat ts vs)[i * 6 + 1]? = some (.int .i64 ts[i].cl.op) ∧ (dflat ts vs)[i * 6 + 2]? = some (.int .i64 ts[i].cl.hd) ∧ (dflat ts vs)[i * 6 + 3]? = some (.int .i64 ts[i].cl.n) ∧
      (dflat ts vs)[i * 6 + 4]? = some vs[i] ∧ (dflat ts vs)[i * 6 + 5]? = some (.int .i64 ts[i].im)
  | t :: ts, v :: vs, 0, _, _ => by simp [dflat]
  | t :: ts, v :: vs, i + 1, h, h' => by
    have := dflat_get ts vs i (by simpa using h) (by simpa using h')
    have e : ∀ j, (i + 1) * 6 + j = (i * 6 + j) + 1 + 1 + 1 + 1 + 1 + 1 := fun j => by omega
    have e0 : (i + 1) * 6 = i * 6 + 1 + 1 + 1 + 1 + 1 + 1 := by omega
    simp only [dflat, List.getElem_cons_succ]
    rw [e 1, e 2, e 3, e 4, e 5, e0]
    simp only [List.getElem?_cons_succ]
    exact this
  | [], _, _, h, _ => by simp at h
  | _ :: _, [], _, _, h => by simp at h

/-- a constant that a machine holds -/
def Dc.fit (d : Dc) : Prop := d.nm.size ≤ 140737488351232 ∧ d.cl.fit ∧ I64 d.im
/-- The slice value v is the call's own row of constants (in a block from base on); their spines lie in other blocks from base on. -/
structure DBuilt (w : World) (base : Nat) (v : Value) (ts : List Dc) : Prop where
  has : ∃ vs : List Value, ts.length = vs.length ∧ w.ownsRow base 40 6 v ts.length (dflat ts vs) ∧ ∀ i (h : i < ts.length) (h' : i < vs.length), Lies w (fun b => base ≤ b ∧ v.ownBlock ≠ some b) vs[i] ts[i].cl.args
  fit : ∀ d ∈ ts, d.fit
section
variable {w w' : World} {base : Nat} {v : Value} {ts : List Dc}
theorem DBuilt.nil (w : World) (base : Nat) : DBuilt w base (.slice none 0 0) [] :=
  ⟨⟨[], rfl, World.ownsRow_nil _ _ _ _, fun i h => by simp at h⟩, by simp⟩
theorem DBuilt.keep (h : DBuilt w base v ts) (hb : ∀ b, base ≤ b → b < w.heap.size → w'.heap[b]? = w.heap[b]?) : DBuilt w' base v ts := by
  obtain ⟨⟨vs, hl, hown, hsub⟩, hf⟩ := h
  refine ⟨⟨vs, hl, ⟨hown.1, ?_⟩, fun i h h' => (hsub i h h').still fun b hS hlt => hb b hS.1 hlt⟩, hf⟩
  rcases hown.2 with hn | ⟨g, cap, cur, rfl, hg, hh, rest⟩
  · exact .inl hn
  · exact .inr ⟨g, cap, cur, rfl, hg, (hb g hg (Array.getElem?_eq_some_iff.1 hh).1).trans hh, rest⟩
theorem DBuilt.below (h : DBuilt w base v ts) (hb : Below w.heap.size w w') : DBuilt w' base v ts := h.keep fun b _ hlt => hb.block b hlt
theorem DBuilt.lt (h : DBuilt w base v ts) : ∀ k, v.ownBlock = some k → base ≤ k ∧ k < w.heap.size := by
  obtain ⟨vs, _, hown, _⟩ := h.has; exact hown.lt
theorem DBuilt.own (h : DBuilt w base v ts) : ∃ vs : List Value, ts.length = vs.length ∧ w.ownsRow base 40 6 v ts.length (dflat ts vs) ∧ ∀ i (h : i < ts.length) (h' : i < vs.length), Lies w (fun b => base ≤ b ∧ v.ownBlock ≠ some b) vs[i] ts[i].cl.args := h.has
theorem DBuilt.isSlice (h : DBuilt w base v ts) : ∃ a m, v = .slice a ts.length m := by
  obtain ⟨vs, _, hown, _⟩ := h.has
  rcases hown.2 with ⟨rfl, h0⟩ | ⟨g, cap, cur, rfl, _⟩
  · exact ⟨_, _, by rw [h0]⟩
  · exact ⟨_, _, rfl⟩
/-- one more constant -/
theorem DBuilt.push {vs : List Value} {g cap : Nat} {t : Dc} {s : Value}
    (hl : ts.length = vs.length) (hsub : ∀ i (h : i < ts.length) (h' : i < vs.length), Lies w (fun b => base ≤ b ∧ v.ownBlock ≠ some b) vs[i] ts[i].cl.args) (hfit : ∀ t ∈ ts, t.fit) (ht : t.fit)
    (hs : Lies w (fun b => base ≤ b ∧ v.ownBlock ≠ some b) s t.cl.args)
    (hown' : w'.ownsRow base 40 6 (.slice (some ⟨g, 0, none⟩) (ts.length + 1) cap) (ts.length + 1) (dflat ts vs ++ dcells t s))
    (hgrow : w.grownBy w' v.ownBlock) (hat : v.ownBlock = some g ∨ g = w.heap.size) : DBuilt w' base (.slice (some ⟨g, 0, none⟩) (ts.length + 1) cap) (ts ++ [t]) := by
  have move : ∀ {x : Value} {l : List Tm}, Lies w (fun b => base ≤ b ∧ v.ownBlock ≠ some b) x l → Lies w' (fun b => base ≤ b ∧ (Value.slice (some ⟨g, 0, none⟩) (ts.length + 1) cap).ownBlock ≠ some b) x l := by
    intro x l h
    have h2 : Lies w (fun b => base ≤ b ∧ b ≠ g ∧ v.ownBlock ≠ some b) x l := h.more fun b hlt hS => ⟨hS.1, fun e => by
      subst e
      rcases hat with hat | hat
      · exact hS.2 hat
      · omega, hS.2⟩
    refine (h2.still (w' := w') fun b hS hlt => hgrow.block b hlt (fun e => hS.2.2 e.symm)).more fun b _ hS => ⟨hS.1, ?_⟩
    simp only [Value.ownBlock, ne_eq, Option.some.injEq]
    exact fun e => hS.2.1 e.symm
  refine ⟨⟨vs ++ [s], by simp [hl], by rw [dflat_snoc ts vs t s hl]; simpa using hown', ?_⟩, ?_⟩
  · intro i h h'
    by_cases hi : i < ts.length
    · rw [List.getElem_append_left (by omega)]
      simp only [List.getElem_append_left hi]
      exact move (hsub i hi (by omega))
    · obtain rfl : i = ts.length := by simp at h; omega
      simp only [List.getElem_append_right (Nat.le_refl _), Nat.sub_self, List.getElem_cons_zero]
      rw [List.getElem_append_right (by omega)]
      simp only [hl, Nat.sub_self, List.getElem_cons_zero]
      rw [← hl]
      exact move hs
  · intro x hx
    rcases List.mem_append.1 hx with hx | hx
    · exact hfit x hx
    · simp at hx; rw [hx]; exact ht
theorem DLies.nil (w : World) (S : Nat → Prop) : DLies w S (.slice none 0 0) [] :=
  ⟨none, 0, 0, 0, 0, fun _ => ⟨#[]⟩, fun _ => 0, fun _ => 0, fun _ => 0, fun _ => .slice none 0 0, fun _ => [], fun _ => 0, rfl, rfl, by simp, by simp, by simp, by simp, by simp, by simp, by simp, by simp, by simp, by simp, by simp, by simp, by simp, by simp, by simp, by simp⟩
/-- a row of constants, from its cells -/
theorem DLies.of {S : Nat → Prop} {g off len cap : Nat} (l : List Dc) (vs : List Value) (hl : l.length = vs.length) (hlen : l.length = len) (hS : 0 < len → S g) (hc : len ≤ cap) (hm : cap ≤ 9223372036854775807)
    (cells : ∀ i (h : i < l.length) (h' : i < vs.length), w.cell? ⟨g, off + i * 6, none⟩ = some (.string l[i].nm) ∧ w.cell? ⟨g, off + i * 6 + 1, none⟩ = some (.int .i64 l[i].cl.op) ∧ w.cell? ⟨g, off + i * 6 + 2, none⟩ = some (.int .i64 l[i].cl.hd) ∧
      w.cell? ⟨g, off + i * 6 + 3, none⟩ = some (.int .i64 l[i].cl.n) ∧ w.cell? ⟨g, off + i * 6 + 4, none⟩ = some vs[i] ∧ w.cell? ⟨g, off + i * 6 + 5, none⟩ = some (.int .i64 l[i].im))
    (hf : ∀ d ∈ l, d.fit) (hsub : ∀ i (h : i < l.length) (h' : i < vs.length), Lies w S vs[i] l[i].cl.args) : DLies w S (.slice (some ⟨g, off, none⟩) len cap) l := by
  subst hlen
  have hget : ∀ i (h : i < l.length), l[i]?.getD ⟨⟨#[]⟩, Tm.zero, 0⟩ = l[i] := fun i h => by rw [List.getElem?_eq_getElem h]; rfl
  have hvs : ∀ i (h : i < vs.length), vs[i]?.getD (.slice none 0 0) = vs[i] := fun i h => by rw [List.getElem?_eq_getElem h]; rfl
  refine ⟨some ⟨g, off, none⟩, g, off, l.length, cap, fun i => (l[i]?.getD ⟨⟨#[]⟩, Tm.zero, 0⟩).nm, fun i => (l[i]?.getD ⟨⟨#[]⟩, Tm.zero, 0⟩).cl.op, fun i => (l[i]?.getD ⟨⟨#[]⟩, Tm.zero, 0⟩).cl.hd, fun i => (l[i]?.getD ⟨⟨#[]⟩, Tm.zero, 0⟩).cl.n, fun i => vs[i]?.getD (.slice none 0 0), fun i => (l[i]?.getD ⟨⟨#[]⟩, Tm.zero, 0⟩).cl.args, fun i => (l[i]?.getD ⟨⟨#[]⟩, Tm.zero, 0⟩).im, rfl, ?_⟩
  refine ⟨?_, fun _ => rfl, hS, hc, hm, fun i hi => by rw [hget i hi]; exact (cells i hi (by omega)).1, fun i hi => by rw [hget i hi]; exact (cells i hi (by omega)).2.1, fun i hi => by rw [hget i hi]; exact (cells i hi (by omega)).2.2.1, fun i hi => by rw [hget i hi]; exact (cells i hi (by omega)).2.2.2.1,
    fun i hi => by rw [hvs i (by omega)]; exact (cells i hi (by omega)).2.2.2.2.1, fun i hi => by rw [hget i hi]; exact (cells i hi (by omega)).2.2.2.2.2, fun i hi => by rw [hget i hi]; exact (hf _ (List.getElem_mem hi)).1, fun i hi => by rw [hget i hi]; exact (hf _ (List.getElem_mem hi)).2.1.1,
    fun i hi => by rw [hget i hi]; exact (hf _ (List.getElem_mem hi)).2.1.2.1, fun i hi => by rw [hget i hi]; exact (hf _ (List.getElem_mem hi)).2.1.2.2, fun i hi => by rw [hget i hi]; exact (hf _ (List.getElem_mem hi)).2.2, fun i hi => by rw [hget i hi, hvs i (by omega)]; exact hsub i hi (by omega)⟩
  apply List.ext_getElem
  · simp
  · intro i h1 h2
    simp only [List.getElem_map, List.getElem_range, List.getElem?_eq_getElem h1, Option.getD_some]
    obtain ⟨nm, ⟨o, h, n, a⟩, im⟩ := l[i]
    rfl
theorem DBuilt.cells (h : DBuilt w base v ts) : (v = .slice none 0 0 ∧ ts = []) ∨ ∃ (g cap : Nat) (vs : List Value) (hl : ts.length = vs.length), v = .slice (some ⟨g, 0, none⟩) ts.length cap ∧ base ≤ g ∧ ts.length ≤ cap ∧ cap ≤ 9223372036854775807 ∧
    (∀ i (h : i < ts.length) (h' : i < vs.length), w.cell? ⟨g, 0 + i * 6, none⟩ = some (.string ts[i].nm) ∧ w.cell? ⟨g, 0 + i * 6 + 1, none⟩ = some (.int .i64 ts[i].cl.op) ∧ w.cell? ⟨g, 0 + i * 6 + 2, none⟩ = some (.int .i64 ts[i].cl.hd) ∧
      w.cell? ⟨g, 0 + i * 6 + 3, none⟩ = some (.int .i64 ts[i].cl.n) ∧ w.cell? ⟨g, 0 + i * 6 + 4, none⟩ = some vs[i] ∧ w.cell? ⟨g, 0 + i * 6 + 5, none⟩ = some (.int .i64 ts[i].im)) ∧
    (∀ i (h : i < ts.length) (h' : i < vs.length), Lies w (fun b => base ≤ b ∧ b ≠ g) vs[i] ts[i].cl.args) := by
  obtain ⟨⟨vs, hl, hown, hsub⟩, hf⟩ := h
  have hcells := @World.ownsRow.cells w base 40 6 v ts.length (dflat ts vs) hown
  rcases hown.2 with ⟨rfl, h0⟩ | ⟨g, cap, cur, rfl, hg, hh, hle, hmx, _⟩
  · exact .inl ⟨rfl, List.eq_nil_of_length_eq_zero h0⟩
  · have hc : ∀ j u, (dflat ts vs)[j]? = some u → w.cell? ⟨g, 0 + j, none⟩ = some u := fun j u hu => by
      have := hcells (g := g) (by simp [Value.ownBlock]) j u hu
      rwa [Addr.add_lit] at this
    have hm : cap ≤ 9223372036854775807 := by unfold maxLen at hmx; exact hmx
    refine .inr ⟨g, cap, vs, hl, rfl, hg, hle, hm, fun i hi hi' => ?_, fun i hi hi' => (hsub i hi hi').more fun b _ hS => ⟨hS.1, fun e => hS.2 (by simp [Value.ownBlock, e])⟩⟩
    have hf := dflat_get ts vs i hi hi'
    refine ⟨hc _ _ hf.1, ?_, ?_, ?_, ?_, ?_⟩
    · have := hc _ _ hf.2.1; rwa [← Nat.add_assoc] at this
    · have := hc _ _ hf.2.2.1; rwa [← Nat.add_assoc] at this
    · have := hc _ _ hf.2.2.2.1; rwa [← Nat.add_assoc] at this
    · have := hc _ _ hf.2.2.2.2.1; rwa [← Nat.add_assoc] at this
    · have := hc _ _ hf.2.2.2.2.2; rwa [← Nat.add_assoc] at this
theorem DBuilt.lies (h : DBuilt w base v ts) : DLies w (base ≤ ·) v ts := by
  have hf := h.fit
  rcases h.cells with ⟨rfl, rfl⟩ | ⟨g, cap, vs, hl, rfl, hg, hc, hm, cells, hsub⟩
  · exact DLies.nil _ _
  · exact DLies.of ts vs hl rfl (fun _ => hg) hc hm cells hf fun i h h' => (hsub i h h').more fun b _ hS => hS.1
end
theorem dc_info : (Try.prog.info? 40).map (fun i => (i.zero, i.size, i.bytes)) = some (some (.agg #[.string ⟨#[]⟩, .int .i64 0, .int .i64 0, .int .i64 0, .slice none 0 0, .int .i64 0]), 6, 72) := by kernel_rfl

/-- a constant that is handed back: its spine in new memory -/
def GivesD (w : World) (d : Dc) (e : Ending) (w' : World) : Prop := ∃ v, e = .returned (dcV d v) ∧ Below w.heap.size w w' ∧ Lies w' (w.heap.size ≤ ·) v d.cl.args
/-- a signature that is handed back, all of it in new memory -/
def GivesS (w : World) (l : List Dc) (e : Ending) (w' : World) : Prop := ∃ a, e = .returned a ∧ Below w.heap.size w w' ∧ DBuilt w' w.heap.size a l

set_option maxHeartbeats 4000000 in
set_option maxRecDepth 100000 in
theorem eachD_any (G : Dc → Dc) (B : Nat) (l : List Dc) (v : Value) (w : World) (hv : DLies w (fun _ => True) v l) (hl6 : l.length ≤ 1000000) (hfit : ∀ t ∈ l, (G t).fit)
    (call : ∀ t ∈ l, ∀ (tv : Value) (w1 : World), Below w.heap.size w w1 → Lies w1 (fun _ => True) tv t.cl.args → Calls Try.prog 62 #[dcV t tv, .pointer (some ⟨B, 0, none⟩)] w1 (GivesD w1 (G t))) :
    Calls Try.prog 61 #[v, .func (.func 62) #[] #[.pointer (some ⟨B, 0, none⟩)]] w (GivesS w (l.map G)) := by
  obtain ⟨ao, b, off, len, cap, nm, oo, hh, kk, sc, tt, im, rfl, R⟩ := hv
  obtain ⟨i0, hi0, hz0, hz1, hz2⟩ := info_parts dc_info
  have hr := R.hr
  have hl := R.hl
  have hlen : len ≤ 1000000 := by rw [← R.length]; exact hl6
  have HLEN := Lib.hid R.length
  have HR := Lib.hid R
  have HC := Lib.hid call
  have HF := Lib.hid hfit
  have HI0 := Lib.hid hi0
  have HZ0 := Lib.hid hz0
  have HB0 := Lib.hid (Below.refl w.heap.size w)
  clear R call hfit hi0 hz0 hl6
  go_enter Try.func61, Try.ntmps61
  go_wp2_with fail
  go_loopw [5, 10] (fun v i wr => ∃ j : Nat, j ≤ len ∧ i = .int .i64 j ∧ Below w.heap.size w wr ∧ DBuilt wr w.heap.size v ((l.take j).map G)) (fun _ i _ => len - (RowKit.intOf i).toNat)
  case atStart => exact ⟨0, Nat.zero_le _, rfl, HB0.out, by rw [List.take_zero]; exact DBuilt.nil _ _⟩
  case round =>
    obtain ⟨j, hj, rfl, hbw, M⟩ := hrel
    by_cases hlt : j < len
    · obtain rfl := HR.out.hao (by omega)
      obtain ⟨d0, d1, d2, d3, d4, d5, hsub⟩ := HR.out.at hbw j hlt
      obtain ⟨a5, n5, m5, hs5⟩ := hsub.isSlice
      rw [hs5] at d4 hsub
      have hjl : j < l.length := by rw [HLEN.out]; exact hlt
      have hg := HR.out.get j hlt
      have hba := one_below wr (.cells #[.string (nm j), .int .i64 (oo j), .int .i64 (hh j), .int .i64 (kk j), .slice a5 n5 m5, .int .i64 (im j)] 40)
      have c1 := HC.out l[j] (List.getElem_mem hjl) (.slice a5 n5 m5) _ (hbw.trans (hba.mono hbw.size)) (by rw [hg]; exact hsub.keep hba)
      have hft := HF.out l[j] (List.getElem_mem hjl)
      have hstep : (l.take (j + 1)).map G = (l.take j).map G ++ [G l[j]] := by rw [List.take_succ_eq_append_getElem hjl, List.map_append]; rfl
      have hlenk : ((l.take j).map G).length = j := by simp; omega
      generalize G l[j] = T at c1 hft hstep
      rw [hg] at c1
      obtain ⟨tnm, ⟨tq, th, tn, tl⟩, tim⟩ := T
      unfold GivesD dcV at c1
      simp only [Tm.op, Tm.hd, Tm.n, Tm.args] at c1
      generalize (l.take j).map G = ts at M hstep hlenk
      subst hlenk
      have hrl := M.lt
      have hws := hbw.size
      have HM := Lib.hid M
      have HRL := Lib.hid hrl
      have HBW := Lib.hid hbw
      have HFT := Lib.hid hft
      have HSTEP := Lib.hid hstep
      have HBA := Lib.hid hba
      clear M hsub hg hrl hbw hft hstep hba
      go_wp2_with fail
      refine c1.mono ?_
      rintro e w2 ⟨v2, rfl, hb2, hx2⟩
      obtain ⟨a7, n7, m7, rfl⟩ := hx2.isSlice
      have hb12 := below_next HBA.out hb2
      have hs2 := hb12.size
      have hsA := hb2.size
      simp at hsA
      obtain ⟨vs, hvl, hown2, hsub2⟩ := (HM.out.below hb12).own
      have HVL := Lib.hid hvl
      have HSB := Lib.hid hsub2
      have HOW := Lib.hid hown2
      have HX2 := Lib.hid (hx2.more (S' := fun b' => w.heap.size ≤ b' ∧ u5.ownBlock ≠ some b') fun b' hlt' hS => ⟨by simp at hS; omega, fun e => by have := (HRL.out b' e).2; simp at hS; omega⟩)
      have HB12 := Lib.hid hb12
      clear hvl hsub2 hown2 hx2 hb12 hb2 c1 d0 d1 d2 d3 d4 d5
      go_wp2_with (at_builtin; refine wpList_append_lies _ (by rfl) _ _ _ (by rfl) w.heap.size 40 i0 _ 6 72 Try.underlying22 HI0.out HZ0.out hz1 hz2 rfl (by omega) u5 _ _ (by rfl) (HOW.out.alloc _) ⟨w2.heap.size, 0, none⟩ 1 1 [.string tnm, .int .i64 tq, .int .i64 th, .int .i64 tn, .slice a7 n7 m7, .int .i64 tim] (by rfl) (by rfl) (World.news_of_block (cs := #[.string tnm, .int .i64 tq, .int .i64 th, .int .i64 tn, .slice a7 n7 m7, .int .i64 tim]) (t := 40) (fr := (0, 0)) (heap_alloc_new _ _)) (by intro u hu; simp at hu; rcases hu with rfl | rfl | rfl | rfl | rfl | rfl <;> rfl) (by omega) (by unfold maxLen; omega) (by omega) (by simp; omega) _ rfl ?_; intro g cap3 w3 hown3 hgrow3 hat3 hlt3)
      go_roundw
      case rel =>
        refine ⟨ts.length + 1, by omega, by go_num, ((below_next HBW.out HB12.out).alloc (by omega) _).grown hgrow3 (by simp; omega) (fun k hk => (HRL.out k hk).1), ?_⟩
        rw [HSTEP.out]
        exact DBuilt.push (w := w2.alloc (.cells #[.string tnm, .int .i64 tq, .int .i64 th, .int .i64 tn, .slice a7 n7 m7, .int .i64 tim] 40)) (t := ⟨tnm, .mk tq th tn tl, tim⟩) (s := .slice a7 n7 m7) HVL.out (fun i h h' => (HSB.out i h h').keep (one_below _ _)) HM.out.fit HFT.out (HX2.out.keep (one_below _ _)) hown3 hgrow3 hat3
      case measure => simp [RowKit.intOf]; omega
    · obtain rfl : j = len := by omega
      have hM := M
      rw [List.take_of_length_le (by rw [HLEN.out]; exact Nat.le_refl _)] at hM
      obtain ⟨a7, m7, rfl⟩ := hM.isSlice
      have HM := Lib.hid hM
      have HBW := Lib.hid hbw
      clear M hM hbw
      go_wp2_with fail
      go_ret
      exact ⟨_, rfl, HBW.out, HM.out⟩

/-- a constant whose class has its constants renumbered -/
def Dc.num (g : Int → Int) (d : Dc) : Dc := ⟨d.nm, Tm.num g d.cl, d.im⟩

abbrev CellsDF (W : World) (B : Nat) (x0 x1 x2 x3 x4 x5 : Value) (P : Addr) (x6 : Value) : Prop :=
  W.cell? P = some x6 ∧ W.cell? ⟨B, 0, none⟩ = some x0 ∧ W.cell? ⟨B, 1, none⟩ = some x1 ∧ W.cell? ⟨B, 2, none⟩ = some x2 ∧ W.cell? ⟨B, 3, none⟩ = some x3 ∧ W.cell? ⟨B, 4, none⟩ = some x4 ∧ W.cell? ⟨B, 5, none⟩ = some x5
theorem cellsDF_below {W W' : World} {B : Nat} {x0 x1 x2 x3 x4 x5 x6 : Value} {P : Addr} (hb : Below W.heap.size W W') (x : CellsDF W B x0 x1 x2 x3 x4 x5 P x6) : CellsDF W' B x0 x1 x2 x3 x4 x5 P x6 :=
  ⟨kept_cell hb x.1, cellsD_below hb x.2⟩

end Go.Proofs.Yteoheeddjddekaa
