/- What fits a simple type, as a test; a list of simple types appended to a row of the call's own. -/
import Derived.Test.YtieakippgeehgaaSbTyF
import Derived.Test.YtieakippgeehgaaSbLst
import Derived.Laws.OwnMore
namespace Go.Proofs.Ytieakippgeehgaa
set_option linter.unusedSimpArgs false
set_option linter.unusedVariables false

/-- the simple type of a head -/
def hdT (K G : List Sp.Tm) (h n : Int) : Option Sp.Tm :=
  if h = 1 ∧ n < (G.length : Int) then G[n.toNat]? else if h = 2 ∧ n < (K.length : Int) then K[n.toNat]? else none
mutual
/-- is a term canonical at a simple type? (the first one of the context is the variable 0) -/
def fitb (K : List Sp.Tm) : Tm → List Sp.Tm → List Sp.Tm → Int → Bool
  | .mk o h n l, G, a :: Ss, c => o == 3 && fitbB K l (a :: G) Ss c
  | .mk o h n l, G, [], c => o == 4 && decide (0 ≤ n) && (match hdT K G h n with
    | some H => H.n == c && H.args.length == l.length && fitbL K l G H.args
    | none => false)
def fitbB (K : List Sp.Tm) : List Tm → List Sp.Tm → List Sp.Tm → Int → Bool
  | [b], G, Ss, c => fitb K b G Ss c
  | _, _, _, _ => false
def fitbL (K : List Sp.Tm) : List Tm → List Sp.Tm → List Sp.Tm → Bool
  | [], _, _ => true
  | t :: l, G, S :: Ss => fitb K t G S.args S.n && fitbL K l G Ss
  | _, _, _ => false
end

theorem hdT_some {K G : List Sp.Tm} {h n : Int} {H : Sp.Tm} (h0 : 0 ≤ n) : hdT K G h n = some H ↔ (h = 1 ∧ G[n.toNat]? = some H) ∨ (h = 2 ∧ K[n.toNat]? = some H) := by
  unfold hdT
  constructor
  · intro e
    split at e
    · rename_i hx; exact .inl ⟨hx.1, e⟩
    · split at e
      · rename_i hx; exact .inr ⟨hx.1, e⟩
      · cases e
  · rintro (⟨rfl, e⟩ | ⟨rfl, e⟩)
    · have := (List.getElem?_eq_some_iff.1 e).1
      rw [if_pos ⟨rfl, by omega⟩]; exact e
    · have := (List.getElem?_eq_some_iff.1 e).1
      rw [if_neg (by omega), if_pos ⟨rfl, by omega⟩]; exact e

mutual
theorem fit_of_b (K : List Sp.Tm) : ∀ (t : Tm) (d : Nat) (G Ss : List Sp.Tm) (c : Int), Tm.formed t d = true → (fitb K t G Ss c = true ↔ Fit K t G Ss c)
  | .mk o h n l, d, G, a :: Ss, c, hf => by
    simp only [Tm.formed, Bool.and_eq_true, decide_eq_true_eq] at hf
    obtain ⟨⟨_, hh⟩, hl⟩ := hf
    have hh' := Tm.headOk_yes _ _ _ _ hh
    simp only [fitb, Fit, Bool.and_eq_true, beq_iff_eq]
    constructor
    · rintro ⟨h1, h2⟩
      match l, h2, hl with
      | [b], h2, hl =>
        simp only [Tm.formedL, Bool.and_eq_true] at hl
        exact ⟨h1, by omega, by omega, (fit_of_b K b (d + 1) (a :: G) Ss c hl.1).1 h2⟩
    · rintro ⟨h1, _, _, h2⟩
      match l, h2, hl with
      | [b], h2, hl =>
        simp only [Tm.formedL, Bool.and_eq_true] at hl
        exact ⟨h1, (fit_of_b K b (d + 1) (a :: G) Ss c hl.1).2 h2⟩
  | .mk o h n l, d, G, [], c, hf => by
    simp only [Tm.formed, Bool.and_eq_true, decide_eq_true_eq] at hf
    obtain ⟨⟨_, hh⟩, hl⟩ := hf
    simp only [fitb, Fit, Bool.and_eq_true, beq_iff_eq, decide_eq_true_eq]
    constructor
    · rintro ⟨⟨h1, h0⟩, h2⟩
      rcases hH : hdT K G h n with _ | H
      · rw [hH] at h2; cases h2
      · rw [hH] at h2
        simp only [Bool.and_eq_true, beq_iff_eq] at h2
        exact ⟨h1, h0, H, (hdT_some h0).1 hH, h2.1.1, (fitL_of_b K l (d + 1) G H.args hl h2.1.2.symm).1 h2.2⟩
    · rintro ⟨h1, h0, H, hH, hc, hfl⟩
      rw [(hdT_some h0).2 hH]
      have hlen := fitL_len K l G H.args hfl
      refine ⟨⟨h1, h0⟩, ?_⟩
      simp only [Bool.and_eq_true, beq_iff_eq]
      exact ⟨⟨hc, hlen.symm⟩, (fitL_of_b K l (d + 1) G H.args hl hlen).2 hfl⟩
theorem fitL_of_b (K : List Sp.Tm) : ∀ (l : List Tm) (d : Nat) (G Ss : List Sp.Tm), Tm.formedL l d = true → l.length = Ss.length → (fitbL K l G Ss = true ↔ FitL K l G Ss)
  | [], d, G, Ss, _, hlen => by
    match Ss, hlen with
    | [], _ => simp [fitbL, FitL]
  | t :: l, d, G, Ss, hf, hlen => by
    match Ss, hlen with
    | S :: Ss, hlen =>
      simp only [Tm.formedL, Bool.and_eq_true] at hf
      simp only [fitbL, FitL, Bool.and_eq_true]
      rw [fit_of_b K t d G S.args S.n hf.1, fitL_of_b K l d G Ss hf.2 (by simpa using hlen)]
theorem fitL_len (K : List Sp.Tm) : ∀ (l : List Tm) (G Ss : List Sp.Tm), FitL K l G Ss → l.length = Ss.length
  | [], G, Ss, h => by
    match Ss, h with
    | [], _ => rfl
  | t :: l, G, Ss, h => by
    obtain ⟨S, Ss', rfl, h1, h2⟩ := fitL_tail h
    simp [fitL_len K l G Ss' h2]
end
theorem fit_iff {K : List Sp.Tm} {t : Tm} {G Ss : List Sp.Tm} {c : Int} (hp : Tm.proper t = true) : fitb K t G Ss c = true ↔ Fit K t G Ss c := fit_of_b K t 1 G Ss c (Tm.proper_two hp).2

/-- the first parts fit -/
def FtTo (K G : List Sp.Tm) (l : List Tm) (Ss : List Sp.Tm) (k : Nat) : Prop := fitbL K (l.take k) G (Ss.take k) = true
theorem FtTo.zero (K G : List Sp.Tm) (l : List Tm) (Ss : List Sp.Tm) : FtTo K G l Ss 0 := by simp [FtTo, fitbL]
theorem fitbL_append (K G : List Sp.Tm) : ∀ (l : List Tm) (Ss : List Sp.Tm) (l2 : List Tm) (Ss2 : List Sp.Tm), l.length = Ss.length → fitbL K (l ++ l2) G (Ss ++ Ss2) = (fitbL K l G Ss && fitbL K l2 G Ss2)
  | [], [], l2, Ss2, _ => by simp [fitbL]
  | t :: l, S :: Ss, l2, Ss2, h => by
    simp only [List.cons_append, fitbL, fitbL_append K G l Ss l2 Ss2 (by simpa using h), Bool.and_assoc]
  | [], _ :: _, _, _, h => by simp at h
  | _ :: _, [], _, _, h => by simp at h
theorem FtTo.step {K G : List Sp.Tm} {l : List Tm} {Ss : List Sp.Tm} {k : Nat} (h : FtTo K G l Ss k) (hk : k < l.length) (hs : k < Ss.length) (e : fitb K l[k] G Ss[k].args Ss[k].n = true) : FtTo K G l Ss (k + 1) := by
  unfold FtTo at *
  rw [List.take_succ_eq_append_getElem hk, List.take_succ_eq_append_getElem hs, fitbL_append K G _ _ _ _ (by simp; omega), h]
  simp [fitbL, e]
theorem FtTo.hit {K G : List Sp.Tm} {l : List Tm} {Ss : List Sp.Tm} {k : Nat} (hk : k < l.length) (hl : l.length = Ss.length) (e : fitb K l[k] G (Ss[k]'(by omega)).args (Ss[k]'(by omega)).n = false) : fitbL K l G Ss = false := by
  have hs : k < Ss.length := by omega
  have h1 : fitbL K (l.take (k + 1)) G (Ss.take (k + 1)) = false := by
    rw [List.take_succ_eq_append_getElem hk, List.take_succ_eq_append_getElem hs, fitbL_append K G _ _ _ _ (by simp; omega)]
    simp [fitbL, e]
  have h2 := fitbL_append K G (l.take (k + 1)) (Ss.take (k + 1)) (l.drop (k + 1)) (Ss.drop (k + 1)) (by simp; omega)
  rw [List.take_append_drop, List.take_append_drop, h1] at h2
  simpa using h2
theorem FtTo.all {K G : List Sp.Tm} {l : List Tm} {Ss : List Sp.Tm} {k : Nat} (h : FtTo K G l Ss k) (hk : l.length ≤ k) (hl : l.length = Ss.length) : fitbL K l G Ss = true := by
  unfold FtTo at h; rwa [List.take_of_length_le hk, List.take_of_length_le (by omega)] at h

theorem fitb_lam {K G Ss : List Sp.Tm} {a : Sp.Tm} {h n c : Int} {b : Tm} : fitb K (.mk 3 h n [b]) G (a :: Ss) c = fitb K b (a :: G) Ss c := by simp [fitb, fitbB]
theorem fitb_nolam {K G Ss : List Sp.Tm} {a : Sp.Tm} {o h n c : Int} {l : List Tm} (e : ¬ o = 3 ∨ l.length ≠ 1) : fitb K (.mk o h n l) G (a :: Ss) c = false := by
  simp only [fitb, Bool.and_eq_false_iff, beq_eq_false_iff_ne]
  rcases e with e | e
  · exact .inl e
  · right
    match l, e with
    | [], _ => rfl
    | [b], e => simp at e
    | _ :: _ :: _, _ => rfl
theorem fitb_op {K G : List Sp.Tm} {o h n c : Int} {l : List Tm} (e : ¬ o = 4) : fitb K (.mk o h n l) G [] c = false := by simp [fitb, e]
theorem fitb_none {K G : List Sp.Tm} {h n c : Int} {l : List Tm} (e : hdT K G h n = none) : fitb K (.mk 4 h n l) G [] c = false := by simp [fitb, e]
theorem fitb_some {K G : List Sp.Tm} {h n c : Int} {l : List Tm} {H : Sp.Tm} (h0 : 0 ≤ n) (e : hdT K G h n = some H) : fitb K (.mk 4 h n l) G [] c = (H.n == c && H.args.length == l.length && fitbL K l G H.args) := by simp [fitb, e, h0]

namespace Sp
open Go.RowKit
/-- append of a list of simple types to a row of the call's own -/
theorem run_append_row {P : Program} (w : World) (t ty base : Nat) (e : TypeId) (i : TypeInfo) (z : Value) (ht : P.underlying t = some (.slice e)) (hi : P.info? e = some i) (hz : i.zero = some z)
    (hsize : i.size = 2) (hby : i.bytes = 32) (hzs : z.cells.size = 2) {S : Nat → Prop} {v : Value} {ts l : List Tm} (hB : Built w base S e v ts) (hbase : base ≤ w.heap.size)
    {w0 : World} {S0 : Nat → Prop} {ao : Option Addr} {b off len cap : Nat} {k : Nat → Int} {sv : Nat → Value} {tt : Nat → List Tm} (R : RowAt w0 S0 ao b off len cap k sv tt l) (hb : Below w0.heap.size w0 w)
    (hS : ∀ b, b < w0.heap.size → S0 b → S b ∧ v.ownBlock ≠ some b) (hn : ts.length + len ≤ 1000000) :
    ∃ v' w', (Builtin.append_ #[t, t] ty #[v, .slice ao len cap]).run P w = .ok v' w' ∧ Built w' base S e v' (ts ++ l) ∧ w.grownBy w' v.ownBlock := by
  obtain ⟨⟨vs, hl, hown, hsub⟩, hfit⟩ := hB
  have hlen := R.length
  have hfit' : ∀ t ∈ ts ++ l, t.fit := fun t ht => by
    rcases List.mem_append.1 ht with h | h
    · exact hfit t h
    · exact R.fits t h
  have hvl : ((List.range len).map sv).length = len := by simp
  have hpart : ∀ i (h : i < (ts ++ l).length) (h' : i < (vs ++ (List.range len).map sv).length), Lies w (fun b => S b ∧ v.ownBlock ≠ some b) (vs ++ (List.range len).map sv)[i] (ts ++ l)[i].args := by
    intro i h h'
    by_cases h1 : i < ts.length
    · rw [List.getElem_append_left h1, List.getElem_append_left (by omega)]
      exact hsub i h1 (by omega)
    · rw [List.getElem_append_right (show ts.length ≤ i by omega), List.getElem_append_right (show vs.length ≤ i by omega)]
      have h2 : i - ts.length < l.length := by simp at h; omega
      have hx := R.subs hb (i - ts.length) h2 (by simp; omega)
      have ev : i - vs.length = i - ts.length := by omega
      simp only [ev]
      have hx0 := (R.sub (i - ts.length) (by omega)).more hS
      have := hx0.keep hb
      rw [R.get (i - ts.length) (by omega)]
      simpa [Tm.args] using this
  rcases hao : ao with _ | ad
  · have h0 : len = 0 := by
      rcases Nat.eq_zero_or_pos len with h | h
      · exact h
      · have := R.hao h; rw [hao] at this; cases this
    subst h0
    have hl0 : l = [] := List.eq_nil_of_length_eq_zero (by omega)
    subst hl0
    refine ⟨v, w, run_append_nil_src w base t ty e i 2 ht hi v _ cap _ hown, ?_, World.grownBy.refl _ _⟩
    rw [List.append_nil]
    exact ⟨⟨vs, hl, hown, hsub⟩, hfit⟩
  · have hnews := R.news hb ad hao
    have hfl : (flat l ((List.range len).map sv)).length = len * 2 := by rw [flat_length _ _ (by rw [hvl, hlen]), hlen]
    rcases Nat.eq_zero_or_pos len with h0 | h0
    · subst h0
      have hl0 : l = [] := List.eq_nil_of_length_eq_zero (by omega)
      subst hl0
      rcases hown.2 with ⟨rfl, _⟩ | ⟨g, cap0, cur, rfl, _⟩
      · obtain ⟨v', w', hr, h2, h3, h4⟩ := run_append_own (P := P) w base t ty e i z 2 32 ht hi hz hsize hby hzs (by omega) _ _ _ hown ad 0 cap [] (by simp) (by simp) (by simp) (by unfold maxLen; omega) (by omega) hbase
        obtain rfl : v' = .slice none 0 0 := h4.2 ⟨rfl, rfl⟩
        refine ⟨_, w', hr, ?_, h3⟩
        rw [List.append_nil]
        refine ⟨⟨vs, hl, by simpa using h2, fun i h h' => (hsub i h h').still fun b hb1 hlt => h3.block b hlt (by simp [Value.ownBlock])⟩, hfit⟩
      · obtain ⟨w', hr, h2, h3⟩ := run_append_fits (P := P) w base t ty e i 2 ht hi hsize g _ cap0 _ hown ad 0 cap [] (by simp) (by simp) (by simp) (by
          rcases hown.2 with ⟨h, _⟩ | ⟨g', cap', cur', hv, _, _, hle, _⟩
          · cases h
          · cases hv; omega)
        refine ⟨_, w', hr, ?_, h3⟩
        rw [List.append_nil]
        refine ⟨⟨vs, hl, by simpa using h2, fun i h h' => ((hsub i h h').still fun b hb1 hlt => h3.block b hlt (fun e => hb1.2 e.symm)).more fun b _ hS => by simpa [Value.ownBlock] using hS⟩, hfit⟩
    · obtain ⟨g, cap', w', hr, h2, h3, h4, h5⟩ := run_append_lies (P := P) w t ty base e i z 2 32 ht hi hz hsize hby hzs (by omega) _ _ _ hown ad len cap _ hfl hnews R.one h0 (by unfold maxLen; omega) (by omega) hbase w.heap.size rfl
      refine ⟨_, w', hr, ?_, h3⟩
      have hat : v.ownBlock = some g ∨ w.heap.size ≤ g := by
        rcases h4 with h4 | h4
        · exact .inl h4
        · exact .inr (by omega)
      refine Built.of (w := w) (v := v) (vs := vs ++ (List.range len).map sv) (by simp [hlen]) (by simp [hl, hlen]) hpart hfit' ?_ (fun k hk hne => h3.block k hk hne) hat
      rw [flat_append _ _ _ _ hl]
      exact h2
/-- the same, as a step of the walk -/
theorem wpList_append_row {P : Program} {w : World} {ops : Array Oper} {rest : List Oper} {o : Oper} {a : Act} {Q : Exit → Act → World → Prop} (hgd : o.guard = none) (s x : Operand) (t : TypeId)
    (ho : o.op = .call { callee := .builtin .append, args := #[s, x], argTypes := #[t, t] })
    (base : Nat) (e : TypeId) (i : TypeInfo) (z : Value) (ht : P.underlying t = some (.slice e)) (hi : P.info? e = some i) (hz : i.zero = some z)
    (hsize : i.size = 2) (hby : i.bytes = 32) (hzs : z.cells.size = 2) {S : Nat → Prop} {v : Value} {ts l : List Tm} (hs : a.eval s = v) (hB : Built w base S e v ts) (hbase : base ≤ w.heap.size)
    {w0 : World} {S0 : Nat → Prop} {ao : Option Addr} {b off len cap : Nat} {k : Nat → Int} {sv : Nat → Value} {tt : Nat → List Tm} (hx : a.eval x = .slice ao len cap) (R : RowAt w0 S0 ao b off len cap k sv tt l) (hb : Below w0.heap.size w0 w)
    (hS : ∀ b, b < w0.heap.size → S0 b → S b ∧ v.ownBlock ≠ some b) (hn : ts.length + len ≤ 1000000)
    (h : ∀ v' w', Built w' base S e v' (ts ++ l) → w.grownBy w' v.ownBlock → wpList P ops Q rest (a.put o.dst v') w') : wpList P ops Q (o :: rest) a w := by
  refine wpList_plain hgd fun K hK => ?_
  obtain ⟨v', w', hr, h2, h3⟩ := run_append_row (P := P) w t o.type base e i z ht hi hz hsize hby hzs hB hbase R hb hS hn
  unfold Oper.wp execOp
  simp only [ho, resolve, invoke, builtin, Sem.run_bind, Sem.run_pure, Result.andThen_ok, List.map_toArray, List.map_cons, List.map_nil, hs, hx, hr]
  exact hK _ _ (h v' w' h2 h3)
end Sp
end Go.Proofs.Ytieakippgeehgaa
