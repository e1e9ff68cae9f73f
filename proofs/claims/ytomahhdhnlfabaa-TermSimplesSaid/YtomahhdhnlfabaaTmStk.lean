/- A stack of terms that a call keeps in a row of its own: popped and appended to. Nothing of the program is imported. -/
import Derived.Test.YtomahhdhnlfabaaTmRenP
import Derived.Deep.RegionLaw
namespace Go
open Go.RowKit

section
variable {P : Program} (w : World)
theorem run_append_nil_src (base : Nat) (t ty e : TypeId) (i : TypeInfo) (size : Nat) (ht : P.underlying t = some (.slice e)) (hi : P.info? e = some i)
    (v : Value) (n c : Nat) (xs : List Value) (hown : w.ownsRow base e size v n xs) :
    (Builtin.append_ #[t, t] ty #[v, .slice none 0 c]).run P w = .ok v w := by
  rcases hown.2 with ⟨rfl, rfl⟩ | ⟨g, cap, cur, rfl, _, _, hnc, _⟩
  · simp [Builtin.append_, run_underlying ht, sizeOf, typeInfo, hi, Builtin.lenOf, Builtin.firstCells]
  · simp [Builtin.append_, run_underlying ht, sizeOf, typeInfo, hi, Builtin.lenOf, Builtin.firstCells, hnc, storeCells]

/-- append to a row of the call's own, whatever is appended: nothing, from a nil slice, or some. -/
theorem run_append_any (t ty : TypeId) (base : Nat) (e : TypeId) (i : TypeInfo) (z : Value) (size bytes : Nat) (ht : P.underlying t = some (.slice e)) (hi : P.info? e = some i) (hz : i.zero = some z)
    (hsize : i.size = size) (hby : i.bytes = bytes) (hzs : z.cells.size = size) (hsz : 0 < size)
    (g0 n cap0 : Nat) (xs : List Value) (hown : w.ownsRow base e size (.slice (some ⟨g0, 0, none⟩) n cap0) n xs)
    (ao : Option Addr) (m c : Nat) (news : List Value) (hl : news.length = m * size) (hao : ao = none → m = 0) (hnews : ∀ ad, ao = some ad → ∀ j u, news[j]? = some u → w.cell? (ad.add j) = some u) (h1 : ∀ u ∈ news, u.oneCell' = true)
    (h63 : n + m ≤ maxLen) (hbytes : (n + m) * bytes ≤ 140737488355328) (hbase : base ≤ w.heap.size) :
    ∃ g cap w', (Builtin.append_ #[t, t] ty #[.slice (some ⟨g0, 0, none⟩) n cap0, .slice ao m c]).run P w = .ok (.slice (some ⟨g, 0, none⟩) (n + m) cap) w' ∧
      w'.ownsRow base e size (.slice (some ⟨g, 0, none⟩) (n + m) cap) (n + m) (xs ++ news) ∧ w.grownBy w' (some g0) ∧ (g = g0 ∨ g = w.heap.size) ∧ g < w'.heap.size := by
  have hlt0 : g0 < w.heap.size := by
    rcases hown.2 with ⟨h, _⟩ | ⟨g, cap, cur, hv, _, hg, _⟩
    · cases h
    · cases hv; exact (Array.getElem?_eq_some_iff.1 hg).1
  have hcap : n ≤ cap0 := by
    rcases hown.2 with ⟨h, _⟩ | ⟨g, cap, cur, hv, _, hg, hle, _⟩
    · cases h
    · cases hv; exact hle
  cases ao with
  | none =>
    obtain rfl := hao rfl
    obtain rfl : news = [] := List.eq_nil_of_length_eq_zero (by simpa using hl)
    exact ⟨g0, cap0, w, run_append_nil_src w base t ty e i size ht hi _ n c xs hown, by simpa using hown, World.grownBy.refl _ _, .inl rfl, hlt0⟩
  | some ad =>
    by_cases hm : 0 < m
    · obtain ⟨g, cap, w', hr, h2, h3, h4, h5⟩ := run_append_lies (P := P) w t ty base e i z size bytes ht hi hz hsize hby hzs hsz _ n xs hown ad m c news hl (hnews ad rfl) h1 hm h63 hbytes hbase w.heap.size rfl
      exact ⟨g, cap, w', hr, h2, h3, by rcases h4 with h4 | h4
                                        · exact .inl (by simpa [Value.ownBlock] using h4.symm)
                                        · exact .inr h4, h5⟩
    · obtain rfl : m = 0 := by omega
      obtain ⟨w', hr, h2, h3⟩ := run_append_fits (P := P) w base t ty e i size ht hi hsize g0 n cap0 xs hown ad 0 c news hl (hnews ad rfl) h1 (by omega)
      exact ⟨g0, cap0, w', hr, h2, h3, .inl rfl, Nat.lt_of_lt_of_le hlt0 h3.size⟩
end

theorem step_append_any {P : Program} {w : World} {ops : Array Oper} {o : Oper} {a : Act} {K : Act → World → Prop} {Q : Exit → Act → World → Prop} {E : Prop} (hgd : o.guard = none) (s x : Operand) (t : TypeId)
    (ho : o.op = .call { callee := .builtin .append, args := #[s, x], argTypes := #[t, t] })
    (base : Nat) (e : TypeId) (i : TypeInfo) (z : Value) (size bytes : Nat) (ht : P.underlying t = some (.slice e)) (hi : P.info? e = some i) (hz : i.zero = some z)
    (hsize : i.size = size) (hby : i.bytes = bytes) (hzs : z.cells.size = size) (hsz : 0 < size)
    (g0 n cap0 : Nat) (xs : List Value) (hs : a.eval s = .slice (some ⟨g0, 0, none⟩) n cap0) (hown : w.ownsRow base e size (.slice (some ⟨g0, 0, none⟩) n cap0) n xs)
    (ao : Option Addr) (m c : Nat) (news : List Value) (hx : a.eval x = .slice ao m c) (hl : news.length = m * size) (hao : ao = none → m = 0) (hnews : ∀ ad, ao = some ad → ∀ j u, news[j]? = some u → w.cell? (ad.add j) = some u) (h1 : ∀ u ∈ news, u.oneCell' = true)
    (h63 : n + m ≤ maxLen) (hbytes : (n + m) * bytes ≤ 140737488355328) (hbase : base ≤ w.heap.size)
    (h : ∀ g cap w', w'.ownsRow base e size (.slice (some ⟨g, 0, none⟩) (n + m) cap) (n + m) (xs ++ news) → w.grownBy w' (some g0) → (g = g0 ∨ g = w.heap.size) → g < w'.heap.size → K (a.put o.dst (.slice (some ⟨g, 0, none⟩) (n + m) cap)) w') :
    if Region.wanted o (yielded ops a.tmps) = true then Oper.wp P o a w K Q else E := by
  have hw : Region.wanted o (yielded ops a.tmps) = true := by simp [Region.wanted, hgd]
  rw [if_pos hw]
  obtain ⟨g, cap, w', hr, h2, h3, h4, h5⟩ := run_append_any (P := P) w t o.type base e i z size bytes ht hi hz hsize hby hzs hsz g0 n cap0 xs hown ao m c news hl hao hnews h1 h63 hbytes hbase
  unfold Oper.wp execOp
  simp only [ho, resolve, invoke, builtin, Sem.run_bind, Sem.run_pure, Result.andThen_ok, List.map_toArray, List.map_cons, List.map_nil, hs, hx, hr]
  exact h g cap w' h2 h3 h4 h5

theorem wpList_append_any {P : Program} {w : World} {ops : Array Oper} {rest : List Oper} {o : Oper} {a : Act} {Q : Exit → Act → World → Prop} (hgd : o.guard = none) (s x : Operand) (t : TypeId)
    (ho : o.op = .call { callee := .builtin .append, args := #[s, x], argTypes := #[t, t] })
    (base : Nat) (e : TypeId) (i : TypeInfo) (z : Value) (size bytes : Nat) (ht : P.underlying t = some (.slice e)) (hi : P.info? e = some i) (hz : i.zero = some z)
    (hsize : i.size = size) (hby : i.bytes = bytes) (hzs : z.cells.size = size) (hsz : 0 < size)
    (g0 n cap0 : Nat) (xs : List Value) (hs : a.eval s = .slice (some ⟨g0, 0, none⟩) n cap0) (hown : w.ownsRow base e size (.slice (some ⟨g0, 0, none⟩) n cap0) n xs)
    (ao : Option Addr) (m c : Nat) (news : List Value) (hx : a.eval x = .slice ao m c) (hl : news.length = m * size) (hao : ao = none → m = 0) (hnews : ∀ ad, ao = some ad → ∀ j u, news[j]? = some u → w.cell? (ad.add j) = some u) (h1 : ∀ u ∈ news, u.oneCell' = true)
    (h63 : n + m ≤ maxLen) (hbytes : (n + m) * bytes ≤ 140737488355328) (hbase : base ≤ w.heap.size)
    (h : ∀ g cap w', w'.ownsRow base e size (.slice (some ⟨g, 0, none⟩) (n + m) cap) (n + m) (xs ++ news) → w.grownBy w' (some g0) → (g = g0 ∨ g = w.heap.size) → g < w'.heap.size → wpList P ops Q rest (a.put o.dst (.slice (some ⟨g, 0, none⟩) (n + m) cap)) w') : wpList P ops Q (o :: rest) a w := by
  refine wpList_plain hgd fun K hK => ?_
  obtain ⟨g, cap, w', hr, h2, h3, h4, h5⟩ := run_append_any (P := P) w t o.type base e i z size bytes ht hi hz hsize hby hzs hsz g0 n cap0 xs hown ao m c news hl hao hnews h1 h63 hbytes hbase
  unfold Oper.wp execOp
  simp only [ho, resolve, invoke, builtin, Sem.run_bind, Sem.run_pure, Result.andThen_ok, List.map_toArray, List.map_cons, List.map_nil, hs, hx, hr]
  exact hK _ _ (h g cap w' h2 h3 h4 h5)
end Go

namespace Go.Proofs.Ytomahhdhnlfabaa
open Go.RowKit

theorem flat_append : ∀ (ts ts' : List Tm) (vs vs' : List Value), ts.length = vs.length → flat (ts ++ ts') (vs ++ vs') = flat ts vs ++ flat ts' vs'
  | [], _, [], _, _ => rfl
  | t :: ts, ts', v :: vs, vs', h => by simp only [List.cons_append, flat, flat_append ts ts' vs vs' (by simpa using h)]
  | [], _, _ :: _, _, h => by simp at h
  | _ :: _, _, [], _, h => by simp at h

/-- the cells of a row of terms, read as one list -/
theorem flat_at {w : World} {b off : Nat} (ts : List Tm) (vs : List Value) (hl : ts.length = vs.length)
    (h : ∀ i (h : i < ts.length) (h' : i < vs.length), w.cell? ⟨b, off + i * 4, none⟩ = some (.int .i64 ts[i].op) ∧ w.cell? ⟨b, off + i * 4 + 1, none⟩ = some (.int .i64 ts[i].hd) ∧ w.cell? ⟨b, off + i * 4 + 2, none⟩ = some (.int .i64 ts[i].n) ∧ w.cell? ⟨b, off + i * 4 + 3, none⟩ = some vs[i]) :
    ∀ j u, (flat ts vs)[j]? = some u → w.cell? ((⟨b, off, none⟩ : Addr).add j) = some u := by
  intro j u hu
  have hj : j < ts.length * 4 := by rw [← flat_length ts vs hl]; exact (List.getElem?_eq_some_iff.1 hu).1
  have hq : j / 4 < ts.length := by omega
  have h0 := h (j / 4) hq (by omega)
  have hf := flat_get ts vs (j / 4) hq (by omega)
  have hm : j = j / 4 * 4 + j % 4 := by omega
  have hlt : j % 4 < 4 := by omega
  rw [Addr.add_lit]
  generalize j % 4 = r at hm hlt
  rw [hm] at hu ⊢
  match r, hlt with
  | 0, _ => rw [Nat.add_zero] at hu ⊢; rw [hf.1] at hu; rw [← hu]; exact h0.1
  | 1, _ => rw [hf.2.1] at hu; rw [← hu]; exact h0.2.1
  | 2, _ => rw [hf.2.2.1] at hu; rw [← hu]; exact h0.2.2.1
  | 3, _ => rw [hf.2.2.2] at hu; rw [← hu]; exact h0.2.2.2

theorem flat_one : ∀ (ts : List Tm) (vs : List Value), (∀ v ∈ vs, v.oneCell' = true) → ∀ u ∈ flat ts vs, u.oneCell' = true
  | t :: ts, v :: vs, h, u, hu => by
    simp only [flat, List.mem_cons] at hu
    rcases hu with rfl | rfl | rfl | rfl | hu
    · rfl
    · rfl
    · rfl
    · exact h _ (by simp)
    · exact flat_one ts vs (fun v hv => h v (by simp [hv])) u hu
  | [], _, _, u, hu => by simp [flat] at hu
  | _ :: _, [], _, u, hu => by simp [flat] at hu

/-- A stack of terms in a row of the call's own (block g), whose spines lie in blocks of S, all older. -/
structure Stk (w : World) (base : Nat) (e : TypeId) (g n cap : Nat) (ts : List Tm) (vs : List Value) : Prop where
  len : ts.length = n
  hl : ts.length = vs.length
  own : w.ownsRow base e 4 (.slice (some ⟨g, 0, none⟩) n cap) n (flat ts vs)
  sub : ∀ i (h : i < ts.length) (h' : i < vs.length), Lies w (· < base) vs[i] ts[i].args
  fit : ∀ t ∈ ts, t.fit

section
variable {w w' : World} {base : Nat} {e : TypeId} {g n cap : Nat} {ts : List Tm} {vs : List Value}
theorem Stk.block (H : Stk w base e g n cap ts vs) : base ≤ g ∧ g < w.heap.size := H.own.lt g rfl
theorem Stk.keep (H : Stk w base e g n cap ts vs) (hg : w'.heap[g]? = w.heap[g]?) (hb : ∀ b, b < base → b < w.heap.size → w'.heap[b]? = w.heap[b]?) : Stk w' base e g n cap ts vs := by
  refine ⟨H.len, H.hl, ⟨H.own.1, ?_⟩, fun i h h' => (H.sub i h h').still hb, H.fit⟩
  rcases H.own.2 with hn | ⟨g', cap', cur, hv, hb', hh, rest⟩
  · exact .inl hn
  · have : g' = g := by simpa [Value.ownBlock] using (congrArg Value.ownBlock hv).symm
    subst this
    exact .inr ⟨g', cap', cur, hv, hb', hg.trans hh, rest⟩
theorem Stk.below (H : Stk w base e g n cap ts vs) (hb : Below w.heap.size w w') : Stk w' base e g n cap ts vs := H.keep (hb.block _ H.block.2) fun b _ h => hb.block b h
theorem Stk.other {k : Nat} (H : Stk w base e g n cap ts vs) (hg : w.grownBy w' (some k)) (hk : k ≠ g) (hkb : base ≤ k) : Stk w' base e g n cap ts vs :=
  H.keep (hg.block _ H.block.2 (by simpa using (Ne.symm hk))) fun b h1 h2 => hg.block b h2 (by simp; omega)
/-- the last one, taken off -/
theorem Stk.pop {t : Tm} {v : Value} (H : Stk w base e g (n + 1) cap (ts ++ [t]) (vs ++ [v])) : Stk w base e g n cap ts vs := by
  have hlen := H.len
  have hl := H.hl
  simp only [List.length_append, List.length_singleton] at hlen hl
  have hl' : ts.length = vs.length := by omega
  refine ⟨by omega, hl', ⟨by rw [flat_length _ _ hl']; omega, ?_⟩, fun i h h' => ?_, fun t ht => H.fit t (by simp [ht])⟩
  · rcases H.own.2 with ⟨h, _⟩ | ⟨g', cap', cur, hv, hb', hh, hle, hmx, hsz, htk⟩
    · cases h
    · cases hv
      refine .inr ⟨g, cap, cur, rfl, hb', hh, by omega, hmx, hsz, ?_⟩
      rw [flat_append _ _ _ _ hl'] at htk
      have h4 : (flat ts vs).length = n * 4 := by rw [flat_length _ _ hl']; omega
      have := congrArg (List.take (n * 4)) htk
      rwa [List.take_take, Nat.min_eq_left (by omega), List.take_left' h4] at this
  · have := H.sub i (by simp; omega) (by simp; omega)
    rwa [List.getElem_append_left h, List.getElem_append_left h'] at this
/-- the cells of the last one -/
theorem Stk.top {t : Tm} {v : Value} (H : Stk w base e g (n + 1) cap (ts ++ [t]) (vs ++ [v])) :
    w.cell? ⟨g, n * 4, none⟩ = some (.int .i64 t.op) ∧ w.cell? ⟨g, n * 4 + 1, none⟩ = some (.int .i64 t.hd) ∧ w.cell? ⟨g, n * 4 + 2, none⟩ = some (.int .i64 t.n) ∧ w.cell? ⟨g, n * 4 + 3, none⟩ = some v ∧ Lies w (· < base) v t.args ∧ t.fit ∧ n + 1 ≤ cap ∧ cap ≤ 9223372036854775807 := by
  have hlen := H.len
  have hl := H.hl
  simp only [List.length_append, List.length_singleton] at hlen hl
  have hn : ts.length = n := by omega
  have hv : vs.length = n := by omega
  have hcells := @World.ownsRow.cells w base e 4 _ (n + 1) _ H.own g rfl
  have hf := flat_get (ts ++ [t]) (vs ++ [v]) n (by simp [hn]) (by simp [hv])
  have e1 : (ts ++ [t])[n]'(by simp [hn]) = t := by simp [List.getElem_append_right, hn]
  have e2 : (vs ++ [v])[n]'(by simp [hv]) = v := by simp [List.getElem_append_right, hv]
  rw [e1, e2] at hf
  have hs := H.sub n (by simp [hn]) (by simp [hv])
  rw [e1, e2] at hs
  have go : ∀ j u, (flat (ts ++ [t]) (vs ++ [v]))[j]? = some u → w.cell? ⟨g, j, none⟩ = some u := fun j u hu => by
    have := hcells j u hu
    rw [Addr.add_lit, Nat.zero_add] at this
    exact this
  refine ⟨go _ _ hf.1, go _ _ hf.2.1, go _ _ hf.2.2.1, go _ _ hf.2.2.2, hs, H.fit t (by simp), ?_⟩
  rcases H.own.2 with ⟨h, _⟩ | ⟨g', cap', cur, hv', hb', hh, hle, hmx, _⟩
  · cases h
  · cases hv'; exact ⟨hle, by unfold maxLen at hmx; exact hmx⟩
/-- some more, appended -/
theorem Stk.push {ts' : List Tm} {vs' : List Value} {g' cap' m : Nat} (H : Stk w base e g n cap ts vs) (hl : ts'.length = vs'.length) (hm : ts'.length = m) (hs : ∀ i (h : i < ts'.length) (h' : i < vs'.length), Lies w (· < base) vs'[i] ts'[i].args) (hf : ∀ t ∈ ts', t.fit)
    (hown : w'.ownsRow base e 4 (.slice (some ⟨g', 0, none⟩) (n + m) cap') (n + m) (flat ts vs ++ flat ts' vs')) (hgrow : w.grownBy w' (some g)) : Stk w' base e g' (n + m) cap' (ts ++ ts') (vs ++ vs') := by
  have hb : ∀ b, b < base → b < w.heap.size → w'.heap[b]? = w.heap[b]? := fun b h1 h2 => hgrow.block b h2 (by have := H.block; simp; omega)
  refine ⟨by simp [H.len, hm], by simp [H.hl, hl], by rw [flat_append _ _ _ _ H.hl]; exact hown, fun i h h' => ?_, fun t ht => ?_⟩
  · by_cases hi : i < ts.length
    · rw [List.getElem_append_left hi, List.getElem_append_left (by rw [← H.hl]; exact hi)]
      exact (H.sub i hi (by rw [← H.hl]; exact hi)).still hb
    · have hvl := H.hl
      rw [List.getElem_append_right (as := ts) (by omega), List.getElem_append_right (as := vs) (by omega)]
      have := hs (i - ts.length) (by simp at h; omega) (by simp at h'; have := H.hl; omega)
      have e : i - vs.length = i - ts.length := by rw [H.hl]
      simp only [e]
      exact this.still hb
  · rcases List.mem_append.1 ht with h | h
    · exact H.fit t h
    · exact hf t h
theorem Stk.one {o h n : Int} {v : Value} {l : List Tm} {b : Nat} (hb : base ≤ b) (hh : w.heap[b]? = some (.cells #[.int .i64 o, .int .i64 h, .int .i64 n, v] e (0, 0))) (hv : Lies w (· < base) v l) (hf : (Tm.mk o h n l).fit) : Stk w base e b 1 1 [.mk o h n l] [v] := by
  refine ⟨rfl, rfl, ⟨rfl, .inr ⟨b, 1, _, rfl, hb, hh, Nat.le_refl _, by unfold maxLen; omega, rfl, rfl⟩⟩, ?_, fun t ht => by simp at ht; rw [ht]; exact hf⟩
  intro i h h'
  obtain rfl : i = 0 := by simpa using h
  exact hv
end
end Go.Proofs.Ytomahhdhnlfabaa
