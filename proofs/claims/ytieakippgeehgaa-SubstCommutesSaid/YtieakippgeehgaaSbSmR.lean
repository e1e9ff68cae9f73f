/- The contracts of the reference's constants, Small, number. -/
import Derived.Test.YtieakippgeehgaaSbGa
namespace Go.Proofs.Ytieakippgeehgaa.Sb
open Go.RowKit
set_option linter.unusedSimpArgs false
set_option linter.unusedVariables false

mutual
/-- how many constants a simple type has, or one more than the most, or -1 -/
def consT : Int → Sp.Tm → Int
  | m, .mk n l => if isNum n then consL m 1 l else -1
def consL : Int → Int → List Sp.Tm → Int
  | m, c, [] => min c (m + 1)
  | m, c, a :: l => if c ≤ m then (if consT (m - c) a < 0 then -1 else consL m (c + consT (m - c) a) l) else min c (m + 1)
end
mutual
theorem consT_val : ∀ (s : Sp.Tm) (m : Int), 0 ≤ m → ((Sp.Tm.okN s = true ∧ (Sp.Tm.sz s : Int) ≤ m) → consT m s = Sp.Tm.sz s) ∧ (¬ (Sp.Tm.okN s = true ∧ (Sp.Tm.sz s : Int) ≤ m) → consT m s = -1 ∨ consT m s = m + 1)
  | .mk n l, m, hm => by
    have h := consL_val l 1 m hm (by omega) (by omega)
    simp only [consT, Sp.Tm.okN, Sp.Tm.sz, Bool.and_eq_true]
    rcases isNum n with _ | _
    · simp
    · simp only [if_true, true_and]
      refine ⟨fun e => ?_, fun e => ?_⟩
      · rw [h.1 ⟨e.1, by omega⟩]; omega
      · exact h.2 (fun e' => e ⟨e'.1, by omega⟩)
theorem consL_val : ∀ (l : List Sp.Tm) (c m : Int), 0 ≤ m → 1 ≤ c → c ≤ m + 1 → ((Sp.Tm.okL l = true ∧ c + (Sp.Tm.szL l : Int) ≤ m) → consL m c l = c + Sp.Tm.szL l) ∧ (¬ (Sp.Tm.okL l = true ∧ c + (Sp.Tm.szL l : Int) ≤ m) → consL m c l = -1 ∨ consL m c l = m + 1)
  | [], c, m, hm, h1, h2 => by
    simp only [consL, Sp.Tm.okL, Sp.Tm.szL, true_and]
    refine ⟨fun e => by omega, fun e => .inr (by omega)⟩
  | a :: l, c, m, hm, h1, h2 => by
    simp only [consL, Sp.Tm.okL, Sp.Tm.szL, Bool.and_eq_true]
    have hp := Sp.Tm.sz_pos a
    by_cases hc : c ≤ m
    · rw [if_pos hc]
      have ha := consT_val a (m - c) (by omega)
      by_cases hok : Sp.Tm.okN a = true ∧ (Sp.Tm.sz a : Int) ≤ m - c
      · rw [ha.1 hok, if_neg (by omega)]
        have hl := consL_val l (c + Sp.Tm.sz a) m hm (by omega) (by omega)
        refine ⟨fun e => ?_, fun e => hl.2 (fun e' => e ⟨⟨hok.1, e'.1⟩, by omega⟩)⟩
        rw [hl.1 ⟨e.1.2, by omega⟩]; omega
      · refine ⟨fun e => absurd ⟨e.1.1, by omega⟩ hok, fun _ => ?_⟩
        rcases ha.2 hok with e | e
        · rw [e, if_pos (by omega)]; exact .inl rfl
        · rw [e, if_neg (by omega)]
          have hl := consL_val l (c + (m - c + 1)) m hm (by omega) (by omega)
          exact hl.2 (fun e' => by omega)
    · rw [if_neg hc]
      refine ⟨fun e => by omega, fun _ => .inr (by omega)⟩
end
theorem consT_bd (s : Sp.Tm) (m : Int) (hm : 0 ≤ m) : consT m s = -1 ∨ (1 ≤ consT m s ∧ consT m s ≤ m + 1) := by
  have h := consT_val s m hm
  have := Sp.Tm.sz_pos s
  by_cases e : Sp.Tm.okN s = true ∧ (Sp.Tm.sz s : Int) ≤ m
  · rw [h.1 e]; right; omega
  · rcases h.2 e with e | e <;> omega
/-- the reference's Small is small -/
theorem cons_small (s : Sp.Tm) : (decide (1 ≤ consT 600 s) && decide (consT 600 s ≤ 600)) = Sp.Tm.small s := by
  have h := consT_val s 600 (by omega)
  have hp := Sp.Tm.sz_pos s
  unfold Sp.Tm.small Sp.Tm.smallIn
  rw [Bool.eq_iff_iff]
  simp only [Bool.and_eq_true, decide_eq_true_eq]
  by_cases e : Sp.Tm.okN s = true ∧ (Sp.Tm.sz s : Int) ≤ 600
  · rw [h.1 e]
    exact ⟨fun _ => ⟨e.1, by omega⟩, fun _ => by omega⟩
  · refine ⟨fun e2 => ?_, fun e2 => absurd ⟨e2.1, by omega⟩ e⟩
    rcases h.2 e with e3 | e3 <;> omega

/-- what is asked of a call of constants -/
def ConsOk (f : Nat) : Prop := ∀ (n m : Int) (l : List Sp.Tm) (v : Value) (w : World), Sp.Tm.sz (.mk n l) ≤ f → 0 ≤ m → m ≤ 600 → Sp.Lies w (fun _ => True) v l →
  Calls Try.prog 70 #[.agg #[v, .int .i64 n], .int .i64 m] w fun e w' => e = .returned (.int .i64 (consT m (.mk n l))) ∧ Below w.heap.size w w'

set_option maxHeartbeats 4000000 in
set_option maxRecDepth 100000 in
theorem cons_walk (f : Nat) (ih : ConsOk f) : ConsOk (f + 1) := by
  intro n m l v w hf hm0 hm6 hv
  obtain ⟨ao, b, off, len, cap, kk, sv, ts, rfl, R⟩ := hv.open
  have hr := R.hr
  have hl := R.hl
  have HL := Lib.hid R.length
  have HF := Lib.hid hf
  have hh0 := heap_alloc_new w (.cells #[.slice ao len cap, .int .i64 n] 27)
  have HH := Lib.hid hh0
  have hb0 := one_below w (.cells #[.slice ao len cap, .int .i64 n] 27)
  have HB := Lib.hid hb0
  clear hf hv hh0 hb0
  by_cases h0 : n < 0
  · have HE : Hid (consT m (.mk n l) = -1) := Lib.hid (by
      have e : isNum n = false := by simp [isNum]; omega
      simp only [consT, e]; rfl)
    clear R
    go_enter Try.func70, Try.ntmps70
    go_wp2_with fail
    go_ret
    exact ⟨ret_int HE.out.symm, HB.out⟩
  · by_cases h9 : 9999 < n
    · have HE : Hid (consT m (.mk n l) = -1) := Lib.hid (by
        have e : isNum n = false := by simp [isNum]; omega
        simp only [consT, e]; rfl)
      have h0' : 0 ≤ n := by omega
      clear R
      go_enter Try.func70, Try.ntmps70
      go_wp2_with fail
      go_ret
      exact ⟨ret_int HE.out.symm, HB.out⟩
    · have HE : Hid (consT m (.mk n l) = consL m 1 l) := Lib.hid (by
        have e : isNum n = true := by simp [isNum]; omega
        simp only [consT, e]; rfl)
      have h0' : 0 ≤ n := by omega
      have h9' : n ≤ 9999 := by omega
      have HR := Lib.hid R
      clear R
      go_enter Try.func70, Try.ntmps70
      go_wp2_with fail
      go_loopw [5, 6] (fun c i wr => ∃ (j : Nat) (x : Int), j ≤ len ∧ i = .int .i64 j ∧ c = .int .i64 x ∧ 1 ≤ x ∧ x ≤ m + 1 ∧ Hid (consL m 1 l = consL m x (l.drop j)) ∧ Below w.heap.size w wr ∧ wr.heap[w.heap.size]? = some (.cells #[.slice ao len cap, .int .i64 n] 27 (0, 0))) (fun _ i _ => len - (intOf i).toNat)
      case atStart => exact ⟨0, 1, Nat.zero_le _, rfl, rfl, by omega, by omega, Lib.hid rfl, HB.out, HH.out⟩
      case round =>
        obtain ⟨j, x, hj, rfl, rfl, hx1, hx2, hcon, hbr, hbx⟩ := hrel
        have HBR := Lib.hid (And.intro hbr hbx)
        have q0 := cell_in hbx 0 _ rfl
        have q1 := cell_in hbx 1 _ rfl
        by_cases hlt : j < len
        · have hj0 : (0 : Int) ≤ (j : Int) := by omega
          have hj1 : (j : Int) < (len : Int) := by omega
          by_cases hxm : x ≤ m
          · obtain rfl := HR.out.hao (by omega)
            obtain ⟨d0, d1, hsub⟩ := HR.out.at hbr j hlt
            obtain ⟨a5, n5, m5, hs5⟩ := hsub.isSlice
            rw [hs5] at d0 hsub
            have hjl : j < l.length := by rw [HL.out]; exact hlt
            have hg : l[j] = .mk (kk j) (ts j) := HR.out.get j hlt
            have hszj : Sp.Tm.sz (.mk (kk j) (ts j)) ≤ f := by
              have h1 := Sp.Tm.szL_le_of_mem (List.getElem_mem hjl)
              have h2 := HF.out
              rw [hg] at h1
              simp only [Sp.Tm.sz] at h1 h2 ⊢
              omega
            have call := ih (kk j) (m - x) (ts j) (.slice a5 n5 m5) wr hszj (by omega) (by omega) hsub
            have hbd := consT_bd (.mk (kk j) (ts j)) (m - x) (by omega)
            have hst : consL m x (l.drop j) = if consT (m - x) (.mk (kk j) (ts j)) < 0 then -1 else consL m (x + consT (m - x) (.mk (kk j) (ts j))) (l.drop (j + 1)) := by
              rw [List.drop_eq_getElem_cons hjl, hg]
              simp only [consL]
              rw [if_pos hxm]
            generalize consT (m - x) (.mk (kk j) (ts j)) = y at call hbd hst
            have HCON := Lib.hid (hcon.out.trans hst)
            clear hbr hbx hcon hst hs5 hsub hg hszj hjl
            by_cases hy : y < 0
            · have HC2 : Hid (consL m 1 l = -1) := Lib.hid (by rw [HCON.out, if_pos hy])
              clear hbd
              go_wp2_with fail
              refine call.mono ?_
              rintro e w2 ⟨rfl, hb2⟩
              go_wp2_with fail
              go_ret
              exact ⟨ret_int (by rw [HE.out, HC2.out]), below_next HBR.out.1 hb2⟩
            · have hy1 : 1 ≤ y ∧ y ≤ m - x + 1 := by omega
              have hy0 : 0 ≤ y := by omega
              have hyx := hy1.2
              have HC2 : Hid (consL m 1 l = consL m (x + y) (l.drop (j + 1))) := Lib.hid (by rw [HCON.out, if_neg hy])
              clear hbd hy1
              go_wp2_with fail
              refine call.mono ?_
              rintro e w2 ⟨rfl, hb2⟩
              go_wp2_with fail
              go_roundw
              case rel => exact ⟨j + 1, x + y, by omega, by go_num, rfl, by omega, by omega, HC2, below_next HBR.out.1 hb2, heap_kept hb2 HBR.out.2⟩
              case measure => simp [intOf]; omega
          · have hxe : m < x := by omega
            have HC2 : Hid (consL m 1 l = min x (m + 1)) := Lib.hid (by
              rw [hcon.out, List.drop_eq_getElem_cons (by rw [HL.out]; exact hlt)]
              simp only [consL]
              rw [if_neg hxm])
            clear hbr hbx hcon
            go_wp2_with fail
            go_ret
            exact ⟨ret_int (by rw [HE.out, HC2.out]; omega), HBR.out.1⟩
        · obtain rfl : j = len := by omega
          have HC2 : Hid (consL m 1 l = min x (m + 1)) := Lib.hid (by
            rw [hcon.out, List.drop_of_length_le (by rw [HL.out]; exact Nat.le_refl _)]
            simp only [consL])
          clear hbr hbx hcon
          go_wp2_with fail
          go_ret
          exact ⟨ret_int (by rw [HE.out, HC2.out]; omega), HBR.out.1⟩

theorem cons_calls : ∀ f : Nat, ConsOk f
  | 0 => fun n m l v w hf => by have := Sp.Tm.sz_pos (.mk n l); omega
  | f + 1 => cons_walk f (cons_calls f)

set_option maxHeartbeats 1000000 in
set_option maxRecDepth 100000 in
/-- the contract of Small -/
theorem smallR_any (n : Int) (v : Value) (l : List Sp.Tm) (w : World) (hv : Sp.Lies w (fun _ => True) v l) :
    Calls Try.prog 29 #[.agg #[v, .int .i64 n]] w fun e w' => e = .returned (.bool (Sp.Tm.small (.mk n l))) ∧ Below w.heap.size w w' := by
  obtain ⟨a1, n1, m1, rfl⟩ := hv.isSlice
  have hb0 := one_below w (.cells #[.slice a1 n1 m1, .int .i64 n] 27)
  have call := cons_calls _ n 600 l _ _ (Nat.le_refl _) (by omega) (by omega) (hv.keep hb0)
  have HS := Lib.hid (cons_small (.mk n l))
  have hbd := consT_bd (.mk n l) 600 (by omega)
  generalize consT 600 (.mk n l) = x at call HS hbd
  have HB := Lib.hid hb0
  clear hb0 hv
  by_cases h1 : 1 ≤ x
  · by_cases h6 : x ≤ 600
    · have HE : Hid (Sp.Tm.small (.mk n l) = true) := Lib.hid (by rw [← HS.out]; simp [h1, h6])
      clear hbd
      rw [HE.out]
      go_enter Try.func29, Try.ntmps29
      go_wp2_with fail
      refine call.mono ?_
      rintro e w2 ⟨rfl, hb2⟩
      go_wp2_with fail
      go_ret
      exact ⟨rfl, below_next HB.out hb2⟩
    · have HE : Hid (Sp.Tm.small (.mk n l) = false) := Lib.hid (by rw [← HS.out]; simp [h6])
      clear hbd
      rw [HE.out]
      go_enter Try.func29, Try.ntmps29
      go_wp2_with fail
      refine call.mono ?_
      rintro e w2 ⟨rfl, hb2⟩
      go_wp2_with fail
      go_ret
      exact ⟨by simp [h6], below_next HB.out hb2⟩
  · have HE : Hid (Sp.Tm.small (.mk n l) = false) := Lib.hid (by rw [← HS.out]; simp [h1])
    clear hbd
    rw [HE.out]
    go_enter Try.func29, Try.ntmps29
    go_wp2_with fail
    refine call.mono ?_
    rintro e w2 ⟨rfl, hb2⟩
    go_wp2_with fail
    go_ret
    exact ⟨rfl, below_next HB.out hb2⟩

theorem numberR_any (n : Int) (w : World) : Calls Try.prog 46 #[.int .i64 n] w fun e w' => e = .returned (.bool (isNum n)) ∧ w = w' := by
  unfold isNum
  rcases h0 : decide (0 ≤ n) with _ | _ <;> rcases h1 : decide (n ≤ 9999) with _ | _
  all_goals
    go_enter Try.func46, Try.ntmps46
    go_wp2
    go_ret
    exact ⟨rfl, rfl⟩

theorem proper_t (t : Tm) (S : Nat → Prop) (v : Value) (w : World) (hv : Lies w S v t.args) : Calls Try.prog 27 #[.agg #[.int .i64 t.op, .int .i64 t.hd, .int .i64 t.n, v]] w fun e w' => e = .returned (.bool (Tm.proper t)) ∧ Below w.heap.size w w' := by
  obtain ⟨o, h, n, l⟩ := t
  exact proper_any S o h n v l w hv

set_option maxHeartbeats 1000000 in
set_option maxRecDepth 100000 in
/-- the contract of whole -/
theorem wholeR_any (t : Tm) (v : Value) (w : World) (S : Nat → Prop) (hv : Lies w S v t.args) :
    Calls Try.prog 57 #[.agg #[.int .i64 t.op, .int .i64 t.hd, .int .i64 t.n, v]] w fun e w' => (if Tm.proper t then e = .returned (.tuple #[.agg #[.int .i64 t.op, .int .i64 t.hd, .int .i64 t.n, v], .int .i64 0]) else e = .returned (.tuple #[.agg #[.int .i64 0, .int .i64 0, .int .i64 0, .slice none 0 0], .int .i64 5])) ∧ Below w.heap.size w w' := by
  obtain ⟨a1, n1, m1, rfl⟩ := hv.isSlice
  have h2 := two_blocks w #[.int .i64 t.op, .int .i64 t.hd, .int .i64 t.n, .slice a1 n1 m1] #[.int .i64 0, .int .i64 0, .int .i64 0, .slice none 0 0] 24 24
  have hb2 := two_below w (.cells #[.int .i64 t.op, .int .i64 t.hd, .int .i64 t.n, .slice a1 n1 m1] 24) (.cells #[.int .i64 0, .int .i64 0, .int .i64 0, .slice none 0 0] 24)
  have call := proper_t t S (.slice a1 n1 m1) _ (hv.keep hb2)
  have HB := Lib.hid (And.intro hb2 h2)
  clear hb2 h2 hv
  rcases hp : Tm.proper t with _ | _
  all_goals
    rw [hp] at call
    simp only [if_true, if_false, Bool.false_eq_true]
    clear hp
    go_enter Try.func57, Try.ntmps57
    go_wp2_with fail
    refine call.mono ?_
    rintro e w2 ⟨rfl, hb2⟩
    have hr := heap_kept hb2 HB.out.2.2
    obtain ⟨x0, x1, x2, x3⟩ := c4_of (heap_kept hb2 HB.out.2.1)
    obtain ⟨y0, y1, y2, y3⟩ := c4_of hr
    have f0 := free_in hr 0
    have f1 := free_in hr 1
    have f2 := free_in hr 2
    have f3 := free_in hr 3
    have HR := Lib.hid (And.intro hr (below_next HB.out.1 hb2))
    clear hr hb2 call
    go_wp2_with fail
  · obtain ⟨z0, z1, z2, z3⟩ := c4_of (set4_at HR.out.1 (.int .i64 0) (.int .i64 0) (.int .i64 0) (.slice none 0 0))
    have h4 : w.heap.size ≤ w.heap.size + 1 := by omega
    exact bodyPost_ret (v := .tuple #[.agg #[.int .i64 0, .int .i64 0, .int .i64 0, .slice none 0 0], .int .i64 5]) (by simp [results, Try.results57, go_sem, z0, z1, z2, z3]) rfl ⟨rfl, (((HR.out.2.setCell h4 _).setCell h4 _).setCell h4 _).setCell h4 _⟩
  · obtain ⟨z0, z1, z2, z3⟩ := c4_of (set4_at HR.out.1 (.int .i64 t.op) (.int .i64 t.hd) (.int .i64 t.n) (.slice a1 n1 m1))
    have h4 : w.heap.size ≤ w.heap.size + 1 := by omega
    exact bodyPost_ret (v := .tuple #[.agg #[.int .i64 t.op, .int .i64 t.hd, .int .i64 t.n, .slice a1 n1 m1], .int .i64 0]) (by simp [results, Try.results57, go_sem, z0, z1, z2, z3]) rfl ⟨rfl, (((HR.out.2.setCell h4 _).setCell h4 _).setCell h4 _).setCell h4 _⟩
end Go.Proofs.Ytieakippgeehgaa.Sb
