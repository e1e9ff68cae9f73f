/- The contract of short. -/
import Derived.Test.YtknbebkkdkhmaaaSbShP
import Derived.BigRegion
namespace Go.Proofs.Ytknbebkkdkhmaaa.Sb
open Go.RowKit
set_option linter.unusedSimpArgs false
set_option linter.unusedVariables false

/-- what is asked of a call of short -/
def ShortOk (f : Nat) : Prop := ∀ (t : Tm) (v : Value) (w : World), Tm.sz t ≤ f → Tm.proper t = true → Lies w (fun _ => True) v t.args →
  Calls Try.prog 59 #[.agg #[.int .i64 t.op, .int .i64 t.hd, .int .i64 t.n, v]] w (GivesS w (short 0 t))

set_option maxHeartbeats 4000000 in
set_option maxRecDepth 100000 in
theorem short_walk (f : Nat) (ih : ShortOk f) : ShortOk (f + 1) := by
  intro t v w hf hp hv
  obtain ⟨a1, n1, m1, rfl⟩ := hv.isSlice
  have h6 := (Tm.proper_two hp).1
  have HST := Lib.hid (ShSt.start hv hp)
  have HF := Lib.hid hf
  have H6 := Lib.hid h6
  clear hp hv hf h6
  go_enter Try.func59, Try.ntmps59
  go_wp2_with fail
  go_loopw [5] (fun c wr => ∃ (k : Nat) (t' : Tm) (v' : Value), c = .int .i64 k ∧ ShSt w wr t k t' v') (fun c _ => 600 - (intOf c).toNat)
  case atStart => exact ⟨0, t, _, rfl, HST.out⟩
  case round =>
    obtain ⟨k, t', v', rfl, M⟩ := hrel
    have hk6 : k + Tm.sz t' ≤ 600 := by have := M.sz; have := H6.out; omega
    have hkf : k + Tm.sz t' ≤ f + 1 := by have := M.sz; have := HF.out; omega
    have hsz := Tm.sz_pos t'
    obtain ⟨o, h, n, l⟩ := t'
    obtain ⟨x0, x1, x2, x3⟩ := c4_of M.box
    have f0 := free_in M.box 0
    have f1 := free_in M.box 1
    have f2 := free_in M.box 2
    have f3 := free_in M.box 3
    simp only [Tm.op, Tm.hd, Tm.n] at x0 x1 x2
    have hfm := (Tm.proper_two M.pr).2
    simp only [Tm.formed, Bool.and_eq_true] at hfm
    have hho := Tm.headOk_yes _ _ _ _ hfm.1.2
    have hnb : 0 ≤ n ∧ n ≤ 9999 := by omega
    clear hfm hho
    rcases h3 : (o == 3) with _ | _
    · rcases h4 : (o == 4) with _ | _
      · have HE := Lib.hid (M.eq.trans (short_op (h := h) (n := n) (l := l) h3 h4))
        have HB := Lib.hid M.below
        have h4' : (o != 4) = true := by simp only [bne, h4]; rfl
        clear M
        go_wp2_with fail
        exact bodyPost_ret (v := .tuple #[.int .i64 0, .int .i64 0, .bool false]) (by simp [results, Try.results59, go_sem]) rfl (givesS_of HE.out HB.out)
      · have h4' : (o != 4) = false := by simp only [bne, h4]; rfl
        obtain ⟨ao, len, cap, rfl⟩ := M.lies.isSlice
        obtain ⟨hlen, hr⟩ : l.length = len ∧ len ≤ 600 := by
          obtain ⟨ao', b, off, len', cap', oo, hh, kk, sv, ts, hse, R⟩ := M.lies.open
          obtain ⟨rfl, rfl, rfl⟩ : ao = ao' ∧ len = len' ∧ cap = cap' := by injection hse with e1 e2 e3; exact ⟨e1, e2, e3⟩
          have h1 : l.length = len := R.length
          have h2 := Tm.length_le_szL l
          simp only [Tm.sz] at hk6
          exact ⟨h1, by omega⟩
        by_cases hlk : len = k
        · subst hlk
          have HL := Lib.hid hlen
          have HM := Lib.hid M
          clear M hlen x0 x1 x2 x3 f0 f1 f2 f3
          obtain ⟨x0, x1, x2, x3⟩ := c4_of HM.out.box
          simp only [Tm.op, Tm.hd, Tm.n] at x0 x1 x2
          go_wp2_with fail
          go_loopw [33] (fun i wr' => ∃ j : Nat, j ≤ len ∧ i = .int .i64 j ∧ ShTo len l j ∧ ShSt w wr' t len (.mk o h n l) (.slice ao len cap)) (fun i _ => len - (intOf i).toNat)
          case atStart => exact ⟨0, Nat.zero_le _, rfl, ShTo.zero _ _, HM.out⟩
          case round =>
            clear x0 x1 x2 x3 HM
            obtain ⟨j, hj, rfl, hto, M⟩ := hrel
            have HTO := Lib.hid hto
            have HM := Lib.hid M
            clear hto
            by_cases hlt : j < len
            · obtain ⟨ao', b, off, len', cap', oo, hh, kk, sv, ts, hse, R⟩ := M.lies.open
              obtain ⟨rfl, rfl, rfl⟩ : ao = ao' ∧ len = len' ∧ cap = cap' := by injection hse with e1 e2 e3; exact ⟨e1, e2, e3⟩
              have hcap := R.hr
              have hlc := R.hl
              obtain rfl := R.hao (by omega)
              obtain ⟨d0, d1, d2, d3, hsub⟩ := R.at (Below.refl _ _) j hlt
              obtain ⟨a5, n5, m5, hs5⟩ := hsub.isSlice
              rw [hs5] at d3 hsub
              have hjl : j < l.length := by rw [HL.out]; exact hlt
              have hg : l[j] = .mk (oo j) (hh j) (kk j) (ts j) := R.get j hlt
              have hb0 := one_below wr (.cells #[.int .i64 (oo j), .int .i64 (hh j), .int .i64 (kk j), .slice a5 n5 m5] 24)
              have hszj : Tm.sz (.mk (oo j) (hh j) (kk j) (ts j)) ≤ f := by
                have h1 := Tm.szL_le_of_mem (List.getElem_mem hjl)
                rw [hg] at h1
                simp only [Tm.sz] at hkf h1 ⊢
                omega
              have hpj : Tm.proper (.mk (oo j) (hh j) (kk j) (ts j)) = true := by rw [← hg]; exact Tm.proper_parts M.pr _ (List.getElem_mem hjl)
              have call := ih (.mk (oo j) (hh j) (kk j) (ts j)) (.slice a5 n5 m5) (wr.alloc (.cells #[.int .i64 (oo j), .int .i64 (hh j), .int .i64 (kk j), .slice a5 n5 m5] 24)) hszj hpj ((hsub.more fun _ _ _ => trivial).keep hb0)
              simp only [Tm.op, Tm.hd, Tm.n] at call
              have hat : shortAt len j l[j] = ((short 0 (.mk (oo j) (hh j) (kk j) (ts j))).2.2 && (short 0 (.mk (oo j) (hh j) (kk j) (ts j))).1 == 1 && (short 0 (.mk (oo j) (hh j) (kk j) (ts j))).2.1 == (len : Int) - 1 - j) := by rw [hg]; rfl
              rcases hx : short 0 (.mk (oo j) (hh j) (kk j) (ts j)) with ⟨h2, n2, ok2⟩
              rw [hx] at call hat
              simp only at hat
              unfold GivesS at call
              simp only at call
              have hneed : ok2 = false ∨ (ok2 = true ∧ (h2 == 1) = false) ∨ (ok2 = true ∧ (h2 == 1) = true ∧ (n2 == (len : Int) - 1 - j) = false) ∨ (ok2 = true ∧ (h2 == 1) = true ∧ (n2 == (len : Int) - 1 - j) = true) := by
                cases ok2 <;> cases (h2 == 1) <;> cases (n2 == (len : Int) - 1 - j) <;> simp
              have HB0 := Lib.hid hb0
              clear hx hg hszj hpj hsub hs5 R M hse hb0
              rcases hneed with rfl | ⟨rfl, e2⟩ | ⟨rfl, e2, e3⟩ | ⟨rfl, e2, e3⟩
              · have HE := Lib.hid (HM.out.eq.trans (short_bad (h := h) (n := n) h3 (ShTo.hit hjl (by rw [hat]; rfl))))
                clear hat hjl
                go_wp2_with fail
                refine call.mono ?_
                rintro e w2 ⟨rfl, hb2⟩
                go_wp2_with fail
                exact bodyPost_ret (v := .tuple #[.int .i64 0, .int .i64 0, .bool false]) (by simp [results, Try.results59, go_sem]) rfl (givesS_of HE.out (below_next (below_next HM.out.below HB0.out) hb2))
              · have HE := Lib.hid (HM.out.eq.trans (short_bad (h := h) (n := n) h3 (ShTo.hit hjl (by rw [hat, e2]; rfl))))
                have e2' : (h2 != 1) = true := by simp only [bne, e2]; rfl
                clear hat hjl e2
                go_wp2_with fail
                refine call.mono ?_
                rintro e w2 ⟨rfl, hb2⟩
                go_wp2_with fail
                exact bodyPost_ret (v := .tuple #[.int .i64 0, .int .i64 0, .bool false]) (by simp [results, Try.results59, go_sem]) rfl (givesS_of HE.out (below_next (below_next HM.out.below HB0.out) hb2))
              · have HE := Lib.hid (HM.out.eq.trans (short_bad (h := h) (n := n) h3 (ShTo.hit hjl (by rw [hat, e2, e3]; rfl))))
                have e2' : (h2 != 1) = false := by simp only [bne, e2]; rfl
                have e3' : (n2 != (len : Int) - 1 - j) = true := by simp only [bne, e3]; rfl
                clear hat hjl e2 e3
                go_wp2_with fail
                refine call.mono ?_
                rintro e w2 ⟨rfl, hb2⟩
                go_wp2_with fail
                exact bodyPost_ret (v := .tuple #[.int .i64 0, .int .i64 0, .bool false]) (by simp [results, Try.results59, go_sem]) rfl (givesS_of HE.out (below_next (below_next HM.out.below HB0.out) hb2))
              · have HE := Lib.hid (HTO.out.step hjl (by rw [hat, e2, e3]; rfl))
                have e2' : (h2 != 1) = false := by simp only [bne, e2]; rfl
                have e3' : (n2 != (len : Int) - 1 - j) = false := by simp only [bne, e3]; rfl
                clear hat hjl e2 e3
                go_wp2_with fail
                refine call.mono ?_
                rintro e w2 ⟨rfl, hb2⟩
                go_wp2_with fail
                go_roundw
                case rel => exact ⟨j + 1, by omega, by go_num, HE.out, (HM.out.keep HB0.out).keep hb2⟩
                case measure => simp [intOf]; omega
            · obtain rfl : j = len := by omega
              have hsh := HTO.out.all (by rw [HL.out]; exact Nat.le_refl _)
              obtain ⟨x0, x1, x2, x3⟩ := c4_of M.box
              simp only [Tm.op, Tm.hd, Tm.n] at x0 x1 x2
              have h4e : o = 4 := by simpa using h4
              subst h4e
              rcases h1 : (h == 1) with _ | _
              · have HE := Lib.hid (M.eq.trans (short_con (n := n) HL.out hsh h1))
                have h1' : (h != 1) = true := by simp only [bne, h1]; rfl
                have HB := Lib.hid M.below
                clear M hsh
                go_wp2_with fail
                go_region
                go_wp2_with fail
                exact bodyPost_ret (v := .tuple #[.int .i64 h, .int .i64 n, .bool true]) (by simp [results, Try.results59, go_sem]) rfl (givesS_of HE.out HB.out.drew)
              · have h1e : h = 1 := by simpa using h1
                subst h1e
                have HE := Lib.hid (M.eq.trans (short_var (n := n) HL.out hsh))
                have HB := Lib.hid M.below
                clear M hsh
                go_wp2_with fail
                go_region
                go_wp2_with fail
                exact bodyPost_ret (v := .tuple #[.int .i64 1, .int .i64 (n - j), .bool (decide ((j : Int) ≤ n))]) (by simp [results, Try.results59, go_sem]) rfl (givesS_of HE.out HB.out.drew)
        · have HE := Lib.hid (M.eq.trans (short_len (h := h) (n := n) (l := l) h3 (by omega)))
          have HB := Lib.hid M.below
          have hlk' : ((len : Int) != (k : Int)) = true := by simp only [bne_iff_ne, ne_eq]; omega
          clear M hlen
          go_wp2_with fail
          exact bodyPost_ret (v := .tuple #[.int .i64 0, .int .i64 0, .bool false]) (by simp [results, Try.results59, go_sem]) rfl (givesS_of HE.out HB.out)
    · have h3e : o = 3 := by simpa using h3
      subst h3e
      obtain ⟨tb, rfl, rfl, rfl, hpb⟩ := Tm.proper_lam M.pr
      obtain ⟨ao, b, off, len, cap, oo, hh, kk, sv, ts, rfl, R⟩ := M.lies.open
      have hr := R.hr
      have hl := R.hl
      have hlen : len = 1 := by have := R.length; simpa [Tm.args] using this.symm
      subst hlen
      have hao := R.hao (by omega)
      subst hao
      have htb : tb = .mk (oo 0) (hh 0) (kk 0) (ts 0) := by have := R.get 0 (by omega); simpa [Tm.args] using this
      obtain ⟨d0, d1, d2, d3, hsub⟩ := R.at (Below.refl _ _) 0 (by omega)
      obtain ⟨uv, huv⟩ : ∃ v, sv 0 = v := ⟨_, rfl⟩
      rw [huv] at d3 hsub
      obtain ⟨a5, n5, m5, rfl⟩ := hsub.isSlice
      simp only [Nat.zero_mul, Nat.add_zero] at d0 d1 d2 d3
      have HM := Lib.hid M
      have HTB := Lib.hid htb
      have HSB := Lib.hid hsub
      clear M R htb hsub huv
      go_wp2_with fail
      go_roundw
      case rel =>
        refine ⟨k + 1, tb, .slice a5 n5 m5, by go_num, ?_⟩
        have h := HM.out.step (v := .slice a5 n5 m5) (by rw [HTB.out]; exact HSB.out)
        rw [HTB.out] at h ⊢
        exact h
      case measure => simp [intOf]; omega

theorem short_calls : ∀ f : Nat, ShortOk f
  | 0 => fun t v w hf => by have := Tm.sz_pos t; omega
  | f + 1 => short_walk f (short_calls f)
/-- the contract of short -/
theorem short_any (t : Tm) (v : Value) (w : World) (hp : Tm.proper t = true) (hv : Lies w (fun _ => True) v t.args) :
    Calls Try.prog 59 #[.agg #[.int .i64 t.op, .int .i64 t.hd, .int .i64 t.n, v]] w (GivesS w (short 0 t)) := short_calls _ t v w (Nat.le_refl _) hp hv
end Go.Proofs.Ytknbebkkdkhmaaa.Sb
