/- The contracts of the reference's put and apply, closed. -/
import Derived.Test.YtieakippgeehgaaSbPutA
import Derived.Test.YtieakippgeehgaaSbPutB
import Derived.Test.YtieakippgeehgaaSbPutC
namespace Go.Proofs.Ytieakippgeehgaa.Sb
open Go.RowKit

theorem appR_of (C : Nat) (cn : Int) : ∀ (Ss : List Sp.Tm), (∀ cn1 Ss1, .mk cn1 Ss1 ∈ Ss → ∀ (a : Tm), Tm.proper a = true → ∀ (av S1v : Value) (t : Tm), PutROk C a av S1v cn1 Ss1 t) → AppROk C cn Ss := by
  intro Ss
  induction Ss with
  | nil =>
    intro ih Sf f fv lv Sv sp c w hSf hfC hf hl hS hC hc hp hpp hl6
    obtain ⟨fo, fh, fk, fl⟩ := f
    rcases sp with _ | ⟨a, sp⟩
    · exact appR_nil C cn [] Sf fo fh fk fl fv lv Sv c w hfC hf hl hS hC hp
    · exact appR_bad C cn [] Sf fo fh fk fl fv lv Sv a sp c w hf hl hS hC (by simp at hl6; omega) (fun _ => rfl)
  | cons S1 Ss ihS =>
    intro ih Sf f fv lv Sv sp c w hSf hfC hf hl hS hC hc hp hpp hl6
    obtain ⟨fo, fh, fk, fl⟩ := f
    obtain ⟨k1, Ss1⟩ := S1
    rcases sp with _ | ⟨a, sp⟩
    · exact appR_nil C cn _ Sf fo fh fk fl fv lv Sv c w hfC hf hl hS hC hp
    · by_cases h3 : fo = 3
      · subst h3
        obtain ⟨tb, rfl, rfl, rfl, hpb⟩ := Tm.proper_lam hp
        exact appR_step C cn k1 Ss1 Ss Sf _ _ tb fv lv Sv a sp c w hSf hfC hf hl hS hC hc hpb (hpp _ (by simp)) (fun t ht => hpp t (by simp [ht])) (by simp at hl6; omega)
          (fun av S1v => ih k1 Ss1 (by simp) a (hpp _ (by simp)) av S1v tb) (ihS fun cn1 Ss2 hm => ih cn1 Ss2 (by simp [hm]))
      · exact appR_bad C cn _ Sf fo fh fk fl fv lv Sv a sp c w hf hl hS hC (by simp at hl6; omega) (fun h => absurd h h3)

theorem putROk_of (C : Nat) (s : Tm) (hps : Tm.proper s = true) (sv Sv : Value) (cn : Int) (Ss : List Sp.Tm) (ha : AppROk C cn Ss) : ∀ (M : Nat) (t : Tm), Tm.sz t ≤ M → PutROk C s sv Sv cn Ss t
  | 0, t, h => by have := Tm.sz_pos t; omega
  | M + 1, .mk o h k l, hM => by
    intro n c w tv htv hsv hSv hC hc hn0 hn1 hp
    by_cases hc' : 20000 ≤ c
    · exact putR_full C s sv Sv cn Ss o h k l n c w tv htv hsv hSv hC hc hc'
    · refine putR_try C s sv Sv cn Ss o h k l n c w tv (fun t ht => putROk_of C s hps sv Sv cn Ss ha M t ?_) ha hps htv hsv hSv hC (by omega) hn0 hn1 hp
      have := Tm.szL_le_of_mem ht
      simp only [Tm.sz] at hM; omega

theorem putROk_all (C : Nat) : ∀ (N : Nat) (cn : Int) (Ss : List Sp.Tm), Sp.Tm.sz (.mk cn Ss) ≤ N → ∀ (s : Tm), Tm.proper s = true → ∀ (sv Sv : Value) (t : Tm), PutROk C s sv Sv cn Ss t
  | 0, cn, Ss, h => by have := Sp.Tm.sz_pos (.mk cn Ss); omega
  | N + 1, cn, Ss, hN => fun s hps sv Sv t => putROk_of C s hps sv Sv cn Ss (appR_of C cn Ss fun cn1 Ss1 hm a hpa av S1v t1 => putROk_all C N cn1 Ss1 (by
      have := Sp.Tm.szL_le_of_mem hm
      simp only [Sp.Tm.sz] at hN this ⊢; omega) a hpa av S1v t1) _ t (Nat.le_refl _)

/-- the contract of the reference's put -/
theorem putR_any (C : Nat) (cn : Int) (Ss : List Sp.Tm) (s : Tm) (hps : Tm.proper s = true) (sv Sv : Value) (t : Tm) : PutROk C s sv Sv cn Ss t := putROk_all C _ cn Ss (Nat.le_refl _) s hps sv Sv t
/-- the contract of the reference's apply -/
theorem appR_any (C : Nat) (cn : Int) (Ss : List Sp.Tm) : AppROk C cn Ss := appR_of C cn Ss fun cn1 Ss1 _ a hpa av S1v t => putR_any C cn1 Ss1 a hpa av S1v t
end Go.Proofs.Ytieakippgeehgaa.Sb
