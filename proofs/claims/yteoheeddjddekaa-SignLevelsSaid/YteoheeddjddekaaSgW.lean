/- The contract of copies.renumbered. -/
import Derived.Test.YteoheeddjddekaaSgV
namespace Go.Proofs.Yteoheeddjddekaa
open Go.RowKit
set_option linter.unusedSimpArgs false
set_option linter.unusedVariables false

/-- the four boxes of renumbered -/
structure RnSt (w : World) (o h n n' : Int) (v : Value) (F : Nat) (cp : Array Value) (X : World) : Prop where
  b0 : X.heap[w.heap.size]? = some (.cells #[.int .i64 o, .int .i64 h, .int .i64 n, v] 25 (0, 0))
  b1 : X.heap[w.heap.size + 1]? = some (.cells #[.func (.func F) #[] cp] 70 (0, 0))
  b2 : X.heap[w.heap.size + 1 + 1]? = some (.cells #[.int .i64 0, .int .i64 0, .int .i64 0, .slice none 0 0] 25 (0, 0))
  b3 : X.heap[w.heap.size + 1 + 1 + 1]? = some (.cells #[.int .i64 o, .int .i64 h, .int .i64 n', .slice none 0 0] 25 (0, 0))
  below : Below w.heap.size w X
  sz : X.heap.size = w.heap.size + 4
theorem RnSt.put {w : World} {o h n n' : Int} {v : Value} {F : Nat} {cp : Array Value} {X : World} (H : RnSt w o h n n' v F cp X) (m : Int) : RnSt w o h n m v F cp (X.setCell ⟨w.heap.size + 1 + 1 + 1, 2, none⟩ (.int .i64 m)) := by
  have go : ∀ k, k ≠ w.heap.size + 1 + 1 + 1 → (X.setCell ⟨w.heap.size + 1 + 1 + 1, 2, none⟩ (.int .i64 m)).heap[k]? = X.heap[k]? := fun k hk => Below.heap_setCell _ _ _ _ (by simpa using hk)
  exact ⟨(go _ (by omega)).trans H.b0, (go _ (by omega)).trans H.b1, (go _ (by omega)).trans H.b2, by simpa using heap_set_at (j := 2) (.int .i64 m) H.b3, H.below.setCell (by simp; omega) _, by simpa [World.setCell] using H.sz⟩

/-- what is asked of a call of renumbered -/
def RenOk (f : Nat) (F : Nat) (cp : Array Value) (g : Int → Int) : Prop := ∀ (t : Tm) (v : Value) (w : World), Tm.sz t ≤ f → Tm.sz t ≤ 600 → Tm.nums t = true → NumF w F cp g → Lies w (fun _ => True) v t.args →
  Calls Try.prog 63 #[.agg #[.int .i64 t.op, .int .i64 t.hd, .int .i64 t.n, v], .func (.func F) #[] cp] w (GivesT w (Tm.num g t))

set_option maxHeartbeats 4000000 in
set_option maxRecDepth 100000 in
theorem ren_walk (f F : Nat) (cp : Array Value) (g : Int → Int) (ih : RenOk f F cp g) : RenOk (f + 1) F cp g := by
  intro t v w hf hf6 hn HN hv
  obtain ⟨o, h, n, l⟩ := t
  simp only [Tm.op, Tm.hd, Tm.n, Tm.args] at hv ⊢
  have hnn := Tm.nums_n hn
  have hln := Tm.nums_l hn
  have hsz : Tm.sz (.mk o h n l) = 1 + Tm.szL l := by simp [Tm.sz]
  have hlen := Tm.length_le_szL l
  have cE : ∀ n' X, RnSt w o h n n' v F cp X → Calls Try.prog 82 #[v, .func (.func 83) #[] #[.pointer (some ⟨w.heap.size + 1, 0, none⟩)]] X fun e w' => ∃ a, e = .returned a ∧ Below X.heap.size X w' ∧ Lies w' (X.heap.size ≤ ·) a (Tm.numL g l) := fun n' X H => by
    rw [Tm.numL_map]
    refine eachT_any (Tm.num g) (w.heap.size + 1) l v X (hv.keep H.below) (by omega) (fun t ht => Tm.num_fit g HN.fit (Tm.numsL_mem hln ht)) fun t ht tv w1 hb hl => ?_
    have hs := Tm.szL_le_of_mem ht
    exact renC_any t (Tm.num g t) F cp (w.heap.size + 1) tv w1 hl (heap_kept hb H.b1) fun w2 hb2 => ih t tv w2 (by omega) (by omega) (Tm.numsL_mem hln ht) (HN.keep (below_next (below_next H.below hb) hb2)) (hl.keep hb2)
  have h4 := four_blocks w #[.int .i64 o, .int .i64 h, .int .i64 n, v] #[.func (.func F) #[] cp] #[.int .i64 0, .int .i64 0, .int .i64 0, .slice none 0 0] #[.int .i64 o, .int .i64 h, .int .i64 n, .slice none 0 0] 25 70 25 25
  have hst : RnSt w o h n n v F cp _ := ⟨h4.1, h4.2.1, h4.2.2.1, h4.2.2.2.1, h4.2.2.2.2.1, h4.2.2.2.2.2⟩
  have HST := Lib.hid hst
  have CE := Lib.hid cE
  have hmf : ∀ (fn : Fn) (first cap : Array Value) (w : World), (Instr.makeFunc fn first cap).run Try.prog w = .ok (.func fn first cap) w := fun _ _ _ _ => rfl
  obtain ⟨a2, n2, m2, rfl⟩ := hv.isSlice
  have hFe := HN.enter
  have cN := HN.call n _ hnn.1 hnn.2 hst.below
  clear h4 hst cE hln hsz hlen hf hf6 ih HN hv hn
  rcases hh : (h == 2) with _ | _
  · have hT : Hid (Tm.num g (.mk o h n l) = .mk o h n (Tm.numL g l)) := Lib.hid (by simp only [Tm.num]; rw [if_neg (by simpa using hh)])
    rw [hT.out]
    clear cN
    go_enter Try.func63, Try.ntmps63
    go_wp2_with fail
    refine (CE.out n _ HST.out).mono ?_
    rintro e w2 ⟨a, rfl, hb2, hl2⟩
    have hX := HST.out
    obtain ⟨X, hXe⟩ : ∃ X, X = (((w.alloc (.cells #[.int .i64 o, .int .i64 h, .int .i64 n, .slice a2 n2 m2] 25)).alloc (.cells #[.func (.func F) #[] cp] 70)).alloc (.cells #[.int .i64 0, .int .i64 0, .int .i64 0, .slice none 0 0] 25)).alloc (.cells #[.int .i64 o, .int .i64 h, .int .i64 n, .slice none 0 0] 25) := ⟨_, rfl⟩
    rw [← hXe] at hX hb2 hl2
    clear hXe
    have h3 := heap_kept hb2 hX.b3
    have hr := heap_kept hb2 hX.b2
    obtain ⟨a3, n3, m3, rfl⟩ := hl2.isSlice
    obtain ⟨x0, x1, x2, x3⟩ := cells4_of h3
    obtain ⟨y0, y1, y2, y3⟩ := cells4_of hr
    have xf3 := free_in h3 3
    have f0 := free_in hr 0
    have f1 := free_in hr 1
    have f2 := free_in hr 2
    have f3 := free_in hr 3
    have HX := Lib.hid (And.intro hX (And.intro hb2 (And.intro hl2 hr)))
    clear hX hb2 hl2 hr h3 HST CE
    go_wp2_with fail
    have hz := set4_at ((Below.heap_setCell w2 ⟨w.heap.size + 1 + 1 + 1, 3, none⟩ (.slice a3 n3 m3) (w.heap.size + 1 + 1) (by simp)).trans HX.out.2.2.2) (.int .i64 o) (.int .i64 h) (.int .i64 n) (.slice a3 n3 m3)
    obtain ⟨z0, z1, z2, z3⟩ := cells4_of hz
    refine bodyPost_ret (v := .agg #[.int .i64 o, .int .i64 h, .int .i64 n, .slice a3 n3 m3]) (by simp [results, Try.results63, go_sem, z0, z1, z2, z3]) rfl ?_
    have hsX := HX.out.1.sz
    refine givesT_set (T := .mk o h n (Tm.numL g l)) (B := w.heap.size + 1 + 1) (by omega) ((below_next HX.out.1.below HX.out.2.1).setCell (by simp; omega) _) ?_
    exact (HX.out.2.2.1.still fun b hS _ => Below.heap_setCell _ _ _ _ (by simp; omega)).more fun b _ hS => by rw [hsX] at hS; exact ⟨by omega, by omega⟩
  · have hT : Hid (Tm.num g (.mk o h n l) = .mk o h (g n) (Tm.numL g l)) := Lib.hid (by simp only [Tm.num]; rw [if_pos (by simpa using hh)])
    rw [hT.out]
    go_enter Try.func63, Try.ntmps63
    go_wp2_with fail
    refine cN.mono ?_
    rintro e w1 ⟨rfl, hw1⟩
    have hX := HST.out
    rw [hw1] at hX
    clear hw1 HST cN
    obtain ⟨t0, t1, t2, t3⟩ := cells4_of hX.b0
    obtain ⟨x0, x1, x2, x3⟩ := cells4_of hX.b3
    have xf2 := free_in hX.b3 2
    have HX1 := Lib.hid hX
    clear hX
    go_wp2_with fail
    refine (CE.out (g n) _ (HX1.out.put (g n))).mono ?_
    rintro e w2 ⟨a, rfl, hb2, hl2⟩
    have hX := HX1.out.put (g n)
    have h3 := heap_kept hb2 hX.b3
    have hr := heap_kept hb2 hX.b2
    obtain ⟨a3, n3, m3, rfl⟩ := hl2.isSlice
    clear t0 t1 t2 t3 x0 x1 x2 x3 xf2
    obtain ⟨x0, x1, x2, x3⟩ := cells4_of h3
    obtain ⟨y0, y1, y2, y3⟩ := cells4_of hr
    have xf3 := free_in h3 3
    have f0 := free_in hr 0
    have f1 := free_in hr 1
    have f2 := free_in hr 2
    have f3 := free_in hr 3
    have HX := Lib.hid (And.intro hX (And.intro hb2 (And.intro hl2 hr)))
    clear hX hb2 hl2 hr h3 HX1 CE
    go_wp2_with fail
    have hz := set4_at ((Below.heap_setCell w2 ⟨w.heap.size + 1 + 1 + 1, 3, none⟩ (.slice a3 n3 m3) (w.heap.size + 1 + 1) (by simp)).trans HX.out.2.2.2) (.int .i64 o) (.int .i64 h) (.int .i64 (g n)) (.slice a3 n3 m3)
    obtain ⟨z0, z1, z2, z3⟩ := cells4_of hz
    refine bodyPost_ret (v := .agg #[.int .i64 o, .int .i64 h, .int .i64 (g n), .slice a3 n3 m3]) (by simp [results, Try.results63, go_sem, z0, z1, z2, z3]) rfl ?_
    have hsX := HX.out.1.sz
    refine givesT_set (T := .mk o h (g n) (Tm.numL g l)) (B := w.heap.size + 1 + 1) (by omega) ((below_next HX.out.1.below HX.out.2.1).setCell (by simp; omega) _) ?_
    exact (HX.out.2.2.1.still fun b hS _ => Below.heap_setCell _ _ _ _ (by simp; omega)).more fun b _ hS => by rw [hsX] at hS; exact ⟨by omega, by omega⟩

theorem ren_calls (F : Nat) (cp : Array Value) (g : Int → Int) : ∀ f : Nat, RenOk f F cp g
  | 0 => fun t v w hf => by have := Tm.sz_pos t; omega
  | f + 1 => ren_walk f F cp g (ren_calls F cp g f)
theorem ren_any (F : Nat) (cp : Array Value) (g : Int → Int) (t : Tm) (v : Value) (w : World) (hp : Tm.proper t = true) (HN : NumF w F cp g) (hv : Lies w (fun _ => True) v t.args) :
    Calls Try.prog 63 #[.agg #[.int .i64 t.op, .int .i64 t.hd, .int .i64 t.n, v], .func (.func F) #[] cp] w (GivesT w (Tm.num g t)) := by
  have h := Tm.proper_formed' hp
  exact ren_calls F cp g _ t v w (Nat.le_refl _) h.1 (Tm.nums_of_formed _ 1 h.2) HN hv
end Go.Proofs.Yteoheeddjddekaa
