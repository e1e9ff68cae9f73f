/- Contracts of the reference's names: bytes, runs, small names, names of constants. * The contracts of maps.Keys and slices.Sorted at the map that term.numbers makes. * The contract of term.numbers: the free numbers. * The contracts of the closure that term.numbers hands on and of term.visit: the numbers of one kind of heads. * The contract of term.numbers: the numbers of one kind of heads. * The reference's low, asked for a number that no variable has. * What the program finds in a proper term is what the reference finds (plain). * The contracts of term.Free, Constants, Metas, Occurs, and of the reference's. * The contract of term.Split. * The contract of the reference's Split. * Contracts of the reference: what a class contains, families. -/
import Derived.Test.YteoheeddjddekaaL5b
import Derived.Test.YteoheeddjddekaaLexB
import Derived.Test.YteoheeddjddekaaTmHeads
import Derived.Test.YteoheeddjddekaaSgP
import Derived.Test.YteoheeddjddekaaKeysP
import Derived.Test.YteoheeddjddekaaL5a
import Derived.Test.YteoheeddjddekaaTmConP
import Derived.Test.YteoheeddjddekaaTmGb
import Derived.Test.YteoheeddjddekaaL5c
namespace Go.Proofs.Yteoheeddjddekaa
open Go.RowKit Go.Proofs.Yteoheeddjddekaa.Lex
set_option linter.unusedSimpArgs false
set_option linter.unusedVariables false

set_option maxHeartbeats 400000 in
theorem lr_small (c : Int) (w : World) : Calls Try.prog 92 #[.int .u8 c] w fun e w' => e = .returned (.bool (smI c)) ∧ w = w' := by
  unfold smI
  by_cases h1 : 97 ≤ c <;> by_cases h2 : c ≤ 122
  all_goals
    go_enter Try.func92, Try.ntmps92
    go_wp2
    go_ret
    exact ⟨by simp [h1, h2], rfl⟩

set_option maxHeartbeats 800000 in
theorem lr_letter (c : Int) (w : World) : Calls Try.prog 99 #[.int .u8 c] w fun e w' => e = .returned (.bool (ltI c)) ∧ w = w' := by
  unfold ltI cpI
  rcases h1 : smI c with _ | _ <;> by_cases h2 : 65 ≤ c <;> by_cases h3 : c ≤ 90 <;> try (exfalso; omega)
  all_goals
    go_enter Try.func99, Try.ntmps99
    go_wp2_with (go_at_call 92; refine (lr_small _ _).mono ?_; rintro e w' ⟨rfl, rfl⟩)
    go_ret
    exact ⟨by simp [h1, h2, h3], rfl⟩

set_option maxHeartbeats 1600000 in
theorem lr_byteOf (c : Int) (w : World) : Calls Try.prog 114 #[.int .u8 c] w fun e w' => e = .returned (.bool (nbI c)) ∧ w = w' := by
  unfold nbI dgI
  rcases h1 : ltI c with _ | _ <;> by_cases h2 : 48 ≤ c <;> by_cases h3 : c ≤ 57 <;> try (exfalso; omega)
  all_goals rcases h4 : (c == 95) with _ | _ <;> rcases h5 : (c == 39) with _ | _
  all_goals
    go_enter Try.func114, Try.ntmps114
    go_wp2_with (go_at_call 99; refine (lr_letter _ _).mono ?_; rintro e w' ⟨rfl, rfl⟩)
    go_ret
    exact ⟨by simp_all, rfl⟩

set_option maxHeartbeats 800000 in
theorem lr_run (s : ByteArray) (w : World) (hs : s.size ≤ 140737488351232) : Calls Try.prog 100 #[.string s, .int .i64 0] w fun e w' => e = .returned (.int .i64 (run s.data.toList)) ∧ w = w' := by
  go_enter Try.func100, Try.ntmps100
  go_wp2
  go_loop [1] (fun n => ∃ k : Nat, k ≤ s.size ∧ n = .int .i64 k ∧ run s.data.toList = k + run (s.data.toList.drop k)) (fun n => s.size - (RowKit.intOf n).toNat)
  case atStart => exact ⟨0, Nat.zero_le _, rfl, by simp⟩
  case round =>
    obtain ⟨k, hk, rfl, hr⟩ := hrel
    by_cases hlt : k < s.size
    · have hd := run_drop s.data.toList k (by simpa using hlt)
      have hg : s.data.toList[k]'(by simpa using hlt) = s[k] := by rw [Array.getElem_toList]; rfl
      rw [hg] at hd
      rcases hn : nbI (s[k].toNat : Int) with _ | _
      · have HR := Lib.hid hr; have HD := Lib.hid hd
        clear hr hd hg
        go_wp2_with (go_at_call 114; refine (lr_byteOf _ _).mono ?_; rintro e w' ⟨rfl, rfl⟩)
        go_ret
        exact ⟨ret_int (by rw [HR.out, HD.out]; simp [nb, hn]), rfl⟩
      · have HR := Lib.hid hr; have HD := Lib.hid hd
        clear hr hd hg
        go_wp2_with (go_at_call 114; refine (lr_byteOf _ _).mono ?_; rintro e w' ⟨rfl, rfl⟩)
        go_round
        case rel => exact ⟨k + 1, by omega, by go_num, by rw [HR.out, HD.out]; simp [nb, hn]; omega⟩
        case measure => simp [RowKit.intOf]; omega
    · have he := run_end s.data.toList k (by simp; omega)
      have HR := Lib.hid hr; have HD := Lib.hid he
      clear hr he
      go_wp2
      go_ret
      exact ⟨ret_int (by rw [HR.out, HD.out]; rfl), rfl⟩

set_option maxHeartbeats 1000000 in
theorem lr_isName (s : ByteArray) (w : World) (hs : s.size ≤ 140737488351232) : Calls Try.prog 91 #[.string s] w fun e w' => e = .returned (.bool (isName s.data.toList)) ∧ w = w' := by
  by_cases h0 : s.size = 0
  · have hn := nil_of s h0
    have hb : isName s.data.toList = false := by rw [hn]; rfl
    have HB := Lib.hid hb; clear hb
    go_enter Try.func91, Try.ntmps91
    go_wp2
    go_ret
    exact ⟨by rw [HB.out]; rfl, rfl⟩
  · have hp : 0 < s.size := by omega
    have hp1 : (1 : Int) ≤ (s.size : Int) := by omega
    have hq := isName_eq s hp
    have HQ := Lib.hid hq; clear hq h0
    by_cases h16 : s.size ≤ 16
    · have h16' : (s.size : Int) ≤ 16 := by omega
      rcases hl : ltI (s[0].toNat : Int) with _ | _
      · go_enter Try.func91, Try.ntmps91
        go_wp2_with (go_at_call 99; refine (lr_letter _ _).mono ?_; rintro e w' ⟨rfl, rfl⟩)
        go_ret
        exact ⟨by rw [HQ.out, hl]; simp, rfl⟩
      · go_enter Try.func91, Try.ntmps91
        go_wp2_with (first | (go_at_call 99; refine (lr_letter _ _).mono ?_; rintro e w' ⟨rfl, rfl⟩) | (go_at_call 100; refine (lr_run _ _ hs).mono ?_; rintro e w' ⟨rfl, rfl⟩))
        go_ret
        refine ⟨?_, rfl⟩
        rw [HQ.out, hl]; simp [h16]
        exact cast_beq _ _
    · have h16' : ¬ (s.size : Int) ≤ 16 := by omega
      go_enter Try.func91, Try.ntmps91
      go_wp2
      go_ret
      exact ⟨by rw [HQ.out]; simp [h16], rfl⟩

set_option maxHeartbeats 1000000 in
theorem lr_IsSmall (s : ByteArray) (w : World) (hs : s.size ≤ 140737488351232) : Calls Try.prog 76 #[.string s] w fun e w' => e = .returned (.bool (isSmall s.data.toList)) ∧ w = w' := by
  rcases hn : isName s.data.toList with _ | _
  · have hq : isSmall s.data.toList = false := by simp [isSmall, hn]
    have HQ := Lib.hid hq; clear hq
    go_enter Try.func76, Try.ntmps76
    go_wp2_with (go_at_call 91; refine (lr_isName _ _ hs).mono ?_; rintro e w' ⟨rfl, rfl⟩)
    go_ret
    exact ⟨by rw [HQ.out]; rfl, rfl⟩
  · have hp := isName_pos s hn
    have hq : isSmall s.data.toList = smI (s[0].toNat : Int) := by unfold isSmall; rw [head_of s hp, hn]; rfl
    have HQ := Lib.hid hq; clear hq
    go_enter Try.func76, Try.ntmps76
    go_wp2_with (first | (go_at_call 91; refine (lr_isName _ _ hs).mono ?_; rintro e w' ⟨rfl, rfl⟩) | (go_at_call 92; refine (lr_small _ _).mono ?_; rintro e w' ⟨rfl, rfl⟩))
    go_ret
    exact ⟨by rw [HQ.out]; rfl, rfl⟩

set_option maxHeartbeats 400000 in
set_option maxRecDepth 100000 in
theorem sgNameR_any (s : ByteArray) (w : World) (hs : s.size ≤ 140737488351232) : Calls Try.prog 54 #[.string s] w fun e w' => e = .returned (.bool (Sg.nameOk s)) ∧ w = w' := by
  have call := lr_IsSmall s w hs
  rcases h1 : Lex.isSmall s.data.toList with _ | _
  · rw [h1] at call
    rw [nameOk_no h1]
    clear h1
    go_enter Try.func54, Try.ntmps54
    go_wp2_with (go_at_call 76; refine call.mono ?_; rintro e w' ⟨rfl, rfl⟩)
    go_ret
    exact ⟨rfl, rfl⟩
  · rw [h1] at call
    by_cases h2 : s = Sg.typeWord
    · rw [nameOk_type h2]
      unfold Sg.typeWord at h2
      subst h2
      clear h1
      go_enter Try.func54, Try.ntmps54
      go_wp2_with (go_at_call 76; refine call.mono ?_; rintro e w' ⟨rfl, rfl⟩)
      go_ret
      exact ⟨rfl, rfl⟩
    · rw [nameOk_yes h1 h2]
      unfold Sg.typeWord at h2
      have h3 := typeWord_ne h2
      clear h1
      go_enter Try.func54, Try.ntmps54
      go_wp2_with (go_at_call 76; refine call.mono ?_; rintro e w' ⟨rfl, rfl⟩)
      go_ret
      exact ⟨by simp [h3], rfl⟩
end Go.Proofs.Yteoheeddjddekaa

namespace Go.Proofs.Yteoheeddjddekaa
open Go.RowKit Go.Maps Go.Sort Go.Shelf
set_option linter.unusedSimpArgs false
set_option linter.unusedVariables false

theorem sortsK (m : Nat) : AnyZI.SortsIn Try.prog Try.sortedA_ren Fence.wide m :=
  ⟨fun blk off cap ss W hH hblk hsz => callsIn_wide.2 (AnyM.slices_Sort_int Try.sortA blk off cap ss W hH hblk hsz),
   fun p cap W => callsIn_wide.2 (AnyM.slices_Sort_int_none Try.sortA p cap W)⟩

theorem keys_any (mb : Option Nat) (W : World) : Calls Try.prog 74 #[.map mb] W fun e w' => e = .returned (.func (.func 90) #[] #[.pointer (some ⟨W.heap.size, 0, none⟩)]) ∧ w' = W.alloc (.cells #[.map mb] 100) :=
  (callsIn_wide (n := 5)).1 (AnyZI.keys_in Try.keysA Fence.wide 5 trivial rfl mb W)

/-- the keys of a set of numbers, sorted: the numbers put in one by one -/
theorem sorted_any {H : Type} (Bm b nn : Nat) (xs : List Int) (W : World) (hBm : W.cell? ⟨Bm, 0, none⟩ = some (.map (some b))) (hn : xs.length ≤ 100000)
    (hown : W.ownsMap Try.prog 3 (plainElem (H := H) Try.prog 4) b nn (setOf (.lit (.bool true)) (xs.map (Lit.int .i64)))) :
    Calls Try.prog 73 #[.func (.func 90) #[] #[.pointer (some ⟨Bm, 0, none⟩)]] W fun e w' => ∃ v, e = .returned v ∧ Ints w' v (Tm.insL [] xs) ∧ Below W.heap.size W w' := by
  have hkl : ∀ x ∈ xs.map (Lit.int .i64), WideAt.IsKeyLit x := by
    intro x hx'
    obtain ⟨a, ha, rfl⟩ := List.mem_map.1 hx'
    exact trivial
  obtain ⟨es, hD, hpw, _⟩ := hown.entries (int_keyed Try.underlying3)
  obtain ⟨es', hD', hko⟩ := hown.keysOf
  obtain rfl : es = es' := by rw [hD] at hD'; simpa using hD'
  have hk : ∀ p ∈ es, ∃ x, p.1 = .int .i64 x := fun p hp => by obtain ⟨v, hv⟩ := hko p hp; obtain ⟨x, _, hx, _⟩ := Maps.keyOf_i64 Try.underlying3 hv; exact ⟨x, hx⟩
  have hm : ∀ x, x ∈ xs ↔ has (.map es) (.int .i64 x) = true := by
    intro x
    rw [← hD, has_setOf _ _ _ hkl, List.any_eq_true]
    constructor
    · intro h
      exact ⟨.int .i64 x, List.mem_map.2 ⟨x, h, rfl⟩, by simp [Lit.sameKey]⟩
    · rintro ⟨y, hy, he⟩
      obtain ⟨a, ha, rfl⟩ := List.mem_map.1 hy
      have : a = x := by simpa [Lit.sameKey] using he
      rwa [← this]
  have hsz : Maps.size (setOf (.lit (.bool true) : DataW H) (xs.map (Lit.int .i64))) ≤ 100000 := by
    have hle : ∀ (ys : List Int) (m : DataW H), Tidy m → Maps.size ((ys.map (Lit.int .i64)).foldl (fun m x => m.put x (.lit (.bool true))) m) ≤ Maps.size m + ys.length := by
      intro ys
      induction ys with
      | nil => intro m _; simp
      | cons y ys ih =>
        intro m ht
        have h1 := ih (m.put (.int .i64 y) (.lit (.bool true))) (ht.put (show WideAt.IsKeyLit (.int .i64 y) from trivial) _)
        have h2 := size_put ht (k := .int .i64 y) (.lit (.bool true))
        simp only [List.map_cons, List.foldl_cons, List.length_cons]
        split at h2 <;> omega
    have := hle xs (.map []) tidy_empty
    have e0 : Maps.size (.map [] : DataW H) = 0 := rfl
    unfold setOf
    omega
  have hseq := AnyZI.keys_gives (ρ := Try.keysA_ren) { Try.keysA with } Fence.wide 2 trivial rfl (by omega) Bm b nn _ W (World.block_lt_of_cell? W _ hBm) hBm hown
  have cS := (callsIn_wide (n := 5)).1 (AnyZI.sorted_in Try.sortedA Fence.wide 5 trivial trivial trivial trivial rfl (by omega) (sortsK _) (enters_of Try.func89 (by kernel_rfl) rfl) 90 #[.pointer (some ⟨Bm, 0, none⟩)] trivial (enters_of Try.func90 (by kernel_rfl) rfl) _ _ (by unfold maxLen; omega) (by omega) _ hseq)
  refine Calls.mono cS ?_
  rintro e w' ⟨v, ss, rfl, hS, hrow, _, hb⟩
  refine ⟨v, rfl, ?_, hb⟩
  rw [hD] at hS
  have hE := Tm.sorted_keys hpw hk hm hS
  have hl : (ss.mergeSort (fun x y => decide (x ≤ y))).length = ss.length := List.length_mergeSort _
  rw [hE] at hrow hl
  exact Ints.own hrow hl
/-- A call gives numbers and an error. -/
def NumE (w : World) (r : List Int × Int) (e : Ending) (w' : World) : Prop := ∃ v, e = .returned (.tuple #[v, .int .i64 r.2]) ∧ Ints w' v r.1 ∧ Below w.heap.size w w'
end Go.Proofs.Yteoheeddjddekaa

namespace Go.Proofs.Yteoheeddjddekaa.VF
open Go.RowKit Go.Maps
set_option linter.unusedSimpArgs false
set_option linter.unusedVariables false

/-- what term.numbers returns: numbers, and an error -/
def numsOut (x : Int) (t : Tm) : List Int × Int := if Tm.proper t then (Tm.insL [] (Tm.hds (sel x) 0 t), 0) else ([], 2)



end Go.Proofs.Yteoheeddjddekaa.VF

namespace Go.Proofs.Yteoheeddjddekaa.VH
open Go.RowKit Go.Maps
set_option linter.unusedSimpArgs false
set_option linter.unusedVariables false

theorem lt_of_block' {w : World} {k : Nat} {o : Obj} (h : w.heap[k]? = some o) : k < w.heap.size := (Array.getElem?_eq_some_iff.1 h).1

/-- the function that says which numbers are asked for, and what it has captured -/
def fv (C : Nat) : Value := .func (.func 75) #[] #[.pointer (some ⟨C, 0, none⟩)]
def capAt (C : Nat) (x : Int) (w : World) : Prop := w.heap[C]? = some (.cells #[.int .i64 x] 3 (0, 0))
theorem capAt.below {C : Nat} {x : Int} {w w' : World} (h : capAt C x w) (hb : Below w.heap.size w w') : capAt C x w' := heap_kept hb h
theorem capAt.other {C B : Nat} {x : Int} {w w' : World} (h : capAt C x w) (hg : w.grownBy w' (some B)) (hC : C ≠ B) : capAt C x w' := (hg.block C (lt_of_block' h) (by simpa using hC)).trans h
def selB (x _ h _ : Int) : Bool := h == x
def selN (_ n : Int) : Int := n
set_option maxHeartbeats 1000000 in
set_option maxRecDepth 100000 in
theorem num_any (o h n : Int) (a2 : Option Addr) (n2 m2 : Nat) (b x : Int) (C : Nat) (w : World) (hb0 : 0 ≤ b) (hb1 : b ≤ 20000) (hn0 : 0 ≤ n) (hn1 : n ≤ 9999) (hc : capAt C x w) :
    Calls Try.prog 75 #[.agg #[.int .i64 o, .int .i64 h, .int .i64 n, .slice a2 n2 m2], .int .i64 b, .pointer (some ⟨C, 0, none⟩)] w fun e w' => e = .returned (.tuple #[.int .i64 (selN b n), .bool (selB x b h n)]) ∧ Below w.heap.size w w' := by
  have hb := one_below w (.cells #[.int .i64 o, .int .i64 h, .int .i64 n, .slice a2 n2 m2] 25)
  have r1 := cell_of_one (hc.below hb)
  clear hc
  go_enter Try.func75, Try.ntmps75
  go_wp2
  go_quiet (fail)
  go_wp2
  go_ret2
  exact ⟨rfl, below_drawn (one_below w _) _⟩

def sel (x : Int) : Int → Int → Int → Int → Option Int := fun b _ h n => if selB x b h n then some (selN b n) else none

/-- the cells that the closure has captured, and the set of what has been found -/
structure VSt (H : Type) (N M B C : Nat) (x : Int) (K : Nat) (acc : List Int) (w : World) : Prop where
  f : w.heap[N]? = some (.cells #[fv C] 86 (0, 0))
  m : w.heap[M]? = some (.cells #[.map (some B)] 100 (0, 0))
  c : capAt C x w
  own : w.ownsMap Try.prog 3 (plainElem (H := H) Try.prog 4) B K (setOf (.lit (.bool true)) (acc.map (Lit.int .i64)))

section
variable {H : Type} {N M B C K : Nat} {x : Int} {acc : List Int} {w w' : World}
theorem VSt.ltM (h : VSt H N M B C x K acc w) : M < w.heap.size := lt_of_block h.m
theorem VSt.below (h : VSt H N M B C x K acc w) (hb : Below w.heap.size w w') : VSt H N M B C x K acc w' := by
  refine ⟨heap_kept hb h.f, heap_kept hb h.m, h.c.below hb, ?_⟩
  obtain ⟨es, clock, h1, h2, h3, h4⟩ := h.own
  exact ⟨es, clock, heap_kept hb h1, h2, h3, h4⟩
theorem VSt.more (h : VSt H N M B C x K acc w) {K' : Nat} (hk : K ≤ K') : VSt H N M B C x K' acc w := ⟨h.f, h.m, h.c, h.own.mono hk⟩
theorem VSt.note (h : VSt H N M B C x K acc w) (hg : w.grownBy w' (some B)) {n : Int} {d : DataW H} (hd : d = .lit (.bool true)) (ho : w'.ownsMap Try.prog 3 (plainElem (H := H) Try.prog 4) B (K + 1) ((setOf (.lit (.bool true)) (acc.map (Lit.int .i64))).put (.int .i64 n) d)) (hN : N ≠ B) (hM : M ≠ B) (hC : C ≠ B) : VSt H N M B C x (K + 1) (acc ++ [n]) w' := by
  subst hd
  have hb : ∀ k, k ≠ B → ∀ o, w.heap[k]? = some o → w'.heap[k]? = some o := fun k hk o e => by rw [hg.block k (lt_of_block' e) (by simpa using hk)]; exact e
  refine ⟨hb _ hN _ h.f, hb _ hM _ h.m, h.c.other hg hC, ?_⟩
  rw [List.map_append, List.map_singleton, setOf_snoc]
  exact ho
end

/-- what the closure and visit leave -/
def VPost (H : Type) (N M B C : Nat) (x : Int) (K : Nat) (acc : List Int) (w : World) (e : Ending) (w' : World) : Prop := (∃ v, e = .returned v) ∧ VSt H N M B C x K acc w' ∧ Only B w w'

theorem law : Keyed Try.prog 3 := int_keyed Try.underlying3

set_option maxHeartbeats 1000000 in
set_option maxRecDepth 100000 in
theorem note_any {H : Type} (o h n : Int) (a2 : Option Addr) (n2 m2 : Nat) (b x : Int) (N M B C K : Nat) (acc : List Int) (w : World) (hb0 : 0 ≤ b) (hb1 : b ≤ 20000) (hn0 : 0 ≤ n) (hn1 : n ≤ 9999) (hK : K ≤ 100000)
    (hs : VSt H N M B C x K acc w) (hN : N ≠ B) (hM : M ≠ B) (hC : C ≠ B) :
    Calls Try.prog 72 #[.agg #[.int .i64 o, .int .i64 h, .int .i64 n, .slice a2 n2 m2], .int .i64 b, .pointer (some ⟨N, 0, none⟩), .pointer (some ⟨M, 0, none⟩)] w
      (VPost H N M B C x (K + 1) (acc ++ (sel x b o h n).toList) w) := by
  have hb := one_below w (.cells #[.int .i64 o, .int .i64 h, .int .i64 n, .slice a2 n2 m2] 25)
  have hs1 := hs.below hb
  have call := num_any o h n a2 n2 m2 b x C _ hb0 hb1 hn0 hn1 hs1.c
  have r1 := cell_of_one hs1.f
  unfold fv at r1
  have HS := Lib.hid hs1
  have hkey : keyOf Try.prog 3 (.int .i64 (selN b n)) = some (.int .i64 (selN b n)) := keyOf_int_mk Try.underlying3 (WalkArith.wf_i64 (by unfold selN; omega))
  have HKEY := Lib.hid hkey
  have hlt : B < w.heap.size := hs.own.lt
  clear hs hs1 hkey
  obtain ⟨nn, hnn⟩ : ∃ nn, nn = selN b n := ⟨_, rfl⟩
  rw [← hnn] at call HKEY
  have HNN := Lib.hid hnn
  clear hnn
  rcases h1 : selB x b h n with _ | _
  · have E : Hid ((sel x b o h n).toList = []) := by show _ = _; simp [sel, h1]
    rw [h1] at call
    clear h1
    go_enter Try.func72, Try.ntmps72
    go_wp2_with (go_at_call 75; (with_reducible refine call.mono ?_); rintro e w1 ⟨rfl, hb1⟩)
    go_end0
    refine ⟨⟨_, rfl⟩, ?_, (Only.below hb B).trans (Only.below hb1 B)⟩
    rw [E.out, List.append_nil]
    exact (HS.out.below hb1).more (Nat.le_succ _)
  · have E : Hid ((sel x b o h n).toList = [nn]) := by show _ = _; simp [sel, h1, HNN.out]
    rw [h1] at call
    clear h1
    go_enter Try.func72, Try.ntmps72
    go_wp2_with (first
      | (go_at_call 75; (with_reducible refine call.mono ?_); rintro e w1 ⟨rfl, hb1⟩; have s1 := Lib.hid (HS.out.below hb1); have r2 := cell_of_one s1.out.m)
      | (at_mapUpdate; refine wpList_mapUpdate_own _ rfl _ _ _ 100 rfl 3 4 law Try.underlying100 _ B K _ rfl s1.out.own (by unfold maxLen; omega) _ _ _ rfl rfl HKEY.out _ [] (plainElem_bool Try.underlying4 true) ?_; intro w2 hown2 hgrow2))
    go_end0
    refine ⟨⟨_, rfl⟩, ?_, ((Only.below hb B).trans (Only.below hb1 B)).trans hgrow2⟩
    rw [E.out]
    exact s1.out.note hgrow2 rfl hown2 hN hM hC

abbrev Cells8 (W : World) (b1 b2 : Nat) (u1 u2 u3 u4 u5 u6 u7 u8 : Value) : Prop :=
  W.cell? ⟨b1, 0, none⟩ = some u1 ∧ W.cell? ⟨b1, 1, none⟩ = some u2 ∧ W.cell? ⟨b1, 2, none⟩ = some u3 ∧ W.cell? ⟨b1, 3, none⟩ = some u4 ∧ W.cell? ⟨b2, 0, none⟩ = some u5 ∧ W.cell? ⟨b2, 1, none⟩ = some u6 ∧ W.cell? ⟨b2, 2, none⟩ = some u7 ∧ W.cell? ⟨b2, 3, none⟩ = some u8
theorem cells8_below {W W' : World} {b1 b2 : Nat} {u1 u2 u3 u4 u5 u6 u7 u8 : Value} (hb : Below W.heap.size W W') (x : Cells8 W b1 b2 u1 u2 u3 u4 u5 u6 u7 u8) : Cells8 W' b1 b2 u1 u2 u3 u4 u5 u6 u7 u8 := by
  obtain ⟨x1, x2, x3, x4, x5, x6, x7, x8⟩ := x
  exact ⟨kept_cell hb x1, kept_cell hb x2, kept_cell hb x3, kept_cell hb x4, kept_cell hb x5, kept_cell hb x6, kept_cell hb x7, kept_cell hb x8⟩

theorem cells8_only {E : Nat} {W W' : World} {b1 b2 : Nat} {u1 u2 u3 u4 u5 u6 u7 u8 : Value} (h1 : b1 ≠ E) (h2 : b2 ≠ E) (hb : Only E W W') (x : Cells8 W b1 b2 u1 u2 u3 u4 u5 u6 u7 u8) : Cells8 W' b1 b2 u1 u2 u3 u4 u5 u6 u7 u8 := by
  obtain ⟨x1, x2, x3, x4, x5, x6, x7, x8⟩ := x
  exact ⟨hb.cell h1 x1, hb.cell h1 x2, hb.cell h1 x3, hb.cell h1 x4, hb.cell h2 x5, hb.cell h2 x6, hb.cell h2 x7, hb.cell h2 x8⟩

/-- what lies in memory when the first k parts have been visited -/
structure VTo (H : Type) (N M B C : Nat) (x : Int) (K : Nat) (acc : List Int) (w : World) (o h n b : Int) (ao : Option Addr) (len cap : Nat) (l : List Tm) (k : Nat) (wr : World) : Prop where
  st : VSt H N M B C x (K + (1 + Tm.szL (l.take k))) (acc ++ Tm.hdsTo (sel x) b o h n l k) wr
  only : Only B w wr
  box : wr.heap[w.heap.size]? = some (.cells #[.int .i64 o, .int .i64 h, .int .i64 n, .slice ao len cap] 25 (0, 0))

set_option maxHeartbeats 2000000 in
set_option maxRecDepth 100000 in
theorem visit_walk {H : Type} (N M B C : Nat) (x : Int) (hN : N ≠ B) (hM : M ≠ B) (hC : C ≠ B) (f : Nat)
    (ih : ∀ (o h n b : Int) (K : Nat) (acc : List Int) (v : Value) (l : List Tm) (w : World), Tm.sz (.mk o h n l) ≤ f → Tm.sz (.mk o h n l) ≤ 600 → Tm.nums (.mk o h n l) = true → 0 ≤ b → b + (Tm.sz (.mk o h n l) : Int) ≤ 20000 → K + Tm.sz (.mk o h n l) ≤ 100000 → Lies w (· ≠ B) v l → VSt H N M B C x K acc w →
      Calls Try.prog 71 #[.agg #[.int .i64 o, .int .i64 h, .int .i64 n, v], .int .i64 b, .func (.func 72) #[] #[.pointer (some ⟨N, 0, none⟩), .pointer (some ⟨M, 0, none⟩)]] w (VPost H N M B C x (K + Tm.sz (.mk o h n l)) (acc ++ Tm.hds (sel x) b (.mk o h n l)) w))
    (o h n b : Int) (K : Nat) (acc : List Int) (v : Value) (l : List Tm) (w : World) (hf : Tm.sz (.mk o h n l) ≤ f + 1) (h6 : Tm.sz (.mk o h n l) ≤ 600) (hn : Tm.nums (.mk o h n l) = true) (hb0 : 0 ≤ b) (hb1 : b + (Tm.sz (.mk o h n l) : Int) ≤ 20000) (hK : K + Tm.sz (.mk o h n l) ≤ 100000) (hv : Lies w (· ≠ B) v l) (hs : VSt H N M B C x K acc w) :
    Calls Try.prog 71 #[.agg #[.int .i64 o, .int .i64 h, .int .i64 n, v], .int .i64 b, .func (.func 72) #[] #[.pointer (some ⟨N, 0, none⟩), .pointer (some ⟨M, 0, none⟩)]] w (VPost H N M B C x (K + Tm.sz (.mk o h n l)) (acc ++ Tm.hds (sel x) b (.mk o h n l)) w) := by
  obtain ⟨ao, bb, off, len, cap, oo, hh, kk, sv, ts, rfl, R⟩ := hv.open
  have hr := R.hr
  have hl := R.hl
  have HL := Lib.hid R.length
  have hnb := Tm.nums_n hn
  have HNL := Lib.hid (Tm.nums_l hn)
  have HS := Lib.hid hs
  have HB : B < w.heap.size := hs.own.lt
  have hszp := Tm.sz_pos (.mk o h n l)
  have hszl : Tm.sz (.mk o h n l) = 1 + Tm.szL l := by simp [Tm.sz]
  have hlen6 : len ≤ 600 := by have := Tm.length_le_szL l; rw [HL.out] at this; omega
  have call1 := fun (w1 : World) (hs1 : VSt H N M B C x K acc w1) => note_any o h n ao len cap b x N M B C K acc w1 hb0 (by omega) hnb.1 hnb.2 (by omega) hs1 hN hM hC
  have hbb := one_below w (.cells #[.int .i64 o, .int .i64 h, .int .i64 n, .slice ao len cap] 25)
  have hn0 := heap_alloc_new w (.cells #[.int .i64 o, .int .i64 h, .int .i64 n, .slice ao len cap] 25)
  have HN0 := Lib.hid hn0
  have HZ := Lib.hid hszl
  clear hv hs hn hn0 hszl
  go_enter Try.func71, Try.ntmps71
  go_wp2_with (go_at_call 72; (with_reducible refine (call1 _ ?_).mono ?_); (exact HS.out.below hbb); rintro e w1 ⟨⟨ve, rfl⟩, hs1, ho1⟩; have z := Lib.hid ((ho1.block _ (by simp) (by omega)).trans HN0.out : w1.heap[w.heap.size]? = _); have z3 := cell_in z.out 3 _ rfl)
  have hTo : VTo H N M B C x K acc w o h n b ao len cap l 0 w1 := ⟨by rw [Tm.hdsTo_zero]; simpa [Tm.szL] using hs1, (Only.below hbb B).trans ho1, z.out⟩
  have HTO := Lib.hid hTo
  clear hTo
  go_loopw [15] (fun i wr => ∃ k : Nat, k ≤ len ∧ i = .int .i64 k ∧ VTo H N M B C x K acc w o h n b ao len cap l k wr) (fun i _ => len - (RowKit.intOf i).toNat)
  case atStart => exact ⟨0, Nat.zero_le _, rfl, HTO.out⟩
  case round =>
    clear z3 HTO
    obtain ⟨k, hk, rfl, T⟩ := hrel
    by_cases hlt : k < len
    · obtain rfl := R.hao (by omega)
      obtain ⟨d0, d1, d2, d3, hsub⟩ := R.atO T.only k hlt
      obtain ⟨a2, n2, m2, hs2⟩ := hsub.isSlice
      rw [hs2] at d3 hsub
      clear hs2
      have hszk := R.size hf k hlt
      have hs6 := R.size_lt (x := o) (y := h) (z := n) k hlt
      have hnk := Tm.numsL_mem HNL.out (R.mem k hlt)
      have hbl := Tm.belowN_bd o k
      have hkl : k < l.length := by rw [HL.out]; exact hlt
      have hst := Tm.hdsTo_step (sel x) b o h n l k hkl
      have htk := Tm.szL_take l k hkl
      have hle := Tm.szL_take_le l (k + 1)
      rw [R.get k hlt] at hst htk
      have HST := Lib.hid hst
      have HTK := Lib.hid htk
      have HNK := Lib.hid hnk
      have HT := Lib.hid T
      have hk0 : (0 : Int) ≤ (k : Int) := by omega
      have hk1 : (k : Int) < (len : Int) := by omega
      have hbn0 : 0 ≤ b + Tm.belowN o k := by omega
      have hbn1 : b + Tm.belowN o k + (Tm.sz (.mk (oo k) (hh k) (kk k) (ts k)) : Int) ≤ 20000 := by omega
      have hs7 : Tm.sz (.mk (oo k) (hh k) (kk k) (ts k)) ≤ 600 := by omega
      have hKk : K + (1 + Tm.szL (l.take k)) + Tm.sz (.mk (oo k) (hh k) (kk k) (ts k)) ≤ 100000 := by have := HZ.out; omega
      have hb2 : b ≤ 20000 := by omega
      have hrB : wr.heap.size ≠ B := by have := T.only.size; omega
      have hwB : w.heap.size ≠ B := by omega
      have hbX : Below wr.heap.size wr (wr.alloc (.cells #[.int .i64 (oo k), .int .i64 (hh k), .int .i64 (kk k), .slice a2 n2 m2] 25)).drew := ((Below.refl _ _).alloc (Nat.le_refl _) _).drew
      have hx0 : Cells8 (wr.alloc (.cells #[.int .i64 (oo k), .int .i64 (hh k), .int .i64 (kk k), .slice a2 n2 m2] 25)).drew wr.heap.size w.heap.size (.int .i64 (oo k)) (.int .i64 (hh k)) (.int .i64 (kk k)) (.slice a2 n2 m2) (.int .i64 o) (.int .i64 h) (.int .i64 n) (.slice (some ⟨bb, off, none⟩) len cap) := by
        have e3 := heap_kept hbX T.box
        have e2 : (wr.alloc (.cells #[.int .i64 (oo k), .int .i64 (hh k), .int .i64 (kk k), .slice a2 n2 m2] 25)).drew.heap[wr.heap.size]? = some (.cells #[.int .i64 (oo k), .int .i64 (hh k), .int .i64 (kk k), .slice a2 n2 m2] 25 (0, 0)) := heap_alloc_new wr _
        exact ⟨cell_in e2 0 _ rfl, cell_in e2 1 _ rfl, cell_in e2 2 _ rfl, cell_in e2 3 _ rfl, cell_in e3 0 _ rfl, cell_in e3 1 _ rfl, cell_in e3 2 _ rfl, cell_in e3 3 _ rfl⟩
      clear T hst hnk htk R
      go_wp2_with fail
      clear d0 d1 d2 d3
      go_region_held3 (fun W => Cells8 W wr.heap.size w.heap.size (.int .i64 (oo k)) (.int .i64 (hh k)) (.int .i64 (kk k)) (.slice a2 n2 m2) (.int .i64 o) (.int .i64 h) (.int .i64 n) (.slice (some ⟨bb, off, none⟩) len cap))
        (first | (with_reducible exact hx0) | (with_reducible exact cells8_below hb3 hx0) | (with_reducible exact cells8_only hrB hwB ho4 (cells8_below hb3 hx0)))
        (first | (go_at_call 87; (with_reducible refine (belowT_any o h n _ len cap k b _ hb0 hb2).mono ?_); rintro e w3 ⟨rfl, hb3⟩; have hd3 := hbX.trans (hb3.mono hbX.size)) | (go_at_call 71; (with_reducible refine (ih (oo k) (hh k) (kk k) (b + Tm.belowN o k) (K + (1 + Tm.szL (l.take k))) (acc ++ Tm.hdsTo (sel x) b o h n l k) (.slice a2 n2 m2) (ts k) _ hszk hs7 HNK.out hbn0 hbn1 hKk ?_ ?_).mono ?_); (exact hsub.keep (by assumption)); (exact HT.out.st.below (by assumption)); rintro e w4 ⟨⟨ve4, rfl⟩, hs4, ho4⟩; have hOO := Lib.hid ((Only.below hd3 B).trans ho4)))
      go_wp2
      go_roundw
      case rel => exact ⟨k + 1, by omega, by go_num, by rw [HST.out, HTK.out, ← List.append_assoc, ← Nat.add_assoc 1, ← Nat.add_assoc K]; exact hs4, HT.out.only.trans hOO.out, (hOO.out.block _ (lt_of_block HT.out.box) (by omega)).trans HT.out.box⟩
      case measure => simp [RowKit.intOf]; omega
    · obtain rfl : k = len := by omega
      have HT := Lib.hid T
      have hall := Tm.hdsTo_all (sel x) b o h n l k (by rw [HL.out]; exact Nat.le_refl _)
      have htk : l.take k = l := List.take_of_length_le (by rw [HL.out]; exact Nat.le_refl _)
      have HA := Lib.hid hall
      have HTK := Lib.hid htk
      clear T hall htk
      go_wp2
      go_end0
      refine ⟨⟨_, rfl⟩, ?_, HT.out.only⟩
      have h1 := HT.out.st
      rw [HA.out, HTK.out, ← HZ.out] at h1
      exact h1

theorem visit_calls {H : Type} (N M B C : Nat) (x : Int) (hN : N ≠ B) (hM : M ≠ B) (hC : C ≠ B) : ∀ (f : Nat) (o h n b : Int) (K : Nat) (acc : List Int) (v : Value) (l : List Tm) (w : World), Tm.sz (.mk o h n l) ≤ f → Tm.sz (.mk o h n l) ≤ 600 → Tm.nums (.mk o h n l) = true → 0 ≤ b → b + (Tm.sz (.mk o h n l) : Int) ≤ 20000 → K + Tm.sz (.mk o h n l) ≤ 100000 → Lies w (· ≠ B) v l → VSt H N M B C x K acc w →
      Calls Try.prog 71 #[.agg #[.int .i64 o, .int .i64 h, .int .i64 n, v], .int .i64 b, .func (.func 72) #[] #[.pointer (some ⟨N, 0, none⟩), .pointer (some ⟨M, 0, none⟩)]] w (VPost H N M B C x (K + Tm.sz (.mk o h n l)) (acc ++ Tm.hds (sel x) b (.mk o h n l)) w)
  | 0, o, h, n, _, _, _, _, l, _, hf, _, _, _, _, _, _, _ => by have := Tm.sz_pos (.mk o h n l); omega
  | f + 1, o, h, n, b, K, acc, v, l, w, hf, h6, hn, hb0, hb1, hK, hv, hs => visit_walk N M B C x hN hM hC f (visit_calls N M B C x hN hM hC f) o h n b K acc v l w hf h6 hn hb0 hb1 hK hv hs

end Go.Proofs.Yteoheeddjddekaa.VH

namespace Go.Proofs.Yteoheeddjddekaa.VH
open Go.RowKit Go.Maps
set_option linter.unusedSimpArgs false
set_option linter.unusedVariables false

/-- what term.numbers returns: numbers, and an error -/
def numsOut (x : Int) (t : Tm) : List Int × Int := if Tm.proper t then (Tm.insL [] (Tm.hds (sel x) 0 t), 0) else ([], 2)



set_option maxHeartbeats 2000000 in
set_option maxRecDepth 100000 in
theorem nums_any (o h n : Int) (v : Value) (l : List Tm) (x : Int) (C : Nat) (w : World) (hv : Lies w (fun _ => True) v l) (hc : capAt C x w) (hC : C < w.heap.size) :
    Calls Try.prog 52 #[.agg #[.int .i64 o, .int .i64 h, .int .i64 n, v], fv C] w (NumE w (numsOut x (.mk o h n l))) := by
  obtain ⟨a2, n2, m2, rfl⟩ := hv.isSlice
  unfold fv
  have h2 := two_below w (.cells #[.int .i64 o, .int .i64 h, .int .i64 n, .slice a2 n2 m2] 25) (.cells #[fv C] 86)
  have H2 := Lib.hid h2
  have HK := Lib.hid (two_blocks w #[.int .i64 o, .int .i64 h, .int .i64 n, .slice a2 n2 m2] #[fv C] 25 86)
  have call := isProper_any o h n _ l _ (hv.keep h2)
  unfold fv at call
  have hsz2 : ((w.alloc (.cells #[.int .i64 o, .int .i64 h, .int .i64 n, .slice a2 n2 m2] 25)).alloc (.cells #[fv C] 86)).heap.size = w.heap.size + 2 := by simp
  have HSZ := Lib.hid hsz2
  have HV := Lib.hid hv
  have HC := Lib.hid hc
  clear hv h2 hsz2 hc
  have hmm := @run_makeMap Try.prog
  rcases hp : Tm.proper (.mk o h n l) with _ | _
  · have HY : Hid (numsOut x (.mk o h n l) = ([], 2)) := by show _ = _; unfold numsOut; rw [hp]; rfl
    rw [hp] at call
    clear hp
    go_enter Try.func52, Try.ntmps52
    go_wp2_with (go_at_call 70; (with_reducible refine call.mono ?_); rintro e w1 ⟨rfl, hb1⟩)
    go_ret2
    rw [HY.out]
    exact ⟨_, rfl, Ints.nil _, H2.out.trans (hb1.mono (by have := HSZ.out; unfold fv at this; omega))⟩
  · have hsz : Tm.sz (.mk o h n l) ≤ 600 := Tm.proper_sz hp
    have hnum : Tm.nums (.mk o h n l) = true := by
      unfold Tm.proper at hp
      simp only [Bool.and_eq_true] at hp
      exact Tm.nums_of_formed _ 1 hp.2
    have hlen := Tm.hds_length (sel x) 0 (.mk o h n l)
    obtain ⟨xs, hxs⟩ : ∃ xs, xs = Tm.hds (sel x) 0 (.mk o h n l) := ⟨_, rfl⟩
    have HY : Hid (numsOut x (.mk o h n l) = (Tm.insL [] xs, 0)) := by show _ = _; unfold numsOut; rw [hp, ← hxs]; rfl
    have cv : ∀ (N M B : Nat) (w3 : World), N ≠ B → M ≠ B → C ≠ B → Lies w3 (· ≠ B) (.slice a2 n2 m2) l → VSt Unit N M B C x 0 [] w3 →
        Calls Try.prog 71 #[.agg #[.int .i64 o, .int .i64 h, .int .i64 n, .slice a2 n2 m2], .int .i64 0, .func (.func 72) #[] #[.pointer (some ⟨N, 0, none⟩), .pointer (some ⟨M, 0, none⟩)]] w3 (VPost Unit N M B C x (0 + Tm.sz (.mk o h n l)) ([] ++ xs) w3) := by
      intro N M B w3 hN hM hCB hl hs
      have := visit_calls N M B C x hN hM hCB _ o h n 0 0 [] _ l w3 (Nat.le_refl _) hsz hnum (by omega) (by omega) (by omega) hl hs
      rw [← hxs] at this
      exact this
    rw [hp] at call
    rw [← hxs] at hlen
    have HLEN := Lib.hid (Nat.le_trans hlen hsz)
    have HCV := Lib.hid cv
    clear hp hnum hlen hxs hsz cv
    go_enter Try.func52, Try.ntmps52
    have HE := Lib.hid (And.intro (by have := HK.out.1; unfold fv at this; exact this) (by have := HK.out.2; unfold fv at this; exact this) : _ ∧ _)
    go_wp2_with (go_at_call 70; (with_reducible refine call.mono ?_); rintro e w1 ⟨rfl, hb1⟩; have BA := Lib.hid (two_below w1 (.map #[] 0) (.cells #[.map (some w1.heap.size)] 100)); have k0 := kept_cell BA.out (cell_in (heap_kept hb1 HE.out.1) 0 (.int .i64 o) rfl); have k1 := kept_cell BA.out (cell_in (heap_kept hb1 HE.out.1) 1 (.int .i64 h) rfl); have k2 := kept_cell BA.out (cell_in (heap_kept hb1 HE.out.1) 2 (.int .i64 n) rfl); have k3 := kept_cell BA.out (cell_in (heap_kept hb1 HE.out.1) 3 (.slice a2 n2 m2) rfl))
    have B1 : Below w.heap.size w w1 := H2.out.trans (hb1.mono (by have := HSZ.out; unfold fv at this; omega))
    have s1 : w.heap.size + 2 ≤ w1.heap.size := by have := hb1.size; have := HSZ.out; unfold fv at this; omega
    have ba := BA.out
    have st : VSt Unit (w.heap.size + 1) (w1.heap.size + 1) w1.heap.size C x 0 [] ((w1.alloc (.map #[] 0)).alloc (.cells #[.map (some w1.heap.size)] 100)) := by
      refine ⟨heap_kept ba (heap_kept hb1 HE.out.2), ?_, HC.out.below (B1.trans (ba.mono (by omega))), ?_⟩
      · have := heap_alloc_new (w1.alloc (.map #[] 0)) (.cells #[.map (some w1.heap.size)] 100)
        simpa using this
      · exact (World.ownsMap_made w1 _ _ _).alloc _
    have lx : Lies ((w1.alloc (.map #[] 0)).alloc (.cells #[.map (some w1.heap.size)] 100)) (· ≠ w1.heap.size) (.slice a2 n2 m2) l :=
      ((HV.out.more (S' := fun b => b < w.heap.size) fun b hb _ => hb).keep (B1.trans (ba.mono (by omega)))).more fun b _ hS => by show b ≠ _; omega
    have call2 := HCV.out (w.heap.size + 1) (w1.heap.size + 1) w1.heap.size _ (by omega) (by omega) (by omega) lx st
    clear st lx ba
    go_wp2_with (first
      | (go_at_call 71; (with_reducible refine call2.mono ?_); rintro e w4 ⟨⟨ve, rfl⟩, hs4, ho4⟩; have S4 := Lib.hid hs4; have r4 := cell_of_one S4.out.m; clear hs4)
      | (go_at_call 74; (with_reducible refine (keys_any _ _).mono ?_); rintro e w5 ⟨rfl, rfl⟩)
      | (go_at_call 73; (with_reducible refine (sorted_any (H := Unit) w4.heap.size w1.heap.size (0 + Tm.sz (.mk o h n l)) xs _ ?_ ?_ ?_).mono ?_); (exact cell_in (heap_alloc_new w4 _) 0 _ rfl); (exact Nat.le_trans HLEN.out (by omega)); (exact S4.out.own.alloc _); rintro e w6 ⟨v6, rfl, hi6, hb6⟩))
    go_ret2
    rw [HY.out]
    refine ⟨_, rfl, hi6, ?_⟩
    have h4 : Below w.heap.size w w4 := ho4.fresh (B1.trans (BA.out.mono (by omega))) (by omega)
    have h5 := h4.trans ((one_below w4 (.cells #[.map (some w1.heap.size)] 100)).mono h4.size)
    exact h5.trans (hb6.mono h5.size)

end Go.Proofs.Yteoheeddjddekaa.VH

namespace Go.Proofs.Yteoheeddjddekaa
open Go.RowKit
set_option linter.unusedSimpArgs false
set_option linter.unusedVariables false
set_option exponentiation.threshold 100

/-- a number that no variable has, nor in s binders more -/
def Far (a : Int) (s : Nat) : Prop := (10000 ≤ a ∧ a ≤ 9223372036854775807) ∨ (-9223372036854775808 ≤ a ∧ a + s ≤ -1)
theorem Far.next {a c : Int} {s s' : Nat} (h : Far a s) (hs : s' + 1 ≤ s) (h6 : s ≤ 600) (hc : 0 ≤ c) (hc1 : c ≤ 1) : Far (wrap64 (a + c)) s' := by
  rcases h with ⟨h1, h2⟩ | ⟨h1, h2⟩
  · by_cases h3 : a + c ≤ 9223372036854775807
    · rw [IntWalk.wrap64_in _ ⟨by omega, h3⟩]; exact .inl ⟨by omega, h3⟩
    · have e : a + c = 9223372036854775808 := by omega
      rw [e]
      have : wrap64 9223372036854775808 = -9223372036854775808 := by decide +kernel
      rw [this]; exact .inr ⟨by omega, by omega⟩
  · rw [IntWalk.wrap64_in _ ⟨by omega, by omega⟩]; exact .inr ⟨by omega, by omega⟩

end Go.Proofs.Yteoheeddjddekaa

namespace Go.Proofs.Yteoheeddjddekaa
open Go.RowKit
namespace Tm
mutual
theorem hds_congr (f g : Int → Int → Int → Int → Option Int) (hfg : ∀ b o h n len, headOk o h n len = true → f b o h n = g b o h n) : ∀ (b : Int) (t : Tm) (d : Nat), formed t d = true → hds f b t = hds g b t
  | b, .mk o h n l, d, e => by
    simp only [formed, Bool.and_eq_true] at e
    simp only [hds]
    rw [hfg b o h n _ e.1.2, hdsL_congr f g hfg b o 0 l (d + 1) e.2]
theorem hdsL_congr (f g : Int → Int → Int → Int → Option Int) (hfg : ∀ b o h n len, headOk o h n len = true → f b o h n = g b o h n) : ∀ (b o : Int) (i : Nat) (l : List Tm) (d : Nat), formedL l d = true → hdsL f b o i l = hdsL g b o i l
  | _, _, _, [], _, _ => rfl
  | b, o, i, t :: l, d, e => by
    simp only [formedL, Bool.and_eq_true] at e
    simp only [hdsL]
    rw [hds_congr f g hfg _ t d e.1, hdsL_congr f g hfg b o (i + 1) l d e.2]
end
theorem proper_formed {t : Tm} (h : proper t = true) : formed t 1 = true := by
  unfold proper at h; simp only [Bool.and_eq_true] at h; exact h.2

theorem hds_free (x : Int) {t : Tm} (h : proper t = true) : hds (VF.sel x) 0 t = hds (rsel 1) 0 t := by
  refine hds_congr _ _ (fun b o h n len e => ?_) 0 t 1 (proper_formed h)
  rcases headOk_yes o h n len e with ⟨h1, h2, h3, h4⟩ | ⟨h1, h2, h3, h4⟩ | ⟨h1, h2, h3, h4⟩ | ⟨h1, h2, h3, h4, h5⟩
  · subst h1 h3; simp [VF.sel, VF.selB, rsel]
  · subst h1 h3; simp [VF.sel, VF.selB, rsel]
  · subst h1 h3; simp [VF.sel, VF.selB, rsel]
  · subst h1
    by_cases e1 : h = 1
    · subst e1; simp [VF.sel, VF.selB, VF.selN, rsel]
    · have e2 : (h == 1) = false := by simpa using e1
      simp [VF.sel, VF.selB, rsel, e2]
theorem hds_heads (x : Int) (hx : 2 ≤ x) {t : Tm} (h : proper t = true) : hds (VH.sel x) 0 t = hds (rsel x) 0 t := by
  refine hds_congr _ _ (fun b o h n len e => ?_) 0 t 1 (proper_formed h)
  have hx1 : ¬ x = 1 := by omega
  have z : ∀ {h : Int}, h = 0 → (h == x) = false := fun e => by subst e; rw [beq_eq_false_iff_ne]; omega
  rcases headOk_yes o h n len e with ⟨h1, h2, h3, h4⟩ | ⟨h1, h2, h3, h4⟩ | ⟨h1, h2, h3, h4⟩ | ⟨h1, h2, h3, h4, h5⟩
  · simp [VH.sel, VH.selB, rsel, z h3]
  · simp [VH.sel, VH.selB, rsel, z h3]
  · simp [VH.sel, VH.selB, rsel, z h3]
  · subst h1
    simp [VH.sel, VH.selB, VH.selN, rsel, hx1]

mutual
/-- a free variable occurs just if low says so -/
theorem mem_hds (n : Int) (hn : 0 ≤ n) : ∀ (b : Int) (t : Tm), n ∈ hds (rsel 1) b t ↔ low (n + b) (n + b) t = true
  | b, .mk o h m l => by
    have ih := mem_hdsL n hn b o 0 l
    simp only [hds, low, List.mem_append, Bool.or_eq_true]
    rw [ih]
    refine or_congr ?_ Iff.rfl
    unfold rsel
    rcases (o == 4) with _ | _
    · simp
    · rcases (h == 1) with _ | _
      · simp
      · by_cases e : b ≤ m
        · simp [e]; omega
        · simp [e]; omega
theorem mem_hdsL (n : Int) (hn : 0 ≤ n) : ∀ (b o : Int) (i : Nat) (l : List Tm), n ∈ hdsL (rsel 1) b o i l ↔ lowL (n + b) (n + b) o i l = true
  | _, _, _, [] => by simp [hdsL, lowL]
  | b, o, i, t :: l => by
    have h1 := mem_hds n hn (b + belowN o i) t
    have h2 := mem_hdsL n hn b o (i + 1) l
    simp only [hdsL, lowL, List.mem_append, Bool.or_eq_true]
    rw [h1, h2, Int.add_assoc]
end
mutual
theorem hds_pos : ∀ (b : Int) (t : Tm), ∀ x ∈ hds (rsel 1) b t, 0 ≤ x ∧ (nums t = true → 0 ≤ b → x ≤ 9999)
  | b, .mk o h m l, x, hx => by
    simp only [hds, List.mem_append] at hx
    rcases hx with hx | hx
    · unfold rsel at hx
      split at hx
      · simp only [if_true] at hx
        split at hx
        · simp at hx
          refine ⟨by omega, fun hn hb => ?_⟩
          have := nums_n hn
          omega
        · simp at hx
      · simp at hx
    · have := hdsL_pos b o 0 l x hx
      exact ⟨this.1, fun hn hb => this.2 (nums_l hn) hb⟩
theorem hdsL_pos : ∀ (b o : Int) (i : Nat) (l : List Tm), ∀ x ∈ hdsL (rsel 1) b o i l, 0 ≤ x ∧ (numsL l = true → 0 ≤ b → x ≤ 9999)
  | _, _, _, [], x, hx => by simp [hdsL] at hx
  | b, o, i, t :: l, x, hx => by
    simp only [hdsL, List.mem_append] at hx
    have hbl := belowN_bd o i
    rcases hx with hx | hx
    · have := hds_pos (b + belowN o i) t x hx
      exact ⟨this.1, fun hn hb => this.2 (numsL_mem hn (by simp)) (by omega)⟩
    · have := hdsL_pos b o (i + 1) l x hx
      refine ⟨this.1, fun hn hb => this.2 ?_ hb⟩
      simp only [numsL, Bool.and_eq_true] at hn
      exact hn.2
end
/-- does the free variable n occur? -/
def occ (n : Int) (t : Tm) : Bool := decide (n ∈ insL [] (hds (rsel 1) 0 t))
theorem occ_low (n : Int) (hn : 0 ≤ n) (t : Tm) : occ n t = low n n t := by
  unfold occ
  rw [Bool.eq_iff_iff, decide_eq_true_iff, mem_insL]
  have := mem_hds n hn 0 t
  rw [Int.add_zero] at this
  rw [← this]; simp
theorem occ_neg (n : Int) (hn : n < 0) (t : Tm) : occ n t = false := by
  unfold occ
  rw [decide_eq_false_iff_not, mem_insL]
  rintro (h | h)
  · simp at h
  · have := (hds_pos 0 t n h).1; omega
theorem occ_far (n : Int) (hn : 10000 ≤ n) (t : Tm) (h : nums t = true) : occ n t = false := by
  unfold occ
  rw [decide_eq_false_iff_not, mem_insL]
  rintro (h' | h')
  · simp at h'
  · have := (hds_pos 0 t n h').2 h (Int.le_refl _); omega
end Tm
end Go.Proofs.Yteoheeddjddekaa

namespace Go.Proofs.Yteoheeddjddekaa
open Go.RowKit
set_option linter.unusedSimpArgs false
set_option linter.unusedVariables false

/-- what Free, Constants and Metas return -/
def contOut (x : Int) (t : Tm) : List Int × Int := if Tm.proper t then (Tm.insL [] (Tm.hds (rsel x) 0 t), 0) else ([], 2)
theorem contOut_free (y : Int) (t : Tm) : VF.numsOut y t = contOut 1 t := by
  unfold VF.numsOut contOut
  rcases h : Tm.proper t with _ | _
  · rfl
  · simp only [if_true]; rw [Tm.hds_free y h]
theorem contOut_heads (x : Int) (hx : 2 ≤ x) (t : Tm) : VH.numsOut x t = contOut x t := by
  unfold VH.numsOut contOut
  rcases h : Tm.proper t with _ | _
  · rfl
  · simp only [if_true]; rw [Tm.hds_heads x hx h]

theorem numE_next {w w0 w1 : World} {r : List Int × Int} {e : Ending} (hb : Below w.heap.size w w0) (h : NumE w0 r e w1) : NumE w r e w1 := by
  obtain ⟨v, he, hi, hb1⟩ := h
  exact ⟨v, he, hi, hb.trans (hb1.mono hb.size)⟩

set_option maxHeartbeats 1000000 in
set_option maxRecDepth 100000 in
theorem numberOf_any (x : Int) (w : World) : Calls Try.prog 53 #[.int .i64 x] w fun e w' => e = .returned (.func (.func 75) #[] #[.pointer (some ⟨w.heap.size, 0, none⟩)]) ∧ w' = w.alloc (.cells #[.int .i64 x] 3) := by
  go_enter Try.func53, Try.ntmps53
  go_wp2
  go_ret
  exact ⟨rfl, rfl⟩

set_option maxHeartbeats 1000000 in
set_option maxRecDepth 100000 in
theorem consts_any (o h n : Int) (v : Value) (l : List Tm) (w : World) (hv : Lies w (fun _ => True) v l) :
    Calls Try.prog 25 #[.agg #[.int .i64 o, .int .i64 h, .int .i64 n, v]] w (NumE w (contOut 2 (.mk o h n l))) := by
  obtain ⟨a2, n2, m2, rfl⟩ := hv.isSlice
  have hb := (two_below w (.cells #[.int .i64 o, .int .i64 h, .int .i64 n, .slice a2 n2 m2] 25) (.cells #[.int .i64 2] 3)).drew
  have hn := two_blocks w #[.int .i64 o, .int .i64 h, .int .i64 n, .slice a2 n2 m2] #[.int .i64 2] 25 3
  have hn0 := heap_alloc_new w (.cells #[.int .i64 o, .int .i64 h, .int .i64 n, .slice a2 n2 m2] 25)
  have call := VH.nums_any o h n _ l 2 (w.heap.size + 1) ((w.alloc (.cells #[.int .i64 o, .int .i64 h, .int .i64 n, .slice a2 n2 m2] 25)).alloc (.cells #[.int .i64 2] 3)).drew (hv.keep hb) hn.2 (lt_of_block hn.2)
  rw [contOut_heads 2 (by omega)] at call
  unfold VH.fv at call
  have hx0 : Cells4 (w.alloc (.cells #[.int .i64 o, .int .i64 h, .int .i64 n, .slice a2 n2 m2] 25)).drew w.heap.size (.int .i64 o) (.int .i64 h) (.int .i64 n) (.slice a2 n2 m2) := ⟨cell_in hn0 0 _ rfl, cell_in hn0 1 _ rfl, cell_in hn0 2 _ rfl, cell_in hn0 3 _ rfl⟩
  have hx1 : Cells4 ((w.alloc (.cells #[.int .i64 o, .int .i64 h, .int .i64 n, .slice a2 n2 m2] 25)).alloc (.cells #[.int .i64 2] 3)).drew w.heap.size (.int .i64 o) (.int .i64 h) (.int .i64 n) (.slice a2 n2 m2) := ⟨cell_in hn.1 0 _ rfl, cell_in hn.1 1 _ rfl, cell_in hn.1 2 _ rfl, cell_in hn.1 3 _ rfl⟩
  clear hv hn hn0
  go_enter Try.func25, Try.ntmps25
  go_wp2_with fail
  go_region_held3 (fun W => Cells4 W w.heap.size (.int .i64 o) (.int .i64 h) (.int .i64 n) (.slice a2 n2 m2))
    (first | (with_reducible exact hx0) | (with_reducible exact hx1) | (with_reducible exact keep4 hb2 hx1))
    (first | (go_at_call 53; (with_reducible refine (numberOf_any 2 _).mono ?_); rintro e w1 ⟨rfl, rfl⟩) | (go_at_call 52; (with_reducible refine call.mono ?_); rintro e w2 ⟨v1, rfl, hi1, hb2⟩))
  go_wp2
  go_ret2
  exact ⟨v1, rfl, hi1, hb.trans (hb2.mono hb.size)⟩

/-- what Occurs returns -/
def occOut (n : Int) (t : Tm) : Bool × Int := if Tm.proper t then (Tm.occ n t, 0) else (false, 2)
theorem occ_end {n : Int} {t : Tm} : (Value.tuple #[.bool (decide (n ∈ (contOut 1 t).1)), .int .i64 (contOut 1 t).2]) = .tuple #[.bool (occOut n t).1, .int .i64 (occOut n t).2] := by
  unfold contOut occOut Tm.occ
  split <;> simp

set_option maxHeartbeats 1000000 in
set_option maxRecDepth 100000 in
theorem freeR_any (o h n : Int) (v : Value) (l : List Tm) (w : World) (hv : Lies w (fun _ => True) v l) (hp : Tm.proper (.mk o h n l) = true) :
    Calls Try.prog 77 #[.agg #[.int .i64 o, .int .i64 h, .int .i64 n, v]] w (GivesInts w (contOut 1 (.mk o h n l)).1) := by
  obtain ⟨a2, n2, m2, rfl⟩ := hv.isSlice
  have hb := one_below w (.cells #[.int .i64 o, .int .i64 h, .int .i64 n, .slice a2 n2 m2] 25)
  have hsz := Tm.proper_sz hp
  have call := heads_calls _ 1 (by omega) (by omega) _ o h n 0 _ l (.slice none 0 0) [] (w.alloc (.cells #[.int .i64 o, .int .i64 h, .int .i64 n, .slice a2 n2 m2] 25)) (Nat.le_refl _) (by omega) (by omega) (by simp; omega) (Tm.nums_of_formed _ 1 (Tm.proper_formed hp)) (hv.keep hb) ⟨Ints.nil _, fun _ => rfl⟩
  have E : Hid ((contOut 1 (.mk o h n l)).1 = Tm.insL [] (Tm.hds (rsel 1) 0 (.mk o h n l))) := by show _ = _; unfold contOut; rw [hp]; rfl
  rw [E.out]
  obtain ⟨xs, hxs⟩ : ∃ xs, xs = Tm.insL [] (Tm.hds (rsel 1) 0 (.mk o h n l)) := ⟨_, rfl⟩
  rw [← hxs] at call ⊢
  clear hv hp hsz hxs E
  go_enter Try.func77, Try.ntmps77
  go_wp2_with (go_at_call 59; (with_reducible refine call.mono ?_); rintro e w1 ⟨v1, rfl, hi1, hb1⟩)
  go_ret
  exact ⟨v1, rfl, hi1, hb.trans (hb1.mono hb.size)⟩

set_option maxHeartbeats 1000000 in
set_option maxRecDepth 100000 in
theorem constsR_any (o h n : Int) (v : Value) (l : List Tm) (w : World) (hv : Lies w (fun _ => True) v l) (hp : Tm.proper (.mk o h n l) = true) :
    Calls Try.prog 33 #[.agg #[.int .i64 o, .int .i64 h, .int .i64 n, v]] w (GivesInts w (contOut 2 (.mk o h n l)).1) := by
  obtain ⟨a2, n2, m2, rfl⟩ := hv.isSlice
  have hb := one_below w (.cells #[.int .i64 o, .int .i64 h, .int .i64 n, .slice a2 n2 m2] 25)
  have hsz := Tm.proper_sz hp
  have call := heads_calls _ 2 (by omega) (by omega) _ o h n 0 _ l (.slice none 0 0) [] (w.alloc (.cells #[.int .i64 o, .int .i64 h, .int .i64 n, .slice a2 n2 m2] 25)) (Nat.le_refl _) (by omega) (by omega) (by simp; omega) (Tm.nums_of_formed _ 1 (Tm.proper_formed hp)) (hv.keep hb) ⟨Ints.nil _, fun _ => rfl⟩
  have E : Hid ((contOut 2 (.mk o h n l)).1 = Tm.insL [] (Tm.hds (rsel 2) 0 (.mk o h n l))) := by show _ = _; unfold contOut; rw [hp]; rfl
  rw [E.out]
  obtain ⟨xs, hxs⟩ : ∃ xs, xs = Tm.insL [] (Tm.hds (rsel 2) 0 (.mk o h n l)) := ⟨_, rfl⟩
  rw [← hxs] at call ⊢
  clear hv hp hsz hxs E
  go_enter Try.func33, Try.ntmps33
  go_wp2_with (go_at_call 59; (with_reducible refine call.mono ?_); rintro e w1 ⟨v1, rfl, hi1, hb1⟩)
  go_ret
  exact ⟨v1, rfl, hi1, hb.trans (hb1.mono hb.size)⟩

set_option maxHeartbeats 1000000 in
set_option maxRecDepth 100000 in
theorem metasR_any (o h n : Int) (v : Value) (l : List Tm) (w : World) (hv : Lies w (fun _ => True) v l) (hp : Tm.proper (.mk o h n l) = true) :
    Calls Try.prog 78 #[.agg #[.int .i64 o, .int .i64 h, .int .i64 n, v]] w (GivesInts w (contOut 3 (.mk o h n l)).1) := by
  obtain ⟨a2, n2, m2, rfl⟩ := hv.isSlice
  have hb := one_below w (.cells #[.int .i64 o, .int .i64 h, .int .i64 n, .slice a2 n2 m2] 25)
  have hsz := Tm.proper_sz hp
  have call := heads_calls _ 3 (by omega) (by omega) _ o h n 0 _ l (.slice none 0 0) [] (w.alloc (.cells #[.int .i64 o, .int .i64 h, .int .i64 n, .slice a2 n2 m2] 25)) (Nat.le_refl _) (by omega) (by omega) (by simp; omega) (Tm.nums_of_formed _ 1 (Tm.proper_formed hp)) (hv.keep hb) ⟨Ints.nil _, fun _ => rfl⟩
  have E : Hid ((contOut 3 (.mk o h n l)).1 = Tm.insL [] (Tm.hds (rsel 3) 0 (.mk o h n l))) := by show _ = _; unfold contOut; rw [hp]; rfl
  rw [E.out]
  obtain ⟨xs, hxs⟩ : ∃ xs, xs = Tm.insL [] (Tm.hds (rsel 3) 0 (.mk o h n l)) := ⟨_, rfl⟩
  rw [← hxs] at call ⊢
  clear hv hp hsz hxs E
  go_enter Try.func78, Try.ntmps78
  go_wp2_with (go_at_call 59; (with_reducible refine call.mono ?_); rintro e w1 ⟨v1, rfl, hi1, hb1⟩)
  go_ret
  exact ⟨v1, rfl, hi1, hb.trans (hb1.mono hb.size)⟩

end Go.Proofs.Yteoheeddjddekaa

namespace Go.Proofs.Yteoheeddjddekaa
open Go.RowKit
set_option linter.unusedSimpArgs false
set_option linter.unusedVariables false

/-- the number of a slice's elements -/
def rowLenOf : Value → Nat | .slice _ n _ => n | _ => 0

/-- what Split gives -/
def GivesSplit (w : World) (x : List Tm × Tm × Int) (e : Ending) (w' : World) : Prop :=
  ∃ a b, e = .returned (.tuple #[a, .agg #[.int .i64 x.2.1.op, .int .i64 x.2.1.hd, .int .i64 x.2.1.n, b], .int .i64 x.2.2]) ∧ Below w.heap.size w w' ∧ Lies w' (w.heap.size ≤ ·) a x.1 ∧ Lies w' (w.heap.size ≤ ·) b x.2.1.args

/-- the loop: the domains' row, the parameter's box with what is left, the result's box -/
structure SplitSt (w : World) (t : Tm) (v : Value) (ts : List Tm) (u : Tm) (uv : Value) (wr : World) : Prop where
  row : Built wr (w.heap.size + 2) 25 v ts
  box : wr.heap[w.heap.size]? = some (.cells #[.int .i64 u.op, .int .i64 u.hd, .int .i64 u.n, uv] 25 (0, 0))
  res : wr.heap[w.heap.size + 1]? = some (.cells #[.int .i64 0, .int .i64 0, .int .i64 0, .slice none 0 0] 25 (0, 0))
  arg : Lies w (fun _ => True) uv u.args
  below : Below w.heap.size w wr
  spl : SplitTo t ts u

theorem Built.len {w : World} {base : Nat} {e : TypeId} {v : Value} {ts : List Tm} (h : Built w base e v ts) : rowLenOf v = ts.length := by
  obtain ⟨vs, _, hown, _⟩ := h.has
  rcases hown.2 with ⟨rfl, h0⟩ | ⟨g, cap, cur, rfl, _⟩
  · simp [rowLenOf, h0]
  · rfl

theorem SplitSt.next {w w3 : World} {t : Tm} {v v' : Value} {ts : List Tm} {u a b : Tm} {uv bv : Value} {wr : World} (H : SplitSt w t v ts u uv wr) (hb : Below (w.heap.size + 2) wr w3) (hrow : Built w3 (w.heap.size + 2) 25 v' (ts ++ [a]))
    (e : u = .mk 2 0 0 [a, b]) (ha : Tm.proper a = true) (hpb : Tm.proper b = true) (hl : Lies w (fun _ => True) bv b.args) :
    SplitSt w t v' (ts ++ [a]) b bv ((((w3.setCell ⟨w.heap.size, 0, none⟩ (.int .i64 b.op)).setCell ⟨w.heap.size, 1, none⟩ (.int .i64 b.hd)).setCell ⟨w.heap.size, 2, none⟩ (.int .i64 b.n)).setCell ⟨w.heap.size, 3, none⟩ bv) := by
  have hbox : w3.heap[w.heap.size]? = _ := (hb.block w.heap.size (by omega)).trans H.box
  have hres : w3.heap[w.heap.size + 1]? = _ := (hb.block (w.heap.size + 1) (by omega)).trans H.res
  refine ⟨(((hrow.setCell (by simp) _).setCell (by simp) _).setCell (by simp) _).setCell (by simp) _, set4_at hbox _ _ _ _, ?_, hl, ((((H.below.trans (hb.mono (by omega))).setCell (by simp) _).setCell (by simp) _).setCell (by simp) _).setCell (by simp) _, H.spl.step e ha hpb⟩
  exact (heap_set4 _ _ _ _ (by simp) (by simp) (by simp) (by simp)).trans hres

end Go.Proofs.Yteoheeddjddekaa

namespace Go.Proofs.Yteoheeddjddekaa
open Go.RowKit
set_option linter.unusedSimpArgs false
set_option linter.unusedVariables false

/-- a row of the call's own whose terms' spines lie in an older world -/
structure Laid (w wr : World) (base : Nat) (v : Value) (ts : List Tm) : Prop where
  has : ∃ vs : List Value, ts.length = vs.length ∧ wr.ownsRow base 25 4 v ts.length (flat ts vs) ∧ ∀ i (h : i < ts.length) (h' : i < vs.length), Lies w (fun _ => True) vs[i] ts[i].args
  fit : ∀ t ∈ ts, t.fit
theorem Laid.nil (w wr : World) (base : Nat) : Laid w wr base (.slice none 0 0) [] := ⟨⟨[], rfl, World.ownsRow_nil _ _ _ _, fun i h => by simp at h⟩, by simp⟩
theorem Laid.keep {w wr w' : World} {base : Nat} {v : Value} {ts : List Tm} (h : Laid w wr base v ts) (hb : ∀ b, base ≤ b → b < wr.heap.size → w'.heap[b]? = wr.heap[b]?) : Laid w w' base v ts := by
  obtain ⟨⟨vs, hl, hown, hsub⟩, hfit⟩ := h
  refine ⟨⟨vs, hl, ⟨hown.1, ?_⟩, hsub⟩, hfit⟩
  rcases hown.2 with hn | ⟨g, cap, cur, rfl, hg, hh, rest⟩
  · exact .inl hn
  · exact .inr ⟨g, cap, cur, rfl, hg, (hb g hg (Array.getElem?_eq_some_iff.1 hh).1).trans hh, rest⟩
theorem Laid.setCell {w wr : World} {base : Nat} {v : Value} {ts : List Tm} (h : Laid w wr base v ts) {p : Addr} (hp : p.block < base) (u : Value) : Laid w (wr.setCell p u) base v ts :=
  h.keep fun b hb _ => Below.heap_setCell _ _ _ _ (by omega)
theorem Laid.lt {w wr : World} {base : Nat} {v : Value} {ts : List Tm} (h : Laid w wr base v ts) : ∀ k, v.ownBlock = some k → base ≤ k ∧ k < wr.heap.size := by
  obtain ⟨vs, _, hown, _⟩ := h.has; exact hown.lt
theorem Laid.len {w wr : World} {base : Nat} {v : Value} {ts : List Tm} (h : Laid w wr base v ts) : rowLenOf v = ts.length := by
  obtain ⟨vs, _, hown, _⟩ := h.has
  rcases hown.2 with ⟨rfl, h0⟩ | ⟨g, cap, cur, rfl, _⟩
  · simp [rowLenOf, h0]
  · rfl
theorem Laid.lies {w wr : World} {base : Nat} {v : Value} {ts : List Tm} (h : Laid w wr base v ts) (hbl : Below w.heap.size w wr) : Lies wr (fun _ => True) v ts := by
  obtain ⟨⟨vs, hl, hown, hsub⟩, hfit⟩ := h
  have hcells := @World.ownsRow.cells wr base 25 4 v ts.length (flat ts vs) hown
  rcases hown.2 with ⟨rfl, h0⟩ | ⟨g, cap, cur, rfl, hg, hh, hle, hmx, _⟩
  · obtain rfl : ts = [] := List.eq_nil_of_length_eq_zero h0
    exact Lies.nil _ _
  · have hc : ∀ j u, (flat ts vs)[j]? = some u → wr.cell? ⟨g, 0 + j, none⟩ = some u := fun j u hu => by
      have := hcells (g := g) (by simp [Value.ownBlock]) j u hu
      rwa [Addr.add_lit] at this
    have hts : ts = (List.range ts.length).map fun i => Tm.mk (ts[i]?.getD (.mk 0 0 0 [])).op (ts[i]?.getD (.mk 0 0 0 [])).hd (ts[i]?.getD (.mk 0 0 0 [])).n (ts[i]?.getD (.mk 0 0 0 [])).args := by
      apply List.ext_getElem
      · simp
      · intro i h1 h2
        simp only [List.getElem_map, List.getElem_range, List.getElem?_eq_getElem h1, Option.getD_some]
        cases ts[i]; rfl
    have hget : ∀ i (h : i < ts.length), ts[i]?.getD (.mk 0 0 0 []) = ts[i] := fun i h => by rw [List.getElem?_eq_getElem h]; rfl
    have hvs : ∀ i (h : i < vs.length), vs[i]?.getD (.slice none 0 0) = vs[i] := fun i h => by rw [List.getElem?_eq_getElem h]; rfl
    have hf := fun i (h : i < ts.length) => flat_get ts vs i h (by omega)
    have hm : cap ≤ 9223372036854775807 := by unfold maxLen at hmx; exact hmx
    have row := Lies.row (w := wr) (S := fun _ => True) (some ⟨g, 0, none⟩) g 0 ts.length cap (fun i => (ts[i]?.getD (.mk 0 0 0 [])).op) (fun i => (ts[i]?.getD (.mk 0 0 0 [])).hd) (fun i => (ts[i]?.getD (.mk 0 0 0 [])).n)
      (fun i => vs[i]?.getD (.slice none 0 0)) (fun i => (ts[i]?.getD (.mk 0 0 0 [])).args) (fun _ => rfl) (fun _ => trivial) hle hm
      (fun i hi => by rw [hget i hi]; exact hc _ _ (hf i hi).1) (fun i hi => by rw [hget i hi]; have := hc _ _ (hf i hi).2.1; rwa [← Nat.add_assoc] at this)
      (fun i hi => by rw [hget i hi]; have := hc _ _ (hf i hi).2.2.1; rwa [← Nat.add_assoc] at this) (fun i hi => by rw [hvs i (by omega)]; have := hc _ _ (hf i hi).2.2.2; rwa [← Nat.add_assoc] at this)
      (fun i hi => by rw [hget i hi]; exact (hfit _ (List.getElem_mem hi)).1) (fun i hi => by rw [hget i hi]; exact (hfit _ (List.getElem_mem hi)).2.1) (fun i hi => by rw [hget i hi]; exact (hfit _ (List.getElem_mem hi)).2.2)
      (fun i hi => by rw [hget i hi, hvs i (by omega)]; exact (hsub i hi (by omega)).keep hbl)
    rw [← hts] at row
    exact row

/-- the loop -/
structure SplitStR (w : World) (t : Tm) (v : Value) (ts : List Tm) (u : Tm) (uv : Value) (wr : World) : Prop where
  row : Laid w wr (w.heap.size + 2) v ts
  box : wr.heap[w.heap.size]? = some (.cells #[.int .i64 u.op, .int .i64 u.hd, .int .i64 u.n, uv] 25 (0, 0))
  res : wr.heap[w.heap.size + 1]? = some (.cells #[.int .i64 0, .int .i64 0, .int .i64 0, .slice none 0 0] 25 (0, 0))
  arg : Lies w (fun _ => True) uv u.args
  below : Below w.heap.size w wr
  spl : SplitTo t ts u
theorem SplitStR.next {w w3 : World} {t : Tm} {v v' : Value} {ts : List Tm} {u a b : Tm} {uv bv : Value} {wr : World} (H : SplitStR w t v ts u uv wr) (hb : Below (w.heap.size + 2) wr w3) (hrow : Laid w w3 (w.heap.size + 2) v' (ts ++ [a]))
    (e : u = .mk 2 0 0 [a, b]) (ha : Tm.proper a = true) (hpb : Tm.proper b = true) (hl : Lies w (fun _ => True) bv b.args) :
    SplitStR w t v' (ts ++ [a]) b bv ((((w3.setCell ⟨w.heap.size, 0, none⟩ (.int .i64 b.op)).setCell ⟨w.heap.size, 1, none⟩ (.int .i64 b.hd)).setCell ⟨w.heap.size, 2, none⟩ (.int .i64 b.n)).setCell ⟨w.heap.size, 3, none⟩ bv) := by
  have hbox : w3.heap[w.heap.size]? = _ := (hb.block w.heap.size (by omega)).trans H.box
  have hres : w3.heap[w.heap.size + 1]? = _ := (hb.block (w.heap.size + 1) (by omega)).trans H.res
  refine ⟨(((hrow.setCell (by simp) _).setCell (by simp) _).setCell (by simp) _).setCell (by simp) _, set4_at hbox _ _ _ _, ?_, hl, ((((H.below.trans (hb.mono (by omega))).setCell (by simp) _).setCell (by simp) _).setCell (by simp) _).setCell (by simp) _, H.spl.step e ha hpb⟩
  exact (heap_set4 _ _ _ _ (by simp) (by simp) (by simp) (by simp)).trans hres

set_option maxHeartbeats 4000000 in
set_option maxRecDepth 100000 in
theorem splitR_any (t : Tm) (v : Value) (w : World) (hv : Lies w (fun _ => True) v t.args) (hp : Tm.proper t = true) :
    Calls Try.prog 56 #[.agg #[.int .i64 t.op, .int .i64 t.hd, .int .i64 t.n, v]] w fun e w' =>
      ∃ a b, e = .returned (.tuple #[a, .agg #[.int .i64 (Tm.splitOf t).2.op, .int .i64 (Tm.splitOf t).2.hd, .int .i64 (Tm.splitOf t).2.n, b]]) ∧ Below w.heap.size w w' ∧ Lies w' (fun _ => True) a (Tm.splitOf t).1 ∧ Lies w' (fun _ => True) b (Tm.splitOf t).2.args := by
  obtain ⟨a2, n2, m2, rfl⟩ := hv.isSlice
  obtain ⟨i0, hi0, hz0, hz1, hz2⟩ := info_parts tm_info
  have h2 := two_below w (.cells #[.int .i64 t.op, .int .i64 t.hd, .int .i64 t.n, .slice a2 n2 m2] 25) (.cells #[.int .i64 0, .int .i64 0, .int .i64 0, .slice none 0 0] 25)
  have hk2 := two_blocks w #[.int .i64 t.op, .int .i64 t.hd, .int .i64 t.n, .slice a2 n2 m2] #[.int .i64 0, .int .i64 0, .int .i64 0, .slice none 0 0] 25 25
  have HST := Lib.hid (show SplitStR w t (.slice none 0 0) [] t (.slice a2 n2 m2) _ from ⟨Laid.nil _ _ _, hk2.1, hk2.2, hv, h2, SplitTo.start hp⟩)
  have HI0 := Lib.hid hi0
  have HZ0 := Lib.hid hz0
  clear h2 hk2 hv hp hi0 hz0
  go_enter Try.func56, Try.ntmps56
  go_wp2_with fail
  go_loopw [4] (fun v wr => ∃ ts u uv, SplitStR w t v ts u uv wr) (fun v _ => 600 - rowLenOf v)
  case atStart => exact ⟨_, _, _, HST.out⟩
  case round =>
    obtain ⟨ts, u, uv, H⟩ := hrel
    obtain ⟨x0, x1, x2, x3⟩ := cells4_of H.box
    obtain ⟨a4, n4, m4, rfl⟩ := H.arg.isSlice
    by_cases hop : u.op = 2
    · obtain ⟨uo, uh, un, ul⟩ := u
      simp only [Tm.op] at hop
      subst hop
      obtain ⟨a, b, rfl, rfl, rfl, ha, hpb⟩ := Tm.proper_pi H.spl.ok
      obtain ⟨ad, bb, off, len, cap, oo, hh, kk, sv, tt, hed, R⟩ := H.arg.open
      simp only [Value.slice.injEq] at hed
      obtain ⟨rfl, rfl, rfl⟩ := hed
      obtain rfl : 2 = n4 := R.length
      obtain rfl := R.hao (by omega)
      have ea : a = .mk (oo 0) (hh 0) (kk 0) (tt 0) := R.get 0 (by omega)
      have eb : b = .mk (oo 1) (hh 1) (kk 1) (tt 1) := R.get 1 (by omega)
      obtain ⟨d0, d1, d2, d3, hs0⟩ := R.at H.below 0 (by omega)
      simp only [Nat.zero_mul, Nat.add_zero] at d0 d1 d2 d3
      obtain ⟨a5, n5, m5, hsv0⟩ := (R.sub 0 (by omega)).isSlice
      obtain ⟨a6, n6, m6, hsv1⟩ := (R.sub 1 (by omega)).isSlice
      rw [hsv0] at d3
      have hfa : (Tm.mk (oo 0) (hh 0) (kk 0) (tt 0)).fit := by rw [← ea]; exact Tm.proper_fit ha
      have hsz := H.spl.sz
      have hlen := H.row.len
      have hbsz := H.below.size
      have hbl := lt_of_block H.res
      have hrl := H.row.lt
      obtain ⟨vs, hvl, hown, hsub⟩ := H.row.has
      have HVL := Lib.hid hvl
      have HSB := Lib.hid hsub
      have HOW := Lib.hid hown
      have HH := Lib.hid H
      have HR := Lib.hid R
      have HA := Lib.hid ea
      have HB := Lib.hid eb
      have HPA := Lib.hid ha
      have HPB := Lib.hid hpb
      clear H R ea eb ha hpb hs0 hvl hsub hown
      go_wp2_with (at_builtin; refine wpList_append_lies _ (by rfl) _ _ _ (by rfl) (w.heap.size + 2) 25 i0 _ 4 48 Try.underlying23 HI0.out HZ0.out hz1 hz2 rfl (by omega) u4 _ _ (by rfl) (HOW.out.alloc _) ⟨wr.heap.size, 0, none⟩ 1 1 [.int .i64 (oo 0), .int .i64 (hh 0), .int .i64 (kk 0), .slice a5 n5 m5] (by rfl) (by rfl) (World.news_of_block (cs := #[.int .i64 (oo 0), .int .i64 (hh 0), .int .i64 (kk 0), .slice a5 n5 m5]) (t := 25) (fr := (0, 0)) (heap_alloc_new _ _)) (by intro u hu; simp at hu; rcases hu with rfl | rfl | rfl | rfl <;> rfl) (by omega) (by unfold maxLen; omega) (by omega) (by simp; omega) _ rfl ?_; intro g cap3 w3 hown3 hgrow3 hat3 hlt3; have hb3 : Below (w.heap.size + 2) wr w3 := (((Below.refl (w.heap.size + 2) wr).alloc (by omega) _).grown hgrow3 (by simp; omega) (fun k hk => (hrl k hk).1)); have hbox3 := (hb3.block w.heap.size (by omega)).trans HH.out.box; obtain ⟨y0, y1, y2, y3⟩ := cells4_of hbox3; have f0 := free_in hbox3 0; have f1 := free_in hbox3 1; have f2 := free_in hbox3 2; have f3 := free_in hbox3 3; obtain ⟨g0, g1, g2, g3, _⟩ := HR.out.at (HH.out.below.trans (hb3.mono (by omega))) 1 (by omega); rw [hsv1] at g3)
      go_roundw
      case rel =>
        have hl0 := HR.out.sub 0 (by omega)
        rw [hsv0] at hl0
        have hrow : Laid w w3 (w.heap.size + 2) (.slice (some ⟨g, 0, none⟩) (ts.length + 1) cap3) (ts ++ [.mk (oo 0) (hh 0) (kk 0) (tt 0)]) := by
          refine ⟨⟨vs ++ [.slice a5 n5 m5], by simp [HVL.out], by rw [flat_snoc ts vs _ _ HVL.out]; simpa [Tm.op, Tm.hd, Tm.n] using hown3, ?_⟩, ?_⟩
          · intro i h h'
            by_cases hi : i < ts.length
            · rw [List.getElem_append_left hi, List.getElem_append_left (by have := HVL.out; omega)]
              exact HSB.out i hi (by have := HVL.out; omega)
            · obtain rfl : i = ts.length := by simp at h; omega
              have e1 : (vs ++ [Value.slice a5 n5 m5])[ts.length]'h' = .slice a5 n5 m5 := by
                rw [List.getElem_append_right (by have := HVL.out; omega)]; simp
              rw [e1]
              simp only [List.getElem_append_right (Nat.le_refl _), Nat.sub_self, List.getElem_cons_zero]
              exact hl0
          · intro x hx
            rcases List.mem_append.1 hx with hx | hx
            · exact HH.out.row.fit x hx
            · rw [List.mem_singleton.1 hx]; exact hfa
        rw [← HA.out] at hrow
        have hl := HR.out.sub 1 (by omega)
        rw [hsv1] at hl
        exact ⟨_, _, _, SplitStR.next (b := .mk (oo 1) (hh 1) (kk 1) (tt 1)) HH.out hb3 hrow (by rw [HB.out]) HPA.out (by rw [← HB.out]; exact HPB.out) hl⟩
      case measure =>
        have := Tm.sz_pos (.mk 2 0 0 [a, b])
        have e : rowLenOf (.slice (some ⟨g, 0, none⟩) (ts.length + 1) cap3) = ts.length + 1 := rfl
        simp only [e, hlen]; omega
    · have hbsz := H.below.size
      have hbl := lt_of_block H.res
      obtain ⟨a7, n7, m7, rfl⟩ := (H.row.lies H.below).isSlice
      have HH := Lib.hid H
      have HE := Lib.hid (H.spl.stop hop)
      have hop' : (u.op == 2) = false := by simpa using hop
      obtain ⟨y0, y1, y2, y3⟩ := cells4_of H.res
      have f0 := free_in H.res 0
      have f1 := free_in H.res 1
      have f2 := free_in H.res 2
      have f3 := free_in H.res 3
      clear H
      go_upto_region 5 with fail
      go_region
      all_goals
        go_wp2_with fail
        have hz := set4_at HH.out.res (.int .i64 u.op) (.int .i64 u.hd) (.int .i64 u.n) (.slice a4 n4 m4)
        have B2 := (((HH.out.below.setCell (p := ⟨w.heap.size + 1, 0, none⟩) (by simp) (.int .i64 u.op)).setCell (p := ⟨w.heap.size + 1, 1, none⟩) (by simp) (.int .i64 u.hd)).setCell (p := ⟨w.heap.size + 1, 2, none⟩) (by simp) (.int .i64 u.n)).setCell (p := ⟨w.heap.size + 1, 3, none⟩) (by simp) (.slice a4 n4 m4)
        have L2 := (((HH.out.row.setCell (p := ⟨w.heap.size + 1, 0, none⟩) (by simp) (.int .i64 u.op)).setCell (p := ⟨w.heap.size + 1, 1, none⟩) (by simp) (.int .i64 u.hd)).setCell (p := ⟨w.heap.size + 1, 2, none⟩) (by simp) (.int .i64 u.n)).setCell (p := ⟨w.heap.size + 1, 3, none⟩) (by simp) (.slice a4 n4 m4)
        generalize (((wr.setCell ⟨w.heap.size + 1, 0, none⟩ (.int .i64 u.op)).setCell ⟨w.heap.size + 1, 1, none⟩ (.int .i64 u.hd)).setCell ⟨w.heap.size + 1, 2, none⟩ (.int .i64 u.n)).setCell ⟨w.heap.size + 1, 3, none⟩ (.slice a4 n4 m4) = Z at hz B2 L2 ⊢
        obtain ⟨z0, z1, z2, z3⟩ := cells4_of hz
        refine bodyPost_ret (v := .tuple #[.slice a7 n7 m7, .agg #[.int .i64 u.op, .int .i64 u.hd, .int .i64 u.n, .slice a4 n4 m4]]) (by simp [results, Try.results56, go_sem, z0, z1, z2, z3]) rfl ?_
        rw [HE.out]
        have L3 : Laid w Z.drew (w.heap.size + 2) (.slice a7 n7 m7) ts := L2.keep fun _ _ _ => rfl
        exact ⟨_, _, rfl, B2.drew, L3.lies B2.drew, HH.out.arg.keep B2.drew⟩
end Go.Proofs.Yteoheeddjddekaa

namespace Go.Proofs.Yteoheeddjddekaa
open Go.RowKit
set_option linter.unusedSimpArgs false
set_option linter.unusedVariables false

theorem closed_no1 {N : Int} {t : Tm} (h : Tm.insL [] (Tm.hds (rsel 1) 0 t) ≠ []) : Tm.closed N t = false := by
  unfold Tm.closed
  rw [List.isEmpty_eq_false_iff.2 h]; rfl
theorem closed_no3 {N : Int} {t : Tm} (h : Tm.insL [] (Tm.hds (rsel 3) 0 t) ≠ []) : Tm.closed N t = false := by
  unfold Tm.closed
  rw [List.isEmpty_eq_false_iff.2 h]; simp
theorem closed_nil {N : Int} {t : Tm} (h1 : Tm.insL [] (Tm.hds (rsel 1) 0 t) = []) (h3 : Tm.insL [] (Tm.hds (rsel 3) 0 t) = []) (h2 : Tm.insL [] (Tm.hds (rsel 2) 0 t) = []) : Tm.closed N t = true := by
  unfold Tm.closed
  rw [h1, h2, h3]; rfl
theorem closed_last {N : Int} {t : Tm} (h1 : Tm.insL [] (Tm.hds (rsel 1) 0 t) = []) (h3 : Tm.insL [] (Tm.hds (rsel 3) 0 t) = []) (h2 : Tm.insL [] (Tm.hds (rsel 2) 0 t) ≠ []) : Tm.closed N t = decide ((Tm.insL [] (Tm.hds (rsel 2) 0 t)).getLast h2 < N) := by
  have ha := Tm.asc_insL (Tm.hds (rsel 2) 0 t) [] List.Pairwise.nil
  have := Tm.asc_last _ h2 N ha
  unfold Tm.closed
  rw [h1, h3, Bool.eq_iff_iff, decide_eq_true_eq, this]
  simp
theorem contOut_yes {x : Int} {t : Tm} (h : Tm.proper t = true) : (contOut x t).1 = Tm.insL [] (Tm.hds (rsel x) 0 t) := by unfold contOut; rw [h]; rfl

theorem ints_opn {wx : World} {x : Value} {xs : List Int} {q : Nat} (hq : xs.length = q) (hi : IntsN wx x xs) : ∃ ao b off cap, x = .slice ao q cap ∧ q ≤ cap ∧ cap ≤ 9223372036854775807 ∧ (0 < q → ao = some ⟨b, off, none⟩) ∧ ∀ i (h : i < xs.length), wx.cell? ⟨b, off + i, none⟩ = some (.int .i64 xs[i]) := by
  obtain ⟨⟨ao, b, off, len, cap, I⟩, _⟩ := hi
  obtain rfl : len = q := by rw [← I.hlen]; exact hq
  exact ⟨ao, b, off, cap, I.hv, I.hl, I.hr, I.hao, I.cells⟩

set_option maxHeartbeats 4000000 in
set_option maxRecDepth 100000 in
theorem closedR_any (t : Tm) (N : Nat) (v : Value) (w : World) (hv : Lies w (fun _ => True) v t.args) (hp : Tm.proper t = true) (hN : N ≤ 9223372036854775807) :
    Calls Try.prog 55 #[.agg #[.int .i64 t.op, .int .i64 t.hd, .int .i64 t.n, v], .int .i64 N] w fun e w' => e = .returned (.bool (Tm.closed N t)) ∧ Below w.heap.size w w' := by
  obtain ⟨o, h, n, l⟩ := t
  obtain ⟨a2, n2, m2, rfl⟩ := hv.isSlice
  simp only [Tm.op, Tm.hd, Tm.n]
  have hbx := one_below w (.cells #[.int .i64 o, .int .i64 h, .int .i64 n, .slice a2 n2 m2] 25)
  have c2 := fun w1 (hb : Below w.heap.size w w1) => constsR_any o h n _ l w1 (hv.keep hb) hp
  have c1 := fun w1 (hb : Below w.heap.size w w1) => freeR_any o h n _ l w1 (hv.keep hb) hp
  have c3 := fun w1 (hb : Below w.heap.size w w1) => metasR_any o h n _ l w1 (hv.keep hb) hp
  simp only [contOut_yes hp] at c1 c2 c3
  have N1 := @closed_no1 N (.mk o h n l)
  have N3 := @closed_no3 N (.mk o h n l)
  have NN := @closed_nil N (.mk o h n l)
  have NL := @closed_last N (.mk o h n l)
  generalize Tm.closed N (.mk o h n l) = r at N1 N3 NN NL ⊢
  have hlen : (Tm.insL [] (Tm.hds (rsel 2) 0 (.mk o h n l))).length ≤ 600 := by
    have h1 := Tm.insL_length (Tm.hds (rsel 2) 0 (.mk o h n l)) []
    have h2 := Tm.hds_length (rsel 2) 0 (.mk o h n l)
    have h3 := Tm.proper_sz hp
    simp at h1; omega
  generalize Tm.insL [] (Tm.hds (rsel 1) 0 (.mk o h n l)) = fr at *
  generalize Tm.insL [] (Tm.hds (rsel 2) 0 (.mk o h n l)) = cs at *
  generalize Tm.insL [] (Tm.hds (rsel 3) 0 (.mk o h n l)) = ms at *
  have HB := Lib.hid hbx
  have H1 := Lib.hid N1
  have H3 := Lib.hid N3
  have HN := Lib.hid NN
  have HL := Lib.hid NL
  have HX := Lib.hid (heap_alloc_new w (.cells #[.int .i64 o, .int .i64 h, .int .i64 n, .slice a2 n2 m2] 25))
  clear N1 N3 NN NL hv hp hbx
  have hcs : ∃ q : Nat, cs.length = q := ⟨_, rfl⟩
  have hfs : ∃ q : Nat, fr.length = q := ⟨_, rfl⟩
  have hms : ∃ q : Nat, ms.length = q := ⟨_, rfl⟩
  obtain ⟨qc, hcs⟩ := hcs
  obtain ⟨qf, hfs⟩ := hfs
  obtain ⟨qm, hms⟩ := hms
  have HC := Lib.hid hcs
  have HF := Lib.hid hfs
  have HM := Lib.hid hms
  rw [hcs] at hlen
  clear hcs hfs hms
  by_cases k1 : qf = 0
  · by_cases k3 : qm = 0
    · by_cases k2 : qc = 0
      · subst k1 k2 k3
        go_enter Try.func55, Try.ntmps55
        go_wp2_with (first
          | (go_at_call 33; (with_reducible refine (c2 _ HB.out).mono ?_); rintro e w1 ⟨v1, rfl, hi1, hb1⟩; obtain ⟨ao1, b1, of1, cp1, rfl, hx1, hy1, ha1, hc1⟩ := ints_opn HC.out hi1; have HB1 := Lib.hid (below_next HB.out hb1); have HX1 := Lib.hid (heap_kept hb1 HX.out); obtain ⟨x0, x1, x2, x3⟩ := cells4_of HX1.out; clear hb1 hi1 ha1 hc1)
          | (go_at_call 77; (with_reducible refine (c1 _ HB1.out).mono ?_); rintro e w2 ⟨v2, rfl, hi2, hb2⟩; obtain ⟨ao2, b2, of2, cp2, rfl, hx2, hy2, ha2, hc2⟩ := ints_opn HF.out hi2; have HB2 := Lib.hid (below_next HB1.out hb2); have HX2 := Lib.hid (heap_kept hb2 HX1.out); clear x0 x1 x2 x3; obtain ⟨x0, x1, x2, x3⟩ := cells4_of HX2.out; clear hb2 hi2 ha2 hc2)
          | (go_at_call 78; (with_reducible refine (c3 _ HB2.out).mono ?_); rintro e w3 ⟨v3, rfl, hi3, hb3⟩; obtain ⟨ao3, b3, of3, cp3, rfl, hx3, hy3, ha3, hc3⟩ := ints_opn HM.out hi3; have HB3 := Lib.hid (below_next HB2.out hb3); clear hb3 hi3 ha3 hc3)
          | fail)
        go_ret
        exact ⟨ret_bool (a := true) (HN.out (List.length_eq_zero_iff.1 HF.out) (List.length_eq_zero_iff.1 HM.out) (List.length_eq_zero_iff.1 HC.out)).symm, HB3.out⟩
      · obtain ⟨q, rfl⟩ : ∃ q, qc = q + 1 := ⟨qc - 1, by omega⟩
        subst k1 k3
        have hne : cs ≠ [] := fun e => by have := HC.out; rw [e] at this; simp at this
        have hlast : cs.getLast hne = cs[q]'(by rw [HC.out]; omega) := by rw [List.getLast_eq_getElem]; congr 1; rw [HC.out]; omega
        have HR := Lib.hid (HL.out (List.length_eq_zero_iff.1 HF.out) (List.length_eq_zero_iff.1 HM.out) hne)
        have HLA := Lib.hid hlast
        clear hlast
        go_enter Try.func55, Try.ntmps55
        go_wp2_with (first
          | (go_at_call 33; (with_reducible refine (c2 _ HB.out).mono ?_); rintro e w1 ⟨v1, rfl, hi1, hb1⟩; obtain ⟨ao1, b1, of1, cp1, rfl, hx1, hy1, ha1, hc1⟩ := ints_opn HC.out hi1; obtain rfl := ha1 (by omega); have HCC := Lib.hid (hc1 q (by rw [HC.out]; omega)); have HB1 := Lib.hid (below_next HB.out hb1); have HX1 := Lib.hid (heap_kept hb1 HX.out); obtain ⟨x0, x1, x2, x3⟩ := cells4_of HX1.out; clear hb1 hi1 hc1)
          | (go_at_call 77; (with_reducible refine (c1 _ HB1.out).mono ?_); rintro e w2 ⟨v2, rfl, hi2, hb2⟩; obtain ⟨ao2, b2, of2, cp2, rfl, hx2, hy2, ha2, hc2⟩ := ints_opn HF.out hi2; have HB2 := Lib.hid (below_next HB1.out hb2); have HCD := Lib.hid (kept_cell hb2 HCC.out); have HX2 := Lib.hid (heap_kept hb2 HX1.out); clear x0 x1 x2 x3; obtain ⟨x0, x1, x2, x3⟩ := cells4_of HX2.out; clear hb2 hi2 ha2 hc2)
          | (go_at_call 78; (with_reducible refine (c3 _ HB2.out).mono ?_); rintro e w3 ⟨v3, rfl, hi3, hb3⟩; obtain ⟨ao3, b3, of3, cp3, rfl, hx3, hy3, ha3, hc3⟩ := ints_opn HM.out hi3; have HB3 := Lib.hid (below_next HB2.out hb3); have hcl := kept_cell hb3 HCD.out; clear hb3 hi3 ha3 hc3)
          | fail)
        go_ret
        refine ⟨?_, HB3.out⟩
        rw [HR.out, HLA.out]
        rfl
    · have HR := Lib.hid (H3.out (fun e => k3 (by rw [← HM.out, e]; rfl)))
      have k3' : ((qm : Int) == 0) = false := by simp; omega
      subst k1
      go_enter Try.func55, Try.ntmps55
      go_wp2_with (first
        | (go_at_call 33; (with_reducible refine (c2 _ HB.out).mono ?_); rintro e w1 ⟨v1, rfl, hi1, hb1⟩; obtain ⟨ao1, b1, of1, cp1, rfl, hx1, hy1, ha1, hc1⟩ := ints_opn HC.out hi1; have HB1 := Lib.hid (below_next HB.out hb1); have HX1 := Lib.hid (heap_kept hb1 HX.out); obtain ⟨x0, x1, x2, x3⟩ := cells4_of HX1.out; clear hb1 hi1 ha1 hc1)
        | (go_at_call 77; (with_reducible refine (c1 _ HB1.out).mono ?_); rintro e w2 ⟨v2, rfl, hi2, hb2⟩; obtain ⟨ao2, b2, of2, cp2, rfl, hx2, hy2, ha2, hc2⟩ := ints_opn HF.out hi2; have HB2 := Lib.hid (below_next HB1.out hb2); have HX2 := Lib.hid (heap_kept hb2 HX1.out); clear x0 x1 x2 x3; obtain ⟨x0, x1, x2, x3⟩ := cells4_of HX2.out; clear hb2 hi2 ha2 hc2)
        | (go_at_call 78; (with_reducible refine (c3 _ HB2.out).mono ?_); rintro e w3 ⟨v3, rfl, hi3, hb3⟩; obtain ⟨ao3, b3, of3, cp3, rfl, hx3, hy3, ha3, hc3⟩ := ints_opn HM.out hi3; have HB3 := Lib.hid (below_next HB2.out hb3); clear hb3 hi3 ha3 hc3)
        | fail)
      go_ret
      exact ⟨ret_bool (a := false) HR.out.symm, HB3.out⟩
  · have HR := Lib.hid (H1.out (fun e => k1 (by rw [← HF.out, e]; rfl)))
    have k1' : ((qf : Int) == 0) = false := by simp; omega
    go_enter Try.func55, Try.ntmps55
    go_wp2_with (first
      | (go_at_call 33; (with_reducible refine (c2 _ HB.out).mono ?_); rintro e w1 ⟨v1, rfl, hi1, hb1⟩; obtain ⟨ao1, b1, of1, cp1, rfl, hx1, hy1, ha1, hc1⟩ := ints_opn HC.out hi1; have HB1 := Lib.hid (below_next HB.out hb1); have HX1 := Lib.hid (heap_kept hb1 HX.out); obtain ⟨x0, x1, x2, x3⟩ := cells4_of HX1.out; clear hb1 hi1 ha1 hc1)
      | (go_at_call 77; (with_reducible refine (c1 _ HB1.out).mono ?_); rintro e w2 ⟨v2, rfl, hi2, hb2⟩; obtain ⟨ao2, b2, of2, cp2, rfl, hx2, hy2, ha2, hc2⟩ := ints_opn HF.out hi2; have HB2 := Lib.hid (below_next HB1.out hb2); clear hb2 hi2 ha2 hc2)
      | fail)
    go_ret
    exact ⟨ret_bool (a := false) HR.out.symm, HB2.out⟩
end Go.Proofs.Yteoheeddjddekaa
