/- The contract of the reference's put. -/
import Derived.Test.YteoheeddjddekaaTmInts
import Derived.Laws.AppendOwnNone
namespace Go.Proofs.Yteoheeddjddekaa
open Go.RowKit
set_option linter.unusedSimpArgs false
set_option linter.unusedVariables false
namespace Tm
theorem ins_append (n : Int) : ∀ (pre post : List Int), (∀ x ∈ pre, x < n) → ins (pre ++ post) n = pre ++ ins post n
  | [], post, _ => rfl
  | a :: pre, post, h => by
    simp only [List.cons_append, ins]
    rw [if_pos (h a (by simp)), ins_append n pre post (fun x hx => h x (by simp [hx]))]
/-- all of the first k numbers are less -/
def LessTo (xs : List Int) (n : Int) (k : Nat) : Prop := ∀ x ∈ xs.take k, x < n
theorem LessTo.zero (xs : List Int) (n : Int) : LessTo xs n 0 := by intro x hx; simp at hx
theorem LessTo.step {xs : List Int} {n : Int} {k : Nat} (h : LessTo xs n k) (hk : k < xs.length) {y : Int} (hy : y = xs[k]) (e : y < n) : LessTo xs n (k + 1) := by
  intro x hx
  rw [List.take_succ_eq_append_getElem hk, List.mem_append, List.mem_singleton] at hx
  rcases hx with hx | hx
  · exact h x hx
  · rw [hx, ← hy]; exact e
theorem ins_there {xs : List Int} {n : Int} {k : Nat} (h : LessTo xs n k) (hk : k < xs.length) {y : Int} (hy : y = xs[k]) (e : y = n) : ins xs n = xs := by
  have h1 := ins_append n (xs.take k) (xs.drop k) h
  rw [List.take_append_drop] at h1
  rw [h1, List.drop_eq_getElem_cons hk, ← hy, e]
  unfold ins
  rw [if_neg (Int.lt_irrefl n), if_pos rfl]
  have h2 : xs.take k ++ xs.drop k = xs := List.take_append_drop k xs
  rw [List.drop_eq_getElem_cons hk, ← hy, e] at h2
  exact h2
theorem ins_mid {xs : List Int} {n : Int} {k : Nat} (h : LessTo xs n k) (hk : k < xs.length) {y : Int} (hy : y = xs[k]) (e : n < y) : ins xs n = xs.take k ++ [n] ++ xs.drop k := by
  have h1 := ins_append n (xs.take k) (xs.drop k) h
  rw [List.take_append_drop] at h1
  rw [h1, List.drop_eq_getElem_cons hk, ← hy]
  unfold ins
  rw [if_neg (by omega), if_neg (by omega), List.append_assoc]; rfl
theorem ins_end {xs : List Int} {n : Int} {k : Nat} (h : LessTo xs n k) (hk : xs.length ≤ k) : ins xs n = xs.take k ++ [n] ++ xs.drop k := by
  have h1 := ins_append n (xs.take k) (xs.drop k) h
  rw [List.take_append_drop] at h1
  rw [h1, List.drop_eq_nil_of_le hk]
  simp [ins]
end Tm

/-- a slice of numbers that is nil where it has none -/
def IntsN (w : World) (v : Value) (xs : List Int) : Prop := Ints w v xs ∧ (xs = [] → v = .slice none 0 0)
theorem IntsN.below {w w' : World} {v : Value} {xs : List Int} (h : IntsN w v xs) (hb : Below w.heap.size w w') : IntsN w' v xs := ⟨h.1.below hb, h.2⟩
/-- A call gives numbers. -/
def GivesInts (w : World) (xs : List Int) (e : Ending) (w' : World) : Prop := ∃ v, e = .returned v ∧ IntsN w' v xs ∧ Below w.heap.size w w'

theorem int_info : (Try.prog.info? 3).map (fun i => (i.zero, i.size, i.bytes)) = some (some (.int .i64 0), 1, 8) := by kernel_rfl

theorem grown_new {w w1 : World} {base : Nat} {v : Value} {n : Nat} {e : TypeId} {size : Nat} {ys : List Value} (hb : Below w.heap.size w w1) (h : w1.ownsRow w.heap.size e size v n ys) {w2 : World} (hg : w1.grownBy w2 v.ownBlock) : Below w.heap.size w w2 := by
  refine hb.grown hg hb.size fun j hj => ?_
  exact (h.lt j hj).1

theorem news_take {w : World} {b off : Nat} {xs : List Int} (hc : ∀ i (h : i < xs.length), w.cell? ⟨b, off + i, none⟩ = some (.int .i64 xs[i])) (k : Nat) :
    ∀ j u, ((xs.take k).map (Value.int .i64))[j]? = some u → w.cell? ((⟨b, off, none⟩ : Addr).add j) = some u := by
  intro j u hu
  rw [Addr.add_lit]
  have hj : j < ((xs.take k).map (Value.int .i64)).length := (List.getElem?_eq_some_iff.1 hu).1
  have hj' : j < xs.length := by simp at hj; omega
  rw [hc j hj']
  rw [List.getElem?_eq_getElem hj] at hu
  simpa using hu
theorem news_drop {w : World} {b off : Nat} {xs : List Int} (hc : ∀ i (h : i < xs.length), w.cell? ⟨b, off + i, none⟩ = some (.int .i64 xs[i])) (k : Nat) :
    ∀ j u, ((xs.drop k).map (Value.int .i64))[j]? = some u → w.cell? ((⟨b, off + k, none⟩ : Addr).add j) = some u := by
  intro j u hu
  rw [Addr.add_lit]
  have hj : j < ((xs.drop k).map (Value.int .i64)).length := (List.getElem?_eq_some_iff.1 hu).1
  have hj' : k + j < xs.length := by simp at hj; omega
  rw [Nat.add_assoc, hc (k + j) hj']
  rw [List.getElem?_eq_getElem hj] at hu
  simpa using hu
theorem news_int {w : World} {g : Nat} {n : Int} {t : TypeId} {fr : Nat × Nat} (h : w.heap[g]? = some (.cells #[.int .i64 n] t fr)) : ∀ j u, ([Value.int .i64 n] : List Value)[j]? = some u → w.cell? ((⟨g, 0, none⟩ : Addr).add j) = some u := by
  intro j u hu
  rw [Addr.add_lit]
  match j, hu with
  | 0, hu => simp at hu; subst hu; exact cell_in h 0 _ rfl
  | j + 1, hu => simp at hu
theorem news_none {w : World} {a : Addr} {xs : List Int} {k : Nat} (h : xs.length ≤ k) : ∀ j u, ((xs.drop k).map (Value.int .i64))[j]? = some u → w.cell? (a.add j) = some u := by
  intro j u hu
  rw [List.drop_eq_nil_of_le h] at hu
  simp at hu
theorem ints_one (xs : List Int) : ∀ u ∈ xs.map (Value.int .i64), u.oneCell' = true := by
  intro u hu
  obtain ⟨x, _, rfl⟩ := List.mem_map.1 hu
  rfl

set_option maxHeartbeats 2000000 in
set_option maxRecDepth 100000 in
theorem put_nil (n : Int) (w : World) : Calls Try.prog 79 #[.slice none 0 0, .int .i64 n] w (GivesInts w (Tm.ins [] n)) := by
  obtain ⟨i0, hi0, hz0, hz1, hz2⟩ := info_parts int_info
  go_enter Try.func79, Try.ntmps79
  go_wp2
  refine wp_loop_rounds 1 ?_
  rw [rounds_succ]
  go_wp2_with (first
    | (at_builtin; refine wpList_append_own _ rfl (.tmp 39) (.tmp 41) 42 rfl w.heap.size 3 i0 (.int .i64 0) 1 8 Try.underlying42 hi0 hz0 hz1 hz2 rfl (by decide) _ 0 [] rfl (World.ownsRow_nil _ _ _ _) ⟨w.heap.size, 0, none⟩ 1 1 [.int .i64 n] rfl rfl (news_int (heap_alloc_new w _)) (ints_one [n]) (by unfold maxLen; omega) (by omega) (by simp) ?_; intro v1 w1 hown1 hgrow1 hnil1; have HN1 := Lib.hid hnil1; clear hnil1)
    | (at_builtin; refine wpList_append_own_none rfl (.tmp 43) (.tmp 46) 42 rfl w.heap.size 3 i0 1 Try.underlying42 hi0 v1 _ _ rfl hown1 rfl ?_))
  go_ret
  exact ⟨v1, rfl, ⟨Ints.own (xs := [n]) hown1 rfl, fun h => by simp [Tm.ins] at h⟩, (one_below w _).grown hgrow1 (by simp) fun j hj => by cases hj⟩

theorem put_there {w : World} {v : Value} {xs ys : List Int} (h : ys = xs) (hv : Ints w v xs) (h0 : 0 < xs.length) : GivesInts w ys (.returned v) w := by
  subst h
  exact ⟨v, rfl, ⟨hv, fun e => by rw [e] at h0; simp at h0⟩, Below.refl _ _⟩
theorem put_end {w w3 : World} {v3 : Value} {xs ys : List Int} {n : Int} {k len m : Nat} (hi : ys = xs.take k ++ [n] ++ xs.drop k) (hl : xs.length = len) (hk : k ≤ len) (ho : w3.ownsRow w.heap.size 3 1 v3 m ([] ++ (xs.take k).map (Value.int .i64) ++ [.int .i64 n] ++ (xs.drop k).map (Value.int .i64))) (hb : Below w.heap.size w w3) : GivesInts w ys (.returned v3) w3 := by
  have e : ([] ++ (xs.take k).map (Value.int .i64) ++ [.int .i64 n] ++ (xs.drop k).map (Value.int .i64)) = ys.map (Value.int .i64) := by rw [hi]; simp
  rw [e] at ho
  refine ⟨v3, rfl, ⟨Ints.own ho ?_, fun e => ?_⟩, hb⟩
  · have := ho.1
    simpa using this
  · rw [e] at hi; simp at hi

set_option maxHeartbeats 4000000 in
set_option maxRecDepth 100000 in
theorem put_some (b off len cap : Nat) (xs : List Int) (n : Int) (w : World) (hlen : xs.length = len) (h0 : 0 < len) (hl : len ≤ cap) (hr : cap ≤ 9223372036854775807) (hc : ∀ i (h : i < xs.length), w.cell? ⟨b, off + i, none⟩ = some (.int .i64 xs[i])) (hx : xs.length ≤ 100000) :
    Calls Try.prog 79 #[.slice (some ⟨b, off, none⟩) len cap, .int .i64 n] w (GivesInts w (Tm.ins xs n)) := by
  obtain ⟨i0, hi0, hz0, hz1, hz2⟩ := info_parts int_info
  have HL := Lib.hid hlen
  have HC := Lib.hid hc
  have hlx : len ≤ 100000 := by omega
  have hl2 : len ≤ 9223372036854775807 := by omega
  have hcap0 : 0 < cap := by omega
  clear hlen hc hx
  go_enter Try.func79, Try.ntmps79
  go_wp2
  go_loop [5] (fun i => ∃ k : Nat, k ≤ len ∧ i = .int .i64 k ∧ Tm.LessTo xs n k) (fun i => len - (RowKit.intOf i).toNat)
  case atStart => exact ⟨0, Nat.zero_le _, rfl, Tm.LessTo.zero _ _⟩
  case round =>
    obtain ⟨k, hk, rfl, hno⟩ := hrel
    have HNO := Lib.hid hno
    clear hno
    by_cases hlt : k < len
    · have hkx : k < xs.length := by rw [HL.out]; exact hlt
      have hck := HC.out k hkx
      obtain ⟨y, hy⟩ : ∃ y, y = xs[k] := ⟨_, rfl⟩
      rw [← hy] at hck
      have HY := Lib.hid hy
      clear hy
      have hk0 : (0 : Int) ≤ (k : Int) := by omega
      have hk1 : (k : Int) < (len : Int) := by omega
      by_cases hn : y < n
      · go_wp2
        go_round
        case rel => exact ⟨k + 1, by omega, by go_num, HNO.out.step hkx HY.out hn⟩
        case measure => simp [RowKit.intOf]; omega
      · by_cases he : y = n
        · subst he
          go_wp2
          go_ret
          exact put_there (Tm.ins_there HNO.out hkx HY.out rfl) ⟨_, _, _, _, _, rfl, HL.out, fun _ => rfl, hl, hr, HC.out⟩ (by rw [HL.out]; exact h0)
        · have hb1 : (y == n) = false := by rw [beq_eq_false_iff_ne]; exact he
          have hgt : n < y := by omega
          clear he hn
          have hkc : (k : Int) ≤ (cap : Int) := by omega
          have hkc2 : (k : Int) < (cap : Int) := by omega
          have HT : Hid (((xs.take k).map (Value.int .i64)).length = k * 1) := by show _ = _; rw [List.length_map, List.length_take, HL.out]; omega
          have HT2 : Hid (((xs.drop k).map (Value.int .i64)).length = (len - k) * 1) := by show _ = _; rw [List.length_map, List.length_drop, HL.out]; omega
          have HM1 : Hid (0 + k ≤ maxLen) := by show _ ≤ _; unfold maxLen; omega
          have HM2 : Hid ((0 + k) * 8 ≤ 140737488355328) := by show _ ≤ _; omega
          have HM3 : Hid (0 + k + 1 ≤ maxLen) := by show _ ≤ _; unfold maxLen; omega
          have HM4 : Hid ((0 + k + 1) * 8 ≤ 140737488355328) := by show _ ≤ _; omega
          have HM5 : Hid (0 + k + 1 + (len - k) ≤ maxLen) := by show _ ≤ _; unfold maxLen; omega
          have HM6 : Hid ((0 + k + 1 + (len - k)) * 8 ≤ 140737488355328) := by show _ ≤ _; omega
          go_wp2_with (first
            | (at_builtin; refine wpList_append_own _ rfl (.tmp 34) (.tmp 37) 42 rfl w.heap.size 3 i0 (.int .i64 0) 1 8 Try.underlying42 hi0 hz0 hz1 hz2 rfl (by decide) _ 0 [] rfl (World.ownsRow_nil _ _ _ _) ⟨b, off, none⟩ k cap ((xs.take k).map (Value.int .i64)) rfl HT.out (news_take HC.out k) (ints_one _) HM1.out HM2.out (Nat.le_refl _) ?_; intro v1 w1 hown1 hgrow1 hnil1; have hb1' : Below w.heap.size w w1 := (Below.refl _ _).grown hgrow1 (Nat.le_refl _) (fun j hj => by cases hj); have HO1 := Lib.hid hown1; have HB1 := Lib.hid hb1'; clear hnil1 hown1 hb1' hgrow1)
            | (at_builtin; refine wpList_append_own _ rfl (.tmp 39) (.tmp 41) 42 rfl w.heap.size 3 i0 (.int .i64 0) 1 8 Try.underlying42 hi0 hz0 hz1 hz2 rfl (by decide) v1 _ _ rfl (HO1.out.alloc _) ⟨w1.heap.size, 0, none⟩ 1 1 [.int .i64 n] rfl rfl (news_int (heap_alloc_new w1 _)) (ints_one [n]) HM3.out HM4.out (by have := HB1.out.size; simp; omega) ?_; intro v2 w2 hown2 hgrow2 hnil2; have hb2' : Below w.heap.size w w2 := (HB1.out.alloc HB1.out.size _).grown hgrow2 (by have := HB1.out.size; simp; omega) (fun j hj => (HO1.out.lt j hj).1); have HO2 := Lib.hid hown2; have HB2 := Lib.hid hb2'; clear hnil2 hown2 hb2' hgrow2)
            | (at_builtin; refine wpList_append_own _ rfl (.tmp 43) (.tmp 46) 42 rfl w.heap.size 3 i0 (.int .i64 0) 1 8 Try.underlying42 hi0 hz0 hz1 hz2 rfl (by decide) v2 _ _ rfl HO2.out ⟨b, off + k, none⟩ (len - k) (cap - k) ((xs.drop k).map (Value.int .i64)) rfl HT2.out (news_drop (fun i hi => kept_cell HB2.out (HC.out i hi)) k) (ints_one _) HM5.out HM6.out HB2.out.size ?_; intro v3 w3 hown3 hgrow3 hnil3; have hb3' : Below w.heap.size w w3 := HB2.out.grown hgrow3 HB2.out.size (fun j hj => (HO2.out.lt j hj).1); have HO3 := Lib.hid hown3; have HB3 := Lib.hid hb3'; clear hnil3 hown3 hb3' hgrow3))
          go_ret
          exact put_end (Tm.ins_mid HNO.out hkx HY.out hgt) HL.out hk HO3.out HB3.out
    · obtain rfl : k = len := by omega
      by_cases hkc : k < cap
      · have hkc2 : (k : Int) < (cap : Int) := by omega
        have HT : Hid (((xs.take k).map (Value.int .i64)).length = k * 1) := by show _ = _; rw [List.length_map, List.length_take, HL.out]; omega
        have HT2 : Hid (((xs.drop k).map (Value.int .i64)).length = 0 * 1) := by show _ = _; rw [List.length_map, List.length_drop, HL.out]; omega
        have HM1 : Hid (0 + k ≤ maxLen) := by show _ ≤ _; unfold maxLen; omega
        have HM2 : Hid ((0 + k) * 8 ≤ 140737488355328) := by show _ ≤ _; omega
        have HM3 : Hid (0 + k + 1 ≤ maxLen) := by show _ ≤ _; unfold maxLen; omega
        have HM4 : Hid ((0 + k + 1) * 8 ≤ 140737488355328) := by show _ ≤ _; omega
        have HM5 : Hid (0 + k + 1 + 0 ≤ maxLen) := by show _ ≤ _; unfold maxLen; omega
        have HM6 : Hid ((0 + k + 1 + 0) * 8 ≤ 140737488355328) := by show _ ≤ _; omega
        go_wp2_with (first
          | (at_builtin; refine wpList_append_own _ rfl (.tmp 34) (.tmp 37) 42 rfl w.heap.size 3 i0 (.int .i64 0) 1 8 Try.underlying42 hi0 hz0 hz1 hz2 rfl (by decide) _ 0 [] rfl (World.ownsRow_nil _ _ _ _) ⟨b, off, none⟩ k cap ((xs.take k).map (Value.int .i64)) rfl HT.out (news_take HC.out k) (ints_one _) HM1.out HM2.out (Nat.le_refl _) ?_; intro v1 w1 hown1 hgrow1 hnil1; have hb1' : Below w.heap.size w w1 := (Below.refl _ _).grown hgrow1 (Nat.le_refl _) (fun j hj => by cases hj); have HO1 := Lib.hid hown1; have HB1 := Lib.hid hb1'; clear hnil1 hown1 hb1' hgrow1)
          | (at_builtin; refine wpList_append_own _ rfl (.tmp 39) (.tmp 41) 42 rfl w.heap.size 3 i0 (.int .i64 0) 1 8 Try.underlying42 hi0 hz0 hz1 hz2 rfl (by decide) v1 _ _ rfl (HO1.out.alloc _) ⟨w1.heap.size, 0, none⟩ 1 1 [.int .i64 n] rfl rfl (news_int (heap_alloc_new w1 _)) (ints_one [n]) HM3.out HM4.out (by have := HB1.out.size; simp; omega) ?_; intro v2 w2 hown2 hgrow2 hnil2; have hb2' : Below w.heap.size w w2 := (HB1.out.alloc HB1.out.size _).grown hgrow2 (by have := HB1.out.size; simp; omega) (fun j hj => (HO1.out.lt j hj).1); have HO2 := Lib.hid hown2; have HB2 := Lib.hid hb2'; clear hnil2 hown2 hb2' hgrow2)
          | (at_builtin; refine wpList_append_own _ rfl (.tmp 43) (.tmp 46) 42 rfl w.heap.size 3 i0 (.int .i64 0) 1 8 Try.underlying42 hi0 hz0 hz1 hz2 rfl (by decide) v2 _ _ rfl HO2.out ⟨b, off + k, none⟩ 0 (cap - k) ((xs.drop k).map (Value.int .i64)) rfl HT2.out (news_drop (fun i hi => kept_cell HB2.out (HC.out i hi)) k) (ints_one _) HM5.out HM6.out HB2.out.size ?_; intro v3 w3 hown3 hgrow3 hnil3; have hb3' : Below w.heap.size w w3 := HB2.out.grown hgrow3 HB2.out.size (fun j hj => (HO2.out.lt j hj).1); have HO3 := Lib.hid hown3; have HB3 := Lib.hid hb3'; clear hnil3 hown3 hb3' hgrow3))
        go_ret
        exact put_end (Tm.ins_end HNO.out (by rw [HL.out]; exact Nat.le_refl _)) HL.out hk HO3.out HB3.out
      · obtain rfl : k = cap := by omega
        have HT : Hid (((xs.take k).map (Value.int .i64)).length = k * 1) := by show _ = _; rw [List.length_map, List.length_take, HL.out]; omega
        have HT2 : Hid (((xs.drop k).map (Value.int .i64)).length = 0 * 1) := by show _ = _; rw [List.length_map, List.length_drop, HL.out]; omega
        have HM1 : Hid (0 + k ≤ maxLen) := by show _ ≤ _; unfold maxLen; omega
        have HM2 : Hid ((0 + k) * 8 ≤ 140737488355328) := by show _ ≤ _; omega
        have HM3 : Hid (0 + k + 1 ≤ maxLen) := by show _ ≤ _; unfold maxLen; omega
        have HM4 : Hid ((0 + k + 1) * 8 ≤ 140737488355328) := by show _ ≤ _; omega
        have HM5 : Hid (0 + k + 1 + 0 ≤ maxLen) := by show _ ≤ _; unfold maxLen; omega
        have HM6 : Hid ((0 + k + 1 + 0) * 8 ≤ 140737488355328) := by show _ ≤ _; omega
        go_wp2_with (first
          | (at_builtin; refine wpList_append_own _ rfl (.tmp 34) (.tmp 37) 42 rfl w.heap.size 3 i0 (.int .i64 0) 1 8 Try.underlying42 hi0 hz0 hz1 hz2 rfl (by decide) _ 0 [] rfl (World.ownsRow_nil _ _ _ _) ⟨b, off, none⟩ k k ((xs.take k).map (Value.int .i64)) rfl HT.out (news_take HC.out k) (ints_one _) HM1.out HM2.out (Nat.le_refl _) ?_; intro v1 w1 hown1 hgrow1 hnil1; have hb1' : Below w.heap.size w w1 := (Below.refl _ _).grown hgrow1 (Nat.le_refl _) (fun j hj => by cases hj); have HO1 := Lib.hid hown1; have HB1 := Lib.hid hb1'; clear hnil1 hown1 hb1' hgrow1)
          | (at_builtin; refine wpList_append_own _ rfl (.tmp 39) (.tmp 41) 42 rfl w.heap.size 3 i0 (.int .i64 0) 1 8 Try.underlying42 hi0 hz0 hz1 hz2 rfl (by decide) v1 _ _ rfl (HO1.out.alloc _) ⟨w1.heap.size, 0, none⟩ 1 1 [.int .i64 n] rfl rfl (news_int (heap_alloc_new w1 _)) (ints_one [n]) HM3.out HM4.out (by have := HB1.out.size; simp; omega) ?_; intro v2 w2 hown2 hgrow2 hnil2; have hb2' : Below w.heap.size w w2 := (HB1.out.alloc HB1.out.size _).grown hgrow2 (by have := HB1.out.size; simp; omega) (fun j hj => (HO1.out.lt j hj).1); have HO2 := Lib.hid hown2; have HB2 := Lib.hid hb2'; clear hnil2 hown2 hb2' hgrow2)
          | (at_builtin; refine wpList_append_own _ rfl (.tmp 43) (.tmp 46) 42 rfl w.heap.size 3 i0 (.int .i64 0) 1 8 Try.underlying42 hi0 hz0 hz1 hz2 rfl (by decide) v2 _ _ rfl HO2.out ⟨b, off, none⟩ 0 0 ((xs.drop k).map (Value.int .i64)) rfl HT2.out (news_none (by rw [HL.out]; exact Nat.le_refl _)) (ints_one _) HM5.out HM6.out HB2.out.size ?_; intro v3 w3 hown3 hgrow3 hnil3; have hb3' : Below w.heap.size w w3 := HB2.out.grown hgrow3 HB2.out.size (fun j hj => (HO2.out.lt j hj).1); have HO3 := Lib.hid hown3; have HB3 := Lib.hid hb3'; clear hnil3 hown3 hb3' hgrow3))
        go_ret
        exact put_end (Tm.ins_end HNO.out (by rw [HL.out]; exact Nat.le_refl _)) HL.out hk HO3.out HB3.out

theorem put_any (v : Value) (xs : List Int) (n : Int) (w : World) (hv : IntsN w v xs) (hx : xs.length ≤ 100000) : Calls Try.prog 79 #[v, .int .i64 n] w (GivesInts w (Tm.ins xs n)) := by
  obtain ⟨⟨ao, b, off, len, cap, rfl, hlen, hao, hl, hr, hc⟩, hnil⟩ := hv
  by_cases h0 : len = 0
  · have hxs : xs = [] := List.eq_nil_of_length_eq_zero (by omega)
    subst hxs
    have hvn := hnil rfl
    simp only [Value.slice.injEq] at hvn
    obtain ⟨rfl, rfl, rfl⟩ := hvn
    exact put_nil n w
  · obtain rfl := hao (by omega)
    exact put_some b off len cap xs n w hlen (by omega) hl hr hc hx
end Go.Proofs.Yteoheeddjddekaa
