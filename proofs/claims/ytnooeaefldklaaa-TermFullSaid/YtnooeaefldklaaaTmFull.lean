/- For any number: terms of MaxNodes nodes and of the depth MaxDepth are proper, larger and deeper ones are not; so are heads with the number MaxN. No conditions. -/
import Derived.Test.YtnooeaefldklaaaTmFullA
namespace Go.Proofs.Ytnooeaefldklaaa
open Go.RowKit
set_option linter.unusedSimpArgs false
set_option linter.unusedVariables false

set_option maxHeartbeats 4000000 in
set_option maxRecDepth 100000 in
theorem termFull_walk (N : Int) (w : World) (hN : I64 N) :
    Calls Try.prog 13 #[.int .i64 N] w fun e w' => e = .returned (.bool true) ∧ Below w.heap.size w w' := by
  have hn1 := hN.1
  have hn2 := hN.2
  clear hN
  go_enter Try.func13, Try.ntmps13
  go_upto_region 1 with fail
  go_cut [0] (fun a wx => ∃ m : Nat, m < 3 ∧ a = .int .i64 m ∧ wx = w)
  case first =>
    go_wp2_with fail
    go_meet
    case rel =>
      have hm : 0 ≤ wrap64 ((IntKind.u64.wrap N).tmod 3) ∧ wrap64 ((IntKind.u64.wrap N).tmod 3) < 3 := by
        have h := mod_small N 3 (by omega) (by omega)
        simp only [IntKind.wrap_i64, wrap64] at h ⊢
        exact h
      exact ⟨(wrap64 ((IntKind.u64.wrap N).tmod 3)).toNat, by omega, by congr 1; omega, rfl⟩
  case rest =>
    obtain ⟨m, hm, rfl, rfl⟩ := hcut
    go_wp2_with fail
    go_loopw [15] (fun i wr => ∃ k : Nat, k ≤ 38 + m ∧ i = .int .i64 k ∧ DeepAt wc wr (deepN k)) (fun i _ => 38 + m - (intOf i).toNat)
    case atStart => exact ⟨0, Nat.zero_le _, rfl, DeepAt.zero wc⟩
    case round =>
      obtain ⟨k, hk, rfl, hD⟩ := hrel
      obtain ⟨t, ht⟩ : ∃ t, t = deepN k := ⟨_, rfl⟩
      rw [← ht] at hD
      have hfit : t.fit := ht ▸ deepN_fit k
      have HT := Lib.hid ht
      clear ht
      obtain ⟨v, hz, hl, hb⟩ := hD
      obtain ⟨a2, n2, m2, rfl⟩ := hl.isSlice
      have z0 := cell_in hz 0 (.int .i64 t.op) rfl
      have z1 := cell_in hz 1 (.int .i64 t.hd) rfl
      have z2 := cell_in hz 2 (.int .i64 t.n) rfl
      have z3 := cell_in hz 3 (.slice a2 n2 m2) rfl
      have HZ := Lib.hid hz
      have HLs := Lib.hid hl
      have hws : wc.heap.size < wr.heap.size := lt_of_block hz
      clear hz hl
      by_cases hlt : k < 38 + m
      · have f0 := free_in HZ.out 0
        have f1 := free_in HZ.out 1
        have f2 := free_in HZ.out 2
        have f3 := free_in HZ.out 3
        go_wp2_with fail
        go_roundw
        case rel =>
          refine ⟨k + 1, by omega, by go_num, ?_⟩
          rw [show deepN (k + 1) = .mk 3 0 0 [t] from by rw [HT.out]; rfl]
          with_reducible exact DeepAt.step hfit HZ.out HLs.out hb
        case measure => simp [intOf]; omega
      · obtain rfl : k = 38 + m := by omega
        rw [show ((38 + m : Nat) : Int) = 38 + (m : Int) from by omega]
        obtain ⟨wd, rfl⟩ : ∃ x : World, x = wr := ⟨_, rfl⟩
        obtain ⟨i0, hi0, hz0, hz1, hz2⟩ := info_parts tm_info
        clear z0 z1 z2 z3
        go_wp2_with fail
        go_loopw [4, 23] (fun v i wr => ∃ k : Nat, k ≤ 598 + m ∧ i = .int .i64 k ∧ Built wr wd.heap.size 24 v (List.replicate k (.mk 1 0 0 [])) ∧ Below wd.heap.size wd wr) (fun _ i _ => 598 + m - (intOf i).toNat)
        case atStart => exact ⟨0, Nat.zero_le _, rfl, Built.nil _ _ _, Below.refl _ _⟩
        case round =>
          obtain ⟨k, hk, rfl, M, hbd⟩ := hrel
          by_cases hlt2 : k < 598 + m
          · obtain ⟨vs, hvl, hown, hsub⟩ := M.own
            have hsz := hbd.size
            have hrep : (List.replicate k (Tm.mk 1 0 0 [])).length = k := List.length_replicate
            have HM := Lib.hid M
            have HVL := Lib.hid hvl
            have HOW := Lib.hid hown
            have HSB := Lib.hid hsub
            have HI0 := Lib.hid hi0
            have HZ0 := Lib.hid hz0
            clear M hvl hown hsub hi0 hz0
            go_wp2_with (at_builtin; refine wpList_append_lies _ (by rfl) _ _ _ (by rfl) wd.heap.size 24 i0 _ 4 48 Try.underlying22 HI0.out HZ0.out hz1 hz2 rfl (by omega) u4 _ _ (by rfl) (HOW.out.alloc _) ⟨wr.heap.size, 0, none⟩ 1 1 [.int .i64 1, .int .i64 0, .int .i64 0, .slice none 0 0] (by rfl) (by rfl) (World.news_of_block (cs := #[.int .i64 1, .int .i64 0, .int .i64 0, .slice none 0 0]) (t := 24) (fr := (0, 0)) (heap_alloc_new _ _)) (by intro u hu; simp at hu; rcases hu with rfl | rfl | rfl | rfl <;> rfl) (by omega) (by unfold maxLen; omega) (by omega) (by simp; omega) _ rfl ?_; intro g cap w3 hown3 hgrow3 hat3 hlt3)
            go_roundw
            case rel =>
              refine ⟨k + 1, by omega, by go_num, ?_, ?_⟩
              · rw [show List.replicate (k + 1) (Tm.mk 1 0 0 []) = List.replicate k (Tm.mk 1 0 0 []) ++ [.mk 1 0 0 []] from List.replicate_succ' ..]
                have hp := Built.push (w := wr.alloc (.cells #[.int .i64 1, .int .i64 0, .int .i64 0, .slice none 0 0] 24)) (t := .mk 1 0 0 []) (s := .slice none 0 0) HVL.out (fun i h h' => (HSB.out i h h').keep ((Below.refl _ _).alloc (Nat.le_refl _) _)) HM.out.fit ⟨i64_small (by decide) (by decide), i64_small (by decide) (by decide), i64_small (by decide) (by decide)⟩ (Lies.nil _ _) hown3 hgrow3 hat3
                rw [hrep] at hp
                exact hp
              · have hlt := HM.out.lt
                exact (hbd.alloc hsz _).grown hgrow3 (by simp; omega) (fun k hk => (hlt k hk).1)
            case measure => simp [intOf]; omega
          · obtain rfl : k = 598 + m := by omega
            rw [show ((598 + m : Nat) : Int) = 598 + (m : Int) from by omega]
            have HZr := Lib.hid (heap_kept hbd HZ.out)
            have z0 := cell_in HZr.out 0 (.int .i64 t.op) rfl
            have z1 := cell_in HZr.out 1 (.int .i64 t.hd) rfl
            have z2 := cell_in HZr.out 2 (.int .i64 t.n) rfl
            have z3 := cell_in HZr.out 3 (.slice a2 n2 m2) rfl
            have HLr := Lib.hid (HLs.out.keep hbd)
            have HMr := Lib.hid M.lies
            obtain ⟨a4, n4, m4, rfl⟩ := M.lies.isSlice
            clear M
            obtain ⟨few, hfew⟩ : ∃ few : Int, few = if m < 2 then 0 else 2 := ⟨_, rfl⟩
            have hP1 : (if Tm.proper t then (0 : Int) else 2) = few := by
              rw [hfew, HT.out]
              rcases (by omega : m = 0 ∨ m = 1 ∨ m = 2) with rfl | rfl | rfl
              · simp [deep_proper.1]
              · simp [deep_proper.2.1]
              · simp [deep_proper.2.2]
            have hP2 : (if Tm.proper (wideN (598 + m)) then (0 : Int) else 2) = few := by
              rw [hfew]
              rcases (by omega : m = 0 ∨ m = 1 ∨ m = 2) with rfl | rfl | rfl
              · simp [wide_proper.1]
              · simp [wide_proper.2.1]
              · simp [wide_proper.2.2]
            have hP3 : (if Tm.proper (.mk 4 3 (9998 + m) []) then (0 : Int) else 2) = few := by
              rw [hfew]
              rcases (by omega : m = 0 ∨ m = 1 ∨ m = 2) with rfl | rfl | rfl
              · simp [far_proper.1]
              · simp [far_proper.2.1]
              · simp [far_proper.2.2]
            have hs4 : wd.heap.size ≤ wr.heap.size := hbd.size
            have hbw : Below wc.heap.size wc wr := below_next hb hbd
            go_upto_region 14 with fail
            have hA1 := (Below.refl wr.heap.size wr).alloc (Nat.le_refl _) (.cells #[.int .i64 4, .int .i64 1, .int .i64 0, .slice a4 n4 m4] 24)
            have hA2 := (Below.refl _ _).alloc (Nat.le_refl (wr.alloc (.cells #[.int .i64 4, .int .i64 1, .int .i64 0, .slice a4 n4 m4] 24)).heap.size) (.cells #[.int .i64 4, .int .i64 3, .int .i64 (9998 + m), .slice none 0 0] 24)
            have hA : Below wr.heap.size wr _ := below_next hA1 hA2
            have HD0 := Lib.hid (heap_kept hA HZr.out)
            have HW0 := Lib.hid (heap_kept hA2 (heap_alloc_new wr (.cells #[.int .i64 4, .int .i64 1, .int .i64 0, .slice a4 n4 m4] 24)))
            have HF0 := Lib.hid (heap_alloc_new (wr.alloc (.cells #[.int .i64 4, .int .i64 1, .int .i64 0, .slice a4 n4 m4] 24)) (.cells #[.int .i64 4, .int .i64 3, .int .i64 (9998 + m), .slice none 0 0] 24))
            have HLt0 := Lib.hid (HLr.out.keep hA)
            have HLw0 := Lib.hid (HMr.out.keep hA)
            have hB0 := below_next hbw hA
            obtain ⟨wy, hwy⟩ : ∃ x : World, x = (wr.alloc (.cells #[.int .i64 4, .int .i64 1, .int .i64 0, .slice a4 n4 m4] 24)).alloc (.cells #[.int .i64 4, .int .i64 3, .int .i64 (9998 + m), .slice none 0 0] 24) := ⟨_, rfl⟩
            rw [← hwy] at HD0 HW0 HF0 HLt0 HLw0 hB0 ⊢
            clear hwy hA hA1 hA2 HZr z0 z1 z2 z3 HZ HLs HLr HMr
            have HF0 := Lib.hid (show wy.heap[wr.heap.size + 1]? = _ from by simpa using HF0.out)
            obtain ⟨p0, p1, p2, p3⟩ := tBlock HD0.out
            have c1 := check_t t _ wy (HLt0.out.more fun _ _ _ => trivial)
            rw [hP1] at c1
            clear HD0 HLt0
            have h2 : (m < 2 ∧ few = 0 ∧ (m : Int) < 2) ∨ (¬ m < 2 ∧ few = 2 ∧ ¬ (m : Int) < 2) := by
              rcases Nat.lt_or_ge m 2 with h | h
              · exact .inl ⟨h, by rw [hfew, if_pos h], by omega⟩
              · exact .inr ⟨by omega, by rw [hfew, if_neg (by omega)], by omega⟩
            clear hfew hP1
            rcases h2 with ⟨h2, rfl, h3⟩ | ⟨h2, rfl, h3⟩
            all_goals
              go_wp2_with fail
              refine c1.mono ?_
              rintro e w1 ⟨rfl, hb1⟩
              obtain ⟨q0, q1, q2, q3⟩ := tBlock (heap_kept hb1 HW0.out)
              have HF1 := Lib.hid (heap_kept hb1 HF0.out)
              have c2 := check_any 4 1 0 _ _ w1 ((HLw0.out.keep hb1).more fun _ _ _ => trivial)
              rw [show (.mk 4 1 0 (List.replicate (598 + m) (.mk 1 0 0 [])) : Tm) = wideN (598 + m) from rfl, hP2] at c2
              have B1 := below_next hB0 hb1
              clear c1 p0 p1 p2 p3
              go_wp2_with fail
              refine c2.mono ?_
              rintro e w2 ⟨rfl, hb2⟩
              obtain ⟨r0, r1, r2, r3⟩ := tBlock (heap_kept hb2 HF1.out)
              have c3 := check_any 4 3 (9998 + m) _ [] w2 (Lies.nil _ _)
              rw [hP3] at c3
              have B2 := below_next B1 hb2
              clear c2 q0 q1 q2 q3
              go_wp2_with fail
              refine c3.mono ?_
              rintro e w3 ⟨rfl, hb3⟩
              have B3 := below_next B2 hb3
              clear c3 r0 r1 r2 r3
              go_wp2_with fail
              refine (awake_any _).mono ?_
              rintro e w4 ⟨rfl, hb4⟩
              go_wp2
              go_ret
              exact ⟨rfl, below_next B3 hb4⟩

set_option maxRecDepth 100000 in
open Go.ChangeShapes Go.WideShapes Go.ChangeAt Go.Deep in
theorem termFull_lifted (os : Os) (started : os.Started) (H : Type) (enc : TypeId × Value → H) :
    ReturnsInHanded {} Try.checked os 13 .any (Rows.termFullSpec.pre6 enc Try.prog Try.f13 Rows.termFullRow.domain false) (Rows.termFullSpec.post enc Try.prog Try.f13 false true false false) := by
  refine returnsInHanded_of_change (C := Try.checked) tb_own started (by kernel_rfl) Try.func13
    (ChangeSpec.witness6 (enc := enc) (C := Try.checked) false ⟨#[], #[.int .i64 0], []⟩ 8 (by kernel_rfl) (by kernel_rfl) (by kernel_rfl) (by kernel_rfl)) ?_
  intro W base args ds gs before hval0 hW _ _
  have hval : ∀ (j : Nat) t v, Try.f13.params[j]? = some t → args[j]? = some v → Value.okWide Try.prog W .any base t v := hval0
  have hW' := hW
  obtain ⟨p, q, hA0, hV, rfl, _, _⟩ := hW
  have hA : DataW.TrodAll enc Try.prog W 0 (fun _ => true) true Try.f13.params.toList args.toList ds p := hA0
  rw [Try.params13] at hA hval
  obtain ⟨v0, d0, rfl, rfl, h0⟩ := trodAll_one hA
  obtain ⟨rfl, rfl⟩ := trodVars_none hV
  clear hA0 hval0
  simp only [List.append_nil] at hW'
  have hlt0 : ∀ x ∈ p, x.block < W.heap.size := fun x hx => hW'.lt x (by simp [hx])
  obtain ⟨N, rfl, _, _, hwf⟩ := open_int Try.underlying3 (hval 0 3 v0 rfl rfl) h0
  refine (termFull_walk N W (I64.of hwf)).mono fun e W' ⟨he, hb⟩ => ?_
  subst he
  refine ⟨_, rfl, _, _, _, [], p, [], hW', ?_, ?_, rfl, hb.frame _, fun h => by cases h⟩
  · exact trodAll_mk1 (shut_bool Try.underlying4 true)
  · exact trodAll_mk1 (Below.trod tb_laidOut (by kernel_rfl) (of_decide_eq_true (by kernel_rfl)) h0 hb hlt0)

theorem termFull_holds : Rows.TermFullSaid :=
  OpenClaim.holds_of_wide 13 Try.f13 rfl rfl rfl rfl rfl rfl rfl ⟨rfl, rfl, rfl, rfl, rfl⟩ rfl rfl rfl rfl rfl (by kernel_rfl) Try.func13 (by kernel_rfl)
    (of_decide_eq_true (by kernel_rfl)) (by unfold Func.isWrapper; first | (rw [if_pos (by decide +kernel)]; kernel_rfl) | (rw [if_neg (by decide +kernel)]; exact ⟨rfl, rfl⟩))
    (fun os started H enc _ => termFull_lifted os started H enc)

end Go.Proofs.Ytnooeaefldklaaa
