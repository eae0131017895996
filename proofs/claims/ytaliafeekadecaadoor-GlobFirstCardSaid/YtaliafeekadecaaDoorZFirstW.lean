/- The statement GlobFirst, walked. -/
import Derived.Test.YtaliafeekadecaaDoorZPair
import Derived.Test.YtaliafeekadecaaDoorZMatchesW
namespace Go.Proofs.YtaliafeekadecaaDoor.Z
open Go.RowKit Go.Shelf Go.Sort
open V (Lies OwnL RowL reg held_put held_one held_two held_done wp_held_any)
set_option maxRecDepth 100000

set_option maxHeartbeats 12800000 in
theorem first_walk (xp : ByteArray) (v1 v2 : Value) (S1 S2 : List (List UInt8)) (W : World) (hv1 : Strs W v1 S1) (hv2 : Strs W v2 S2) : Calls Tryd.prog 6 #[.string xp, v1, v2] W fun e w' => e = .returned (.bool true) ∧ Below W.heap.size W w' := by
  obtain ⟨i0, hi, hz0, hz1, hz2⟩ := info_parts infoT
  have HA := Lib.hid alive_any
  have HSh := Lib.hid short_any
  have hrow1 := strs_row hv1
  have hrow2 := strs_row hv2
  obtain ⟨a1, c1, rfl, hc1, hm1, hn1⟩ := hrow1.form
  obtain ⟨a2, c2, rfl, hc2, hm2, hn2⟩ := hrow2.form
  clear hv1 hv2
  rw [List.length_map, List.length_map] at hrow1 hc1 ⊢
  rw [List.length_map, List.length_map] at hrow2 hc2 ⊢
  obtain ⟨r1, hr1⟩ : ∃ r : Nat, r = min S1.length 6 := ⟨_, rfl⟩
  obtain ⟨r2, hr2⟩ : ∃ r : Nat, r = min S2.length 6 := ⟨_, rfl⟩
  have hrI1 : min (S1.length : Int) 6 = (r1 : Int) := by omega
  have hrI2 : min (S2.length : Int) 6 = (r2 : Int) := by omega
  have hrS1 : r1 ≤ S1.length := by omega
  have hrS2 : r2 ≤ S2.length := by omega
  have hr61 : r1 ≤ 6 := by omega
  have hr62 : r2 ≤ 6 := by omega
  obtain ⟨L1, hL1⟩ : ∃ L, (S1.map bytesOf).take r1 = L := ⟨_, rfl⟩
  obtain ⟨L2, hL2⟩ : ∃ L, (S2.map bytesOf).take r2 = L := ⟨_, rfl⟩
  have hLl1 : L1.length = r1 := by rw [← hL1, List.length_take, List.length_map]; omega
  have hLl2 : L2.length = r2 := by rw [← hL2, List.length_take, List.length_map]; omega
  clear hr1 hr2
  have HR1 := Lib.hid (fun (w' : World) (hb : Below W.heap.size W w') => (show RowL w' 1 (sliced a1 0 r1 c1 1) (L1.map oneS) by
    have h := (hrow1.below hb).take (j := r1) (by rw [List.length_map, List.length_map]; omega)
    rwa [← List.map_take, hL1] at h))
  have HR2 := Lib.hid (fun (w' : World) (hb : Below W.heap.size W w') => (show RowL w' 1 (sliced a2 0 r2 c2 1) (L2.map oneS) by
    have h := (hrow2.below hb).take (j := r2) (by rw [List.length_map, List.length_map]; omega)
    rwa [← List.map_take, hL2] at h))
  have hu1 : ∀ u ∈ (L1.map oneS).flatten, u.oneCell' = true := rowOnes L1
  have hu2 : ∀ u ∈ (L2.map oneS).flatten, u.oneCell' = true := rowOnes L2
  have h631 : ([] : List (List Value)).length + (L1.map oneS).length ≤ maxLen := by rw [List.length_map, hLl1]; unfold maxLen; simp; omega
  have h632 : ([] : List (List Value)).length + (L2.map oneS).length ≤ maxLen := by rw [List.length_map, hLl2]; unfold maxLen; simp; omega
  have h641 : (([] : List (List Value)).length + (L1.map oneS).length) * 16 ≤ 140737488355328 := by rw [List.length_map, hLl1]; simp; omega
  have h642 : (([] : List (List Value)).length + (L2.map oneS).length) * 16 ≤ 140737488355328 := by rw [List.length_map, hLl2]; simp; omega
  have hrc1 : ([] ++ L1.map oneS).length = r1 := by rw [List.nil_append, List.length_map, hLl1]
  have hrc2 : ([] ++ L2.map oneS).length = r2 := by rw [List.nil_append, List.length_map, hLl2]
  clear hrow1 hrow2 hL1 hL2
  go_enter Tryd.func6, Tryd.ntmps6
  go_upto_region 2 with (go_at_call 7; refine (HSh.out _ _).mono ?_; rintro e w1 ⟨rfl, hw1⟩; replace hw1 := hw1.symm; subst hw1)
  have hPs := shB_size xp
  generalize shB xp = P at *
  go_cut [1, 2] from 17 to 30 (fun s1 s2 wx => ∃ (d1 : Option Addr) (e1 : Nat) (d2 : Option Addr) (e2 : Nat), s1 = .slice d1 r1 e1 ∧ s2 = .slice d2 r2 e2 ∧ OwnL wx W.heap.size 9 1 (.slice d1 r1 e1) ([] ++ L1.map oneS) ∧ OwnL wx W.heap.size 9 1 (.slice d2 r2 e2) ([] ++ L2.map oneS) ∧ (Value.slice d1 r1 e1).ownBlock ≠ (Value.slice d2 r2 e2).ownBlock ∧ Below W.heap.size W wx)
  case first =>
    refine wp_held_any (S := fun _ => True) 16 rfl (by kernel_rfl) ?_
    have HB : RowKit.Below W.heap.size W { W with drawn := W.drawn + 1 } := (RowKit.Below.refl _ _).drew
    generalize ({ W with drawn := W.drawn + 1 } : World) = wd at *
    refine held_put 1 18 (.slice a1 S1.length c1) rfl rfl (by kernel_rfl) (by kernel_rfl) (by kernel_rfl) (by kernel_rfl) (fun w hS => rfl) trivial ?_
    simp only [List.setIfInBounds_toArray, List.set_cons_succ, List.set_cons_zero]
    refine held_put 2 19 (.slice a1 S1.length c1) rfl rfl (by kernel_rfl) (by kernel_rfl) (by kernel_rfl) (by kernel_rfl) (fun w hS => rfl) trivial ?_
    simp only [List.setIfInBounds_toArray, List.set_cons_succ, List.set_cons_zero]
    refine held_put 3 20 (.int .i64 (S1.length : Int)) rfl rfl (by kernel_rfl) (by kernel_rfl) (by kernel_rfl) (by kernel_rfl) (fun w hS => run_lenP a1 S1.length c1 rfl w) trivial ?_
    simp only [List.setIfInBounds_toArray, List.set_cons_succ, List.set_cons_zero]
    refine held_put 4 21 (.int .i64 (r1 : Int)) rfl rfl (by kernel_rfl) (by kernel_rfl) (by kernel_rfl) (by kernel_rfl) (fun w hS => run_minP _ 6 _ rfl hrI1 w) trivial ?_
    simp only [List.setIfInBounds_toArray, List.set_cons_succ, List.set_cons_zero]
    refine held_put 5 22 (sliced a1 0 r1 c1 1) rfl rfl (by kernel_rfl) (by kernel_rfl) (by kernel_rfl) (by kernel_rfl) (fun w hS => run_cutR _ _ _ _ (by omega) rfl rfl w) trivial ?_
    simp only [List.setIfInBounds_toArray, List.set_cons_succ, List.set_cons_zero]
    refine held_put 8 25 (.slice a2 S2.length c2) rfl rfl (by kernel_rfl) (by kernel_rfl) (by kernel_rfl) (by kernel_rfl) (fun w hS => rfl) trivial ?_
    simp only [List.setIfInBounds_toArray, List.set_cons_succ, List.set_cons_zero]
    refine held_put 9 26 (.slice a2 S2.length c2) rfl rfl (by kernel_rfl) (by kernel_rfl) (by kernel_rfl) (by kernel_rfl) (fun w hS => rfl) trivial ?_
    simp only [List.setIfInBounds_toArray, List.set_cons_succ, List.set_cons_zero]
    refine held_put 10 27 (.int .i64 (S2.length : Int)) rfl rfl (by kernel_rfl) (by kernel_rfl) (by kernel_rfl) (by kernel_rfl) (fun w hS => run_lenP a2 S2.length c2 rfl w) trivial ?_
    simp only [List.setIfInBounds_toArray, List.set_cons_succ, List.set_cons_zero]
    refine held_put 11 28 (.int .i64 (r2 : Int)) rfl rfl (by kernel_rfl) (by kernel_rfl) (by kernel_rfl) (by kernel_rfl) (fun w hS => run_minP _ 6 _ rfl hrI2 w) trivial ?_
    simp only [List.setIfInBounds_toArray, List.set_cons_succ, List.set_cons_zero]
    refine held_put 12 29 (sliced a2 0 r2 c2 1) rfl rfl (by kernel_rfl) (by kernel_rfl) (by kernel_rfl) (by kernel_rfl) (fun w hS => run_cutR _ _ _ _ (by omega) rfl rfl w) trivial ?_
    simp only [List.setIfInBounds_toArray, List.set_cons_succ, List.set_cons_zero]
    refine held_two 0 7 (by kernel_rfl) (V.wpOp_put 17 (w' := wd.alloc (.cells #[] 9)) (v := .slice (some ⟨wd.heap.size, 0, none⟩) 0 0) rfl rfl (by kernel_rfl) (by kernel_rfl) ⟨trivial, ?_⟩) (V.wpOp_put 24 (w' := wd.alloc (.cells #[] 9)) (v := .slice (some ⟨wd.heap.size, 0, none⟩) 0 0) rfl rfl (by kernel_rfl) (by kernel_rfl) ⟨trivial, ?_⟩)
    · simp only [List.setIfInBounds_toArray, List.set_cons_succ, List.set_cons_zero]
      have OA := OwnL.made wd W.heap.size 9 1 HB.size
      replace HB := HB.alloc HB.size (.cells #[] 9)
      generalize wd.alloc (.cells #[] 9) = w1x at *
      generalize wd.heap.size = gA at *
      refine held_two 6 7 (by kernel_rfl) (V.wpOp_lawD 23 rfl rfl (by kernel_rfl) (wpL_appendAt W.heap.size 9 i0 _ 1 16 Tryd.underlying22 hi hz0 hz1 hz2 rfl (by decide) _ [] OA _ (L1.map oneS) (HR1.out _ HB) hu1 h631 h641 HB.size rfl rfl ?_)) (V.wpOp_put 24 (w' := w1x.alloc (.cells #[] 9)) (v := .slice (some ⟨w1x.heap.size, 0, none⟩) 0 0) rfl rfl (by kernel_rfl) (by kernel_rfl) ⟨trivial, ?_⟩)
      · intro vA w2x OA2 hg hat
        refine And.intro trivial ?_
        simp only [Act.put, List.setIfInBounds_toArray, List.set_cons_succ, List.set_cons_zero]
        replace HB := HB.grown hg HB.size (fun k hk => OA.lt k hk)
        replace OA := OA2
        clear OA2 hg hat
        refine held_one 7 (by kernel_rfl) (V.wpOp_put 24 (w' := w2x.alloc (.cells #[] 9)) (v := .slice (some ⟨w2x.heap.size, 0, none⟩) 0 0) rfl rfl (by kernel_rfl) (by kernel_rfl) ⟨trivial, ?_⟩)
        simp only [List.setIfInBounds_toArray, List.set_cons_succ, List.set_cons_zero]
        have OB := OwnL.made w2x W.heap.size 9 1 HB.size
        have hbl := (RowKit.Below.refl w2x.heap.size w2x).alloc (Nat.le_refl _) (.cells #[] 9)
        have HN : vA.ownBlock ≠ (Value.slice (some ⟨w2x.heap.size, 0, none⟩) 0 0).ownBlock := own_in OA
        replace OA := OA.on hbl
        clear hbl
        replace HB := HB.alloc HB.size (.cells #[] 9)
        generalize w2x.alloc (.cells #[] 9) = w3x at *
        generalize w2x.heap.size = gB at *
        refine held_one 13 (by kernel_rfl) (V.wpOp_lawD 30 rfl rfl (by kernel_rfl) (wpL_appendAt W.heap.size 9 i0 _ 1 16 Tryd.underlying22 hi hz0 hz1 hz2 rfl (by decide) _ [] OB _ (L2.map oneS) (HR2.out _ HB) hu2 h632 h642 HB.size rfl rfl ?_))
        intro vB w4x OB2 hg hat
        refine And.intro trivial ?_
        simp only [Act.put, List.setIfInBounds_toArray, List.set_cons_succ, List.set_cons_zero]
        have HN2 := sep_app (v := (Value.slice (some ⟨gB, 0, none⟩) 0 0)) OA HN hat
        replace OA := own_kept OA hg HN
        replace HN := HN2
        clear HN2
        replace HB := HB.grown hg HB.size (fun k hk => OB.lt k hk)
        replace OB := OB2
        clear OB2 hg hat
        refine held_put 14 1 vA rfl rfl (by kernel_rfl) (by kernel_rfl) (by kernel_rfl) (by kernel_rfl) (fun w hS => rfl) trivial ?_
        simp only [List.setIfInBounds_toArray, List.set_cons_succ, List.set_cons_zero]
        refine held_put 15 2 vB rfl rfl (by kernel_rfl) (by kernel_rfl) (by kernel_rfl) (by kernel_rfl) (fun w hS => rfl) trivial ?_
        simp only [List.setIfInBounds_toArray, List.set_cons_succ, List.set_cons_zero]
        obtain ⟨d1, e1, rfl, _, _, _⟩ := OA.read.form
        obtain ⟨d2, e2, rfl, _, _, _⟩ := OB.read.form
        rw [hrc1] at OA HN ⊢
        rw [hrc2] at OB HN ⊢
        refine held_done (by kernel_rfl) ?_
        simp only [Exit.then]
        go_wp2_with fail
        go_meet
        exact ⟨d1, e1, d2, e2, rfl, rfl, OA, OB, HN, HB⟩
      · simp only [List.setIfInBounds_toArray, List.set_cons_succ, List.set_cons_zero]
        have OB := OwnL.made w1x W.heap.size 9 1 HB.size
        have hbl := (RowKit.Below.refl w1x.heap.size w1x).alloc (Nat.le_refl _) (.cells #[] 9)
        have HN : (Value.slice (some ⟨gA, 0, none⟩) 0 0).ownBlock ≠ (Value.slice (some ⟨w1x.heap.size, 0, none⟩) 0 0).ownBlock := own_in OA
        replace OA := OA.on hbl
        clear hbl
        replace HB := HB.alloc HB.size (.cells #[] 9)
        generalize w1x.alloc (.cells #[] 9) = w5x at *
        generalize w1x.heap.size = gB at *
        refine held_one 6 (by kernel_rfl) (V.wpOp_lawD 23 rfl rfl (by kernel_rfl) (wpL_appendAt W.heap.size 9 i0 _ 1 16 Tryd.underlying22 hi hz0 hz1 hz2 rfl (by decide) _ [] OA _ (L1.map oneS) (HR1.out _ HB) hu1 h631 h641 HB.size rfl rfl ?_))
        intro vA w6x OA2 hg hat
        refine And.intro trivial ?_
        simp only [Act.put, List.setIfInBounds_toArray, List.set_cons_succ, List.set_cons_zero]
        have HN2 := Ne.symm (sep_app (v := (Value.slice (some ⟨gA, 0, none⟩) 0 0)) OB (Ne.symm HN) hat)
        replace OB := own_kept OB hg (Ne.symm HN)
        replace HN := HN2
        clear HN2
        replace HB := HB.grown hg HB.size (fun k hk => OA.lt k hk)
        replace OA := OA2
        clear OA2 hg hat
        refine held_one 13 (by kernel_rfl) (V.wpOp_lawD 30 rfl rfl (by kernel_rfl) (wpL_appendAt W.heap.size 9 i0 _ 1 16 Tryd.underlying22 hi hz0 hz1 hz2 rfl (by decide) _ [] OB _ (L2.map oneS) (HR2.out _ HB) hu2 h632 h642 HB.size rfl rfl ?_))
        intro vB w7x OB2 hg hat
        refine And.intro trivial ?_
        simp only [Act.put, List.setIfInBounds_toArray, List.set_cons_succ, List.set_cons_zero]
        have HN2 := sep_app (v := (Value.slice (some ⟨gB, 0, none⟩) 0 0)) OA HN hat
        replace OA := own_kept OA hg HN
        replace HN := HN2
        clear HN2
        replace HB := HB.grown hg HB.size (fun k hk => OB.lt k hk)
        replace OB := OB2
        clear OB2 hg hat
        refine held_put 14 1 vA rfl rfl (by kernel_rfl) (by kernel_rfl) (by kernel_rfl) (by kernel_rfl) (fun w hS => rfl) trivial ?_
        simp only [List.setIfInBounds_toArray, List.set_cons_succ, List.set_cons_zero]
        refine held_put 15 2 vB rfl rfl (by kernel_rfl) (by kernel_rfl) (by kernel_rfl) (by kernel_rfl) (fun w hS => rfl) trivial ?_
        simp only [List.setIfInBounds_toArray, List.set_cons_succ, List.set_cons_zero]
        obtain ⟨d1, e1, rfl, _, _, _⟩ := OA.read.form
        obtain ⟨d2, e2, rfl, _, _, _⟩ := OB.read.form
        rw [hrc1] at OA HN ⊢
        rw [hrc2] at OB HN ⊢
        refine held_done (by kernel_rfl) ?_
        simp only [Exit.then]
        go_wp2_with fail
        go_meet
        exact ⟨d1, e1, d2, e2, rfl, rfl, OA, OB, HN, HB⟩
    · simp only [List.setIfInBounds_toArray, List.set_cons_succ, List.set_cons_zero]
      have OB := OwnL.made wd W.heap.size 9 1 HB.size
      replace HB := HB.alloc HB.size (.cells #[] 9)
      generalize wd.alloc (.cells #[] 9) = w8x at *
      generalize wd.heap.size = gB at *
      refine held_one 0 (by kernel_rfl) (V.wpOp_put 17 (w' := w8x.alloc (.cells #[] 9)) (v := .slice (some ⟨w8x.heap.size, 0, none⟩) 0 0) rfl rfl (by kernel_rfl) (by kernel_rfl) ⟨trivial, ?_⟩)
      simp only [List.setIfInBounds_toArray, List.set_cons_succ, List.set_cons_zero]
      have OA := OwnL.made w8x W.heap.size 9 1 HB.size
      have hbl := (RowKit.Below.refl w8x.heap.size w8x).alloc (Nat.le_refl _) (.cells #[] 9)
      have HN : (Value.slice (some ⟨w8x.heap.size, 0, none⟩) 0 0).ownBlock ≠ (Value.slice (some ⟨gB, 0, none⟩) 0 0).ownBlock := Ne.symm (own_in OB)
      replace OB := OB.on hbl
      clear hbl
      replace HB := HB.alloc HB.size (.cells #[] 9)
      generalize w8x.alloc (.cells #[] 9) = w9x at *
      generalize w8x.heap.size = gA at *
      refine held_one 6 (by kernel_rfl) (V.wpOp_lawD 23 rfl rfl (by kernel_rfl) (wpL_appendAt W.heap.size 9 i0 _ 1 16 Tryd.underlying22 hi hz0 hz1 hz2 rfl (by decide) _ [] OA _ (L1.map oneS) (HR1.out _ HB) hu1 h631 h641 HB.size rfl rfl ?_))
      intro vA w10x OA2 hg hat
      refine And.intro trivial ?_
      simp only [Act.put, List.setIfInBounds_toArray, List.set_cons_succ, List.set_cons_zero]
      have HN2 := Ne.symm (sep_app (v := (Value.slice (some ⟨gA, 0, none⟩) 0 0)) OB (Ne.symm HN) hat)
      replace OB := own_kept OB hg (Ne.symm HN)
      replace HN := HN2
      clear HN2
      replace HB := HB.grown hg HB.size (fun k hk => OA.lt k hk)
      replace OA := OA2
      clear OA2 hg hat
      refine held_one 13 (by kernel_rfl) (V.wpOp_lawD 30 rfl rfl (by kernel_rfl) (wpL_appendAt W.heap.size 9 i0 _ 1 16 Tryd.underlying22 hi hz0 hz1 hz2 rfl (by decide) _ [] OB _ (L2.map oneS) (HR2.out _ HB) hu2 h632 h642 HB.size rfl rfl ?_))
      intro vB w11x OB2 hg hat
      refine And.intro trivial ?_
      simp only [Act.put, List.setIfInBounds_toArray, List.set_cons_succ, List.set_cons_zero]
      have HN2 := sep_app (v := (Value.slice (some ⟨gB, 0, none⟩) 0 0)) OA HN hat
      replace OA := own_kept OA hg HN
      replace HN := HN2
      clear HN2
      replace HB := HB.grown hg HB.size (fun k hk => OB.lt k hk)
      replace OB := OB2
      clear OB2 hg hat
      refine held_put 14 1 vA rfl rfl (by kernel_rfl) (by kernel_rfl) (by kernel_rfl) (by kernel_rfl) (fun w hS => rfl) trivial ?_
      simp only [List.setIfInBounds_toArray, List.set_cons_succ, List.set_cons_zero]
      refine held_put 15 2 vB rfl rfl (by kernel_rfl) (by kernel_rfl) (by kernel_rfl) (by kernel_rfl) (fun w hS => rfl) trivial ?_
      simp only [List.setIfInBounds_toArray, List.set_cons_succ, List.set_cons_zero]
      obtain ⟨d1, e1, rfl, _, _, _⟩ := OA.read.form
      obtain ⟨d2, e2, rfl, _, _, _⟩ := OB.read.form
      rw [hrc1] at OA HN ⊢
      rw [hrc2] at OB HN ⊢
      refine held_done (by kernel_rfl) ?_
      simp only [Exit.then]
      go_wp2_with fail
      go_meet
      exact ⟨d1, e1, d2, e2, rfl, rfl, OA, OB, HN, HB⟩
  case rest =>
    obtain ⟨d1, e1, d2, e2, rfl, rfl, OA, OB, HN, HB⟩ := hcut
    rw [List.nil_append] at OA OB
    have ho1 : OwnL wc W.heap.size 9 1 (.slice d1 r1 e1) ((shRow L1 0).map oneS) := OA
    have ho2 : OwnL wc W.heap.size 9 1 (.slice d2 r2 e2) ((shRow L2 0).map oneS) := OB
    clear OA OB HR1 HR2 hu1 hu2 h631 h632 h641 h642 hrc1 hrc2 hrI1 hrI2 hrS1 hrS2 hn1 hn2 hc1 hc2 hm1 hm2
    have hb := HB
    clear HB
    go_wp2
    go_loopw [7, 33] (fun _ iv wr => ∃ j : Nat, iv = .int .i64 (j : Int) ∧ j ≤ r1 ∧ OwnL wr W.heap.size 9 1 (.slice d1 r1 e1) ((shRow L1 j).map oneS) ∧ OwnL wr W.heap.size 9 1 (.slice d2 r2 e2) ((shRow L2 0).map oneS) ∧ Below W.heap.size W wr) (fun _ iv _ => r1 - (intOf iv).toNat)
    case atStart => exact ⟨0, rfl, Nat.zero_le _, ho1, ho2, hb⟩
    case round =>
      clear ho1 ho2 hb
      obtain ⟨j, rfl, hj, ho1, ho2, hb⟩ := hrel
      by_cases hlt : j < r1
      case pos =>
        have hjL : j < L1.length := by omega
        obtain ⟨x, hx⟩ : ∃ x, L1[j]? = some x := ⟨_, List.getElem?_eq_getElem hjL⟩
        rcases own_at ho1 with ⟨_, hnil⟩ | ⟨g, cc, hv, hBg, hgl, hcc, hcm, hcell, hset⟩
        · have := shRow_len L1 j
          rw [hnil] at this
          simp at this
          omega
        rw [shRow_len] at hv hset
        injection hv with hv1 hv2 hv3
        subst hv1 hv3
        obtain ⟨q0, f0⟩ := hcell j x (shRow_at hx)
        have ho1n : OwnL (wr.setCell ⟨g, j, none⟩ (.string (shB x))) W.heap.size 9 1 (.slice (some ⟨g, 0, none⟩) r1 e1) ((shRow L1 (j + 1)).map oneS) := by
          have h := hset j (shB x) hjL
          rw [shRow_set hx] at h
          exact h
        have ho2n := own_apart ho2 (Ne.symm HN : (Value.slice d2 r2 e2).ownBlock ≠ some g) j (.string (shB x))
        have hbn : Below W.heap.size W (wr.setCell ⟨g, j, none⟩ (.string (shB x))) := hb.setCell (p := ⟨g, j, none⟩) hBg _
        have i1 : (j : Int) < (r1 : Int) := by omega
        have i2 : (0 : Int) ≤ (j : Int) := by omega
        clear hcell hset hcc hcm ho1 ho2 hb hv2 hLl1 hLl2 HN
        go_wp2_with (go_at_call 7; refine (HSh.out _ _).mono ?_; rintro e w1 ⟨rfl, hw1⟩; replace hw1 := hw1.symm; subst hw1)
        go_roundw
        case rel => exact ⟨j + 1, by go_num, by omega, ho1n, ho2n, hbn⟩
        case measure => simp [intOf]; omega
      obtain rfl : j = r1 := by omega
      have i1 : ¬ (j : Int) < (j : Int) := by omega
      rw [← hLl1, shRow_all, hLl1] at ho1
      clear hlt hj
      go_wp2
      go_loopw [8, 47] (fun _ iv wr => ∃ j2 : Nat, iv = .int .i64 (j2 : Int) ∧ j2 ≤ r2 ∧ OwnL wr W.heap.size 9 1 (.slice d1 j e1) ((L1.map shB).map oneS) ∧ OwnL wr W.heap.size 9 1 (.slice d2 r2 e2) ((shRow L2 j2).map oneS) ∧ Below W.heap.size W wr) (fun _ iv _ => r2 - (intOf iv).toNat)
      case atStart => exact ⟨0, rfl, Nat.zero_le _, ho1, ho2, hb⟩
      case round =>
        clear ho1 ho2 hb
        obtain ⟨j2, rfl, hj, ho1, ho2, hb⟩ := hrel
        by_cases hlt : j2 < r2
        case pos =>
          have hjL : j2 < L2.length := by omega
          obtain ⟨x, hx⟩ : ∃ x, L2[j2]? = some x := ⟨_, List.getElem?_eq_getElem hjL⟩
          rcases own_at ho2 with ⟨_, hnil⟩ | ⟨g, cc, hv, hBg, hgl, hcc, hcm, hcell, hset⟩
          · have := shRow_len L2 j2
            rw [hnil] at this
            simp at this
            omega
          rw [shRow_len] at hv hset
          injection hv with hv1 hv2 hv3
          subst hv1 hv3
          obtain ⟨q0, f0⟩ := hcell j2 x (shRow_at hx)
          have ho2n : OwnL (wr.setCell ⟨g, j2, none⟩ (.string (shB x))) W.heap.size 9 1 (.slice (some ⟨g, 0, none⟩) r2 e2) ((shRow L2 (j2 + 1)).map oneS) := by
            have h := hset j2 (shB x) hjL
            rw [shRow_set hx] at h
            exact h
          have ho1n := own_apart ho1 (HN : (Value.slice d1 j e1).ownBlock ≠ some g) j2 (.string (shB x))
          have hbn : Below W.heap.size W (wr.setCell ⟨g, j2, none⟩ (.string (shB x))) := hb.setCell (p := ⟨g, j2, none⟩) hBg _
          have i1 : (j2 : Int) < (r2 : Int) := by omega
          have i2 : (0 : Int) ≤ (j2 : Int) := by omega
          clear hcell hset hcc hcm ho1 ho2 hb hv2 hLl1 hLl2 HN
          go_wp2_with (go_at_call 7; refine (HSh.out _ _).mono ?_; rintro e w1 ⟨rfl, hw1⟩; replace hw1 := hw1.symm; subst hw1)
          go_roundw
          case rel => exact ⟨j2 + 1, by go_num, by omega, ho1n, ho2n, hbn⟩
          case measure => simp [intOf]; omega
        obtain rfl : j2 = r2 := by omega
        have i1 : ¬ (j2 : Int) < (j2 : Int) := by omega
        rw [← hLl2, shRow_all, hLl2] at ho2
        clear hlt hj HN HSh
        have hs1 : ∀ x ∈ L1.map shB, x.size ≤ 205 := fun x hx => by
          obtain ⟨y, _, rfl⟩ := List.mem_map.1 hx
          exact shB_size y
        have hs2 : ∀ x ∈ L2.map shB, x.size ≤ 205 := fun x hx => by
          obtain ⟨y, _, rfl⟩ := List.mem_map.1 hx
          exact shB_size y
        have hl1 : (L1.map shB).length = j := by rw [List.length_map, hLl1]
        have hl2 : (L2.map shB).length = j2 := by rw [List.length_map, hLl2]
        clear hLl1 hLl2
        generalize L1.map shB = LS1 at *
        generalize L2.map shB = LS2 at *
        have HY1 := Lib.hid (any_any P LS1 _ wr (by omega) ho1.read (fun x hx => by have := hs1 x hx; omega))
        have HM0 := Lib.hid (any_two P LS1 LS2)
        generalize anyV P.data.toList LS1 = AV1 at *
        generalize anyE P.data.toList LS1 = AE1 at *
        go_upto_region 14 with (go_at_call 10; refine (HY1.out).mono ?_; rintro e w3 ⟨rfl, hb3⟩; replace ho1 := ho1.on hb3; replace ho2 := ho2.on hb3; replace hb := hb.trans (hb3.mono hb.size))
        clear hb3 HY1
        have hoM := OwnL.made w3 w3.heap.size 9 1 (Nat.le_refl _)
        have hbA := (Below.refl w3.heap.size w3).alloc (Nat.le_refl _) (.cells #[] 9)
        have hR1 := (ho1.on hbA).read
        have hbs := hbA.size
        have h63 : ([] : List (List Value)).length + (LS1.map oneS).length ≤ maxLen := by rw [List.length_map, hl1]; unfold maxLen; simp; omega
        have h64 : (([] : List (List Value)).length + (LS1.map oneS).length) * 16 ≤ 140737488355328 := by rw [List.length_map, hl1]; simp; omega
        have hrc1 : ([] ++ LS1.map oneS).length = j := by rw [List.nil_append, List.length_map, hl1]
        have h632 : ([] ++ LS1.map oneS).length + (LS2.map oneS).length ≤ maxLen := by rw [hrc1, List.length_map, hl2]; unfold maxLen; omega
        have h642 : (([] ++ LS1.map oneS).length + (LS2.map oneS).length) * 16 ≤ 140737488355328 := by rw [hrc1, List.length_map, hl2]; omega
        have hrc2 : ([] ++ LS1.map oneS ++ LS2.map oneS).length = j + j2 := by rw [List.length_append, hrc1, List.length_map, hl2]
        have hcat : [] ++ LS1.map oneS ++ LS2.map oneS = (LS1 ++ LS2).map oneS := by rw [List.nil_append, List.map_append]
        generalize hAV : anyV P.data.toList (LS1 ++ LS2) = AV2 at *
        generalize hAE : anyE P.data.toList (LS1 ++ LS2) = AE2 at *
        have HY2 := Lib.hid (fun (v : Value) (w : World) (h : RowL w 1 v ([] ++ LS1.map oneS ++ LS2.map oneS)) => by
          rw [hcat] at h
          have h2 := any_any P (LS1 ++ LS2) v w (by omega) h (fun x hx => by
            rcases List.mem_append.1 hx with hx | hx
            · have := hs1 x hx; omega
            · have := hs2 x hx; omega)
          rw [hAV, hAE] at h2
          exact h2)
        clear hAV hAE hcat
        go_upto_region 15 with (first
          | ((with_reducible refine V.wpL_appendL w3.heap.size 9 i0 _ 1 16 Tryd.underlying22 hi hz0 hz1 hz2 rfl (by decide) _ [] hoM _ (LS1.map oneS) hR1 (rowOnes LS1) h63 h64 hbs ?_ ?_ ?_); rfl; rfl; intro v5 w5 hoX hgX; have hbX := hbA.grown hgX hbs (fun k hk => hoM.lt k hk); have hR2 := (ho2.on hbX).read; obtain ⟨b5, c5, rfl, _, _, _⟩ := hoX.read.form; rw [hrc1] at hoX ⊢; clear hoM hR1 hgX)
          | ((with_reducible refine V.wpL_appendL w3.heap.size 9 i0 _ 1 16 Tryd.underlying22 hi hz0 hz1 hz2 rfl (by decide) _ ([] ++ LS1.map oneS) hoX _ (LS2.map oneS) hR2 (rowOnes LS2) h632 h642 hbX.size ?_ ?_ ?_); rfl; rfl; intro v6 w6 hoY hgY; have hbY := hbX.grown hgY hbX.size (fun k hk => hoX.lt k hk); obtain ⟨b6, c6, rfl, _, _, _⟩ := hoY.read.form; rw [hrc2] at hoY ⊢)
          | (go_at_call 10; refine (HY2.out _ _ hoY.read).mono ?_; rintro e w7 ⟨rfl, hb7⟩))
        have hb37 := hbY.trans (hb7.mono hbY.size)
        replace ho1 := ho1.on hb37
        replace ho2 := ho2.on hb37
        replace hb := hb.trans (hb37.mono hb.size)
        clear hb37 hb7 hbY hgY hoY hoX hR2 hbX hbA HY2 h63 h64 h632 h642 hrc1 hrc2 hbs
        have HRow1 := Lib.hid ho1.read
        have HRow2 := Lib.hid (fun (w' : World) (hb' : Below w7.heap.size w7 w') => (ho2.on hb').read)
        have hb7 := hb
        clear ho1 ho2 hb hi hz0 hz1 hz2
        go_cut [99] from 75 to 99 (fun s wx => s = .bool false ∧ Below w7.heap.size w7 wx)
        case first =>
          rcases HM0.out.2 with ⟨n, x, rfl, rfl, hx, hmx, hz9⟩ | ⟨rfl, hz9⟩ | ⟨rfl, hz9⟩
          · have hxs := hs1 x (List.mem_of_getElem? hx)
            have hnl := (List.getElem?_eq_some_iff.1 hx).1
            rw [hl1] at hnl
            have HMa := Lib.hid (fun (w : World) => saysM2 x P w (by omega) (by omega) hmx)
            obtain ⟨b, off, rfl, hr, _⟩ := HRow1.out.at (i := n) (cs := oneS x) (by rw [List.getElem?_map, hx]; rfl)
            have q0 := hr 0 (.string x) rfl
            rw [Nat.mul_one, Nat.add_zero] at q0
            have k1 : ¬ (n : Int) < 0 := by omega
            have k2 : ¬ (j : Int) ≤ (n : Int) := by omega
            have k3 : (n : Int) < (j : Int) := by omega
            have k4 : (0 : Int) ≤ (n : Int) := by omega
            clear hz9 HM0 HRow2 HRow1 hr hmx hx hxs hs1 hs2 hl1 hl2 i1 hnl
            go_wp2_with (first
              | (go_at_call 13; refine (HMa.out _).mono ?_; rintro e w8 ⟨rfl, hb8⟩)
              | (go_at_call 14; refine (HA.out _).mono ?_; rintro e w9 ⟨rfl, hb9⟩))
            go_meet
            exact ⟨rfl, hb8.trans (hb9.mono hb8.size)⟩
          · clear hz9 HM0 HRow2 HRow1 hs1 hs2 hl1 hl2 i1
            go_wp2_with (go_at_call 14; refine (HA.out _).mono ?_; rintro e w9 ⟨rfl, hb9⟩)
            go_meet
            exact ⟨rfl, hb9⟩
          · clear hz9 HM0 HRow2 HRow1 hs1 hs2 hl1 hl2 i1
            go_wp2_with (go_at_call 14; refine (HA.out _).mono ?_; rintro e w9 ⟨rfl, hb9⟩)
            go_meet
            exact ⟨rfl, hb9⟩
        case rest =>
          obtain ⟨rfl, hbc⟩ := hcut
          clear HRow1 hs1
          go_wp2
          go_loopw [14, 102] (fun _ iv wr => ∃ j3 : Nat, iv = .int .i64 (j3 : Int) ∧ j3 ≤ j2 ∧ Hid (((LS2.take j3).all fun x => rightG true x.data.toList) = true) ∧ Below w7.heap.size w7 wr) (fun _ iv _ => j2 - (intOf iv).toNat)
          case atStart => exact ⟨0, rfl, Nat.zero_le _, Lib.hid (by simp), hbc⟩
          case round =>
            clear hbc
            obtain ⟨j3, rfl, hj3, HAll, hbr⟩ := hrel
            by_cases hlt : j3 < j2
            case pos =>
              have hjL : j3 < LS2.length := by omega
              obtain ⟨x, hx⟩ : ∃ x, LS2[j3]? = some x := ⟨_, List.getElem?_eq_getElem hjL⟩
              have hxs := hs2 x (List.mem_of_getElem? hx)
              obtain ⟨b, off, rfl, hr, _⟩ := (HRow2.out _ hbr).at (i := j3) (cs := oneS x) (by rw [List.getElem?_map, hx]; rfl)
              have q0 := hr 0 (.string x) rfl
              rw [Nat.mul_one, Nat.add_zero] at q0
              obtain ⟨ry, hry⟩ : ∃ ry, rightG true x.data.toList = ry := ⟨_, rfl⟩
              have HR := Lib.hid (fun (w : World) => by have h := refRight_any x true w (by omega); rw [hry] at h; exact h)
              have i2 : (j3 : Int) < (j2 : Int) := by omega
              have i3 : (0 : Int) ≤ (j3 : Int) := by omega
              cases ry with
              | true =>
                have HAll2 := Lib.hid (show ((LS2.take (j3 + 1)).all fun x => rightG true x.data.toList) = true by
                  rw [List.take_add_one, hx, List.all_append, HAll.out]
                  simpa using hry)
                clear HRow2 HM0 hr hx hxs hs2 hl1 hl2 hjL hlt hry HAll
                go_wp2_with (go_at_call 8; refine (HR.out _).mono ?_; rintro e w9 ⟨rfl, hb9⟩)
                go_roundw
                case rel => exact ⟨j3 + 1, by go_num, by omega, HAll2, hbr.trans (hb9.mono hbr.size)⟩
                case measure => simp [intOf]; omega
              | false =>
                obtain rfl : AE2 = 1 := HM0.out.1 (by
                  rw [Bool.eq_false_iff]
                  intro h
                  have := List.all_eq_true.1 h x (List.mem_of_getElem? hx)
                  rw [hry] at this
                  cases this)
                clear HRow2 HM0 hr hx hxs hs2 hl1 hl2 hjL hlt hry HAll
                go_wp2_with (go_at_call 8; refine (HR.out _).mono ?_; rintro e w9 ⟨rfl, hb9⟩)
                go_ret
                exact ⟨rfl, (hb7.trans (hbr.mono hb7.size)).trans (hb9.mono (Nat.le_trans hb7.size hbr.size))⟩
            obtain rfl : j3 = j2 := by omega
            rw [← hl2, List.take_length] at HAll
            have hfin := HM0.out.2
            rw [hl1] at hfin
            have hbe := hb7.trans (hbr.mono hb7.size)
            rcases hfin with ⟨n, x, rfl, rfl, hx, _, h12⟩ | ⟨rfl, rfl⟩ | ⟨rfl, h12⟩
            · obtain ⟨rfl, rfl⟩ := h12 HAll.out
              have hself : ((n : Int) == (n : Int)) = true := beq_self_eq_true _
              clear HM0 HRow2 hx hs2 hl1 hl2 HAll hlt h12
              go_wp2
              go_ret
              exact ⟨rfl, hbe⟩
            · clear HM0 HRow2 hs2 hl1 hl2 HAll hlt
              go_wp2
              go_ret
              exact ⟨rfl, hbe⟩
            · rcases h12 HAll.out with rfl | ⟨rfl, hge⟩
              · clear HM0 HRow2 hs2 hl1 hl2 HAll hlt h12
                go_wp2
                go_ret
                exact ⟨rfl, hbe⟩
              · clear HM0 HRow2 hs2 hl1 hl2 HAll hlt h12
                go_wp2
                go_ret
                exact ⟨rfl, hbe⟩
end Go.Proofs.YtaliafeekadecaaDoor.Z
