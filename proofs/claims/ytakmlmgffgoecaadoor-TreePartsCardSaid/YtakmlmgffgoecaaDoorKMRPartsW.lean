/- The walk of the statement of how many parts there are: whatever number and data, it answers true. -/
import Derived.Test.YtakmlmgffgoecaaDoorK7
import Derived.Test.YtakmlmgffgoecaaDoorKMRHalvesW
namespace Go.Proofs.YtakmlmgffgoecaaDoor.R
open Go.RowKit Go.Sort Go.Proofs.YtakmlmgffgoecaaDoor.U
set_option maxRecDepth 100000

/-- the parts of the first leaves -/
def partsAt (D : List UInt8) (k : Nat) : List (List UInt8) := addL 0 [] (leavesL D k)
theorem partsAt_next (D : List UInt8) (k : Nat) : partsAt D (k + 1) = addL k (partsAt D k) [leafAt D k] := by
  unfold partsAt
  rw [leavesL_next, addL_append, leavesL_length, Nat.zero_add]
theorem partsAt_ok (D : List UInt8) (k : Nat) : (partsAt D k).length = ones k ∧ ∀ x ∈ partsAt D k, x.length = 32 := by
  have h := addL_ok (leavesL D k) 0 [] rfl (fun y hy => by cases hy) (leavesL_32 D k)
  rw [leavesL_length, Nat.zero_add] at h
  exact h
theorem partsAt_may (D : List UInt8) (k : Nat) (hk : k ≤ 4096) : mayB (k : Int) (partsAt D k) = true := by
  obtain ⟨h1, h2⟩ := partsAt_ok D k
  have h3 := ones_le k hk
  unfold mayB rowB
  rw [Int.toNat_natCast, allB_of h2, decide_eq_true h1, decide_eq_true (show (0 : Int) ≤ (k : Int) by omega), decide_eq_true (show (k : Int) ≤ 4096 by omega), decide_eq_true (show (partsAt D k).length ≤ 4096 by omega)]
  rfl
theorem cut_at (x : List UInt8) (m : Nat) (mi : Int) (h : mi = (m : Int)) : (bytesOf x).extract 0 (min ((bytesOf x).size : Int) mi).toNat = bytesOf (x.take m) := by
  rw [bytes_size]
  exact cut_bytes x m mi h
attribute [local irreducible] leafAt partsAt

set_option maxHeartbeats 3200000 in
theorem parts_walk (num : Int) (data : List UInt8) (W : World) (_hn : (Lit.int .i64 num).wf = true) (hd : data.length ≤ maxLen) (hT : Tab W) :
    Calls Tryd.prog 8 #[.int .i64 num, .string (bytesOf data)] W fun e w' => e = .returned (.bool true) ∧ Below W.heap.size W w' := by
  have HT := Lib.hid hT
  have hcut := cut_at data 20 20 rfl
  have hsz : ((bytesOf data).size : Int) ≤ 9223372036854775807 := by rw [bytes_size]; unfold maxLen at hd; omega
  obtain ⟨N, hN, hN80⟩ : ∃ N : Nat, min (max num 0) 80 = (N : Int) ∧ N ≤ 80 := ⟨(min (max num 0) 80).toNat, by omega, by omega⟩
  have hD20 : (data.take 20).length ≤ 20 := by rw [List.length_take]; omega
  go_enter Tryd.func8, Tryd.ntmps8
  go_upto_region 3 with fail
  generalize data.take 20 = D at *
  clear hcut hsz hT
  have HLf : Hid (∀ (k : Nat) w, Below W.heap.size W w → Calls Tryd.prog 11 #[.string (bytesOf (D ++ [k.toUInt8]))] w fun e w' => e = .returned (.string (bytesOf (leafAt D k))) ∧ Below w.heap.size w w') := Lib.hid (fun k w hb => by
    have h1 := leaf_any (D ++ [k.toUInt8]) w (by rw [List.length_append]; simp; omega) (HT.out.below hb)
    unfold leafAt
    exact h1)
  obtain ⟨G, hG0, hGn, hGo, hGm⟩ : ∃ G : Nat → List (List UInt8), G 0 = [] ∧ (∀ k : Nat, G (k + 1) = addL k (G k) [leafAt D k]) ∧ (∀ k : Nat, (G k).length = ones k ∧ ∀ x ∈ G k, x.length = 32) ∧ (∀ k : Nat, k ≤ 4096 → mayB (k : Int) (G k) = true) :=
    ⟨partsAt D, by unfold partsAt leavesL; rfl, partsAt_next D, partsAt_ok D, partsAt_may D⟩
  have l32 : ∀ k, (leafAt D k).length = 32 := fun k => by unfold leafAt; exact lf_length _
  have HAd : Hid (∀ k, k ≤ 80 → ∀ w, Below W.heap.size W w → ∀ v, Strs w v (G k) → ∀ lv, Strs w lv [leafAt D k] → Calls Tryd.prog 20 #[.agg (growA (k : Int) v), lv] w fun e w' => ∃ u, e = .returned u ∧ Below w.heap.size w w' ∧ sayAdd ((k : Int) + 1) (G (k + 1)) u w') := Lib.hid (fun k hk w hb v hv lv hlv => by
    have h1 := add_say k v lv (G k) [leafAt D k] w hv hlv (hGm k (by omega)) (by unfold rowB allB; simp [l32 k]) (by simp; omega) (HT.out.below hb)
    rw [← hGn k, show ((k + [leafAt D k].length : Nat) : Int) = (k : Int) + 1 from rfl] at h1
    exact h1)
  have HGo := Lib.hid hGo
  have HGm := Lib.hid hGm
  have HG0 := Lib.hid hG0
  have HG1 := Lib.hid (show G 1 = [leafAt D 0] by rw [hGn 0, hG0]; unfold addL addL; rfl)
  clear hG0 hGn hGo hGm l32
  go_wp2
  go_loopw [25] (fun iv wr => ∃ (k : Nat) (a : Option Addr) (c : Nat), k ≤ N ∧ iv = .int .i64 k ∧ Lies wr W.heap.size 34 (growA (k : Int) (.slice a (G k).length c)) ∧ Strs wr (.slice a (G k).length c) (G k) ∧ Below W.heap.size W wr) (fun iv _ => N - (intOf iv).toNat)
  case atStart => exact ⟨0, none, 0, Nat.zero_le _, rfl, by rw [HG0.out]; exact Lies.new W _ _, by rw [HG0.out]; exact Strs.nil _, (Below.refl _ _).alloc (Nat.le_refl _) _⟩
  case round =>
    obtain ⟨k, a, c, hk, rfl, hl, hs, hB⟩ := hrel
    have hk80 : k ≤ 80 := by omega
    by_cases hlt : k < N
    · go_upto_region 7 with fail
      refine wp_region_rel_late 12 14 14 _ [sayFix (.agg (growA (k : Int) (.slice a (G k).length c))), sayFix (.string (bytesOf D)), sayFix (.int .i64 (k : Int)), sayFix (.int .u8 (k : Int)), sayByte1 k, sayFix (.string (bytesOf [k.toUInt8])), sayFix (.string (bytesOf (D ++ [k.toUInt8]))), sayFix (.string (bytesOf (leafAt D k))), sayOneS (leafAt D k), sayAdd ((k : Int) + 1) (G (k + 1)), sayAdd ((k : Int) + 1) (G (k + 1)), sayGrow ((k : Int) + 1) (G (k + 1)), sayFix (.int .i64 0), sayNewG wr.heap.size] rfl rfl (by kernel_rfl) (by kernel_rfl) (by kernel_rfl) (fun r hr => by
        simp only [List.mem_cons, List.not_mem_nil, or_false] at hr
        rcases hr with rfl | rfl | rfl | rfl | rfl | rfl | rfl | rfl | rfl | rfl | rfl | rfl | rfl | rfl <;> first | exact sayFix_mono _ | exact sayByte1_mono _ | exact sayOneS_mono _ | exact sayAdd_mono _ _ | exact sayGrow_mono _ _ | exact sayNewG_mono _) ?_
      simp only [addEdge, List.take_succ_cons, List.take_zero, List.drop_succ_cons, List.drop_zero, List.zip_cons_cons, List.zip_nil_right]
      refine wpRel_step (fun w hb hG => ?_) (fun v0 => ?_)
      · exact does_run (.agg (growA (k : Int) (.slice a (G k).length c))) (run_ldG W.heap.size _ _ _ (hl.on hb) rfl) rfl
      simp only [Act.put, List.setIfInBounds_toArray, List.set_cons_succ, List.set_cons_zero, Option.getD_some]
      refine wpRel_step (fun w hb hG => ?_) (fun v1 => ?_)
      · exact does_run (.string (bytesOf D)) rfl rfl
      simp only [Act.put, List.setIfInBounds_toArray, List.set_cons_succ, List.set_cons_zero, Option.getD_some]
      refine wpRel_step (fun w hb hG => ?_) (fun v2 => ?_)
      · exact does_run (.int .i64 (k : Int)) rfl rfl
      simp only [Act.put, List.setIfInBounds_toArray, List.set_cons_succ, List.set_cons_zero, Option.getD_some]
      refine wpRel_step (fun w hb hG => ?_) (fun v3 => ?_)
      · obtain rfl := laid_at 0 hG rfl (by decide)
        exact does_run (.int .u8 (k : Int)) (run_byte k (by omega) rfl w) rfl
      simp only [Act.put, List.setIfInBounds_toArray, List.set_cons_succ, List.set_cons_zero, Option.getD_some]
      refine wpRel_step (fun w hb hG => ?_) (fun v4 => ?_)
      · obtain rfl := laid_at 0 hG rfl (by decide)
        exact does_made (.slice (some ⟨w.heap.size, 0, none⟩) 1 1) (w' := w.alloc (.cells #[.int .u8 (k : Int)] 5)) (by kernel_rfl) (grown_alloc w _) ⟨w.heap.size, rfl, (Lies.new w 5 #[.int .u8 (k : Int)]).cell 0⟩
      simp only [Act.put, List.setIfInBounds_toArray, List.set_cons_succ, List.set_cons_zero, Option.getD_some]
      refine wpRel_step (fun w hb hG => ?_) (fun v5 => ?_)
      · obtain ⟨g, rfl, hg⟩ := laid_at 0 hG rfl (by decide)
        exact does_run (.string (bytesOf [k.toUInt8])) (run_str1 g k (by omega) w hg rfl) rfl
      simp only [Act.put, List.setIfInBounds_toArray, List.set_cons_succ, List.set_cons_zero, Option.getD_some]
      refine wpRel_step (fun w hb hG => ?_) (fun v6 => ?_)
      · obtain rfl := laid_at 4 hG rfl (by decide)
        obtain rfl := laid_at 0 hG rfl (by decide)
        exact does_run (.string (bytesOf (D ++ [k.toUInt8]))) (run_cat D [k.toUInt8] (by simp; omega) rfl rfl w) rfl
      simp only [Act.put, List.setIfInBounds_toArray, List.set_cons_succ, List.set_cons_zero, Option.getD_some]
      refine wpRel_step (fun w hb hG => ?_) (fun v7 => ?_)
      · obtain rfl := laid_at 0 hG rfl (by decide)
        exact does_call 11 #[(.string (bytesOf (D ++ [k.toUInt8])))] (by kernel_rfl) ((HLf.out k w (hB.trans (hb.mono hB.size))).mono fun e w' ⟨he, h2⟩ => ⟨_, he, h2, rfl⟩)
      simp only [Act.put, List.setIfInBounds_toArray, List.set_cons_succ, List.set_cons_zero, Option.getD_some]
      refine wpRel_step (fun w hb hG => ?_) (fun v8 => ?_)
      · obtain rfl := laid_at 0 hG rfl (by decide)
        exact does_made (.slice (some ⟨w.heap.size, 0, none⟩) 1 1) (w' := w.alloc (.cells #[(.string (bytesOf (leafAt D k)))] 9)) (by kernel_rfl) (grown_alloc w _) ⟨w.heap.size, rfl, Lies.new w _ _⟩
      simp only [Act.put, List.setIfInBounds_toArray, List.set_cons_succ, List.set_cons_zero, Option.getD_some]
      refine wpRel_step (fun w hb hG => ?_) (fun v9 => ?_)
      · obtain rfl := laid_at 8 hG rfl (by decide)
        obtain ⟨g, rfl, hg⟩ := laid_at 0 hG rfl (by decide)
        exact does_call 20 #[(.agg (growA (k : Int) (.slice a (G k).length c))), .slice (some ⟨g, 0, none⟩) 1 1] (by kernel_rfl) (HAd.out k hk80 w (hB.trans (hb.mono hB.size)) _ (hs.below hb) _ (oneS_strs hg))
      simp only [Act.put, List.setIfInBounds_toArray, List.set_cons_succ, List.set_cons_zero, Option.getD_some]
      refine wpRel_step (fun w hb hG => ?_) (fun v10 => ?_)
      · obtain ⟨a2, c2, rfl, hs2⟩ := laid_at 0 hG rfl (by decide)
        exact does_run _ rfl ⟨a2, c2, rfl, hs2⟩
      simp only [Act.put, List.setIfInBounds_toArray, List.set_cons_succ, List.set_cons_zero, Option.getD_some]
      refine wpRel_step (fun w hb hG => ?_) (fun v11 => ?_)
      · obtain ⟨a2, c2, rfl, hs2⟩ := laid_at 0 hG rfl (by decide)
        exact does_run (.agg (growA ((k : Int) + 1) (.slice a2 (G (k + 1)).length c2))) (by kernel_rfl) ⟨a2, c2, rfl, hs2⟩
      simp only [Act.put, List.setIfInBounds_toArray, List.set_cons_succ, List.set_cons_zero, Option.getD_some]
      refine wpRel_step (fun w hb hG => ?_) (fun v12 => ?_)
      · obtain ⟨a2, c2, rfl, hs2⟩ := laid_at 1 hG rfl (by decide)
        exact does_run (.int .i64 0) (by kernel_rfl) rfl
      simp only [Act.put, List.setIfInBounds_toArray, List.set_cons_succ, List.set_cons_zero, Option.getD_some]
      refine wpRel_step (fun w hb hG => ?_) (fun v13 => ?_)
      · exact does_made (.pointer (some ⟨w.heap.size, 0, none⟩)) (w' := w.alloc (.cells noA 34)) (by kernel_rfl) (grown_alloc w _) ⟨w.heap.size, rfl, hb.size, Lies.new w _ _⟩
      simp only [Act.put, List.setIfInBounds_toArray, List.set_cons_succ, List.set_cons_zero, Option.getD_some]
      refine wpRel_nil (fun w2 hb hG => ?_)
      obtain ⟨gx, rfl, hgx, hlx⟩ := hG _ (List.mem_of_getElem? (i := 0) rfl)
      obtain rfl := hG _ (List.mem_of_getElem? (i := 1) rfl)
      obtain ⟨a2, c2, rfl, hs2⟩ := hG _ (List.mem_of_getElem? (i := 2) rfl)
      clear hG
      have hlt2 := hl.lt
      have hl2 := hl.on hb
      have hB2 := below_on hB hb
      have hbsz := hB.size
      have hlx3 : Lies (w2.setRow gx (growA ((k : Int) + 1) (.slice a2 (G (k + 1)).length c2))) gx 34 (growA ((k : Int) + 1) (.slice a2 (G (k + 1)).length c2)) := hlx.row _
      have hl3 : Lies (w2.setRow gx (growA ((k : Int) + 1) (.slice a2 (G (k + 1)).length c2))) W.heap.size 34 (growA (k : Int) (.slice a (G k).length c)) := hl2.rowFar (by omega) _
      have hs3 := strs_only hs2 hlx (growA_str _ _ _ _) ((Only.refl w2 gx).row (Or.inl rfl) (growA ((k : Int) + 1) (.slice a2 (G (k + 1)).length c2)))
      have hB3 := below_rowSet hB2 (show W.heap.size ≤ gx by omega) (growA ((k : Int) + 1) (.slice a2 (G (k + 1)).length c2))
      clear hs hl hs2
      go_wp2_with (first
        | ((with_reducible refine wpL_store gx 34 noA (growA ((k : Int) + 1) (.slice a2 (G (k + 1)).length c2)) 2 rowGrow rfl rfl (growA_one _ _ _ _) hlx ?_ ?_ ?_); rfl; rfl)
        | ((with_reducible refine wpL_load gx 34 (growA ((k : Int) + 1) (.slice a2 (G (k + 1)).length c2)) 2 rowGrow rfl hlx3 ?_ ?_); rfl)
        | ((with_reducible refine wpL_store W.heap.size 34 (growA (k : Int) (.slice a (G k).length c)) (growA ((k : Int) + 1) (.slice a2 (G (k + 1)).length c2)) 2 rowGrow rfl rfl (growA_one _ _ _ _) hl3 ?_ ?_ ?_); rfl; rfl))
      go_roundw
      case rel => exact ⟨k + 1, a2, c2, by omega, by go_num, hl3.row _, strs_only hs3 hl3 (growA_str _ _ _ _) ((Only.refl _ W.heap.size).row (Or.inl rfl) _), below_rowSet hB3 (Nat.le_refl _) _⟩
      case measure => simp [intOf]; omega
    · obtain rfl : k = N := by omega
      clear HAd
      go_wp2
      go_loop [9, 10] (fun o x => ∃ (u m : Nat), o = .int .i64 u ∧ x = .int .i64 m ∧ m ≤ k ∧ u + m ≤ 80 ∧ Hid (u + ones m = ones k)) (fun _ x => (intOf x).toNat)
      case atStart => exact ⟨0, k, rfl, rfl, Nat.le_refl _, by omega, Lib.hid (Nat.zero_add _)⟩
      case round =>
        obtain ⟨u, m, rfl, rfl, hm, hum, HS⟩ := hrel
        by_cases hpos : 0 < m
        · go_wp2
          go_round
          case rel => exact ⟨u + m % 2, m / 2, by go_num, by go_num, by omega, by omega, Lib.hid (by have h1 := HS.out; rw [ones_half m] at h1; omega)⟩
          case measure => simp [intOf]; omega
        · obtain rfl : m = 0 := by omega
          obtain ⟨hGl, hG32⟩ := HGo.out k
          have hu : u = (G k).length := by have h1 := HS.out; rw [ones_zero, Nat.add_zero] at h1; rw [h1, hGl]
          obtain ⟨p, hp⟩ : ∃ p, (G k).length = p := ⟨_, rfl⟩
          have hSu := fun w (hb : Below wr.heap.size wr w) => gsum_any (k : Int) _ (G k) w (by omega) (by omega) (hs.below hb) (fun x hx => by rw [hG32 x hx]; decide) ((HT.out.below hB).below hb)
          have hSA : sumG (k : Int) (G k) = #[.string (bytesOf (sumP nd e0 (G k))), .int .i64 0] := by unfold sumG; rw [if_pos (HGm.out k (by omega))]
          rw [hSA] at hSu
          have hRo := fun w (hb : Below wr.heap.size wr w) => root_any [] w (.slice none 0 0) (fun x hx => by cases hx) (Strs.nil w) ((HT.out.below hB).below hb)
          rw [rootA_yes (show rowB [] = true from rfl), show rt [] = e0 from rfl] at hRo
          have HAl := Lib.hid (fun w (hb : Below wr.heap.size wr w) => alive_any w ((HT.out.below hB).below hb))
          have hS0 : k = 0 → sumP nd e0 (G k) = e0 := fun h => by subst h; rw [HG0.out]; rfl
          have hS1 : k = 1 → sumP nd e0 (G k) = leafAt D 0 := fun h => by subst h; rw [HG1.out]; rfl
          have hLe := fun w (hb : Below wr.heap.size wr w) => HLf.out 0 w (hB.trans (hb.mono hB.size))
          rw [hp] at hl hSu hu
          subst hu
          generalize hSS : sumP nd e0 (G k) = S at *
          have HSu := Lib.hid hSu
          have HRo := Lib.hid hRo
          have HLe := Lib.hid hLe
          clear hs hGl hG32 hSA hSu hRo hLe HG0 HG1 HGo HGm HLf HS hSS
          have hcat : bytesOf D ++ ({ data := #[0] } : ByteArray) = bytesOf (D ++ [(0 : Nat).toUInt8]) := by
            rw [← Lib.mk_data (bytesOf D ++ ({ data := #[0] } : ByteArray)), list_append]
            rfl
          have hD21 : (bytesOf D).size ≤ 20 := by rw [bytes_size]; exact hD20
          have q0 := hl.cell 0
          have q1 := hl.cell 1
          simp only [growA, List.getElem?_toArray, List.getElem?_cons_succ, List.getElem?_cons_zero] at q0 q1
          have hb := Below.refl wr.heap.size wr
          rcases k with _ | _ | k
          · have hS := hS0 rfl
            subst hS
            clear hS0 hS1
            go_wp2_with (first
              | ((with_reducible refine wpL_load W.heap.size 34 _ 2 rowGrow ?_ hl ?_ ?_); rfl; rfl)
              | (go_at_call 21; refine (HSu.out _ hb).mono ?_; rintro e w2 ⟨rfl, hb2⟩; replace hb := below_on hb hb2; replace hl := hl.on hb2; replace q0 := (hb2.cell (World.block_lt_of_cell? _ _ q0)).trans q0; replace q1 := (hb2.cell (World.block_lt_of_cell? _ _ q1)).trans q1)
              | (go_at_call 10; refine (HRo.out _ hb).mono ?_; rintro e w2 ⟨rfl, hb2⟩; replace hb := below_on hb hb2; replace hl := hl.on hb2; replace q0 := (hb2.cell (World.block_lt_of_cell? _ _ q0)).trans q0; replace q1 := (hb2.cell (World.block_lt_of_cell? _ _ q1)).trans q1)
              | (go_at_call 17; refine (HAl.out _ hb).mono ?_; rintro e w2 ⟨rfl, hb2⟩; replace hb := below_on hb hb2; replace hl := hl.on hb2))
            go_ret
            exact ⟨rfl, below_on hB hb⟩
          · have hS := hS1 rfl
            subst hS
            clear hS0 hS1
            go_wp2_with (first
              | ((with_reducible refine wpL_load W.heap.size 34 _ 2 rowGrow ?_ hl ?_ ?_); rfl; rfl)
              | (go_at_call 21; refine (HSu.out _ hb).mono ?_; rintro e w2 ⟨rfl, hb2⟩; replace hb := below_on hb hb2; replace hl := hl.on hb2; replace q0 := (hb2.cell (World.block_lt_of_cell? _ _ q0)).trans q0; replace q1 := (hb2.cell (World.block_lt_of_cell? _ _ q1)).trans q1)
              | (go_at_call 10; refine (HRo.out _ hb).mono ?_; rintro e w2 ⟨rfl, hb2⟩; replace hb := below_on hb hb2; replace hl := hl.on hb2; replace q0 := (hb2.cell (World.block_lt_of_cell? _ _ q0)).trans q0; replace q1 := (hb2.cell (World.block_lt_of_cell? _ _ q1)).trans q1)
              | (go_at_call 17; refine (HAl.out _ hb).mono ?_; rintro e w2 ⟨rfl, hb2⟩; replace hb := below_on hb hb2; replace hl := hl.on hb2)
              | (go_at_call 11; refine (HLe.out _ hb).mono ?_; rintro e w2 ⟨rfl, hb2⟩; replace hb := below_on hb hb2))
            go_ret
            exact ⟨rfl, below_on hB hb⟩
          · clear hS0 hS1 hcat
            go_wp2_with (first
              | ((with_reducible refine wpL_load W.heap.size 34 _ 2 rowGrow ?_ hl ?_ ?_); rfl; rfl)
              | (go_at_call 21; refine (HSu.out _ hb).mono ?_; rintro e w2 ⟨rfl, hb2⟩; replace hb := below_on hb hb2; replace hl := hl.on hb2; replace q0 := (hb2.cell (World.block_lt_of_cell? _ _ q0)).trans q0; replace q1 := (hb2.cell (World.block_lt_of_cell? _ _ q1)).trans q1)
              | (go_at_call 10; refine (HRo.out _ hb).mono ?_; rintro e w2 ⟨rfl, hb2⟩; replace hb := below_on hb hb2; replace hl := hl.on hb2; replace q0 := (hb2.cell (World.block_lt_of_cell? _ _ q0)).trans q0; replace q1 := (hb2.cell (World.block_lt_of_cell? _ _ q1)).trans q1)
              | (go_at_call 17; refine (HAl.out _ hb).mono ?_; rintro e w2 ⟨rfl, hb2⟩; replace hb := below_on hb hb2; replace hl := hl.on hb2))
            go_ret
            exact ⟨rfl, below_on hB hb⟩
end Go.Proofs.YtakmlmgffgoecaaDoor.R
