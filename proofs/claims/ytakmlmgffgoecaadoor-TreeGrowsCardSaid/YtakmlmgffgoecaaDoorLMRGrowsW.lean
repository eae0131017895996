/- The walk of the statement of trees that go on from none: whatever data and cuts, it answers true. -/
import Derived.Test.YtakmlmgffgoecaaDoorL8
import Derived.Deep.CutRange
import Derived.Deep.CutBlock
namespace Go.Proofs.YtakmlmgffgoecaaDoor.R
open Go.RowKit Go.Sort Go.Proofs.YtakmlmgffgoecaaDoor.U
set_option maxRecDepth 100000
attribute [local irreducible] leavesD

set_option maxHeartbeats 6400000 in
theorem grows_walk (v : Value) (data : List (List UInt8)) (ai : Option Addr) (zs : List Int) (ci : Nat) (W : World) (hs0 : Strs W v data) (hx : ∀ x ∈ data, x.length ≤ maxLen) (hzc : zs.length ≤ ci) (hcm : ci ≤ maxLen)
    (hI : 0 < zs.length → ∃ b off, ai = some ⟨b, off, none⟩ ∧ ∀ (i : Nat) z, zs[i]? = some z → W.cell? ⟨b, off + i, none⟩ = some (.int .i64 z)) (hT : Tab W) :
    Calls Tryd.prog 5 #[v, .slice ai zs.length ci] W fun e w' => e = .returned (.bool true) ∧ Below W.heap.size W w' := by
  have HT := Lib.hid hT
  have HLf := Lib.hid (fun (x : List UInt8) (h : x.length ≤ 100) w (hb : Below W.heap.size W w) => leaf_any x w (by omega) (hT.below hb))
  have HAl := Lib.hid (fun w (hb : Below W.heap.size W w) => alive_any w (hT.below hb))
  have HI := Lib.hid hI
  obtain ⟨ao, c0, rfl, hc0, hm0, hna, hcl⟩ := hs0
  unfold maxLen at hm0 hx hcm
  clear hT hI
  go_enter Tryd.func5, Tryd.ntmps5
  go_wp2
  go_loopw [5, 21] (fun lv iv wr => ∃ (k : Nat) (a : Option Addr) (c : Nat), k ≤ data.length ∧ iv = .int .i64 k ∧ lv = .slice a (leavesD data k).length c ∧ Own wr W.heap.size (.slice a (leavesD data k).length c) (leavesD data k) ∧ Below W.heap.size W wr) (fun _ iv _ => data.length - (intOf iv).toNat)
  case atStart => exact ⟨0, none, 0, Nat.zero_le _, rfl, by unfold leavesD; rfl, by unfold leavesD; exact .inl ⟨none, rfl, rfl⟩, Below.refl _ _⟩
  case round =>
    obtain ⟨k, lo, cL, hk, rfl, rfl, ho, hB⟩ := hrel
    by_cases hlt : k < data.length
    · obtain ⟨b, off, rfl, hcell⟩ := hcl (by intro h; subst h; simp at hlt)
      obtain ⟨x, hxk⟩ : ∃ x, data[k]? = some x := ⟨data[k], List.getElem?_eq_getElem hlt⟩
      have hxl := hx x (List.mem_of_getElem? hxk)
      have hc4 := hcell k x hxk
      replace hc4 := (hB.cell (p := ⟨b, off + k, none⟩) (World.block_lt_of_cell? W _ hc4)).trans hc4
      unfold str at hc4
      have h70 := leavesD_length data k
      by_cases h7 : k < 70
      · have HNx := Lib.hid (leavesD_next hxk h7)
        have hcut := cut_bytes x 100 100 rfl
        have HL1 := Lib.hid (HLf.out (x.take 100) (by rw [List.length_take]; omega) wr hB)
        unfold bytesOf at HL1
        have hsz := hB.size
        clear hxk hcell hcl
        go_wp2_with (first
          | (go_at_call 11; refine HL1.out.mono ?_; rintro e w2 ⟨rfl, hb2⟩)
          | ((with_reducible refine wpL_appendS W.heap.size _ (leavesD data k) (leavesD data k).length (lf (x.take 100)) w2.heap.size rfl ((ho.on hb2).on ((Below.refl _ _).alloc (Nat.le_refl _) _)) (Lies.new w2 _ _) (by omega) (by have := hb2.size; simp; omega) ?_ ?_ ?_); rfl; rfl; intro g6 c6 w6 ho6 hb6 hk6))
        go_roundw
        case rel => exact ⟨k + 1, some ⟨g6, 0, none⟩, c6, by omega, by go_num, by rw [HNx.out, List.length_append]; rfl, by rw [HNx.out, List.length_append]; exact ho6, ((below_on hB hb2).alloc (by have := hb2.size; omega) _).trans hb6⟩
        case measure => simp [intOf]; omega
      · have HNx := Lib.hid (leavesD_past data (k := k) (by omega))
        clear hxk hcell hcl
        go_wp2
        go_roundw
        case rel => exact ⟨k + 1, lo, cL, by omega, by go_num, by rw [HNx.out], by rw [HNx.out]; exact ho, hB⟩
        case measure => simp [intOf]; omega
    · clear hcl hna hx hm0 hc0
      have h70 := leavesD_length data k
      obtain ⟨G, R, hG0, hAd, hSm, hRo, hPa⟩ := grows_facts (leavesD data k) h70 (leavesD_32 data k)
      have HG0 := Lib.hid hG0
      have HAd := Lib.hid hAd
      have HSm := Lib.hid hSm
      have HRo := Lib.hid hRo
      have HPa := Lib.hid hPa
      clear hG0 hAd hSm hRo hPa
      generalize leavesD data k = L at *
      have hA : (if cL = 0 then lo else lo.map (·.add 0)) = lo := by
        rcases ho with ⟨a', hv, _⟩ | ⟨gp, cap, hv, _⟩
        · injection hv with e1 e2 e3
          rw [if_pos e3]
        · injection hv with e1 e2 e3
          subst e1
          split
          · rfl
          · show some (Addr.add ⟨gp, 0, none⟩ 0) = _
            rw [Addr.add_mid]
      have hcL : L.length ≤ cL := by obtain ⟨a', c', hv, h1, _⟩ := ho.strs; injection hv with e1 e2 e3; omega
      have hcLm : cL ≤ 9223372036854775807 := by obtain ⟨a', c', hv, _, h1, _⟩ := ho.strs; injection hv with e1 e2 e3; unfold maxLen at h1; omega
      go_upto_region 9 with ((with_reducible refine wpL_store wr.heap.size 34 noA (growA 0 (.slice none 0 0)) 2 rowGrow rfl rfl (growA_one _ _ _ _) ?_ ?_ ?_ ?_); exact Lies.new wr _ _; rfl; rfl)
      generalize hW8 : World.setRow _ _ _ = w8
      have hba := (Below.refl W.heap.size wr).mono (Nat.le_refl _)
      have hbn := (Below.refl wr.heap.size wr).alloc (Nat.le_refl _) (.cells noA 34)
      have hlz := Lies.new wr 34 noA
      have hO := (Only.refl (wr.alloc (.cells noA 34)) wr.heap.size).row (Or.inl rfl) noA
      have hL8 : Strs w8 (.slice lo L.length cL) L := by rw [← hW8]; exact strs_only (ho.strs.below hbn) hlz (growA_str _ _ _ _) hO
      have hg8 : Lies w8 wr.heap.size 34 noA := by rw [← hW8]; exact hlz.row _
      have hB8 : Below W.heap.size W w8 := by rw [← hW8]; exact below_rowSet (below_on hB hbn) hB.size _
      have hgW : W.heap.size ≤ wr.heap.size := hB.size
      have hg8s := hg8.lt
      clear hW8 hba hbn hlz hO ho hB
      generalize wr.heap.size = gb at *
      obtain ⟨q, hq⟩ : ∃ q : Nat, min (zs.length : Int) 20 = (q : Int) := ⟨(min (zs.length : Int) 20).toNat, by omega⟩
      have hq20 : q ≤ 20 := by omega
      have hqz : q ≤ zs.length := by omega
      have hzq : (zs.take q).length = q := by rw [List.length_take]; omega
      have hown9 : (w8.alloc (.cells #[] 3)).ownsRow w8.heap.size 3 1 (.slice (some ⟨w8.heap.size, 0, none⟩) 0 0) 0 [] := World.ownsRow_made w8 #[] 0 (Nat.le_refl _) (Nat.zero_le _) rfl
      have hb9 : Below w8.heap.size w8 (w8.alloc (.cells #[] 3)) := (Below.refl w8.heap.size w8).alloc (Nat.le_refl _) _
      have HC := Lib.hid (show 0 < (zs.take q).length → ∃ b off, (if ci = 0 then ai else ai.map (·.add 0)) = some ⟨b, off, none⟩ ∧ ∀ (i : Nat) z, (zs.take q)[i]? = some z → (w8.alloc (.cells #[] 3)).cell? ⟨b, off + i, none⟩ = some (.int .i64 z) by
        intro hpos
        obtain ⟨b, off, ha, hcell⟩ := HI.out (by omega)
        refine ⟨b, off, ?_, fun i z hz => ?_⟩
        · subst ha
          split
          · rfl
          · show some (Addr.add ⟨b, off, none⟩ 0) = _
            rw [Addr.add_mid]
            rfl
        · have hz2 : zs[i]? = some z := by rw [List.getElem?_take] at hz; split at hz <;> simp_all
          have h1 := hcell i z hz2
          have h2 := (hB8.cell (p := ⟨b, off + i, none⟩) (World.block_lt_of_cell? W _ h1)).trans h1
          exact (hb9.cell (p := ⟨b, off + i, none⟩) (World.block_lt_of_cell? w8 _ h2)).trans h2)
      have HZ := Lib.hid hzq
      obtain ⟨j0, ki, kz0, kz1, kz2⟩ := info_parts infoInt
      have hzl : (zs.take q).length ≤ 1000 := by omega
      generalize zs.take q = ys at *
      subst hzq
      go_wp2_with (first
        | ((with_reducible refine wpL_headI ai zs.length ci ys.length (by omega) rfl rfl ?_))
        | ((with_reducible refine wpL_copyI w8.heap.size _ hown9 (by simp) (if ci = 0 then ai else ai.map (·.add 0)) ys ci hzl HC.out ?_ ?_ ?_); rfl; rfl; intro a9 c9 w9 ho9 hb9b)
        | ((with_reducible refine wpL_append w8.heap.size 3 j0 (.int .i64 0) 8 Tryd.underlying44 ki kz0 kz1 kz2 rfl _ ys.length _ (ho9.alloc _) w9.heap.size (.int .i64 (L.length : Int)) (Lies.new w9 _ _) rfl (by unfold maxLen; omega) (by omega) (by have := hb9b.size; simp at this ⊢; omega) ?_ ?_ ?_); rfl; rfl; intro g6 c6 w11 ho11 hg11))
      have hb11 : Below w8.heap.size w8 w11 := ((hb9.trans hb9b).alloc (by have := hb9b.size; simp at this; omega) _).grown hg11 (by have := hb9b.size; simp at this ⊢; omega) (fun j hj => (ho9.lt j hj).1)
      have HX : Hid (∀ (j : Nat) z, (ys ++ [(L.length : Int)])[j]? = some z → w11.cell? ⟨g6, j, none⟩ = some (.int .i64 z)) := Lib.hid (fun j z hz => by
        have hj := (List.getElem?_eq_some_iff.1 hz).1
        rw [ho11.cellAt j (by simpa using hj)]
        have h1 : ((ys ++ [(L.length : Int)]).map iv)[j]? = some (.int .i64 z) := by rw [List.getElem?_map, hz]; rfl
        rw [List.map_append] at h1
        exact h1)
      have hg6 : w8.heap.size ≤ g6 := (ho11.lt g6 rfl).1
      have HS11 := Lib.hid (hL8.below hb11)
      have hgb11 := hg8.on hb11
      have hB11 := below_on hB8 hb11
      clear ho11 hg11 ho9 hb9 hb9b hb11 hown9 HC HZ HI hL8 hg8 hB8 hq hqz hzl hzc hcm ki kz0 kz1 kz2 HLf
      go_loopw [9, 51] (fun av iv wq => ∃ (k2 t : Nat) (a5 : Option Addr) (c5 : Nat), k2 ≤ ys.length + 1 ∧ t ≤ L.length ∧ Hid (k2 = ys.length + 1 → t = L.length) ∧ iv = .int .i64 k2 ∧ av = .int .i64 t ∧ Lies wq gb 34 (growA (t : Int) (.slice a5 (G t).length c5)) ∧ Hid (Strs wq (.slice a5 (G t).length c5) (G t)) ∧ Hid (Only gb w11 wq) ∧ Below W.heap.size W wq) (fun _ iv _ => ys.length + 1 - (intOf iv).toNat)
      case atStart => exact ⟨0, 0, none, 0, by omega, by omega, Lib.hid (fun h => by omega), rfl, rfl, by rw [HG0.out]; exact hgb11, Lib.hid (by rw [HG0.out]; exact Strs.nil _), Lib.hid (Only.refl _ _), hB11⟩
      case round =>
        clear hB11
        obtain ⟨k2, t, a5, c5, hk2, htL, HE, rfl, rfl, hlg, HSg, HO, hB⟩ := hrel
        by_cases hlt2 : k2 < ys.length + 1
        · obtain ⟨z, hz⟩ : ∃ z, (ys ++ [(L.length : Int)])[k2]? = some z := ⟨(ys ++ [(L.length : Int)])[k2]'(by simp; omega), List.getElem?_eq_getElem _⟩
          have hcz : wr.cell? ⟨g6, k2, none⟩ = some (.int .i64 z) := by
            have h1 := HX.out k2 z hz
            have hb := World.block_lt_of_cell? w11 _ h1
            rw [World.cell?_of_block (HO.out.block _ hb (by intro e; injection e with e; simp at e; omega))]
            exact h1
          have HSl := Lib.hid (strs_only HS11.out hgb11 (growA_str _ _ _ _) HO.out)
          obtain ⟨m, hm, htm, hmL⟩ : ∃ m : Nat, min (max z (t : Int)) (L.length : Int) = (m : Int) ∧ t ≤ m ∧ m ≤ L.length := ⟨(min (max z (t : Int)) (L.length : Int)).toNat, by omega, by omega, by omega⟩
          have HE2 : Hid (k2 + 1 = ys.length + 1 → m = L.length) := Lib.hid (fun h => by
            obtain rfl : k2 = ys.length := by omega
            rw [List.getElem?_append_right (Nat.le_refl _)] at hz
            simp at hz
            subst hz
            omega)
          have hwsz := HO.out.size
          clear hz
          go_upto_region 13 with fail
          refine wp_region_rel_late 8 10 10 _ [sayFix (.agg (growA (t : Int) (.slice a5 (G t).length c5))), sayFix (.slice lo L.length cL), sayFix (.int .i64 (t : Int)), sayFix (.int .i64 (m : Int)), sayFix (.slice (if cL = t then lo else lo.map (·.add t)) (m - t) (cL - t)), sayAdd (m : Int) (G m), sayAdd (m : Int) (G m), sayGrow (m : Int) (G m), sayFix (.int .i64 0), sayNewG wr.heap.size] rfl rfl (by kernel_rfl) (by kernel_rfl) (by kernel_rfl) (fun r hr => by
            simp only [List.mem_cons, List.not_mem_nil, or_false] at hr
            rcases hr with rfl | rfl | rfl | rfl | rfl | rfl | rfl | rfl | rfl | rfl <;> first | exact sayFix_mono _ | exact sayAdd_mono _ _ | exact sayGrow_mono _ _ | exact sayNewG_mono _) ?_
          simp only [addEdge, List.take_succ_cons, List.take_zero, List.drop_succ_cons, List.drop_zero, List.zip_cons_cons, List.zip_nil_right]
          refine wpRel_step (fun w hb hG => ?_) (fun v0 => ?_)
          · exact does_run (.agg (growA (t : Int) (.slice a5 (G t).length c5))) (run_ldG gb _ _ _ (hlg.on hb) rfl) rfl
          simp only [Act.put, List.setIfInBounds_toArray, List.set_cons_succ, List.set_cons_zero, Option.getD_some]
          refine wpRel_step (fun w hb hG => ?_) (fun v1 => ?_)
          · exact does_run (.slice lo L.length cL) rfl rfl
          simp only [Act.put, List.setIfInBounds_toArray, List.set_cons_succ, List.set_cons_zero, Option.getD_some]
          refine wpRel_step (fun w hb hG => ?_) (fun v2 => ?_)
          · exact does_run (.int .i64 (t : Int)) rfl rfl
          simp only [Act.put, List.setIfInBounds_toArray, List.set_cons_succ, List.set_cons_zero, Option.getD_some]
          refine wpRel_step (fun w hb hG => ?_) (fun v3 => ?_)
          · exact does_run (.int .i64 (m : Int)) rfl rfl
          simp only [Act.put, List.setIfInBounds_toArray, List.set_cons_succ, List.set_cons_zero, Option.getD_some]
          refine wpRel_step (fun w hb hG => ?_) (fun v4 => ?_)
          · obtain rfl := laid_at 2 hG rfl (by decide)
            obtain rfl := laid_at 1 hG rfl (by decide)
            obtain rfl := laid_at 0 hG rfl (by decide)
            exact does_run (.slice (if cL = t then lo else lo.map (·.add t)) (m - t) (cL - t)) (run_cutS2 lo L.length cL t m htm (Nat.le_trans hmL hcL) rfl rfl rfl w) rfl
          simp only [Act.put, List.setIfInBounds_toArray, List.set_cons_succ, List.set_cons_zero, Option.getD_some]
          refine wpRel_step (fun w hb hG => ?_) (fun v5 => ?_)
          · obtain rfl := laid_at 4 hG rfl (by decide)
            obtain rfl := laid_at 0 hG rfl (by decide)
            exact does_call 20 #[(.agg (growA (t : Int) (.slice a5 (G t).length c5))), (.slice (if cL = t then lo else lo.map (·.add t)) (m - t) (cL - t))] (by kernel_rfl) (HAd.out t m htm hmL w _ _ (HT.out.below (hB.trans (hb.mono hB.size))) (HSg.out.below hb) (strs_cut (HSl.out.below hb) htm hmL))
          simp only [Act.put, List.setIfInBounds_toArray, List.set_cons_succ, List.set_cons_zero, Option.getD_some]
          refine wpRel_step (fun w hb hG => ?_) (fun v6 => ?_)
          · obtain ⟨a2, c2, rfl, hs2⟩ := laid_at 0 hG rfl (by decide)
            exact does_run _ rfl ⟨a2, c2, rfl, hs2⟩
          simp only [Act.put, List.setIfInBounds_toArray, List.set_cons_succ, List.set_cons_zero, Option.getD_some]
          refine wpRel_step (fun w hb hG => ?_) (fun v7 => ?_)
          · obtain ⟨a2, c2, rfl, hs2⟩ := laid_at 0 hG rfl (by decide)
            exact does_run (.agg (growA (m : Int) (.slice a2 (G m).length c2))) (by kernel_rfl) ⟨a2, c2, rfl, hs2⟩
          simp only [Act.put, List.setIfInBounds_toArray, List.set_cons_succ, List.set_cons_zero, Option.getD_some]
          refine wpRel_step (fun w hb hG => ?_) (fun v8 => ?_)
          · obtain ⟨a2, c2, rfl, hs2⟩ := laid_at 1 hG rfl (by decide)
            exact does_run (.int .i64 0) (by kernel_rfl) rfl
          simp only [Act.put, List.setIfInBounds_toArray, List.set_cons_succ, List.set_cons_zero, Option.getD_some]
          refine wpRel_step (fun w hb hG => ?_) (fun v9 => ?_)
          · exact does_made (.pointer (some ⟨w.heap.size, 0, none⟩)) (w' := w.alloc (.cells noA 34)) (by kernel_rfl) (grown_alloc w _) ⟨w.heap.size, rfl, hb.size, Lies.new w _ _⟩
          simp only [Act.put, List.setIfInBounds_toArray, List.set_cons_succ, List.set_cons_zero, Option.getD_some]
          refine wpRel_nil (fun w2 hb hG => ?_)
          obtain ⟨gx, rfl, hggx, hlgx⟩ := hG _ (List.mem_of_getElem? (i := 0) rfl)
          obtain rfl := hG _ (List.mem_of_getElem? (i := 1) rfl)
          obtain ⟨a2, c2, rfl, hs2⟩ := hG _ (List.mem_of_getElem? (i := 2) rfl)
          clear hG
          have hsz0 : gb < gx := Nat.lt_of_lt_of_le hlg.lt hggx
          have hO := (Only.refl w2 gx).row (Or.inl rfl) (growA (m : Int) (.slice a2 (G m).length c2))
          have hl3 := (hlg.on hb).rowFar (g' := gx) (by omega) (growA (m : Int) (.slice a2 (G m).length c2))
          have hS3 := strs_only hs2 hlgx (growA_str _ _ _ _) hO
          have HSl3 := Lib.hid (strs_only (HSl.out.below hb) hlgx (growA_str _ _ _ _) hO)
          have hx3 : Lies (w2.setRow gx (growA (m : Int) (.slice a2 (G m).length c2))) gx 34 (growA (m : Int) (.slice a2 (G m).length c2)) := hlgx.row _
          have HO3 := Lib.hid ((HO.out.on hb).row (k := gx) (Or.inr (Nat.le_trans hwsz hggx)) (growA (m : Int) (.slice a2 (G m).length c2)))
          have hB3 := below_rowSet (below_on hB hb) (g := gx) (by omega) (growA (m : Int) (.slice a2 (G m).length c2))
          clear hlg HSg HSl HO hB hs2 hO hb hwsz hcz hm
          go_upto_region 14 with ((with_reducible refine wpL_store gx 34 noA (growA (m : Int) (.slice a2 (G m).length c2)) 2 rowGrow rfl rfl (growA_one _ _ _ _) hlgx ?_ ?_ ?_); rfl; rfl)
          generalize w2.setRow gx (growA (m : Int) (.slice a2 (G m).length c2)) = w3 at *
          clear hlgx hggx
          go_upto_region 15 with (first
            | ((with_reducible refine wpL_load gx 34 (growA (m : Int) (.slice a2 (G m).length c2)) 2 rowGrow rfl hx3 ?_ ?_); rfl)
            | (go_at_call 21; refine (HSm.out m hmL w3 _ (HT.out.below hB3) hS3).mono ?_; rintro e w5 ⟨rfl, hb5⟩))
          have hl5 := hl3.on hb5
          have hS5 := hS3.below hb5
          have HSl5 := Lib.hid (HSl3.out.below hb5)
          have hx5 := hx3.on hb5
          have HO5 := Lib.hid (HO3.out.on hb5)
          have hB5 := below_on hB3 hb5
          clear hl3 hS3 HSl3 hx3 HO3 hB3 hb5
          go_upto_region 16 with (first
            | ((with_reducible refine wpL_headS lo L.length cL m (Nat.le_trans hmL hcL) hA ?_ ?_ ?_); rfl; rfl)
            | (go_at_call 10; refine (HRo.out m hmL w5 _ (HT.out.below hB5) (strs_first HSl5.out hmL)).mono ?_; rintro e w7 ⟨rfl, hb7⟩))
          have hl7 := hl5.on hb7
          have HSx := Lib.hid (hS5.below hb7)
          have HSl7 := Lib.hid (HSl5.out.below hb7)
          have hx7 := hx5.on hb7
          have HO7 := Lib.hid (HO5.out.on hb7)
          have hB7 := below_on hB5 hb7
          clear hl5 hS5 HSl5 hx5 HO5 hB5 hb7
          have x0 : ∀ w, Below w7.heap.size w7 w → w.cell? ⟨gx, 0, none⟩ = some (.int .i64 (m : Int)) := fun w h => (hx7.on h).cell 0
          have x1 : ∀ w, Below w7.heap.size w7 w → w.cell? ⟨gx, 1, none⟩ = some (.slice a2 (G m).length c2) := fun w h => (hx7.on h).cell 1
          refine wp_held_calm (S := fun w' => Below w7.heap.size w7 w') 31 rfl (by kernel_rfl) ?_
          have hBd : Below w7.heap.size w7 { w7 with drawn := w7.drawn + 1 } := (Below.refl _ _).drew
          generalize ({ w7 with drawn := w7.drawn + 1 } : World) = wd at *
          refine held_put 0 82 (.int .i64 0) rfl rfl (by kernel_rfl) (by kernel_rfl) (by kernel_rfl) (by kernel_rfl) (fun w hS => rfl) hBd ?_
          simp only [List.setIfInBounds_toArray, List.set_cons_succ, List.set_cons_zero]
          refine held_put 1 83 (.bool false) rfl rfl (by kernel_rfl) (by kernel_rfl) (by kernel_rfl) (by kernel_rfl) (fun w hS => by kernel_rfl) hBd ?_
          simp only [List.setIfInBounds_toArray, List.set_cons_succ, List.set_cons_zero]
          refine held_put 2 84 (.bool false) rfl rfl (by kernel_rfl) (by kernel_rfl) (by kernel_rfl) (by kernel_rfl) (fun w hS => rfl) hBd ?_
          simp only [List.setIfInBounds_toArray, List.set_cons_succ, List.set_cons_zero]
          refine held_put 3 85 (.int .i64 0) rfl rfl (by kernel_rfl) (by kernel_rfl) (by kernel_rfl) (by kernel_rfl) (fun w hS => rfl) hBd ?_
          simp only [List.setIfInBounds_toArray, List.set_cons_succ, List.set_cons_zero]
          refine held_put 4 86 (.bool false) rfl rfl (by kernel_rfl) (by kernel_rfl) (by kernel_rfl) (by kernel_rfl) (fun w hS => by kernel_rfl) hBd ?_
          simp only [List.setIfInBounds_toArray, List.set_cons_succ, List.set_cons_zero]
          refine held_put 5 87 (.bool false) rfl rfl (by kernel_rfl) (by kernel_rfl) (by kernel_rfl) (by kernel_rfl) (fun w hS => rfl) hBd ?_
          simp only [List.setIfInBounds_toArray, List.set_cons_succ, List.set_cons_zero]
          refine held_put 6 88 (.bool false) rfl rfl (by kernel_rfl) (by kernel_rfl) (by kernel_rfl) (by kernel_rfl) (fun w hS => rfl) hBd ?_
          simp only [List.setIfInBounds_toArray, List.set_cons_succ, List.set_cons_zero]
          refine held_put 7 89 (.int .i64 0) rfl rfl (by kernel_rfl) (by kernel_rfl) (by kernel_rfl) (by kernel_rfl) (fun w hS => rfl) hBd ?_
          simp only [List.setIfInBounds_toArray, List.set_cons_succ, List.set_cons_zero]
          refine held_put 8 90 (.bool false) rfl rfl (by kernel_rfl) (by kernel_rfl) (by kernel_rfl) (by kernel_rfl) (fun w hS => by kernel_rfl) hBd ?_
          simp only [List.setIfInBounds_toArray, List.set_cons_succ, List.set_cons_zero]
          refine held_put 9 91 (.bool false) rfl rfl (by kernel_rfl) (by kernel_rfl) (by kernel_rfl) (by kernel_rfl) (fun w hS => rfl) hBd ?_
          simp only [List.setIfInBounds_toArray, List.set_cons_succ, List.set_cons_zero]
          refine held_put 10 92 (.bool false) rfl rfl (by kernel_rfl) (by kernel_rfl) (by kernel_rfl) (by kernel_rfl) (fun w hS => rfl) hBd ?_
          simp only [List.setIfInBounds_toArray, List.set_cons_succ, List.set_cons_zero]
          refine held_put 11 93 (.string (bytesOf (R m))) rfl rfl (by kernel_rfl) (by kernel_rfl) (by kernel_rfl) (by kernel_rfl) (fun w hS => rfl) hBd ?_
          simp only [List.setIfInBounds_toArray, List.set_cons_succ, List.set_cons_zero]
          refine held_put 12 94 (.string (bytesOf (R m))) rfl rfl (by kernel_rfl) (by kernel_rfl) (by kernel_rfl) (by kernel_rfl) (fun w hS => rfl) hBd ?_
          simp only [List.setIfInBounds_toArray, List.set_cons_succ, List.set_cons_zero]
          refine held_put 13 95 (.bool false) rfl rfl (by kernel_rfl) (by kernel_rfl) (by kernel_rfl) (by kernel_rfl) (fun w hS => run_neqS (bytesOf (R m)) rfl rfl w) hBd ?_
          simp only [List.setIfInBounds_toArray, List.set_cons_succ, List.set_cons_zero]
          refine held_put 14 96 (.bool false) rfl rfl (by kernel_rfl) (by kernel_rfl) (by kernel_rfl) (by kernel_rfl) (fun w hS => rfl) hBd ?_
          simp only [List.setIfInBounds_toArray, List.set_cons_succ, List.set_cons_zero]
          refine held_put 15 97 (.bool false) rfl rfl (by kernel_rfl) (by kernel_rfl) (by kernel_rfl) (by kernel_rfl) (fun w hS => rfl) hBd ?_
          simp only [List.setIfInBounds_toArray, List.set_cons_succ, List.set_cons_zero]
          refine held_put 16 98 (.pointer (some ⟨gx, 0, none⟩)) rfl rfl (by kernel_rfl) (by kernel_rfl) (by kernel_rfl) (by kernel_rfl) (fun w hS => by kernel_rfl) hBd ?_
          simp only [List.setIfInBounds_toArray, List.set_cons_succ, List.set_cons_zero]
          refine held_put 17 99 (.int .i64 (m : Int)) rfl rfl (by kernel_rfl) (by kernel_rfl) (by kernel_rfl) (by kernel_rfl) (fun w hS => run_ldN ⟨gx, 0, none⟩ _ w (x0 w hS) rfl) hBd ?_
          simp only [List.setIfInBounds_toArray, List.set_cons_succ, List.set_cons_zero]
          refine held_put 18 100 (.int .i64 (m : Int)) rfl rfl (by kernel_rfl) (by kernel_rfl) (by kernel_rfl) (by kernel_rfl) (fun w hS => rfl) hBd ?_
          simp only [List.setIfInBounds_toArray, List.set_cons_succ, List.set_cons_zero]
          refine held_put 19 101 (.bool false) rfl rfl (by kernel_rfl) (by kernel_rfl) (by kernel_rfl) (by kernel_rfl) (fun w hS => run_neqI (m : Int) rfl rfl w) hBd ?_
          simp only [List.setIfInBounds_toArray, List.set_cons_succ, List.set_cons_zero]
          refine held_put 20 102 (.bool false) rfl rfl (by kernel_rfl) (by kernel_rfl) (by kernel_rfl) (by kernel_rfl) (fun w hS => rfl) hBd ?_
          simp only [List.setIfInBounds_toArray, List.set_cons_succ, List.set_cons_zero]
          refine held_put 21 103 (.bool false) rfl rfl (by kernel_rfl) (by kernel_rfl) (by kernel_rfl) (by kernel_rfl) (fun w hS => rfl) hBd ?_
          simp only [List.setIfInBounds_toArray, List.set_cons_succ, List.set_cons_zero]
          refine held_put 22 104 (.pointer (some ⟨gx, 1, none⟩)) rfl rfl (by kernel_rfl) (by kernel_rfl) (by kernel_rfl) (by kernel_rfl) (fun w hS => by kernel_rfl) hBd ?_
          simp only [List.setIfInBounds_toArray, List.set_cons_succ, List.set_cons_zero]
          refine held_put 23 105 (.slice a2 (G m).length c2) rfl rfl (by kernel_rfl) (by kernel_rfl) (by kernel_rfl) (by kernel_rfl) (fun w hS => run_ldR ⟨gx, 1, none⟩ _ w (x1 w hS) rfl) hBd ?_
          simp only [List.setIfInBounds_toArray, List.set_cons_succ, List.set_cons_zero]
          refine held_put 24 106 (.slice lo L.length cL) rfl rfl (by kernel_rfl) (by kernel_rfl) (by kernel_rfl) (by kernel_rfl) (fun w hS => rfl) hBd ?_
          simp only [List.setIfInBounds_toArray, List.set_cons_succ, List.set_cons_zero]
          refine held_put 25 107 (.int .i64 (m : Int)) rfl rfl (by kernel_rfl) (by kernel_rfl) (by kernel_rfl) (by kernel_rfl) (fun w hS => rfl) hBd ?_
          simp only [List.setIfInBounds_toArray, List.set_cons_succ, List.set_cons_zero]
          refine held_put 26 108 (.slice lo m cL) rfl rfl (by kernel_rfl) (by kernel_rfl) (by kernel_rfl) (by kernel_rfl) (fun w hS => run_headS lo L.length cL m (Nat.le_trans hmL hcL) hA rfl rfl w) hBd ?_
          simp only [List.setIfInBounds_toArray, List.set_cons_succ, List.set_cons_zero]
          refine held_one 27 (by kernel_rfl) (wpOp_call 109 rfl rfl (by kernel_rfl) (by kernel_rfl) ((HPa.out m hmL _ _ (strs_first (HSl7.out.below hBd) hmL)).mono ?_))
          rintro e w8 ⟨v8, rfl, hb8, hs8⟩
          have hB8 := below_on hBd hb8
          refine ⟨v8, rfl, hB8, ?_⟩
          simp only [List.setIfInBounds_toArray, List.set_cons_succ, List.set_cons_zero]
          refine held_one 28 (by kernel_rfl) (wpOp_call 110 rfl rfl (by kernel_rfl) (by kernel_rfl) ((same_any w8 _ _ (G m) (G m) (HSx.out.below hB8) hs8).mono ?_))
          rintro e w9 ⟨rfl, hb9⟩
          have hB9 := below_on hB8 hb9
          refine ⟨_, rfl, hB9, ?_⟩
          rw [show decide (G m = G m) = true from decide_eq_true rfl]
          simp only [List.setIfInBounds_toArray, List.set_cons_succ, List.set_cons_zero]
          refine held_one 29 (by kernel_rfl) (wpOp_put 111 (v := .bool false) rfl rfl (by kernel_rfl) (by kernel_rfl) ⟨hB9, ?_⟩)
          simp only [List.setIfInBounds_toArray, List.set_cons_succ, List.set_cons_zero]
          refine held_one 30 (by kernel_rfl) (wpOp_put 112 (v := .bool false) rfl rfl (by kernel_rfl) (by kernel_rfl) ⟨hB9, ?_⟩)
          simp only [List.setIfInBounds_toArray, List.set_cons_succ, List.set_cons_zero]
          refine held_done (by kernel_rfl) ?_
          have hl9 := hl7.on hB9
          have hx9 := hx7.on hB9
          have hS9 := HSx.out.below hB9
          have HO9 := Lib.hid (HO7.out.on hB9)
          have hB9' := below_on hB7 hB9
          clear hl7 hx7 HSx HO7 HSl7 x0 x1 hb8 hb9 hs8 hB8 hBd
          go_wp2_with (first
            | ((with_reducible refine wpL_load gx 34 (growA (m : Int) (.slice a2 (G m).length c2)) 2 rowGrow rfl hx9 ?_ ?_); rfl)
            | ((with_reducible refine wpL_store gb 34 (growA (t : Int) (.slice a5 (G t).length c5)) (growA (m : Int) (.slice a2 (G m).length c2)) 2 rowGrow rfl rfl (growA_one _ _ _ _) hl9 ?_ ?_ ?_); rfl; rfl))
          have hO := (Only.refl w9 gb).row (Or.inl rfl) (growA (m : Int) (.slice a2 (G m).length c2))
          go_roundw
          case rel => exact ⟨k2 + 1, m, a2, c2, by omega, hmL, HE2, by go_num, rfl, hl9.row _, Lib.hid (strs_only hS9 hl9 (growA_str _ _ _ _) hO), Lib.hid (HO9.out.row (Or.inl rfl) _), below_rowSet hB9' (by omega) _⟩
          case measure => simp [intOf]; omega
        · obtain rfl : k2 = ys.length + 1 := by omega
          obtain rfl : t = L.length := HE.out rfl
          have q0 := hlg.cell 0
          simp only [growA, List.getElem?_toArray, List.getElem?_cons_zero] at q0
          clear HSg HO hlg
          go_wp2_with (go_at_call 17; refine (HAl.out _ hB).mono ?_; rintro e w2 ⟨rfl, hb2⟩; replace q0 := (hb2.cell (World.block_lt_of_cell? _ _ q0)).trans q0)
          go_ret
          exact ⟨rfl, below_on hB hb2⟩
end Go.Proofs.YtakmlmgffgoecaaDoor.R
