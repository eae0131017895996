/- The contract of the reference's Sum. -/
import Derived.Test.YtfleimaoaicolaaDoorLot12
namespace Go.Proofs.YtfleimaoaicolaaDoor.C
open Go.RowKit Go.Sort Go.Proofs.YtfleimaoaicolaaDoor.F
set_option maxRecDepth 100000

theorem sum_vals (P Q : Pt) : ((P.x.val * Q.y.val % p25 + Q.x.val * P.y.val % p25) % p25 * invN ((1 + dN * (P.x.val * Q.x.val % p25 * (P.y.val * Q.y.val % p25) % p25) % p25) % p25) % p25 = (P.add Q).x.val) ∧
    ((P.y.val * Q.y.val % p25 + P.x.val * Q.x.val % p25) % p25 * invN ((1 + (p25 - dN * (P.x.val * Q.x.val % p25 * (P.y.val * Q.y.val % p25) % p25) % p25 % p25)) % p25) % p25 = (P.add Q).y.val) := by
  unfold Pt.add Pt.k kk
  constructor
  · rw [← val_mod]
    congr 1
    simp only [z_mod, z_mul, z_add, z_inv, z_one, z_dN, z_back]
  · rw [← val_mod]
    congr 1
    simp only [z_mod, z_mul, z_add, z_neg, z_inv, z_one, z_dN, z_back, z_less]
attribute [local irreducible] feA

set_option maxHeartbeats 1600000 in
theorem refSum_any (P Q : Pt) (W : World) :
    Calls Tryd.prog 23 #[af P.x.val P.y.val, af Q.x.val Q.y.val] W fun e w' => e = .returned (af (P.add Q).x.val (P.add Q).y.val) ∧ Below W.heap.size W w' := by
  obtain ⟨hsx, hsy⟩ := sum_vals P Q
  have k1 := below_K P.x.isLt
  have k2 := below_K P.y.isLt
  have k3 := below_K Q.x.isLt
  have k4 := below_K Q.y.isLt
  generalize (P.add Q).x.val = sx at *
  generalize (P.add Q).y.val = sy at *
  generalize P.x.val = x1 at *
  generalize P.y.val = y1 at *
  generalize Q.x.val = x2 at *
  generalize Q.y.val = y2 at *
  have H1 := Lib.hid (fun w => refMul_any x1 y2 w k1 k4)
  have H2 := Lib.hid (fun w => refMul_any x2 y1 w k3 k2)
  have H3 := Lib.hid (fun w => refMul_any y1 y2 w k2 k4)
  have H4 := Lib.hid (fun w => refMul_any x1 x2 w k1 k3)
  have kxv := mod_K (x1 * y2)
  have kuy := mod_K (x2 * y1)
  have kyv := mod_K (y1 * y2)
  have kxu := mod_K (x1 * x2)
  generalize x1 * y2 % p25 = xv at *
  generalize x2 * y1 % p25 = uy at *
  generalize y1 * y2 % p25 = yv at *
  generalize x1 * x2 % p25 = xu at *
  have H5 := Lib.hid (fun w => refMul_any xu yv w kxu kyv)
  have kpr := mod_K (xu * yv)
  generalize xu * yv % p25 = pr at *
  have H6 := Lib.hid (fun w => refMul_any dN pr w (by decide) kpr)
  have kal := mod_K (dN * pr)
  generalize dN * pr % p25 = al at *
  have HD := Lib.hid (fun w => refD_any w)
  generalize dN = D at *
  have H7 := Lib.hid (fun w => refAdd_any xv uy w kxv kuy)
  have H8 := Lib.hid (fun w => refAdd_any 1 al w (by decide) kal)
  have H9 := Lib.hid (fun w => refAdd_any yv xu w kyv kxu)
  have H10 := Lib.hid (fun w => refSub_any 1 al w (by decide) kal)
  have ka := mod_K (xv + uy)
  have kb := mod_K (1 + al)
  have kc := mod_K (yv + xu)
  have kd := mod_K (1 + (p25 - al % p25))
  generalize (xv + uy) % p25 = na at *
  generalize (1 + al) % p25 = nb at *
  generalize (yv + xu) % p25 = nc at *
  generalize (1 + (p25 - al % p25)) % p25 = nd at *
  have H11 := Lib.hid (fun w => refInv_any nb w kb)
  have H12 := Lib.hid (fun w => refInv_any nd w kd)
  have H13 := Lib.hid (fun w => refMul_any na (invN nb) w ka (below_K (invN_lt _)))
  have H14 := Lib.hid (fun w => refMul_any nc (invN nd) w kc (below_K (invN_lt _)))
  rw [hsx] at H13
  rw [hsy] at H14
  generalize invN nb = ib at *
  generalize invN nd = id' at *
  clear hsx hsy k1 k2 k3 k4 kxv kuy kyv kxu kpr kal ka kb kc kd
  have hf1 : (.agg #[.int .u64 1, .int .u64 0, .int .u64 0, .int .u64 0] : Value) = fe 1 := fe_small 1 (by decide)
  have hf1A : (#[.int .u64 1, .int .u64 0, .int .u64 0, .int .u64 0] : Array Value) = feA 1 := by injection hf1
  have HF1 := Lib.hid hf1A
  clear hf1 hf1A
  go_enter Tryd.func23, Tryd.ntmps23
  have hp := ((Lies.new W 31 (afA x1 y1)).alloc (.cells (afA x2 y2) 31)).alloc (.cells af0A 31)
  have hq : Lies ((W.alloc (.cells (afA x1 y1) 31)).alloc (.cells (afA x2 y2) 31)) (W.heap.size + 1) 31 (afA x2 y2) := heap_alloc2_new W _ _
  replace hq := hq.alloc (.cells af0A 31)
  have hr := lies3 W (.cells (afA x1 y1) 31) (.cells (afA x2 y2) 31) 31 af0A
  have hB := (((Below.refl W.heap.size W).alloc (Nat.le_refl _) (.cells (afA x1 y1) 31)).alloc (by simp) (.cells (afA x2 y2) 31)).alloc (by simp; omega) (.cells af0A 31)
  go_upto_region 1 with fail
  generalize World.alloc (World.alloc (World.alloc W _) _) _ = w0 at *
  go_upto_region 2 with (first
    | ((with_reducible refine wpL_loadMid (W.heap.size) 0 (feA x1).toList 4 rowFe (by rw [Array.length_toList]; exact feA_size _) (af_X hp) ?_ ?_); rfl; rw [Array.toArray_toList])
    | ((with_reducible refine wpL_loadMid (W.heap.size + 1) 4 (feA y2).toList 4 rowFe (by rw [Array.length_toList]; exact feA_size _) (af_Y hq) ?_ ?_); rfl; rw [Array.toArray_toList])
    | (go_at_call 34; (with_reducible refine (H1.out _).mono ?_); rintro e u1 ⟨rfl, hb⟩; replace hp := hp.on hb; replace hq := hq.on hb; replace hr := hr.on hb; replace hB := below_on hB hb; clear hb)
    | ((with_reducible refine wpL_store u1.heap.size 24 _ (feA xv) 4 rowFe ?_ (feA_size _) (feA_one _) (Lies.new u1 _ _) ?_ ?_ ?_); rfl; rfl; rfl))
  have zxv := newly_lies u1 24 fe0A (feA xv)
  have hnw := newly u1 (.cells fe0A 24) (feA xv)
  replace hp := hp.on hnw
  replace hq := hq.on hnw
  replace hr := hr.on hnw
  replace hB := below_on hB hnw
  clear hnw
  generalize World.setRow _ _ _ = w1 at *
  generalize u1.heap.size = gzxv at *
  go_upto_region 3 with (first
    | ((with_reducible refine wpL_loadMid (W.heap.size + 1) 0 (feA x2).toList 4 rowFe (by rw [Array.length_toList]; exact feA_size _) (af_X hq) ?_ ?_); rfl; rw [Array.toArray_toList])
    | ((with_reducible refine wpL_loadMid (W.heap.size) 4 (feA y1).toList 4 rowFe (by rw [Array.length_toList]; exact feA_size _) (af_Y hp) ?_ ?_); rfl; rw [Array.toArray_toList])
    | (go_at_call 34; (with_reducible refine (H2.out _).mono ?_); rintro e u2 ⟨rfl, hb⟩; replace hp := hp.on hb; replace hq := hq.on hb; replace hr := hr.on hb; replace zxv := zxv.on hb; replace hB := below_on hB hb; clear hb)
    | ((with_reducible refine wpL_store u2.heap.size 24 _ (feA uy) 4 rowFe ?_ (feA_size _) (feA_one _) (Lies.new u2 _ _) ?_ ?_ ?_); rfl; rfl; rfl))
  have zuy := newly_lies u2 24 fe0A (feA uy)
  have hnw := newly u2 (.cells fe0A 24) (feA uy)
  replace hp := hp.on hnw
  replace hq := hq.on hnw
  replace hr := hr.on hnw
  replace zxv := zxv.on hnw
  replace hB := below_on hB hnw
  clear hnw
  generalize World.setRow _ _ _ = w2 at *
  generalize u2.heap.size = gzuy at *
  go_upto_region 4 with (first
    | ((with_reducible refine wpL_loadMid (W.heap.size) 4 (feA y1).toList 4 rowFe (by rw [Array.length_toList]; exact feA_size _) (af_Y hp) ?_ ?_); rfl; rw [Array.toArray_toList])
    | ((with_reducible refine wpL_loadMid (W.heap.size + 1) 4 (feA y2).toList 4 rowFe (by rw [Array.length_toList]; exact feA_size _) (af_Y hq) ?_ ?_); rfl; rw [Array.toArray_toList])
    | (go_at_call 34; (with_reducible refine (H3.out _).mono ?_); rintro e u3 ⟨rfl, hb⟩; replace hp := hp.on hb; replace hq := hq.on hb; replace hr := hr.on hb; replace zxv := zxv.on hb; replace zuy := zuy.on hb; replace hB := below_on hB hb; clear hb)
    | ((with_reducible refine wpL_store u3.heap.size 24 _ (feA yv) 4 rowFe ?_ (feA_size _) (feA_one _) (Lies.new u3 _ _) ?_ ?_ ?_); rfl; rfl; rfl))
  have zyv := newly_lies u3 24 fe0A (feA yv)
  have hnw := newly u3 (.cells fe0A 24) (feA yv)
  replace hp := hp.on hnw
  replace hq := hq.on hnw
  replace hr := hr.on hnw
  replace zxv := zxv.on hnw
  replace zuy := zuy.on hnw
  replace hB := below_on hB hnw
  clear hnw
  generalize World.setRow _ _ _ = w3 at *
  generalize u3.heap.size = gzyv at *
  go_upto_region 5 with (first
    | ((with_reducible refine wpL_loadMid (W.heap.size) 0 (feA x1).toList 4 rowFe (by rw [Array.length_toList]; exact feA_size _) (af_X hp) ?_ ?_); rfl; rw [Array.toArray_toList])
    | ((with_reducible refine wpL_loadMid (W.heap.size + 1) 0 (feA x2).toList 4 rowFe (by rw [Array.length_toList]; exact feA_size _) (af_X hq) ?_ ?_); rfl; rw [Array.toArray_toList])
    | (go_at_call 34; (with_reducible refine (H4.out _).mono ?_); rintro e u4 ⟨rfl, hb⟩; replace hp := hp.on hb; replace hq := hq.on hb; replace hr := hr.on hb; replace zxv := zxv.on hb; replace zuy := zuy.on hb; replace zyv := zyv.on hb; replace hB := below_on hB hb; clear hb)
    | ((with_reducible refine wpL_store u4.heap.size 24 _ (feA xu) 4 rowFe ?_ (feA_size _) (feA_one _) (Lies.new u4 _ _) ?_ ?_ ?_); rfl; rfl; rfl))
  have zxu := newly_lies u4 24 fe0A (feA xu)
  have hnw := newly u4 (.cells fe0A 24) (feA xu)
  replace hp := hp.on hnw
  replace hq := hq.on hnw
  replace hr := hr.on hnw
  replace zxv := zxv.on hnw
  replace zuy := zuy.on hnw
  replace zyv := zyv.on hnw
  replace hB := below_on hB hnw
  clear hnw
  generalize World.setRow _ _ _ = w4 at *
  generalize u4.heap.size = gzxu at *
  refine wp_region_made 5 9 _ 24 fe0A rfl rfl (by kernel_rfl) (by kernel_rfl) (alloc_fe rfl) ?_
  simp only [List.take_succ_cons, List.take_zero, List.drop_succ_cons, List.drop_zero]
  refine wpQB_call 36 #[] (fe D) rfl rfl (fun _ => by kernel_rfl) (fun w _ => HD.out w) ?_
  simp only [Act.put, List.setIfInBounds_toArray, List.set_cons_succ, List.set_cons_zero]
  refine wpQB_fe (gzxu) xu zxu rfl ?_
  simp only [Act.put, List.setIfInBounds_toArray, List.set_cons_succ, List.set_cons_zero]
  refine wpQB_fe (gzyv) yv zyv rfl ?_
  simp only [Act.put, List.setIfInBounds_toArray, List.set_cons_succ, List.set_cons_zero]
  refine wpQB_call 34 #[fe xu, fe yv] (fe pr) rfl rfl (fun _ => by kernel_rfl) (fun w _ => H5.out w) ?_
  simp only [Act.put, List.setIfInBounds_toArray, List.set_cons_succ, List.set_cons_zero]
  refine wpQB_call 34 #[fe D, fe pr] (fe al) rfl rfl (fun _ => by kernel_rfl) (fun w _ => H6.out w) ?_
  simp only [Act.put, List.setIfInBounds_toArray, List.set_cons_succ, List.set_cons_zero]
  refine wpQB_nil ?_
  intro k w5 hb hk hy3
  simp only [List.setIfInBounds_toArray, List.set_cons_succ, List.set_cons_zero]
  replace hy3 : Lies w5 k 24 fe0A := hy3
  have lhr := hr.lt
  have lzxv := zxv.lt
  have lzuy := zuy.lt
  have lzyv := zyv.lt
  have lzxu := zxu.lt
  replace hr := (hr.on hb).rowFar (show W.heap.size + 2 ≠ k by omega) (feA al)
  replace zxv := (zxv.on hb).rowFar (show gzxv ≠ k by omega) (feA al)
  replace zuy := (zuy.on hb).rowFar (show gzuy ≠ k by omega) (feA al)
  replace zyv := (zyv.on hb).rowFar (show gzyv ≠ k by omega) (feA al)
  replace zxu := (zxu.on hb).rowFar (show gzxu ≠ k by omega) (feA al)
  have lhB := hB.size
  replace hB := below_rowSet (below_on hB hb) (show W.heap.size ≤ k by omega) (feA al)
  have zal := hy3.row (feA al)
  clear hb hp hq lhr lzxv lzuy lzyv lzxu lhB
  go_upto_region 6 with ((with_reducible refine wpL_store k 24 _ (feA al) 4 rowFe rfl (feA_size _) (feA_one _) hy3 ?_ ?_ ?_); rfl; rfl)
  clear hy3
  generalize World.setRow _ _ _ = w6 at *
  have zon := newly_lies w6 24 fe0A #[.int .u64 1, .int .u64 0, .int .u64 0, .int .u64 0]
  have hnw := newly w6 (.cells fe0A 24) #[.int .u64 1, .int .u64 0, .int .u64 0, .int .u64 0]
  replace hr := hr.on hnw
  replace zxv := zxv.on hnw
  replace zuy := zuy.on hnw
  replace zyv := zyv.on hnw
  replace zxu := zxu.on hnw
  replace zal := zal.on hnw
  replace hB := below_on hB hnw
  clear hnw
  go_upto_region 7 with ((with_reducible refine wpL_store w6.heap.size 24 _ #[.int .u64 1, .int .u64 0, .int .u64 0, .int .u64 0] 4 rowFe ?_ rfl (by unfold Ones; simp [Value.oneCell']) (Lies.new w6 _ _) ?_ ?_ ?_); rfl; rfl; rfl)
  generalize World.setRow _ _ _ = w7 at *
  generalize w6.heap.size = gzon at *
  rw [HF1.out] at zon
  refine wp_region_plain 17 (by kernel_rfl) (by kernel_rfl) ?_
  simp only [List.take_succ_cons, List.take_zero, List.drop_succ_cons, List.drop_zero]
  refine wpQB_fe (gzxv) xv zxv rfl ?_
  simp only [Act.put, List.setIfInBounds_toArray, List.set_cons_succ, List.set_cons_zero]
  refine wpQB_fe (gzuy) uy zuy rfl ?_
  simp only [Act.put, List.setIfInBounds_toArray, List.set_cons_succ, List.set_cons_zero]
  refine wpQB_call 48 #[fe xv, fe uy] (fe na) rfl rfl (fun _ => by kernel_rfl) (fun w _ => H7.out w) ?_
  simp only [Act.put, List.setIfInBounds_toArray, List.set_cons_succ, List.set_cons_zero]
  refine wpQB_fe (gzon) 1 zon rfl ?_
  simp only [Act.put, List.setIfInBounds_toArray, List.set_cons_succ, List.set_cons_zero]
  refine wpQB_fe (k) al zal rfl ?_
  simp only [Act.put, List.setIfInBounds_toArray, List.set_cons_succ, List.set_cons_zero]
  refine wpQB_call 48 #[fe 1, fe al] (fe nb) rfl rfl (fun _ => by kernel_rfl) (fun w _ => H8.out w) ?_
  simp only [Act.put, List.setIfInBounds_toArray, List.set_cons_succ, List.set_cons_zero]
  refine wpQB_call 37 #[fe nb] (fe ib) rfl rfl (fun _ => by kernel_rfl) (fun w _ => H11.out w) ?_
  simp only [Act.put, List.setIfInBounds_toArray, List.set_cons_succ, List.set_cons_zero]
  refine wpQB_call 34 #[fe na, fe ib] (fe sx) rfl rfl (fun _ => by kernel_rfl) (fun w _ => H13.out w) ?_
  simp only [Act.put, List.setIfInBounds_toArray, List.set_cons_succ, List.set_cons_zero]
  refine wpQB_fe (gzyv) yv zyv rfl ?_
  simp only [Act.put, List.setIfInBounds_toArray, List.set_cons_succ, List.set_cons_zero]
  refine wpQB_fe (gzxu) xu zxu rfl ?_
  simp only [Act.put, List.setIfInBounds_toArray, List.set_cons_succ, List.set_cons_zero]
  refine wpQB_call 48 #[fe yv, fe xu] (fe nc) rfl rfl (fun _ => by kernel_rfl) (fun w _ => H9.out w) ?_
  simp only [Act.put, List.setIfInBounds_toArray, List.set_cons_succ, List.set_cons_zero]
  refine wpQB_fe (gzon) 1 zon rfl ?_
  simp only [Act.put, List.setIfInBounds_toArray, List.set_cons_succ, List.set_cons_zero]
  refine wpQB_fe (k) al zal rfl ?_
  simp only [Act.put, List.setIfInBounds_toArray, List.set_cons_succ, List.set_cons_zero]
  refine wpQB_call 49 #[fe 1, fe al] (fe nd) rfl rfl (fun _ => by kernel_rfl) (fun w _ => H10.out w) ?_
  simp only [Act.put, List.setIfInBounds_toArray, List.set_cons_succ, List.set_cons_zero]
  refine wpQB_call 37 #[fe nd] (fe id') rfl rfl (fun _ => by kernel_rfl) (fun w _ => H12.out w) ?_
  simp only [Act.put, List.setIfInBounds_toArray, List.set_cons_succ, List.set_cons_zero]
  refine wpQB_call 34 #[fe nc, fe id'] (fe sy) rfl rfl (fun _ => by kernel_rfl) (fun w _ => H14.out w) ?_
  simp only [Act.put, List.setIfInBounds_toArray, List.set_cons_succ, List.set_cons_zero]
  refine wpQB_run (af sx sy) rfl (fun _ _ => by kernel_rfl) ?_
  simp only [Act.put, List.setIfInBounds_toArray, List.set_cons_succ, List.set_cons_zero]
  refine wpQB_nil ?_
  intro w8 hb
  replace hr := hr.on hb
  replace hB := below_on hB hb
  clear hb
  go_wp2_with ((with_reducible refine wpL_store (W.heap.size + 1 + 1) 31 _ (afA sx sy) 8 rowAf rfl (afA_size _ _) (afA_one _ _) hr ?_ ?_ ?_); rfl; rfl)
  exact bodyPost_ret (results_row Tryd.results23 rowAf (afA_size _ _) (hr.row _) rfl) rfl ⟨rfl, below_rowSet hB (by omega) _⟩
end Go.Proofs.YtfleimaoaicolaaDoor.C
