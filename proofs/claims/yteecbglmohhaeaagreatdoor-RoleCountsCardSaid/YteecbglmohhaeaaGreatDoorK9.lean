import Derived.Test.YteecbglmohhaeaaGreatDoorK8
set_option maxRecDepth 100000
open List renaming append_assoc → zBL, append_nil → zB6, drop_eq_getElem_cons → zAS, drop_of_length_le → zAW, drop_succ_cons → zAA, drop_zero → zAH, getD_eq_getElem?_getD → zA4, getElem?_eq_getElem → zA5, length_cons → zB7, mem_cons → zCK, mem_of_getElem? → zAU, nil_append → zBU, replicate_zero → zCE, setIfInBounds_toArray → zA0, set_append_right → zBV, set_cons_succ → zA2, set_cons_zero → zA1, take_succ_cons → zA8, take_zero → zAJ
open Nat renaming add_mul_mod_self_left → zAX, div_div_eq_div_mul → zB5, div_le_self → zB9, le_refl → zA3, le_succ → zBP, lt_of_le_of_lt → zBB, mod_eq_of_lt → zAB, mod_lt → zAO, mul_assoc → zAY, mul_comm → zAV, pow_add → zBI, pow_mul → zC1, sub_self → zB8
open Array renaming length_toList → zAC, toArray_toList → zAK
open Option renaming getD_some → zAE
open Bool renaming true_and → zC7
open Int renaming natCast_ediv → zBH, natCast_pow → zC4, tdiv_eq_ediv_of_nonneg → zB3, tmod_eq_emod_of_nonneg → zBK
open UInt8 renaming toNat_ofNat' → zBG
namespace Go.Proofs.YteecbglmohhaeaaGreatDoor.C
open Go.RowKit Go.Sort Go.Proofs.YteecbglmohhaeaaGreatDoor.F
attribute [local irreducible] feA ptA
set_option maxHeartbeats 3200000 in
theorem wplus_any (F:FieldOk) (u v:N4) (hu:u.Lt) (hv:v.Lt) (W:World) (hT:PtTab W) :
   Calls Tryz.prog 106 #[pt u,pt v] W fun e w' => e = .returned (pt (plusN u v)) ∧ Below W.heap.size W w':=by
 have hT0:=Lib.hid hT
 have hres:plusN u v = ⟨pxN u v * puyN u v % p25,pyN u v * puxN u v % p25,puxN u v * puyN u v % p25,pxN u v * pyN u v % p25⟩:=rfl
 unfold pxN pyN puxN puyN poN prN at hres
 have HD:Hid (∀ w,PtTab w → w.rangeAt 1 0 (feA dN).toList):=Lib.hid (fun w h => h.2.1.root)
 have kD:dN < K256:=by decide
 generalize dN = D at *
 have Hxa:=Lib.hid (fun w hT => F.mul u.X v.Y w hu.X hv.Y hT)
 have kxa:=mod_K (u.X * v.Y)
 generalize u.X * v.Y % p25 = xa at *
 have Hxb:=Lib.hid (fun w hT => F.mul v.X u.Y w hv.X hu.Y hT)
 have kxb:=mod_K (v.X * u.Y)
 generalize v.X * u.Y % p25 = xb at *
 have Hex:=Lib.hid (fun w hT => F.add xa xb w kxa kxb hT)
 have kex:=mod_K (xa + xb)
 generalize (xa + xb) % p25 = ex at *
 have Hya:=Lib.hid (fun w hT => F.mul u.Y v.Y w hu.Y hv.Y hT)
 have kya:=mod_K (u.Y * v.Y)
 generalize u.Y * v.Y % p25 = ya at *
 have Hyb:=Lib.hid (fun w hT => F.mul u.X v.X w hu.X hv.X hT)
 have kyb:=mod_K (u.X * v.X)
 generalize u.X * v.X % p25 = yb at *
 have Hey:=Lib.hid (fun w hT => F.add ya yb w kya kyb hT)
 have key:=mod_K (ya + yb)
 generalize (ya + yb) % p25 = ey at *
 have Hon:=Lib.hid (fun w hT => F.mul u.Z v.Z w hu.Z hv.Z hT)
 have kon:=mod_K (u.Z * v.Z)
 generalize u.Z * v.Z % p25 = on at *
 have Htt:=Lib.hid (fun w hT => F.mul u.T v.T w hu.T hv.T hT)
 have ktt:=mod_K (u.T * v.T)
 generalize u.T * v.T % p25 = tt at *
 have Hre:=Lib.hid (fun w hT => F.mul D tt w kD ktt hT)
 have kre:=mod_K (D * tt)
 generalize D * tt % p25 = re at *
 have Hux:=Lib.hid (fun w hT => F.add on re w kon kre hT)
 have kux:=mod_K (on + re)
 generalize (on + re) % p25 = ux at *
 have Huy:=Lib.hid (fun w hT => F.sub on re w kon kre hT)
 have kuy:=mod_K (on + (p25 - re % p25))
 generalize (on + (p25 - re % p25)) % p25 = uy at *
 have HrX:=Lib.hid (fun w hT => F.mul ex uy w kex kuy hT)
 have krX:=mod_K (ex * uy)
 generalize ex * uy % p25 = rX at *
 have HrY:=Lib.hid (fun w hT => F.mul ey ux w key kux hT)
 have krY:=mod_K (ey * ux)
 generalize ey * ux % p25 = rY at *
 have HrZ:=Lib.hid (fun w hT => F.mul ux uy w kux kuy hT)
 have krZ:=mod_K (ux * uy)
 generalize ux * uy % p25 = rZ at *
 have HrT:=Lib.hid (fun w hT => F.mul ex ey w kex key hT)
 have krT:=mod_K (ex * ey)
 generalize ex * ey % p25 = rT at *
 rw [hres]
 generalize hvv:(⟨rX,rY,rZ,rT⟩:N4) = r at *
 have hb1:pt r = .agg (feA rX ++ feA rY ++ feA rZ ++ feA rT):=by rw [← hvv]; exact ptIs _
 clear hres hvv hT hu hv kD kxa kxb kex kya kyb key kon ktt kre kux kuy krX krY krZ krT
 go_enter Tryz.func106,Tryz.ntmps106
 have hp:=((Lies.new W 151 (ptA u)).alloc (.cells (ptA v) 151)).alloc (.cells z16P 151)
 have hq:Lies ((W.alloc (.cells (ptA u) 151)).alloc (.cells (ptA v) 151)) (W.heap.size + 1) 151 (ptA v):=heap_alloc2_new W _ _
 replace hq:=hq.alloc (.cells z16P 151)
 have hr:=lies3 W (.cells (ptA u) 151) (.cells (ptA v) 151) 151 z16P
 have hB:=(((Below.refl W.heap.size W).alloc (zA3 _) (.cells (ptA u) 151)).alloc (by simp) (.cells (ptA v) 151)).alloc (by simp; omega) (.cells z16P 151)
 go_upto_region 1 with fail
 generalize World.alloc (World.alloc (World.alloc W _) _) _ = w0 at *
 have hT:=(hT0.out.on hB).f
 have hpX:=pt_X hp
 have hpY:=pt_Y hp
 have hpZ:=pt_Z hp
 have hpT:=pt_T hp
 have hqX:=pt_X hq
 have hqY:=pt_Y hq
 have hqZ:=pt_Z hq
 have hqT:=pt_T hq
 refine wp_region_made 15 5 _ 72 fe0A rfl rfl (by kernel_rfl) (by kernel_rfl) (alloc_fe rfl) ?_
 simp only [zA8,zAJ,zAA,zAH]
 refine wpQB_run (.pointer (some ⟨W.heap.size,0,none⟩)) rfl (fun _ _ => by kernel_rfl) ?_
 simp only [Act.put,zA0,zA2,zA1]
 refine wpQB_run (.pointer (some ⟨W.heap.size,0,none⟩)) rfl (fun _ _ => by kernel_rfl) ?_
 simp only [Act.put,zA0,zA2,zA1]
 refine wpQB_mid (W.heap.size) 0 u.X hpX rfl ?_
 simp only [Act.put,zA0,zA2,zA1]
 refine wpQB_run (.pointer (some ⟨W.heap.size + 1,0,none⟩)) rfl (fun _ _ => by kernel_rfl) ?_
 simp only [Act.put,zA0,zA2,zA1]
 refine wpQB_run (.pointer (some ⟨W.heap.size + 1,4,none⟩)) rfl (fun _ _ => by kernel_rfl) ?_
 simp only [Act.put,zA0,zA2,zA1]
 refine wpQB_mid (W.heap.size + 1) 4 v.Y hqY rfl ?_
 simp only [Act.put,zA0,zA2,zA1]
 refine wpQB_call 94 #[fe u.X,fe v.Y] (fe xa) rfl rfl (fun _ => by kernel_rfl) (fun w hb => Hxa.out w (hT.on hb)) ?_
 simp only [Act.put,zA0,zA2,zA1]
 refine wpQB_run (.pointer (some ⟨W.heap.size + 1,0,none⟩)) rfl (fun _ _ => by kernel_rfl) ?_
 simp only [Act.put,zA0,zA2,zA1]
 refine wpQB_run (.pointer (some ⟨W.heap.size + 1,0,none⟩)) rfl (fun _ _ => by kernel_rfl) ?_
 simp only [Act.put,zA0,zA2,zA1]
 refine wpQB_mid (W.heap.size + 1) 0 v.X hqX rfl ?_
 simp only [Act.put,zA0,zA2,zA1]
 refine wpQB_run (.pointer (some ⟨W.heap.size,0,none⟩)) rfl (fun _ _ => by kernel_rfl) ?_
 simp only [Act.put,zA0,zA2,zA1]
 refine wpQB_run (.pointer (some ⟨W.heap.size,4,none⟩)) rfl (fun _ _ => by kernel_rfl) ?_
 simp only [Act.put,zA0,zA2,zA1]
 refine wpQB_mid (W.heap.size) 4 u.Y hpY rfl ?_
 simp only [Act.put,zA0,zA2,zA1]
 refine wpQB_call 94 #[fe v.X,fe u.Y] (fe xb) rfl rfl (fun _ => by kernel_rfl) (fun w hb => Hxb.out w (hT.on hb)) ?_
 simp only [Act.put,zA0,zA2,zA1]
 refine wpQB_call 97 #[fe xa,fe xb] (fe ex) rfl rfl (fun _ => by kernel_rfl) (fun w hb => Hex.out w (hT.on hb)) ?_
 simp only [Act.put,zA0,zA2,zA1]
 refine wpQB_nil ?_
 intro gex w1 hb hk hy
 simp only [zA0,zA2,zA1]
 replace hy:Lies w1 gex 72 fe0A:=hy
 have hl:=hp.lt
 replace hp:=(hp.on hb).rowFar (show W.heap.size ≠ gex by omega) (feA ex)
 clear hl
 have hl:=hq.lt
 replace hq:=(hq.on hb).rowFar (show W.heap.size + 1 ≠ gex by omega) (feA ex)
 clear hl
 have hl:=hr.lt
 replace hr:=(hr.on hb).rowFar (show W.heap.size + 2 ≠ gex by omega) (feA ex)
 clear hl
 have hsz:=hB.size
 replace hB:=below_rowSet (below_on hB hb) (show W.heap.size ≤ gex by omega) (feA ex)
 clear hb hsz
 have hex:=hy.row (feA ex)
 clear hk
 go_upto_region 2 with ((with_reducible refine wpL_store gex 72 _ (feA ex) 4 rowFe rfl (feA_size _) (feA_one _) hy ?_ ?_ ?_); rfl; rfl)
 clear hy
 generalize World.setRow _ _ _ = w1b at *
 clear hpX hpY hpZ hpT hqX hqY hqZ hqT
 clear hT Hxa Hxb Hex
 have hT:=(hT0.out.on hB).f
 have hpX:=pt_X hp
 have hpY:=pt_Y hp
 have hpZ:=pt_Z hp
 have hpT:=pt_T hp
 have hqX:=pt_X hq
 have hqY:=pt_Y hq
 have hqZ:=pt_Z hq
 have hqT:=pt_T hq
 refine wp_region_made 15 6 _ 72 fe0A rfl rfl (by kernel_rfl) (by kernel_rfl) (alloc_fe rfl) ?_
 simp only [zA8,zAJ,zAA,zAH]
 refine wpQB_run (.pointer (some ⟨W.heap.size,0,none⟩)) rfl (fun _ _ => by kernel_rfl) ?_
 simp only [Act.put,zA0,zA2,zA1]
 refine wpQB_run (.pointer (some ⟨W.heap.size,4,none⟩)) rfl (fun _ _ => by kernel_rfl) ?_
 simp only [Act.put,zA0,zA2,zA1]
 refine wpQB_mid (W.heap.size) 4 u.Y hpY rfl ?_
 simp only [Act.put,zA0,zA2,zA1]
 refine wpQB_run (.pointer (some ⟨W.heap.size + 1,0,none⟩)) rfl (fun _ _ => by kernel_rfl) ?_
 simp only [Act.put,zA0,zA2,zA1]
 refine wpQB_run (.pointer (some ⟨W.heap.size + 1,4,none⟩)) rfl (fun _ _ => by kernel_rfl) ?_
 simp only [Act.put,zA0,zA2,zA1]
 refine wpQB_mid (W.heap.size + 1) 4 v.Y hqY rfl ?_
 simp only [Act.put,zA0,zA2,zA1]
 refine wpQB_call 94 #[fe u.Y,fe v.Y] (fe ya) rfl rfl (fun _ => by kernel_rfl) (fun w hb => Hya.out w (hT.on hb)) ?_
 simp only [Act.put,zA0,zA2,zA1]
 refine wpQB_run (.pointer (some ⟨W.heap.size,0,none⟩)) rfl (fun _ _ => by kernel_rfl) ?_
 simp only [Act.put,zA0,zA2,zA1]
 refine wpQB_run (.pointer (some ⟨W.heap.size,0,none⟩)) rfl (fun _ _ => by kernel_rfl) ?_
 simp only [Act.put,zA0,zA2,zA1]
 refine wpQB_mid (W.heap.size) 0 u.X hpX rfl ?_
 simp only [Act.put,zA0,zA2,zA1]
 refine wpQB_run (.pointer (some ⟨W.heap.size + 1,0,none⟩)) rfl (fun _ _ => by kernel_rfl) ?_
 simp only [Act.put,zA0,zA2,zA1]
 refine wpQB_run (.pointer (some ⟨W.heap.size + 1,0,none⟩)) rfl (fun _ _ => by kernel_rfl) ?_
 simp only [Act.put,zA0,zA2,zA1]
 refine wpQB_mid (W.heap.size + 1) 0 v.X hqX rfl ?_
 simp only [Act.put,zA0,zA2,zA1]
 refine wpQB_call 94 #[fe u.X,fe v.X] (fe yb) rfl rfl (fun _ => by kernel_rfl) (fun w hb => Hyb.out w (hT.on hb)) ?_
 simp only [Act.put,zA0,zA2,zA1]
 refine wpQB_call 97 #[fe ya,fe yb] (fe ey) rfl rfl (fun _ => by kernel_rfl) (fun w hb => Hey.out w (hT.on hb)) ?_
 simp only [Act.put,zA0,zA2,zA1]
 refine wpQB_nil ?_
 intro gey w2 hb hk hy
 simp only [zA0,zA2,zA1]
 replace hy:Lies w2 gey 72 fe0A:=hy
 have hl:=hp.lt
 replace hp:=(hp.on hb).rowFar (show W.heap.size ≠ gey by omega) (feA ey)
 clear hl
 have hl:=hq.lt
 replace hq:=(hq.on hb).rowFar (show W.heap.size + 1 ≠ gey by omega) (feA ey)
 clear hl
 have hl:=hr.lt
 replace hr:=(hr.on hb).rowFar (show W.heap.size + 2 ≠ gey by omega) (feA ey)
 clear hl
 have hl:=hex.lt
 replace hex:=(hex.on hb).rowFar (show gex ≠ gey by omega) (feA ey)
 clear hl
 have hsz:=hB.size
 replace hB:=below_rowSet (below_on hB hb) (show W.heap.size ≤ gey by omega) (feA ey)
 clear hb hsz
 have hey:=hy.row (feA ey)
 clear hk
 go_upto_region 3 with ((with_reducible refine wpL_store gey 72 _ (feA ey) 4 rowFe rfl (feA_size _) (feA_one _) hy ?_ ?_ ?_); rfl; rfl)
 clear hy
 generalize World.setRow _ _ _ = w2b at *
 clear hpX hpY hpZ hpT hqX hqY hqZ hqT
 clear hT Hya Hyb Hey
 have hT:=(hT0.out.on hB).f
 have hpZ:=pt_Z hp
 have hqZ:=pt_Z hq
 go_upto_region 4 with (first
   | ((with_reducible refine wpL_loadMid (W.heap.size) 8 (feA u.Z).toList 4 rowFe (by rw [zAC]; exact feA_size _) hpZ ?_ ?_); rfl; rw [zAK])
   | ((with_reducible refine wpL_loadMid (W.heap.size + 1) 8 (feA v.Z).toList 4 rowFe (by rw [zAC]; exact feA_size _) hqZ ?_ ?_); rfl; rw [zAK])
   | (go_at_call 94; (with_reducible refine (Hon.out _ hT).mono ?_); rintro e u3 ⟨rfl,hb⟩; replace hp:=hp.on hb; replace hq:=hq.on hb; replace hr:=hr.on hb; replace hex:=hex.on hb; replace hey:=hey.on hb; replace hT:=hT.on hb; replace hB:=below_on hB hb; clear hb)
   | ((with_reducible refine wpL_store u3.heap.size 72 _ (feA on) 4 rowFe ?_ (feA_size _) (feA_one _) (Lies.new u3 _ _) ?_ ?_ ?_); rfl; rfl; rfl))
 have hon:=newly_lies u3 72 fe0A (feA on)
 have hnw:=newly u3 (.cells fe0A 72) (feA on)
 replace hp:=hp.on hnw
 replace hq:=hq.on hnw
 replace hr:=hr.on hnw
 replace hex:=hex.on hnw
 replace hey:=hey.on hnw
 replace hB:=below_on hB hnw
 clear hnw hT
 generalize World.setRow _ _ _ = w3 at *
 generalize u3.heap.size = gon at *
 clear hpZ hqZ Hon
 have hT:=(hT0.out.on hB).f
 have hD:=HD.out _ (hT0.out.on hB)
 have hpX:=pt_X hp
 have hpY:=pt_Y hp
 have hpZ:=pt_Z hp
 have hpT:=pt_T hp
 have hqX:=pt_X hq
 have hqY:=pt_Y hq
 have hqZ:=pt_Z hq
 have hqT:=pt_T hq
 refine wp_region_made 9 8 _ 72 fe0A rfl rfl (by kernel_rfl) (by kernel_rfl) (alloc_fe rfl) ?_
 simp only [zA8,zAJ,zAA,zAH]
 refine wpQB_mid 1 0 D hD rfl ?_
 simp only [Act.put,zA0,zA2,zA1]
 refine wpQB_run (.pointer (some ⟨W.heap.size,0,none⟩)) rfl (fun _ _ => by kernel_rfl) ?_
 simp only [Act.put,zA0,zA2,zA1]
 refine wpQB_run (.pointer (some ⟨W.heap.size,12,none⟩)) rfl (fun _ _ => by kernel_rfl) ?_
 simp only [Act.put,zA0,zA2,zA1]
 refine wpQB_mid (W.heap.size) 12 u.T hpT rfl ?_
 simp only [Act.put,zA0,zA2,zA1]
 refine wpQB_run (.pointer (some ⟨W.heap.size + 1,0,none⟩)) rfl (fun _ _ => by kernel_rfl) ?_
 simp only [Act.put,zA0,zA2,zA1]
 refine wpQB_run (.pointer (some ⟨W.heap.size + 1,12,none⟩)) rfl (fun _ _ => by kernel_rfl) ?_
 simp only [Act.put,zA0,zA2,zA1]
 refine wpQB_mid (W.heap.size + 1) 12 v.T hqT rfl ?_
 simp only [Act.put,zA0,zA2,zA1]
 refine wpQB_call 94 #[fe u.T,fe v.T] (fe tt) rfl rfl (fun _ => by kernel_rfl) (fun w hb => Htt.out w (hT.on hb)) ?_
 simp only [Act.put,zA0,zA2,zA1]
 refine wpQB_call 94 #[fe D,fe tt] (fe re) rfl rfl (fun _ => by kernel_rfl) (fun w hb => Hre.out w (hT.on hb)) ?_
 simp only [Act.put,zA0,zA2,zA1]
 refine wpQB_nil ?_
 intro gre w4 hb hk hy
 simp only [zA0,zA2,zA1]
 replace hy:Lies w4 gre 72 fe0A:=hy
 have hl:=hp.lt
 replace hp:=(hp.on hb).rowFar (show W.heap.size ≠ gre by omega) (feA re)
 clear hl
 have hl:=hq.lt
 replace hq:=(hq.on hb).rowFar (show W.heap.size + 1 ≠ gre by omega) (feA re)
 clear hl
 have hl:=hr.lt
 replace hr:=(hr.on hb).rowFar (show W.heap.size + 2 ≠ gre by omega) (feA re)
 clear hl
 have hl:=hex.lt
 replace hex:=(hex.on hb).rowFar (show gex ≠ gre by omega) (feA re)
 clear hl
 have hl:=hey.lt
 replace hey:=(hey.on hb).rowFar (show gey ≠ gre by omega) (feA re)
 clear hl
 have hl:=hon.lt
 replace hon:=(hon.on hb).rowFar (show gon ≠ gre by omega) (feA re)
 clear hl
 have hsz:=hB.size
 replace hB:=below_rowSet (below_on hB hb) (show W.heap.size ≤ gre by omega) (feA re)
 clear hb hsz
 have hre:=hy.row (feA re)
 clear hk
 go_upto_region 5 with ((with_reducible refine wpL_store gre 72 _ (feA re) 4 rowFe rfl (feA_size _) (feA_one _) hy ?_ ?_ ?_); rfl; rfl)
 clear hy
 generalize World.setRow _ _ _ = w4b at *
 clear hpX hpY hpZ hpT hqX hqY hqZ hqT
 clear hT hD Htt Hre
 clear hp hq
 have hT:=(hT0.out.on hB).f
 refine wp_region_rel2 8 77 [sayFix (fe on),sayFix (fe re),sayFix (fe ux),sayFix (fe on),sayFix (fe re),sayFix (fe uy),sayVar w4b.heap.size 72 fe0A,sayVar w4b.heap.size 72 fe0A] rfl rfl (by kernel_rfl) (by kernel_rfl) (fun r hr => by
     simp only [zCK,List.not_mem_nil,or_false] at hr
     rcases hr with rfl | rfl | rfl | rfl | rfl | rfl | rfl | rfl <;> first | exact sayFix_mono _ | exact sayVar_mono _ _ _)
   6 7 _ _ 9 10 _ _ (by decide) (by decide) (by decide) rfl rfl rfl rfl (fun a w => ⟨_,alloc_fe rfl a w⟩) (fun a w => ⟨_,alloc_fe rfl a w⟩) rfl rfl sayVar_lt sayVar_lt ?_
 simp only [zA8,zAJ,zAA,zAH,List.zip_cons_cons,List.zip_nil_right]
 refine wpRel_step (fun w hb hG => does_run (.agg (feA on)) (run_load_row rowFe (feA_size _) (gon) hon hb rfl) rfl) (fun v0 => ?_)
 simp only [Act.put,zA0,zA2,zA1,zAE]
 refine wpRel_step (fun w hb hG => does_run (.agg (feA re)) (run_load_row rowFe (feA_size _) (gre) hre hb rfl) rfl) (fun v1 => ?_)
 simp only [Act.put,zA0,zA2,zA1,zAE]
 refine wpRel_step (fun w hb hG => ?_) (fun v2 => ?_)
 · obtain rfl:=laid_at 1 hG rfl (by decide)
   obtain rfl:=laid_at 0 hG rfl (by decide)
   refine does_call 97 #[fe on,fe re] (by kernel_rfl) ((Hux.out w (hT.on hb)).mono ?_)
   rintro e w2 ⟨rfl,hb2⟩
   exact ⟨_,rfl,hb2,rfl⟩
 simp only [Act.put,zA0,zA2,zA1,zAE]
 refine wpRel_step (fun w hb hG => does_run (.agg (feA on)) (run_load_row rowFe (feA_size _) (gon) hon hb rfl) rfl) (fun v3 => ?_)
 simp only [Act.put,zA0,zA2,zA1,zAE]
 refine wpRel_step (fun w hb hG => does_run (.agg (feA re)) (run_load_row rowFe (feA_size _) (gre) hre hb rfl) rfl) (fun v4 => ?_)
 simp only [Act.put,zA0,zA2,zA1,zAE]
 refine wpRel_step (fun w hb hG => ?_) (fun v5 => ?_)
 · obtain rfl:=laid_at 1 hG rfl (by decide)
   obtain rfl:=laid_at 0 hG rfl (by decide)
   refine does_call 95 #[fe on,fe re] (by kernel_rfl) ((Huy.out w (hT.on hb)).mono ?_)
   rintro e w2 ⟨rfl,hb2⟩
   exact ⟨_,rfl,hb2,rfl⟩
 simp only [Act.put,zA0,zA2,zA1,zAE]
 refine wpRel_step (fun w hb hG => does_new hb (alloc_fe rfl _ _)) (fun v6 => ?_)
 simp only [Act.put,zA0,zA2,zA1,zAE]
 refine wpRel_step (fun w hb hG => does_new hb (alloc_fe rfl _ _)) (fun v7 => ?_)
 simp only [Act.put,zA0,zA2,zA1,zAE]
 refine wpRel_nil (fun w hb hG hap => ?_)
 obtain rfl:=hG _ (zAU (i:=2) rfl)
 obtain rfl:=hG _ (zAU (i:=5) rfl)
 obtain ⟨gux,rfl,hlux,hux⟩:=hG _ (zAU (i:=1) rfl)
 obtain ⟨guy,rfl,hluy,huy⟩:=hG _ (zAU (i:=0) rfl)
 have hne:gux ≠ guy:=fun e => hap (by subst e; rfl)
 clear hG hap
 have hwb:=hB.size
 have hltr:=hr.lt
 have hltex:=hex.lt
 have hltey:=hey.lt
 have hlton:=hon.lt
 have hltre:=hre.lt
 replace hr:=hr.on hb
 replace hex:=hex.on hb
 replace hey:=hey.on hb
 replace hon:=hon.on hb
 replace hre:=hre.on hb
 replace hB:=below_on hB hb
 clear hb
 clear hT Hux Huy
 go_upto_region 6 with (first | ((with_reducible refine wpL_store (gux) 72 _ (feA ux) 4 rowFe rfl (feA_size _) (feA_one _) hux ?_ ?_ ?_); rfl; rfl) | ((with_reducible refine wpL_store (guy) 72 _ (feA uy) 4 rowFe rfl (feA_size _) (feA_one _) (huy.rowFar (Ne.symm hne) _) ?_ ?_ ?_); rfl; rfl))
 replace huy:=(huy.rowFar (Ne.symm hne) (feA ux)).row (feA uy)
 replace hux:=(hux.row (feA ux)).rowFar hne (feA uy)
 replace hr:=(hr.rowFar (show W.heap.size + 2 ≠ gux by omega) (feA ux)).rowFar (show W.heap.size + 2 ≠ guy by omega) (feA uy)
 replace hex:=(hex.rowFar (show gex ≠ gux by omega) (feA ux)).rowFar (show gex ≠ guy by omega) (feA uy)
 replace hey:=(hey.rowFar (show gey ≠ gux by omega) (feA ux)).rowFar (show gey ≠ guy by omega) (feA uy)
 replace hon:=(hon.rowFar (show gon ≠ gux by omega) (feA ux)).rowFar (show gon ≠ guy by omega) (feA uy)
 replace hre:=(hre.rowFar (show gre ≠ gux by omega) (feA ux)).rowFar (show gre ≠ guy by omega) (feA uy)
 replace hB:=below_rowSet (below_rowSet hB (show W.heap.size ≤ gux by omega) (feA ux)) (show W.heap.size ≤ guy by omega) (feA uy)
 clear hwb hlux hluy hltr hltex hltey hlton hltre
 generalize World.setRow (World.setRow _ _ _) _ _ = w7 at *
 have hT:=(hT0.out.on hB).f
 refine wp_region_plain 14 (by kernel_rfl) (by kernel_rfl) ?_
 simp only [zA8,zAJ,zAA,zAH]
 refine wpQB_fe (gex) ex hex rfl ?_
 simp only [Act.put,zA0,zA2,zA1]
 refine wpQB_fe (guy) uy huy rfl ?_
 simp only [Act.put,zA0,zA2,zA1]
 refine wpQB_call 94 #[fe ex,fe uy] (fe rX) rfl rfl (fun _ => by kernel_rfl) (fun w hb => HrX.out w (hT.on hb)) ?_
 simp only [Act.put,zA0,zA2,zA1]
 refine wpQB_fe (gey) ey hey rfl ?_
 simp only [Act.put,zA0,zA2,zA1]
 refine wpQB_fe (gux) ux hux rfl ?_
 simp only [Act.put,zA0,zA2,zA1]
 refine wpQB_call 94 #[fe ey,fe ux] (fe rY) rfl rfl (fun _ => by kernel_rfl) (fun w hb => HrY.out w (hT.on hb)) ?_
 simp only [Act.put,zA0,zA2,zA1]
 refine wpQB_fe (gux) ux hux rfl ?_
 simp only [Act.put,zA0,zA2,zA1]
 refine wpQB_fe (guy) uy huy rfl ?_
 simp only [Act.put,zA0,zA2,zA1]
 refine wpQB_call 94 #[fe ux,fe uy] (fe rZ) rfl rfl (fun _ => by kernel_rfl) (fun w hb => HrZ.out w (hT.on hb)) ?_
 simp only [Act.put,zA0,zA2,zA1]
 refine wpQB_fe (gex) ex hex rfl ?_
 simp only [Act.put,zA0,zA2,zA1]
 refine wpQB_fe (gey) ey hey rfl ?_
 simp only [Act.put,zA0,zA2,zA1]
 refine wpQB_call 94 #[fe ex,fe ey] (fe rT) rfl rfl (fun _ => by kernel_rfl) (fun w hb => HrT.out w (hT.on hb)) ?_
 simp only [Act.put,zA0,zA2,zA1]
 refine wpQB_run (.agg (feA rX ++ feA rY ++ feA rZ ++ feA rT)) rfl (fun _ _ => by kernel_rfl) ?_
 simp only [Act.put,zA0,zA2,zA1]
 refine wpQB_run (.agg (feA rX ++ feA rY ++ feA rZ ++ feA rT)) rfl (fun _ _ => by kernel_rfl) ?_
 simp only [Act.put,zA0,zA2,zA1]
 refine wpQB_nil ?_
 intro wz hb
 rw [← hb1]
 replace hr:=hr.on hb
 replace hex:=hex.on hb
 replace hey:=hey.on hb
 replace hon:=hon.on hb
 replace hre:=hre.on hb
 replace hux:=hux.on hb
 replace huy:=huy.on hb
 replace hB:=below_on hB hb
 clear hb
 go_wp2_with ((with_reducible refine wpL_store (W.heap.size + 2) 151 _ (ptA r) 16 rowWk rfl (ptA_size _) (ptA_one _) hr ?_ ?_ ?_); rfl; rfl)
 exact bodyPost_ret (results_row Tryz.results106 rowWk (ptA_size _) (hr.row _) rfl) rfl ⟨rfl,below_rowSet hB (by omega) _⟩
end Go.Proofs.YteecbglmohhaeaaGreatDoor.C
namespace Go.Proofs.YteecbglmohhaeaaGreatDoor.C
open Go.RowKit Go.Sort Go.Proofs.YteecbglmohhaeaaGreatDoor.F
theorem rowScP:RowT Tryz.prog 67 4:=⟨⟨_,Tryz.underlying67,rfl⟩,by kernel_rfl⟩
theorem word_bit (n j r:Nat) (hr:r < 64):wordN n j / 2 ^ r % 2 = n / 2 ^ (64 * j + r) % 2:=by
 unfold wordN
 have e:(18446744073709551616:Nat) ^ j = 2 ^ (64 * j):=by rw [zC1]
 have e2:(18446744073709551616:Nat) = 2 ^ (64 - r) * 2 ^ r:=by rw [← zBI,show 64 - r + r = 64 by omega]
 rw [e,zBI,← zB5,e2,zAV (2 ^ (64 - r)),Nat.mod_mul_right_div_self]
 generalize n / 2 ^ (64 * j) / 2 ^ r = x
 have e3:(2:Nat) ^ (64 - r) = 2 * 2 ^ (63 - r):=by rw [← Nat.pow_succ',show (63 - r).succ = 64 - r by omega]
 rw [e3,Nat.mod_mul_right_mod]
theorem and_one (q r:Nat) (hq:q < 18446744073709551616):bits BinOp.and IntKind.u64 ((q:Int) / 2 ^ r) 1 = ((q / 2 ^ r % 2:Nat):Int):=by
 have h1:((q:Int) / 2 ^ r) = ((q / 2 ^ r:Nat):Int):=by rw [zBH,zC4]; rfl
 have h2:q / 2 ^ r < 18446744073709551616:=zBB (zB9 _ _) hq
 rw [h1]
 have h3:=u64_and_nat (q / 2 ^ r) 1 h2 (by decide)
 rw [Nat.and_one_is_mod] at h3
 exact h3
theorem feA_at (n j:Nat) (h:j < 4):(feA n)[j]? = some (w64 (wordN n j)):=by
 rw [feA_words]
 match j,h with
 | 0,_ | 1,_ | 2,_ | 3,_ => rfl
attribute [local irreducible] feA ptA
set_option maxHeartbeats 1600000 in
theorem wtimes_any (F:FieldOk) (u:N4) (n:Nat) (hu:u.Lt) (W:World) (hT:PtTab W) :
   Calls Tryz.prog 104 #[pt u,fe n] W fun e w' => e = .returned (pt (tN n u 256)) ∧ Below W.heap.size W w':=by
 have hT0:=Lib.hid hT
 have HZ:=Lib.hid (fun w hT => wzero_any F w hT)
 have HP:=Lib.hid (fun (a b:N4) (ha:a.Lt) (hb:b.Lt) w hT => wplus_any F a b ha hb w hT)
 have HU:=Lib.hid hu
 have H0:tN n u 0 = zeroN:=rfl
 have HS:Hid (∀ k,tN n u (k + 1) = stepN u (tN n u k) (n / 2 ^ (255 - k) % 2)):=Lib.hid (fun k => rfl)
 have HL:=Lib.hid (tN_lt n u)
 rw [← H0] at HZ
 generalize tN n u = t at *
 clear H0 hT hu
 go_enter Tryz.func104,Tryz.ntmps104
 have hp:=((Lies.new W 151 (ptA u)).alloc (.cells (feA n) 67)).alloc (.cells z16P 151)
 have hn:Lies ((W.alloc (.cells (ptA u) 151)).alloc (.cells (feA n) 67)) (W.heap.size + 1) 67 (feA n):=heap_alloc2_new W _ _
 replace hn:=hn.alloc (.cells z16P 151)
 have hr:=lies3 W (.cells (ptA u) 151) (.cells (feA n) 67) 151 z16P
 have hB:=(((Below.refl W.heap.size W).alloc (zA3 _) (.cells (ptA u) 151)).alloc (by simp) (.cells (feA n) 67)).alloc (by simp; omega) (.cells z16P 151)
 go_upto_region 1 with fail
 generalize World.alloc (World.alloc (World.alloc W _) _) _ = w0 at *
 have hT:=hT0.out.on hB
 go_upto_region 2 with (first
   | (go_at_call 143; (with_reducible refine (HZ.out _ hT).mono ?_); rintro e u1 ⟨rfl,hb⟩; replace hp:=hp.on hb; replace hn:=hn.on hb; replace hr:=hr.on hb; replace hB:=below_on hB hb; clear hb)
   | ((with_reducible refine wpL_bld (pt (t 0)) ?_ ?_); kernel_rfl)
   | ((with_reducible refine wpL_store u1.heap.size 151 _ (ptA (t 0)) 16 rowWk ?_ (ptA_size _) (ptA_one _) (Lies.new u1 _ _) ?_ ?_ ?_); rfl; rfl; rfl))
 have osu:=hr.lt
 have hsu:=newly_lies u1 151 z16P (ptA (t 0))
 have hnw:=newly u1 (.cells z16P 151) (ptA (t 0))
 replace hp:=hp.on hnw
 replace hn:=hn.on hnw
 replace hr:=hr.on hnw
 replace hB:=below_on hB hnw
 clear hnw hT
 generalize World.setRow _ _ _ = w1 at *
 generalize u1.heap.size = gsu at *
 go_wp2_with fail
 go_loopw [6] (fun ix wr => ∃ k:Nat,k ≤ 256 ∧ ix = .int .i64 (255 - (k:Int)) ∧ Lies wr gsu 151 (ptA (t k)) ∧ Lies wr W.heap.size 151 (ptA u) ∧ Lies wr (W.heap.size + 1) 67 (feA n) ∧ Lies wr (W.heap.size + 2) 151 z16P ∧ Hid (W.heap.size + 3 ≤ gsu) ∧ Below W.heap.size W wr) (fun ix _ => (intOf ix + 1).toNat)
 case atStart => exact ⟨0,by omega,rfl,hsu,hp,hn,hr,Lib.hid osu,hB⟩
 case round =>
   clear hsu hp hn hr hB osu
   obtain ⟨k,hk,rfl,hsu,hp,hn,hr,HG,hB⟩:=hrel
   have og:=HG.out
   by_cases hlt:k < 256
   · obtain ⟨i,hik⟩:∃ i:Nat,i + k = 255:=⟨255 - k,by omega⟩
     have hix:(255 - (k:Int)) = (i:Int):=by omega
     rw [hix]
     have hT:=hT0.out.on hB
     go_upto_region 6 with (first
       | ((with_reducible refine wpL_load gsu 151 (ptA (t k)) 16 rowWk (ptA_size _) hsu ?_ ?_); rfl)
       | (go_at_call 106; (with_reducible refine (HP.out (t k) (t k) (HL.out k) (HL.out k) _ hT).mono ?_); rintro e w1 ⟨rfl,hb⟩; replace hsu:=hsu.on hb; replace hp:=hp.on hb; replace hn:=hn.on hb; replace hr:=hr.on hb; replace hB:=below_on hB hb; clear hb)
       | ((with_reducible refine wpL_store gsu 151 (ptA (t k)) (ptA (plusN (t k) (t k))) 16 rowWk (ptA_size _) (ptA_size _) (ptA_one _) hsu ?_ ?_ ?_); rfl; rfl))
     clear hT
     replace hsu:=hsu.row (ptA (plusN (t k) (t k)))
     replace hp:=hp.rowFar (show W.heap.size ≠ gsu by omega) (ptA (plusN (t k) (t k)))
     replace hn:=hn.rowFar (show W.heap.size + 1 ≠ gsu by omega) (ptA (plusN (t k) (t k)))
     replace hr:=hr.rowFar (show W.heap.size + 2 ≠ gsu by omega) (ptA (plusN (t k) (t k)))
     replace hB:=below_rowSet hB (show W.heap.size ≤ gsu by omega) (ptA (plusN (t k) (t k)))
     generalize World.setRow _ _ _ = w2 at *
     have hstep:=HS.out k
     rw [show 255 - k = i by omega] at hstep
     obtain ⟨j,r,hij,hr64,hj4⟩:∃ j r:Nat,i = 64 * j + r ∧ r < 64 ∧ j < 4:=⟨i / 64,i % 64,by omega,by omega,by omega⟩
     have hq:Int.tdiv (i:Int) 64 = (j:Int):=by rw [zB3 (by omega)]; omega
     have hm:Int.tmod (i:Int) 64 = (r:Int):=by rw [zBK (by omega)]; omega
     have c:=(hn.cell j).trans (feA_at n j hj4)
     have hand:=and_one (wordN n j) r (wordN_lt n j)
     rw [word_bit n j r hr64,← hij] at hand
     have hqb:=wordN_lt n j
     generalize wordN n j = q at *
     by_cases hb1:n / 2 ^ i % 2 = 1
     · rw [hb1] at hand
       rw [stepN,if_pos hb1] at hstep
       have HST:=Lib.hid hstep
       clear hstep hb1 hij
       have hT:=hT0.out.on hB
       go_upto_region 7 with fail
       clear c hand hqb hq hm
       go_wp2_with (first
         | ((with_reducible refine wpL_load gsu 151 (ptA (plusN (t k) (t k))) 16 rowWk (ptA_size _) hsu ?_ ?_); rfl)
         | ((with_reducible refine wpL_load (W.heap.size) 151 (ptA u) 16 rowWk (ptA_size _) hp ?_ ?_); rfl)
         | (go_at_call 106; (with_reducible refine (HP.out (plusN (t k) (t k)) u (plusN_lt _ _) HU.out _ hT).mono ?_); rintro e w3 ⟨rfl,hb⟩; replace hsu:=hsu.on hb; replace hp:=hp.on hb; replace hn:=hn.on hb; replace hr:=hr.on hb; replace hB:=below_on hB hb; clear hb)
         | ((with_reducible refine wpL_store gsu 151 (ptA (plusN (t k) (t k))) (ptA (plusN (plusN (t k) (t k)) u)) 16 rowWk (ptA_size _) (ptA_size _) (ptA_one _) hsu ?_ ?_ ?_); rfl; rfl))
       go_roundw
       case rel => exact ⟨k + 1,by omega,by congr 1; omega,by rw [HST.out]; exact hsu.row _,hp.rowFar (by omega) _,hn.rowFar (by omega) _,hr.rowFar (by omega) _,HG,below_rowSet hB (by omega) _⟩
       case measure => simp [intOf]
     · have hb0:n / 2 ^ i % 2 = 0:=by omega
       rw [hb0] at hand
       rw [stepN,if_neg hb1] at hstep
       have HST:=Lib.hid hstep
       clear hstep hb1 hb0 hij
       go_wp2_with fail
       go_roundw
       case rel => exact ⟨k + 1,by omega,by congr 1; omega,by rw [HST.out]; exact hsu,hp,hn,hr,HG,hB⟩
       case measure => simp [intOf]
   · obtain rfl:k = 256:=by omega
     go_wp2_with (first | ((with_reducible refine wpL_load gsu 151 (ptA (t 256)) 16 rowWk (ptA_size _) hsu ?_ ?_); rfl) | ((with_reducible refine wpL_store (W.heap.size + 2) 151 _ (ptA (t 256)) 16 rowWk rfl (ptA_size _) (ptA_one _) hr ?_ ?_ ?_); rfl; rfl))
     exact bodyPost_ret (results_row Tryz.results104 rowWk (ptA_size _) (hr.row _) rfl) rfl ⟨rfl,below_rowSet hB (by omega) _⟩
end Go.Proofs.YteecbglmohhaeaaGreatDoor.C
namespace Go.Proofs.YteecbglmohhaeaaGreatDoor.C
open Go.RowKit Go.Sort Go.Proofs.YteecbglmohhaeaaGreatDoor.F
theorem wpL_load_gP {P:Program} {ops:Array Oper} {rest:List Oper} {a:Act} {w:World} {Q:Exit → Act → World → Prop} {t':TypeId} {pos:String} {after:Array Edge} {gd:Option (Nat × Bool)} {d:Option Tmp} {x:Tmp} {ty:TypeId} (g:Nat) (t:TypeId) (cs:Array Value) (n:Nat) (hT:RowT P ty n) (hn:cs.size = n) (hg:Lies w g t cs)
   (hw:Region.wanted ⟨d,.load ty (.tmp x),t',pos,after,gd⟩ (yielded ops a.tmps) = true) (hx:a.eval (.tmp x) = .pointer (some ⟨g,0,none⟩)) (h:wpList P ops Q rest (a.put d (.agg cs)) w):wpList P ops Q (⟨d,.load ty (.tmp x),t',pos,after,gd⟩ :: rest) a w:=by
 obtain ⟨⟨ds,hu,hd⟩,hi⟩:=hT
 unfold wpList
 rw [if_pos hw]
 exact .inl (wp_load_row ty (.tmp x) rfl g hx t cs (0,0) ds hg hu (by cases ds <;> first | rfl | simp [TypeDesc.isRow] at hd) (by rw [hi,hn]) h)
section
variable {P:Program} {md:Region.Mode} {ops:Array Oper} {Q:Exit → Act → World → Prop} {S:World → Prop} {a:Act} {w w':World}
theorem wpOp_val {i:Nat} {o:Oper} {v:Value} {K:Act → World → Prop} (hi:ops[i]? = some o) (hw:Region.wanted o (yielded ops a.tmps) = true) (hr:(execOp a.eval o).run P w = .ok (.value v) w') (h:K (a.put o.dst v) w'):wpOp P ops Q i K a w:=by
 unfold Go.wpOp
 simp only [hi]
 simp only [hw,if_true,Oper.wp,hr,Oper.upon]
 exact .inl h
theorem wpOp_skp {i:Nat} {o:Oper} {K:Act → World → Prop} (hi:ops[i]? = some o) (hw:Region.wanted o (yielded ops a.tmps) = true) (hr:(execOp a.eval o).run P w = .ok .skip w') (h:K (a.put o.dst undef) w'):wpOp P ops Q i K a w:=by
 unfold Go.wpOp
 simp only [hi]
 simp only [hw,if_true,Oper.wp,hr,Oper.upon]
 exact .inl h
theorem wp_held_calm {id:Nat} {K:Act → World → Prop} {Q:Exit → Act → World → Prop} (n:Nat) (hn:ops.size = n) (hm:P.follows .mixedOrders = true)
   (h:wpAnyH P .any ops (Exit.then K (Calm Q)) S n (Array.replicate n false) a { w with drawn:=w.drawn + 1 }):(Code.region id ops true).wp P (Exit.then K Q) a w:=by
 subst hn
 exact Code.wp_mono (Q:=Exit.then K (Calm Q)) calm_then (wp_region_held hm h)
theorem held_done {K:Act → World → Prop} {Q:Exit → Act → World → Prop} {listed:Array Bool} {fuel:Nat} (hr:Region.ready md ops listed = []) (h:Exit.then K Q .normal a w):wpAnyH P md ops (Exit.then K (Calm Q)) S fuel listed a w:=wpAnyH_done hr (show Exit.then K (Calm Q) .normal a w from h) fuel
theorem held_take {K:Act → World → Prop} {Q:Exit → Act → World → Prop} {fuel:Nat} {listed:Array Bool} (i:Nat) (v:Value) {oi:Oper} (hi:ops[i]? = some oi) (hs:Region.noSelect ops = true) (hf:Region.free md ops listed i = true) (hr:(Region.ready md ops listed).contains i = true)
   (hw:Region.wanted oi (yielded ops a.tmps) = true) (hy:∀ w,S w → (execOp a.eval oi).run P w = .ok (.value v) w) (hS:S w) (h:wpAnyH P md ops (Exit.then K (Calm Q)) S fuel (listed.setIfInBounds i true) (a.put oi.dst v) w):wpAnyH P md ops (Exit.then K (Calm Q)) S (fuel + 1) listed a w:=
 wpAnyH_take hi hs hf hr (fun c a w h => calm_panic c _ _ a w h) (.inl ⟨hw,hy⟩) hS h
theorem held_one {fuel:Nat} {listed:Array Bool} (i:Nat) (hr:Region.ready md ops listed = [i]) (h:wpOp P ops Q i (fun a' w' => S w' ∧ wpAnyH P md ops Q S fuel (listed.setIfInBounds i true) a' w') a w):wpAnyH P md ops Q S (fuel + 1) listed a w:=
 wpAnyH_all hr (by simp) (fun j hj => by rw [List.mem_singleton.1 hj]; exact h)
theorem held_two {fuel:Nat} {listed:Array Bool} (i j:Nat) (hr:Region.ready md ops listed = [i,j]) (h:wpOp P ops Q i (fun a' w' => S w' ∧ wpAnyH P md ops Q S fuel (listed.setIfInBounds i true) a' w') a w) (k:wpOp P ops Q j (fun a' w' => S w' ∧ wpAnyH P md ops Q S fuel (listed.setIfInBounds j true) a' w') a w):wpAnyH P md ops Q S (fuel + 1) listed a w:=
 wpAnyH_all hr (by simp) (fun l hl => by
   simp only [zCK,List.not_mem_nil,or_false] at hl
   rcases hl with rfl | rfl
   · exact h
   · exact k)
theorem exec_store {o:Oper} {x y:Operand} {ty:TypeId} (ho:o.op = .store ty x y) (g t:Nat) (old cs:Array Value) (n:Nat) (hT:RowT P ty n) (hold:old.size = n) (hn:cs.size = n) (h1:Ones cs) (hg:Lies w g t old) (hx:a.eval x = .pointer (some ⟨g,0,none⟩)) (hy:a.eval y = .agg cs):(execOp a.eval o).run P w = .ok .skip (w.setRow g cs):=by
 unfold execOp
 simp only [ho,hx,hy,Instr.storeAt,Instr.sureAddr,Sem.run_bind,Sem.run_pure,Result.andThen_ok,run_storeVar_row w g t ty old cs hg (by rw [hT.2,hn]) (by rw [hold,hn]) h1]
end
attribute [local irreducible] feA ptA
set_option maxHeartbeats 1600000 in
theorem showAdd (F:FieldOk) (u v:N4) (W:World) (hu:u.Lt) (hv:v.Lt) (hT:PtTab W) :
   Calls Tryz.prog 66 #[pt u,pt v] W fun e w' => e = .returned (if (u.right && v.right) = true then .tuple #[pt (plusN u v),.int .i64 0] else .tuple #[pt noneN,.int .i64 1]) ∧ Below W.heap.size W w':=by
 have hT0:=Lib.hid hT
 have HR:=Lib.hid (fun w hT => wright_any F u hu w hT)
 have HQ:=Lib.hid (fun w hT => wright_any F v hv w hT)
 have HS:=Lib.hid (fun w hT => wplus_any F u v hu hv w hT)
 generalize u.right = R1 at *
 generalize v.right = R2 at *
 generalize plusN u v = r at *
 obtain ⟨res,hres⟩:∃ res,(if (R1 && R2) = true then Value.tuple #[pt r,.int .i64 0] else .tuple #[pt noneN,.int .i64 1]) = res:=⟨_,rfl⟩
 rw [hres]
 have HC:Hid ((R1 = true ∧ R2 = true ∧ res = .tuple #[pt r,.int .i64 0]) ∨ (R1 = true ∧ R2 = false ∧ res = .tuple #[pt noneN,.int .i64 1]) ∨ (R1 = false ∧ res = .tuple #[pt noneN,.int .i64 1])):=Lib.hid (by rw [← hres]; cases R1 <;> cases R2 <;> simp)
 clear hT hu hv hres
 go_enter Tryz.func66,Tryz.ntmps66
 have hp:=((Lies.new W 74 (ptA u)).alloc (.cells (ptA v) 74)).alloc (.cells z16P 74)
 have hq:Lies ((W.alloc (.cells (ptA u) 74)).alloc (.cells (ptA v) 74)) (W.heap.size + 1) 74 (ptA v):=heap_alloc2_new W _ _
 replace hq:=hq.alloc (.cells z16P 74)
 have hr:=lies3 W (.cells (ptA u) 74) (.cells (ptA v) 74) 74 z16P
 have hB:=(((Below.refl W.heap.size W).alloc (zA3 _) (.cells (ptA u) 74)).alloc (by simp) (.cells (ptA v) 74)).alloc (by simp; omega) (.cells z16P 74)
 go_upto_region 1 with fail
 generalize World.alloc (World.alloc (World.alloc W _) _) _ = w0 at *
 refine wp_held_calm (S:=fun w' => Lies w' (W.heap.size) 74 (ptA u) ∧ Lies w' (W.heap.size + 1) 74 (ptA v)) 8 rfl (by kernel_rfl) ?_
 have hpd:Lies { w0 with drawn:=w0.drawn + 1 } _ _ _:=hp.drew
 have hqd:Lies { w0 with drawn:=w0.drawn + 1 } _ _ _:=hq.drew
 have hrd:Lies { w0 with drawn:=w0.drawn + 1 } _ _ _:=hr.drew
 have hBd:Below W.heap.size W { w0 with drawn:=w0.drawn + 1 }:=hB.drew
 clear hp hq hr hB
 generalize ({ w0 with drawn:=w0.drawn + 1 }:World) = wd at *
 refine held_take 0 (pt u) rfl (by kernel_rfl) (by kernel_rfl) (by kernel_rfl) rfl (fun w hS => run_load_row rowPt (ptA_size _) _ hS.1 (Below.refl _ _) rfl) ⟨hpd,hqd⟩ ?_
 refine held_take 1 (pt u) rfl (by kernel_rfl) (by kernel_rfl) (by kernel_rfl) rfl (fun w hS => by kernel_rfl) ⟨hpd,hqd⟩ ?_
 refine held_take 2 (pt v) rfl (by kernel_rfl) (by kernel_rfl) (by kernel_rfl) rfl (fun w hS => run_load_row rowPt (ptA_size _) _ hS.2 (Below.refl _ _) rfl) ⟨hpd,hqd⟩ ?_
 refine held_take 3 (pt v) rfl (by kernel_rfl) (by kernel_rfl) (by kernel_rfl) rfl (fun w hS => by kernel_rfl) ⟨hpd,hqd⟩ ?_
 have ltp:=hpd.lt
 have ltq:=hqd.lt
 have ltr:=hrd.lt
 have hsz:=hBd.size
 refine held_two 4 5 (by kernel_rfl) ?_ ?_
 · refine wpOp_val rfl rfl (allocWk rfl _ _) ⟨⟨hpd.alloc _,hqd.alloc _⟩,?_⟩
   have hwa:=Lies.new wd 151 z16P
   have hp:=hpd.alloc (.cells z16P 151)
   have hq:=hqd.alloc (.cells z16P 151)
   have hr:=hrd.alloc (.cells z16P 151)
   have hB:=hBd.alloc hBd.size (.cells z16P 151)
   have ltwa:=hwa.lt
   generalize World.alloc wd _ = w1 at *
   generalize wd.heap.size = gwa at *
   refine held_one 5 (by kernel_rfl) (wpOp_val rfl rfl (allocWk rfl _ _) ⟨⟨hp.alloc _,hq.alloc _⟩,?_⟩)
   have hwq:=Lies.new w1 151 z16P
   replace hp:=hp.alloc (.cells z16P 151)
   replace hq:=hq.alloc (.cells z16P 151)
   replace hr:=hr.alloc (.cells z16P 151)
   replace hwa:=hwa.alloc (.cells z16P 151)
   replace hB:=hB.alloc hB.size (.cells z16P 151)
   generalize World.alloc w1 _ = w2 at *
   generalize w1.heap.size = gwq at *
   have hne:gwa ≠ gwq:=by omega
   refine held_one 6 (by kernel_rfl) (wpOp_skp rfl rfl (exec_store rfl gwa 151 z16P (ptA u) 16 rowWk rfl (ptA_size _) (ptA_one _) hwa rfl rfl) ⟨⟨hp.rowFar (by omega) _,hq.rowFar (by omega) _⟩,?_⟩)
   replace hp:=hp.rowFar (show W.heap.size ≠ gwa by omega) (ptA u)
   replace hq:=hq.rowFar (show W.heap.size + 1 ≠ gwa by omega) (ptA u)
   replace hr:=hr.rowFar (show W.heap.size + 2 ≠ gwa by omega) (ptA u)
   replace hwq:=hwq.rowFar (show gwq ≠ gwa by omega) (ptA u)
   replace hwa:=hwa.row (ptA u)
   replace hB:=below_rowSet hB (show W.heap.size ≤ gwa by omega) (ptA u)
   generalize World.setRow _ _ _ = w3 at *
   refine held_one 7 (by kernel_rfl) (wpOp_skp rfl rfl (exec_store rfl gwq 151 z16P (ptA v) 16 rowWk rfl (ptA_size _) (ptA_one _) hwq rfl rfl) ⟨⟨hp.rowFar (by omega) _,hq.rowFar (by omega) _⟩,?_⟩)
   replace hp:=hp.rowFar (show W.heap.size ≠ gwq by omega) (ptA v)
   replace hq:=hq.rowFar (show W.heap.size + 1 ≠ gwq by omega) (ptA v)
   replace hr:=hr.rowFar (show W.heap.size + 2 ≠ gwq by omega) (ptA v)
   replace hwa:=hwa.rowFar (show gwa ≠ gwq by omega) (ptA v)
   replace hwq:=hwq.row (ptA v)
   replace hB:=below_rowSet hB (show W.heap.size ≤ gwq by omega) (ptA v)
   generalize World.setRow _ _ _ = w4 at *
   refine held_done (by kernel_rfl) ?_
   simp only [Act.put,zA0]
   clear hpd ltp hqd ltq hrd ltr hBd ltwa hsz
   have hT:=hT0.out.on hB
   rcases HC.out with ⟨rfl,rfl,rfl⟩ | ⟨rfl,rfl,rfl⟩ | ⟨rfl,rfl⟩
   · go_wp2_with (first
     | ((with_reducible refine wpL_load (gwa) 151 (ptA u) 16 rowWk (ptA_size _) hwa ?_ ?_); rfl)
     | ((with_reducible refine wpL_load_gP (gwq) 151 (ptA v) 16 rowWk (ptA_size _) hwq ?_ ?_ ?_); rfl; rfl)
     | ((with_reducible refine wpL_load (gwq) 151 (ptA v) 16 rowWk (ptA_size _) hwq ?_ ?_); rfl)
     | (go_at_call 103; (with_reducible refine (HR.out _ hT).mono ?_); rintro e u1 ⟨rfl,hb⟩; replace hp:=hp.on hb; replace hq:=hq.on hb; replace hr:=hr.on hb; replace hwa:=hwa.on hb; replace hwq:=hwq.on hb; replace hT:=hT.on hb; replace hB:=below_on hB hb; clear hb)
     | (go_at_call 103; (with_reducible refine (HQ.out _ hT).mono ?_); rintro e u2 ⟨rfl,hb⟩; replace hp:=hp.on hb; replace hq:=hq.on hb; replace hr:=hr.on hb; replace hwa:=hwa.on hb; replace hwq:=hwq.on hb; replace hT:=hT.on hb; replace hB:=below_on hB hb; clear hb)
     | (go_at_call 106; (with_reducible refine (HS.out _ hT).mono ?_); rintro e u3 ⟨rfl,hb⟩; replace hp:=hp.on hb; replace hq:=hq.on hb; replace hr:=hr.on hb; replace hwa:=hwa.on hb; replace hwq:=hwq.on hb; replace hT:=hT.on hb; replace hB:=below_on hB hb; clear hb)
     | ((with_reducible refine wpL_bld (pt noneN) ?_ ?_); kernel_rfl)
     | ((with_reducible refine wpL_fld (pt r) ?_ ?_); kernel_rfl)
     | ((with_reducible refine wpL_store (W.heap.size + 2) 74 _ (ptA noneN) 16 rowPt rfl (ptA_size _) (ptA_one _) hr ?_ ?_ ?_); rfl; rfl)
     | ((with_reducible refine wpL_store (W.heap.size + 2) 74 _ (ptA r) 16 rowPt rfl (ptA_size _) (ptA_one _) hr ?_ ?_ ?_); rfl; rfl))
     exact bodyPost_ret (results_row_tmp Tryz.results66 rowPt (ptA_size _) (hr.row _) rfl rfl) rfl ⟨rfl,below_rowSet hB (by omega) _⟩
   · go_wp2_with (first
     | ((with_reducible refine wpL_load (gwa) 151 (ptA u) 16 rowWk (ptA_size _) hwa ?_ ?_); rfl)
     | ((with_reducible refine wpL_load_gP (gwq) 151 (ptA v) 16 rowWk (ptA_size _) hwq ?_ ?_ ?_); rfl; rfl)
     | ((with_reducible refine wpL_load (gwq) 151 (ptA v) 16 rowWk (ptA_size _) hwq ?_ ?_); rfl)
     | (go_at_call 103; (with_reducible refine (HR.out _ hT).mono ?_); rintro e u1 ⟨rfl,hb⟩; replace hp:=hp.on hb; replace hq:=hq.on hb; replace hr:=hr.on hb; replace hwa:=hwa.on hb; replace hwq:=hwq.on hb; replace hT:=hT.on hb; replace hB:=below_on hB hb; clear hb)
     | (go_at_call 103; (with_reducible refine (HQ.out _ hT).mono ?_); rintro e u2 ⟨rfl,hb⟩; replace hp:=hp.on hb; replace hq:=hq.on hb; replace hr:=hr.on hb; replace hwa:=hwa.on hb; replace hwq:=hwq.on hb; replace hT:=hT.on hb; replace hB:=below_on hB hb; clear hb)
     | (go_at_call 106; (with_reducible refine (HS.out _ hT).mono ?_); rintro e u3 ⟨rfl,hb⟩; replace hp:=hp.on hb; replace hq:=hq.on hb; replace hr:=hr.on hb; replace hwa:=hwa.on hb; replace hwq:=hwq.on hb; replace hT:=hT.on hb; replace hB:=below_on hB hb; clear hb)
     | ((with_reducible refine wpL_bld (pt noneN) ?_ ?_); kernel_rfl)
     | ((with_reducible refine wpL_fld (pt r) ?_ ?_); kernel_rfl)
     | ((with_reducible refine wpL_store (W.heap.size + 2) 74 _ (ptA noneN) 16 rowPt rfl (ptA_size _) (ptA_one _) hr ?_ ?_ ?_); rfl; rfl)
     | ((with_reducible refine wpL_store (W.heap.size + 2) 74 _ (ptA r) 16 rowPt rfl (ptA_size _) (ptA_one _) hr ?_ ?_ ?_); rfl; rfl))
     exact bodyPost_ret (results_row_tmp Tryz.results66 rowPt (ptA_size _) (hr.row _) rfl rfl) rfl ⟨rfl,below_rowSet hB (by omega) _⟩
   · go_wp2_with (first
     | ((with_reducible refine wpL_load (gwa) 151 (ptA u) 16 rowWk (ptA_size _) hwa ?_ ?_); rfl)
     | ((with_reducible refine wpL_load_gP (gwq) 151 (ptA v) 16 rowWk (ptA_size _) hwq ?_ ?_ ?_); rfl; rfl)
     | ((with_reducible refine wpL_load (gwq) 151 (ptA v) 16 rowWk (ptA_size _) hwq ?_ ?_); rfl)
     | (go_at_call 103; (with_reducible refine (HR.out _ hT).mono ?_); rintro e u1 ⟨rfl,hb⟩; replace hp:=hp.on hb; replace hq:=hq.on hb; replace hr:=hr.on hb; replace hwa:=hwa.on hb; replace hwq:=hwq.on hb; replace hT:=hT.on hb; replace hB:=below_on hB hb; clear hb)
     | (go_at_call 103; (with_reducible refine (HQ.out _ hT).mono ?_); rintro e u2 ⟨rfl,hb⟩; replace hp:=hp.on hb; replace hq:=hq.on hb; replace hr:=hr.on hb; replace hwa:=hwa.on hb; replace hwq:=hwq.on hb; replace hT:=hT.on hb; replace hB:=below_on hB hb; clear hb)
     | (go_at_call 106; (with_reducible refine (HS.out _ hT).mono ?_); rintro e u3 ⟨rfl,hb⟩; replace hp:=hp.on hb; replace hq:=hq.on hb; replace hr:=hr.on hb; replace hwa:=hwa.on hb; replace hwq:=hwq.on hb; replace hT:=hT.on hb; replace hB:=below_on hB hb; clear hb)
     | ((with_reducible refine wpL_bld (pt noneN) ?_ ?_); kernel_rfl)
     | ((with_reducible refine wpL_fld (pt r) ?_ ?_); kernel_rfl)
     | ((with_reducible refine wpL_store (W.heap.size + 2) 74 _ (ptA noneN) 16 rowPt rfl (ptA_size _) (ptA_one _) hr ?_ ?_ ?_); rfl; rfl)
     | ((with_reducible refine wpL_store (W.heap.size + 2) 74 _ (ptA r) 16 rowPt rfl (ptA_size _) (ptA_one _) hr ?_ ?_ ?_); rfl; rfl))
     exact bodyPost_ret (results_row_tmp Tryz.results66 rowPt (ptA_size _) (hr.row _) rfl rfl) rfl ⟨rfl,below_rowSet hB (by omega) _⟩
 · refine wpOp_val rfl rfl (allocWk rfl _ _) ⟨⟨hpd.alloc _,hqd.alloc _⟩,?_⟩
   have hwq:=Lies.new wd 151 z16P
   have hp:=hpd.alloc (.cells z16P 151)
   have hq:=hqd.alloc (.cells z16P 151)
   have hr:=hrd.alloc (.cells z16P 151)
   have hB:=hBd.alloc hBd.size (.cells z16P 151)
   have ltwq:=hwq.lt
   generalize World.alloc wd _ = w1 at *
   generalize wd.heap.size = gwq at *
   refine held_one 4 (by kernel_rfl) (wpOp_val rfl rfl (allocWk rfl _ _) ⟨⟨hp.alloc _,hq.alloc _⟩,?_⟩)
   have hwa:=Lies.new w1 151 z16P
   replace hp:=hp.alloc (.cells z16P 151)
   replace hq:=hq.alloc (.cells z16P 151)
   replace hr:=hr.alloc (.cells z16P 151)
   replace hwq:=hwq.alloc (.cells z16P 151)
   replace hB:=hB.alloc hB.size (.cells z16P 151)
   generalize World.alloc w1 _ = w2 at *
   generalize w1.heap.size = gwa at *
   have hne:gwa ≠ gwq:=by omega
   refine held_one 6 (by kernel_rfl) (wpOp_skp rfl rfl (exec_store rfl gwa 151 z16P (ptA u) 16 rowWk rfl (ptA_size _) (ptA_one _) hwa rfl rfl) ⟨⟨hp.rowFar (by omega) _,hq.rowFar (by omega) _⟩,?_⟩)
   replace hp:=hp.rowFar (show W.heap.size ≠ gwa by omega) (ptA u)
   replace hq:=hq.rowFar (show W.heap.size + 1 ≠ gwa by omega) (ptA u)
   replace hr:=hr.rowFar (show W.heap.size + 2 ≠ gwa by omega) (ptA u)
   replace hwq:=hwq.rowFar (show gwq ≠ gwa by omega) (ptA u)
   replace hwa:=hwa.row (ptA u)
   replace hB:=below_rowSet hB (show W.heap.size ≤ gwa by omega) (ptA u)
   generalize World.setRow _ _ _ = w3 at *
   refine held_one 7 (by kernel_rfl) (wpOp_skp rfl rfl (exec_store rfl gwq 151 z16P (ptA v) 16 rowWk rfl (ptA_size _) (ptA_one _) hwq rfl rfl) ⟨⟨hp.rowFar (by omega) _,hq.rowFar (by omega) _⟩,?_⟩)
   replace hp:=hp.rowFar (show W.heap.size ≠ gwq by omega) (ptA v)
   replace hq:=hq.rowFar (show W.heap.size + 1 ≠ gwq by omega) (ptA v)
   replace hr:=hr.rowFar (show W.heap.size + 2 ≠ gwq by omega) (ptA v)
   replace hwa:=hwa.rowFar (show gwa ≠ gwq by omega) (ptA v)
   replace hwq:=hwq.row (ptA v)
   replace hB:=below_rowSet hB (show W.heap.size ≤ gwq by omega) (ptA v)
   generalize World.setRow _ _ _ = w4 at *
   refine held_done (by kernel_rfl) ?_
   simp only [Act.put,zA0]
   clear hpd ltp hqd ltq hrd ltr hBd ltwq hsz
   have hT:=hT0.out.on hB
   rcases HC.out with ⟨rfl,rfl,rfl⟩ | ⟨rfl,rfl,rfl⟩ | ⟨rfl,rfl⟩
   · go_wp2_with (first
     | ((with_reducible refine wpL_load (gwa) 151 (ptA u) 16 rowWk (ptA_size _) hwa ?_ ?_); rfl)
     | ((with_reducible refine wpL_load_gP (gwq) 151 (ptA v) 16 rowWk (ptA_size _) hwq ?_ ?_ ?_); rfl; rfl)
     | ((with_reducible refine wpL_load (gwq) 151 (ptA v) 16 rowWk (ptA_size _) hwq ?_ ?_); rfl)
     | (go_at_call 103; (with_reducible refine (HR.out _ hT).mono ?_); rintro e u1 ⟨rfl,hb⟩; replace hp:=hp.on hb; replace hq:=hq.on hb; replace hr:=hr.on hb; replace hwa:=hwa.on hb; replace hwq:=hwq.on hb; replace hT:=hT.on hb; replace hB:=below_on hB hb; clear hb)
     | (go_at_call 103; (with_reducible refine (HQ.out _ hT).mono ?_); rintro e u2 ⟨rfl,hb⟩; replace hp:=hp.on hb; replace hq:=hq.on hb; replace hr:=hr.on hb; replace hwa:=hwa.on hb; replace hwq:=hwq.on hb; replace hT:=hT.on hb; replace hB:=below_on hB hb; clear hb)
     | (go_at_call 106; (with_reducible refine (HS.out _ hT).mono ?_); rintro e u3 ⟨rfl,hb⟩; replace hp:=hp.on hb; replace hq:=hq.on hb; replace hr:=hr.on hb; replace hwa:=hwa.on hb; replace hwq:=hwq.on hb; replace hT:=hT.on hb; replace hB:=below_on hB hb; clear hb)
     | ((with_reducible refine wpL_bld (pt noneN) ?_ ?_); kernel_rfl)
     | ((with_reducible refine wpL_fld (pt r) ?_ ?_); kernel_rfl)
     | ((with_reducible refine wpL_store (W.heap.size + 2) 74 _ (ptA noneN) 16 rowPt rfl (ptA_size _) (ptA_one _) hr ?_ ?_ ?_); rfl; rfl)
     | ((with_reducible refine wpL_store (W.heap.size + 2) 74 _ (ptA r) 16 rowPt rfl (ptA_size _) (ptA_one _) hr ?_ ?_ ?_); rfl; rfl))
     exact bodyPost_ret (results_row_tmp Tryz.results66 rowPt (ptA_size _) (hr.row _) rfl rfl) rfl ⟨rfl,below_rowSet hB (by omega) _⟩
   · go_wp2_with (first
     | ((with_reducible refine wpL_load (gwa) 151 (ptA u) 16 rowWk (ptA_size _) hwa ?_ ?_); rfl)
     | ((with_reducible refine wpL_load_gP (gwq) 151 (ptA v) 16 rowWk (ptA_size _) hwq ?_ ?_ ?_); rfl; rfl)
     | ((with_reducible refine wpL_load (gwq) 151 (ptA v) 16 rowWk (ptA_size _) hwq ?_ ?_); rfl)
     | (go_at_call 103; (with_reducible refine (HR.out _ hT).mono ?_); rintro e u1 ⟨rfl,hb⟩; replace hp:=hp.on hb; replace hq:=hq.on hb; replace hr:=hr.on hb; replace hwa:=hwa.on hb; replace hwq:=hwq.on hb; replace hT:=hT.on hb; replace hB:=below_on hB hb; clear hb)
     | (go_at_call 103; (with_reducible refine (HQ.out _ hT).mono ?_); rintro e u2 ⟨rfl,hb⟩; replace hp:=hp.on hb; replace hq:=hq.on hb; replace hr:=hr.on hb; replace hwa:=hwa.on hb; replace hwq:=hwq.on hb; replace hT:=hT.on hb; replace hB:=below_on hB hb; clear hb)
     | (go_at_call 106; (with_reducible refine (HS.out _ hT).mono ?_); rintro e u3 ⟨rfl,hb⟩; replace hp:=hp.on hb; replace hq:=hq.on hb; replace hr:=hr.on hb; replace hwa:=hwa.on hb; replace hwq:=hwq.on hb; replace hT:=hT.on hb; replace hB:=below_on hB hb; clear hb)
     | ((with_reducible refine wpL_bld (pt noneN) ?_ ?_); kernel_rfl)
     | ((with_reducible refine wpL_fld (pt r) ?_ ?_); kernel_rfl)
     | ((with_reducible refine wpL_store (W.heap.size + 2) 74 _ (ptA noneN) 16 rowPt rfl (ptA_size _) (ptA_one _) hr ?_ ?_ ?_); rfl; rfl)
     | ((with_reducible refine wpL_store (W.heap.size + 2) 74 _ (ptA r) 16 rowPt rfl (ptA_size _) (ptA_one _) hr ?_ ?_ ?_); rfl; rfl))
     exact bodyPost_ret (results_row_tmp Tryz.results66 rowPt (ptA_size _) (hr.row _) rfl rfl) rfl ⟨rfl,below_rowSet hB (by omega) _⟩
   · go_wp2_with (first
     | ((with_reducible refine wpL_load (gwa) 151 (ptA u) 16 rowWk (ptA_size _) hwa ?_ ?_); rfl)
     | ((with_reducible refine wpL_load_gP (gwq) 151 (ptA v) 16 rowWk (ptA_size _) hwq ?_ ?_ ?_); rfl; rfl)
     | ((with_reducible refine wpL_load (gwq) 151 (ptA v) 16 rowWk (ptA_size _) hwq ?_ ?_); rfl)
     | (go_at_call 103; (with_reducible refine (HR.out _ hT).mono ?_); rintro e u1 ⟨rfl,hb⟩; replace hp:=hp.on hb; replace hq:=hq.on hb; replace hr:=hr.on hb; replace hwa:=hwa.on hb; replace hwq:=hwq.on hb; replace hT:=hT.on hb; replace hB:=below_on hB hb; clear hb)
     | (go_at_call 103; (with_reducible refine (HQ.out _ hT).mono ?_); rintro e u2 ⟨rfl,hb⟩; replace hp:=hp.on hb; replace hq:=hq.on hb; replace hr:=hr.on hb; replace hwa:=hwa.on hb; replace hwq:=hwq.on hb; replace hT:=hT.on hb; replace hB:=below_on hB hb; clear hb)
     | (go_at_call 106; (with_reducible refine (HS.out _ hT).mono ?_); rintro e u3 ⟨rfl,hb⟩; replace hp:=hp.on hb; replace hq:=hq.on hb; replace hr:=hr.on hb; replace hwa:=hwa.on hb; replace hwq:=hwq.on hb; replace hT:=hT.on hb; replace hB:=below_on hB hb; clear hb)
     | ((with_reducible refine wpL_bld (pt noneN) ?_ ?_); kernel_rfl)
     | ((with_reducible refine wpL_fld (pt r) ?_ ?_); kernel_rfl)
     | ((with_reducible refine wpL_store (W.heap.size + 2) 74 _ (ptA noneN) 16 rowPt rfl (ptA_size _) (ptA_one _) hr ?_ ?_ ?_); rfl; rfl)
     | ((with_reducible refine wpL_store (W.heap.size + 2) 74 _ (ptA r) 16 rowPt rfl (ptA_size _) (ptA_one _) hr ?_ ?_ ?_); rfl; rfl))
     exact bodyPost_ret (results_row_tmp Tryz.results66 rowPt (ptA_size _) (hr.row _) rfl rfl) rfl ⟨rfl,below_rowSet hB (by omega) _⟩
set_option maxHeartbeats 1600000 in
theorem showNeg (F:FieldOk)  (u:N4) (W:World) (hu:u.Lt) (hT:PtTab W) :
   Calls Tryz.prog 65 #[pt u] W fun e w' => e = .returned (if u.right = true then .tuple #[pt (negN u),.int .i64 0] else .tuple #[pt noneN,.int .i64 1]) ∧ Below W.heap.size W w':=by
 have hT0:=Lib.hid hT
 have HR:=Lib.hid (fun w hT => wright_any F u hu w hT)
 have HS:=Lib.hid (fun w hT => wcontrary_any F u hu w hT)
 generalize u.right = R1 at *
 generalize (negN u) = r at *
 clear hT hu
 go_enter Tryz.func65,Tryz.ntmps65
 have hp:=(Lies.new W 74 (ptA u)).alloc (.cells z16P 74)
 have hr:Lies ((W.alloc (.cells (ptA u) 74)).alloc (.cells z16P 74)) (W.heap.size + 1) 74 z16P:=heap_alloc2_new W _ _
 have hB:=((Below.refl W.heap.size W).alloc (zA3 _) (.cells (ptA u) 74)).alloc (by simp) (.cells z16P 74)
 go_upto_region 1 with fail
 generalize World.alloc (World.alloc W _) _ = w0 at *
 have hT:=hT0.out.on hB
 go_upto_region 2 with (first
   | ((with_reducible refine wpL_load (W.heap.size) 74 (ptA u) 16 rowPt (ptA_size _) hp ?_ ?_); rfl)
   | ((with_reducible refine wpL_bld (pt u) ?_ ?_); kernel_rfl)
   | ((with_reducible refine wpL_store w0.heap.size 151 _ (ptA u) 16 rowWk ?_ (ptA_size _) (ptA_one _) (Lies.new w0 _ _) ?_ ?_ ?_); rfl; rfl; rfl))
 have hwa:=newly_lies w0 151 z16P (ptA u)
 have hnw:=newly w0 (.cells z16P 151) (ptA u)
 replace hp:=hp.on hnw
 replace hr:=hr.on hnw
 replace hB:=below_on hB hnw
 clear hnw hT
 generalize World.setRow _ _ _ = w1 at *
 generalize w0.heap.size = gwa at *
 have hT:=hT0.out.on hB
 cases R1
 · go_wp2_with (first
   | ((with_reducible refine wpL_load (gwa) 151 (ptA u) 16 rowWk (ptA_size _) hwa ?_ ?_); rfl)
   | (go_at_call 103; (with_reducible refine (HR.out _ hT).mono ?_); rintro e u2 ⟨rfl,hb⟩; replace hp:=hp.on hb; replace hr:=hr.on hb; replace hwa:=hwa.on hb; replace hT:=hT.on hb; replace hB:=below_on hB hb; clear hb)
   | (go_at_call 105; (with_reducible refine (HS.out _ hT).mono ?_); rintro e u3 ⟨rfl,hb⟩; replace hp:=hp.on hb; replace hr:=hr.on hb; replace hwa:=hwa.on hb; replace hT:=hT.on hb; replace hB:=below_on hB hb; clear hb)
   | ((with_reducible refine wpL_bld (pt noneN) ?_ ?_); kernel_rfl)
   | ((with_reducible refine wpL_fld (pt r) ?_ ?_); kernel_rfl)
   | ((with_reducible refine wpL_store (W.heap.size + 1) 74 _ (ptA noneN) 16 rowPt rfl (ptA_size _) (ptA_one _) hr ?_ ?_ ?_); rfl; rfl)
   | ((with_reducible refine wpL_store (W.heap.size + 1) 74 _ (ptA r) 16 rowPt rfl (ptA_size _) (ptA_one _) hr ?_ ?_ ?_); rfl; rfl))
   exact bodyPost_ret (results_row_tmp Tryz.results65 rowPt (ptA_size _) (hr.row _) rfl rfl) rfl ⟨rfl,below_rowSet hB (by omega) _⟩
 · go_wp2_with (first
   | ((with_reducible refine wpL_load (gwa) 151 (ptA u) 16 rowWk (ptA_size _) hwa ?_ ?_); rfl)
   | (go_at_call 103; (with_reducible refine (HR.out _ hT).mono ?_); rintro e u2 ⟨rfl,hb⟩; replace hp:=hp.on hb; replace hr:=hr.on hb; replace hwa:=hwa.on hb; replace hT:=hT.on hb; replace hB:=below_on hB hb; clear hb)
   | (go_at_call 105; (with_reducible refine (HS.out _ hT).mono ?_); rintro e u3 ⟨rfl,hb⟩; replace hp:=hp.on hb; replace hr:=hr.on hb; replace hwa:=hwa.on hb; replace hT:=hT.on hb; replace hB:=below_on hB hb; clear hb)
   | ((with_reducible refine wpL_bld (pt noneN) ?_ ?_); kernel_rfl)
   | ((with_reducible refine wpL_fld (pt r) ?_ ?_); kernel_rfl)
   | ((with_reducible refine wpL_store (W.heap.size + 1) 74 _ (ptA noneN) 16 rowPt rfl (ptA_size _) (ptA_one _) hr ?_ ?_ ?_); rfl; rfl)
   | ((with_reducible refine wpL_store (W.heap.size + 1) 74 _ (ptA r) 16 rowPt rfl (ptA_size _) (ptA_one _) hr ?_ ?_ ?_); rfl; rfl))
   exact bodyPost_ret (results_row_tmp Tryz.results65 rowPt (ptA_size _) (hr.row _) rfl rfl) rfl ⟨rfl,below_rowSet hB (by omega) _⟩
set_option maxHeartbeats 1600000 in
theorem showMul (F:FieldOk) (n:Nat) (u:N4) (W:World) (hu:u.Lt) (hT:PtTab W) :
   Calls Tryz.prog 64 #[fe n,pt u] W fun e w' => e = .returned (if u.right = true then .tuple #[pt (tN n u 256),.int .i64 0] else .tuple #[pt noneN,.int .i64 1]) ∧ Below W.heap.size W w':=by
 have hT0:=Lib.hid hT
 have HR:=Lib.hid (fun w hT => wright_any F u hu w hT)
 have HS:=Lib.hid (fun w hT => wtimes_any F u n hu w hT)
 generalize u.right = R1 at *
 generalize (tN n u 256) = r at *
 clear hT hu
 go_enter Tryz.func64,Tryz.ntmps64
 have hn:=((Lies.new W 67 (feA n)).alloc (.cells (ptA u) 74)).alloc (.cells z16P 74)
 have hp:Lies ((W.alloc (.cells (feA n) 67)).alloc (.cells (ptA u) 74)) (W.heap.size + 1) 74 (ptA u):=heap_alloc2_new W _ _
 replace hp:=hp.alloc (.cells z16P 74)
 have hr:=lies3 W (.cells (feA n) 67) (.cells (ptA u) 74) 74 z16P
 have hB:=(((Below.refl W.heap.size W).alloc (zA3 _) (.cells (feA n) 67)).alloc (by simp) (.cells (ptA u) 74)).alloc (by simp; omega) (.cells z16P 74)
 go_upto_region 1 with fail
 generalize World.alloc (World.alloc (World.alloc W _) _) _ = w0 at *
 have hT:=hT0.out.on hB
 go_upto_region 2 with (first
   | ((with_reducible refine wpL_load (W.heap.size + 1) 74 (ptA u) 16 rowPt (ptA_size _) hp ?_ ?_); rfl)
   | ((with_reducible refine wpL_bld (pt u) ?_ ?_); kernel_rfl)
   | ((with_reducible refine wpL_store w0.heap.size 151 _ (ptA u) 16 rowWk ?_ (ptA_size _) (ptA_one _) (Lies.new w0 _ _) ?_ ?_ ?_); rfl; rfl; rfl))
 have hwa:=newly_lies w0 151 z16P (ptA u)
 have hnw:=newly w0 (.cells z16P 151) (ptA u)
 replace hn:=hn.on hnw
 replace hp:=hp.on hnw
 replace hr:=hr.on hnw
 replace hB:=below_on hB hnw
 clear hnw hT
 generalize World.setRow _ _ _ = w1 at *
 generalize w0.heap.size = gwa at *
 have hT:=hT0.out.on hB
 cases R1
 · go_wp2_with (first
   | ((with_reducible refine wpL_load (gwa) 151 (ptA u) 16 rowWk (ptA_size _) hwa ?_ ?_); rfl)
   | ((with_reducible refine wpL_load (W.heap.size) 67 (feA n) 4 rowScP (feA_size _) hn ?_ ?_); rfl)
   | (go_at_call 103; (with_reducible refine (HR.out _ hT).mono ?_); rintro e u2 ⟨rfl,hb⟩; replace hn:=hn.on hb; replace hp:=hp.on hb; replace hr:=hr.on hb; replace hwa:=hwa.on hb; replace hT:=hT.on hb; replace hB:=below_on hB hb; clear hb)
   | (go_at_call 104; (with_reducible refine (HS.out _ hT).mono ?_); rintro e u3 ⟨rfl,hb⟩; replace hn:=hn.on hb; replace hp:=hp.on hb; replace hr:=hr.on hb; replace hwa:=hwa.on hb; replace hT:=hT.on hb; replace hB:=below_on hB hb; clear hb)
   | ((with_reducible refine wpL_bld (pt noneN) ?_ ?_); kernel_rfl)
   | ((with_reducible refine wpL_fld (pt r) ?_ ?_); kernel_rfl)
   | ((with_reducible refine wpL_store (W.heap.size + 2) 74 _ (ptA noneN) 16 rowPt rfl (ptA_size _) (ptA_one _) hr ?_ ?_ ?_); rfl; rfl)
   | ((with_reducible refine wpL_store (W.heap.size + 2) 74 _ (ptA r) 16 rowPt rfl (ptA_size _) (ptA_one _) hr ?_ ?_ ?_); rfl; rfl))
   exact bodyPost_ret (results_row_tmp Tryz.results64 rowPt (ptA_size _) (hr.row _) rfl rfl) rfl ⟨rfl,below_rowSet hB (by omega) _⟩
 · go_wp2_with (first
   | ((with_reducible refine wpL_load (gwa) 151 (ptA u) 16 rowWk (ptA_size _) hwa ?_ ?_); rfl)
   | ((with_reducible refine wpL_load (W.heap.size) 67 (feA n) 4 rowScP (feA_size _) hn ?_ ?_); rfl)
   | (go_at_call 103; (with_reducible refine (HR.out _ hT).mono ?_); rintro e u2 ⟨rfl,hb⟩; replace hn:=hn.on hb; replace hp:=hp.on hb; replace hr:=hr.on hb; replace hwa:=hwa.on hb; replace hT:=hT.on hb; replace hB:=below_on hB hb; clear hb)
   | (go_at_call 104; (with_reducible refine (HS.out _ hT).mono ?_); rintro e u3 ⟨rfl,hb⟩; replace hn:=hn.on hb; replace hp:=hp.on hb; replace hr:=hr.on hb; replace hwa:=hwa.on hb; replace hT:=hT.on hb; replace hB:=below_on hB hb; clear hb)
   | ((with_reducible refine wpL_bld (pt noneN) ?_ ?_); kernel_rfl)
   | ((with_reducible refine wpL_fld (pt r) ?_ ?_); kernel_rfl)
   | ((with_reducible refine wpL_store (W.heap.size + 2) 74 _ (ptA noneN) 16 rowPt rfl (ptA_size _) (ptA_one _) hr ?_ ?_ ?_); rfl; rfl)
   | ((with_reducible refine wpL_store (W.heap.size + 2) 74 _ (ptA r) 16 rowPt rfl (ptA_size _) (ptA_one _) hr ?_ ?_ ?_); rfl; rfl))
   exact bodyPost_ret (results_row_tmp Tryz.results64 rowPt (ptA_size _) (hr.row _) rfl rfl) rfl ⟨rfl,below_rowSet hB (by omega) _⟩
end Go.Proofs.YteecbglmohhaeaaGreatDoor.C
namespace Go.Proofs.YteecbglmohhaeaaGreatDoor.C
open Go.RowKit Go.Sort Go.Proofs.YteecbglmohhaeaaGreatDoor.F
theorem xOf_minus (y:Nat):xOf y true = minusN (xE y):=by unfold xOf minusN; rw [if_pos rfl]
theorem xOf_plain (y:Nat):xOf y false = xE y:=by unfold xOf; rw [if_neg (by decide)]
theorem xE_def (y:Nat):sqrtR (wN y) = xE y:=by unfold xE; exact Eq.refl _
theorem xB_def (y:Nat):sqrtB (wN y) = xB y:=by unfold xB; exact Eq.refl _
theorem wN_def (y:Nat):wN y = (y * y % p25 + (p25 - 1 % p25)) % p25 * invN ((dN * (y * y % p25) % p25 + 1) % p25) % p25:=by unfold wN; exact Eq.refl _
theorem parseN_def (y:Nat) (odd:Bool):parseN y odd = ⟨xOf y odd,y,1,xOf y odd * y % p25⟩:=by unfold parseN; exact Eq.refl _
def wyB (y:Nat) (odd:Bool):Bool:=xB y && (decide (xOf y odd % 2 = 1) == odd)
theorem wyB_def (y:Nat) (odd:Bool):wyB y odd = (xB y && (decide (xOf y odd % 2 = 1) == odd)):=by unfold wyB; exact Eq.refl _
theorem wyB_is {y:Nat} (hy:y < p25) (odd:Bool):parseB y odd = wyB y odd:=by
 unfold parseB wyB
 rw [decide_eq_true hy,zC7]
 congr 1
 cases odd with
 | false => rw [xOf_odd y false (.inr rfl)]; rfl
 | true =>
   by_cases h:xE y = 0
   · rw [decide_eq_true h]
     have:xOf y true = 0:=by unfold xOf; rw [if_pos rfl,h]; decide
     rw [this]
     decide
   · rw [decide_eq_false h,xOf_odd y true (.inl h)]
     rfl
attribute [local irreducible] feA ptA wpQuiet
set_option maxHeartbeats 3200000 in
theorem wwithY_any (F:FieldOk) (y:Nat) (odd:Bool) (W:World) (hy:y < K256) (hT:PtTab2 W) :
   Calls Tryz.prog 61 #[fe y,.bool odd] W fun e w' => e = .returned (.tuple #[pt (parseN y odd),.bool (wyB y odd)]) ∧ Below W.heap.size W w':=by
 have hT0:=Lib.hid hT
 have HO1:Hid (∀ w,Tab w → Calls Tryz.prog 96 #[.int .u64 1] w fun e w' => e = .returned (fe 1) ∧ Below w.heap.size w w'):=Lib.hid (fun w hT => F.of 1 w (by decide) hT)
 have HD:Hid (∀ w,PtTab w → w.rangeAt 1 0 (feA dN).toList):=Lib.hid (fun w h => h.2.1.root)
 have kD:dN < K256:=by decide
 have hw:=wN_def y
 have HSq:=Lib.hid (fun w hT => sqrt_any (wN y) w (below_K (wN_lt y)) hT)
 rw [xE_def,xB_def] at HSq
 have hx:xOf y odd < K256:=below_K (xOf_lt y odd)
 have HAt:=Lib.hid (fun w hT => wat_any F (xOf y odd) y w hx hy hT)
 have HOd:=Lib.hid (fun w => wodd_any (xOf y odd) w)
 have HMi:=Lib.hid (fun w hT => wminus_any F (xE y) w (below_K (xE_lt y)) hT)
 rw [← xOf_minus] at HMi
 have hfe:=xOf_plain y
 have HFe:=Lib.hid hfe
 have hres:=parseN_def y odd
 rw [← hres] at HAt
 generalize parseN y odd = res at *
 have hwy:=wyB_def y odd
 rw [hwy]
 generalize xB y = B at *
 generalize decide (xOf y odd % 2 = 1) = O at *
 clear hres hwy hx hfe
 generalize dN = D at *
 have Hsq:=Lib.hid (fun w hT => F.mul y y w hy hy hT)
 have ksq:=mod_K (y * y)
 generalize y * y % p25 = sq at *
 have Hov:=Lib.hid (fun w hT => F.sub sq 1 w ksq (by decide) hT)
 have kov:=mod_K (sq + (p25 - 1 % p25))
 generalize (sq + (p25 - 1 % p25)) % p25 = ov at *
 have Hds:=Lib.hid (fun w hT => F.mul D sq w kD ksq hT)
 have kds:=mod_K (D * sq)
 generalize D * sq % p25 = ds at *
 have Hun:=Lib.hid (fun w hT => F.add ds 1 w kds (by decide) hT)
 have kun:=mod_K (ds + 1)
 generalize (ds + 1) % p25 = un at *
 have Hiu:=Lib.hid (fun w hT => F.inv un w kun hT)
 have kiu:invN un < K256:=below_K (invN_lt _)
 generalize invN un = iu at *
 have Hwn:=Lib.hid (fun w hT => F.mul ov iu w kov kiu hT)
 have kwn:=mod_K (ov * iu)
 rw [← hw] at Hwn
 clear hw kwn
 generalize wN y = wn at *
 clear ksq kov kds kun kiu kD hT hy
 go_enter Tryz.func61,Tryz.ntmps61
 have hpy:=(Lies.new W 72 (feA y)).alloc (.cells z16P 74)
 have hr:Lies ((W.alloc (.cells (feA y) 72)).alloc (.cells z16P 74)) (W.heap.size + 1) 74 z16P:=heap_alloc2_new W _ _
 have hB:=((Below.refl W.heap.size W).alloc (zA3 _) (.cells (feA y) 72)).alloc (by simp) (.cells z16P 74)
 go_upto_region 1 with fail
 generalize World.alloc (World.alloc W _) _ = w0 at *
 have hT:=(hT0.out.on hB).1.f
 go_upto_region 2 with (first
   | ((with_reducible refine wpL_load (W.heap.size) 72 (feA y) 4 rowFe (feA_size _) hpy ?_ ?_); rfl)
   | (go_at_call 94; (with_reducible refine (Hsq.out _ hT).mono ?_); rintro e u1 ⟨rfl,hb⟩; replace hpy:=hpy.on hb; replace hr:=hr.on hb; replace hT:=hT.on hb; replace hB:=below_on hB hb; clear hb)
   | ((with_reducible refine wpL_store u1.heap.size 72 _ (feA sq) 4 rowFe ?_ (feA_size _) (feA_one _) (Lies.new u1 _ _) ?_ ?_ ?_); rfl; rfl; rfl))
 have hsq:=newly_lies u1 72 fe0A (feA sq)
 have hnw:=newly u1 (.cells fe0A 72) (feA sq)
 replace hpy:=hpy.on hnw
 replace hr:=hr.on hnw
 replace hB:=below_on hB hnw
 clear hnw hT
 generalize World.setRow _ _ _ = w1 at *
 generalize u1.heap.size = gsq at *
 have hT:=(hT0.out.on hB).1.f
 refine wp_region_made 3 7 _ 72 fe0A rfl rfl (by kernel_rfl) (by kernel_rfl) (alloc_fe rfl) ?_
 simp only [zA8,zAJ,zAA,zAH]
 refine wpQB_fe (gsq) sq hsq rfl ?_
 simp only [Act.put,zA0,zA2,zA1]
 refine wpQB_call 96 #[.int .u64 1] (fe 1) rfl rfl (fun _ => by kernel_rfl) (fun w hb => HO1.out w (hT.on hb)) ?_
 simp only [Act.put,zA0,zA2,zA1]
 refine wpQB_call 95 #[fe sq,fe 1] (fe ov) rfl rfl (fun _ => by kernel_rfl) (fun w hb => Hov.out w (hT.on hb)) ?_
 simp only [Act.put,zA0,zA2,zA1]
 refine wpQB_nil ?_
 intro gov w2 hb hk hy
 simp only [zA0,zA2,zA1]
 replace hy:Lies w2 gov 72 fe0A:=hy
 have hl:=hpy.lt
 replace hpy:=(hpy.on hb).rowFar (show W.heap.size ≠ gov by omega) (feA ov)
 clear hl
 have hl:=hr.lt
 replace hr:=(hr.on hb).rowFar (show W.heap.size + 1 ≠ gov by omega) (feA ov)
 clear hl
 have hl:=hsq.lt
 replace hsq:=(hsq.on hb).rowFar (show gsq ≠ gov by omega) (feA ov)
 clear hl
 have hsz:=hB.size
 replace hB:=below_rowSet (below_on hB hb) (show W.heap.size ≤ gov by omega) (feA ov)
 clear hb hsz
 have hov:=hy.row (feA ov)
 clear hk
 go_upto_region 3 with ((with_reducible refine wpL_store gov 72 _ (feA ov) 4 rowFe rfl (feA_size _) (feA_one _) hy ?_ ?_ ?_); rfl; rfl)
 clear hy
 generalize World.setRow _ _ _ = w2b at *
 clear hT
 have hT:=(hT0.out.on hB).1.f
 have hD:=HD.out _ (hT0.out.on hB).1
 go_upto_region 4 with (first
   | ((with_reducible refine wpL_loadGlobal 1 0 (feA D).toList 4 rowFe (by rw [zAC]; exact feA_size _) hD ?_ ?_); rfl; rw [zAK])
   | ((with_reducible refine wpL_load (gsq) 72 (feA sq) 4 rowFe (feA_size _) hsq ?_ ?_); rfl)
   | (go_at_call 94; (with_reducible refine (Hds.out _ hT).mono ?_); rintro e u3a ⟨rfl,hb⟩; replace hpy:=hpy.on hb; replace hr:=hr.on hb; replace hsq:=hsq.on hb; replace hov:=hov.on hb; replace hT:=hT.on hb; replace hB:=below_on hB hb; clear hb)
   | (go_at_call 96; (with_reducible refine (HO1.out _ hT).mono ?_); rintro e u3b ⟨rfl,hb⟩; replace hpy:=hpy.on hb; replace hr:=hr.on hb; replace hsq:=hsq.on hb; replace hov:=hov.on hb; replace hT:=hT.on hb; replace hB:=below_on hB hb; clear hb)
   | (go_at_call 97; (with_reducible refine (Hun.out _ hT).mono ?_); rintro e u3 ⟨rfl,hb⟩; replace hpy:=hpy.on hb; replace hr:=hr.on hb; replace hsq:=hsq.on hb; replace hov:=hov.on hb; replace hT:=hT.on hb; replace hB:=below_on hB hb; clear hb)
   | ((with_reducible refine wpL_store u3.heap.size 72 _ (feA un) 4 rowFe ?_ (feA_size _) (feA_one _) (Lies.new u3 _ _) ?_ ?_ ?_); rfl; rfl; rfl))
 have hun:=newly_lies u3 72 fe0A (feA un)
 have hnw:=newly u3 (.cells fe0A 72) (feA un)
 replace hpy:=hpy.on hnw
 replace hr:=hr.on hnw
 replace hsq:=hsq.on hnw
 replace hov:=hov.on hnw
 replace hB:=below_on hB hnw
 clear hnw hT
 generalize World.setRow _ _ _ = w3 at *
 generalize u3.heap.size = gun at *
 clear hD
 have hT:=(hT0.out.on hB).1.f
 have hS:=(hT0.out.on hB).f2
 refine wp_region_made_late 7 9 8 9 _ 72 fe0A rfl rfl (by kernel_rfl) (by kernel_rfl) (by kernel_rfl) (alloc_fe rfl) ?_
 simp only [addEdge,zA8,zAJ,zAA,zAH]
 refine wpQB_fe (gov) ov hov rfl ?_
 simp only [Act.put,zA0,zA2,zA1]
 refine wpQB_fe (gun) un hun rfl ?_
 simp only [Act.put,zA0,zA2,zA1]
 refine wpQB_call 99 #[fe un] (fe iu) rfl rfl (fun _ => by kernel_rfl) (fun w hb => Hiu.out w (hT.on hb)) ?_
 simp only [Act.put,zA0,zA2,zA1]
 refine wpQB_call 94 #[fe ov,fe iu] (fe wn) rfl rfl (fun _ => by kernel_rfl) (fun w hb => Hwn.out w (hT.on hb)) ?_
 simp only [Act.put,zA0,zA2,zA1]
 refine wpQB_call 98 #[fe wn] (.tuple #[fe (xE y),.bool B]) rfl rfl (fun _ => by kernel_rfl) (fun w hb => HSq.out w (hS.on hb)) ?_
 simp only [Act.put,zA0,zA2,zA1]
 refine wpQB_move ?_
 simp only [Act.put,zA0,zA2,zA1]
 refine wpQB_run (fe (xE y)) rfl (fun _ _ => by kernel_rfl) ?_
 simp only [Act.put,zA0,zA2,zA1]
 refine wpQB_run (.bool B) rfl (fun _ _ => by kernel_rfl) ?_
 simp only [Act.put,zA0,zA2,zA1]
 refine wpQB_nil ?_
 intro gx w4 hb hk hy
 simp only [zA0,zA2,zA1]
 replace hy:Lies w4 gx 72 fe0A:=hy
 have hl:=hr.lt
 have ox:W.heap.size + 1 < gx:=by omega
 clear hl
 have hl:=hpy.lt
 replace hpy:=(hpy.on hb).rowFar (show W.heap.size ≠ gx by omega) (feA (xE y))
 clear hl
 have hl:=hr.lt
 replace hr:=(hr.on hb).rowFar (show W.heap.size + 1 ≠ gx by omega) (feA (xE y))
 clear hl
 have hl:=hsq.lt
 replace hsq:=(hsq.on hb).rowFar (show gsq ≠ gx by omega) (feA (xE y))
 clear hl
 have hl:=hov.lt
 replace hov:=(hov.on hb).rowFar (show gov ≠ gx by omega) (feA (xE y))
 clear hl
 have hl:=hun.lt
 replace hun:=(hun.on hb).rowFar (show gun ≠ gx by omega) (feA (xE y))
 clear hl
 have hsz:=hB.size
 replace hB:=below_rowSet (below_on hB hb) (show W.heap.size ≤ gx by omega) (feA (xE y))
 clear hb hsz
 have hx:=hy.row (feA (xE y))
 clear hk
 go_upto_region 5 with ((with_reducible refine wpL_store gx 72 _ (feA (xE y)) 4 rowFe rfl (feA_size _) (feA_one _) hy ?_ ?_ ?_); rfl; rfl)
 clear hy
 generalize World.setRow _ _ _ = w4b at *
 clear hT hS
 clear hsq hov hun
 have hP:=(hT0.out.on hB).1
 cases odd
 case false =>
   rw [← HFe.out] at hx
   go_upto_region 7 with fail
   cases B
   · go_wp2_with (first
   | ((with_reducible refine wpL_load (gx) 72 (feA (xOf y false)) 4 rowFe (feA_size _) hx ?_ ?_); rfl)
   | ((with_reducible refine wpL_load (W.heap.size) 72 (feA y) 4 rowFe (feA_size _) hpy ?_ ?_); rfl)
   | (go_at_call 101; (with_reducible refine (HAt.out _ hP).mono ?_); rintro e w9 ⟨rfl,hb⟩; replace hx:=hx.on hb; replace hpy:=hpy.on hb; replace hr:=hr.on hb; replace hB:=below_on hB hb; clear hb)
   | (go_at_call 102; (with_reducible refine (HOd.out _).mono ?_); rintro e w10 ⟨rfl,hb⟩; replace hx:=hx.on hb; replace hpy:=hpy.on hb; replace hr:=hr.on hb; replace hB:=below_on hB hb; clear hb)
   | ((with_reducible refine wpL_load_gP (gx) 72 (feA (xOf y false)) 4 rowFe (feA_size _) hx ?_ ?_ ?_); rfl; rfl)
   | ((with_reducible refine wpL_store (W.heap.size + 1) 74 _ (ptA res) 16 rowPt rfl (ptA_size _) (ptA_one _) hr ?_ ?_ ?_); rfl; rfl))
     exact bodyPost_ret (results_row_tmp Tryz.results61 rowPt (ptA_size _) (hr.row _) rfl rfl) rfl ⟨rfl,below_rowSet hB (by omega) _⟩
   · cases O
     · go_wp2_with (first
   | ((with_reducible refine wpL_load (gx) 72 (feA (xOf y false)) 4 rowFe (feA_size _) hx ?_ ?_); rfl)
   | ((with_reducible refine wpL_load (W.heap.size) 72 (feA y) 4 rowFe (feA_size _) hpy ?_ ?_); rfl)
   | (go_at_call 101; (with_reducible refine (HAt.out _ hP).mono ?_); rintro e w9 ⟨rfl,hb⟩; replace hx:=hx.on hb; replace hpy:=hpy.on hb; replace hr:=hr.on hb; replace hB:=below_on hB hb; clear hb)
   | (go_at_call 102; (with_reducible refine (HOd.out _).mono ?_); rintro e w10 ⟨rfl,hb⟩; replace hx:=hx.on hb; replace hpy:=hpy.on hb; replace hr:=hr.on hb; replace hB:=below_on hB hb; clear hb)
   | ((with_reducible refine wpL_load_gP (gx) 72 (feA (xOf y false)) 4 rowFe (feA_size _) hx ?_ ?_ ?_); rfl; rfl)
   | ((with_reducible refine wpL_store (W.heap.size + 1) 74 _ (ptA res) 16 rowPt rfl (ptA_size _) (ptA_one _) hr ?_ ?_ ?_); rfl; rfl))
       exact bodyPost_ret (results_row_tmp Tryz.results61 rowPt (ptA_size _) (hr.row _) rfl rfl) rfl ⟨rfl,below_rowSet hB (by omega) _⟩
     · go_wp2_with (first
   | ((with_reducible refine wpL_load (gx) 72 (feA (xOf y false)) 4 rowFe (feA_size _) hx ?_ ?_); rfl)
   | ((with_reducible refine wpL_load (W.heap.size) 72 (feA y) 4 rowFe (feA_size _) hpy ?_ ?_); rfl)
   | (go_at_call 101; (with_reducible refine (HAt.out _ hP).mono ?_); rintro e w9 ⟨rfl,hb⟩; replace hx:=hx.on hb; replace hpy:=hpy.on hb; replace hr:=hr.on hb; replace hB:=below_on hB hb; clear hb)
   | (go_at_call 102; (with_reducible refine (HOd.out _).mono ?_); rintro e w10 ⟨rfl,hb⟩; replace hx:=hx.on hb; replace hpy:=hpy.on hb; replace hr:=hr.on hb; replace hB:=below_on hB hb; clear hb)
   | ((with_reducible refine wpL_load_gP (gx) 72 (feA (xOf y false)) 4 rowFe (feA_size _) hx ?_ ?_ ?_); rfl; rfl)
   | ((with_reducible refine wpL_store (W.heap.size + 1) 74 _ (ptA res) 16 rowPt rfl (ptA_size _) (ptA_one _) hr ?_ ?_ ?_); rfl; rfl))
       exact bodyPost_ret (results_row_tmp Tryz.results61 rowPt (ptA_size _) (hr.row _) rfl rfl) rfl ⟨rfl,below_rowSet hB (by omega) _⟩
 case true =>
   go_upto_region 7 with (first
     | ((with_reducible refine wpL_load (gx) 72 (feA (xE y)) 4 rowFe (feA_size _) hx ?_ ?_); rfl)
     | (go_at_call 100; (with_reducible refine (HMi.out _ hP).mono ?_); rintro e w7 ⟨rfl,hb⟩; replace hx:=hx.on hb; replace hpy:=hpy.on hb; replace hr:=hr.on hb; replace hP:=hP.on hb; replace hB:=below_on hB hb; clear hb)
     | ((with_reducible refine wpL_store (gx) 72 (feA (xE y)) (feA (xOf y true)) 4 rowFe (feA_size _) (feA_size _) (feA_one _) hx ?_ ?_ ?_); rfl; rfl))
   clear hP
   replace hpy:=hpy.rowFar (show W.heap.size ≠ gx by omega) (feA (xOf y true))
   replace hr:=hr.rowFar (show W.heap.size + 1 ≠ gx by omega) (feA (xOf y true))
   replace hB:=below_rowSet hB (show W.heap.size ≤ gx by omega) (feA (xOf y true))
   replace hx:=hx.row (feA (xOf y true))
   generalize World.setRow _ _ _ = w8 at *
   have hP:=(hT0.out.on hB).1
   cases B
   · go_wp2_with (first
   | ((with_reducible refine wpL_load (gx) 72 (feA (xOf y true)) 4 rowFe (feA_size _) hx ?_ ?_); rfl)
   | ((with_reducible refine wpL_load (W.heap.size) 72 (feA y) 4 rowFe (feA_size _) hpy ?_ ?_); rfl)
   | (go_at_call 101; (with_reducible refine (HAt.out _ hP).mono ?_); rintro e w9 ⟨rfl,hb⟩; replace hx:=hx.on hb; replace hpy:=hpy.on hb; replace hr:=hr.on hb; replace hB:=below_on hB hb; clear hb)
   | (go_at_call 102; (with_reducible refine (HOd.out _).mono ?_); rintro e w10 ⟨rfl,hb⟩; replace hx:=hx.on hb; replace hpy:=hpy.on hb; replace hr:=hr.on hb; replace hB:=below_on hB hb; clear hb)
   | ((with_reducible refine wpL_load_gP (gx) 72 (feA (xOf y true)) 4 rowFe (feA_size _) hx ?_ ?_ ?_); rfl; rfl)
   | ((with_reducible refine wpL_store (W.heap.size + 1) 74 _ (ptA res) 16 rowPt rfl (ptA_size _) (ptA_one _) hr ?_ ?_ ?_); rfl; rfl))
     exact bodyPost_ret (results_row_tmp Tryz.results61 rowPt (ptA_size _) (hr.row _) rfl rfl) rfl ⟨rfl,below_rowSet hB (by omega) _⟩
   · cases O
     · go_wp2_with (first
   | ((with_reducible refine wpL_load (gx) 72 (feA (xOf y true)) 4 rowFe (feA_size _) hx ?_ ?_); rfl)
   | ((with_reducible refine wpL_load (W.heap.size) 72 (feA y) 4 rowFe (feA_size _) hpy ?_ ?_); rfl)
   | (go_at_call 101; (with_reducible refine (HAt.out _ hP).mono ?_); rintro e w9 ⟨rfl,hb⟩; replace hx:=hx.on hb; replace hpy:=hpy.on hb; replace hr:=hr.on hb; replace hB:=below_on hB hb; clear hb)
   | (go_at_call 102; (with_reducible refine (HOd.out _).mono ?_); rintro e w10 ⟨rfl,hb⟩; replace hx:=hx.on hb; replace hpy:=hpy.on hb; replace hr:=hr.on hb; replace hB:=below_on hB hb; clear hb)
   | ((with_reducible refine wpL_load_gP (gx) 72 (feA (xOf y true)) 4 rowFe (feA_size _) hx ?_ ?_ ?_); rfl; rfl)
   | ((with_reducible refine wpL_store (W.heap.size + 1) 74 _ (ptA res) 16 rowPt rfl (ptA_size _) (ptA_one _) hr ?_ ?_ ?_); rfl; rfl))
       exact bodyPost_ret (results_row_tmp Tryz.results61 rowPt (ptA_size _) (hr.row _) rfl rfl) rfl ⟨rfl,below_rowSet hB (by omega) _⟩
     · go_wp2_with (first
   | ((with_reducible refine wpL_load (gx) 72 (feA (xOf y true)) 4 rowFe (feA_size _) hx ?_ ?_); rfl)
   | ((with_reducible refine wpL_load (W.heap.size) 72 (feA y) 4 rowFe (feA_size _) hpy ?_ ?_); rfl)
   | (go_at_call 101; (with_reducible refine (HAt.out _ hP).mono ?_); rintro e w9 ⟨rfl,hb⟩; replace hx:=hx.on hb; replace hpy:=hpy.on hb; replace hr:=hr.on hb; replace hB:=below_on hB hb; clear hb)
   | (go_at_call 102; (with_reducible refine (HOd.out _).mono ?_); rintro e w10 ⟨rfl,hb⟩; replace hx:=hx.on hb; replace hpy:=hpy.on hb; replace hr:=hr.on hb; replace hB:=below_on hB hb; clear hb)
   | ((with_reducible refine wpL_load_gP (gx) 72 (feA (xOf y true)) 4 rowFe (feA_size _) hx ?_ ?_ ?_); rfl; rfl)
   | ((with_reducible refine wpL_store (W.heap.size + 1) 74 _ (ptA res) 16 rowPt rfl (ptA_size _) (ptA_one _) hr ?_ ?_ ?_); rfl; rfl))
       exact bodyPost_ret (results_row_tmp Tryz.results61 rowPt (ptA_size _) (hr.row _) rfl rfl) rfl ⟨rfl,below_rowSet hB (by omega) _⟩
end Go.Proofs.YteecbglmohhaeaaGreatDoor.C
namespace Go.Proofs.YteecbglmohhaeaaGreatDoor.C
open Go.RowKit Go.Sort Go.Proofs.YteecbglmohhaeaaGreatDoor.F
theorem eighth_step (q:List Nat) (r d:Nat) (V:Nat) (h:val q * 8 + r = V):val ((65536 * r + d) / 8 :: q) * 8 + (65536 * r + d) % 8 = d + 65536 * V:=by
 show ((65536 * r + d) / 8 + 65536 * val q) * 8 + (65536 * r + d) % 8 = d + 65536 * V
 omega
theorem put_front (m x:Nat) (q:List Nat):(List.replicate (m + 1) 0 ++ q).set m x = List.replicate m 0 ++ (x :: q):=by
 rw [List.replicate_succ',zBL,zBV _ _ (by simp)]
 simp
theorem dig_far {w:World} {g o:Nat} {l:List Nat} (h:Dig w g o l) {p:Addr} (hne:g ≠ p.block) (v:Value):Dig (w.setCell p v) g o l:=fun i hi => by
 have h1:=h i hi
 unfold World.cell? at *
 rw [heap_setCell_other w p g v hne]
 exact h1
set_option maxHeartbeats 1600000 in
theorem eighth_any (l:List Nat) (g o cap:Nat) (W:World) (hd:Dig W g o l) (dd:Dg l) (hl:l.length ≤ 100) (hc:l.length ≤ cap) :
   Calls Tryz.prog 174 #[.slice (some ⟨g,o,none⟩) l.length cap] W fun e W' => ∃ r g' cap',e = .returned (.slice (some ⟨g',0,none⟩) r.length cap') ∧ r.length ≤ cap' ∧ r.length ≤ 100 ∧ Dig W' g' 0 r ∧ Dg r ∧ val r = val l / 8 ∧ Below W.heap.size W W':=by
 obtain ⟨i0,hi,hz0,hz1,hz2⟩:=info_parts info3
 have HD:=Lib.hid dd
 have HG:Hid (l.length ≠ 0 → g < W.heap.size):=Lib.hid (fun h => World.block_lt_of_cell? W _ (hd 0 (by omega)))
 clear dd
 go_enter Tryz.func174,Tryz.ntmps174
 go_wp2_with (at_make; refine wpList_make_full _ rfl _ _ 48 rfl W.heap.size 3 i0 (.int .i64 0) 1 Tryz.underlying48 hi hz0 hz1 _ _ _ _ l.length rfl rfl ?e1 ?e2 ?b2 ?b3 (zA3 _) ?_)
 case e1 => omega
 case e2 => omega
 case b2 => rw [hz2]; omega
 case b3 => unfold maxLen; omega
 intro w1 hown hgrow
 have hb1:Below W.heap.size W w1:=(Below.refl _ _).grown hgrow (zA3 _) (fun k hk => by cases hk)
 rw [made_zeros] at hown
 replace hd:=hd.on hb1
 clear hgrow
 go_wp2_with fail
 go_loopw [4,5] (fun rx ix wr => ∃ (k r:Nat) (q:List Nat),k ≤ l.length ∧ ix = .int .i64 ((k:Int) - 1) ∧ rx = .int .i64 (r:Int) ∧ r < 8 ∧ q.length = l.length - k ∧ Dg q ∧ Hid (val q * 8 + r = val (l.drop k)) ∧ Dig wr g o l ∧ wr.ownsRow W.heap.size 3 1 (.slice (some ⟨W.heap.size,0,none⟩) l.length l.length) l.length ((List.replicate k 0 ++ q).map i64) ∧ Below W.heap.size W wr) (fun _ ix _ => (intOf ix + 1).toNat)
 case atStart => exact ⟨l.length,0,[],zA3 _,rfl,rfl,by omega,by simp,(fun d hd => by cases hd),Lib.hid (by rw [zAW (zA3 _)]; rfl),hd,by rw [zB6]; exact hown,hb1⟩
 case round =>
   clear hd hown hb1
   obtain ⟨k,r,q,hk,rfl,rfl,hr,hq,dq,HV,hd,ho,hB⟩:=hrel
   cases k with
   | zero =>
     rw [zCE,zBU] at ho
     rw [Nat.sub_zero] at hq
     have hv:=HV.out
     rw [zAH] at hv
     rw [← hq] at ho
     go_wp2_with fail
     go_ret
     refine ⟨q,W.heap.size,q.length,?_,zA3 _,by omega,own_dig ho,dq,by omega,hB⟩
     rw [hq]
     rfl
   | succ m =>
     have em:((m + 1:Nat):Int) - 1 = (m:Int):=by omega
     rw [em]
     have hX:=hd m (by omega)
     have hDD:=HD.out.at m
     have hdm:l.drop m = l.getD m 0 :: l.drop (m + 1):=by
       rw [zAS (by omega),zA4,zA5 (by omega)]
       rfl
     obtain ⟨D,hDe⟩:∃ D,l.getD m 0 = D:=⟨_,rfl⟩
     rw [hDe] at hX hDD hdm
     have HS:=Lib.hid (eighth_step q r D _ HV.out)
     have HDM:Hid (val (l.drop m) = D + 65536 * val (l.drop (m + 1))):=Lib.hid (by rw [hdm]; rfl)
     have hml:(m:Int) < (l.length:Int):=by omega
     have hcap:(l.length:Int) ≤ (cap:Int):=by omega
     have hF:=ho.frozenAt m
     have hO:=own_at ho m (by omega)
     have HP:=Lib.hid (fun x => put_front m x q)
     generalize (List.replicate (m + 1) 0 ++ q).getD m 0 = Z0 at hO
     clear hdm hDe HV
     obtain ⟨S,hS⟩:∃ S,65536 * r + D = S:=⟨_,rfl⟩
     rw [hS] at HS
     have hSle:S < 1048576:=by omega
     obtain ⟨R,hR⟩:∃ R,65536 * r = R:=⟨_,rfl⟩
     have e1:(65536:Int) * (r:Int) = (R:Int):=by omega
     have e2:(R:Int) + (D:Int) = (S:Int):=by omega
     have w1:IntKind.i64.wrap (R:Int) = (R:Int):=by rw [IntWalk.i64_in _ (by omega)]
     have w2:IntKind.i64.wrap (S:Int) = (S:Int):=by rw [IntWalk.i64_in _ (by omega)]
     obtain ⟨a,ha⟩:∃ a,S / 8 = a:=⟨_,rfl⟩
     obtain ⟨b,hb⟩:∃ b,S % 8 = b:=⟨_,rfl⟩
     have q1:Int.tdiv (S:Int) 8 = (a:Int):=by rw [zB3 (by omega)]; omega
     have q2:Int.tmod (S:Int) 8 = (b:Int):=by rw [zBK (by omega)]; omega
     have q3:(S:Int) / 8 = (a:Int):=by omega
     have q4:(S:Int) % 8 = (b:Int):=by omega
     have ha6:a < 65536:=by omega
     have hb8:b < 8:=by omega
     rw [ha,hb] at HS
     have HO:=Lib.hid ho
     have HSS:=Lib.hid (And.intro hS (And.intro ha hb))
     clear ho hS ha hb hDD hR hSle
     go_wp2_with fail
     go_roundw
     case rel => exact ⟨m,b,a :: q,by omega,rfl,rfl,hb8,by rw [zB7,hq]; omega,(fun d hd => by rcases List.mem_cons.1 hd with rfl | h; exact ha6; exact dq d h),Lib.hid (by rw [HS.out,HDM.out]),dig_far hd (by have:=HG.out (by omega); simp only; omega) _,by rw [← HP.out]; exact own_putv HO.out m a _ rfl,hB.setCell (p:=⟨W.heap.size,m,none⟩) (zA3 _) _⟩
     case measure => simp [intOf]
end Go.Proofs.YteecbglmohhaeaaGreatDoor.C
namespace Go.Proofs.YteecbglmohhaeaaGreatDoor.C
open Go.RowKit Go.Sort Go.Proofs.YteecbglmohhaeaaGreatDoor.F
theorem three_dig (w:World):Dig (w.alloc (.cells #[.int .i64 3] 3)) w.heap.size 0 [3]:=fun i hi => by
 obtain rfl:i = 0:=by simpa using hi
 exact (Lies.new w 3 #[.int .i64 3]).cell 0
theorem one_dig (w:World):Dig (w.alloc (.cells #[.int .i64 1] 3)) w.heap.size 0 [1]:=fun i hi => by
 obtain rfl:i = 0:=by simpa using hi
 exact (Lies.new w 3 #[.int .i64 1]).cell 0
theorem two_one (w:World):Dig (w.alloc (.cells #[.int .i64 2] 3)) w.heap.size 0 [2]:=fun i hi => by
 obtain rfl:i = 0:=by simpa using hi
 exact (Lies.new w 3 #[.int .i64 2]).cell 0
theorem grown_one (w:World) (o:Obj):Below w.heap.size w (w.alloc o):=(Below.refl _ w).alloc (zA3 _) o
theorem grown_drew (w:World) (o:Obj):Below w.drew.heap.size w.drew (w.alloc o).drew:=grown_one w.drew o
theorem dg_one (n:Nat) (h:n < 65536):Dg [n]:=by unfold Dg; simpa using h
theorem up_three (gp cp g3:Nat) (W:World) (hp:Dig W gp 0 primeL) (h3:Dig W g3 0 [3]) :
   Calls Tryz.prog 156 #[.slice (some ⟨gp,0,none⟩) 16 cp,.slice (some ⟨g3,0,none⟩) 1 1] W fun e W' => ∃ r g' cap',e = .returned (.slice (some ⟨g',0,none⟩) r.length cap') ∧ r.length ≤ cap' ∧ r.length ≤ 100 ∧ Dig W' g' 0 r ∧ Dg r ∧ val r = p25 + 3 ∧ Below W.heap.size W W':=by
 have h:=plus_any primeL [3] gp 0 cp g3 0 1 W hp h3 (by decide) (by decide) prime_dg (dg_one 3 (by decide))
 rw [show primeL.length = 16 from rfl,prime_val] at h
 refine h.mono ?_
 rintro e W' ⟨r,g',cap',rfl,h1,h2,h3,h4,_,h6,h7⟩
 exact ⟨r,g',cap',rfl,h1,by simp at h2; omega,h3,h4,h6,h7⟩
theorem less_one (gp cp g1:Nat) (W:World) (hp:Dig W gp 0 primeL) (h1:Dig W g1 0 [1]) :
   Calls Tryz.prog 153 #[.slice (some ⟨gp,0,none⟩) 16 cp,.slice (some ⟨g1,0,none⟩) 1 1] W fun e W' => ∃ r g' cap',e = .returned (.slice (some ⟨g',0,none⟩) r.length cap') ∧ r.length ≤ cap' ∧ r.length ≤ 16 ∧ Dig W' g' 0 r ∧ Dg r ∧ val r = p25 - 1 ∧ Below W.heap.size W W':=by
 have h:=minus_any primeL [1] gp 0 cp g1 0 1 W hp h1 (by decide) prime_dg (dg_one 1 (by decide)) (by rw [prime_val]; decide)
 rw [show primeL.length = 16 from rfl,prime_val] at h
 refine h.mono ?_
 rintro e W' ⟨r,g',cap',rfl,h1,h2,h3,h4,_,h6,h7⟩
 exact ⟨r,g',cap',rfl,h1,h2,h3,h4,h6,h7⟩
theorem times_two (r:List Nat) (gr cr g2:Nat) (W:World) (h0:r.length ≤ 16) (hr:Dig W gr 0 r) (dr:Dg r) (hv:val r = p25 - 1) (h2:Dig W g2 0 [2]) :
   Calls Tryz.prog 160 #[.slice (some ⟨gr,0,none⟩) r.length cr,.slice (some ⟨g2,0,none⟩) 1 1] W fun e W' => ∃ q g' cap',e = .returned (.slice (some ⟨g',0,none⟩) q.length cap') ∧ q.length ≤ cap' ∧ q.length ≤ 100 ∧ Dig W' g' 0 q ∧ Dg q ∧ val q = (p25 - 1) * 2 ∧ Below W.heap.size W W':=by
 have h:=times_any r [2] gr 0 cr g2 0 1 W hr h2 (by omega) (by decide) dr (dg_one 2 (by decide))
 rw [hv] at h
 refine h.mono ?_
 rintro e W' ⟨q,g',cap',rfl,h1,h2,h3,h4,_,h6,h7⟩
 exact ⟨q,g',cap',rfl,h1,by simp at h2; omega,h3,h4,h6,h7⟩
theorem power_c (x:Nat) (hx:x < K256) (r:List Nat) (gr cr:Nat) (W:World) (h1:r.length ≤ cr) (h2:r.length ≤ 100) (h3:Dig W gr 0 r) (h4:Dg r) (h5:val r = (p25 + 3) / 8) :
   Calls Tryz.prog 159 #[fe x,.slice (some ⟨gr,0,none⟩) r.length cr] W fun e w' => e = .returned (fe (rootC x)) ∧ Below W.heap.size W w':=by
 have h:=power_ref x r gr 0 cr W hx h3 h4 h2 h1
 rw [h5,show (p25 + 3) / 8 = d25 by decide,powN_eq,show x ^ d25 % p25 = rootC x by rw [rootC_eq]; rfl] at h
 exact h
theorem two_quarter:powN 2 q25 = i25:=by
 have h:pm p25 255 2 q25 = i25:=by decide +kernel
 rw [pm_eq _ _ _ _ (by decide)] at h
 rw [powN_eq,h]
theorem power_i (r:List Nat) (gr cr:Nat) (W:World) (h1:r.length ≤ cr) (h2:r.length ≤ 100) (h3:Dig W gr 0 r) (h4:Dg r) (h5:val r = (p25 - 1) * 2 / 8) :
   Calls Tryz.prog 159 #[.agg #[.int .u64 2,.int .u64 0,.int .u64 0,.int .u64 0],.slice (some ⟨gr,0,none⟩) r.length cr] W fun e w' => e = .returned (fe i25) ∧ Below W.heap.size W w':=by
 have h:=power_ref 2 r gr 0 cr W (by decide) h3 h4 h2 h1
 rw [h5,show (p25 - 1) * 2 / 8 = q25 by decide,two_quarter,← fe_small 2 (by decide)] at h
 exact h
abbrev sayDig (p:List Nat → Prop):Said:=fun v w => ∃ r g cap,v = .slice (some ⟨g,0,none⟩) r.length cap ∧ r.length ≤ cap ∧ Dig w g 0 r ∧ p r
theorem sayDig_mono (p:List Nat → Prop):∀ v w w',sayDig p v w → Below w.heap.size w w' → sayDig p v w':=fun _ _ _ ⟨r,g,cap,h1,h2,h3,h4⟩ hb => ⟨r,g,cap,h1,h2,h3.on hb,h4⟩
abbrev sayOne (x:Nat):Said:=fun v w => ∃ g,v = .slice (some ⟨g,0,none⟩) 1 1 ∧ Dig w g 0 [x]
theorem sayOne_mono (x:Nat):∀ v w w',sayOne x v w → Below w.heap.size w w' → sayOne x v w':=fun _ _ _ ⟨g,h1,h2⟩ hb => ⟨g,h1,h2.on hb⟩
theorem run_load_fe {w0 w:World} {a:Act} {d:Option Tmp} {x:Operand} {t':TypeId} {pos:String} {after:Array Edge} {gd:Option (Nat × Bool)} (g n:Nat) (hz:Lies w0 g 72 (feA n)) (hb:Below w0.heap.size w0 w) (hx:a.eval x = .pointer (some ⟨g,0,none⟩)) :
   (execOp a.eval ⟨d,.load 72 x,t',pos,after,gd⟩).run Tryz.prog w = .ok (.value (fe n)) w:=by
 have hg':=hz.on hb
 unfold execOp
 simp only [hx,Instr.loadAt,Instr.sureAddr,Sem.run_bind,Sem.run_pure,Result.andThen_ok,run_loadVar_row w g 72 72 (feA n) (0,0) _ hg' Tryz.underlying72 rfl (by rw [feA_size]; exact rowFe.2)]
theorem sub_even (V:Nat) (h:V < p25) (h1:V % 2 = 1) (w:World):Calls Tryz.prog 116 #[.agg #[.int .u64 0,.int .u64 0,.int .u64 0,.int .u64 0],fe V] w fun e w' => e = .returned (fe (evN V)) ∧ Below w.heap.size w w':=by
 have h2:=refSub_any 0 V w (by decide) (below_K h)
 rw [← fe_small 0 (by decide)] at h2
 unfold evN
 rw [if_pos h1]
 exact h2
attribute [local irreducible] feA
set_option maxHeartbeats 3200000 in
theorem refRoot_any (x:Nat) (W:World) (hx:x < p25) :
   Calls Tryz.prog 152 #[fe x] W fun e w' => e = .returned (.tuple #[fe (sqrtR x),.bool (sqrtB x)]) ∧ Below W.heap.size W w':=by
 have hxK:=below_K hx
 have HPc:=Lib.hid (power_c x hxK)
 have HMC:Hid (∀ w,Calls Tryz.prog 122 #[fe (rootC x),fe (rootC x)] w fun e w' => e = .returned (fe (rootC x * rootC x % p25)) ∧ Below w.heap.size w w'):=Lib.hid (fun w => refMul_any _ _ w (below_K (rootC_lt x)) (below_K (rootC_lt x)))
 have HMI:Hid (∀ w,Calls Tryz.prog 122 #[fe (rootC x),fe i25] w fun e w' => e = .returned (fe (rootD x)) ∧ Below w.heap.size w w'):=Lib.hid (fun w => refMul_any _ _ w (below_K (rootC_lt x)) (by decide))
 have HMD:Hid (∀ w,Calls Tryz.prog 122 #[fe (rootD x),fe (rootD x)] w fun e w' => e = .returned (fe (rootD x * rootD x % p25)) ∧ Below w.heap.size w w'):=Lib.hid (fun w => refMul_any _ _ w (below_K (rootD_lt x)) (below_K (rootD_lt x)))
 have hcase:=sqrt_cases x
 rw [zAB hx] at hcase
 have hCC:=mod_K (rootC x * rootC x)
 have hDD:=mod_K (rootD x * rootD x)
 have hCl:=rootC_lt x
 have hDl:=rootD_lt x
 generalize rootC x * rootC x % p25 = CC at *
 generalize rootD x * rootD x % p25 = DD at *
 generalize rootC x = C at *
 generalize rootD x = D at *
 generalize sqrtR x = R at *
 generalize sqrtB x = B at *
 obtain ⟨a0,a1,a2,a3,ha⟩:=fe_four x
 have ex:fe x = .agg #[w64 a0,w64 a1,w64 a2,w64 a3]:=by rw [fe,ha]
 have HA:=Lib.hid ha
 have HPc':=HPc
 rw [ex] at HPc'
 clear HPc
 have HEX:=Lib.hid ex
 clear ex ha
 go_enter Tryz.func152,Tryz.ntmps152
 have hz:=(Lies.new W 72 (feA x)).alloc (.cells fe0A 72)
 have hr:Lies ((W.alloc (.cells (feA x) 72)).alloc (.cells fe0A 72)) (W.heap.size + 1) 72 fe0A:=heap_alloc2_new W _ _
 have hB:=((Below.refl W.heap.size W).alloc (zA3 _) (.cells (feA x) 72)).alloc (by simp) (.cells fe0A 72)
 go_upto_region 1 with fail
 generalize World.alloc (World.alloc W _) _ = w0 at *
 go_upto_region 3 with (first
   | (go_at_call 151; (with_reducible refine (prime_any _).mono ?_); rintro e w1 ⟨gp,cp,rfl,hcp,hp,hb⟩; replace hz:=hz.on hb; replace hr:=hr.on hb; replace hB:=below_on hB hb; clear hb)
   | (go_at_call 156; (with_reducible refine (up_three gp cp w1.heap.size _ (hp.on (grown_one w1 _)) (three_dig w1)).mono ?_); rintro e w2 ⟨r,gr,cr,rfl,r1,r2,r3,r4,r5,hb⟩; replace hz:=(hz.alloc _).on hb; replace hr:=(hr.alloc _).on hb; replace hp:=(hp.on (grown_one w1 _)).on hb; replace hB:=below_on (below_on hB (grown_one w1 _)) hb; clear hb))
 have HE:=Lib.hid (fun w (h:Dig w gr 0 r) => eighth_any r gr 0 cr w h r4 r2 r1)
 rw [r5] at HE
 have hzl:=hz.lt
 have hrl:=hr.lt
 have HG:Hid (gp < w2.heap.size):=Lib.hid (World.block_lt_of_cell? w2 _ (hp 0 (by decide)))
 replace hz:=hz.drew
 replace hr:=hr.drew
 replace hB:=hB.drew
 replace hp:Dig w2.drew gp 0 primeL:=hp
 replace r3:Dig w2.drew gr 0 r:=r3
 have hz':=hz
 rw [HA.out] at hz'
 go_cut [6] from 11 to 14 (fun s6 wx => ∃ k,s6 = .pointer (some ⟨k,0,none⟩) ∧ Lies wx k 72 (feA C) ∧ Lies wx W.heap.size 72 (feA x) ∧ Lies wx (W.heap.size + 1) 72 fe0A ∧ W.heap.size + 1 < k ∧ Dig wx gp 0 primeL ∧ Below W.heap.size W wx)
 case first =>
   go_region_held3 (fun w':World => w'.cell? ⟨W.heap.size,0,none⟩ = some (w64 a0) ∧ w'.cell? ⟨W.heap.size,1,none⟩ = some (w64 a1) ∧ w'.cell? ⟨W.heap.size,2,none⟩ = some (w64 a2) ∧ w'.cell? ⟨W.heap.size,3,none⟩ = some (w64 a3))
     (first | exact hz'.four | exact (hz'.on (grown_one _ _)).four | exact (hz'.on (grown_drew w2 _)).four | exact (hz'.on (newly _ _ _)).four | exact (hz'.rowFar (by omega) _).four)
     (first
     | (go_at_call 174; first
       | ((with_reducible refine (HE.out _ r3).mono ?_); rintro e w3 ⟨q,gq,cq,rfl,q1,q2,q3,q4,q5,hb⟩; replace hz':=hz'.on hb; replace hz:=hz.on hb; replace hr:=hr.on hb; replace hp:=hp.on hb; replace hB:=below_on hB hb; clear hb; have hz3l:=hz.lt; have hr3l:=hr.lt)
       | ((with_reducible refine (HE.out _ (r3.on (grown_drew w2 _))).mono ?_); rintro e w3 ⟨q,gq,cq,rfl,q1,q2,q3,q4,q5,hb⟩; have hk:Lies w3 w2.heap.size 72 fe0A:=((Lies.new w2 72 fe0A).drew).on hb; replace hz':=(hz'.on (grown_drew w2 _)).on hb; replace hz:=(hz.on (grown_drew w2 _)).on hb; replace hr:=(hr.on (grown_drew w2 _)).on hb; replace hp:=(hp.on (grown_drew w2 _)).on hb; replace hB:=below_on (below_on hB (grown_drew w2 _)) hb; clear hb))
     | (go_at_call 159; first
       | ((with_reducible refine (HPc'.out q gq cq _ q1 q2 q3 q4 q5).mono ?_); rintro e w4 ⟨rfl,hb⟩; replace hz':=hz'.on hb; replace hz:=hz.on hb; replace hr:=hr.on hb; replace hp:=hp.on hb; replace hB:=below_on hB hb; (try (replace hk:=hk.on hb; have hst:=hk.storeFe C)); clear hb; have hst2:=(Lies.new w4 72 fe0A).storeFe C; have hsz:=feA_size C; have hr4l:=hr.lt)
       | ((with_reducible refine (HPc'.out q gq cq _ q1 q2 (q3.on (grown_one _ _)) q4 q5).mono ?_); rintro e w4 ⟨rfl,hb⟩; have hg3:gp < w3.heap.size:=World.block_lt_of_cell? w3 _ (hp 0 (by decide)); have hr3l':=hr.lt; have hk:Lies w4 w3.heap.size 72 fe0A:=(Lies.new w3 72 fe0A).on hb; replace hz':=(hz'.on (grown_one _ _)).on hb; replace hz:=(hz.on (grown_one _ _)).on hb; replace hr:=(hr.on (grown_one _ _)).on hb; replace hp:=(hp.on (grown_one _ _)).on hb; replace hB:=below_on (below_on hB (grown_one _ _)) hb; clear hb; have hst:=hk.storeFe C; have hsz:=feA_size C)))
   all_goals
     go_wp2_with fail
     go_meet
     first
       | exact ⟨_,rfl,hk.row _,hz.rowFar (by omega) _,hr.rowFar (by omega) _,by omega,hp.rowFar (by have:=HG.out; omega) _,below_rowSet hB (by omega) _⟩
       | exact ⟨_,rfl,newly_lies w4 _ _ _,hz.on (newly w4 _ _),hr.on (newly w4 _ _),hr4l,hp.on (newly w4 _ _),below_on hB (newly w4 _ _)⟩
 case rest =>
   clear hz hr hB hp r3 hz' HE HG hzl hrl HPc' HEX HA r1 r2 r4 r5
   obtain ⟨k,rfl,hk,hx,hr,hlk,hp,hB⟩:=hcut
   go_upto_region 4 with fail
   refine wp_region_all (by kernel_rfl) (by kernel_rfl) ?_
   refine wpQB_fe k C hk rfl ?_
   simp only [Act.put,zA0,zA2,zA1]
   refine wpQB_fe k C hk rfl ?_
   simp only [Act.put,zA0,zA2,zA1]
   refine wpQB_call 122 #[fe C,fe C] (fe CC) rfl rfl (fun _ => by kernel_rfl) (fun w hb => HMC.out w) ?_
   simp only [Act.put,zA0,zA2,zA1]
   refine wpQB_fe W.heap.size x hx rfl ?_
   simp only [Act.put,zA0,zA2,zA1]
   refine wpQB_run (.bool (!decide (CC = x))) rfl (fun w _ => neq_exec rfl CC x hCC hxK rfl rfl w) ?_
   simp only [Act.put,zA0,zA2,zA1]
   refine wpQB_nil ?_
   intro w5 hb
   replace hk:=hk.on hb
   replace hx:=hx.on hb
   replace hr:=hr.on hb
   replace hB:=below_on hB hb
   replace hp:=hp.on hb
   clear hb
   go_upto_if 19 with fail
   go_cut [20] from 19 to 29 (fun _ wx => ∃ V VV,V < p25 ∧ VV < K256 ∧ (∀ w,Calls Tryz.prog 122 #[fe V,fe V] w fun e w' => e = .returned (fe VV) ∧ Below w.heap.size w w') ∧ ((VV = x ∧ R = evN V ∧ B = true) ∨ (VV ≠ x ∧ R = 0 ∧ B = false)) ∧ Lies wx k 72 (feA V) ∧ Lies wx W.heap.size 72 (feA x) ∧ Lies wx (W.heap.size + 1) 72 fe0A ∧ Below W.heap.size W wx)
   case first =>
     rcases hcase with ⟨hC,hR⟩ | hcase
     · rw [decide_eq_true hC]
       go_wp2_with fail
       go_meet
       exact ⟨C,CC,hCl,hCC,HMC.out,.inl ⟨hC,hR⟩,hk,hx,hr,hB⟩
     · have hC:CC ≠ x:=by rcases hcase with h | h <;> exact h.1
       have HCase:Hid ((DD = x ∧ R = evN D ∧ B = true) ∨ (DD ≠ x ∧ R = 0 ∧ B = false)):=Lib.hid (by rcases hcase with h | h; exact .inl h.2; exact .inr h.2)
       rw [decide_eq_false hC]
       clear hcase hC HMC hCC hCl
       go_upto_region 5 with fail
       refine wp_region_rel 10 _ [sayFix (fe C),sayFix (.agg #[.int .u64 2,.int .u64 0,.int .u64 0,.int .u64 0]),sayFix (.slice (some ⟨gp,0,none⟩) 16 cp),sayOne 1,sayDig (fun r => r.length ≤ 16 ∧ Dg r ∧ val r = p25 - 1),sayOne 2,sayDig (fun r => r.length ≤ 100 ∧ Dg r ∧ val r = (p25 - 1) * 2),sayDig (fun r => r.length ≤ 100 ∧ Dg r ∧ val r = (p25 - 1) * 2 / 8),sayFix (fe i25),sayFix (fe D)] rfl rfl (by kernel_rfl) (by kernel_rfl) (fun r hr => by
         simp only [zCK,List.not_mem_nil,or_false] at hr
         rcases hr with rfl | rfl | rfl | rfl | rfl | rfl | rfl | rfl | rfl | rfl <;> first | exact sayFix_mono _ | exact sayOne_mono _ | exact sayDig_mono _) ?_
       simp only [zA8,zAJ,zAA,zAH,List.zip_cons_cons,List.zip_nil_right]
       refine wpRel_step (fun w hb hG => does_run (fe C) (run_load_fe k C hk hb rfl) rfl) (fun v0 => ?_)
       simp only [Act.put,zA0,zA2,zA1,zAE]
       refine wpRel_step (fun w hb hG => does_run (.agg #[.int .u64 2,.int .u64 0,.int .u64 0,.int .u64 0]) (by kernel_rfl) rfl) (fun v1 => ?_)
       simp only [Act.put,zA0,zA2,zA1,zAE]
       refine wpRel_step (fun w hb hG => does_run (.slice (some ⟨gp,0,none⟩) 16 cp) rfl rfl) (fun v2 => ?_)
       simp only [Act.put,zA0,zA2,zA1,zAE]
       refine wpRel_step (fun w hb hG => does_made (.slice (some ⟨w.heap.size,0,none⟩) 1 1) (w':=w.alloc (.cells #[.int .i64 1] 3)) (by kernel_rfl) (grown_one w _) ⟨w.heap.size,rfl,one_dig w⟩) (fun v3 => ?_)
       simp only [Act.put,zA0,zA2,zA1,zAE]
       refine wpRel_step (fun w hb hG => ?_) (fun v4 => ?_)
       · obtain rfl:=laid_at 1 hG rfl (by decide)
         obtain ⟨g1,rfl,d1⟩:=laid_at 0 hG rfl (by decide)
         refine does_call 153 #[.slice (some ⟨gp,0,none⟩) 16 cp,.slice (some ⟨g1,0,none⟩) 1 1] (by kernel_rfl) ((less_one gp cp g1 w (hp.on hb) d1).mono ?_)
         rintro e w' ⟨r,g',cap',rfl,h1,h2,h3,h4,h5,h6⟩
         exact ⟨_,rfl,h6,r,g',cap',rfl,h1,h3,h2,h4,h5⟩
       simp only [Act.put,zA0,zA2,zA1,zAE]
       refine wpRel_step (fun w hb hG => does_made (.slice (some ⟨w.heap.size,0,none⟩) 1 1) (w':=w.alloc (.cells #[.int .i64 2] 3)) (by kernel_rfl) (grown_one w _) ⟨w.heap.size,rfl,two_one w⟩) (fun v5 => ?_)
       simp only [Act.put,zA0,zA2,zA1,zAE]
       refine wpRel_step (fun w hb hG => ?_) (fun v6 => ?_)
       · obtain ⟨r,gr,cr,rfl,q1,q2,q3,q4,q5⟩:=laid_at 1 hG rfl (by decide)
         obtain ⟨g2,rfl,d2⟩:=laid_at 0 hG rfl (by decide)
         refine does_call 160 #[.slice (some ⟨gr,0,none⟩) r.length cr,.slice (some ⟨g2,0,none⟩) 1 1] (by kernel_rfl) ((times_two r gr cr g2 w q3 q2 q4 q5 d2).mono ?_)
         rintro e w' ⟨r,g',cap',rfl,h1,h2,h3,h4,h5,h6⟩
         exact ⟨_,rfl,h6,r,g',cap',rfl,h1,h3,h2,h4,h5⟩
       simp only [Act.put,zA0,zA2,zA1,zAE]
       refine wpRel_step (fun w hb hG => ?_) (fun v7 => ?_)
       · obtain ⟨r,gr,cr,rfl,q1,q2,q3,q4,q5⟩:=laid_at 0 hG rfl (by decide)
         refine does_call 174 #[.slice (some ⟨gr,0,none⟩) r.length cr] (by kernel_rfl) ((eighth_any r gr 0 cr w q2 q4 q3 q1).mono ?_)
         rintro e w' ⟨r,g',cap',rfl,h1,h2,h3,h4,h5,h6⟩
         rw [q5] at h5
         exact ⟨_,rfl,h6,r,g',cap',rfl,h1,h3,h2,h4,h5⟩
       simp only [Act.put,zA0,zA2,zA1,zAE]
       refine wpRel_step (fun w hb hG => ?_) (fun v8 => ?_)
       · obtain rfl:=laid_at 6 hG rfl (by decide)
         obtain ⟨r,gr,cr,rfl,q1,q2,q3,q4,q5⟩:=laid_at 0 hG rfl (by decide)
         refine does_call 159 #[.agg #[.int .u64 2,.int .u64 0,.int .u64 0,.int .u64 0],.slice (some ⟨gr,0,none⟩) r.length cr] (by kernel_rfl) ((power_i r gr cr w q1 q3 q2 q4 q5).mono ?_)
         rintro e w' ⟨rfl,h6⟩
         exact ⟨_,rfl,h6,rfl⟩
       simp only [Act.put,zA0,zA2,zA1,zAE]
       refine wpRel_step (fun w hb hG => ?_) (fun v9 => ?_)
       · obtain rfl:=laid_at 8 hG rfl (by decide)
         obtain rfl:=laid_at 0 hG rfl (by decide)
         refine does_call 122 #[fe C,fe i25] (by kernel_rfl) ((HMI.out w).mono ?_)
         rintro e w' ⟨rfl,h6⟩
         exact ⟨_,rfl,h6,rfl⟩
       simp only [Act.put,zA0,zA2,zA1,zAE]
       refine wpRel_nil (fun w6 hb hG => ?_)
       obtain rfl:=hG _ (zAU (i:=0) rfl)
       clear hG
       replace hk:=hk.on hb
       replace hx:=hx.on hb
       replace hr:=hr.on hb
       replace hB:=below_on hB hb
       clear hb
       go_wp2_with ((with_reducible refine wpL_store k 72 _ (feA D) 4 rowFe (feA_size _) (feA_size _) (feA_one _) hk ?_ ?_ ?_); rfl; rfl)
       go_meet
       exact ⟨D,DD,hDl,hDD,HMD.out,HCase.out,hk.row _,hx.rowFar (by omega) _,hr.rowFar (by omega) _,below_rowSet hB (by omega) _⟩
   case rest =>
     clear hk hx hr hB hp hcase HMC HMI HMD hCC hCl hDD hDl
     obtain ⟨V,VV,hVl,hVV,HMC,hcase,hk,hx,hr,hB⟩:=hcut
     replace HMC:=Lib.hid HMC
     go_upto_region 6 with fail
     refine wp_region_all (by kernel_rfl) (by kernel_rfl) ?_
     refine wpQB_fe k V hk rfl ?_
     simp only [Act.put,zA0,zA2,zA1]
     refine wpQB_fe k V hk rfl ?_
     simp only [Act.put,zA0,zA2,zA1]
     refine wpQB_call 122 #[fe V,fe V] (fe VV) rfl rfl (fun _ => by kernel_rfl) (fun w hb => HMC.out w) ?_
     simp only [Act.put,zA0,zA2,zA1]
     refine wpQB_fe W.heap.size x hx rfl ?_
     simp only [Act.put,zA0,zA2,zA1]
     refine wpQB_run (.bool (!decide (VV = x))) rfl (fun w _ => neq_exec rfl VV x hVV hxK rfl rfl w) ?_
     simp only [Act.put,zA0,zA2,zA1]
     refine wpQB_nil ?_
     intro w5 hb
     replace hk:=hk.on hb
     replace hx:=hx.on hb
     replace hr:=hr.on hb
     replace hB:=below_on hB hb
     clear hb
     rcases hcase with ⟨hC,rfl,rfl⟩ | ⟨hC,rfl,rfl⟩
     · rw [decide_eq_true hC]
       obtain ⟨a,b,c,d,ha,ha2,haK⟩:=word_low V
       have hk':=hk
       rw [ha] at hk'
       have c0:=hk'.cell 0
       clear hk' ha hC
       by_cases h1:V % 2 = 1
       · have ha1:(a:Int) % 2 = 1:=by omega
         have HS:=Lib.hid (sub_even V hVl h1)
         clear ha2 h1
         obtain ⟨v,hv⟩:∃ v,evN V = v:=⟨_,rfl⟩
         rw [hv] at HS
         have HV:=Lib.hid hv
         clear hv
         go_wp2_with (first
           | ((with_reducible refine wpL_load k 72 (feA V) 4 rowFe (feA_size _) hk ?_ ?_); rfl)
           | (go_at_call 116; refine (HS.out _).mono ?_; rintro e w9 ⟨rfl,hb⟩; replace hr:=hr.on hb; replace hB:=below_on hB hb; clear hb)
           | ((with_reducible refine wpL_store (W.heap.size + 1) 72 _ (feA v) 4 rowFe rfl (feA_size _) (feA_one _) hr ?_ ?_ ?_); rfl; rfl))
         exact bodyPost_ret (results_row_tmp Tryz.results152 rowFe (feA_size _) (hr.row _) rfl rfl) rfl ⟨by rw [HV.out]; rfl,below_rowSet hB (zBP _) _⟩
       · have ha1:(a:Int) % 2 = 0:=by omega
         have he:evN V = V:=by unfold evN; rw [if_neg h1]
         have HEV:=Lib.hid he
         clear ha2 h1 he
         go_wp2_with (first
           | ((with_reducible refine wpL_load k 72 (feA V) 4 rowFe (feA_size _) hk ?_ ?_); rfl)
           | ((with_reducible refine wpL_store (W.heap.size + 1) 72 _ (feA V) 4 rowFe rfl (feA_size _) (feA_one _) hr ?_ ?_ ?_); rfl; rfl))
         exact bodyPost_ret (results_row_tmp Tryz.results152 rowFe (feA_size _) (hr.row _) rfl rfl) rfl ⟨by rw [HEV.out]; rfl,below_rowSet hB (zBP _) _⟩
     · rw [decide_eq_false hC]
       clear hC
       go_wp2_with ((with_reducible refine wpL_store (W.heap.size + 1) 72 _ fe0A 4 rowFe rfl rfl fe0A_one hr ?_ ?_ ?_); rfl; rfl)
       exact bodyPost_ret (results_row_tmp Tryz.results152 rowFe rfl (hr.row fe0A) rfl rfl) rfl ⟨by rw [fe_word 0 (by decide)]; rfl,below_rowSet hB (zBP _) _⟩
end Go.Proofs.YteecbglmohhaeaaGreatDoor.C
namespace Go.Proofs.YteecbglmohhaeaaGreatDoor.C
open Go.RowKit Go.Sort Go.Proofs.YteecbglmohhaeaaGreatDoor.F
abbrev af0A:Array Value:=#[.int .u64 0,.int .u64 0,.int .u64 0,.int .u64 0,.int .u64 0,.int .u64 0,.int .u64 0,.int .u64 0]
attribute [local irreducible] feA
end Go.Proofs.YteecbglmohhaeaaGreatDoor.C
namespace Go.Proofs.YteecbglmohhaeaaGreatDoor.C
open Go.RowKit Go.Sort Go.Proofs.YteecbglmohhaeaaGreatDoor.F
attribute [local irreducible] feA
theorem wpQg_fe {w0:World} {ops:Array Oper} {Q:Act → Prop} {a:Act} {rest:List Oper} {t':TypeId} {pos:String} {after:Array Edge} {gd:Option (Nat × Bool)} {d:Option Tmp} {x:Operand} (g n:Nat) (hz:Lies w0 g 72 (feA n)) (hx:a.eval x = .pointer (some ⟨g,0,none⟩)) (hw:Region.wanted ⟨d,.load 72 x,t',pos,after,gd⟩ (yielded ops a.tmps) = true)
   (h:wpQuiet Tryz.prog ops (Gr w0) Q rest (a.put d (fe n))):wpQuiet Tryz.prog ops (Gr w0) Q (⟨d,.load 72 x,t',pos,after,gd⟩ :: rest) a:=
 wpQg_load g 72 (feA n) _ Tryz.underlying72 rfl (by rw [feA_size]; exact rowFe.2) hz hx hw h
set_option maxHeartbeats 1600000 in
theorem refX_any (y:Nat) (W:World) (hy:y < K256) :
   Calls Tryz.prog 115 #[fe y] W fun e w' => e = .returned (.tuple #[fe (xE y),.bool (xB y)]) ∧ Below W.heap.size W w':=by
 have HY:=Lib.hid (fun w => refMul_any y y w hy hy)
 have kyy:=mod_K (y * y)
 have hwd:wN y = (y * y % p25 + (p25 - 1 % p25)) % p25 * invN ((dN * (y * y % p25) % p25 + 1) % p25) % p25:=rfl
 have hwl:=wN_lt y
 have HRo:=Lib.hid (fun w => refRoot_any (wN y) w hwl)
 have hE:xE y = sqrtR (wN y):=rfl
 have hB2:xB y = sqrtB (wN y):=rfl
 rw [hE,hB2]
 generalize y * y % p25 = yy at *
 have HD:=Lib.hid (fun w => refD_any w)
 have HDy:=Lib.hid (fun w => refMul_any dN yy w (by decide) kyy)
 have kd:=mod_K (dN * yy)
 generalize dN * yy % p25 = dy at *
 have HOv:=Lib.hid (fun w => refAdd_any dy 1 w kd (by decide))
 have kov:=mod_K (dy + 1)
 generalize (dy + 1) % p25 = ov at *
 have HSu:=Lib.hid (fun w => refSub_any yy 1 w kyy (by decide))
 have ksu:=mod_K (yy + (p25 - 1 % p25))
 generalize (yy + (p25 - 1 % p25)) % p25 = su at *
 have HIn:=Lib.hid (fun w => refInv_any ov w kov)
 have kin:invN ov < K256:=below_K (invN_lt ov)
 generalize invN ov = io at *
 have HMu:=Lib.hid (fun w => refMul_any su io w ksu kin)
 rw [← hwd] at HMu
 generalize wN y = ww at *
 generalize sqrtR ww = R at *
 generalize sqrtB ww = Bo at *
 clear kyy kd kov ksu kin hwd hwl hE hB2 hy
 go_enter Tryz.func115,Tryz.ntmps115
 have hz:=(Lies.new W 72 (feA y)).alloc (.cells fe0A 72)
 have hr:Lies ((W.alloc (.cells (feA y) 72)).alloc (.cells fe0A 72)) (W.heap.size + 1) 72 fe0A:=heap_alloc2_new W _ _
 have hB:=((Below.refl W.heap.size W).alloc (zA3 _) (.cells (feA y) 72)).alloc (by simp) (.cells fe0A 72)
 go_upto_region 1 with fail
 generalize World.alloc (World.alloc W _) _ = w0 at *
 go_upto_region 2 with (first
   | ((with_reducible refine wpL_load (W.heap.size) 72 (feA y) 4 rowFe (feA_size _) hz ?_ ?_); rfl)
   | (go_at_call 122; (with_reducible refine (HY.out _).mono ?_); rintro e u1 ⟨rfl,hb⟩; replace hz:=hz.on hb; replace hr:=hr.on hb; replace hB:=below_on hB hb; clear hb)
   | ((with_reducible refine wpL_store u1.heap.size 72 _ (feA yy) 4 rowFe ?_ (feA_size _) (feA_one _) (Lies.new u1 _ _) ?_ ?_ ?_); rfl; rfl; rfl))
 have hyy:=newly_lies u1 72 fe0A (feA yy)
 have hnw:=newly u1 (.cells fe0A 72) (feA yy)
 replace hz:=hz.on hnw
 replace hr:=hr.on hnw
 replace hB:=below_on hB hnw
 clear hnw
 generalize World.setRow _ _ _ = w1 at *
 generalize u1.heap.size = ghyy at *
 refine wp_region_made 5 5 _ 72 fe0A rfl rfl (by kernel_rfl) (by kernel_rfl) (alloc_fe rfl) ?_
 simp only [zA8,zAJ,zAA,zAH]
 refine wpQB_call 118 #[] (fe dN) rfl rfl (fun _ => by kernel_rfl) (fun w _ => HD.out w) ?_
 simp only [Act.put,zA0,zA2,zA1]
 refine wpQB_fe (ghyy) yy hyy rfl ?_
 simp only [Act.put,zA0,zA2,zA1]
 refine wpQB_call 122 #[fe dN,fe yy] (fe dy) rfl rfl (fun _ => by kernel_rfl) (fun w _ => HDy.out w) ?_
 simp only [Act.put,zA0,zA2,zA1]
 refine wpQB_run (fe 1) rfl (fun _ _ => by kernel_rfl) ?_
 simp only [Act.put,zA0,zA2,zA1]
 refine wpQB_call 124 #[fe dy,fe 1] (fe ov) rfl rfl (fun _ => by kernel_rfl) (fun w _ => HOv.out w) ?_
 simp only [Act.put,zA0,zA2,zA1]
 refine wpQB_nil ?_
 intro go w2 hb hgo hov
 simp only [zA0,zA2,zA1]
 replace hov:Lies w2 go 72 fe0A:=hov
 have hl1:=hyy.lt
 have hl2:=hr.lt
 replace hyy:=(hyy.on hb).rowFar (show ghyy ≠ go by omega) (feA ov)
 replace hr:=(hr.on hb).rowFar (show W.heap.size + 1 ≠ go by omega) (feA ov)
 have hsz:=hB.size
 replace hB:=below_rowSet (below_on hB hb) (show W.heap.size ≤ go by omega) (feA ov)
 have ho:=hov.row (feA ov)
 clear hb HD HDy HOv HY hz
 go_upto_region 3 with ((with_reducible refine wpL_store go 72 _ (feA ov) 4 rowFe rfl (feA_size _) (feA_one _) hov ?_ ?_ ?_); rfl; rfl)
 clear hov hl1 hl2 hsz hgo
 generalize World.setRow _ _ _ = w3 at *
 refine wp_region_plain_late 8 9 9 (by kernel_rfl) (by kernel_rfl) (by kernel_rfl) ?_
 simp only [addEdge,zA8,zAJ,zAA,zAH]
 refine wpQg_fe ghyy yy hyy rfl rfl ?_
 simp only [Act.put,zA0,zA2,zA1]
 refine wpQg_run (fe 1) rfl (fun _ _ => by kernel_rfl) ?_
 simp only [Act.put,zA0,zA2,zA1]
 refine wpQg_call 116 #[fe yy,fe 1] (fe su) rfl rfl (fun _ => by kernel_rfl) (fun w _ => HSu.out w) ?_
 simp only [Act.put,zA0,zA2,zA1]
 refine wpQg_fe go ov ho rfl rfl ?_
 simp only [Act.put,zA0,zA2,zA1]
 refine wpQg_call 121 #[fe ov] (fe io) rfl rfl (fun _ => by kernel_rfl) (fun w _ => HIn.out w) ?_
 simp only [Act.put,zA0,zA2,zA1]
 refine wpQg_call 122 #[fe su,fe io] (fe ww) rfl rfl (fun _ => by kernel_rfl) (fun w _ => HMu.out w) ?_
 simp only [Act.put,zA0,zA2,zA1]
 refine wpQg_call 152 #[fe ww] (.tuple #[fe R,.bool Bo]) rfl rfl (fun _ => by kernel_rfl) (fun w _ => HRo.out w) ?_
 simp only [Act.put,zA0,zA2,zA1]
 refine wpQg_run (fe R) rfl (fun _ _ => by kernel_rfl) ?_
 simp only [Act.put,zA0,zA2,zA1]
 refine wpQg_run (.bool Bo) rfl (fun _ _ => by kernel_rfl) ?_
 simp only [Act.put,zA0,zA2,zA1]
 refine wpQuiet_nil ?_
 intro w4 hb
 replace hr:=hr.on hb
 replace hB:=below_on hB hb
 clear hb
 go_wp2_with ((with_reducible refine wpL_store (W.heap.size + 1) 72 _ (feA R) 4 rowFe rfl (feA_size _) (feA_one _) hr ?_ ?_ ?_); rfl; rfl)
 exact bodyPost_ret (results_row_tmp Tryz.results115 rowFe (feA_size _) (hr.row _) rfl rfl) rfl ⟨rfl,below_rowSet hB (by omega) _⟩
theorem by_val:4 * invN 5 % p25 = byN:=by
 refine z_inj (zAO _ p25_pos) (by decide) ?_
 have hne:z 5 ≠ 0:=z_ne (by decide) (by decide)
 have hi:=zinv_mul hne
 have hd:z byN * z 5 = z 4:=by
   rw [← z_mul]
   exact z_iff.2 by_is
 rw [z_mod,z_mul,z_inv,← hd]
 grind
theorem bx_val:xE byN = bxN ∧ xB byN = true:=by
 have hon:On (z bxN) (z byN):=Bp_on
 have hb:xB byN = true:=(xB_iff byN).2 ⟨_,hon⟩
 have h:=xOf_is hon
 rw [val_z (by decide),decide_eq_false (by decide)] at h
 refine ⟨?_,hb⟩
 rw [h]
 unfold xOf
 rw [if_neg (by decide)]
set_option maxHeartbeats 800000 in
theorem refBase_any (W:World) :
   Calls Tryz.prog 83 #[] W fun e w' => e = .returned (af bxN byN) ∧ Below W.heap.size W w':=by
 have HI:Hid (∀ w,Calls Tryz.prog 121 #[.agg #[.int .u64 5,.int .u64 0,.int .u64 0,.int .u64 0]] w fun e w' => e = .returned (fe (invN 5)) ∧ Below w.heap.size w w'):=Lib.hid (fun w => by have h:=refInv_any 5 w (by decide); rw [← fe_small 5 (by decide)] at h; exact h)
 have HM:Hid (∀ w,Calls Tryz.prog 122 #[.agg #[.int .u64 4,.int .u64 0,.int .u64 0,.int .u64 0],fe (invN 5)] w fun e w' => e = .returned (fe byN) ∧ Below w.heap.size w w'):=Lib.hid (fun w => by have h:=refMul_any 4 (invN 5) w (by decide) (below_K (invN_lt 5)); rw [by_val,← fe_small 4 (by decide)] at h; exact h)
 have HX:=Lib.hid (fun w => refX_any byN w (by decide))
 rw [bx_val.1,bx_val.2] at HX
 generalize invN 5 = i5 at *
 generalize bxN = bx at *
 generalize byN = bb at *
 go_enter Tryz.func83,Tryz.ntmps83
 have hr:=Lies.new W 124 (#[.int .u64 0,.int .u64 0,.int .u64 0,.int .u64 0,.int .u64 0,.int .u64 0,.int .u64 0,.int .u64 0]:Array Value)
 have hB:=(Below.refl W.heap.size W).alloc (zA3 _) (.cells (#[.int .u64 0,.int .u64 0,.int .u64 0,.int .u64 0,.int .u64 0,.int .u64 0,.int .u64 0,.int .u64 0]:Array Value) 124)
 go_upto_region 1 with fail
 generalize World.alloc W _ = w0 at *
 go_upto_region 2 with (first
   | (go_at_call 121; (with_reducible refine (HI.out _).mono ?_); rintro e u1 ⟨rfl,hb⟩; replace hr:=hr.on hb; replace hB:=below_on hB hb; clear hb)
   | (go_at_call 122; (with_reducible refine (HM.out _).mono ?_); rintro e u1 ⟨rfl,hb⟩; replace hr:=hr.on hb; replace hB:=below_on hB hb; clear hb)
   | ((with_reducible refine wpL_store u1.heap.size 72 _ (feA bb) 4 rowFe ?_ (feA_size _) (feA_one _) (Lies.new u1 _ _) ?_ ?_ ?_); rfl; rfl; rfl))
 have hy:=newly_lies u1 72 fe0A (feA bb)
 have hnw:=newly u1 (.cells fe0A 72) (feA bb)
 replace hr:=hr.on hnw
 replace hB:=below_on hB hnw
 clear hnw
 generalize World.setRow _ _ _ = w1 at *
 generalize u1.heap.size = ghy at *
 go_upto_region 3 with (first
   | ((with_reducible refine wpL_load (ghy) 72 (feA bb) 4 rowFe (feA_size _) hy ?_ ?_); rfl)
   | (go_at_call 115; (with_reducible refine (HX.out _).mono ?_); rintro e u2 ⟨rfl,hb⟩; replace hr:=hr.on hb; replace hy:=hy.on hb; replace hB:=below_on hB hb; clear hb)
   | ((with_reducible refine wpL_store u2.heap.size 72 _ (feA bx) 4 rowFe ?_ (feA_size _) (feA_one _) (Lies.new u2 _ _) ?_ ?_ ?_); rfl; rfl; rfl))
 have hx:=newly_lies u2 72 fe0A (feA bx)
 have hnw:=newly u2 (.cells fe0A 72) (feA bx)
 replace hr:=hr.on hnw
 replace hy:=hy.on hnw
 replace hB:=below_on hB hnw
 clear hnw
 generalize World.setRow _ _ _ = w2 at *
 generalize u2.heap.size = ghx at *
 go_wp2_with (first
   | ((with_reducible refine wpL_load ghx 72 (feA bx) 4 rowFe (feA_size _) hx ?_ ?_); rfl)
   | ((with_reducible refine wpL_load ghy 72 (feA bb) 4 rowFe (feA_size _) hy ?_ ?_); rfl)
   | ((with_reducible refine wpL_buildV (afA bx bb) ?_ ?_); kernel_rfl)
   | ((with_reducible refine wpL_store W.heap.size 124 _ (afA bx bb) 8 rowAf rfl (afA_size _ _) (afA_one _ _) hr ?_ ?_ ?_); rfl; rfl))
 exact bodyPost_ret (results_row Tryz.results83 rowAf (afA_size _ _) (hr.row _) rfl) rfl ⟨rfl,below_rowSet hB (zA3 _) _⟩
end Go.Proofs.YteecbglmohhaeaaGreatDoor.C
namespace Go.Proofs.YteecbglmohhaeaaGreatDoor.C
open Go.RowKit Go.Proofs.YteecbglmohhaeaaGreatDoor.F
theorem leL_same (y b:Nat):∀ k,k ≤ 31 → leL (y + two255 * b) k = leL y k
 | 0,_ => rfl
 | k + 1,h => by
   rw [leL_succ,leL_succ,leL_same y b k (by omega)]
   congr 2
   have e:two255 * b = 256 ^ k * (256 * (2 ^ (255 - 8 * (k + 1)) * b)):=by
     have h1:two255 = 256 ^ k * (256 * 2 ^ (255 - 8 * (k + 1))):=by
       rw [show two255 = 2 ^ 255 by decide,show (256:Nat) = 2 ^ 8 by decide,← zC1,← zBI,← zBI]
       congr 1
       omega
     rw [h1,zAY,zAY]
   rw [e,Nat.add_mul_div_left _ _ (Nat.pow_pos (by decide)),zAX]
def topN (P:Pt):Nat:=P.y.val / 256 ^ 31
theorem topN_lt (P:Pt):topN P < 128:=by
 have h:P.y.val < p25:=P.y.isLt
 unfold topN p25 at *
 omega
theorem text_list (P:Pt):textN P = ⟨(leL P.y.val 31 ++ [(topN P + 128 * (P.x.val % 2)).toUInt8]).toArray⟩:=by
 have ht:=topN_lt P
 have hb:P.x.val % 2 < 2:=zAO _ (by decide)
 unfold textN
 rw [show (32:Nat) = 31 + 1 from rfl,leL_succ,leL_same _ _ 31 (zA3 _)]
 have e:(P.y.val + two255 * (P.x.val % 2)) / 256 ^ 31 % 256 = topN P + 128 * (P.x.val % 2):=by
   unfold topN at *
   rw [show two255 = 256 ^ 31 * 128 by decide,zAY,Nat.add_mul_div_left _ _ (Nat.pow_pos (by decide))]
   omega
 rw [e]
theorem last_byte {A:List UInt8} {x:Nat} {s:ByteArray} (hl:A.length = 31) (hx:x < 256) (es:s = ⟨(A ++ [x.toUInt8]).toArray⟩) (h:31 < s.size):(s[31]'h).toNat = x:=by
 subst es
 show ((A ++ [x.toUInt8]).toArray[31]'_).toNat = x
 rw [List.getElem_toArray,List.getElem_append_right (by omega)]
 simp only [hl,zB8,List.getElem_cons_zero]
 rw [Nat.toUInt8,zBG]
 omega
end Go.Proofs.YteecbglmohhaeaaGreatDoor.C
namespace Go.Proofs.YteecbglmohhaeaaGreatDoor.C
open Go.RowKit Go.Sort Go.Proofs.YteecbglmohhaeaaGreatDoor.F
theorem y_list (P:Pt):(⟨(leL P.y.val 32).toArray⟩:ByteArray) = ⟨(leL P.y.val 31 ++ [(topN P).toUInt8]).toArray⟩:=by
 have ht:=topN_lt P
 rw [show (32:Nat) = 31 + 1 from rfl,leL_succ]
 unfold topN at *
 rw [zAB (show P.y.val / 256 ^ 31 < 256 by omega)]
attribute [local irreducible] feA
end Go.Proofs.YteecbglmohhaeaaGreatDoor.C
