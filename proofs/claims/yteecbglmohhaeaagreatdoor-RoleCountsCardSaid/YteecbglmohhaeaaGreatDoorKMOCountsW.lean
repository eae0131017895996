import Derived.Test.YteecbglmohhaeaaGreatDoorK19
set_option maxRecDepth 100000
open List renaming getElem?_cons_succ → zAN, getElem?_cons_zero → zAF, getElem?_toArray → zA6, length_map → zAG, length_take → zAM, setIfInBounds_toArray → zA0, set_cons_succ → zA2, set_cons_zero → zA1
open Nat renaming le_refl → zA3
open Bool renaming and_eq_true → zAI
namespace Go.Proofs.YteecbglmohhaeaaGreatDoor.O
open Go.RowKit Go.Sort Go.Proofs.YteecbglmohhaeaaGreatDoor.E
open C (Pts)
open V (Lies OwnL RowL reg lessL bytesLess_is)
section
variable {a:Act} {d:Option Tmp} {x y:Operand} {t':TypeId} {pos:String} {after:Array Edge} {gd:Option (Nat × Bool)} {r:TypeId}
theorem run_neqB (b:Bool) (hx:a.eval x = .bool b) (hy:a.eval y = .bool b) (w:World) :
   (execOp a.eval ⟨d,.binOp .neq 4 x y r,t',pos,after,gd⟩).run Tryz.prog w = .ok (.value (.bool false)) w:=by
 unfold execOp
 simp only [hx,hy]
 simp [go_sem]
theorem run_neqT (b:ByteArray) (hx:a.eval x = .string b) (hy:a.eval y = .string b) (w:World) :
   (execOp a.eval ⟨d,.binOp .neq 9 x y r,t',pos,after,gd⟩).run Tryz.prog w = .ok (.value (.bool false)) w:=by
 unfold execOp
 simp only [hx,hy]
 simp [go_sem]
end
theorem counts_true {ids:List ByteArray} {need:Int} {keys:List B2} {text:ByteArray} {sigs:List B2} (h:mayR ids need keys sigs = true):checkR ids need keys text sigs = if ((countR ids keys text sigs).length:Int) < need then 31 else 0:=by
 unfold checkR
 rw [if_pos h]
theorem counts_false {ids:List ByteArray} {need:Int} {keys:List B2} {text:ByteArray} {sigs:List B2} (h:mayR ids need keys sigs = false):checkR ids need keys text sigs = 1:=by
 unfold checkR
 rw [if_neg (by rw [h]; simp)]
set_option maxHeartbeats 25600000 in
theorem countsO_walk (A:Pts EdTab) (av:Option Addr) (ac:Nat) (v1 v3:Value) (ids0:List ByteArray) (need:Int) (keys0:List B2) (text:ByteArray) (sigs0:List B2) (W:World) (h0:RowL W 1 (.slice av ids0.length ac) (ids0.map oneS)) (h1:RowL W 2 v1 (keys0.map twoS)) (h3:RowL W 2 v3 (sigs0.map twoS)) (hT:RTab W) :
   Calls Tryz.prog 3 #[.agg #[.slice av ids0.length ac,.int .i64 need],v1,.string text,v3] W fun e w' => e = .returned (.bool true) ∧ Below W.heap.size W w':=by
 obtain ⟨kv,kc,rfl,_⟩:=h1.form
 obtain ⟨sv,sc,rfl,_⟩:=h3.form
 rw [zAG] at h1 h3 ⊢
 rw [zAG]
 have HFew:=Lib.hid (fun (w1:World) (hb:Below W.heap.size W w1) => few_any av kv sv ac kc sc ids0 need keys0 sigs0 w1 ⟨h0.below hb,h1.below hb,h3.below hb⟩)
 have HTT:=Lib.hid (fun (w1:World) (hb:Below W.heap.size W w1) => hT.on hb)
 have HA:=Lib.hid (fun (w1:World) (hb:Below W.heap.size W w1) => alive_any A w1 (HTT.out w1 hb))
 have hi70:∀ x ∈ (ids0.take 18).map (cutN 70),x.size ≤ 1000:=fun x hx => by
   obtain ⟨y,_,rfl⟩:=List.mem_map.1 hx
   have:=cutN_le 70 y
   omega
 have hk70:∀ k ∈ (keys0.take 18).map cutK,k.1.size ≤ 1000:=fun x hx => by
   obtain ⟨y,_,rfl⟩:=List.mem_map.1 hx
   have:=cutN_le 70 y.1
   show (cutN 70 y.1).size ≤ 1000
   omega
 have hi18:((ids0.take 18).map (cutN 70)).length ≤ 1000:=by rw [zAG,zAM]; omega
 have hts:=cut_le text 200
 have hq1:(0:Int) ≤ min (text.size:Int) 200:=by omega
 have hq2:min (text.size:Int) 200 ≤ (text.size:Int):=by omega
 unfold FewPost at HFew
 generalize (ids0.take 18).map (cutN 70) = ids at *
 generalize (keys0.take 18).map cutK = keys at *
 generalize (sigs0.take 18).map cutS = sigs at *
 have lA:=Lies.new W 24 #[.slice av ids0.length ac,.int .i64 need]
 have HB:=(Below.refl W.heap.size W).alloc (zA3 _) (.cells #[.slice av ids0.length ac,.int .i64 need] 24)
 have hHi70:=Lib.hid hi70
 have hHk70:=Lib.hid hk70
 clear h0 h1 h3 hT hi70 hk70
 go_enter Tryz.func3,Tryz.ntmps3
 go_upto_region 2 with (first
   | ((with_reducible refine V.wpL_load W.heap.size 24 #[.slice av ids0.length ac,.int .i64 need] 2 rowRole rfl lA ?_ ?_); rfl)
   | (go_at_call 8; (with_reducible refine (HFew.out _ HB).mono ?_); rintro e w1 ⟨a1,c1,a2,c2,a3,c3,rfl,hrows,hb⟩; replace lA:=lA.on hb; replace HB:=below_on HB hb; clear hb)
   | ((with_reducible refine V.wpL_store W.heap.size 24 #[.slice av ids0.length ac,.int .i64 need] #[.slice a1 ids.length c1,.int .i64 need] 2 rowRole rfl rfl (role_one _ _ _ _) lA ?_ ?_ ?_); rfl; rfl))
 replace HB:=V.below_rowSet HB (zA3 W.heap.size) #[.slice a1 ids.length c1,.int .i64 need]
 have lA2:=lA.row #[.slice a1 ids.length c1,.int .i64 need]
 have hrw:=(hrows.rowFar (g:=W.heap.size) (by simp) #[.slice a1 ids.length c1,.int .i64 need]).rows
 clear lA hrows
 generalize w1.setRow W.heap.size #[.slice a1 ids.length c1,.int .i64 need] = w2 at *
 go_upto_region 3 with fail
 generalize text.extract 0 (min (text.size:Int) 200).toNat = tx at *
 clear hq1 hq2 HFew
 obtain ⟨b1,hb1⟩:∃ b,rightR ids need = b:=⟨_,rfl⟩
 obtain ⟨b2,hb2⟩:∃ b,keysR keys = b:=⟨_,rfl⟩
 have HRt:=Lib.hid (fun (w:World) (h:Rows4 w a1 c1 a2 c2 a3 c3 ids keys sigs) => right_any a1 c1 ids need w h.i)
 have HRr:=Lib.hid (fun (w:World) (h:Rows4 w a1 c1 a2 c2 a3 c3 ids keys sigs) => rright_any a1 c1 ids need w h.i hHi70.out)
 have HKt:=Lib.hid (fun (w:World) (h:Rows4 w a1 c1 a2 c2 a3 c3 ids keys sigs) (hb:Below W.heap.size W w) => keys_any a2 c2 keys w h.k (HTT.out w hb).u)
 have HKr:=Lib.hid (fun (w:World) (h:Rows4 w a1 c1 a2 c2 a3 c3 ids keys sigs) => rkeys_any a2 c2 keys w h.k hHk70.out)
 have HId:=Lib.hid (fun (w:World) (hb:Below W.heap.size W w) => id_any tx w (by omega) (HTT.out w hb).u)
 have HIr:=Lib.hid (fun (w:World) => refId_any tx w (by omega))
 have HCt:=Lib.hid (fun (w:World) (h:Rows4 w a1 c1 a2 c2 a3 c3 ids keys sigs) (hb:Below W.heap.size W w) => count_any A a1 a2 a3 c1 c2 c3 ids need keys tx sigs w h (by omega) (HTT.out w hb))
 have HCk:=Lib.hid (fun (w:World) (h:Rows4 w a1 c1 a2 c2 a3 c3 ids keys sigs) (hb:Below W.heap.size W w) => check_any A a1 a2 a3 c1 c2 c3 ids need keys tx sigs w h (by omega) (HTT.out w hb))
 have hM0:mayR ids need keys sigs = (b1 && b2 && decide (sigs.length ≤ 16)):=by unfold mayR; rw [hb1,hb2]
 have HCr:=Lib.hid (fun (hk:b2 = true) (w:World) (h:Rows4 w a1 c1 a2 c2 a3 c3 ids keys sigs) => rcount_any a1 a2 a3 c1 c2 c3 ids need keys tx sigs w h (by omega) (hb2.trans hk) hi18)
 rw [hb1] at HRt HRr
 rw [hb2] at HKt HKr
 clear hb1 hb2 hts hi18 hHi70 hHk70
 generalize idT tx = idt at *
 have HCk0:=HCk
 unfold CountPost at HCt
 cases hM:mayR ids need keys sigs with
 | false =>
   rw [counts_false hM] at HCk
   rw [hM] at hM0
   clear HCk0 HCr
   go_upto_region 5 with (first
     | ((with_reducible refine V.wpL_load W.heap.size 24 #[.slice a1 ids.length c1,.int .i64 need] 2 rowRole rfl lA2 ?_ ?_); rfl)
     | (go_at_call 9; (with_reducible refine (HCt.out _ hrw HB).mono ?_); rintro e w3 (⟨_,rfl,hb⟩ | ⟨hno,_⟩); rotate_left; (exact absurd (hM.symm.trans hno) (by simp)); replace lA2:=lA2.on hb; replace hrw:=hrw.on hb; replace HB:=below_on HB hb; clear hb)
     | (go_at_call 10; (with_reducible refine (HCk.out _ hrw HB).mono ?_); rintro e w4 ⟨rfl,hb⟩; replace lA2:=lA2.on hb; replace hrw:=hrw.on hb; replace HB:=below_on HB hb; clear hb))
   refine V.wp_held_any (S:=fun w' => Lies w' W.heap.size 24 #[.slice a1 ids.length c1,.int .i64 need]) 23 rfl (by kernel_rfl) ?_
   have hbD:Below w4.heap.size w4 { w4 with drawn:=w4.drawn + 1 }:=(Below.refl _ _).drew
   replace lA2:=lA2.on hbD
   replace hrw:=hrw.on hbD
   replace HB:=below_on HB hbD
   clear hbD
   generalize ({ w4 with drawn:=w4.drawn + 1 }:World) = w4d at *
   refine V.held_put 0 39 (.agg #[.slice a1 ids.length c1,.int .i64 need]) rfl rfl (by kernel_rfl) (by kernel_rfl) (by kernel_rfl) (by kernel_rfl) (fun w hS => run_ldW _ W.heap.size _ _ 2 rowRole rfl hS rfl) lA2 ?_
   simp only [zA0,zA2,zA1]
   refine V.held_put 2 41 (.agg #[.slice a1 ids.length c1,.int .i64 need]) rfl rfl (by kernel_rfl) (by kernel_rfl) (by kernel_rfl) (by kernel_rfl) (fun w hS => run_ldW _ W.heap.size _ _ 2 rowRole rfl hS rfl) lA2 ?_
   simp only [zA0,zA2,zA1]
   refine V.held_one 1 (by kernel_rfl) (V.wpOp_call 40 rfl rfl (by kernel_rfl) (by kernel_rfl) (((HRt.out _ hrw)).mono ?_))
   rintro e wk1 ⟨rfl,hbN⟩
   replace lA2:=lA2.on hbN
   replace hrw:=hrw.on hbN
   replace HB:=below_on HB hbN
   clear hbN
   refine ⟨_,rfl,lA2,?_⟩
   simp only [zA0,zA2,zA1]
   refine V.held_one 3 (by kernel_rfl) (V.wpOp_call 42 rfl rfl (by kernel_rfl) (by kernel_rfl) (((HRr.out _ hrw)).mono ?_))
   rintro e wk2 ⟨rfl,hbN⟩
   replace lA2:=lA2.on hbN
   replace hrw:=hrw.on hbN
   replace HB:=below_on HB hbN
   clear hbN
   refine ⟨_,rfl,lA2,?_⟩
   simp only [zA0,zA2,zA1]
   refine V.held_put 4 43 (.bool false) rfl rfl (by kernel_rfl) (by kernel_rfl) (by kernel_rfl) (by kernel_rfl) (fun w hS => run_neqB _ rfl rfl w) lA2 ?_
   simp only [zA0,zA2,zA1]
   refine V.held_put 5 44 (.bool false) rfl rfl (by kernel_rfl) (by kernel_rfl) (by kernel_rfl) (by kernel_rfl) (fun w hS => rfl) lA2 ?_
   simp only [zA0,zA2,zA1]
   refine V.held_put 6 45 (.slice a2 keys.length c2) rfl rfl (by kernel_rfl) (by kernel_rfl) (by kernel_rfl) (by kernel_rfl) (fun w hS => rfl) lA2 ?_
   simp only [zA0,zA2,zA1]
   refine V.held_put 8 47 (.slice a2 keys.length c2) rfl rfl (by kernel_rfl) (by kernel_rfl) (by kernel_rfl) (by kernel_rfl) (fun w hS => rfl) lA2 ?_
   simp only [zA0,zA2,zA1]
   refine V.held_one 7 (by kernel_rfl) (V.wpOp_call 46 rfl rfl (by kernel_rfl) (by kernel_rfl) (((HKt.out _ hrw HB)).mono ?_))
   rintro e wk3 ⟨rfl,hbN⟩
   replace lA2:=lA2.on hbN
   replace hrw:=hrw.on hbN
   replace HB:=below_on HB hbN
   clear hbN
   refine ⟨_,rfl,lA2,?_⟩
   simp only [zA0,zA2,zA1]
   refine V.held_one 9 (by kernel_rfl) (V.wpOp_call 48 rfl rfl (by kernel_rfl) (by kernel_rfl) (((HKr.out _ hrw)).mono ?_))
   rintro e wk4 ⟨rfl,hbN⟩
   replace lA2:=lA2.on hbN
   replace hrw:=hrw.on hbN
   replace HB:=below_on HB hbN
   clear hbN
   refine ⟨_,rfl,lA2,?_⟩
   simp only [zA0,zA2,zA1]
   refine V.held_put 10 49 (.bool false) rfl rfl (by kernel_rfl) (by kernel_rfl) (by kernel_rfl) (by kernel_rfl) (fun w hS => run_neqB _ rfl rfl w) lA2 ?_
   simp only [zA0,zA2,zA1]
   refine V.held_put 11 50 (.bool false) rfl rfl (by kernel_rfl) (by kernel_rfl) (by kernel_rfl) (by kernel_rfl) (fun w hS => rfl) lA2 ?_
   simp only [zA0,zA2,zA1]
   refine V.held_put 12 51 (.bool false) rfl rfl (by kernel_rfl) (by kernel_rfl) (by kernel_rfl) (by kernel_rfl) (fun w hS => rfl) lA2 ?_
   simp only [zA0,zA2,zA1]
   refine V.held_put 13 52 (.string tx) rfl rfl (by kernel_rfl) (by kernel_rfl) (by kernel_rfl) (by kernel_rfl) (fun w hS => rfl) lA2 ?_
   simp only [zA0,zA2,zA1]
   refine V.held_put 15 54 (.string tx) rfl rfl (by kernel_rfl) (by kernel_rfl) (by kernel_rfl) (by kernel_rfl) (fun w hS => rfl) lA2 ?_
   simp only [zA0,zA2,zA1]
   refine V.held_one 14 (by kernel_rfl) (V.wpOp_call 53 rfl rfl (by kernel_rfl) (by kernel_rfl) (((HId.out _ HB)).mono ?_))
   rintro e wk5 ⟨rfl,hbN⟩
   replace lA2:=lA2.on hbN
   replace hrw:=hrw.on hbN
   replace HB:=below_on HB hbN
   clear hbN
   refine ⟨_,rfl,lA2,?_⟩
   simp only [zA0,zA2,zA1]
   refine V.held_one 16 (by kernel_rfl) (V.wpOp_call 55 rfl rfl (by kernel_rfl) (by kernel_rfl) (((HIr.out _)).mono ?_))
   rintro e wk6 ⟨rfl,hbN⟩
   replace lA2:=lA2.on hbN
   replace hrw:=hrw.on hbN
   replace HB:=below_on HB hbN
   clear hbN
   refine ⟨_,rfl,lA2,?_⟩
   simp only [zA0,zA2,zA1]
   refine V.held_put 17 56 (.bool false) rfl rfl (by kernel_rfl) (by kernel_rfl) (by kernel_rfl) (by kernel_rfl) (fun w hS => run_neqT _ rfl rfl w) lA2 ?_
   simp only [zA0,zA2,zA1]
   refine V.held_put 18 57 (.bool false) rfl rfl (by kernel_rfl) (by kernel_rfl) (by kernel_rfl) (by kernel_rfl) (fun w hS => rfl) lA2 ?_
   simp only [zA0,zA2,zA1]
   refine V.held_put 19 58 (.bool false) rfl rfl (by kernel_rfl) (by kernel_rfl) (by kernel_rfl) (by kernel_rfl) (fun w hS => rfl) lA2 ?_
   simp only [zA0,zA2,zA1]
   refine V.held_one 20 (by kernel_rfl) (V.wpOp_call 59 rfl rfl (by kernel_rfl) (by kernel_rfl) (((HA.out _ HB)).mono ?_))
   rintro e wk7 ⟨rfl,hbN⟩
   replace lA2:=lA2.on hbN
   replace hrw:=hrw.on hbN
   replace HB:=below_on HB hbN
   clear hbN
   refine ⟨_,rfl,lA2,?_⟩
   simp only [zA0,zA2,zA1]
   refine V.held_put 21 60 (.bool false) rfl rfl (by kernel_rfl) (by kernel_rfl) (by kernel_rfl) (by kernel_rfl) (fun w hS => rfl) lA2 ?_
   simp only [zA0,zA2,zA1]
   refine V.held_put 22 61 (.bool false) rfl rfl (by kernel_rfl) (by kernel_rfl) (by kernel_rfl) (by kernel_rfl) (fun w hS => rfl) lA2 ?_
   simp only [zA0,zA2,zA1]
   refine V.held_done (by kernel_rfl) ?_
   simp only [Exit.then]
   clear hM
   cases b1 with
   | false =>
     clear hM0
     go_wp2_with (first
       | ((with_reducible refine V.wpL_load W.heap.size 24 #[.slice a1 ids.length c1,.int .i64 need] 2 rowRole rfl lA2 ?_ ?_); rfl)
       | (go_at_call 12; (with_reducible refine (HRr.out _ hrw).mono ?_); rintro e w5 ⟨rfl,hb⟩; replace lA2:=lA2.on hb; replace hrw:=hrw.on hb; replace HB:=below_on HB hb; clear hb)
       | (go_at_call 14; (with_reducible refine (HKr.out _ hrw).mono ?_); rintro e w6 ⟨rfl,hb⟩; replace HB:=below_on HB hb; clear hb))
     go_ret
     exact ⟨rfl,HB⟩
   | true =>
     cases b2 with
     | false =>
       clear hM0
       go_wp2_with (first
         | ((with_reducible refine V.wpL_load W.heap.size 24 #[.slice a1 ids.length c1,.int .i64 need] 2 rowRole rfl lA2 ?_ ?_); rfl)
         | (go_at_call 12; (with_reducible refine (HRr.out _ hrw).mono ?_); rintro e w5 ⟨rfl,hb⟩; replace lA2:=lA2.on hb; replace hrw:=hrw.on hb; replace HB:=below_on HB hb; clear hb)
         | (go_at_call 14; (with_reducible refine (HKr.out _ hrw).mono ?_); rintro e w6 ⟨rfl,hb⟩; replace HB:=below_on HB hb; clear hb))
       go_ret
       exact ⟨rfl,HB⟩
     | true =>
       have i16:(16:Int) < (sigs.length:Int):=by
         have:=of_decide_eq_false (hM0.symm.trans (by rfl):decide (sigs.length ≤ 16) = false)
         omega
       clear hM0
       go_wp2_with (first
         | ((with_reducible refine V.wpL_load W.heap.size 24 #[.slice a1 ids.length c1,.int .i64 need] 2 rowRole rfl lA2 ?_ ?_); rfl)
         | (go_at_call 12; (with_reducible refine (HRr.out _ hrw).mono ?_); rintro e w5 ⟨rfl,hb⟩; replace lA2:=lA2.on hb; replace hrw:=hrw.on hb; replace HB:=below_on HB hb; clear hb)
         | (go_at_call 14; (with_reducible refine (HKr.out _ hrw).mono ?_); rintro e w6 ⟨rfl,hb⟩; replace HB:=below_on HB hb; clear hb))
       go_ret
       exact ⟨rfl,HB⟩
 | true =>
   rw [counts_true hM] at HCk
   rw [hM] at hM0
   clear HCk0
   have h12:b1 = true ∧ b2 = true ∧ sigs.length ≤ 16:=by
     have h:=hM0.symm
     rw [zAI,zAI] at h
     exact ⟨h.1.1,h.1.2,of_decide_eq_true h.2⟩
   obtain ⟨rfl,rfl,h16⟩:=h12
   have i16:¬ (16:Int) < (sigs.length:Int):=by omega
   have HCr2:=Lib.hid (HCr.out rfl)
   unfold RCountPost at HCr2
   have HSm:=Lib.hid (same_yes (countR ids keys tx sigs))
   clear hM0 h16 HCr
   generalize countR ids keys tx sigs = L at *
   go_upto_region 5 with (first
     | ((with_reducible refine V.wpL_load W.heap.size 24 #[.slice a1 ids.length c1,.int .i64 need] 2 rowRole rfl lA2 ?_ ?_); rfl)
     | (go_at_call 9; (with_reducible refine (HCt.out _ hrw HB).mono ?_); rintro e w3 (⟨hno,_⟩ | ⟨_,v,rfl,hO,hb⟩); (exact absurd (hM.symm.trans hno) (by simp)); replace lA2:=lA2.on hb; replace hrw:=hrw.on hb; replace HB:=below_on HB hb; clear hb; have hL:=hO.read; obtain ⟨la,lc,rfl,_⟩:=hL.form)
     | (go_at_call 10; (with_reducible refine (HCk.out _ hrw HB).mono ?_); rintro e w4 ⟨rfl,hb⟩; replace lA2:=lA2.on hb; replace hrw:=hrw.on hb; replace HB:=below_on HB hb; replace hL:=hL.below hb; clear hb))
   clear hO hM
   try rw [zAG] at hL
   try rw [zAG]
   refine V.wp_held_any (S:=fun w' => Lies w' W.heap.size 24 #[.slice a1 ids.length c1,.int .i64 need]) 23 rfl (by kernel_rfl) ?_
   have hbD:Below w4.heap.size w4 { w4 with drawn:=w4.drawn + 1 }:=(Below.refl _ _).drew
   replace lA2:=lA2.on hbD
   replace hrw:=hrw.on hbD
   replace hL:=hL.below hbD
   replace HB:=below_on HB hbD
   clear hbD
   generalize ({ w4 with drawn:=w4.drawn + 1 }:World) = w4d at *
   refine V.held_put 0 39 (.agg #[.slice a1 ids.length c1,.int .i64 need]) rfl rfl (by kernel_rfl) (by kernel_rfl) (by kernel_rfl) (by kernel_rfl) (fun w hS => run_ldW _ W.heap.size _ _ 2 rowRole rfl hS rfl) lA2 ?_
   simp only [zA0,zA2,zA1]
   refine V.held_put 2 41 (.agg #[.slice a1 ids.length c1,.int .i64 need]) rfl rfl (by kernel_rfl) (by kernel_rfl) (by kernel_rfl) (by kernel_rfl) (fun w hS => run_ldW _ W.heap.size _ _ 2 rowRole rfl hS rfl) lA2 ?_
   simp only [zA0,zA2,zA1]
   refine V.held_one 1 (by kernel_rfl) (V.wpOp_call 40 rfl rfl (by kernel_rfl) (by kernel_rfl) (((HRt.out _ hrw)).mono ?_))
   rintro e wk1 ⟨rfl,hbN⟩
   replace lA2:=lA2.on hbN
   replace hrw:=hrw.on hbN
   replace hL:=hL.below hbN
   replace HB:=below_on HB hbN
   clear hbN
   refine ⟨_,rfl,lA2,?_⟩
   simp only [zA0,zA2,zA1]
   refine V.held_one 3 (by kernel_rfl) (V.wpOp_call 42 rfl rfl (by kernel_rfl) (by kernel_rfl) (((HRr.out _ hrw)).mono ?_))
   rintro e wk2 ⟨rfl,hbN⟩
   replace lA2:=lA2.on hbN
   replace hrw:=hrw.on hbN
   replace hL:=hL.below hbN
   replace HB:=below_on HB hbN
   clear hbN
   refine ⟨_,rfl,lA2,?_⟩
   simp only [zA0,zA2,zA1]
   refine V.held_put 4 43 (.bool false) rfl rfl (by kernel_rfl) (by kernel_rfl) (by kernel_rfl) (by kernel_rfl) (fun w hS => run_neqB _ rfl rfl w) lA2 ?_
   simp only [zA0,zA2,zA1]
   refine V.held_put 5 44 (.bool false) rfl rfl (by kernel_rfl) (by kernel_rfl) (by kernel_rfl) (by kernel_rfl) (fun w hS => rfl) lA2 ?_
   simp only [zA0,zA2,zA1]
   refine V.held_put 6 45 (.slice a2 keys.length c2) rfl rfl (by kernel_rfl) (by kernel_rfl) (by kernel_rfl) (by kernel_rfl) (fun w hS => rfl) lA2 ?_
   simp only [zA0,zA2,zA1]
   refine V.held_put 8 47 (.slice a2 keys.length c2) rfl rfl (by kernel_rfl) (by kernel_rfl) (by kernel_rfl) (by kernel_rfl) (fun w hS => rfl) lA2 ?_
   simp only [zA0,zA2,zA1]
   refine V.held_one 7 (by kernel_rfl) (V.wpOp_call 46 rfl rfl (by kernel_rfl) (by kernel_rfl) (((HKt.out _ hrw HB)).mono ?_))
   rintro e wk3 ⟨rfl,hbN⟩
   replace lA2:=lA2.on hbN
   replace hrw:=hrw.on hbN
   replace hL:=hL.below hbN
   replace HB:=below_on HB hbN
   clear hbN
   refine ⟨_,rfl,lA2,?_⟩
   simp only [zA0,zA2,zA1]
   refine V.held_one 9 (by kernel_rfl) (V.wpOp_call 48 rfl rfl (by kernel_rfl) (by kernel_rfl) (((HKr.out _ hrw)).mono ?_))
   rintro e wk4 ⟨rfl,hbN⟩
   replace lA2:=lA2.on hbN
   replace hrw:=hrw.on hbN
   replace hL:=hL.below hbN
   replace HB:=below_on HB hbN
   clear hbN
   refine ⟨_,rfl,lA2,?_⟩
   simp only [zA0,zA2,zA1]
   refine V.held_put 10 49 (.bool false) rfl rfl (by kernel_rfl) (by kernel_rfl) (by kernel_rfl) (by kernel_rfl) (fun w hS => run_neqB _ rfl rfl w) lA2 ?_
   simp only [zA0,zA2,zA1]
   refine V.held_put 11 50 (.bool false) rfl rfl (by kernel_rfl) (by kernel_rfl) (by kernel_rfl) (by kernel_rfl) (fun w hS => rfl) lA2 ?_
   simp only [zA0,zA2,zA1]
   refine V.held_put 12 51 (.bool false) rfl rfl (by kernel_rfl) (by kernel_rfl) (by kernel_rfl) (by kernel_rfl) (fun w hS => rfl) lA2 ?_
   simp only [zA0,zA2,zA1]
   refine V.held_put 13 52 (.string tx) rfl rfl (by kernel_rfl) (by kernel_rfl) (by kernel_rfl) (by kernel_rfl) (fun w hS => rfl) lA2 ?_
   simp only [zA0,zA2,zA1]
   refine V.held_put 15 54 (.string tx) rfl rfl (by kernel_rfl) (by kernel_rfl) (by kernel_rfl) (by kernel_rfl) (fun w hS => rfl) lA2 ?_
   simp only [zA0,zA2,zA1]
   refine V.held_one 14 (by kernel_rfl) (V.wpOp_call 53 rfl rfl (by kernel_rfl) (by kernel_rfl) (((HId.out _ HB)).mono ?_))
   rintro e wk5 ⟨rfl,hbN⟩
   replace lA2:=lA2.on hbN
   replace hrw:=hrw.on hbN
   replace hL:=hL.below hbN
   replace HB:=below_on HB hbN
   clear hbN
   refine ⟨_,rfl,lA2,?_⟩
   simp only [zA0,zA2,zA1]
   refine V.held_one 16 (by kernel_rfl) (V.wpOp_call 55 rfl rfl (by kernel_rfl) (by kernel_rfl) (((HIr.out _)).mono ?_))
   rintro e wk6 ⟨rfl,hbN⟩
   replace lA2:=lA2.on hbN
   replace hrw:=hrw.on hbN
   replace hL:=hL.below hbN
   replace HB:=below_on HB hbN
   clear hbN
   refine ⟨_,rfl,lA2,?_⟩
   simp only [zA0,zA2,zA1]
   refine V.held_put 17 56 (.bool false) rfl rfl (by kernel_rfl) (by kernel_rfl) (by kernel_rfl) (by kernel_rfl) (fun w hS => run_neqT _ rfl rfl w) lA2 ?_
   simp only [zA0,zA2,zA1]
   refine V.held_put 18 57 (.bool false) rfl rfl (by kernel_rfl) (by kernel_rfl) (by kernel_rfl) (by kernel_rfl) (fun w hS => rfl) lA2 ?_
   simp only [zA0,zA2,zA1]
   refine V.held_put 19 58 (.bool false) rfl rfl (by kernel_rfl) (by kernel_rfl) (by kernel_rfl) (by kernel_rfl) (fun w hS => rfl) lA2 ?_
   simp only [zA0,zA2,zA1]
   refine V.held_one 20 (by kernel_rfl) (V.wpOp_call 59 rfl rfl (by kernel_rfl) (by kernel_rfl) (((HA.out _ HB)).mono ?_))
   rintro e wk7 ⟨rfl,hbN⟩
   replace lA2:=lA2.on hbN
   replace hrw:=hrw.on hbN
   replace hL:=hL.below hbN
   replace HB:=below_on HB hbN
   clear hbN
   refine ⟨_,rfl,lA2,?_⟩
   simp only [zA0,zA2,zA1]
   refine V.held_put 21 60 (.bool false) rfl rfl (by kernel_rfl) (by kernel_rfl) (by kernel_rfl) (by kernel_rfl) (fun w hS => rfl) lA2 ?_
   simp only [zA0,zA2,zA1]
   refine V.held_put 22 61 (.bool false) rfl rfl (by kernel_rfl) (by kernel_rfl) (by kernel_rfl) (by kernel_rfl) (fun w hS => rfl) lA2 ?_
   simp only [zA0,zA2,zA1]
   refine V.held_done (by kernel_rfl) ?_
   simp only [Exit.then]
   go_upto_region 10 with (first
     | ((with_reducible refine V.wpL_load W.heap.size 24 #[.slice a1 ids.length c1,.int .i64 need] 2 rowRole rfl lA2 ?_ ?_); rfl)
     | (go_at_call 12; (with_reducible refine (HRr.out _ hrw).mono ?_); rintro e w5 ⟨rfl,hb⟩; replace lA2:=lA2.on hb; replace hrw:=hrw.on hb; replace HB:=below_on HB hb; replace hL:=hL.below hb; clear hb)
     | (go_at_call 14; (with_reducible refine (HKr.out _ hrw).mono ?_); rintro e w6 ⟨rfl,hb⟩; replace lA2:=lA2.on hb; replace hrw:=hrw.on hb; replace HB:=below_on HB hb; replace hL:=hL.below hb; clear hb)
     | (go_at_call 18; (with_reducible refine (HCr2.out _ hrw).mono ?_); rintro e w7 ⟨v,rfl,hO,hb⟩; replace lA2:=lA2.on hb; replace HB:=below_on HB hb; replace hL:=hL.below hb; clear hb hrw; have hL2:=hO.read; obtain ⟨lb,ld,rfl,_⟩:=hL2.form))
   clear hO
   try rw [zAG] at hL2
   try rw [zAG]
   go_upto_region 12 with (go_at_call 19; (with_reducible refine (HSm.out _ _ _ hL hL2).mono ?_); rintro e w8 ⟨rfl,hb⟩; replace lA2:=lA2.on hb; replace HB:=below_on HB hb; clear hb)
   have q1:=lA2.cell 1; simp only [zA6,zAN,zAF] at q1
   by_cases hlt:(L.length:Int) < need
   · go_wp2
     go_ret
     exact ⟨by simp,HB⟩
   · go_wp2
     go_ret
     exact ⟨by simp,HB⟩
end Go.Proofs.YteecbglmohhaeaaGreatDoor.O
