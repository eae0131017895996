import Derived.Test.YteecbglmohhaeaaGreatDoorK17
import Derived.Deep.CutRange
import Derived.Deep.RegionWith
import Derived.Deep.WholeRow
import Derived.Laws.StructEq
set_option maxRecDepth 100000
open List renaming append_assoc → zBL, append_nil → zB6, drop_eq_getElem_cons → zAS, drop_of_length_le → zAW, drop_succ_cons → zAA, drop_zero → zAH, getD_eq_getElem?_getD → zA4, getElem?_append_left → zBY, getElem?_append_right → zBJ, getElem?_cons_succ → zAN, getElem?_cons_zero → zAF, getElem?_drop → zBF, getElem?_eq_getElem → zA5, getElem?_map → zAD, getElem?_replicate → zC6, getElem?_take → zC0, getElem?_take_of_lt → zBT, getElem?_toArray → zA6, length_map → zAG, length_singleton → zBM, length_take → zAM, map_append → zC3, replicate_succ → zCA, setIfInBounds_toArray → zA0, set_append_right → zBV, set_cons_succ → zA2, set_cons_zero → zA1, take_add_one → zCC, take_succ_cons → zA8, take_zero → zAJ
open Nat renaming add_assoc → zC5, add_zero → zAZ, div_div_eq_div_mul → zB5, div_eq_of_lt → zBX, div_le_self → zB9, div_one → zCP, le_refl → zA3, le_trans → zB, lt_of_le_of_lt → zBB, lt_of_lt_of_le → zBA, lt_trans → zCI, mod_eq_of_lt → zAB, mod_lt → zAO, mul_one → zBO, pow_le_pow_right → zB1, pow_succ → zAP, pow_zero → zCG, sub_self → zB8, zero_add → zAQ, zero_le → zAR
open Array renaming getElem?_eq_getElem → zBE, length_toList → zAC
open Option renaming map_some → zBW, toList_some → zCD
open Bool renaming and_eq_true → zAI, false_and → zC8, true_and → zC7
open ByteArray renaming size_append → zBN, size_extract → zB0
namespace Go.Proofs.YteecbglmohhaeaaGreatDoor.T
open Go.RowKit
theorem info25:(Tryz.prog.info? 65).map (fun i => (i.zero,i.size,i.bytes)) = some (some (.int .u64 0),1,8):=by kernel_rfl
abbrev wordsA (s:H8):Array Value:=#[w64 s.a,w64 s.b,w64 s.c,w64 s.d,w64 s.e,w64 s.f,w64 s.g,w64 s.h]
def ksA:Array Value:=(ks.map w64).toArray
def Keysat (w:World) (g:Nat):Prop:=Lies w g 65 ksA
theorem byte_step (s:ByteArray) (t k:Nat) (hk:k < 8) (hi:8 * t + k < s.size):numL ((s.data.toList.drop (8 * t)).take (k + 1)) = 256 * numL ((s.data.toList.drop (8 * t)).take k) + (s[8 * t + k]'hi).toNat ∧ numL ((s.data.toList.drop (8 * t)).take k) < 72057594037927936:=by
 have hl:8 * t + k < s.data.toList.length:=by rw [← Lib.size_eq]; exact hi
 refine ⟨?_,?_⟩
 · rw [zCC,zBF,zA5 hl,zCD,numL_snoc]
   rfl
 · refine zBA (numL_lt _) ?_
   have h4:((s.data.toList.drop (8 * t)).take k).length ≤ 7:=zB (List.length_take_le _ _) (by omega)
   exact zB (zB1 (by decide) h4) (by decide)
theorem sched_cell (b:List UInt8) (t i:Nat) (h:i < t):((sched b t).map w64)[i]? = some (w64 ((sched b t).getD i 0)):=by
 have hl:=sched_length b t
 rw [zAD,zA4,zA5 (by omega)]
 rfl
theorem turn_is (x n:Nat) (m:Int) (w:World) (hm:m = (n:Int)) (hx:x < 18446744073709551616) (h1:0 < n) (h2:n < 64) :
   Calls Tryz.prog 182 #[.int .u64 x,.int .i64 m] w fun e w' => e = .returned (.int .u64 (rotr x n)) ∧ ∃ n,w' = w.drewN n:=by
 rw [hm]
 exact turn_any x n w hx h1 h2
theorem move_is (x n y:Nat) (m:Int) (w:World) (hm:m = (n:Int)) (hx:x < 18446744073709551616) (h2:n < 64) (hy:x / 2 ^ n = y) :
   Calls Tryz.prog 183 #[.int .u64 x,.int .i64 m] w fun e w' => e = .returned (.int .u64 (y:Int)) ∧ w' = w:=by
 rw [hm,← hy]
 exact move_any x n w hx h2
theorem sig_one (x:Nat) (hx:x < 18446744073709551616):bits BinOp.xor IntKind.u64 (bits BinOp.xor IntKind.u64 (rotr x 19:Nat) (rotr x 61:Nat)) ((x:Int) / 64) = ((ssig1 x:Nat):Int):=by
 rw [show (x:Int) / 64 = ((x / 2 ^ 6:Nat):Int) by omega]
 exact xor_words (rotr_lt x 19 hx (by decide)) (rotr_lt x 61 hx (by decide)) (zBB (zB9 _ _) hx)
theorem sig_zero (x:Nat) (hx:x < 18446744073709551616):bits BinOp.xor IntKind.u64 (bits BinOp.xor IntKind.u64 (rotr x 1:Nat) (rotr x 8:Nat)) ((x:Int) / 128) = ((ssig0 x:Nat):Int):=by
 rw [show (x:Int) / 128 = ((x / 2 ^ 7:Nat):Int) by omega]
 exact xor_words (rotr_lt x 1 hx (by decide)) (rotr_lt x 8 hx (by decide)) (zBB (zB9 _ _) hx)
theorem big_one (x:Nat) (hx:x < 18446744073709551616):bits BinOp.xor IntKind.u64 (bits BinOp.xor IntKind.u64 (rotr x 14:Nat) (rotr x 18:Nat)) (rotr x 41:Nat) = ((bsig1 x:Nat):Int):=
 xor_words (rotr_lt x 14 hx (by decide)) (rotr_lt x 18 hx (by decide)) (rotr_lt x 41 hx (by decide))
theorem big_zero (x:Nat) (hx:x < 18446744073709551616):bits BinOp.xor IntKind.u64 (bits BinOp.xor IntKind.u64 (rotr x 28:Nat) (rotr x 34:Nat)) (rotr x 39:Nat) = ((bsig0 x:Nat):Int):=
 xor_words (rotr_lt x 28 hx (by decide)) (rotr_lt x 34 hx (by decide)) (rotr_lt x 39 hx (by decide))
def shiftA (v:H8):Nat → Array Value
 | 0 => #[w64 v.a,w64 v.a,w64 v.b,w64 v.c,w64 v.d,w64 v.e,w64 v.f,w64 v.g]
 | 1 => #[w64 v.a,w64 v.b,w64 v.b,w64 v.c,w64 v.d,w64 v.e,w64 v.f,w64 v.g]
 | 2 => #[w64 v.a,w64 v.b,w64 v.c,w64 v.c,w64 v.d,w64 v.e,w64 v.f,w64 v.g]
 | 3 => #[w64 v.a,w64 v.b,w64 v.c,w64 v.d,w64 v.d,w64 v.e,w64 v.f,w64 v.g]
 | 4 => #[w64 v.a,w64 v.b,w64 v.c,w64 v.d,w64 v.e,w64 v.e,w64 v.f,w64 v.g]
 | 5 => #[w64 v.a,w64 v.b,w64 v.c,w64 v.d,w64 v.e,w64 v.f,w64 v.f,w64 v.g]
 | 6 => #[w64 v.a,w64 v.b,w64 v.c,w64 v.d,w64 v.e,w64 v.f,w64 v.g,w64 v.g]
 | _ => #[w64 v.a,w64 v.b,w64 v.c,w64 v.d,w64 v.e,w64 v.f,w64 v.g,w64 v.h]
theorem shiftA_at (v:H8) (m:Nat) (h:m < 7):(shiftA v (m + 1))[m]? = some (w64 (v.at m)):=by
 match m,h with
 | 0,_ | 1,_ | 2,_ | 3,_ | 4,_ | 5,_ | 6,_ => rfl
theorem shiftA_cur (v:H8) (m:Nat) (h:m < 7):∃ y:Int,(shiftA v (m + 1))[m + 1]? = some (.int .u64 y):=by
 match m,h with
 | 0,_ | 1,_ | 2,_ | 3,_ | 4,_ | 5,_ | 6,_ => exact ⟨_,rfl⟩
theorem ch_ref (e f g:Nat) (he:e < 18446744073709551616) (hf:f < 18446744073709551616) (hg:g < 18446744073709551616) :
   bits BinOp.xor IntKind.u64 (bits BinOp.and IntKind.u64 (e:Int) (f:Int)) (bits BinOp.and IntKind.u64 (bits BinOp.xor IntKind.u64 IntKind.u64.max (e:Int)) (g:Int)) = ((chs e f g:Nat):Int):=ch_walk e f g he hf hg
theorem shiftA_set (v:H8) (m:Nat) (h:m < 7):(shiftA v (m + 1)).setIfInBounds (m + 1) (w64 (v.at m)) = shiftA v m:=by
 match m,h with
 | 0,_ | 1,_ | 2,_ | 3,_ | 4,_ | 5,_ | 6,_ => rfl
theorem shiftA_end (v:H8) (k x:Nat):((shiftA v 0).setIfInBounds 4 (w64 ((v.d + tmp1 v k x) % 18446744073709551616))).setIfInBounds 0 (w64 ((tmp1 v k x + tmp2 v) % 18446744073709551616)) = wordsA (rnd v k x):=rfl
def plusA (s v:H8) (i:Nat):Array Value:=
 let f:=fun (j x y:Nat) => w64 (if j < i then (x + y) % 18446744073709551616 else x)
 #[f 0 s.a v.a,f 1 s.b v.b,f 2 s.c v.c,f 3 s.d v.d,f 4 s.e v.e,f 5 s.f v.f,f 6 s.g v.g,f 7 s.h v.h]
theorem plusA_at (s v:H8) (i:Nat) (h:i < 8):(plusA s v i)[i]? = some (w64 (s.at i)):=by
 match i,h with
 | 0,_ | 1,_ | 2,_ | 3,_ | 4,_ | 5,_ | 6,_ | 7,_ => rfl
theorem plusA_set (s v:H8) (i:Nat) (h:i < 8):(plusA s v i).setIfInBounds i (w64 ((s.at i + v.at i) % 18446744073709551616)) = plusA s v (i + 1):=by
 match i,h with
 | 0,_ | 1,_ | 2,_ | 3,_ | 4,_ | 5,_ | 6,_ | 7,_ => rfl
theorem wordsA_at (v:H8) (i:Nat) (h:i < 8):(wordsA v)[i]? = some (w64 (v.at i)):=by
 match i,h with
 | 0,_ | 1,_ | 2,_ | 3,_ | 4,_ | 5,_ | 6,_ | 7,_ => rfl
theorem Lies.words8 {w:World} {g:Nat} {t:TypeId} {v:H8} (h:Lies w g t (wordsA v)) :
   w.cell? ⟨g,0,none⟩ = some (w64 v.a) ∧ w.cell? ⟨g,1,none⟩ = some (w64 v.b) ∧ w.cell? ⟨g,2,none⟩ = some (w64 v.c) ∧ w.cell? ⟨g,3,none⟩ = some (w64 v.d) ∧ w.cell? ⟨g,4,none⟩ = some (w64 v.e) ∧ w.cell? ⟨g,5,none⟩ = some (w64 v.f) ∧ w.cell? ⟨g,6,none⟩ = some (w64 v.g) ∧ w.cell? ⟨g,7,none⟩ = some (w64 v.h):=
 ⟨h.cell 0,h.cell 1,h.cell 2,h.cell 3,h.cell 4,h.cell 5,h.cell 6,h.cell 7⟩
theorem only_cell {a w:World} {g:Nat} {p:Addr} {v:Value} (h:Only g a w) (hc:a.cell? p = some v) (hne:p.block ≠ g):w.cell? p = some v:=
 (World.cell?_of_block (h.block p.block (World.block_lt_of_cell? a _ hc) (fun e => hne (by injection e)))).trans hc
theorem ksA_at (t:Nat) (h:t < 80):ksA[t]? = some (w64 (kAt t)):=by
 have hl:ks.length = 80:=rfl
 unfold ksA kAt
 rw [zA6,zAD,zA4,zA5 (by omega)]
 rfl
theorem keys_cells {w:World} {g:Nat} (h:Keysat w g):∀ t,t < 80 → w.cell? ⟨g,t,none⟩ = some (w64 (kAt t)):=fun t ht => (h.cell t).trans (ksA_at t ht)
theorem row_cells {w:World} {B g cap:Nat} {b:List UInt8} (h:w.ownsRow B 65 1 (.slice (some ⟨g,0,none⟩) 80 cap) 80 ((sched b 80).map w64)):∀ t,t < 80 → w.cell? ⟨g,t,none⟩ = some (w64 ((sched b 80).getD t 0)):=fun t ht => (h.cellAt t ht).trans (sched_cell _ _ _ ht)
theorem own_drewN {w:World} {B e n:Nat} {v:Value} {xs:List Value} (h:w.ownsRow B e 1 v n xs) (k:Nat):(w.drewN k).ownsRow B e 1 v n xs:=h
def nextW (b:List UInt8) (t x:Nat):Prop:=sched b (t + 1) = sched b t ++ [x]
set_option maxHeartbeats 1600000 in
theorem mix_any (H:H8) (s:ByteArray) (gk:Nat) (W:World) (hs:s.size = 128) (hok:H.Ok) (hk:Keysat W gk) :
   Calls Tryz.prog 177 #[.agg (wordsA H),.string s,.slice (some ⟨gk,0,none⟩) 80 80] W fun e W' => e = .returned (.agg (wordsA (mix H s.data.toList))) ∧ Below W.heap.size W W':=by
 obtain ⟨i0,hi,hz0,hz1,hz2⟩:=info_parts info25
 have HS:=Lib.hid hs
 have hs1:128 ≤ s.size:=by omega
 have hs2:s.size ≤ 128:=by omega
 have hsl:s.data.toList.length = 128:=by rw [← Lib.size_eq]; exact hs
 clear hs
 go_enter Tryz.func177,Tryz.ntmps177
 go_upto_region 1 with fail
 have hh:Lies ((W.alloc (.cells (wordsA H) 106)).alloc (.cells (wordsA ⟨0,0,0,0,0,0,0,0⟩) 106)) W.heap.size 106 (wordsA H):=heap_alloc2_old W _ _
 have hr:Lies ((W.alloc (.cells (wordsA H) 106)).alloc (.cells (wordsA ⟨0,0,0,0,0,0,0,0⟩) 106)) (W.heap.size + 1) 106 (wordsA ⟨0,0,0,0,0,0,0,0⟩):=heap_alloc2_new W _ _
 have hb:=((Below.refl W.heap.size W).alloc (zA3 _) (.cells (wordsA H) 106)).alloc (by simp) (.cells (wordsA ⟨0,0,0,0,0,0,0,0⟩) 106)
 have hk2:Keysat ((W.alloc (.cells (wordsA H) 106)).alloc (.cells (wordsA ⟨0,0,0,0,0,0,0,0⟩) 106)) gk:=(Lies.alloc hk _).alloc _
 have hgk:=Lies.lt hk
 generalize (W.alloc (.cells (wordsA H) 106)).alloc (.cells (wordsA ⟨0,0,0,0,0,0,0,0⟩) 106) = w2 at *
 go_wp2_with fail
 go_loopw [7,8] (fun v i wr => ∃ t g cap:Nat,t ≤ 80 ∧ i = .int .i64 t ∧ v = .slice (some ⟨g,0,none⟩) t cap ∧ wr.ownsRow w2.heap.size 65 1 (.slice (some ⟨g,0,none⟩) t cap) t ((sched s.data.toList t).map w64) ∧ Below w2.heap.size w2 wr) (fun _ i _ => 80 - (intOf i).toNat)
 case atStart => exact ⟨0,_,_,by omega,rfl,rfl,own_empty (Lies.new _ _ _) (zA3 _),(Below.refl _ _).alloc (zA3 _) _⟩
 case round =>
   obtain ⟨t,g,cap,ht,rfl,rfl,ho,hbr⟩:=hrel
   by_cases hlt:t < 80
   · go_upto_if 27 with fail
     rw [decide_eq_true (show (t:Int) < 80 by omega)]
     go_cut [9,10,11,12] from 27 to 80 (fun s9 _ _ _ wx => ∃ x n:Nat,s9 = .int .u64 (x:Int) ∧ nextW s.data.toList t x ∧ wx = wr.drewN n)
     case first =>
       by_cases h16:t < 16
       · rw [decide_eq_true (show (t:Int) < 16 by omega)]
         go_wp2_with fail
         go_loopw [9,10] (fun n i wv => ∃ k:Nat,k ≤ 8 ∧ i = .int .i64 k ∧ n = .int .u64 ((numL ((s.data.toList.drop (8 * t)).take k):Nat):Int) ∧ wv = wr) (fun _ i _ => 8 - (intOf i).toNat)
         case atStart => exact ⟨0,by omega,rfl,rfl,rfl⟩
         case round =>
           obtain ⟨k,hk8,rfl,rfl,rfl⟩:=hrel
           by_cases hlt4:k < 8
           · have hi4:8 * t + k < s.size:=by omega
             obtain ⟨hN,hN2⟩:=byte_step s t k hlt4 hi4
             have HN:=Lib.hid hN
             clear hN
             generalize numL ((s.data.toList.drop (8 * t)).take k) = N at *
             have hu8:=u8_lt (s[8 * t + k]'hi4)
             go_wp2_with fail
             go_roundw
             case rel =>
               refine ⟨k + 1,by omega,by go_num,val_int ?_,trivial⟩
               rw [HN.out]
               omega
             case measure => simp [intOf]; omega
           · obtain rfl:k = 8:=by omega
             go_wp2_with fail
             go_meet
             exact ⟨_,0,rfl,sched_head _ _ h16,rfl⟩
       · rw [decide_eq_false (show ¬ (t:Int) < 16 by omega)]
         have k2:=(ho.cellAt (t - 2) (by omega)).trans (sched_cell s.data.toList t (t - 2) (by omega))
         have k7:=(ho.cellAt (t - 7) (by omega)).trans (sched_cell s.data.toList t (t - 7) (by omega))
         have k15:=(ho.cellAt (t - 15) (by omega)).trans (sched_cell s.data.toList t (t - 15) (by omega))
         have k16:=(ho.cellAt (t - 16) (by omega)).trans (sched_cell s.data.toList t (t - 16) (by omega))
         have HN:=Lib.hid (sched_rest s.data.toList t h16)
         have l2:=sched_at_lt s.data.toList t (t - 2)
         have l7:=sched_at_lt s.data.toList t (t - 7)
         have l15:=sched_at_lt s.data.toList t (t - 15)
         have l16:=sched_at_lt s.data.toList t (t - 16)
         have e2:IntKind.i64.wrap ((t:Int) - 2) = ((t - 2:Nat):Int):=by rw [IntWalk.i64_in _ (by omega)]; omega
         have e7:IntKind.i64.wrap ((t:Int) - 7) = ((t - 7:Nat):Int):=by rw [IntWalk.i64_in _ (by omega)]; omega
         have e15:IntKind.i64.wrap ((t:Int) - 15) = ((t - 15:Nat):Int):=by rw [IntWalk.i64_in _ (by omega)]; omega
         have e16:IntKind.i64.wrap ((t:Int) - 16) = ((t - 16:Nat):Int):=by rw [IntWalk.i64_in _ (by omega)]; omega
         have b2:((t - 2:Nat):Int) < (t:Int):=by omega
         have b7:((t - 7:Nat):Int) < (t:Int):=by omega
         have b15:((t - 15:Nat):Int) < (t:Int):=by omega
         have b16:((t - 16:Nat):Int) < (t:Int):=by omega
         generalize t - 2 = u2 at e2 b2 k2 l2 HN
         generalize t - 7 = u7 at e7 b7 k7 l7 HN
         generalize t - 15 = u15 at e15 b15 k15 l15 HN
         generalize t - 16 = u16 at e16 b16 k16 l16 HN
         generalize (sched s.data.toList t).getD u2 0 = x2 at k2 l2 HN
         generalize (sched s.data.toList t).getD u7 0 = x7 at k7 l7 HN
         generalize (sched s.data.toList t).getD u15 0 = x15 at k15 l15 HN
         generalize (sched s.data.toList t).getD u16 0 = x16 at k16 l16 HN
         go_wp2_with fail
         have T1:=Lib.hid (fun w => turn_is x2 19 19 w rfl l2 (by decide) (by decide))
         have T2:=Lib.hid (fun w => turn_is x2 61 61 w rfl l2 (by decide) (by decide))
         have T3:=Lib.hid (fun w => move_is x2 6 _ 6 w rfl l2 (by decide) rfl)
         have T4:=Lib.hid (fun w => turn_is x15 1 1 w rfl l15 (by decide) (by decide))
         have T5:=Lib.hid (fun w => turn_is x15 8 8 w rfl l15 (by decide) (by decide))
         have T6:=Lib.hid (fun w => move_is x15 7 _ 7 w rfl l15 (by decide) rfl)
         go_quiet (first | (with_reducible exact Calls.quiet_of (T1.out _)) | (with_reducible exact Calls.quiet_of (T2.out _)) | (with_reducible exact Calls.quiet_of_same (T3.out _)) | (with_reducible exact Calls.quiet_of (T4.out _)) | (with_reducible exact Calls.quiet_of (T5.out _)) | (with_reducible exact Calls.quiet_of_same (T6.out _)))
         go_wp2
         go_meet
         refine ⟨_,nq,val_int ?_,HN.out,rfl⟩
         rw [sig_one x2 l2,sig_zero x15 l15]
         simp only [IntKind.wrap_u64]
         omega
     case rest =>
       obtain ⟨x,nx,rfl,hx,rfl⟩:=hcut
       have HX:=Lib.hid hx
       have hno:=own_drewN ho nx
       have hsz:=hbr.size
       clear hx
       go_wp2_with ((with_reducible refine wpL_append w2.heap.size 65 i0 (.int .u64 0) 8 Tryz.underlying108 hi hz0 hz1 hz2 rfl _ t _ (hno.alloc _) (wr.drewN nx).heap.size (.int .u64 (x:Int)) (Lies.new (wr.drewN nx) _ _) rfl (by unfold maxLen; omega) (by omega) (by simp; omega) ?_ ?_ ?_); rfl; rfl; intro g6 cap6 w6 ho6 hgrow6)
       go_roundw
       case rel =>
         refine ⟨t + 1,g6,cap6,by omega,by go_num,rfl,?_,((below_drawn hbr nx).alloc hsz _).grown hgrow6 (by simp; omega) (fun k hk => (ho.lt k hk).1)⟩
         rw [HX.out,zC3]
         exact ho6
       case measure => simp [intOf]; omega
   · obtain rfl:t = 80:=by omega
     rw [show ((80:Nat):Int) = 80 from rfl]
     have hh5:=hh.on hbr
     have hr5:=hr.on hbr
     have hk5:Keysat wr gk:=Lies.on hk2 hbr
     have hb5:=below_on hb hbr
     have hgw:=own_far ho (t:=106) hh5 (by decide)
     go_upto_region 16 with ((with_reducible refine wpL_load W.heap.size 106 (wordsA H) 8 row26 rfl hh5 ?_ ?_); rfl)
     have hv6:=Lies.new wr 106 (wordsA H)
     have hh6:=hh5.alloc (.cells (wordsA H) 106)
     have hr6:=hr5.alloc (.cells (wordsA H) 106)
     have hk6:=keys_cells (Lies.alloc hk5 (.cells (wordsA H) 106))
     have ho6:=ho.alloc (.cells (wordsA H) 106)
     have hw6:=row_cells ho6
     have hb6:=hb5.alloc hb5.size (.cells (wordsA H) 106)
     have hgw2:g < wr.heap.size:=block_lt_of_cell ((ho.cellAt 0 (by decide)).trans (sched_cell _ _ _ (by decide)))
     have hgh:=hh5.lt
     have hgr:=hr5.lt
     have hgv:W.heap.size ≤ wr.heap.size:=hb5.size
     clear hh hr hk hk2 hb hbr hh5 hr5 hk5 hb5 ho ho6 hgw hi hz0 hz1 hz2
     generalize wr.alloc (.cells (wordsA H) 106) = w6 at *
     generalize wr.heap.size = gv at *
     go_wp2_with fail
     go_loopw [14] (fun i wr => ∃ (t:Nat) (v:H8),t ≤ 80 ∧ i = .int .i64 t ∧ v.Ok ∧ Hid (v = rnds (sched s.data.toList 80) H t) ∧ Lies wr gv 106 (wordsA v) ∧ Only gv w6 wr) (fun i _ => 80 - (intOf i).toNat)
     case atStart => exact ⟨0,H,by omega,rfl,hok,Lib.hid rfl,hv6,Only.refl _ _⟩
     case round =>
       clear hv6
       obtain ⟨t,v,ht,rfl,hv,HV,hl,hO⟩:=hrel
       by_cases hlt:t < 80
       · have kT:=only_cell hO (hk6 t hlt) (by simp only; omega)
         have wT:=only_cell hO (hw6 t hlt) (by simp only; omega)
         have HR:=Lib.hid (show rnds (sched s.data.toList 80) H (t + 1) = rnd v (kAt t) ((sched s.data.toList 80).getD t 0) by rw [rnds,HV.out])
         have lk:=kAt_lt t hlt
         have lw:=sched_at_lt s.data.toList 80 t
         have HK:=Lib.hid hv
         obtain ⟨va,vb,vc,vd,ve,vf,vg,vh⟩:=hv
         generalize kAt t = k at kT HR lk
         generalize (sched s.data.toList 80).getD t 0 = x at wT HR lw
         have hi:(t:Int) < 80:=by omega
         obtain ⟨c0,c1,c2,c3,c4,c5,c6,c7⟩:=hl.words8
         go_upto_region 21 with fail
         have A1:=Lib.hid (fun w => turn_is v.e 14 14 w rfl ve (by decide) (by decide))
         have A2:=Lib.hid (fun w => turn_is v.e 18 18 w rfl ve (by decide) (by decide))
         have A3:=Lib.hid (fun w => turn_is v.e 41 41 w rfl ve (by decide) (by decide))
         have A4:=Lib.hid (fun w => turn_is v.a 28 28 w rfl va (by decide) (by decide))
         have A5:=Lib.hid (fun w => turn_is v.a 34 34 w rfl va (by decide) (by decide))
         have A6:=Lib.hid (fun w => turn_is v.a 39 39 w rfl va (by decide) (by decide))
         go_cut [17] from 94 to 125 (fun s17 wx => s17 = .int .u64 (tmp1 v k x:Int) ∧ Lies wx gv 106 (wordsA v) ∧ Only gv w6 wx)
         case first =>
           go_quiet (first | (with_reducible exact Calls.quiet_of (A1.out _)) | (with_reducible exact Calls.quiet_of (A2.out _)) | (with_reducible exact Calls.quiet_of (A3.out _)))
           go_wp2
           go_meet
           refine ⟨?_,hl.drewN nq,hO.drewN nq⟩
           rw [big_one _ ve,ch_ref _ _ _ ve vf vg]
           exact val_int (by simp only [tmp1,IntKind.wrap_u64]; omega)
         case rest =>
           clear hl hO c0 c1 c2 c3 c4 c5 c6 c7 kT wT
           obtain ⟨rfl,hl,hO⟩:=hcut
           obtain ⟨c0,c1,c2,c3,c4,c5,c6,c7⟩:=hl.words8
           go_upto_region 22 with fail
           go_cut [18] from 126 to 149 (fun s18 wx => s18 = .int .u64 (tmp2 v:Int) ∧ Lies wx gv 106 (wordsA v) ∧ Only gv w6 wx)
           case first =>
             go_quiet (first | (with_reducible exact Calls.quiet_of (A4.out _)) | (with_reducible exact Calls.quiet_of (A5.out _)) | (with_reducible exact Calls.quiet_of (A6.out _)))
             go_wp2
             go_meet
             refine ⟨?_,hl.drewN nq,hO.drewN nq⟩
             rw [big_zero _ va,maj_walk _ _ _ va vb vc]
             exact val_int (by simp only [tmp2,IntKind.wrap_u64]; omega)
           case rest =>
             clear hl hO
             obtain ⟨rfl,hl,hO⟩:=hcut
             clear A1 A2 A3 A4 A5 A6 c0 c1 c2 c3 c4 c5 c6 c7 va vb vc vd ve vf vg vh lk lw
             have HE:=Lib.hid (shiftA_end v k x)
             go_wp2_with fail
             go_loopw [19] (fun i wv => ∃ j:Nat,j ≤ 7 ∧ i = .int .i64 j ∧ Lies wv gv 106 (shiftA v j) ∧ Only gv w6 wv) (fun i _ => (intOf i).toNat)
             case atStart => exact ⟨7,by omega,rfl,hl,hO⟩
             case round =>
               clear hl hO
               obtain ⟨j,hj,rfl,hl,hO⟩:=hrel
               by_cases h0:0 < j
               · obtain ⟨m,rfl⟩:∃ m,j = m + 1:=⟨j - 1,by omega⟩
                 have hc:=(hl.cell m).trans (shiftA_at v m (by omega))
                 have hf:=hl.frozen (m + 1)
                 obtain ⟨y,hy⟩:=shiftA_cur v m (by omega)
                 have hc1:=(hl.cell (m + 1)).trans hy
                 clear hy
                 have e1:IntKind.i64.wrap (((m + 1:Nat):Int) - 1) = (m:Int):=by rw [IntWalk.i64_in _ (by omega)]; omega
                 have HP:=Lib.hid (shiftA_set v m (by omega))
                 have b1:(m:Int) < 8:=by omega
                 have b2:((m + 1:Nat):Int) < 8:=by omega
                 go_wp2_with fail
                 go_roundw
                 case rel => exact ⟨m,by omega,rfl,by rw [← HP.out]; exact hl.put _ _,hO.put (Or.inl rfl) _⟩
                 case measure => simp [intOf]
               · obtain rfl:j = 0:=by omega
                 have hc4:wr.cell? ⟨gv,4,none⟩ = some (.int .u64 (v.d:Int)):=hl.cell 4
                 have hc0:wr.cell? ⟨gv,0,none⟩ = some (.int .u64 (v.a:Int)):=hl.cell 0
                 have hf4:=hl.frozen 4
                 have hf0:=hl.frozen 0
                 go_wp2_with fail
                 go_roundw
                 case rel =>
                   refine ⟨t + 1,rnd v k x,by omega,by go_num,rnd_ok HK.out _ _,Lib.hid HR.out.symm,?_,(hO.put (Or.inl rfl) _).put (Or.inl rfl) _⟩
                   rw [← HE.out]
                   simp only [plus_cast]
                   exact (hl.put 4 _).put 0 _
                 case measure => simp [intOf]; omega
       · obtain rfl:t = 80:=by omega
         rw [show ((80:Nat):Int) = 80 from rfl]
         have hhv:=hh6.only hO (by intro e; injection e; omega)
         have hrv:=hr6.only hO (by intro e; injection e; omega)
         have hbv:=hO.below hb6 hb6.size hgv
         clear hh6 hr6 hb6 hO hk6 hw6
         go_wp2_with fail
         go_loopw [20] (fun i wr => ∃ t:Nat,t ≤ 8 ∧ i = .int .i64 t ∧ Lies wr W.heap.size 106 (plusA H v t) ∧ Lies wr gv 106 (wordsA v) ∧ Lies wr (W.heap.size + 1) 106 (wordsA ⟨0,0,0,0,0,0,0,0⟩) ∧ Below W.heap.size W wr) (fun i _ => 8 - (intOf i).toNat)
         case atStart => exact ⟨0,by omega,rfl,hhv,hl,hrv,hbv⟩
         case round =>
           clear hhv hl hrv hbv
           obtain ⟨t,ht,rfl,hh,hl,hr,hb⟩:=hrel
           by_cases hlt:t < 8
           · have hc:=(hh.cell t).trans (plusA_at H v t hlt)
             have hd:=(hl.cell t).trans (wordsA_at v t hlt)
             have hf:=hh.frozen t
             have hi:(t:Int) < 8:=by omega
             have HP:=Lib.hid (plusA_set H v t hlt)
             go_upto_region 32 with fail
             go_region
             all_goals
               go_wp2
               go_roundw
               case rel =>
                 exact ⟨t + 1,by omega,by go_num,by rw [← HP.out,plus_cast]; exact (hh.put t _).drew,(hl.far (by simp only; omega) _).drew,(hr.far (by simp only; omega) _).drew,(hb.setCell (p:=⟨W.heap.size,t,none⟩) (zA3 _) _).drew⟩
               case measure => simp [intOf]; omega
           · obtain rfl:t = 8:=by omega
             rw [show ((8:Nat):Int) = 8 from rfl]
             have HE:=Lib.hid (show plusA H v 8 = wordsA (mix H s.data.toList) by rw [mix,← HV.out]; rfl)
             have HN:=Lib.hid (show (plusA H v 8).size = 8 from rfl)
             have HO:=Lib.hid (show Ones (plusA H v 8) by simp [Ones,plusA,Value.oneCell'])
             have H0:=Lib.hid (show (wordsA ⟨0,0,0,0,0,0,0,0⟩).size = 8 from rfl)
             have HL:=Lib.hid hh
             have HR:=Lib.hid hr
             clear hh hr hl
             obtain ⟨cs,hcs⟩:∃ cs,plusA H v 8 = cs:=⟨_,rfl⟩
             rw [hcs] at HE HN HO HL
             obtain ⟨zs,hzs⟩:∃ zs,wordsA ⟨0,0,0,0,0,0,0,0⟩ = zs:=⟨_,rfl⟩
             rw [hzs] at H0 HR
             clear hcs hzs
             go_wp2_with (first | ((with_reducible refine wpL_load W.heap.size 106 cs 8 row26 HN.out HL.out ?_ ?_); rfl) | ((with_reducible refine wpL_store (W.heap.size + 1) 106 _ cs 8 row26 H0.out HN.out HO.out HR.out ?_ ?_ ?_); rfl; rfl))
             exact bodyPost_ret (results_row Tryz.results177 row26 HN.out (HR.out.row cs) rfl) rfl ⟨by rw [HE.out],below_rowSet hb (by omega) _⟩
end Go.Proofs.YteecbglmohhaeaaGreatDoor.T
namespace Go.Proofs.YteecbglmohhaeaaGreatDoor.T
open Go.RowKit
set_option maxHeartbeats 800000 in
theorem keys_any (w:World) :
   Calls Tryz.prog 176 #[] w fun e w' => ∃ g,e = .returned (.slice (some ⟨g,0,none⟩) 80 80) ∧ w.heap.size ≤ g ∧ Keysat w' g ∧ Below w.heap.size w w':=by
 go_enter Tryz.func176,Tryz.ntmps176
 go_wp2
 go_ret
 exact ⟨_,rfl,zA3 _,Lies.new w 65 ksA,(Below.refl _ w).alloc (zA3 _) _⟩
end Go.Proofs.YteecbglmohhaeaaGreatDoor.T
namespace Go.Proofs.YteecbglmohhaeaaGreatDoor.T
open Go.RowKit
def Row32 (w:World) (g:Nat) (l:List Nat):Prop:=∀ i,i < l.length → w.cell? ⟨g,i,none⟩ = some (w64 (l.getD i 0))
theorem lies_row32 {w:World} {g:Nat} {t:TypeId} {l:List Nat} (h:Lies w g t (l.map w64).toArray):Row32 w g l:=fun i hi => by
 rw [h.cell i,zA6,zAD,zA5 hi,zA4,zA5 hi]
 rfl
def h0L:List Nat:=[h0.a,h0.b,h0.c,h0.d,h0.e,h0.f,h0.g,h0.h]
set_option maxHeartbeats 400000 in
theorem first_any (w:World) :
   Calls Tryz.prog 178 #[] w fun e w' => ∃ g,e = .returned (.slice (some ⟨g,0,none⟩) 8 8) ∧ w.heap.size ≤ g ∧ Row32 w' g h0L ∧ Below w.heap.size w w':=by
 go_enter Tryz.func178,Tryz.ntmps178
 go_wp2
 go_ret
 exact ⟨_,rfl,zA3 _,lies_row32 (l:=h0L) (Lies.new w 65 (h0L.map w64).toArray),(Below.refl _ w).alloc (zA3 _) _⟩
end Go.Proofs.YteecbglmohhaeaaGreatDoor.T
namespace Go.Proofs.YteecbglmohhaeaaGreatDoor.T
open Go.RowKit
def putAll (cs:Array Value) (o:Nat):List Value → Array Value
 | [] => cs
 | v :: r => putAll (cs.setIfInBounds o v) (o + 1) r
theorem Lies.putAll {g:Nat} {t:TypeId}:∀ (vs:List Value) (o:Nat) {w:World} {cs:Array Value},Lies w g t cs → Lies (w.setCells g o vs) g t (Go.Proofs.YteecbglmohhaeaaGreatDoor.T.putAll cs o vs)
 | [],_,_,_,h => h
 | v :: r,o,_,_,h => Lies.putAll r (o + 1) (h.put o v)
theorem Only.putAll {g:Nat} {a:World}:∀ (vs:List Value) (o:Nat) {w:World},Only g a w → Only g a (w.setCells g o vs)
 | [],_,_,h => h
 | v :: r,o,_,h => Only.putAll r (o + 1) (h.put (p:=⟨g,o,none⟩) (Or.inl rfl) v)
theorem putAll_words (K M:H8) (buf:ByteArray) (n:Nat):putAll (sumA K buf n) 0 (wordsA M).toList = sumA M buf n:=by
 simp [putAll,sumA]
theorem words_one (M:H8):∀ v ∈ (wordsA M).toList,v.oneCell' = true:=by
 intro v hv
 simp at hv
 rcases hv with rfl | rfl | rfl | rfl | rfl | rfl | rfl | rfl <;> rfl
theorem sum_some {w:World} {g n:Nat} {K:H8} {buf:ByteArray} (hl:Lies w g 133 (sumA K buf n)) (j:Nat) (hj:j < 8):(w.cell? ⟨g,j,none⟩).isSome = true:=by
 rw [hl.cell j,zBE (show j < (sumA K buf n).size from zBA hj (show 8 ≤ 10 by decide))]
 rfl
theorem store_mix {w:World} {g n:Nat} {K M:H8} {buf:ByteArray} {cs:Array Value} (hl:Lies w g 133 (sumA K buf n)) (hcs:wordsA M = cs) :
   ∃ w',(storeCells ⟨g,0,none⟩ cs.toList).run Tryz.prog w = .ok () w' ∧ Lies w' g 133 (sumA M buf n) ∧ Only g w w':=by
 have h1:=words_one M
 have h2:=hl.putAll (wordsA M).toList 0
 rw [putAll_words] at h2
 have h3:=(Only.refl w g).putAll (wordsA M).toList 0
 have h8:(wordsA M).toList.length = 8:=rfl
 rw [hcs] at h1 h2 h3 h8
 have hs:=run_storeCells_cells (P:=Tryz.prog) g 0 cs.toList 0 w
   (fun j hj => by rw [zAQ]; exact sum_some hl j (by omega))
   (fun j hj => by rw [zAQ]; exact hl.frozen j) h1
 rw [zAQ] at hs
 exact ⟨_,hs,h2,h3⟩
theorem Lies.eight {w:World} {g:Nat} {t:TypeId} {s:H8} {buf:ByteArray} {n:Nat} (h:Lies w g t (sumA s buf n)) :
   w.cell? ⟨g,0,none⟩ = some (w64 s.a) ∧ w.cell? ⟨g,1,none⟩ = some (w64 s.b) ∧ w.cell? ⟨g,2,none⟩ = some (w64 s.c) ∧ w.cell? ⟨g,3,none⟩ = some (w64 s.d) ∧ w.cell? ⟨g,4,none⟩ = some (w64 s.e) ∧ w.cell? ⟨g,5,none⟩ = some (w64 s.f) ∧ w.cell? ⟨g,6,none⟩ = some (w64 s.g) ∧ w.cell? ⟨g,7,none⟩ = some (w64 s.h):=
 ⟨h.cell 0,h.cell 1,h.cell 2,h.cell 3,h.cell 4,h.cell 5,h.cell 6,h.cell 7⟩
set_option maxHeartbeats 1600000 in
theorem refWrite_any (H:H8) (buf s:ByteArray) (n:Nat) (w:World) (hb:buf.size ≤ 1000) (hs:s.size ≤ 1000) (hn:n + s.size < 18446744073709551616) (hok:H.Ok) :
   Calls Tryz.prog 162 #[.agg (sumA H buf n),.string s] w fun e w' => e = .returned (.agg (sumA (feed H (buf.data.toList ++ s.data.toList)) (bytesOf (tailB (buf.data.toList ++ s.data.toList))) (n + s.size))) ∧ Below w.heap.size w w':=by
 have hno:¬ 9223372036854775807 < buf.size + s.size:=by omega
 have hno2:(buf ++ s).size ≤ 2000:=by rw [zBN]; omega
 have HA:=Lib.hid (list_append buf s)
 obtain ⟨gk,hgk0⟩:∃ gk:Nat,gk = 0:=⟨0,rfl⟩
 clear hgk0 gk
 have HX:=Lib.hid (heap_alloc2_old w (.cells (sumA H buf n) 133) (.cells (sumA h8zero noBytes 0) 133))
 unfold sumA
 go_enter Tryz.func162,Tryz.ntmps162
 go_wp2_with (go_at_call 176; refine (keys_any _).mono ?_; rintro e w1 ⟨gk,rfl,hgk,hk,hb1⟩; have hx:Lies w1 w.heap.size 133 (sumA H buf n):=Lies.on (heap_alloc2_old w _ _) hb1; have hz:Lies w1 (w.heap.size + 1) 133 (sumA h8zero noBytes 0):=Lies.on (heap_alloc2_new w _ _) hb1; replace hb1:=(((Below.refl _ w).alloc (zA3 _) _).alloc (by simp) _).trans (hb1.mono (by simp; omega)); simp at hgk; have k8:=hx.c8)
 go_loopw [6] (fun v wr => ∃ (r:ByteArray) (K:H8),v = .string r ∧ r.size ≤ 2000 ∧ Lies wr w.heap.size 133 (sumA K buf n) ∧ Lies wr (w.heap.size + 1) 133 (sumA h8zero noBytes 0) ∧ Keysat wr gk ∧ K.Ok ∧ Hid (feed H (buf.data.toList ++ s.data.toList) = feed K r.data.toList) ∧ Hid (tailB (buf.data.toList ++ s.data.toList) = tailB r.data.toList) ∧ Below w.heap.size w wr) (fun v _ => strSize v)
 case atStart => exact ⟨_,H,rfl,hno2,hx,hz,hk,hok,Lib.hid (by rw [HA.out]),Lib.hid (by rw [HA.out]),hb1⟩
 case round =>
   clear hx hz hk hb1 k8 hno hno2 HX
   obtain ⟨r,K,rfl,hr,hx,hz,hk,hK,HF,HL,hb1⟩:=hrel
   by_cases hlt:128 ≤ r.size
   · have HM:=Lib.hid (fun w hk => mix_any K (r.extract 0 128) gk w (by rw [extract_size _ _ _ hlt]) hK hk)
     have hM:=mix_ok K (r.extract 0 128).data.toList
     obtain ⟨M,hMd⟩:∃ M,mix K (r.extract 0 128).data.toList = M:=⟨_,rfl⟩
     rw [hMd] at HM hM
     have HD:=Lib.hid hMd
     clear hMd
     obtain ⟨cs,hcs⟩:∃ cs,wordsA M = cs:=⟨_,rfl⟩
     rw [hcs] at HM
     have hsz:cs.size = 8:=by rw [← hcs]; rfl
     have HC:=Lib.hid hcs
     clear hcs
     obtain ⟨c0,c1,c2,c3,c4,c5,c6,c7⟩:=hx.eight
     go_upto_region 4 with fail
     go_region_with (go_at_call 177; refine (HM.out wr.drew hk).mono ?_; rintro e w4 ⟨rfl,hb4⟩; have hx4:=Lies.on hx.drew hb4; have hz4:=Lies.on hz.drew hb4; have hk4:=Lies.on (Lies.drew hk) hb4; obtain ⟨w5,hst,hl5,hO5⟩:=store_mix (M:=M) hx4 HC.out)
     all_goals
       go_wp2
       go_roundw
       case rel =>
         exact ⟨_,M,rfl,by rw [zB0]; omega,hl5,hz4.only hO5 (by intro e; injection e; omega),Lies.only hk4 hO5 (by intro e; injection e; omega),hM,Lib.hid (by rw [HF.out,feed_long K r.data.toList (by rw [← Lib.size_eq]; exact hlt),← head_list,HD.out,rest_list]),Lib.hid (by rw [HL.out,tail_long r.data.toList (by rw [← Lib.size_eq]; exact hlt),rest_list]),hO5.below (below_on hb1.drew hb4) (below_on hb1.drew hb4).size (zA3 _)⟩
       case measure => simp [strSize]; omega
   · have k8:=hx.c8
     have f8:=hx.frozen 8
     have k9:=hx.c9
     have f9:=hx.frozen 9
     go_upto_region 8 with fail
     generalize hW:World.setCell (World.setCell wr _ _) _ _ = w6
     have hx6:Lies w6 w.heap.size 133 (sumA K r (n + s.size)):=by rw [← hW]; exact (Lies.buf hx r).len (n + s.size)
     have hz6:Lies w6 (w.heap.size + 1) 133 (sumA h8zero noBytes 0):=by rw [← hW]; exact (hz.far (by simp) _).far (by simp) _
     have hb6:Below w.heap.size w w6:=by rw [← hW]; exact (hb1.setCell (p:=⟨w.heap.size,8,none⟩) (zA3 _) _).setCell (p:=⟨w.heap.size,9,none⟩) (zA3 _) _
     clear hW
     have hsh:r.data.toList.length < 128:=by rw [← Lib.size_eq]; omega
     have HE:Ending.returned (.agg (sumA K r (n + s.size))) = .returned (.agg (sumA (feed H (buf.data.toList ++ s.data.toList)) (bytesOf (tailB (buf.data.toList ++ s.data.toList))) (n + s.size))):=by
       rw [HF.out,HL.out,feed_short K _ hsh,tail_short _ hsh,show bytesOf r.data.toList = r from Lib.mk_data r]
     go_wp2_with (first | ((with_reducible refine wpL_load w.heap.size 133 (sumA K r (n + s.size)) 10 row29 rfl hx6 ?_ ?_); rfl) | ((with_reducible refine wpL_store (w.heap.size + 1) 133 _ (sumA K r (n + s.size)) 10 row29 rfl rfl (sumA_one _ _ _) hz6 ?_ ?_ ?_); rfl; rfl))
     exact bodyPost_ret (results_row Tryz.results162 row29 rfl (hz6.row _) rfl) rfl ⟨HE,below_rowSet hb6 (by omega) _⟩
end Go.Proofs.YteecbglmohhaeaaGreatDoor.T
namespace Go.Proofs.YteecbglmohhaeaaGreatDoor.T
open Go.RowKit
def lenOf:Value → Nat
 | .slice _ l _ => l
 | _ => 0
def downC (N w i:Nat):List Value:=List.replicate i (Value.int .u8 0) ++ (Lib.byteCells (bigL N w)).drop i
theorem downC_start (N w:Nat):downC N w w = List.replicate w (Value.int .u8 0):=by
 unfold downC
 rw [zAW (by rw [Lib.byteCells_length,bigL_length]; exact zA3 _),zB6]
theorem downC_end (N w:Nat):downC N w 0 = Lib.byteCells (bigL N w):=rfl
theorem downC_at (N w i:Nat):(downC N w (i + 1))[i]? = some (Value.int .u8 0):=by
 unfold downC
 rw [zBY (by simp),zC6,if_pos (by omega)]
theorem bigL_at (N w i:Nat) (h:i < w):(bigL N w)[i]? = some (N / 256 ^ (w - 1 - i) % 256).toUInt8:=by
 have h1:=bigL_take N w i h
 have h2:=congrArg (fun l => l[i]?) h1
 have hl:((bigL N w).take i).length = i:=by rw [zAM,bigL_length]; omega
 simp only [zBT (Nat.lt_succ_self i)] at h2
 rw [h2,zBJ (by omega),hl,zB8]
 rfl
theorem downC_set (N w i:Nat) (h:i < w):(downC N w (i + 1)).set i (Value.int .u8 ((N / 256 ^ (w - (i + 1)) % 256:Nat):Int)) = downC N w i:=by
 have e:w - (i + 1) = w - 1 - i:=by omega
 rw [e]
 have hb:i < (Lib.byteCells (bigL N w)).length:=by rw [Lib.byteCells_length,bigL_length]; exact h
 have hx:(Lib.byteCells (bigL N w))[i] = Value.int .u8 ((N / 256 ^ (w - 1 - i) % 256:Nat):Int):=by
   have h1:=bigL_at N w i h
   have h2:(Lib.byteCells (bigL N w))[i]? = some (Value.int .u8 ((N / 256 ^ (w - 1 - i) % 256:Nat):Int)):=by
     unfold Lib.byteCells
     rw [zAD,h1]
     simp only [zBW]
     rw [toNat_lt256 _ (zAO _ (by decide))]
   rw [zA5 hb] at h2
   injection h2
 unfold downC
 rw [List.set_append_left _ _ (by simp),List.replicate_succ',zBV _ _ (by simp),List.length_replicate,zB8,zA1,zBL,zAS hb,hx]
 rfl
theorem down_next (N w i:Nat) (h:i < w):N / 256 ^ (w - (i + 1)) / 256 = N / 256 ^ (w - i):=by
 rw [zB5,← zAP,show (w - (i + 1)).succ = w - i by omega]
theorem bigL_more (N w:Nat) (h:N < 256 ^ w) (k:Nat):bigL N (w + k) = List.replicate k 0 ++ bigL N w:=by
 induction k with
 | zero => rfl
 | succ k ih =>
   rw [← zC5,bigL_head,ih,zBX (zBA h (zB1 (by decide) (by omega))),zCA]
   rfl
theorem downC_half (N:Nat) (h:N < 18446744073709551616):downC N 16 8 = Lib.byteCells (bigL N 16):=by
 unfold downC
 rw [show (16:Nat) = 8 + 8 from rfl,bigL_more N 8 h 8,Lib.byteCells_append]
 rfl
theorem own_news {w:World} {B e g n cap:Nat} {xs:List Value} (h:w.ownsRow B e 1 (.slice (some ⟨g,0,none⟩) n cap) n xs):∀ j u,xs[j]? = some u → w.cell? ((⟨g,0,none⟩:Addr).add j) = some u:=fun j u hu => by
 have hj:j < xs.length:=(List.getElem?_eq_some_iff.1 hu).1
 have hn:xs.length = n:=by simpa using h.1
 rw [Addr.add_mid,zAQ]
 exact (h.cellAt j (by omega)).trans hu
theorem wpL_appendRow {P:Program} {ops:Array Oper} {rest:List Oper} {a:Act} {w:World} {Q:Exit → Act → World → Prop} {t':TypeId} {pos:String} {after:Array Edge} {d:Option Tmp} {x y:Tmp} {ty:TypeId}
   (B:Nat) (e:TypeId) (i:TypeInfo) (z:Value) (bytes:Nat) (ht:P.underlying ty = some (.slice e)) (hi:P.info? e = some i) (hz:i.zero = some z) (hsize:i.size = 1) (hby:i.bytes = bytes) (hzs:z.cells.size = 1)
   (v:Value) (n:Nat) (xs:List Value) (hown:w.ownsRow B e 1 v n xs) (B' b m c:Nat) (us:List Value) (hrow:w.ownsRow B' e 1 (.slice (some ⟨b,0,none⟩) m c) m us) (hu:∀ u ∈ us,u.oneCell' = true) (hm:0 < m) (h63:n + m ≤ maxLen) (hbytes:(n + m) * bytes ≤ 140737488355328) (hbase:B ≤ w.heap.size)
   (hs:a.eval (.tmp x) = v) (hx:a.eval (.tmp y) = .slice (some ⟨b,0,none⟩) m c)
   (h:∀ g cap w',w'.ownsRow B e 1 (.slice (some ⟨g,0,none⟩) (n + m) cap) (n + m) (xs ++ us) → w.grownBy w' v.ownBlock → wpList P ops Q rest (a.put d (.slice (some ⟨g,0,none⟩) (n + m) cap)) w') :
   wpList P ops Q (⟨d,.call { callee:=.builtin .append,args:=#[.tmp x,.tmp y],argTypes:=#[ty,ty] },t',pos,after,none⟩ :: rest) a w:=
 wpList_append_lies (o:=⟨d,.call { callee:=.builtin .append,args:=#[.tmp x,.tmp y],argTypes:=#[ty,ty] },t',pos,after,none⟩) w rfl _ _ ty rfl B e i z 1 bytes ht hi hz hsize hby hzs (by decide) v n xs hs hown ⟨b,0,none⟩ m c us hx (by simpa using hrow.1) (own_news hrow) hu hm h63 hbytes hbase w.heap.size rfl (fun g cap w' h2 h3 _ _ => h g cap w' h2 h3)
theorem byteCells_one (l:List UInt8):∀ u ∈ Lib.byteCells l,u.oneCell' = true:=by
 intro u hu
 unfold Lib.byteCells at hu
 rw [List.mem_map] at hu
 obtain ⟨x,_,rfl⟩:=hu
 rfl
def padTo (k:Nat):List UInt8:=128 :: List.replicate k 0
theorem padTo_succ (k:Nat):padTo (k + 1) = padTo k ++ [0]:=by unfold padTo; rw [List.replicate_succ']; rfl
theorem own_single {w:World} {B g:Nat} {e:TypeId} {u:Value} (hl:Lies w g e #[u]) (hB:B ≤ g):w.ownsRow B e 1 (.slice (some ⟨g,0,none⟩) 1 1) 1 [u]:=
 ⟨rfl,.inr ⟨g,1,_,rfl,hB,hl,zA3 _,by unfold maxLen; omega,rfl,rfl⟩⟩
set_option maxHeartbeats 1600000 in
theorem refEnd_any (H:H8) (buf:ByteArray) (n:Nat) (W:World) (hr:rightB buf.size n = true) (hok:H.Ok) :
   Calls Tryz.prog 161 #[.agg (sumA H buf n)] W fun e W' => e = .returned (.string (bytesOf (endT H buf.data.toList n))) ∧ Below W.heap.size W W':=by
 obtain ⟨hr1,hr2,hr3⟩:=right_of hr
 obtain ⟨i0,hi,hz0,hz1,hz2⟩:=info_parts info5
 have HR2:=Lib.hid hr2
 clear hr hr2
 unfold sumA
 go_enter Tryz.func161,Tryz.ntmps161
 go_upto_region 1 with fail
 have hx:Lies (W.alloc (.cells (sumA H buf n) 133)) W.heap.size 133 (sumA H buf n):=Lies.new W _ _
 have hb:=(Below.refl W.heap.size W).alloc (zA3 _) (.cells (sumA H buf n) 133)
 unfold sumA at hb hx
 generalize World.alloc W _ = w1 at *
 go_wp2_with fail
 go_loopw [3] (fun v wr => ∃ k g cap:Nat,k ≤ (239 - n % 128) % 128 ∧ v = .slice (some ⟨g,0,none⟩) (k + 1) cap ∧ wr.ownsRow W.heap.size 5 1 (.slice (some ⟨g,0,none⟩) (k + 1) cap) (k + 1) (Lib.byteCells (padTo k)) ∧ Lies wr W.heap.size 133 (sumA H buf n) ∧ Below W.heap.size W wr) (fun v _ => 200 - lenOf v)
 case atStart => exact ⟨0,_,_,by omega,rfl,own_single (Lies.new w1 _ _) hb.size,hx.alloc _,hb.alloc hb.size _⟩
 case round =>
   clear hx hb
   obtain ⟨k,g,cap,hk,rfl,ho,hx,hb⟩:=hrel
   have k8:=hx.c8
   have k9:=hx.c9
   have hgw:=own_far ho (t:=133) hx (by decide)
   have hsz:=hb.size
   have hBw:=hx.lt
   by_cases h0:(buf.size + (k + 1) + 16) % 128 = 0
   · have hk2:k = (239 - n % 128) % 128:=by have:=HR2.out; omega
     have HP:=Lib.hid (show pad n = padTo k ++ bigL (8 * n) 16 by rw [hk2]; rfl)
     clear hk2
     have h1:((buf.size:Int) + ((k + 1:Nat):Int) + 16) % 128 = 0:=by omega
     go_upto_region 5 with fail
     obtain ⟨wq,hwq⟩:∃ wq,wq = wr:=⟨_,rfl⟩
     subst hwq
     go_wp2_with (at_make; refine wpList_make_full _ rfl _ _ 71 rfl wq.heap.size 5 i0 (.int .u8 0) 1 Tryz.underlying71 hi hz0 hz1 _ _ _ _ 16 rfl rfl rfl rfl ?b2 ?b3 (zA3 _) ?_)
     case b2 => rw [hz2]; omega
     case b3 => unfold maxLen; omega
     intro w5 hown5 hgrow5
     have hb5:Below wq.heap.size wq w5:=(Below.refl _ _).grown hgrow5 (zA3 _) (fun k hk => by cases hk)
     clear hgrow5
     go_wp2_with fail
     go_loopw [4,6] (fun nv i wv => ∃ j:Nat,8 ≤ j ∧ j ≤ 16 ∧ i = .int .i64 j ∧ nv = .int .u64 ((8 * n / 256 ^ (16 - j):Nat):Int) ∧ wv.ownsRow wq.heap.size 5 1 (.slice (some ⟨wq.heap.size,0,none⟩) 16 16) 16 (downC (8 * n) 16 j) ∧ Below wq.heap.size wq wv) (fun _ i _ => (intOf i).toNat)
     case atStart => exact ⟨16,by omega,by omega,rfl,val_int (by rw [zB8,zCG,zCP]; omega),by rw [downC_start]; simpa [toList_madeCells_one] using hown5,hb5⟩
     case round =>
       clear hown5 hb5
       obtain ⟨j,hj8,hj,rfl,rfl,ho5,hb5⟩:=hrel
       by_cases hj0:8 < j
       · obtain ⟨m,rfl⟩:∃ m,j = m + 1:=⟨j - 1,by omega⟩
         have hc:=(ho5.cellAt m (by omega)).trans (downC_at (8 * n) 16 m)
         have hf:=ho5.frozenAt m
         have HD:=Lib.hid (downC_set (8 * n) 16 m (by omega))
         have HN:=Lib.hid (down_next (8 * n) 16 m (by omega))
         have hX:8 * n / 256 ^ (16 - (m + 1)) ≤ 8 * n:=zB9 _ _
         have e1:IntKind.i64.wrap (((m + 1:Nat):Int) - 1) = (m:Int):=by rw [IntWalk.i64_in _ (by omega)]; omega
         have b1:(m:Int) < 16:=by omega
         generalize 8 * n / 256 ^ (16 - (m + 1)) = X at *
         go_wp2_with fail
         go_roundw
         case rel => exact ⟨m,by omega,by omega,rfl,val_int (by rw [← HN.out]; omega),by rw [← HD.out]; exact (ho5.stored m _).1,hb5.setCell (p:=⟨wq.heap.size,m,none⟩) (zA3 _) _⟩
         case measure => simp [intOf]
       · obtain rfl:j = 8:=by omega
         rw [downC_half (8 * n) (by omega)] at ho5
         have ho2:=own_on ho hb5
         have hx2:=hx.on hb5
         have hb2:=below_on hb hb5
         have hB2:=hb2.size
         have hge:=fun j hj => (ho.lt j hj).1
         obtain ⟨Y,y8,y9,HY,hY,HW⟩:∃ (Y:H8) (b:ByteArray) (m:Nat),Hid (outT Y = endT H buf.data.toList n) ∧ Y.Ok ∧ Hid (∀ w,Calls Tryz.prog 162 #[.agg (sumA H buf n),.string ⟨(pad n).toArray⟩] w fun e w' => e = .returned (.agg (sumA Y b m)) ∧ Below w.heap.size w w'):=
           ⟨_,_,_,Lib.hid rfl,feed_ok' hok _,Lib.hid fun w => refWrite_any H buf (bytesOf (pad n)) n w (by omega) (by rw [bytes_size,pad_length]; omega) (by rw [bytes_size,pad_length]; omega) hok⟩
         clear k8 k9 hx hb h0 h1 hb5
         go_upto_region 13 with (first | ((with_reducible refine wpL_appendRow W.heap.size 5 i0 (.int .u8 0) 1 Tryz.underlying71 hi hz0 hz1 hz2 rfl _ (k + 1) _ ho2 wq.heap.size wq.heap.size 16 16 _ ho5 (byteCells_one _) (by omega) (by unfold maxLen; omega) (by omega) hB2 ?_ ?_ ?_); rfl; rfl; intro g6 cap6 w6 ho6 hgrow6; rw [← Lib.byteCells_append,← HP.out] at ho6; have hcv:=str_own ho6; have hx6:=hx2.only hgrow6 (fun e => hgw e.symm); have hb6:=hb2.grown hgrow6 hB2 hge; clear hgrow6) | ((with_reducible refine wpL_load W.heap.size 133 (sumA H buf n) 10 row29 rfl hx6 ?_ ?_); rfl) | (go_at_call 162; refine (HW.out w6).mono ?_; rintro e w7 ⟨rfl,hb7⟩; replace hb7:=below_on hb6 hb7) | ((with_reducible refine wpL_store w7.heap.size 133 _ (sumA Y y8 y9) 10 row29 ?_ ?_ ?_ (Lies.new w7 _ _) ?_ ?_ ?_); rfl; rfl; exact sumA_one _ _ _; rfl; rfl))
         generalize hW8:World.setRow _ _ _ = w8
         have hl8:Lies w8 w7.heap.size 133 (sumA Y y8 y9):=by rw [← hW8]; exact (Lies.new w7 _ _).row _
         have hb8:Below W.heap.size W w8:=by rw [← hW8]; exact below_rowSet (hb7.alloc hb7.size _) hb7.size _
         clear hW8
         have HWd:=Lib.hid (fun o:Obj => (Lies.alloc hl8 o).words)
         have HB8:=hb8.alloc hb8.size (.cells #[] 5)
         have hB8:=hb8.size
         have ho8:=Lies.new w8 5 #[]
         have hix:=index_eight Y
         clear hl8 hb8 hb7 hb6 hx6 ho6 hcv ho5 ho2 hx2 hb2 hgw hge ho HW HP
         go_wp2_with ((with_reducible refine wpL_loadMid w7.heap.size 0 (wordsL Y) 8 row26 rfl (HWd.out _) ?_ ?_); rfl)
         simp only [wordsL]
         go_loopw [8,53] (fun o i wr => ∃ k g cap:Nat,k ≤ 8 ∧ i = .int .i64 k ∧ o = .slice (some ⟨g,0,none⟩) (8 * k) cap ∧ wr.ownsRow W.heap.size 5 1 (.slice (some ⟨g,0,none⟩) (8 * k) cap) (8 * k) (Lib.byteCells (outTo Y k)) ∧ Below W.heap.size W wr) (fun _ i _ => 8 - (intOf i).toNat)
         case atStart => exact ⟨0,_,_,by omega,rfl,rfl,own_empty ho8 hB8,HB8⟩
         case round =>
           clear ho8 HB8 HWd
           obtain ⟨k,g,cap,hk,rfl,rfl,ho,hb⟩:=hrel
           obtain ⟨wq,hwq⟩:∃ wq,wq = wr:=⟨_,rfl⟩
           subst hwq
           by_cases hlt:k < 8
           · have hx:=hix k hlt
             clear hix
             have hV:=H8.at_lt hY k
             have HS:=Lib.hid (show outTo Y (k + 1) = outTo Y k ++ bigL (Y.at k) 8 from rfl)
             generalize Y.at k = V at hx hV HS
             go_wp2_with (at_make; refine wpList_make_full _ rfl _ _ 71 rfl wq.heap.size 5 i0 (.int .u8 0) 1 Tryz.underlying71 hi hz0 hz1 _ _ _ _ 8 rfl rfl rfl rfl ?b2 ?b3 (zA3 _) ?_)
             case b2 => rw [hz2]; omega
             case b3 => unfold maxLen; omega
             intro w5 hown5 hgrow5
             have hb5:Below wq.heap.size wq w5:=(Below.refl _ _).grown hgrow5 (zA3 _) (fun k hk => by cases hk)
             clear hgrow5
             go_wp2_with fail
             go_loopw [10,12] (fun nv i wv => ∃ j:Nat,j ≤ 8 ∧ i = .int .i64 j ∧ nv = .int .u64 ((V / 256 ^ (8 - j):Nat):Int) ∧ wv.ownsRow wq.heap.size 5 1 (.slice (some ⟨wq.heap.size,0,none⟩) 8 8) 8 (downC V 8 j) ∧ Below wq.heap.size wq wv) (fun _ i _ => (intOf i).toNat)
             case atStart => exact ⟨8,by omega,rfl,val_int (by rw [zB8,zCG,zCP]),by rw [downC_start]; simpa [toList_madeCells_one] using hown5,hb5⟩
             case round =>
               clear hown5 hb5
               obtain ⟨j,hj,rfl,rfl,ho5,hb5⟩:=hrel
               by_cases hj0:0 < j
               · obtain ⟨m,rfl⟩:∃ m,j = m + 1:=⟨j - 1,by omega⟩
                 have hc:=(ho5.cellAt m (by omega)).trans (downC_at V 8 m)
                 have hf:=ho5.frozenAt m
                 have HD:=Lib.hid (downC_set V 8 m (by omega))
                 have HN:=Lib.hid (down_next V 8 m (by omega))
                 have hX:V / 256 ^ (8 - (m + 1)) ≤ V:=zB9 _ _
                 have e1:IntKind.i64.wrap (((m + 1:Nat):Int) - 1) = (m:Int):=by rw [IntWalk.i64_in _ (by omega)]; omega
                 have b1:(m:Int) < 8:=by omega
                 generalize V / 256 ^ (8 - (m + 1)) = X at *
                 go_wp2_with fail
                 go_roundw
                 case rel => exact ⟨m,by omega,rfl,val_int (by rw [← HN.out]; omega),by rw [← HD.out]; exact (ho5.stored m _).1,hb5.setCell (p:=⟨wq.heap.size,m,none⟩) (zA3 _) _⟩
                 case measure => simp [intOf]
               · obtain rfl:j = 0:=by omega
                 rw [downC_end] at ho5
                 have ho2:=own_on ho hb5
                 have hb2:=below_on hb hb5
                 have hB2:=hb2.size
                 have hge:=fun j hj => (ho.lt j hj).1
                 go_wp2_with ((with_reducible refine wpL_appendRow W.heap.size 5 i0 (.int .u8 0) 1 Tryz.underlying71 hi hz0 hz1 hz2 rfl _ (8 * k) _ ho2 wq.heap.size wq.heap.size 8 8 _ ho5 (byteCells_one _) (by omega) (by unfold maxLen; omega) (by omega) hB2 ?_ ?_ ?_); rfl; rfl; intro g6 cap6 w6 ho6 hgrow6)
                 go_roundw
                 case rel => exact ⟨k + 1,g6,cap6,by omega,by go_num,rfl,by rw [HS.out,Lib.byteCells_append]; exact ho6,hb2.grown hgrow6 hB2 hge⟩
                 case measure => simp [intOf]; omega
           · obtain rfl:k = 8:=by omega
             have hcv:=str_own ho
             clear hix
             go_wp2
             go_ret
             exact ⟨ret1_of (val_str (by rw [outTo_end,HY.out])),hb⟩
   · have h1:¬ ((buf.size:Int) + ((k + 1:Nat):Int) + 16) % 128 = 0:=by omega
     have hk2:k + 1 ≤ (239 - n % 128) % 128:=by have:=HR2.out; omega
     have HS:=Lib.hid (padTo_succ k)
     go_wp2_with ((with_reducible refine wpL_append W.heap.size 5 i0 (.int .u8 0) 1 Tryz.underlying71 hi hz0 hz1 hz2 rfl _ (k + 1) _ (ho.alloc _) wr.heap.size (.int .u8 0) (Lies.new wr _ _) rfl (by unfold maxLen; omega) (by omega) (by simp; omega) ?_ ?_ ?_); rfl; rfl; intro g6 cap6 w6 ho6 hgrow6)
     go_roundw
     case rel =>
       exact ⟨k + 1,g6,cap6,hk2,rfl,by rw [HS.out,Lib.byteCells_append]; exact ho6,Lies.only (hx.alloc _) hgrow6 (fun e => hgw e.symm),(hb.alloc hsz _).grown hgrow6 (by simp; omega) (fun j hj => (ho.lt j hj).1)⟩
     case measure => simp [lenOf]; omega
end Go.Proofs.YteecbglmohhaeaaGreatDoor.T
namespace Go.Proofs.YteecbglmohhaeaaGreatDoor.T
open Go.RowKit
def newA (i:Nat):Array Value:=
 let f:=fun (j x:Nat) => w64 (if j < i then x else 0)
 #[f 0 h0.a,f 1 h0.b,f 2 h0.c,f 3 h0.d,f 4 h0.e,f 5 h0.f,f 6 h0.g,f 7 h0.h,.string noBytes,.int .u64 0]
theorem newA_at (i:Nat) (h:i < 8):(newA i)[i]? = some (w64 0):=by
 match i,h with
 | 0,_ | 1,_ | 2,_ | 3,_ | 4,_ | 5,_ | 6,_ | 7,_ => rfl
theorem newA_set (i:Nat) (h:i < 8):(newA i).setIfInBounds i (w64 (h0L.getD i 0)) = newA (i + 1):=by
 match i,h with
 | 0,_ | 1,_ | 2,_ | 3,_ | 4,_ | 5,_ | 6,_ | 7,_ => rfl
theorem newA_end:newA 8 = sumA h0 noBytes 0:=rfl
theorem Row32.far {w:World} {g:Nat} {l:List Nat} (h:Row32 w g l) {p:Addr} (hp:p.block ≠ g) (v:Value):Row32 (w.setCell p v) g l:=fun i hi => by
 rw [World.cell?_setCell_other w p ⟨g,i,none⟩ v (fun e => hp (by rw [e]))]
 exact h i hi
set_option maxHeartbeats 800000 in
theorem refNew_any (w:World) :
   Calls Tryz.prog 163 #[] w fun e w' => e = .returned (.agg (sumA h0 noBytes 0)) ∧ Below w.heap.size w w':=by
 go_enter Tryz.func163,Tryz.ntmps163
 go_upto_region 2 with fail
 generalize hW:World.alloc (World.alloc w _) _ = w2
 have hz:Lies w2 w.heap.size 133 (sumA h8zero noBytes 0):=by rw [← hW]; exact heap_alloc2_old w _ _
 have hx:Lies w2 (w.heap.size + 1) 133 (newA 0):=by rw [← hW]; exact heap_alloc2_new w _ _
 have hb:Below w.heap.size w w2:=by rw [← hW]; exact ((Below.refl w.heap.size w).alloc (zA3 _) _).alloc (by simp) _
 clear hW
 go_wp2_with (go_at_call 178; refine (first_any _).mono ?_; rintro e w3 ⟨gf,rfl,hgf,hf,hb3⟩; replace hz:=hz.on hb3; replace hgf:=zBA (Lies.lt hx) hgf; replace hx:=hx.on hb3; replace hb:=below_on hb hb3; clear hb3)
 go_loopw [7] (fun ix wr => ∃ k:Nat,k ≤ 8 ∧ ix = .int .i64 k ∧ Lies wr w.heap.size 133 (sumA h8zero noBytes 0) ∧ Lies wr (w.heap.size + 1) 133 (newA k) ∧ Row32 wr gf h0L ∧ Below w.heap.size w wr) (fun ix _ => 8 - (intOf ix).toNat)
 case atStart => exact ⟨0,by omega,rfl,hz,hx,hf,hb⟩
 case round =>
   clear hz hx hf hb
   obtain ⟨k,hk,rfl,hz,hx,hf,hb⟩:=hrel
   by_cases hlk:k < 8
   · have hX:=hf k hlk
     have HP:=Lib.hid (newA_set k hlk)
     have hc:=(hx.cell k).trans (newA_at k hlk)
     have hfz:=hx.frozen k
     generalize h0L.getD k 0 = X at hX HP
     have b1:(k:Int) < 8:=by omega
     go_wp2_with fail
     go_roundw
     case rel => exact ⟨k + 1,by omega,by go_num,hz.far (by simp only; omega) _,by rw [← HP.out]; exact hx.put k _,hf.far (by simp only; omega) _,hb.setCell (p:=⟨w.heap.size + 1,k,none⟩) (by simp only; omega) _⟩
     case measure => simp [intOf]; omega
   · obtain rfl:k = 8:=by omega
     rw [newA_end] at hx
     go_wp2_with (first | ((with_reducible refine wpL_load (w.heap.size + 1) 133 (sumA h0 noBytes 0) 10 row29 rfl hx ?_ ?_); rfl) | ((with_reducible refine wpL_store w.heap.size 133 _ (sumA h0 noBytes 0) 10 row29 rfl rfl (sumA_one _ _ _) hz ?_ ?_ ?_); rfl; rfl))
     exact bodyPost_ret (results_row Tryz.results163 row29 rfl (hz.row _) rfl) rfl ⟨rfl,below_rowSet hb (zA3 _) _⟩
set_option maxHeartbeats 800000 in
theorem refSum_any (s:ByteArray) (w:World) (hs:s.size ≤ 1000) :
   Calls Tryz.prog 123 #[.string s] w fun e w' => e = .returned (.string (bytesOf (sumT s.data.toList))) ∧ Below w.heap.size w w':=by
 have hz:s.data.toList.length = s.size:=(Lib.size_eq s).symm
 have hW:=fun w => refWrite_any h0 noBytes s 0 w (by decide) hs (by omega) h0_ok
 rw [show noBytes.data.toList ++ s.data.toList = s.data.toList from rfl,zAQ] at hW
 have hE:=fun w => refEnd_any (feed h0 s.data.toList) (bytesOf (tailB s.data.toList)) s.size w (by unfold rightB; rw [bytes_size,tail_length]; simp; omega) (feed_ok' h0_ok _)
 rw [show (bytesOf (tailB s.data.toList)).data.toList = tailB s.data.toList from rfl,← hz,end_sum] at hE
 rw [← hz] at hW
 have HW:=Lib.hid hW
 have HE:=Lib.hid hE
 clear hW hE
 go_enter Tryz.func123,Tryz.ntmps123
 go_wp2_with (first | (go_at_call 163; refine (refNew_any _).mono ?_; rintro e w1 ⟨rfl,hb1⟩) | (go_at_call 162; refine (HW.out _).mono ?_; rintro e w2 ⟨rfl,hb2⟩; replace hb1:=below_on hb1 hb2) | (go_at_call 161; refine (HE.out _).mono ?_; rintro e w3 ⟨rfl,hb3⟩; replace hb1:=below_on hb1 hb3))
 go_ret
 exact ⟨rfl,hb1⟩
end Go.Proofs.YteecbglmohhaeaaGreatDoor.T
namespace Go.Proofs.YteecbglmohhaeaaGreatDoor.E
open Go.RowKit Go.Sort Go.Proofs.YteecbglmohhaeaaGreatDoor.F Go.Proofs.YteecbglmohhaeaaGreatDoor.C
theorem base_af:af bxN byN = af Bp.x.val Bp.y.val:=by
 rw [show Bp.x.val = bxN from val_z (by decide),show Bp.y.val = byN from val_z (by decide)]
attribute [local irreducible] feA afA ptA
set_option maxHeartbeats 800000 in
theorem rwide_any (s:ByteArray) (hs:s.size ≤ 1000) (W:World) :
   Calls Tryz.prog 80 #[.string s] W fun e w' => e = .returned (fe (leftN s.data.toList)) ∧ Below W.heap.size W w':=by
 have HS:=Lib.hid (fun w => T.refSum_any s w hs)
 have hsz:(T.bytesOf (T.sumT s.data.toList)).size = 64:=by rw [T.bytes_size,T.sumT_length]
 have HW:=Lib.hid (fun w => G.refWide_any (T.bytesOf (T.sumT s.data.toList)) (by omega) w)
 rw [show numLE (T.bytesOf (T.sumT s.data.toList)).data.toList % G.l25 = leftN s.data.toList from rfl] at HW
 generalize leftN s.data.toList = n at *
 generalize T.bytesOf (T.sumT s.data.toList) = S at *
 clear hsz hs
 go_enter Tryz.func80,Tryz.ntmps80
 have hr:=Lies.new W 67 fe0A
 have hB:=(Below.refl W.heap.size W).alloc (zA3 _) (.cells fe0A 67)
 go_upto_region 1 with fail
 generalize World.alloc W _ = w0 at *
 go_wp2_with (first
   | (go_at_call 123; (with_reducible refine (HS.out _).mono ?_); rintro e w1 ⟨rfl,hb⟩; replace hr:=hr.on hb; replace hB:=below_on hB hb; clear hb)
   | (go_at_call 82; (with_reducible refine (HW.out _).mono ?_); rintro e w2 ⟨rfl,hb⟩; replace hr:=hr.on hb; replace hB:=below_on hB hb; clear hb)
   | ((with_reducible refine wpL_store W.heap.size 67 _ (feA n) 4 G.rowFe rfl (feA_size _) (feA_one _) hr ?_ ?_ ?_); rfl; rfl))
 exact bodyPost_ret (results_row Tryz.results80 G.rowFe (feA_size _) (hr.row _) rfl) rfl ⟨rfl,below_rowSet hB (zA3 _) _⟩
section
variable {a:Act} {d:Option Tmp} {x y:Tmp} {t':TypeId} {pos:String} {after:Array Edge} {gd:Option (Nat × Bool)} {r:TypeId}
end
end Go.Proofs.YteecbglmohhaeaaGreatDoor.E
namespace Go.Proofs.YteecbglmohhaeaaGreatDoor.C
open Go.RowKit Go.Sort Go.Proofs.YteecbglmohhaeaaGreatDoor.F
theorem eq_af (w:World) (a0 a1 a2 a3 b0 b1 b2 b3 c0 c1 c2 c3 d0 d1 d2 d3:Int) :
   (Op.equalIn 10000 124 (.agg #[.int .u64 a0,.int .u64 a1,.int .u64 a2,.int .u64 a3,.int .u64 b0,.int .u64 b1,.int .u64 b2,.int .u64 b3]) (.agg #[.int .u64 c0,.int .u64 c1,.int .u64 c2,.int .u64 c3,.int .u64 d0,.int .u64 d1,.int .u64 d2,.int .u64 d3])).run Tryz.prog w = .ok ((a0 == c0 && a1 == c1 && a2 == c2 && a3 == c3) && (b0 == d0 && b1 == d1 && b2 == d2 && b3 == d3)) w:=by
 have h0:=eq_four 9997 w a0 a1 a2 a3 c0 c1 c2 c3
 have h1:=eq_four 9997 w b0 b1 b2 b3 d0 d1 d2 d3
 rw [run_equalIn_agg (P:=Tryz.prog) w 9999 124 _ _ (by kernel_rfl) (by kernel_rfl)]
 generalize (a0 == c0 && a1 == c1 && a2 == c2 && a3 == c3) = A at *
 generalize (b0 == d0 && b1 == d1 && b2 == d2 && b3 == d3) = B at *
 simp only [Program.fieldsOf,Tryz.underlying124]
 cases A <;> cases B <;> simp [go_sem,h0,h1]
end Go.Proofs.YteecbglmohhaeaaGreatDoor.C
namespace Go.Proofs.YteecbglmohhaeaaGreatDoor.E
open Go.RowKit Go.Sort Go.Proofs.YteecbglmohhaeaaGreatDoor.F Go.Proofs.YteecbglmohhaeaaGreatDoor.C
theorem keyQ_text (t:ByteArray) (h32:t.size = 32) (h:keyB t = true):textN (keyQ t) = t:=by
 have hl:t.data.toList.length = 32:=by rw [zAC]; exact h32
 have hlt:=numLE_lt t.data.toList
 have hback:leL (numLE t.data.toList) 32 = t.data.toList:=by rw [← hl]; exact leL_numLE _
 rw [hl] at hlt
 unfold keyB keyY keyO parseB at h
 simp only [zAI,decide_eq_true_eq] at h
 obtain ⟨⟨hm,_⟩,hx⟩:=h
 have hpar:=xOf_odd (numLE t.data.toList % two255) (decide (two255 ≤ numLE t.data.toList)) (by
   cases hd:decide (two255 ≤ numLE t.data.toList) with
   | false => exact .inr rfl
   | true =>
     rw [hd] at hx
     refine .inl (fun e => ?_)
     rw [e] at hx
     exact absurd hx (by decide))
 unfold textN keyQ keyY keyO
 show (⟨(leL ((z (numLE t.data.toList % two255)).val + two255 * ((z (xOf (numLE t.data.toList % two255) (decide (two255 ≤ numLE t.data.toList)))).val % 2)) 32).toArray⟩:ByteArray) = t
 rw [val_z hm,val_z (xOf_lt _ _),hpar]
 have h2:(256:Nat) ^ 32 = 2 * two255:=by decide
 have hsum:numLE t.data.toList % two255 + two255 * (if decide (two255 ≤ numLE t.data.toList) = true then 1 else 0) = numLE t.data.toList:=by
   rw [h2] at hlt
   unfold two255 at *
   by_cases hd:57896044618658097711785492504343953926634992332820282019728792003956564819968 ≤ numLE t.data.toList
   · rw [if_pos (decide_eq_true hd)]
     omega
   · rw [if_neg (by simpa using hd)]
     omega
 rw [hsum,hback]
theorem key_textE {P:Pt} (h:P.On):keyB (textN P) = true ∧ keyQ (textN P) = P:=by
 have hp:=text_parts P
 have e1:keyY (textN P) = P.y.val:=hp.1
 have e2:keyO (textN P) = decide (P.x.val % 2 = 1):=hp.2
 have hb:keyB (textN P) = true:=by unfold keyB; rw [e1,e2]; exact parseB_on h
 refine ⟨hb,?_⟩
 have h1:=key_pn hb
 rw [e1,e2] at h1
 exact h1.same (parseT_pn h)
theorem keyQ_on {t:ByteArray} (h:keyB t = true):(keyQ t).On:=(key_pn h).on
theorem keyQ_af {t:ByteArray} (h:keyB t = true):af (xOf (keyY t) (keyO t)) (keyY t) = af (keyQ t).x.val (keyQ t).y.val:=by
 have hy:keyY t < p25:=by
   unfold keyB parseB at h
   simp only [zAI,decide_eq_true_eq] at h
   exact h.1.1
 rw [show (keyQ t).x.val = xOf (keyY t) (keyO t) from val_z (xOf_lt _ _),show (keyQ t).y.val = keyY t from val_z hy]
theorem less_back {P R:Pt} (hP:P.On) (hR:R.On):(P.add R.neg).add R = P:=by
 rw [Pt.add_assoc hP (Pt.neg_on hR) hR,Pt.add_comm R.neg R,Pt.add_neg hR,Pt.add_zero hP]
theorem ref_eq {key m sig:ByteArray} (hk:keyB key = true) (h32:(sig.extract 0 32).size = 32) :
   sigR key m sig = sig.extract 0 32 ↔ keyB (sig.extract 0 32) = true ∧ ((keyQ key).smul (sigK key m sig)).add (keyQ (sig.extract 0 32)) = Bp.smul (sigN sig):=by
 have hP:=keyQ_on hk
 have hkP:=Pt.smul_on hP (sigK key m sig)
 have hS:=Pt.smul_on Bp_on (sigN sig)
 unfold sigR
 constructor
 · intro e
   have h:=key_textE (Pt.add_on hS (Pt.neg_on hkP))
   rw [e] at h
   refine ⟨h.1,?_⟩
   rw [h.2,Pt.add_comm,less_back hS hkP]
 · rintro ⟨hb,e⟩
   rw [← e,Pt.add_comm,Pt.add_comm ((keyQ key).smul _),← Pt.add_assoc (Pt.neg_on hkP) (keyQ_on hb) hkP,Pt.add_comm ((keyQ key).smul _).neg,less_back (keyQ_on hb) hkP]
   exact keyQ_text _ h32 hb
theorem pt_eq_is (P Q:Pt):(decide (P.x.val = Q.x.val) && decide (P.y.val = Q.y.val)) = ptEq P Q:=by
 unfold ptEq
 rw [Bool.eq_iff_iff,zAI,zAI,decide_eq_true_iff,decide_eq_true_iff,decide_eq_true_iff,decide_eq_true_iff]
 exact ⟨fun h => ⟨Fin.ext h.1,Fin.ext h.2⟩,fun h => by rw [h.1,h.2]; exact ⟨rfl,rfl⟩⟩
theorem neq_af_any (w:World) (x y u v:Nat) (hx:x < K256) (hy:y < K256) (hu:u < K256) (hv:v < K256):(binOp .neq 124 (af x y) (af u v)).run Tryz.prog w = .ok (.bool (!(decide (x = u) && decide (y = v)))) w:=by
 rw [← fe_same x u hx hu,← fe_same y v hy hv,run_neq_struct]
 exact (congrArg (fun r => Result.andThen r _) (eq_af w _ _ _ _ _ _ _ _ _ _ _ _ _ _ _ _)).trans rfl
theorem neq_af_exe {o:Oper} {a:Act} {p q:Operand} {r:TypeId} (ho:o.op = .binOp .neq 124 p q r) (x y u v:Nat) (hx:x < K256) (hy:y < K256) (hu:u < K256) (hv:v < K256) (hp:a.eval p = af x y) (hq:a.eval q = af u v) (w:World) :
   (execOp a.eval o).run Tryz.prog w = .ok (.value (.bool (!(decide (x = u) && decide (y = v))))) w:=by
 unfold execOp
 simp only [ho,hp,hq,Sem.run_bind,run_eqGuard_agg (hm:=Tryz.eqGuardType124),Result.andThen_ok,neq_af_any w x y u v hx hy hu hv,Sem.run_pure]
theorem alloc_af {o:Oper} (h:o.op = .alloc 124) (a:Act) (w:World):(execOp a.eval o).run Tryz.prog w = .ok (.value (.pointer (some ⟨w.heap.size,0,none⟩))) (w.alloc (.cells z8A 124)):=by
 unfold execOp
 rw [h]
 kernel_rfl
attribute [local irreducible] feA afA ptA
section
variable {w0:World} {Q:Act → Prop} {a:Act} {rest:List Oper} {t':TypeId} {pos:String} {after:Array Edge} {d:Option Tmp} {x:Operand}
theorem wpQB_af (g u v:Nat) (hz:Lies w0 g 124 (afA u v)) (hx:a.eval x = .pointer (some ⟨g,0,none⟩))
   (h:wpQB Tryz.prog w0 Q rest (a.put d (af u v))):wpQB Tryz.prog w0 Q (⟨d,.load 124 x,t',pos,after,none⟩ :: rest) a:=
 wpQB_load g 124 (afA u v) _ Tryz.underlying124 rfl (by rw [afA_size]; exact rowAf.2) hz hx h
end
section
variable {a:Act} {d:Option Tmp} {x y:Tmp} {t':TypeId} {pos:String} {after:Array Edge} {gd:Option (Nat × Bool)} {r:TypeId}
theorem run_to32 (s:ByteArray) (hs:32 ≤ s.size) (hx:a.eval (.tmp x) = .string s) (w:World) :
   (execOp a.eval ⟨d,.slice 9 (.tmp x) none (some (.const (.int .i64 32))) none,t',pos,after,gd⟩).run Tryz.prog w = .ok (.value (.string (s.extract 0 32))) w:=by
 have h2:a.eval (.const (.int .i64 32)) = .int .i64 32:=rfl
 have h3:(32:Int) ≤ (s.size:Int):=by omega
 unfold execOp
 simp only [hx,h2,zBW,Option.map_none]
 simp [Instr.sliceAt,run_underlying Tryz.underlying9,go_sem,h3]
theorem run_cat2 (s t:ByteArray) (hs:s.size + t.size ≤ 10000) (hx:a.eval (.tmp x) = .string s) (hy:a.eval (.tmp y) = .string t) (w:World) :
   (execOp a.eval ⟨d,.binOp .add 9 (.tmp x) (.tmp y) r,t',pos,after,gd⟩).run Tryz.prog w = .ok (.value (.string (s ++ t))) w:=by
 have h3:¬ (9223372036854775807 < s.size + t.size):=by omega
 unfold execOp
 simp only [hx,hy]
 simp [go_sem,h3]
end
theorem rkey_parse (key:ByteArray) (hk:key.size = 32) (w:World) :
   Calls Tryz.prog 77 #[.string key] w fun e w' => e = .returned (if keyB key = true then .tuple #[af (xOf (keyY key) (keyO key)) (keyY key),.bool true] else .tuple #[af 0 0,.bool false]) ∧ Below w.heap.size w w':=refParseP_any key hk w
theorem rbelow (sig:ByteArray) (hs:sig.size = 64) (w:World) :
   Calls Tryz.prog 78 #[.string (sig.extract 32 sig.size)] w fun e w' => e = .returned (.bool (decide (sigN sig < l25))) ∧ Below w.heap.size w w':=by
 have h:=G.refBelow_any (sig.extract 32 sig.size) (by rw [zB0]; omega) w
 rw [T.rest_list] at h
 exact h
set_option maxHeartbeats 1600000 in
theorem rverify_point (key m sig:ByteArray) (hk:key.size = 32) (hp:keyB key = false) (W:World) :
   Calls Tryz.prog 52 #[.string key,.string m,.string sig] W fun e w' => e = .returned (.int .i64 10) ∧ Below W.heap.size W w':=by
 have hB:=Below.refl W.heap.size W
 have HP:=Lib.hid (fun w => rkey_parse key hk w)
 rw [if_neg (by rw [hp]; decide)] at HP
 clear hk hp
 go_enter Tryz.func52,Tryz.ntmps52
 go_wp2_with (first
   | (go_at_call 77; (with_reducible refine (HP.out _).mono ?_); rintro e w1 ⟨rfl,hb⟩; replace hB:=below_on hB hb; clear hb)
   | ((with_reducible refine wpL_store w1.heap.size 124 _ (afA 0 0) 8 rowAf ?_ (afA_size _ _) (afA_one _ _) (Lies.new w1 _ _) ?_ ?_ ?_); rfl; rfl; rfl))
 go_ret
 exact ⟨rfl,below_on hB (newly w1 _ _)⟩
set_option maxHeartbeats 1600000 in
theorem rverify_scalar (key m sig:ByteArray) (hk:key.size = 32) (hs:sig.size = 64) (hp:keyB key = true) (hn:¬ sigN sig < l25) (W:World) :
   Calls Tryz.prog 52 #[.string key,.string m,.string sig] W fun e w' => e = .returned (.int .i64 11) ∧ Below W.heap.size W w':=by
 have hB:=Below.refl W.heap.size W
 have HP:=Lib.hid (fun w => rkey_parse key hk w)
 rw [if_pos hp] at HP
 have HBl:=Lib.hid (fun w => rbelow sig hs w)
 rw [decide_eq_false hn] at HBl
 have hj:(sig.size:Int) = 64:=by omega
 generalize xOf (keyY key) (keyO key) = x at *
 generalize keyY key = y at *
 clear hk hp hs hn
 go_enter Tryz.func52,Tryz.ntmps52
 go_upto_region 2 with (first
   | (go_at_call 77; (with_reducible refine (HP.out _).mono ?_); rintro e w1 ⟨rfl,hb⟩; replace hB:=below_on hB hb; clear hb)
   | ((with_reducible refine wpL_store w1.heap.size 124 _ (afA x y) 8 rowAf ?_ (afA_size _ _) (afA_one _ _) (Lies.new w1 _ _) ?_ ?_ ?_); rfl; rfl; rfl))
 replace hB:=below_on hB (newly w1 (.cells z8A 124) (afA x y))
 generalize World.setRow _ _ _ = w2 at *
 go_wp2_with (go_at_call 78; (with_reducible refine (HBl.out _).mono ?_); rintro e w3 ⟨rfl,hb⟩; replace hB:=below_on hB hb; clear hb)
 go_ret
 exact ⟨rfl,hB⟩
set_option maxHeartbeats 1600000 in
theorem rverify_none (key m sig:ByteArray) (hk:key.size = 32) (hs:sig.size = 64) (hp:keyB key = true) (hn:sigN sig < l25) (hf:keyB (sig.extract 0 32) = false) (W:World) :
   Calls Tryz.prog 52 #[.string key,.string m,.string sig] W fun e w' => e = .returned (.int .i64 12) ∧ Below W.heap.size W w':=by
 have hB:=Below.refl W.heap.size W
 have HP:=Lib.hid (fun w => rkey_parse key hk w)
 rw [if_pos hp] at HP
 have HBl:=Lib.hid (fun w => rbelow sig hs w)
 rw [decide_eq_true hn] at HBl
 have HF:=Lib.hid (fun w => rkey_parse (sig.extract 0 32) (by rw [zB0]; omega) w)
 rw [if_neg (by rw [hf]; decide)] at HF
 have hj:(sig.size:Int) = 64:=by omega
 generalize xOf (keyY key) (keyO key) = x at *
 generalize keyY key = y at *
 clear hk hp hs hn hf
 go_enter Tryz.func52,Tryz.ntmps52
 go_upto_region 2 with (first
   | (go_at_call 77; (with_reducible refine (HP.out _).mono ?_); rintro e w1 ⟨rfl,hb⟩; replace hB:=below_on hB hb; clear hb)
   | ((with_reducible refine wpL_store w1.heap.size 124 _ (afA x y) 8 rowAf ?_ (afA_size _ _) (afA_one _ _) (Lies.new w1 _ _) ?_ ?_ ?_); rfl; rfl; rfl))
 replace hB:=below_on hB (newly w1 (.cells z8A 124) (afA x y))
 generalize World.setRow _ _ _ = w2 at *
 clear HP
 go_wp2_with (first
   | (go_at_call 78; (with_reducible refine (HBl.out _).mono ?_); rintro e w3 ⟨rfl,hb⟩; replace hB:=below_on hB hb; clear hb)
   | (go_at_call 77; (with_reducible refine (HF.out _).mono ?_); rintro e w4 ⟨rfl,hb⟩; replace hB:=below_on hB hb; clear hb)
   | ((with_reducible refine wpL_store w4.heap.size 124 _ (afA 0 0) 8 rowAf ?_ (afA_size _ _) (afA_one _ _) (Lies.new w4 _ _) ?_ ?_ ?_); rfl; rfl; rfl))
 go_ret
 exact ⟨rfl,below_on hB (newly w4 _ _)⟩
set_option maxHeartbeats 3200000 in
theorem rverify_sig (key m sig:ByteArray) (hk:key.size = 32) (hs:sig.size = 64) (hm:m.size ≤ 300) (hp:keyB key = true) (hn:sigN sig < l25) (hf:keyB (sig.extract 0 32) = true) (W:World) :
   Calls Tryz.prog 52 #[.string key,.string m,.string sig] W fun e w' => e = .returned (.int .i64 (if sigR key m sig = sig.extract 0 32 then 0 else 12)) ∧ Below W.heap.size W w':=by
 have hB:=Below.refl W.heap.size W
 have HP:=Lib.hid (fun w => rkey_parse key hk w)
 rw [if_pos hp,keyQ_af hp] at HP
 have HBl:=Lib.hid (fun w => rbelow sig hs w)
 rw [decide_eq_true hn] at HBl
 have h32:(sig.extract 0 32).size = 32:=by rw [zB0]; omega
 have HF:=Lib.hid (fun w => rkey_parse (sig.extract 0 32) h32 w)
 rw [if_pos hf,keyQ_af hf] at HF
 have hj:(sig.size:Int) = 64:=by omega
 have hall:((sig.extract 0 32 ++ key) ++ m).size ≤ 1000:=by rw [zBN,zBN]; omega
 have HW:=Lib.hid (fun w => rwide_any ((sig.extract 0 32 ++ key) ++ m) hall w)
 rw [show leftN ((sig.extract 0 32 ++ key) ++ m).data.toList = sigK key m sig by unfold sigK; rw [T.list_append,T.list_append,T.head_list,zBL]] at HW
 have hkK:sigK key m sig < K256:=G.modL_K _
 have HT:=Lib.hid (fun w => refTimes_any (sigK key m sig) (keyQ key) (keyQ_on hp) w)
 rw [zAB hkK] at HT
 have HSu:=Lib.hid (fun w => refSum_any ((keyQ key).smul (sigK key m sig)) (keyQ (sig.extract 0 32)) w)
 have hnK:sigN sig < K256:=zCI hn (by decide)
 have HW5:=Lib.hid (fun w => G.refWide_any (sig.extract 32 sig.size) (by rw [zB0]; omega) w)
 rw [T.rest_list,show numLE (sig.data.toList.drop 32) % G.l25 = sigN sig from zAB hn] at HW5
 have HBa:=Lib.hid (fun w => refBase_any w)
 have HT2:=Lib.hid (fun w => refTimes_any (sigN sig) Bp Bp_on w)
 rw [zAB hnK,← base_af] at HT2
 have heq:=pt_eq_is (((keyQ key).smul (sigK key m sig)).add (keyQ (sig.extract 0 32))) (Bp.smul (sigN sig))
 have hre:(sigR key m sig = sig.extract 0 32) ↔ (((keyQ key).smul (sigK key m sig)).add (keyQ (sig.extract 0 32)) = Bp.smul (sigN sig)):=(ref_eq hp h32).trans ⟨fun h => h.2,fun h => ⟨hf,h⟩⟩
 generalize ((keyQ key).smul (sigK key m sig)).add (keyQ (sig.extract 0 32)) = P1 at *
 generalize Bp.smul (sigN sig) = P2 at *
 obtain ⟨res,hres⟩:∃ res:Int,(if sigR key m sig = sig.extract 0 32 then 0 else 12) = res:=⟨_,rfl⟩
 rw [hres]
 have HRe:Hid ((ptEq P1 P2 = true ∧ res = 0) ∨ (ptEq P1 P2 = false ∧ res = 12)):=Lib.hid (by
   by_cases e:ptEq P1 P2 = true
   · exact .inl ⟨e,by rw [← hres,if_pos (hre.2 ((ptEq_iff _ _).1 e))]⟩
   · exact .inr ⟨by simpa using e,by rw [← hres,if_neg (fun h => e ((ptEq_iff _ _).2 (hre.1 h)))]⟩)
 have HEq:=Lib.hid heq
 clear heq hre hres
 have k1:=below_K P1.x.isLt
 have k2:=below_K P1.y.isLt
 have k3:=below_K P2.x.isLt
 have k4:=below_K P2.y.isLt
 generalize P1.x.val = x1 at *
 generalize P1.y.val = y1 at *
 generalize P2.x.val = x2 at *
 generalize P2.y.val = y2 at *
 generalize ((keyQ key).smul (sigK key m sig)).x.val = x3 at *
 generalize ((keyQ key).smul (sigK key m sig)).y.val = y3 at *
 generalize (keyQ key).x.val = xk at *
 generalize (keyQ key).y.val = yk at *
 generalize (keyQ (sig.extract 0 32)).x.val = xf at *
 generalize (keyQ (sig.extract 0 32)).y.val = yf at *
 generalize sigK key m sig = k at *
 generalize sigN sig = sn at *
 generalize bxN = bx at *
 generalize byN = b_y at *
 have HK32:=Lib.hid hk
 clear hp hn hf hkK hnK hs hk
 go_enter Tryz.func52,Tryz.ntmps52
 go_upto_region 2 with (first
   | (go_at_call 77; (with_reducible refine (HP.out _).mono ?_); rintro e w1 ⟨rfl,hb⟩; replace hB:=below_on hB hb; clear hb)
   | ((with_reducible refine wpL_store w1.heap.size 124 _ (afA xk yk) 8 rowAf ?_ (afA_size _ _) (afA_one _ _) (Lies.new w1 _ _) ?_ ?_ ?_); rfl; rfl; rfl))
 have hp:=newly_lies w1 124 z8A (afA xk yk)
 replace hB:=below_on hB (newly w1 (.cells z8A 124) (afA xk yk))
 generalize World.setRow _ _ _ = w2 at *
 generalize w1.heap.size = gp at *
 clear HP
 obtain ⟨f,hf⟩:∃ f,sig.extract 0 32 = f:=⟨_,rfl⟩
 rw [hf] at HF HW hall h32
 have HFE:=Lib.hid hf
 clear hf
 go_upto_region 6 with (go_at_call 78; (with_reducible refine (HBl.out _).mono ?_); rintro e w3 ⟨rfl,hb⟩; replace hp:=hp.on hb; replace hB:=below_on hB hb; clear hb)
 clear HBl
 go_upto_region 7 with (first
   | (go_at_call 77; rw [HFE.out]; (with_reducible refine (HF.out _).mono ?_); rintro e w4 ⟨rfl,hb⟩; replace hp:=hp.on hb; replace hB:=below_on hB hb; clear hb)
   | ((with_reducible refine wpL_store w4.heap.size 124 _ (afA xf yf) 8 rowAf ?_ (afA_size _ _) (afA_one _ _) (Lies.new w4 _ _) ?_ ?_ ?_); rfl; rfl; rfl))
 have hf:=newly_lies w4 124 z8A (afA xf yf)
 have hnw:=newly w4 (.cells z8A 124) (afA xf yf)
 replace hp:=hp.on hnw
 replace hB:=below_on hB hnw
 clear hnw HF
 generalize World.setRow _ _ _ = w5 at *
 generalize w4.heap.size = gf at *
 go_upto_region 9 with fail
 have hfk:f.size + key.size ≤ 10000:=by have:=HK32.out; omega
 have hfm:(f ++ key).size + m.size ≤ 10000:=by have:=HK32.out; rw [zBN]; omega
 refine wp_region_made 9 11 _ 124 z8A rfl rfl (by kernel_rfl) (by kernel_rfl) (alloc_af rfl) ?_
 simp only [zA8,zAJ,zAA,zAH]
 refine wpQB_run (.string sig) rfl (fun _ _ => rfl) ?_
 simp only [Act.put,zA0,zA2,zA1]
 refine wpQB_run (.string f) rfl (fun w _ => by rw [← HFE.out]; exact run_to32 sig (by omega) rfl w) ?_
 simp only [Act.put,zA0,zA2,zA1]
 refine wpQB_run (.string key) rfl (fun _ _ => rfl) ?_
 simp only [Act.put,zA0,zA2,zA1]
 refine wpQB_run (.string (f ++ key)) rfl (fun w _ => run_cat2 f key hfk rfl rfl w) ?_
 simp only [Act.put,zA0,zA2,zA1]
 refine wpQB_run (.string m) rfl (fun _ _ => rfl) ?_
 simp only [Act.put,zA0,zA2,zA1]
 refine wpQB_run (.string ((f ++ key) ++ m)) rfl (fun w _ => run_cat2 (f ++ key) m hfm rfl rfl w) ?_
 simp only [Act.put,zA0,zA2,zA1]
 refine wpQB_call 80 #[.string ((f ++ key) ++ m)] (fe k) rfl rfl (fun _ => by kernel_rfl) (fun w _ => HW.out w) ?_
 simp only [Act.put,zA0,zA2,zA1]
 refine wpQB_af gp xk yk hp rfl ?_
 simp only [Act.put,zA0,zA2,zA1]
 refine wpQB_call 79 #[fe k,af xk yk] (af x3 y3) rfl rfl (fun _ => by kernel_rfl) (fun w _ => HT.out w) ?_
 simp only [Act.put,zA0,zA2,zA1]
 refine wpQB_nil ?_
 intro gq w6 hb hgq hq
 simp only [zA0,zA2,zA1]
 replace hq:Lies w6 gq 124 z8A:=hq
 have lf:=hf.lt
 have hsz:=hB.size
 replace hf:=(hf.on hb).rowFar (show gf ≠ gq by omega) (afA x3 y3)
 replace hB:=below_rowSet (below_on hB hb) (show W.heap.size ≤ gq by omega) (afA x3 y3)
 have hn:=hq.row (afA x3 y3)
 clear hb hp HW HT
 go_upto_region 10 with ((with_reducible refine wpL_store gq 124 _ (afA x3 y3) 8 rowAf rfl (afA_size _ _) (afA_one _ _) hq ?_ ?_ ?_); rfl; rfl)
 clear hq hsz lf hgq
 generalize World.setRow _ _ _ = w7 at *
 refine wp_region_all (by kernel_rfl) (by kernel_rfl) ?_
 refine wpQB_af gq x3 y3 hn rfl ?_
 simp only [Act.put,zA0,zA2,zA1]
 refine wpQB_af gf xf yf hf rfl ?_
 simp only [Act.put,zA0,zA2,zA1]
 refine wpQB_call 81 #[af x3 y3,af xf yf] (af x1 y1) rfl rfl (fun _ => by kernel_rfl) (fun w _ => HSu.out w) ?_
 simp only [Act.put,zA0,zA2,zA1]
 refine wpQB_run (.string sig) rfl (fun _ _ => rfl) ?_
 simp only [Act.put,zA0,zA2,zA1]
 refine wpQB_run (.string (sig.extract 32 sig.size)) rfl (fun w _ => run_from32 sig (by omega) rfl w) ?_
 simp only [Act.put,zA0,zA2,zA1]
 refine wpQB_call 82 #[.string (sig.extract 32 sig.size)] (fe sn) rfl rfl (fun _ => by kernel_rfl) (fun w _ => HW5.out w) ?_
 simp only [Act.put,zA0,zA2,zA1]
 refine wpQB_call 83 #[] (af bx b_y) rfl rfl (fun _ => by kernel_rfl) (fun w _ => HBa.out w) ?_
 simp only [Act.put,zA0,zA2,zA1]
 refine wpQB_call 79 #[fe sn,af bx b_y] (af x2 y2) rfl rfl (fun _ => by kernel_rfl) (fun w _ => HT2.out w) ?_
 simp only [Act.put,zA0,zA2,zA1]
 refine wpQB_run (.bool (!ptEq P1 P2)) rfl (fun w _ => by rw [← HEq.out]; exact neq_af_exe rfl x1 y1 x2 y2 k1 k2 k3 k4 rfl rfl w) ?_
 simp only [Act.put,zA0,zA2,zA1]
 refine wpQB_nil ?_
 intro w8 hb
 replace hB:=below_on hB hb
 clear hb
 rcases HRe.out with ⟨h,rfl⟩ | ⟨h,rfl⟩
 · rw [h]
   go_wp2_with fail
   go_ret
   exact ⟨rfl,hB⟩
 · rw [h]
   go_wp2_with fail
   go_ret
   exact ⟨rfl,hB⟩
theorem rverify_any (key m sig:ByteArray) (hk:key.size = 32) (hs:sig.size = 64) (hm:m.size ≤ 300) (W:World) :
   Calls Tryz.prog 52 #[.string key,.string m,.string sig] W fun e w' => e = .returned (.int .i64 (verifyE key m sig)) ∧ Below W.heap.size W w':=by
 unfold verifyE
 rw [if_pos ⟨hk,hs⟩]
 by_cases hp:keyB key = true
 · rw [if_pos hp]
   by_cases hn:sigN sig < l25
   · rw [if_pos hn]
     by_cases hf:keyB (sig.extract 0 32) = true
     · exact rverify_sig key m sig hk hs hm hp hn hf W
     · rw [if_neg (fun h => hf ((ref_eq hp (by rw [zB0]; omega)).1 h).1)]
       exact rverify_none key m sig hk hs hp hn (by simpa using hf) W
   · rw [if_neg hn]
     exact rverify_scalar key m sig hk hs hp hn W
 · rw [if_neg hp]
   exact rverify_point key m sig hk (by simpa using hp) W
end Go.Proofs.YteecbglmohhaeaaGreatDoor.E
namespace Go.Proofs.YteecbglmohhaeaaGreatDoor.O
open Go.RowKit Go.Sort Go.Proofs.YteecbglmohhaeaaGreatDoor.E
open C (Pts)
open V (Lies OwnL RowL reg lessL bytesLess_is)
theorem verify_len {key m sig:ByteArray} (h:sig.size ≠ 64):decide (verifyE key m sig = 0) = false:=by
 unfold verifyE
 rw [if_neg (fun hh => h hh.2)]
 rfl
set_option maxHeartbeats 6400000 in
theorem rsigned_any (av:Option Addr) (cv:Nat) (sigs:List B2) (id pub text:ByteArray) (w:World) (hl:RowL w 2 (.slice av sigs.length cv) (sigs.map twoS)) (hm:text.size ≤ 300) (hp:pub.size = 32) :
   Calls Tryz.prog 34 #[.agg #[.string id,.string pub],.string text,.slice av sigs.length cv] w fun e w' => e = .returned (.bool (sigIn pub id text sigs)) ∧ Below w.heap.size w w':=by
 have hcap:sigs.length ≤ 9223372036854775807:=by
   obtain ⟨a',c',e,h1,h2,_⟩:=hl.form
   injection e with _ _ e3
   rw [zAG] at h1
   unfold maxLen at h2
   omega
 have lK:=Lies.new w 51 #[.string id,.string pub]
 have hb0:=(Below.refl w.heap.size w).alloc (zA3 _) (.cells #[.string id,.string pub] 51)
 obtain ⟨R,hR⟩:∃ R,sigIn pub id text sigs = R:=⟨_,rfl⟩
 rw [hR]
 have HR:=Lib.hid hR
 have HL:=Lib.hid (fun (w1:World) (hb:Below w.heap.size w w1) => hl.below hb)
 have HPS:=Lib.hid hp
 clear hR hl hp
 go_enter Tryz.func34,Tryz.ntmps34
 go_upto_region 1 with fail
 generalize World.alloc w _ = wa at *
 go_wp2
 go_loopw [8,11] (fun _ iv wr => ∃ j:Nat,iv = .int .i64 (j:Int) ∧ j ≤ sigs.length ∧ Hid (sigs.find? (fun s => decide (s.1 = id)) = (sigs.drop j).find? (fun s => decide (s.1 = id))) ∧ Lies wr w.heap.size 51 #[.string id,.string pub] ∧ Below w.heap.size w wr) (fun _ iv _ => sigs.length - (intOf iv).toNat)
 case atStart => exact ⟨0,rfl,zAR _,Lib.hid (by rw [zAH]),lK,hb0⟩
 case round =>
   clear hb0 lK
   obtain ⟨j,rfl,hj,HT,lK,hb⟩:=hrel
   by_cases hlt:j < sigs.length
   case neg =>
     obtain rfl:j = sigs.length:=by omega
     have i1:¬ ((sigs.length:Int) < (sigs.length:Int)):=by omega
     have hT:=HT.out
     rw [List.drop_length,List.find?_nil] at hT
     obtain rfl:R = false:=HR.out.symm.trans (sigIn_none hT)
     clear hT hj hlt
     go_wp2
     go_ret
     exact ⟨rfl,hb⟩
   have i1:(j:Int) < (sigs.length:Int):=by omega
   have i3:(0:Int) ≤ (j:Int):=by omega
   obtain ⟨s,hx⟩:∃ x,sigs[j] = x:=⟨_,rfl⟩
   obtain ⟨b,off,rfl,hr,_⟩:=(HL.out _ hb).at (i:=j) (cs:=twoS s) (by rw [zAD,zA5 hlt,hx]; rfl)
   have hT:=HT.out
   rw [zAS hlt,hx,List.find?_cons] at hT
   have HJ:=Lib.hid hlt
   have hszB:=hb.size
   have hltK:=lK.lt
   obtain ⟨sid,sg⟩:=s
   have lZ:=Lies.new wr 46 #[.string ⟨#[]⟩,.string ⟨#[]⟩]
   have hbZ:=hb.alloc hb.size (.cells #[.string ⟨#[]⟩,.string ⟨#[]⟩] 46)
   have lKZ:=lK.alloc (.cells #[.string ⟨#[]⟩,.string ⟨#[]⟩] 46)
   clear hx hlt
   go_upto_region 4 with (first
     | ((with_reducible refine V.wpL_loadMid b (off + j * 2) _ 2 rowSig rfl hr ?_ ?_); rfl)
     | ((with_reducible refine V.wpL_store wr.heap.size 46 _ #[.string sid,.string sg] 2 rowSig rfl rfl (two_one _ _) lZ ?_ ?_ ?_); rfl; rfl))
   have lS:=lZ.row #[.string sid,.string sg]
   have lK2:=lKZ.rowFar (show w.heap.size ≠ wr.heap.size by omega) #[.string sid,.string sg]
   have hbK:=V.below_rowSet hbZ hszB #[.string sid,.string sg]
   generalize World.setRow _ _ _ = w2 at *
   have q0:=lS.cell 0; have q1:=lS.cell 1; have q2:=lK2.cell 0; have q3:=lK2.cell 1; simp only [zA6,zAN,zAF] at q0 q1 q2 q3
   have heq:=eq_is sid id
   clear hr lZ hbZ lKZ lK hltK hszB
   by_cases hid:sid = id
   case neg =>
     rw [decide_eq_false hid] at heq
     rw [show decide ((sid,sg).1 = id) = false from decide_eq_false hid] at hT
     have HT2:=Lib.hid hT
     have g1:(sid.toList == id.toList) = false:=by rw [Lib.toList_data,Lib.toList_data]; exact heq
     clear hid heq hT HT
     go_wp2
     go_roundw
     case rel => exact ⟨j + 1,by go_num,HJ.out,HT2,lK2,hbK⟩
     case measure =>
       have:=HJ.out
       simp [intOf]; omega
   rw [show decide ((sid,sg).1 = id) = true from decide_eq_true hid] at hT
   have hres:=HR.out.symm.trans (sigIn_some hT)
   subst hid
   replace hres:R = decide (verifyE pub text sg = 0):=hres
   clear hT HT heq HR
   by_cases h64:sg.size = 64
   case neg =>
     rw [verify_len h64] at hres
     subst hres
     have g2:((sg.size:Int) == 64) = false:=by simp; omega
     clear h64
     go_wp2
     go_ret
     exact ⟨rfl,hbK⟩
   have g2:((sg.size:Int) == 64) = true:=by rw [h64]; rfl
   have HV:=Lib.hid (fun (w:World) => rverify_any pub text sg HPS.out h64 hm w)
   generalize verifyE pub text sg = V0 at *
   clear h64
   by_cases h0:V0 = 0
   · subst h0
     obtain rfl:R = true:=hres
     go_wp2_with (go_at_call 52; (with_reducible refine (HV.out _).mono ?_); rintro e w3 ⟨rfl,hb3⟩)
     go_ret
     exact ⟨rfl,hbK.trans (hb3.mono hbK.size)⟩
   · rw [decide_eq_false h0] at hres
     subst hres
     have hV:(V0 == 0) = false:=by simpa using h0
     clear h0
     go_wp2_with (go_at_call 52; (with_reducible refine (HV.out _).mono ?_); rintro e w3 ⟨rfl,hb3⟩)
     go_ret
     exact ⟨rfl,hbK.trans (hb3.mono hbK.size)⟩
def hitK (text:ByteArray) (sigs:List B2) (s:ByteArray) (k:B2):Bool:=decide (k.1 = s) && sigIn k.2 s text sigs
theorem any_signed {ks sigs:List B2} {text s:ByteArray} (hK:keysR ks = true):ks.any (hitK text sigs s) = signedB ks text sigs s:=by
 cases hf:ks.find? (fun k => decide (k.1 = s)) with
 | none =>
   rw [signed_none hf,List.any_eq_false]
   intro k hk
   have:=List.find?_eq_none.1 hf k hk
   unfold hitK
   rw [Bool.not_eq_true] at this
   rw [this]
   simp
 | some k =>
   rw [signed_some hf]
   have h1:=List.find?_some hf
   have h2:=List.mem_of_find?_eq_some hf
   cases hs:sigIn k.2 s text sigs with
   | true =>
     rw [List.any_eq_true]
     refine ⟨k,h2,?_⟩
     unfold hitK
     rw [hs,h1]
     rfl
   | false =>
     rw [List.any_eq_false]
     intro q hq
     unfold hitK
     by_cases he:q.1 = s
     · obtain ⟨i,hi⟩:=List.getElem?_of_mem h2
       obtain ⟨j,hj⟩:=List.getElem?_of_mem hq
       have hij:=keys_once hK hi hj ((of_decide_eq_true h1).trans he.symm)
       subst hij
       rw [hi] at hj
       obtain rfl:=Option.some.inj hj
       rw [hs]
       simp
     · rw [decide_eq_false he]
       simp
theorem any_step {ks sigs:List B2} {text s:ByteArray} {j:Nat} {k:B2} (h:ks[j]? = some k):(ks.take (j + 1)).any (hitK text sigs s) = ((ks.take j).any (hitK text sigs s) || hitK text sigs s k):=by
 rw [zCC,h,zCD,List.any_append]
 simp
theorem any_once {ks sigs:List B2} {text s:ByteArray} {j:Nat} {k:B2} (hK:keysR ks = true) (h:ks[j]? = some k) (he:k.1 = s):(ks.take j).any (hitK text sigs s) = false:=by
 rw [List.any_eq_false]
 intro q hq
 obtain ⟨i,hi⟩:=List.getElem?_of_mem hq
 rw [zC0] at hi
 split at hi
 · unfold hitK
   by_cases e:q.1 = s
   · have:=keys_once hK hi h (e.trans he.symm)
     omega
   · rw [decide_eq_false e]
     simp
 · cases hi
def onlyIf (b:Bool) (s:ByteArray):List ByteArray:=if b = true then [s] else []
end Go.Proofs.YteecbglmohhaeaaGreatDoor.O
namespace Go.Proofs.YteecbglmohhaeaaGreatDoor.O
open Go.RowKit Go.Sort Go.Proofs.YteecbglmohhaeaaGreatDoor.E
open C (Pts)
open V (Lies OwnL RowL reg lessL bytesLess_is)
theorem only_false (s:ByteArray):onlyIf false s = []:=rfl
theorem only_true (s:ByteArray):onlyIf true s = [s]:=rfl
theorem count_next {ids:List ByteArray} {keys sigs:List B2} {text:ByteArray} {j:Nat} {x:ByteArray} (hK:keysR keys = true) (h:ids[j]? = some x):countR (ids.take (j + 1)) keys text sigs = countR (ids.take j) keys text sigs ++ onlyIf (keys.any (hitK text sigs x)) x:=by
 rw [count_snoc h,any_signed hK]
 rfl
def RCountPost (w:World) (ids:List ByteArray) (keys:List B2) (text:ByteArray) (sigs:List B2) (e:Ending) (w':World):Prop:=
 ∃ v,e = .returned v ∧ OwnL w' w.heap.size 9 1 v ((countR ids keys text sigs).map oneS) ∧ Below w.heap.size w w'
set_option maxHeartbeats 12800000 in
theorem rcount_any (av kv sv:Option Addr) (ac kc sc:Nat) (ids:List ByteArray) (need:Int) (keys:List B2) (text:ByteArray) (sigs:List B2) (w:World) (hR:Rows4 w av ac kv kc sv sc ids keys sigs) (hm:text.size ≤ 300) (hK:keysR keys = true) (hi16:ids.length ≤ 1000) :
   Calls Tryz.prog 18 #[.agg #[.slice av ids.length ac,.int .i64 need],.slice kv keys.length kc,.string text,.slice sv sigs.length sc] w fun e w' => RCountPost w ids keys text sigs e w':=by
 obtain ⟨iS,hi,hz0,hz1,hz2⟩:=info_parts infoStr
 have hcapk:keys.length ≤ 9223372036854775807:=by
   obtain ⟨a',c',e,h1,h2,_⟩:=hR.k.form
   injection e with _ _ e3
   rw [zAG] at h1
   unfold maxLen at h2
   omega
 have lA:=Lies.new w 24 #[.slice av ids.length ac,.int .i64 need]
 have hb0:=(Below.refl w.heap.size w).alloc (zA3 _) (.cells #[.slice av ids.length ac,.int .i64 need] 24)
 have HRow:=Lib.hid (fun (w1:World) (hb:Below w.heap.size w w1) => hR.on hb)
 have HKR:=Lib.hid hK
 clear hR hK
 go_enter Tryz.func18,Tryz.ntmps18
 go_upto_region 1 with fail
 generalize World.alloc w _ = wa at *
 have hoM:=OwnL.made wa w.heap.size 9 1 hb0.size
 have lA2:=lA.alloc (.cells #[] 9)
 have hb1:=hb0.alloc hb0.size (.cells #[] 9)
 go_upto_region 2 with fail
 generalize World.alloc wa _ = wb at *
 generalize wa.heap.size = ga at *
 have q0:=lA2.cell 0; simp only [zA6,zAF] at q0
 clear lA hb0
 have HO0:=Lib.hid hoM
 clear hoM
 go_wp2
 clear q0 lA2
 go_loopw [9,11,13,18,24] (fun v9 _ _ iv _ wr => ∃ j:Nat,iv = .int .i64 (j:Int) ∧ j ≤ ids.length ∧ Hid (OwnL wr w.heap.size 9 1 v9 ((countR (ids.take j) keys text sigs).map oneS)) ∧ Below w.heap.size w wr) (fun _ _ _ iv _ _ => ids.length - (intOf iv).toNat)
 case atStart => exact ⟨0,rfl,zAR _,HO0,hb1⟩
 case round =>
   clear hb1 HO0
   obtain ⟨j,rfl,hj,HO,hb⟩:=hrel
   by_cases hlt:j < ids.length
   case neg =>
     obtain rfl:j = ids.length:=by omega
     have i1:¬ ((ids.length:Int) < (ids.length:Int)):=by omega
     have hO:=HO.out
     rw [List.take_length] at hO
     have hfin:=Lib.hid (show RCountPost w ids keys text sigs (.returned u9) wr from ⟨u9,rfl,hO,hb⟩)
     clear hO HO hlt hj
     go_wp2
     go_ret
     exact hfin.out
   have i1:(j:Int) < (ids.length:Int):=by omega
   have i3:(0:Int) ≤ (j:Int):=by omega
   obtain ⟨x,hx⟩:∃ x,ids[j]? = some x:=⟨_,zA5 hlt⟩
   obtain ⟨b1,off,rfl,hr,_⟩:=(HRow.out _ hb).i.at (i:=j) (cs:=oneS x) (by rw [zAD,hx]; rfl)
   have q0:=hr 0 (.string x) rfl
   rw [zBO,zAZ] at q0
   have HJ:=Lib.hid hlt
   have HN:=Lib.hid (count_next (sigs:=sigs) (text:=text) HKR.out hx)
   have hcl:(countR (ids.take j) keys text sigs).length ≤ j:=by
     have:=count_le (ids.take j) keys sigs text
     rw [zAM] at this
     omega
   have hj1000:j ≤ 1000:=by omega
   obtain ⟨L,hL⟩:∃ L,countR (ids.take j) keys text sigs = L:=⟨_,rfl⟩
   rw [hL] at HN HO hcl
   have HCL:=Lib.hid (show L.length ≤ 1000 by omega)
   obtain ⟨wo,hwo⟩:∃ wo,wo = wr:=⟨_,rfl⟩
   clear hx hr hlt hL hcl hj1000
   subst hwo
   go_upto_region 5 with fail
   clear q0
   go_wp2
   go_loopw [9,13,24] (fun v9 _ iv wx => ∃ i:Nat,iv = .int .i64 (i:Int) ∧ i ≤ keys.length ∧ Hid (OwnL wx w.heap.size 9 1 v9 ((L ++ onlyIf ((keys.take i).any (hitK text sigs x)) x).map oneS)) ∧ Below w.heap.size w wx) (fun _ _ iv _ => keys.length - (intOf iv).toNat)
   case atStart => exact ⟨0,rfl,zAR _,Lib.hid (by rw [show (keys.take 0).any (hitK text sigs x) = false from rfl,only_false,zB6]; exact HO.out),hb⟩
   case round =>
     clear HO hb
     obtain ⟨i,rfl,hi0,HO,hb⟩:=hrel
     by_cases hlt:i < keys.length
     case neg =>
       obtain rfl:i = keys.length:=by omega
       have i2:¬ ((keys.length:Int) < (keys.length:Int)):=by omega
       have HO2:=Lib.hid (show OwnL wr w.heap.size 9 1 u9 ((countR (ids.take (j + 1)) keys text sigs).map oneS) by
         have:=HO.out
         rw [List.take_length] at this
         rw [HN.out]
         exact this)
       clear HO HN hlt hi0
       go_wp2
       go_roundw
       case rel => exact ⟨j + 1,by go_num,HJ.out,HO2,hb⟩
       case measure =>
         have:=HJ.out
         simp [intOf]; omega
     have i2:(i:Int) < (keys.length:Int):=by omega
     have i4:(0:Int) ≤ (i:Int):=by omega
     obtain ⟨k,hk⟩:∃ k,keys[i]? = some k:=⟨_,zA5 hlt⟩
     have hk32:=(keys_sum HKR.out hk).1
     obtain ⟨b2,off2,rfl,hr2,_⟩:=(HRow.out _ hb).k.at (i:=i) (cs:=twoS k) (by rw [zAD,hk]; rfl)
     have HI:=Lib.hid hlt
     have hst:=any_step (sigs:=sigs) (text:=text) (s:=x) hk
     have hon:=fun h => any_once (sigs:=sigs) (text:=text) (s:=x) HKR.out hk h
     obtain ⟨id,pub⟩:=k
     have hst:(keys.take (i + 1)).any (hitK text sigs x) = ((keys.take i).any (hitK text sigs x) || (decide (id = x) && sigIn pub x text sigs)):=hst
     have hon:id = x → (keys.take i).any (hitK text sigs x) = false:=hon
     have hk32:pub.size = 32:=hk32
     have hszB:=hb.size
     have lZ:=Lies.new wr 51 #[.string ⟨#[]⟩,.string ⟨#[]⟩]
     have hbZ:=hb.alloc hb.size (.cells #[.string ⟨#[]⟩,.string ⟨#[]⟩] 51)
     have HSg0:=fun (w1:World) (hb:Below w.heap.size w w1) => rsigned_any sv sc sigs id pub text w1 (HRow.out w1 hb).s hm hk32
     have HOs:=HO.out.on (V.below_rowSet ((Below.refl wr.heap.size wr).alloc (zA3 _) (.cells #[.string ⟨#[]⟩,.string ⟨#[]⟩] 51)) (zA3 _) #[.string id,.string pub])
     clear hk hlt hk32 HO
     go_upto_region 8 with (first
       | ((with_reducible refine V.wpL_loadMid b2 (off2 + i * 2) _ 2 rowKey rfl hr2 ?_ ?_); rfl)
       | ((with_reducible refine V.wpL_store wr.heap.size 51 _ #[.string id,.string pub] 2 rowKey rfl rfl (two_one _ _) lZ ?_ ?_ ?_); rfl; rfl))
     have lK:=lZ.row #[.string id,.string pub]
     have hbK:=V.below_rowSet hbZ hszB #[.string id,.string pub]
     generalize World.setRow _ _ _ = w2 at *
     have k0:=lK.cell 0; have k1:=lK.cell 1; simp only [zA6,zAN,zAF] at k0 k1
     have heq:=eq_is id x
     clear hr2 lZ hbZ lK hszB
     by_cases hid:id = x
     case neg =>
       rw [decide_eq_false hid] at heq hst
       rw [zC8,Bool.or_false] at hst
       have HO2:=Lib.hid (show OwnL w2 w.heap.size 9 1 u9 ((L ++ onlyIf ((keys.take (i + 1)).any (hitK text sigs x)) x).map oneS) by rw [hst]; exact HOs)
       have g1:(id.toList == x.toList) = false:=by rw [Lib.toList_data,Lib.toList_data]; exact heq
       clear hid heq hst hon HSg0 HOs
       go_wp2
       go_roundw
       case rel => exact ⟨i + 1,by go_num,HI.out,HO2,hbK⟩
       case measure =>
         have:=HI.out
         simp [intOf]; omega
     rw [decide_eq_true hid,hon hid] at hst
     rw [hon hid,only_false,zB6] at HOs
     rw [zC7,Bool.false_or] at hst
     clear heq hon
     subst hid
     have HSg:=Lib.hid HSg0
     clear HSg0
     cases hsg:sigIn pub id text sigs with
     | false =>
       rw [hsg] at hst HSg
       have HO2:=Lib.hid (show ∀ w3,Below w2.heap.size w2 w3 → OwnL w3 w.heap.size 9 1 u9 ((L ++ onlyIf ((keys.take (i + 1)).any (hitK text sigs id)) id).map oneS) from fun w3 h3 => by rw [hst,only_false,zB6]; exact HOs.on h3)
       clear hst hsg HOs
       go_wp2_with (go_at_call 34; (with_reducible refine (HSg.out _ hbK).mono ?_); rintro e w3 ⟨rfl,hb3⟩)
       go_roundw
       case rel => exact ⟨i + 1,by go_num,HI.out,Lib.hid (HO2.out _ hb3),hbK.trans (hb3.mono hbK.size)⟩
       case measure =>
         have:=HI.out
         simp [intOf]; omega
     | true =>
       rw [hsg] at hst HSg
       have HH:=Lib.hid hst
       have hOa:=fun (w3:World) (hb3:Below w2.heap.size w2 w3) => (HOs.on hb3).on ((Below.refl w3.heap.size w3).alloc (zA3 _) (.cells #[.string id] 9))
       have hlit:=fun (w3:World) => RowL.lit w3 9 1 [.string id] rfl
       have hone:=oneS_ones id
       have h63:(L.map oneS).length + ([oneS id]:List (List Value)).length ≤ maxLen:=by rw [zAG]; have:=HCL.out; unfold maxLen; simp only [zBM]; omega
       have h64:((L.map oneS).length + ([oneS id]:List (List Value)).length) * 16 ≤ 140737488355328:=by rw [zAG]; have:=HCL.out; simp only [zBM]; omega
       have hSZ:=fun (w3:World) (hb3:Below w2.heap.size w2 w3) => (show w.heap.size ≤ (w3.alloc (.cells #[.string id] 9)).heap.size by have:=hb3.size; have:=hbK.size; simp; omega)
       clear hst hsg HOs
       go_wp2_with (first
         | (go_at_call 34; (with_reducible refine (HSg.out _ hbK).mono ?_); rintro e w3 ⟨rfl,hb3⟩)
         | ((with_reducible refine V.wpL_appendL w.heap.size 9 iS (.string ⟨#[]⟩) 1 16 Tryz.underlying22 hi hz0 hz1 hz2 rfl (by decide) _ (L.map oneS) (hOa _ hb3) _ _ (hlit _) hone h63 h64 (hSZ _ hb3) ?_ ?_ ?_); rfl; rfl; intro v5 w5 hoX hgX))
       go_roundw
       case rel => exact ⟨i + 1,by go_num,HI.out,Lib.hid (by rw [HH.out,only_true,zC3]; exact hoX),((hbK.trans (hb3.mono hbK.size)).alloc (by have:=hbK.size; have:=hb3.size; omega) _).grown hgX (by have:=hbK.size; have:=hb3.size; simp; omega) (fun k hk => (hOa _ hb3).lt k hk)⟩
       case measure =>
         have:=HI.out
         simp [intOf]; omega
end Go.Proofs.YteecbglmohhaeaaGreatDoor.O
namespace Go.Proofs.YteecbglmohhaeaaGreatDoor.O
open Go.RowKit Go.Sort Go.Proofs.YteecbglmohhaeaaGreatDoor.E
open C (Pts)
open V (Lies OwnL RowL reg lessL bytesLess_is)
set_option maxHeartbeats 1600000 in
theorem same_yes (L:List ByteArray) (v u:Value) (w:World) (hl:RowL w 1 v (L.map oneS)) (hm:RowL w 1 u (L.map oneS)) :
   Calls Tryz.prog 19 #[v,u] w fun e w' => e = .returned (.bool true) ∧ Below w.heap.size w w':=by
 obtain ⟨a,c,rfl,hc,hcm,_⟩:=hl.form
 obtain ⟨a',c',rfl,hc',_,_⟩:=hm.form
 rw [zAG] at hl hm hc ⊢
 have hcap:L.length ≤ 9223372036854775807:=by unfold maxLen at hcm; omega
 have hne:((L.length:Int) != (L.length:Int)) = false:=bne_self_eq_false _
 have HL:=Lib.hid (fun (w1:World) (hb:Below w.heap.size w w1) => hl.below hb)
 have HM:=Lib.hid (fun (w1:World) (hb:Below w.heap.size w w1) => hm.below hb)
 clear hl hm hc hc' hcm
 go_enter Tryz.func19,Tryz.ntmps19
 go_wp2
 go_loopw [5,13] (fun _ i wr => ∃ k:Nat,k ≤ L.length ∧ i = .int .i64 (k:Int) ∧ Below w.heap.size w wr) (fun _ i _ => L.length - (intOf i).toNat)
 case atStart => exact ⟨0,zAR _,rfl,Below.refl _ _⟩
 case round =>
   obtain ⟨k,hk,rfl,hb⟩:=hrel
   by_cases hlt:k < L.length
   · obtain ⟨x,hx⟩:∃ x,L[k]? = some x:=⟨_,zA5 hlt⟩
     obtain ⟨b,off,rfl,hr,_⟩:=(HL.out _ hb).at (i:=k) (cs:=oneS x) (by rw [zAD,hx]; rfl)
     obtain ⟨b',off',rfl,hr',_⟩:=(HM.out _ hb).at (i:=k) (cs:=oneS x) (by rw [zAD,hx]; rfl)
     have q0:=hr 0 (.string x) rfl
     have q1:=hr' 0 (.string x) rfl
     rw [zBO,zAZ] at q0 q1
     have u0:=cell_regrown q0
     have u1:=cell_regrown q1
     have i1:(k:Int) < (L.length:Int):=by omega
     have i2:(0:Int) ≤ (k:Int):=by omega
     have HJ:=Lib.hid hlt
     clear hx hr hr' q0 q1 hlt
     go_wp2
     refine wp_region_quiet_below (by kernel_rfl) (by kernel_rfl) ?_
     repeat (go_big_quiet_step (fail))
     refine wpQuiet_nil ?_
     intro _ hw'
     obtain ⟨⟨dq,osq⟩,hw''⟩:=hw'
     subst hw''
     have hb2:=below_regrown wr dq osq
     go_wp2
     go_roundw
     case rel => exact ⟨k + 1,HJ.out,by go_num,hb.trans (hb2.mono hb.size)⟩
     case measure =>
       have:=HJ.out
       simp [intOf]; omega
   · obtain rfl:k = L.length:=by omega
     have i1:¬ (L.length:Int) < (L.length:Int):=by omega
     clear hlt hk
     go_wp2
     go_ret
     exact ⟨rfl,hb⟩
end Go.Proofs.YteecbglmohhaeaaGreatDoor.O
namespace Go.Proofs.YteecbglmohhaeaaGreatDoor.O
open Go.RowKit Go.Sort Go.Proofs.YteecbglmohhaeaaGreatDoor.E
open C (Pts)
open V (Lies OwnL RowL reg lessL bytesLess_is)
theorem One.cells {w:World} {g c:Nat} {s:B2} (h:One w (.slice (some ⟨g,0,none⟩) 1 c) s):w.rangeAt g 0 (twoS s):=by
 obtain ⟨b,off,he,hr,_⟩:=h.row.at (i:=0) (cs:=twoS s) rfl
 injection he with he
 injection he with e1 e2
 subst e1 e2
 simpa using hr
end Go.Proofs.YteecbglmohhaeaaGreatDoor.O
