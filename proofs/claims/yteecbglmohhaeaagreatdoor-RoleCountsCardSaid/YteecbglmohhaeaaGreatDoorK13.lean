import Derived.Test.YteecbglmohhaeaaGreatDoorK12
import Derived.Deep.CutRange
import Derived.Deep.RegionWith
import Derived.Deep.WholeRow
import Derived.Laws.StructEq
set_option maxRecDepth 100000
open List renaming append_assoc → zBL, append_nil → zB6, drop_eq_getElem_cons → zAS, drop_of_length_le → zAW, getD_eq_getElem?_getD → zA4, getElem?_append_left → zBY, getElem?_append_right → zBJ, getElem?_drop → zBF, getElem?_eq_getElem → zA5, getElem?_map → zAD, getElem?_replicate → zC6, getElem?_take_of_lt → zBT, getElem?_toArray → zA6, length_take → zAM, map_append → zC3, set_append_right → zBV, set_cons_zero → zA1, take_add_one → zCC
open Nat renaming div_div_eq_div_mul → zB5, div_le_self → zB9, div_one → zCP, le_refl → zA3, le_trans → zB, lt_of_le_of_lt → zBB, lt_of_lt_of_le → zBA, mod_lt → zAO, pow_le_pow_right → zB1, pow_succ → zAP, pow_zero → zCG, sub_self → zB8, two_pow_pos → zCN, zero_add → zAQ, zero_le → zAR
open Array renaming getElem?_eq_getElem → zBE
open Option renaming map_some → zBW, toList_some → zCD
open Int renaming natCast_ediv → zBH
open ByteArray renaming size_append → zBN, size_extract → zB0
namespace Go.Proofs.YteecbglmohhaeaaGreatDoor.U
open Go.RowKit
theorem two_pow_le (k:Nat) (h:k ≤ 31):2 ^ k ≤ 2147483648:=by
 have:=zB1 (n:=2) (by decide) h
 exact zB this (by decide)
theorem two_pow_lt (k:Nat) (h:k < 31):2 ^ k ≤ 1073741824:=by
 have:=zB1 (n:=2) (by decide) (show k ≤ 30 by omega)
 exact zB this (by decide)
theorem turn_eq (x n:Nat):((x:Int) / ((2 ^ n:Nat):Int) + (x:Int) % ((2 ^ n:Nat):Int) * ((2 ^ (32 - n):Nat):Int)) = ((rotr x n:Nat):Int):=by
 unfold rotr
 rw [Int.natCast_add,Int.natCast_mul,zBH,Int.natCast_emod]
set_option maxHeartbeats 400000 in
theorem turn_any (x n:Nat) (w:World) (hx:x < 4294967296) (h1:0 < n) (h2:n < 32) :
   Calls Tryz.prog 112 #[.int .u32 x,.int .i64 n] w fun e w' => e = .returned (.int .u32 (rotr x n)) ∧ ∃ n,w' = w.drewN n:=by
 go_enter Tryz.func112,Tryz.ntmps112
 go_wp2
 go_loopw [5,6] (fun p i wr => ∃ k:Nat,k ≤ n ∧ i = .int .i64 k ∧ p = .int .u32 ((2 ^ k:Nat):Int) ∧ wr = w) (fun _ i _ => n - (intOf i).toNat)
 case atStart => exact ⟨0,zAR _,rfl,rfl,rfl⟩
 case round =>
   obtain ⟨k,hk,rfl,rfl,rfl⟩:=hrel
   by_cases hlt:k < n
   · have hp:=two_pow_lt k (by omega)
     have HS:=Lib.hid (zAP 2 k)
     generalize 2 ^ k = P at *
     go_wp2
     go_roundw
     case rel =>
       refine ⟨k + 1,by omega,by go_num,val_int ?_,trivial⟩
       rw [HS.out]
       omega
     case measure => simp [intOf]; omega
   · obtain rfl:k = n:=by omega
     have hp:=two_pow_le k (by omega)
     have h0:0 < 2 ^ k:=zCN k
     have HE:=Lib.hid (turn_eq x k)
     generalize 2 ^ k = P at *
     go_wp2
     go_loopw [7,8] (fun q i wv => ∃ m:Nat,k ≤ m ∧ m ≤ 32 ∧ i = .int .i64 m ∧ q = .int .u32 ((2 ^ (m - k):Nat):Int) ∧ wv = wr) (fun _ i _ => 32 - (intOf i).toNat)
     case atStart => exact ⟨k,by omega,by omega,rfl,by rw [zB8]; rfl,rfl⟩
     case round =>
       obtain ⟨m,hm1,hm2,rfl,rfl,rfl⟩:=hrel
       by_cases hlt:m < 32
       · have hp2:=two_pow_lt (m - k) (by omega)
         have HS:Hid (2 ^ (m + 1 - k) = 2 ^ (m - k) * 2):=Lib.hid (by rw [← zAP]; congr 1; omega)
         generalize 2 ^ (m - k) = P2 at *
         go_wp2
         go_roundw
         case rel =>
           refine ⟨m + 1,by omega,by omega,by go_num,val_int ?_,trivial⟩
           rw [HS.out]
           omega
         case measure => simp [intOf]; omega
       · obtain rfl:m = 32:=by omega
         have hq:=two_pow_le (32 - k) (by omega)
         generalize 2 ^ (32 - k) = Q at *
         have hd:0 ≤ (x:Int) / (P:Int):=Int.ediv_nonneg (by omega) (by omega)
         have hm:0 ≤ (x:Int) % (P:Int) * (Q:Int):=Int.mul_nonneg (Int.emod_nonneg _ (by omega)) (by omega)
         have hr:=rotr_lt x k hx (by omega)
         have he:=HE.out
         have hz:(P:Int) ≠ 0:=by omega
         go_wp2
         go_quiet (fail)
         go_wp2
         go_ret
         exact ⟨rfl,_,rfl⟩
set_option maxHeartbeats 400000 in
theorem move_any (x n:Nat) (w:World) (hx:x < 4294967296) (h2:n < 32) :
   Calls Tryz.prog 113 #[.int .u32 x,.int .i64 n] w fun e w' => e = .returned (.int .u32 ((x / 2 ^ n:Nat):Int)) ∧ w' = w:=by
 go_enter Tryz.func113,Tryz.ntmps113
 go_wp2
 go_loopw [0,5] (fun v i wr => ∃ k:Nat,k ≤ n ∧ i = .int .i64 k ∧ v = .int .u32 ((x / 2 ^ k:Nat):Int) ∧ wr = w) (fun _ i _ => n - (intOf i).toNat)
 case atStart => exact ⟨0,zAR _,rfl,by simp,rfl⟩
 case round =>
   obtain ⟨k,hk,rfl,rfl,rfl⟩:=hrel
   by_cases hlt:k < n
   · have HS:Hid (x / 2 ^ (k + 1) = x / 2 ^ k / 2):=Lib.hid (by rw [zAP,zB5])
     have hl:x / 2 ^ k < 4294967296:=zBB (zB9 _ _) hx
     generalize x / 2 ^ k = y at *
     go_wp2
     go_roundw
     case rel =>
       refine ⟨k + 1,by omega,by go_num,val_int ?_,trivial⟩
       rw [HS.out]
       omega
     case measure => simp [intOf]; omega
   · obtain rfl:k = n:=by omega
     go_wp2
     go_ret
     exact ⟨rfl,rfl⟩
end Go.Proofs.YteecbglmohhaeaaGreatDoor.U
namespace Go.Proofs.YteecbglmohhaeaaGreatDoor.U
open Go.RowKit
theorem info25:(Tryz.prog.info? 88).map (fun i => (i.zero,i.size,i.bytes)) = some (some (.int .u32 0),1,4):=by kernel_rfl
abbrev wordsA (s:H8):Array Value:=#[u32 s.a,u32 s.b,u32 s.c,u32 s.d,u32 s.e,u32 s.f,u32 s.g,u32 s.h]
def ksA:Array Value:=(ks.map u32).toArray
def Keysat (w:World) (g:Nat):Prop:=Lies w g 88 ksA
theorem byte_step (s:ByteArray) (t k:Nat) (hk:k < 4) (hi:4 * t + k < s.size):numL ((s.data.toList.drop (4 * t)).take (k + 1)) = 256 * numL ((s.data.toList.drop (4 * t)).take k) + (s[4 * t + k]'hi).toNat ∧ numL ((s.data.toList.drop (4 * t)).take k) < 16777216:=by
 have hl:4 * t + k < s.data.toList.length:=by rw [← Lib.size_eq]; exact hi
 refine ⟨?_,?_⟩
 · rw [zCC,zBF,zA5 hl,zCD,numL_snoc]
   rfl
 · refine zBA (numL_lt _) ?_
   have h4:((s.data.toList.drop (4 * t)).take k).length ≤ 3:=zB (List.length_take_le _ _) (by omega)
   exact zB (zB1 (by decide) h4) (by decide)
theorem sched_cell (b:List UInt8) (t i:Nat) (h:i < t):((sched b t).map u32)[i]? = some (u32 ((sched b t).getD i 0)):=by
 have hl:=sched_length b t
 rw [zAD,zA4,zA5 (by omega)]
 rfl
theorem turn_is (x n:Nat) (m:Int) (w:World) (hm:m = (n:Int)) (hx:x < 4294967296) (h1:0 < n) (h2:n < 32) :
   Calls Tryz.prog 112 #[.int .u32 x,.int .i64 m] w fun e w' => e = .returned (.int .u32 (rotr x n)) ∧ ∃ n,w' = w.drewN n:=by
 rw [hm]
 exact turn_any x n w hx h1 h2
theorem move_is (x n y:Nat) (m:Int) (w:World) (hm:m = (n:Int)) (hx:x < 4294967296) (h2:n < 32) (hy:x / 2 ^ n = y) :
   Calls Tryz.prog 113 #[.int .u32 x,.int .i64 m] w fun e w' => e = .returned (.int .u32 (y:Int)) ∧ w' = w:=by
 rw [hm,← hy]
 exact move_any x n w hx h2
theorem sig_one (x:Nat) (hx:x < 4294967296):bits BinOp.xor IntKind.u32 (bits BinOp.xor IntKind.u32 (rotr x 17:Nat) (rotr x 19:Nat)) ((x:Int) / 1024) = ((ssig1 x:Nat):Int):=by
 rw [show (x:Int) / 1024 = ((x / 2 ^ 10:Nat):Int) by omega]
 exact xor_words (rotr_lt x 17 hx (by decide)) (rotr_lt x 19 hx (by decide)) (zBB (zB9 _ _) hx)
theorem sig_zero (x:Nat) (hx:x < 4294967296):bits BinOp.xor IntKind.u32 (bits BinOp.xor IntKind.u32 (rotr x 7:Nat) (rotr x 18:Nat)) ((x:Int) / 8) = ((ssig0 x:Nat):Int):=by
 rw [show (x:Int) / 8 = ((x / 2 ^ 3:Nat):Int) by omega]
 exact xor_words (rotr_lt x 7 hx (by decide)) (rotr_lt x 18 hx (by decide)) (zBB (zB9 _ _) hx)
theorem big_one (x:Nat) (hx:x < 4294967296):bits BinOp.xor IntKind.u32 (bits BinOp.xor IntKind.u32 (rotr x 6:Nat) (rotr x 11:Nat)) (rotr x 25:Nat) = ((bsig1 x:Nat):Int):=
 xor_words (rotr_lt x 6 hx (by decide)) (rotr_lt x 11 hx (by decide)) (rotr_lt x 25 hx (by decide))
theorem big_zero (x:Nat) (hx:x < 4294967296):bits BinOp.xor IntKind.u32 (bits BinOp.xor IntKind.u32 (rotr x 2:Nat) (rotr x 13:Nat)) (rotr x 22:Nat) = ((bsig0 x:Nat):Int):=
 xor_words (rotr_lt x 2 hx (by decide)) (rotr_lt x 13 hx (by decide)) (rotr_lt x 22 hx (by decide))
def shiftA (v:H8):Nat → Array Value
 | 0 => #[u32 v.a,u32 v.a,u32 v.b,u32 v.c,u32 v.d,u32 v.e,u32 v.f,u32 v.g]
 | 1 => #[u32 v.a,u32 v.b,u32 v.b,u32 v.c,u32 v.d,u32 v.e,u32 v.f,u32 v.g]
 | 2 => #[u32 v.a,u32 v.b,u32 v.c,u32 v.c,u32 v.d,u32 v.e,u32 v.f,u32 v.g]
 | 3 => #[u32 v.a,u32 v.b,u32 v.c,u32 v.d,u32 v.d,u32 v.e,u32 v.f,u32 v.g]
 | 4 => #[u32 v.a,u32 v.b,u32 v.c,u32 v.d,u32 v.e,u32 v.e,u32 v.f,u32 v.g]
 | 5 => #[u32 v.a,u32 v.b,u32 v.c,u32 v.d,u32 v.e,u32 v.f,u32 v.f,u32 v.g]
 | 6 => #[u32 v.a,u32 v.b,u32 v.c,u32 v.d,u32 v.e,u32 v.f,u32 v.g,u32 v.g]
 | _ => #[u32 v.a,u32 v.b,u32 v.c,u32 v.d,u32 v.e,u32 v.f,u32 v.g,u32 v.h]
theorem shiftA_at (v:H8) (m:Nat) (h:m < 7):(shiftA v (m + 1))[m]? = some (u32 (v.at m)):=by
 match m,h with
 | 0,_ | 1,_ | 2,_ | 3,_ | 4,_ | 5,_ | 6,_ => rfl
theorem shiftA_cur (v:H8) (m:Nat) (h:m < 7):∃ y:Int,(shiftA v (m + 1))[m + 1]? = some (.int .u32 y):=by
 match m,h with
 | 0,_ | 1,_ | 2,_ | 3,_ | 4,_ | 5,_ | 6,_ => exact ⟨_,rfl⟩
theorem ch_ref (e f g:Nat) (he:e < 4294967296) (hf:f < 4294967296) (hg:g < 4294967296) :
   bits BinOp.xor IntKind.u32 (bits BinOp.and IntKind.u32 (e:Int) (f:Int)) (bits BinOp.and IntKind.u32 (bits BinOp.xor IntKind.u32 IntKind.u32.max (e:Int)) (g:Int)) = ((chs e f g:Nat):Int):=ch_walk e f g he hf hg
theorem shiftA_set (v:H8) (m:Nat) (h:m < 7):(shiftA v (m + 1)).setIfInBounds (m + 1) (u32 (v.at m)) = shiftA v m:=by
 match m,h with
 | 0,_ | 1,_ | 2,_ | 3,_ | 4,_ | 5,_ | 6,_ => rfl
theorem shiftA_end (v:H8) (k x:Nat):((shiftA v 0).setIfInBounds 4 (u32 ((v.d + tmp1 v k x) % 4294967296))).setIfInBounds 0 (u32 ((tmp1 v k x + tmp2 v) % 4294967296)) = wordsA (rnd v k x):=rfl
def plusA (s v:H8) (i:Nat):Array Value:=
 let f:=fun (j x y:Nat) => u32 (if j < i then (x + y) % 4294967296 else x)
 #[f 0 s.a v.a,f 1 s.b v.b,f 2 s.c v.c,f 3 s.d v.d,f 4 s.e v.e,f 5 s.f v.f,f 6 s.g v.g,f 7 s.h v.h]
theorem plusA_at (s v:H8) (i:Nat) (h:i < 8):(plusA s v i)[i]? = some (u32 (s.at i)):=by
 match i,h with
 | 0,_ | 1,_ | 2,_ | 3,_ | 4,_ | 5,_ | 6,_ | 7,_ => rfl
theorem plusA_set (s v:H8) (i:Nat) (h:i < 8):(plusA s v i).setIfInBounds i (u32 ((s.at i + v.at i) % 4294967296)) = plusA s v (i + 1):=by
 match i,h with
 | 0,_ | 1,_ | 2,_ | 3,_ | 4,_ | 5,_ | 6,_ | 7,_ => rfl
theorem wordsA_at (v:H8) (i:Nat) (h:i < 8):(wordsA v)[i]? = some (u32 (v.at i)):=by
 match i,h with
 | 0,_ | 1,_ | 2,_ | 3,_ | 4,_ | 5,_ | 6,_ | 7,_ => rfl
theorem Lies.words8 {w:World} {g:Nat} {t:TypeId} {v:H8} (h:Lies w g t (wordsA v)) :
   w.cell? ⟨g,0,none⟩ = some (u32 v.a) ∧ w.cell? ⟨g,1,none⟩ = some (u32 v.b) ∧ w.cell? ⟨g,2,none⟩ = some (u32 v.c) ∧ w.cell? ⟨g,3,none⟩ = some (u32 v.d) ∧ w.cell? ⟨g,4,none⟩ = some (u32 v.e) ∧ w.cell? ⟨g,5,none⟩ = some (u32 v.f) ∧ w.cell? ⟨g,6,none⟩ = some (u32 v.g) ∧ w.cell? ⟨g,7,none⟩ = some (u32 v.h):=
 ⟨h.cell 0,h.cell 1,h.cell 2,h.cell 3,h.cell 4,h.cell 5,h.cell 6,h.cell 7⟩
theorem only_cell {a w:World} {g:Nat} {p:Addr} {v:Value} (h:Only g a w) (hc:a.cell? p = some v) (hne:p.block ≠ g):w.cell? p = some v:=
 (World.cell?_of_block (h.block p.block (World.block_lt_of_cell? a _ hc) (fun e => hne (by injection e)))).trans hc
theorem ksA_at (t:Nat) (h:t < 64):ksA[t]? = some (u32 (kAt t)):=by
 have hl:ks.length = 64:=rfl
 unfold ksA kAt
 rw [zA6,zAD,zA4,zA5 (by omega)]
 rfl
theorem keys_cells {w:World} {g:Nat} (h:Keysat w g):∀ t,t < 64 → w.cell? ⟨g,t,none⟩ = some (u32 (kAt t)):=fun t ht => (h.cell t).trans (ksA_at t ht)
theorem row_cells {w:World} {B g cap:Nat} {b:List UInt8} (h:w.ownsRow B 88 1 (.slice (some ⟨g,0,none⟩) 64 cap) 64 ((sched b 64).map u32)):∀ t,t < 64 → w.cell? ⟨g,t,none⟩ = some (u32 ((sched b 64).getD t 0)):=fun t ht => (h.cellAt t ht).trans (sched_cell _ _ _ ht)
theorem own_drewN {w:World} {B e n:Nat} {v:Value} {xs:List Value} (h:w.ownsRow B e 1 v n xs) (k:Nat):(w.drewN k).ownsRow B e 1 v n xs:=h
def nextW (b:List UInt8) (t x:Nat):Prop:=sched b (t + 1) = sched b t ++ [x]
set_option maxHeartbeats 1600000 in
theorem mix_any (H:H8) (s:ByteArray) (gk:Nat) (W:World) (hs:s.size = 64) (hok:H.Ok) (hk:Keysat W gk) :
   Calls Tryz.prog 75 #[.agg (wordsA H),.string s,.slice (some ⟨gk,0,none⟩) 64 64] W fun e W' => e = .returned (.agg (wordsA (mix H s.data.toList))) ∧ Below W.heap.size W W':=by
 obtain ⟨i0,hi,hz0,hz1,hz2⟩:=info_parts info25
 have HS:=Lib.hid hs
 have hs1:64 ≤ s.size:=by omega
 have hs2:s.size ≤ 64:=by omega
 have hsl:s.data.toList.length = 64:=by rw [← Lib.size_eq]; exact hs
 clear hs
 go_enter Tryz.func75,Tryz.ntmps75
 go_upto_region 1 with fail
 have hh:Lies ((W.alloc (.cells (wordsA H) 89)).alloc (.cells (wordsA ⟨0,0,0,0,0,0,0,0⟩) 89)) W.heap.size 89 (wordsA H):=heap_alloc2_old W _ _
 have hr:Lies ((W.alloc (.cells (wordsA H) 89)).alloc (.cells (wordsA ⟨0,0,0,0,0,0,0,0⟩) 89)) (W.heap.size + 1) 89 (wordsA ⟨0,0,0,0,0,0,0,0⟩):=heap_alloc2_new W _ _
 have hb:=((Below.refl W.heap.size W).alloc (zA3 _) (.cells (wordsA H) 89)).alloc (by simp) (.cells (wordsA ⟨0,0,0,0,0,0,0,0⟩) 89)
 have hk2:Keysat ((W.alloc (.cells (wordsA H) 89)).alloc (.cells (wordsA ⟨0,0,0,0,0,0,0,0⟩) 89)) gk:=(Lies.alloc hk _).alloc _
 have hgk:=Lies.lt hk
 generalize (W.alloc (.cells (wordsA H) 89)).alloc (.cells (wordsA ⟨0,0,0,0,0,0,0,0⟩) 89) = w2 at *
 go_wp2_with fail
 go_loopw [7,8] (fun v i wr => ∃ t g cap:Nat,t ≤ 64 ∧ i = .int .i64 t ∧ v = .slice (some ⟨g,0,none⟩) t cap ∧ wr.ownsRow w2.heap.size 88 1 (.slice (some ⟨g,0,none⟩) t cap) t ((sched s.data.toList t).map u32) ∧ Below w2.heap.size w2 wr) (fun _ i _ => 64 - (intOf i).toNat)
 case atStart => exact ⟨0,_,_,by omega,rfl,rfl,own_empty (Lies.new _ _ _) (zA3 _),(Below.refl _ _).alloc (zA3 _) _⟩
 case round =>
   obtain ⟨t,g,cap,ht,rfl,rfl,ho,hbr⟩:=hrel
   by_cases hlt:t < 64
   · go_upto_if 27 with fail
     rw [decide_eq_true (show (t:Int) < 64 by omega)]
     go_cut [9,10,11,12] from 27 to 80 (fun s9 _ _ _ wx => ∃ x n:Nat,s9 = .int .u32 (x:Int) ∧ nextW s.data.toList t x ∧ wx = wr.drewN n)
     case first =>
       by_cases h16:t < 16
       · rw [decide_eq_true (show (t:Int) < 16 by omega)]
         go_wp2_with fail
         go_loopw [9,10] (fun n i wv => ∃ k:Nat,k ≤ 4 ∧ i = .int .i64 k ∧ n = .int .u32 ((numL ((s.data.toList.drop (4 * t)).take k):Nat):Int) ∧ wv = wr) (fun _ i _ => 4 - (intOf i).toNat)
         case atStart => exact ⟨0,by omega,rfl,rfl,rfl⟩
         case round =>
           obtain ⟨k,hk4,rfl,rfl,rfl⟩:=hrel
           by_cases hlt4:k < 4
           · have hi4:4 * t + k < s.size:=by omega
             obtain ⟨hN,hN2⟩:=byte_step s t k hlt4 hi4
             have HN:=Lib.hid hN
             clear hN
             generalize numL ((s.data.toList.drop (4 * t)).take k) = N at *
             have hu8:=u8_lt (s[4 * t + k]'hi4)
             go_wp2_with fail
             go_roundw
             case rel =>
               refine ⟨k + 1,by omega,by go_num,val_int ?_,trivial⟩
               rw [HN.out]
               omega
             case measure => simp [intOf]; omega
           · obtain rfl:k = 4:=by omega
             go_wp2_with fail
             go_meet
             exact ⟨_,0,rfl,sched_head _ _ h16,rfl⟩
       · rw [decide_eq_false (show ¬ (t:Int) < 16 by omega)]
         have k2:=(ho.cellAt (t - 2) (by omega)).trans (sched_cell s.data.toList t (t - 2) (by omega))
         have k7:=(ho.cellAt (t - 7) (by omega)).trans (sched_cell s.data.toList t (t - 7) (by omega))
         have k15:=(ho.cellAt (t - 15) (by omega)).trans (sched_cell s.data.toList t (t - 15) (by omega))
         have k16:=(ho.cellAt (t - 16) (by omega)).trans (sched_cell s.data.toList t (t - 16) (by omega))
         have HN:=Lib.hid (sched_rest s.data.toList t h16)
         have l2:=sched_at_lt s.data.toList t (t - 2)
         have l7:=sched_at_lt s.data.toList t (t - 7)
         have l15:=sched_at_lt s.data.toList t (t - 15)
         have l16:=sched_at_lt s.data.toList t (t - 16)
         have e2:IntKind.i64.wrap ((t:Int) - 2) = ((t - 2:Nat):Int):=by rw [IntWalk.i64_in _ (by omega)]; omega
         have e7:IntKind.i64.wrap ((t:Int) - 7) = ((t - 7:Nat):Int):=by rw [IntWalk.i64_in _ (by omega)]; omega
         have e15:IntKind.i64.wrap ((t:Int) - 15) = ((t - 15:Nat):Int):=by rw [IntWalk.i64_in _ (by omega)]; omega
         have e16:IntKind.i64.wrap ((t:Int) - 16) = ((t - 16:Nat):Int):=by rw [IntWalk.i64_in _ (by omega)]; omega
         have b2:((t - 2:Nat):Int) < (t:Int):=by omega
         have b7:((t - 7:Nat):Int) < (t:Int):=by omega
         have b15:((t - 15:Nat):Int) < (t:Int):=by omega
         have b16:((t - 16:Nat):Int) < (t:Int):=by omega
         generalize t - 2 = u2 at e2 b2 k2 l2 HN
         generalize t - 7 = u7 at e7 b7 k7 l7 HN
         generalize t - 15 = u15 at e15 b15 k15 l15 HN
         generalize t - 16 = u16 at e16 b16 k16 l16 HN
         generalize (sched s.data.toList t).getD u2 0 = x2 at k2 l2 HN
         generalize (sched s.data.toList t).getD u7 0 = x7 at k7 l7 HN
         generalize (sched s.data.toList t).getD u15 0 = x15 at k15 l15 HN
         generalize (sched s.data.toList t).getD u16 0 = x16 at k16 l16 HN
         go_wp2_with fail
         have T1:=Lib.hid (fun w => turn_is x2 17 17 w rfl l2 (by decide) (by decide))
         have T2:=Lib.hid (fun w => turn_is x2 19 19 w rfl l2 (by decide) (by decide))
         have T3:=Lib.hid (fun w => move_is x2 10 _ 10 w rfl l2 (by decide) rfl)
         have T4:=Lib.hid (fun w => turn_is x15 7 7 w rfl l15 (by decide) (by decide))
         have T5:=Lib.hid (fun w => turn_is x15 18 18 w rfl l15 (by decide) (by decide))
         have T6:=Lib.hid (fun w => move_is x15 3 _ 3 w rfl l15 (by decide) rfl)
         go_quiet (first | (with_reducible exact Calls.quiet_of (T1.out _)) | (with_reducible exact Calls.quiet_of (T2.out _)) | (with_reducible exact Calls.quiet_of_same (T3.out _)) | (with_reducible exact Calls.quiet_of (T4.out _)) | (with_reducible exact Calls.quiet_of (T5.out _)) | (with_reducible exact Calls.quiet_of_same (T6.out _)))
         go_wp2
         go_meet
         refine ⟨_,nq,val_int ?_,HN.out,rfl⟩
         rw [sig_one x2 l2,sig_zero x15 l15]
         omega
     case rest =>
       obtain ⟨x,nx,rfl,hx,rfl⟩:=hcut
       have HX:=Lib.hid hx
       have hno:=own_drewN ho nx
       have hsz:=hbr.size
       clear hx
       go_wp2_with ((with_reducible refine wpL_append w2.heap.size 88 i0 (.int .u32 0) 4 Tryz.underlying120 hi hz0 hz1 hz2 rfl _ t _ (hno.alloc _) (wr.drewN nx).heap.size (.int .u32 (x:Int)) (Lies.new (wr.drewN nx) _ _) rfl (by unfold maxLen; omega) (by omega) (by simp; omega) ?_ ?_ ?_); rfl; rfl; intro g6 cap6 w6 ho6 hgrow6)
       go_roundw
       case rel =>
         refine ⟨t + 1,g6,cap6,by omega,by go_num,rfl,?_,((below_drawn hbr nx).alloc hsz _).grown hgrow6 (by simp; omega) (fun k hk => (ho.lt k hk).1)⟩
         rw [HX.out,zC3]
         exact ho6
       case measure => simp [intOf]; omega
   · obtain rfl:t = 64:=by omega
     rw [show ((64:Nat):Int) = 64 from rfl]
     have hh5:=hh.on hbr
     have hr5:=hr.on hbr
     have hk5:Keysat wr gk:=Lies.on hk2 hbr
     have hb5:=below_on hb hbr
     have hgw:=own_far ho (t:=89) hh5 (by decide)
     go_upto_region 16 with ((with_reducible refine wpL_load W.heap.size 89 (wordsA H) 8 row26 rfl hh5 ?_ ?_); rfl)
     have hv6:=Lies.new wr 89 (wordsA H)
     have hh6:=hh5.alloc (.cells (wordsA H) 89)
     have hr6:=hr5.alloc (.cells (wordsA H) 89)
     have hk6:=keys_cells (Lies.alloc hk5 (.cells (wordsA H) 89))
     have ho6:=ho.alloc (.cells (wordsA H) 89)
     have hw6:=row_cells ho6
     have hb6:=hb5.alloc hb5.size (.cells (wordsA H) 89)
     have hgw2:g < wr.heap.size:=block_lt_of_cell ((ho.cellAt 0 (by decide)).trans (sched_cell _ _ _ (by decide)))
     have hgh:=hh5.lt
     have hgr:=hr5.lt
     have hgv:W.heap.size ≤ wr.heap.size:=hb5.size
     clear hh hr hk hk2 hb hbr hh5 hr5 hk5 hb5 ho ho6 hgw hi hz0 hz1 hz2
     generalize wr.alloc (.cells (wordsA H) 89) = w6 at *
     generalize wr.heap.size = gv at *
     go_wp2_with fail
     go_loopw [14] (fun i wr => ∃ (t:Nat) (v:H8),t ≤ 64 ∧ i = .int .i64 t ∧ v.Ok ∧ Hid (v = rnds (sched s.data.toList 64) H t) ∧ Lies wr gv 89 (wordsA v) ∧ Only gv w6 wr) (fun i _ => 64 - (intOf i).toNat)
     case atStart => exact ⟨0,H,by omega,rfl,hok,Lib.hid rfl,hv6,Only.refl _ _⟩
     case round =>
       clear hv6
       obtain ⟨t,v,ht,rfl,hv,HV,hl,hO⟩:=hrel
       by_cases hlt:t < 64
       · have kT:=only_cell hO (hk6 t hlt) (by simp only; omega)
         have wT:=only_cell hO (hw6 t hlt) (by simp only; omega)
         have HR:=Lib.hid (show rnds (sched s.data.toList 64) H (t + 1) = rnd v (kAt t) ((sched s.data.toList 64).getD t 0) by rw [rnds,HV.out])
         have lk:=kAt_lt t hlt
         have lw:=sched_at_lt s.data.toList 64 t
         have HK:=Lib.hid hv
         obtain ⟨va,vb,vc,vd,ve,vf,vg,vh⟩:=hv
         generalize kAt t = k at kT HR lk
         generalize (sched s.data.toList 64).getD t 0 = x at wT HR lw
         have hi:(t:Int) < 64:=by omega
         obtain ⟨c0,c1,c2,c3,c4,c5,c6,c7⟩:=hl.words8
         go_upto_region 21 with fail
         have A1:=Lib.hid (fun w => turn_is v.e 6 6 w rfl ve (by decide) (by decide))
         have A2:=Lib.hid (fun w => turn_is v.e 11 11 w rfl ve (by decide) (by decide))
         have A3:=Lib.hid (fun w => turn_is v.e 25 25 w rfl ve (by decide) (by decide))
         have A4:=Lib.hid (fun w => turn_is v.a 2 2 w rfl va (by decide) (by decide))
         have A5:=Lib.hid (fun w => turn_is v.a 13 13 w rfl va (by decide) (by decide))
         have A6:=Lib.hid (fun w => turn_is v.a 22 22 w rfl va (by decide) (by decide))
         go_cut [17] from 94 to 125 (fun s17 wx => s17 = .int .u32 (tmp1 v k x:Int) ∧ Lies wx gv 89 (wordsA v) ∧ Only gv w6 wx)
         case first =>
           go_quiet (first | (with_reducible exact Calls.quiet_of (A1.out _)) | (with_reducible exact Calls.quiet_of (A2.out _)) | (with_reducible exact Calls.quiet_of (A3.out _)))
           go_wp2
           go_meet
           refine ⟨?_,hl.drewN nq,hO.drewN nq⟩
           rw [big_one _ ve,ch_ref _ _ _ ve vf vg]
           exact val_int (by simp only [tmp1]; omega)
         case rest =>
           clear hl hO c0 c1 c2 c3 c4 c5 c6 c7 kT wT
           obtain ⟨rfl,hl,hO⟩:=hcut
           obtain ⟨c0,c1,c2,c3,c4,c5,c6,c7⟩:=hl.words8
           go_upto_region 22 with fail
           go_cut [18] from 126 to 149 (fun s18 wx => s18 = .int .u32 (tmp2 v:Int) ∧ Lies wx gv 89 (wordsA v) ∧ Only gv w6 wx)
           case first =>
             go_quiet (first | (with_reducible exact Calls.quiet_of (A4.out _)) | (with_reducible exact Calls.quiet_of (A5.out _)) | (with_reducible exact Calls.quiet_of (A6.out _)))
             go_wp2
             go_meet
             refine ⟨?_,hl.drewN nq,hO.drewN nq⟩
             rw [big_zero _ va,maj_walk _ _ _ va vb vc]
             exact val_int (by simp only [tmp2]; omega)
           case rest =>
             clear hl hO
             obtain ⟨rfl,hl,hO⟩:=hcut
             clear A1 A2 A3 A4 A5 A6 c0 c1 c2 c3 c4 c5 c6 c7 va vb vc vd ve vf vg vh lk lw
             have HE:=Lib.hid (shiftA_end v k x)
             go_wp2_with fail
             go_loopw [19] (fun i wv => ∃ j:Nat,j ≤ 7 ∧ i = .int .i64 j ∧ Lies wv gv 89 (shiftA v j) ∧ Only gv w6 wv) (fun i _ => (intOf i).toNat)
             case atStart => exact ⟨7,by omega,rfl,hl,hO⟩
             case round =>
               clear hl hO
               obtain ⟨j,hj,rfl,hl,hO⟩:=hrel
               by_cases h0:0 < j
               · obtain ⟨m,rfl⟩:∃ m,j = m + 1:=⟨j - 1,by omega⟩
                 have hc:=(hl.cell m).trans (shiftA_at v m (by omega))
                 have hf:=hl.frozen (m + 1)
                 obtain ⟨y,hy⟩:=shiftA_cur v m (by omega)
                 have hc1:=(hl.cell (m + 1)).trans hy
                 clear hy
                 have e1:IntKind.i64.wrap (((m + 1:Nat):Int) - 1) = (m:Int):=by rw [IntWalk.i64_in _ (by omega)]; omega
                 have HP:=Lib.hid (shiftA_set v m (by omega))
                 have b1:(m:Int) < 8:=by omega
                 have b2:((m + 1:Nat):Int) < 8:=by omega
                 go_wp2_with fail
                 go_roundw
                 case rel => exact ⟨m,by omega,rfl,by rw [← HP.out]; exact hl.put _ _,hO.put (Or.inl rfl) _⟩
                 case measure => simp [intOf]
               · obtain rfl:j = 0:=by omega
                 have hc4:wr.cell? ⟨gv,4,none⟩ = some (.int .u32 (v.d:Int)):=hl.cell 4
                 have hc0:wr.cell? ⟨gv,0,none⟩ = some (.int .u32 (v.a:Int)):=hl.cell 0
                 have hf4:=hl.frozen 4
                 have hf0:=hl.frozen 0
                 go_wp2_with fail
                 go_roundw
                 case rel =>
                   refine ⟨t + 1,rnd v k x,by omega,by go_num,rnd_ok HK.out _ _,Lib.hid HR.out.symm,?_,(hO.put (Or.inl rfl) _).put (Or.inl rfl) _⟩
                   rw [← HE.out]
                   simp only [plus_cast]
                   exact (hl.put 4 _).put 0 _
                 case measure => simp [intOf]; omega
       · obtain rfl:t = 64:=by omega
         rw [show ((64:Nat):Int) = 64 from rfl]
         have hhv:=hh6.only hO (by intro e; injection e; omega)
         have hrv:=hr6.only hO (by intro e; injection e; omega)
         have hbv:=hO.below hb6 hb6.size hgv
         clear hh6 hr6 hb6 hO hk6 hw6
         go_wp2_with fail
         go_loopw [20] (fun i wr => ∃ t:Nat,t ≤ 8 ∧ i = .int .i64 t ∧ Lies wr W.heap.size 89 (plusA H v t) ∧ Lies wr gv 89 (wordsA v) ∧ Lies wr (W.heap.size + 1) 89 (wordsA ⟨0,0,0,0,0,0,0,0⟩) ∧ Below W.heap.size W wr) (fun i _ => 8 - (intOf i).toNat)
         case atStart => exact ⟨0,by omega,rfl,hhv,hl,hrv,hbv⟩
         case round =>
           clear hhv hl hrv hbv
           obtain ⟨t,ht,rfl,hh,hl,hr,hb⟩:=hrel
           by_cases hlt:t < 8
           · have hc:=(hh.cell t).trans (plusA_at H v t hlt)
             have hd:=(hl.cell t).trans (wordsA_at v t hlt)
             have hf:=hh.frozen t
             have hi:(t:Int) < 8:=by omega
             have HP:=Lib.hid (plusA_set H v t hlt)
             go_upto_region 32 with fail
             go_region
             all_goals
               go_wp2
               go_roundw
               case rel =>
                 exact ⟨t + 1,by omega,by go_num,by rw [← HP.out,plus_cast]; exact (hh.put t _).drew,(hl.far (by simp only; omega) _).drew,(hr.far (by simp only; omega) _).drew,(hb.setCell (p:=⟨W.heap.size,t,none⟩) (zA3 _) _).drew⟩
               case measure => simp [intOf]; omega
           · obtain rfl:t = 8:=by omega
             rw [show ((8:Nat):Int) = 8 from rfl]
             have HE:=Lib.hid (show plusA H v 8 = wordsA (mix H s.data.toList) by rw [mix,← HV.out]; rfl)
             have HN:=Lib.hid (show (plusA H v 8).size = 8 from rfl)
             have HO:=Lib.hid (show Ones (plusA H v 8) by simp [Ones,plusA,Value.oneCell'])
             have H0:=Lib.hid (show (wordsA ⟨0,0,0,0,0,0,0,0⟩).size = 8 from rfl)
             have HL:=Lib.hid hh
             have HR:=Lib.hid hr
             clear hh hr hl
             obtain ⟨cs,hcs⟩:∃ cs,plusA H v 8 = cs:=⟨_,rfl⟩
             rw [hcs] at HE HN HO HL
             obtain ⟨zs,hzs⟩:∃ zs,wordsA ⟨0,0,0,0,0,0,0,0⟩ = zs:=⟨_,rfl⟩
             rw [hzs] at H0 HR
             clear hcs hzs
             go_wp2_with (first | ((with_reducible refine wpL_load W.heap.size 89 cs 8 row26 HN.out HL.out ?_ ?_); rfl) | ((with_reducible refine wpL_store (W.heap.size + 1) 89 _ cs 8 row26 H0.out HN.out HO.out HR.out ?_ ?_ ?_); rfl; rfl))
             exact bodyPost_ret (results_row Tryz.results75 row26 HN.out (HR.out.row cs) rfl) rfl ⟨by rw [HE.out],below_rowSet hb (by omega) _⟩
end Go.Proofs.YteecbglmohhaeaaGreatDoor.U
namespace Go.Proofs.YteecbglmohhaeaaGreatDoor.U
open Go.RowKit
set_option maxHeartbeats 800000 in
theorem keys_any (w:World) :
   Calls Tryz.prog 74 #[] w fun e w' => ∃ g,e = .returned (.slice (some ⟨g,0,none⟩) 64 64) ∧ w.heap.size ≤ g ∧ Keysat w' g ∧ Below w.heap.size w w':=by
 go_enter Tryz.func74,Tryz.ntmps74
 go_wp2
 go_ret
 exact ⟨_,rfl,zA3 _,Lies.new w 88 ksA,(Below.refl _ w).alloc (zA3 _) _⟩
end Go.Proofs.YteecbglmohhaeaaGreatDoor.U
namespace Go.Proofs.YteecbglmohhaeaaGreatDoor.U
open Go.RowKit
def Row32 (w:World) (g:Nat) (l:List Nat):Prop:=∀ i,i < l.length → w.cell? ⟨g,i,none⟩ = some (u32 (l.getD i 0))
theorem lies_row32 {w:World} {g:Nat} {t:TypeId} {l:List Nat} (h:Lies w g t (l.map u32).toArray):Row32 w g l:=fun i hi => by
 rw [h.cell i,zA6,zAD,zA5 hi,zA4,zA5 hi]
 rfl
def h0L:List Nat:=[h0.a,h0.b,h0.c,h0.d,h0.e,h0.f,h0.g,h0.h]
set_option maxHeartbeats 400000 in
theorem first_any (w:World) :
   Calls Tryz.prog 76 #[] w fun e w' => ∃ g,e = .returned (.slice (some ⟨g,0,none⟩) 8 8) ∧ w.heap.size ≤ g ∧ Row32 w' g h0L ∧ Below w.heap.size w w':=by
 go_enter Tryz.func76,Tryz.ntmps76
 go_wp2
 go_ret
 exact ⟨_,rfl,zA3 _,lies_row32 (l:=h0L) (Lies.new w 88 (h0L.map u32).toArray),(Below.refl _ w).alloc (zA3 _) _⟩
end Go.Proofs.YteecbglmohhaeaaGreatDoor.U
namespace Go.Proofs.YteecbglmohhaeaaGreatDoor.U
open Go.RowKit
def putAll (cs:Array Value) (o:Nat):List Value → Array Value
 | [] => cs
 | v :: r => putAll (cs.setIfInBounds o v) (o + 1) r
theorem Lies.putAll {g:Nat} {t:TypeId}:∀ (vs:List Value) (o:Nat) {w:World} {cs:Array Value},Lies w g t cs → Lies (w.setCells g o vs) g t (Go.Proofs.YteecbglmohhaeaaGreatDoor.U.putAll cs o vs)
 | [],_,_,_,h => h
 | v :: r,o,_,_,h => Lies.putAll r (o + 1) (h.put o v)
theorem Only.putAll {g:Nat} {a:World}:∀ (vs:List Value) (o:Nat) {w:World},Only g a w → Only g a (w.setCells g o vs)
 | [],_,_,h => h
 | v :: r,o,_,h => Only.putAll r (o + 1) (h.put (p:=⟨g,o,none⟩) (Or.inl rfl) v)
theorem putAll_words (K M:H8) (buf:ByteArray) (n:Nat):putAll (sumA K buf n) 0 (wordsA M).toList = sumA M buf n:=by
 simp [putAll,sumA]
theorem words_one (M:H8):∀ v ∈ (wordsA M).toList,v.oneCell' = true:=by
 intro v hv
 simp at hv
 rcases hv with rfl | rfl | rfl | rfl | rfl | rfl | rfl | rfl <;> rfl
theorem sum_some {w:World} {g n:Nat} {K:H8} {buf:ByteArray} (hl:Lies w g 91 (sumA K buf n)) (j:Nat) (hj:j < 8):(w.cell? ⟨g,j,none⟩).isSome = true:=by
 rw [hl.cell j,zBE (show j < (sumA K buf n).size from zBA hj (show 8 ≤ 10 by decide))]
 rfl
theorem store_mix {w:World} {g n:Nat} {K M:H8} {buf:ByteArray} {cs:Array Value} (hl:Lies w g 91 (sumA K buf n)) (hcs:wordsA M = cs) :
   ∃ w',(storeCells ⟨g,0,none⟩ cs.toList).run Tryz.prog w = .ok () w' ∧ Lies w' g 91 (sumA M buf n) ∧ Only g w w':=by
 have h1:=words_one M
 have h2:=hl.putAll (wordsA M).toList 0
 rw [putAll_words] at h2
 have h3:=(Only.refl w g).putAll (wordsA M).toList 0
 have h8:(wordsA M).toList.length = 8:=rfl
 rw [hcs] at h1 h2 h3 h8
 have hs:=run_storeCells_cells (P:=Tryz.prog) g 0 cs.toList 0 w
   (fun j hj => by rw [zAQ]; exact sum_some hl j (by omega))
   (fun j hj => by rw [zAQ]; exact hl.frozen j) h1
 rw [zAQ] at hs
 exact ⟨_,hs,h2,h3⟩
theorem Lies.eight {w:World} {g:Nat} {t:TypeId} {s:H8} {buf:ByteArray} {n:Nat} (h:Lies w g t (sumA s buf n)) :
   w.cell? ⟨g,0,none⟩ = some (u32 s.a) ∧ w.cell? ⟨g,1,none⟩ = some (u32 s.b) ∧ w.cell? ⟨g,2,none⟩ = some (u32 s.c) ∧ w.cell? ⟨g,3,none⟩ = some (u32 s.d) ∧ w.cell? ⟨g,4,none⟩ = some (u32 s.e) ∧ w.cell? ⟨g,5,none⟩ = some (u32 s.f) ∧ w.cell? ⟨g,6,none⟩ = some (u32 s.g) ∧ w.cell? ⟨g,7,none⟩ = some (u32 s.h):=
 ⟨h.cell 0,h.cell 1,h.cell 2,h.cell 3,h.cell 4,h.cell 5,h.cell 6,h.cell 7⟩
set_option maxHeartbeats 1600000 in
theorem refWrite_any (H:H8) (buf s:ByteArray) (n:Nat) (w:World) (hb:buf.size ≤ 1000) (hs:s.size ≤ 1000) (hn:n + s.size < 18446744073709551616) (hok:H.Ok) :
   Calls Tryz.prog 50 #[.agg (sumA H buf n),.string s] w fun e w' => e = .returned (.agg (sumA (feed H (buf.data.toList ++ s.data.toList)) (bytesOf (tailB (buf.data.toList ++ s.data.toList))) (n + s.size))) ∧ Below w.heap.size w w':=by
 have hno:¬ 9223372036854775807 < buf.size + s.size:=by omega
 have hno2:(buf ++ s).size ≤ 2000:=by rw [zBN]; omega
 have HA:=Lib.hid (list_append buf s)
 obtain ⟨gk,hgk0⟩:∃ gk:Nat,gk = 0:=⟨0,rfl⟩
 clear hgk0 gk
 have HX:=Lib.hid (heap_alloc2_old w (.cells (sumA H buf n) 91) (.cells (sumA h8zero noBytes 0) 91))
 unfold sumA
 go_enter Tryz.func50,Tryz.ntmps50
 go_wp2_with (go_at_call 74; refine (keys_any _).mono ?_; rintro e w1 ⟨gk,rfl,hgk,hk,hb1⟩; have hx:Lies w1 w.heap.size 91 (sumA H buf n):=Lies.on (heap_alloc2_old w _ _) hb1; have hz:Lies w1 (w.heap.size + 1) 91 (sumA h8zero noBytes 0):=Lies.on (heap_alloc2_new w _ _) hb1; replace hb1:=(((Below.refl _ w).alloc (zA3 _) _).alloc (by simp) _).trans (hb1.mono (by simp; omega)); simp at hgk; have k8:=hx.c8)
 go_loopw [6] (fun v wr => ∃ (r:ByteArray) (K:H8),v = .string r ∧ r.size ≤ 2000 ∧ Lies wr w.heap.size 91 (sumA K buf n) ∧ Lies wr (w.heap.size + 1) 91 (sumA h8zero noBytes 0) ∧ Keysat wr gk ∧ K.Ok ∧ Hid (feed H (buf.data.toList ++ s.data.toList) = feed K r.data.toList) ∧ Hid (tailB (buf.data.toList ++ s.data.toList) = tailB r.data.toList) ∧ Below w.heap.size w wr) (fun v _ => strSize v)
 case atStart => exact ⟨_,H,rfl,hno2,hx,hz,hk,hok,Lib.hid (by rw [HA.out]),Lib.hid (by rw [HA.out]),hb1⟩
 case round =>
   clear hx hz hk hb1 k8 hno hno2 HX
   obtain ⟨r,K,rfl,hr,hx,hz,hk,hK,HF,HL,hb1⟩:=hrel
   by_cases hlt:64 ≤ r.size
   · have HM:=Lib.hid (fun w hk => mix_any K (r.extract 0 64) gk w (by rw [extract_size _ _ _ hlt]) hK hk)
     have hM:=mix_ok K (r.extract 0 64).data.toList
     obtain ⟨M,hMd⟩:∃ M,mix K (r.extract 0 64).data.toList = M:=⟨_,rfl⟩
     rw [hMd] at HM hM
     have HD:=Lib.hid hMd
     clear hMd
     obtain ⟨cs,hcs⟩:∃ cs,wordsA M = cs:=⟨_,rfl⟩
     rw [hcs] at HM
     have hsz:cs.size = 8:=by rw [← hcs]; rfl
     have HC:=Lib.hid hcs
     clear hcs
     obtain ⟨c0,c1,c2,c3,c4,c5,c6,c7⟩:=hx.eight
     go_upto_region 4 with fail
     go_region_with (go_at_call 75; refine (HM.out wr.drew hk).mono ?_; rintro e w4 ⟨rfl,hb4⟩; have hx4:=Lies.on hx.drew hb4; have hz4:=Lies.on hz.drew hb4; have hk4:=Lies.on (Lies.drew hk) hb4; obtain ⟨w5,hst,hl5,hO5⟩:=store_mix (M:=M) hx4 HC.out)
     all_goals
       go_wp2
       go_roundw
       case rel =>
         exact ⟨_,M,rfl,by rw [zB0]; omega,hl5,hz4.only hO5 (by intro e; injection e; omega),Lies.only hk4 hO5 (by intro e; injection e; omega),hM,Lib.hid (by rw [HF.out,feed_long K r.data.toList (by rw [← Lib.size_eq]; exact hlt),← head_list,HD.out,rest_list]),Lib.hid (by rw [HL.out,tail_long r.data.toList (by rw [← Lib.size_eq]; exact hlt),rest_list]),hO5.below (below_on hb1.drew hb4) (below_on hb1.drew hb4).size (zA3 _)⟩
       case measure => simp [strSize]; omega
   · have k8:=hx.c8
     have f8:=hx.frozen 8
     have k9:=hx.c9
     have f9:=hx.frozen 9
     go_upto_region 8 with fail
     generalize hW:World.setCell (World.setCell wr _ _) _ _ = w6
     have hx6:Lies w6 w.heap.size 91 (sumA K r (n + s.size)):=by rw [← hW]; exact (Lies.buf hx r).len (n + s.size)
     have hz6:Lies w6 (w.heap.size + 1) 91 (sumA h8zero noBytes 0):=by rw [← hW]; exact (hz.far (by simp) _).far (by simp) _
     have hb6:Below w.heap.size w w6:=by rw [← hW]; exact (hb1.setCell (p:=⟨w.heap.size,8,none⟩) (zA3 _) _).setCell (p:=⟨w.heap.size,9,none⟩) (zA3 _) _
     clear hW
     have hsh:r.data.toList.length < 64:=by rw [← Lib.size_eq]; omega
     have HE:Ending.returned (.agg (sumA K r (n + s.size))) = .returned (.agg (sumA (feed H (buf.data.toList ++ s.data.toList)) (bytesOf (tailB (buf.data.toList ++ s.data.toList))) (n + s.size))):=by
       rw [HF.out,HL.out,feed_short K _ hsh,tail_short _ hsh,show bytesOf r.data.toList = r from Lib.mk_data r]
     go_wp2_with (first | ((with_reducible refine wpL_load w.heap.size 91 (sumA K r (n + s.size)) 10 row29 rfl hx6 ?_ ?_); rfl) | ((with_reducible refine wpL_store (w.heap.size + 1) 91 _ (sumA K r (n + s.size)) 10 row29 rfl rfl (sumA_one _ _ _) hz6 ?_ ?_ ?_); rfl; rfl))
     exact bodyPost_ret (results_row Tryz.results50 row29 rfl (hz6.row _) rfl) rfl ⟨HE,below_rowSet hb6 (by omega) _⟩
end Go.Proofs.YteecbglmohhaeaaGreatDoor.U
namespace Go.Proofs.YteecbglmohhaeaaGreatDoor.U
open Go.RowKit
def lenOf:Value → Nat
 | .slice _ l _ => l
 | _ => 0
def downC (N w i:Nat):List Value:=List.replicate i (Value.int .u8 0) ++ (Lib.byteCells (bigL N w)).drop i
theorem downC_start (N w:Nat):downC N w w = List.replicate w (Value.int .u8 0):=by
 unfold downC
 rw [zAW (by rw [Lib.byteCells_length,bigL_length]; exact zA3 _),zB6]
theorem downC_end (N w:Nat):downC N w 0 = Lib.byteCells (bigL N w):=rfl
theorem downC_at (N w i:Nat):(downC N w (i + 1))[i]? = some (Value.int .u8 0):=by
 unfold downC
 rw [zBY (by simp),zC6,if_pos (by omega)]
theorem bigL_at (N w i:Nat) (h:i < w):(bigL N w)[i]? = some (N / 256 ^ (w - 1 - i) % 256).toUInt8:=by
 have h1:=bigL_take N w i h
 have h2:=congrArg (fun l => l[i]?) h1
 have hl:((bigL N w).take i).length = i:=by rw [zAM,bigL_length]; omega
 simp only [zBT (Nat.lt_succ_self i)] at h2
 rw [h2,zBJ (by omega),hl,zB8]
 rfl
theorem downC_set (N w i:Nat) (h:i < w):(downC N w (i + 1)).set i (Value.int .u8 ((N / 256 ^ (w - (i + 1)) % 256:Nat):Int)) = downC N w i:=by
 have e:w - (i + 1) = w - 1 - i:=by omega
 rw [e]
 have hb:i < (Lib.byteCells (bigL N w)).length:=by rw [Lib.byteCells_length,bigL_length]; exact h
 have hx:(Lib.byteCells (bigL N w))[i] = Value.int .u8 ((N / 256 ^ (w - 1 - i) % 256:Nat):Int):=by
   have h1:=bigL_at N w i h
   have h2:(Lib.byteCells (bigL N w))[i]? = some (Value.int .u8 ((N / 256 ^ (w - 1 - i) % 256:Nat):Int)):=by
     unfold Lib.byteCells
     rw [zAD,h1]
     simp only [zBW]
     rw [toNat_lt256 _ (zAO _ (by decide))]
   rw [zA5 hb] at h2
   injection h2
 unfold downC
 rw [List.set_append_left _ _ (by simp),List.replicate_succ',zBV _ _ (by simp),List.length_replicate,zB8,zA1,zBL,zAS hb,hx]
 rfl
theorem down_next (N w i:Nat) (h:i < w):N / 256 ^ (w - (i + 1)) / 256 = N / 256 ^ (w - i):=by
 rw [zB5,← zAP,show (w - (i + 1)).succ = w - i by omega]
theorem own_news {w:World} {B e g n cap:Nat} {xs:List Value} (h:w.ownsRow B e 1 (.slice (some ⟨g,0,none⟩) n cap) n xs):∀ j u,xs[j]? = some u → w.cell? ((⟨g,0,none⟩:Addr).add j) = some u:=fun j u hu => by
 have hj:j < xs.length:=(List.getElem?_eq_some_iff.1 hu).1
 have hn:xs.length = n:=by simpa using h.1
 rw [Addr.add_mid,zAQ]
 exact (h.cellAt j (by omega)).trans hu
theorem wpL_appendRow {P:Program} {ops:Array Oper} {rest:List Oper} {a:Act} {w:World} {Q:Exit → Act → World → Prop} {t':TypeId} {pos:String} {after:Array Edge} {d:Option Tmp} {x y:Tmp} {ty:TypeId}
   (B:Nat) (e:TypeId) (i:TypeInfo) (z:Value) (bytes:Nat) (ht:P.underlying ty = some (.slice e)) (hi:P.info? e = some i) (hz:i.zero = some z) (hsize:i.size = 1) (hby:i.bytes = bytes) (hzs:z.cells.size = 1)
   (v:Value) (n:Nat) (xs:List Value) (hown:w.ownsRow B e 1 v n xs) (B' b m c:Nat) (us:List Value) (hrow:w.ownsRow B' e 1 (.slice (some ⟨b,0,none⟩) m c) m us) (hu:∀ u ∈ us,u.oneCell' = true) (hm:0 < m) (h63:n + m ≤ maxLen) (hbytes:(n + m) * bytes ≤ 140737488355328) (hbase:B ≤ w.heap.size)
   (hs:a.eval (.tmp x) = v) (hx:a.eval (.tmp y) = .slice (some ⟨b,0,none⟩) m c)
   (h:∀ g cap w',w'.ownsRow B e 1 (.slice (some ⟨g,0,none⟩) (n + m) cap) (n + m) (xs ++ us) → w.grownBy w' v.ownBlock → wpList P ops Q rest (a.put d (.slice (some ⟨g,0,none⟩) (n + m) cap)) w') :
   wpList P ops Q (⟨d,.call { callee:=.builtin .append,args:=#[.tmp x,.tmp y],argTypes:=#[ty,ty] },t',pos,after,none⟩ :: rest) a w:=
 wpList_append_lies (o:=⟨d,.call { callee:=.builtin .append,args:=#[.tmp x,.tmp y],argTypes:=#[ty,ty] },t',pos,after,none⟩) w rfl _ _ ty rfl B e i z 1 bytes ht hi hz hsize hby hzs (by decide) v n xs hs hown ⟨b,0,none⟩ m c us hx (by simpa using hrow.1) (own_news hrow) hu hm h63 hbytes hbase w.heap.size rfl (fun g cap w' h2 h3 _ _ => h g cap w' h2 h3)
theorem byteCells_one (l:List UInt8):∀ u ∈ Lib.byteCells l,u.oneCell' = true:=by
 intro u hu
 unfold Lib.byteCells at hu
 rw [List.mem_map] at hu
 obtain ⟨x,_,rfl⟩:=hu
 rfl
def padTo (k:Nat):List UInt8:=128 :: List.replicate k 0
theorem padTo_succ (k:Nat):padTo (k + 1) = padTo k ++ [0]:=by unfold padTo; rw [List.replicate_succ']; rfl
theorem own_single {w:World} {B g:Nat} {e:TypeId} {u:Value} (hl:Lies w g e #[u]) (hB:B ≤ g):w.ownsRow B e 1 (.slice (some ⟨g,0,none⟩) 1 1) 1 [u]:=
 ⟨rfl,.inr ⟨g,1,_,rfl,hB,hl,zA3 _,by unfold maxLen; omega,rfl,rfl⟩⟩
set_option maxHeartbeats 1600000 in
theorem refEnd_any (H:H8) (buf:ByteArray) (n:Nat) (W:World) (hr:rightB buf.size n = true) (hok:H.Ok) :
   Calls Tryz.prog 49 #[.agg (sumA H buf n)] W fun e W' => e = .returned (.string (bytesOf (endT H buf.data.toList n))) ∧ Below W.heap.size W W':=by
 obtain ⟨hr1,hr2,hr3⟩:=right_of hr
 obtain ⟨i0,hi,hz0,hz1,hz2⟩:=info_parts info5
 have HR2:=Lib.hid hr2
 clear hr hr2
 unfold sumA
 go_enter Tryz.func49,Tryz.ntmps49
 go_upto_region 1 with fail
 have hx:Lies (W.alloc (.cells (sumA H buf n) 91)) W.heap.size 91 (sumA H buf n):=Lies.new W _ _
 have hb:=(Below.refl W.heap.size W).alloc (zA3 _) (.cells (sumA H buf n) 91)
 unfold sumA at hb hx
 generalize World.alloc W _ = w1 at *
 go_wp2_with fail
 go_loopw [3] (fun v wr => ∃ k g cap:Nat,k ≤ (119 - n % 64) % 64 ∧ v = .slice (some ⟨g,0,none⟩) (k + 1) cap ∧ wr.ownsRow W.heap.size 5 1 (.slice (some ⟨g,0,none⟩) (k + 1) cap) (k + 1) (Lib.byteCells (padTo k)) ∧ Lies wr W.heap.size 91 (sumA H buf n) ∧ Below W.heap.size W wr) (fun v _ => 100 - lenOf v)
 case atStart => exact ⟨0,_,_,by omega,rfl,own_single (Lies.new w1 _ _) hb.size,hx.alloc _,hb.alloc hb.size _⟩
 case round =>
   clear hx hb
   obtain ⟨k,g,cap,hk,rfl,ho,hx,hb⟩:=hrel
   have k8:=hx.c8
   have k9:=hx.c9
   have hgw:=own_far ho (t:=91) hx (by decide)
   have hsz:=hb.size
   have hBw:=hx.lt
   by_cases h0:(buf.size + (k + 1) + 8) % 64 = 0
   · have hk2:k = (119 - n % 64) % 64:=by have:=HR2.out; omega
     have HP:=Lib.hid (show pad n = padTo k ++ bigL (8 * n) 8 by rw [hk2]; rfl)
     clear hk2
     have h1:((buf.size:Int) + ((k + 1:Nat):Int) + 8) % 64 = 0:=by omega
     go_upto_region 5 with fail
     obtain ⟨wq,hwq⟩:∃ wq,wq = wr:=⟨_,rfl⟩
     subst hwq
     go_wp2_with (at_make; refine wpList_make_full _ rfl _ _ 71 rfl wq.heap.size 5 i0 (.int .u8 0) 1 Tryz.underlying71 hi hz0 hz1 _ _ _ _ 8 rfl rfl rfl rfl ?b2 ?b3 (zA3 _) ?_)
     case b2 => rw [hz2]; omega
     case b3 => unfold maxLen; omega
     intro w5 hown5 hgrow5
     have hb5:Below wq.heap.size wq w5:=(Below.refl _ _).grown hgrow5 (zA3 _) (fun k hk => by cases hk)
     clear hgrow5
     go_wp2_with fail
     go_loopw [4,6] (fun nv i wv => ∃ j:Nat,j ≤ 8 ∧ i = .int .i64 j ∧ nv = .int .u64 ((8 * n / 256 ^ (8 - j):Nat):Int) ∧ wv.ownsRow wq.heap.size 5 1 (.slice (some ⟨wq.heap.size,0,none⟩) 8 8) 8 (downC (8 * n) 8 j) ∧ Below wq.heap.size wq wv) (fun _ i _ => (intOf i).toNat)
     case atStart => exact ⟨8,by omega,rfl,val_int (by rw [zB8,zCG,zCP]; omega),by rw [downC_start]; simpa [toList_madeCells_one] using hown5,hb5⟩
     case round =>
       clear hown5 hb5
       obtain ⟨j,hj,rfl,rfl,ho5,hb5⟩:=hrel
       by_cases hj0:0 < j
       · obtain ⟨m,rfl⟩:∃ m,j = m + 1:=⟨j - 1,by omega⟩
         have hc:=(ho5.cellAt m (by omega)).trans (downC_at (8 * n) 8 m)
         have hf:=ho5.frozenAt m
         have HD:=Lib.hid (downC_set (8 * n) 8 m (by omega))
         have HN:=Lib.hid (down_next (8 * n) 8 m (by omega))
         have hX:8 * n / 256 ^ (8 - (m + 1)) ≤ 8 * n:=zB9 _ _
         have e1:IntKind.i64.wrap (((m + 1:Nat):Int) - 1) = (m:Int):=by rw [IntWalk.i64_in _ (by omega)]; omega
         have b1:(m:Int) < 8:=by omega
         generalize 8 * n / 256 ^ (8 - (m + 1)) = X at *
         go_wp2_with fail
         go_roundw
         case rel => exact ⟨m,by omega,rfl,val_int (by rw [← HN.out]; omega),by rw [← HD.out]; exact (ho5.stored m _).1,hb5.setCell (p:=⟨wq.heap.size,m,none⟩) (zA3 _) _⟩
         case measure => simp [intOf]
       · obtain rfl:j = 0:=by omega
         rw [downC_end] at ho5
         have ho2:=own_on ho hb5
         have hx2:=hx.on hb5
         have hb2:=below_on hb hb5
         have hB2:=hb2.size
         have hge:=fun j hj => (ho.lt j hj).1
         obtain ⟨Y,y8,y9,HY,hY,HW⟩:∃ (Y:H8) (b:ByteArray) (m:Nat),Hid (outT Y = endT H buf.data.toList n) ∧ Y.Ok ∧ Hid (∀ w,Calls Tryz.prog 50 #[.agg (sumA H buf n),.string ⟨(pad n).toArray⟩] w fun e w' => e = .returned (.agg (sumA Y b m)) ∧ Below w.heap.size w w'):=
           ⟨_,_,_,Lib.hid rfl,feed_ok' hok _,Lib.hid fun w => refWrite_any H buf (bytesOf (pad n)) n w (by omega) (by rw [bytes_size,pad_length]; omega) (by rw [bytes_size,pad_length]; omega) hok⟩
         clear k8 k9 hx hb h0 h1 hb5
         go_upto_region 13 with (first | ((with_reducible refine wpL_appendRow W.heap.size 5 i0 (.int .u8 0) 1 Tryz.underlying71 hi hz0 hz1 hz2 rfl _ (k + 1) _ ho2 wq.heap.size wq.heap.size 8 8 _ ho5 (byteCells_one _) (by omega) (by unfold maxLen; omega) (by omega) hB2 ?_ ?_ ?_); rfl; rfl; intro g6 cap6 w6 ho6 hgrow6; rw [← Lib.byteCells_append,← HP.out] at ho6; have hcv:=str_own ho6; have hx6:=hx2.only hgrow6 (fun e => hgw e.symm); have hb6:=hb2.grown hgrow6 hB2 hge; clear hgrow6) | ((with_reducible refine wpL_load W.heap.size 91 (sumA H buf n) 10 row29 rfl hx6 ?_ ?_); rfl) | (go_at_call 50; refine (HW.out w6).mono ?_; rintro e w7 ⟨rfl,hb7⟩; replace hb7:=below_on hb6 hb7) | ((with_reducible refine wpL_store w7.heap.size 91 _ (sumA Y y8 y9) 10 row29 ?_ ?_ ?_ (Lies.new w7 _ _) ?_ ?_ ?_); rfl; rfl; exact sumA_one _ _ _; rfl; rfl))
         generalize hW8:World.setRow _ _ _ = w8
         have hl8:Lies w8 w7.heap.size 91 (sumA Y y8 y9):=by rw [← hW8]; exact (Lies.new w7 _ _).row _
         have hb8:Below W.heap.size W w8:=by rw [← hW8]; exact below_rowSet (hb7.alloc hb7.size _) hb7.size _
         clear hW8
         have HWd:=Lib.hid (fun o:Obj => (Lies.alloc hl8 o).words)
         have HB8:=hb8.alloc hb8.size (.cells #[] 5)
         have hB8:=hb8.size
         have ho8:=Lies.new w8 5 #[]
         have hix:=index_eight Y
         clear hl8 hb8 hb7 hb6 hx6 ho6 hcv ho5 ho2 hx2 hb2 hgw hge ho HW HP
         go_wp2_with ((with_reducible refine wpL_loadMid w7.heap.size 0 (wordsL Y) 8 row26 rfl (HWd.out _) ?_ ?_); rfl)
         simp only [wordsL]
         go_loopw [8,53] (fun o i wr => ∃ k g cap:Nat,k ≤ 8 ∧ i = .int .i64 k ∧ o = .slice (some ⟨g,0,none⟩) (4 * k) cap ∧ wr.ownsRow W.heap.size 5 1 (.slice (some ⟨g,0,none⟩) (4 * k) cap) (4 * k) (Lib.byteCells (outTo Y k)) ∧ Below W.heap.size W wr) (fun _ i _ => 8 - (intOf i).toNat)
         case atStart => exact ⟨0,_,_,by omega,rfl,rfl,own_empty ho8 hB8,HB8⟩
         case round =>
           clear ho8 HB8 HWd
           obtain ⟨k,g,cap,hk,rfl,rfl,ho,hb⟩:=hrel
           obtain ⟨wq,hwq⟩:∃ wq,wq = wr:=⟨_,rfl⟩
           subst hwq
           by_cases hlt:k < 8
           · have hx:=hix k hlt
             clear hix
             have hV:=H8.at_lt hY k
             have HS:=Lib.hid (show outTo Y (k + 1) = outTo Y k ++ bigL (Y.at k) 4 from rfl)
             generalize Y.at k = V at hx hV HS
             go_wp2_with (at_make; refine wpList_make_full _ rfl _ _ 71 rfl wq.heap.size 5 i0 (.int .u8 0) 1 Tryz.underlying71 hi hz0 hz1 _ _ _ _ 4 rfl rfl rfl rfl ?b2 ?b3 (zA3 _) ?_)
             case b2 => rw [hz2]; omega
             case b3 => unfold maxLen; omega
             intro w5 hown5 hgrow5
             have hb5:Below wq.heap.size wq w5:=(Below.refl _ _).grown hgrow5 (zA3 _) (fun k hk => by cases hk)
             clear hgrow5
             go_wp2_with fail
             go_loopw [10,12] (fun nv i wv => ∃ j:Nat,j ≤ 4 ∧ i = .int .i64 j ∧ nv = .int .u32 ((V / 256 ^ (4 - j):Nat):Int) ∧ wv.ownsRow wq.heap.size 5 1 (.slice (some ⟨wq.heap.size,0,none⟩) 4 4) 4 (downC V 4 j) ∧ Below wq.heap.size wq wv) (fun _ i _ => (intOf i).toNat)
             case atStart => exact ⟨4,by omega,rfl,val_int (by rw [zB8,zCG,zCP]),by rw [downC_start]; simpa [toList_madeCells_one] using hown5,hb5⟩
             case round =>
               clear hown5 hb5
               obtain ⟨j,hj,rfl,rfl,ho5,hb5⟩:=hrel
               by_cases hj0:0 < j
               · obtain ⟨m,rfl⟩:∃ m,j = m + 1:=⟨j - 1,by omega⟩
                 have hc:=(ho5.cellAt m (by omega)).trans (downC_at V 4 m)
                 have hf:=ho5.frozenAt m
                 have HD:=Lib.hid (downC_set V 4 m (by omega))
                 have HN:=Lib.hid (down_next V 4 m (by omega))
                 have hX:V / 256 ^ (4 - (m + 1)) ≤ V:=zB9 _ _
                 have e1:IntKind.i64.wrap (((m + 1:Nat):Int) - 1) = (m:Int):=by rw [IntWalk.i64_in _ (by omega)]; omega
                 have b1:(m:Int) < 4:=by omega
                 generalize V / 256 ^ (4 - (m + 1)) = X at *
                 go_wp2_with fail
                 go_roundw
                 case rel => exact ⟨m,by omega,rfl,val_int (by rw [← HN.out]; omega),by rw [← HD.out]; exact (ho5.stored m _).1,hb5.setCell (p:=⟨wq.heap.size,m,none⟩) (zA3 _) _⟩
                 case measure => simp [intOf]
               · obtain rfl:j = 0:=by omega
                 rw [downC_end] at ho5
                 have ho2:=own_on ho hb5
                 have hb2:=below_on hb hb5
                 have hB2:=hb2.size
                 have hge:=fun j hj => (ho.lt j hj).1
                 go_wp2_with ((with_reducible refine wpL_appendRow W.heap.size 5 i0 (.int .u8 0) 1 Tryz.underlying71 hi hz0 hz1 hz2 rfl _ (4 * k) _ ho2 wq.heap.size wq.heap.size 4 4 _ ho5 (byteCells_one _) (by omega) (by unfold maxLen; omega) (by omega) hB2 ?_ ?_ ?_); rfl; rfl; intro g6 cap6 w6 ho6 hgrow6)
                 go_roundw
                 case rel => exact ⟨k + 1,g6,cap6,by omega,by go_num,rfl,by rw [HS.out,Lib.byteCells_append]; exact ho6,hb2.grown hgrow6 hB2 hge⟩
                 case measure => simp [intOf]; omega
           · obtain rfl:k = 8:=by omega
             have hcv:=str_own ho
             clear hix
             go_wp2
             go_ret
             exact ⟨ret1_of (val_str (by rw [outTo_end,HY.out])),hb⟩
   · have h1:¬ ((buf.size:Int) + ((k + 1:Nat):Int) + 8) % 64 = 0:=by omega
     have hk2:k + 1 ≤ (119 - n % 64) % 64:=by have:=HR2.out; omega
     have HS:=Lib.hid (padTo_succ k)
     go_wp2_with ((with_reducible refine wpL_append W.heap.size 5 i0 (.int .u8 0) 1 Tryz.underlying71 hi hz0 hz1 hz2 rfl _ (k + 1) _ (ho.alloc _) wr.heap.size (.int .u8 0) (Lies.new wr _ _) rfl (by unfold maxLen; omega) (by omega) (by simp; omega) ?_ ?_ ?_); rfl; rfl; intro g6 cap6 w6 ho6 hgrow6)
     go_roundw
     case rel =>
       exact ⟨k + 1,g6,cap6,hk2,rfl,by rw [HS.out,Lib.byteCells_append]; exact ho6,Lies.only (hx.alloc _) hgrow6 (fun e => hgw e.symm),(hb.alloc hsz _).grown hgrow6 (by simp; omega) (fun j hj => (ho.lt j hj).1)⟩
     case measure => simp [lenOf]; omega
end Go.Proofs.YteecbglmohhaeaaGreatDoor.U
namespace Go.Proofs.YteecbglmohhaeaaGreatDoor.U
open Go.RowKit
def newA (i:Nat):Array Value:=
 let f:=fun (j x:Nat) => u32 (if j < i then x else 0)
 #[f 0 h0.a,f 1 h0.b,f 2 h0.c,f 3 h0.d,f 4 h0.e,f 5 h0.f,f 6 h0.g,f 7 h0.h,.string noBytes,.int .u64 0]
theorem newA_at (i:Nat) (h:i < 8):(newA i)[i]? = some (u32 0):=by
 match i,h with
 | 0,_ | 1,_ | 2,_ | 3,_ | 4,_ | 5,_ | 6,_ | 7,_ => rfl
theorem newA_set (i:Nat) (h:i < 8):(newA i).setIfInBounds i (u32 (h0L.getD i 0)) = newA (i + 1):=by
 match i,h with
 | 0,_ | 1,_ | 2,_ | 3,_ | 4,_ | 5,_ | 6,_ | 7,_ => rfl
theorem newA_end:newA 8 = sumA h0 noBytes 0:=rfl
theorem Row32.far {w:World} {g:Nat} {l:List Nat} (h:Row32 w g l) {p:Addr} (hp:p.block ≠ g) (v:Value):Row32 (w.setCell p v) g l:=fun i hi => by
 rw [World.cell?_setCell_other w p ⟨g,i,none⟩ v (fun e => hp (by rw [e]))]
 exact h i hi
set_option maxHeartbeats 800000 in
theorem refNew_any (w:World) :
   Calls Tryz.prog 51 #[] w fun e w' => e = .returned (.agg (sumA h0 noBytes 0)) ∧ Below w.heap.size w w':=by
 go_enter Tryz.func51,Tryz.ntmps51
 go_upto_region 2 with fail
 generalize hW:World.alloc (World.alloc w _) _ = w2
 have hz:Lies w2 w.heap.size 91 (sumA h8zero noBytes 0):=by rw [← hW]; exact heap_alloc2_old w _ _
 have hx:Lies w2 (w.heap.size + 1) 91 (newA 0):=by rw [← hW]; exact heap_alloc2_new w _ _
 have hb:Below w.heap.size w w2:=by rw [← hW]; exact ((Below.refl w.heap.size w).alloc (zA3 _) _).alloc (by simp) _
 clear hW
 go_wp2_with (go_at_call 76; refine (first_any _).mono ?_; rintro e w3 ⟨gf,rfl,hgf,hf,hb3⟩; replace hz:=hz.on hb3; replace hgf:=zBA (Lies.lt hx) hgf; replace hx:=hx.on hb3; replace hb:=below_on hb hb3; clear hb3)
 go_loopw [7] (fun ix wr => ∃ k:Nat,k ≤ 8 ∧ ix = .int .i64 k ∧ Lies wr w.heap.size 91 (sumA h8zero noBytes 0) ∧ Lies wr (w.heap.size + 1) 91 (newA k) ∧ Row32 wr gf h0L ∧ Below w.heap.size w wr) (fun ix _ => 8 - (intOf ix).toNat)
 case atStart => exact ⟨0,by omega,rfl,hz,hx,hf,hb⟩
 case round =>
   clear hz hx hf hb
   obtain ⟨k,hk,rfl,hz,hx,hf,hb⟩:=hrel
   by_cases hlk:k < 8
   · have hX:=hf k hlk
     have HP:=Lib.hid (newA_set k hlk)
     have hc:=(hx.cell k).trans (newA_at k hlk)
     have hfz:=hx.frozen k
     generalize h0L.getD k 0 = X at hX HP
     have b1:(k:Int) < 8:=by omega
     go_wp2_with fail
     go_roundw
     case rel => exact ⟨k + 1,by omega,by go_num,hz.far (by simp only; omega) _,by rw [← HP.out]; exact hx.put k _,hf.far (by simp only; omega) _,hb.setCell (p:=⟨w.heap.size + 1,k,none⟩) (by simp only; omega) _⟩
     case measure => simp [intOf]; omega
   · obtain rfl:k = 8:=by omega
     rw [newA_end] at hx
     go_wp2_with (first | ((with_reducible refine wpL_load (w.heap.size + 1) 91 (sumA h0 noBytes 0) 10 row29 rfl hx ?_ ?_); rfl) | ((with_reducible refine wpL_store w.heap.size 91 _ (sumA h0 noBytes 0) 10 row29 rfl rfl (sumA_one _ _ _) hz ?_ ?_ ?_); rfl; rfl))
     exact bodyPost_ret (results_row Tryz.results51 row29 rfl (hz.row _) rfl) rfl ⟨rfl,below_rowSet hb (zA3 _) _⟩
set_option maxHeartbeats 800000 in
theorem refSum_any (s:ByteArray) (w:World) (hs:s.size ≤ 1000) :
   Calls Tryz.prog 33 #[.string s] w fun e w' => e = .returned (.string (bytesOf (sumT s.data.toList))) ∧ Below w.heap.size w w':=by
 have hz:s.data.toList.length = s.size:=(Lib.size_eq s).symm
 have hW:=fun w => refWrite_any h0 noBytes s 0 w (by decide) hs (by omega) h0_ok
 rw [show noBytes.data.toList ++ s.data.toList = s.data.toList from rfl,zAQ] at hW
 have hE:=fun w => refEnd_any (feed h0 s.data.toList) (bytesOf (tailB s.data.toList)) s.size w (by unfold rightB; rw [bytes_size,tail_length]; simp; omega) (feed_ok' h0_ok _)
 rw [show (bytesOf (tailB s.data.toList)).data.toList = tailB s.data.toList from rfl,← hz,end_sum] at hE
 rw [← hz] at hW
 have HW:=Lib.hid hW
 have HE:=Lib.hid hE
 clear hW hE
 go_enter Tryz.func33,Tryz.ntmps33
 go_wp2_with (first | (go_at_call 51; refine (refNew_any _).mono ?_; rintro e w1 ⟨rfl,hb1⟩) | (go_at_call 50; refine (HW.out _).mono ?_; rintro e w2 ⟨rfl,hb2⟩; replace hb1:=below_on hb1 hb2) | (go_at_call 49; refine (HE.out _).mono ?_; rintro e w3 ⟨rfl,hb3⟩; replace hb1:=below_on hb1 hb3))
 go_ret
 exact ⟨rfl,hb1⟩
theorem sum_text (t:ByteArray) (w:World) (h:t.size ≤ 1000) (hw:Tab w) :
   Calls Tryz.prog 31 #[.slice (some ⟨w.heap.size,0,none⟩) 1 1] (w.alloc (.cells #[.string t] 9)) fun e w' => e = .returned (.string (bytesOf (sumT t.data.toList))) ∧ Below w.heap.size w w':=by
 have hs:=sum_one w t.data.toList (by rw [← Lib.size_eq]; omega) hw
 rw [show (⟨t.data.toList.toArray⟩:ByteArray) = t from Lib.mk_data t] at hs
 exact hs
end Go.Proofs.YteecbglmohhaeaaGreatDoor.U
