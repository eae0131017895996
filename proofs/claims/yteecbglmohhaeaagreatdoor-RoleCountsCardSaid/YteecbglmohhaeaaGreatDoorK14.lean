import Derived.Test.YteecbglmohhaeaaGreatDoorK13
import Derived.BigQuiet
import Derived.ChangeOld
import Derived.Deep.AppendLies
import Derived.Deep.DrawnRows
import Derived.Deep.QuietTactic
import Derived.Deep.RegionHeld3
import Derived.Deep.RegionLaw
import Derived.OpenShut
import Derived.ProofKit
import Derived.Shelf.Bits.Mul64
import Derived.Shelf.Small.Strs
import Derived.Shelf.Strings.Search1
import Derived.ShutString
import Derived.SliceStrings
import Derived.Test.YteecbglmohhaeaaGreatDoorProg
import Derived.Test.YteecbglmohhaeaaGreatDoorRows
set_option maxRecDepth 100000
open List renaming drop_eq_getElem_cons → zAS, drop_zero → zAH, getD_eq_getElem?_getD → zA4, getElem?_map → zAD, getElem?_take → zC0, length_append → zAL, take_of_length_le → zA7
open Nat renaming eq_zero_or_pos → zC, le_refl → zA3, lt_trans → zCI, mod_eq_of_lt → zAB, mod_lt → zAO, zero_le → zAR
open Array renaming length_toList → zAC
open Int renaming tmod_eq_emod_of_nonneg → zBK
open ByteArray renaming size_append → zBN
namespace Go.Proofs.YteecbglmohhaeaaGreatDoor
open Go.RowKit
attribute [local go_sem ↓] Go.wp_at_zero Go.wp_at_succ
theorem low_all:∀ n:Fin 256,bits BinOp.and IntKind.u8 (n.val:Int) 15 = ((n.val % 16:Nat):Int):=by decide +kernel
theorem low_nibble (c:UInt8):0 ≤ bits BinOp.and IntKind.u8 (c.toNat:Int) 15 ∧ bits BinOp.and IntKind.u8 (c.toNat:Int) 15 < 16 ∧ bits BinOp.and IntKind.u8 (c.toNat:Int) 15 = ((c.toNat % 16:Nat):Int):=by
 have h:=low_all ⟨c.toNat,u8_lt c⟩
 simp only at h
 rw [h]
 omega
abbrev digB:ByteArray:={ data:=#[48,49,50,51,52,53,54,55,56,57,97,98,99,100,101,102] }
theorem digB_all:∀ n:Fin 16,digB[n.val]'n.isLt = dg n.val:=by decide +kernel
theorem digB_at (i:Nat) (h:i < digB.size):digB[i] = dg i:=digB_all ⟨i,h⟩
theorem hex_row {w:World} {B:Nat} {v:Value} (s:ByteArray) (k:Nat) (hlt:k < s.size) (h1:((s[k].toNat:Int) / 16).toNat < digB.size) (h2:(bits BinOp.and IntKind.u8 (s[k].toNat:Int) 15).toNat < digB.size)
   (hown:w.ownsRow B 5 1 v (2 * k + 2) (Lib.byteCells (hexL (s.data.toList.take k)) ++ #[Value.int .u8 (digB[((s[k].toNat:Int) / 16).toNat].toNat),Value.int .u8 (digB[(bits BinOp.and IntKind.u8 (s[k].toNat:Int) 15).toNat].toNat)].toList)) :
   w.ownsRow B 5 1 v (2 * (k + 1)) (Lib.byteCells (hexL (s.data.toList.take (k + 1)))):=by
 have e:((s[k].toNat:Int) / 16).toNat = s[k].toNat / 16:=by omega
 have e':(bits BinOp.and IntKind.u8 (s[k].toNat:Int) 15).toNat = s[k].toNat % 16:=by rw [(low_nibble s[k]).2.2]; rfl
 rw [digB_at _ h1,digB_at _ h2,e,e'] at hown
 rw [take_snoc s k hlt,hexL_append]
 rw [show 2 * (k + 1) = 2 * k + 2 by omega]
 simpa [hexL,Lib.byteCells] using hown
set_option maxHeartbeats 800000 in
theorem hex_any (s:ByteArray) (W:World) (hs:s.size ≤ 1000000) :
   Calls Tryz.prog 30 #[.string s] W fun e W' => e = .returned (.string ⟨(hexL s.data.toList).toArray⟩) ∧ Below W.heap.size W W':=by
 obtain ⟨i0,hi,hz0,hz1,hz2⟩:=info_parts info5
 go_enter Tryz.func30,Tryz.ntmps30
 go_wp2_with (at_make; refine wpList_make_own _ rfl _ _ 71 rfl W.heap.size 5 i0 (.int .u8 0) 1 Tryz.underlying71 hi hz0 hz1 _ _ _ (2 * s.size) rfl rfl (by omega) ?b2 ?b3 (zA3 _) ?_)
 case b2 => rw [hz2]; omega
 case b3 => unfold maxLen; omega
 intro w1 hown hgrow
 have hb1:=(Below.refl W.heap.size W).grown hgrow (zA3 _) (fun k hk => by cases hk)
 clear hgrow
 go_wp2_with fail
 go_loopw [3,11] (fun o i wr => ∃ k:Nat,k ≤ s.size ∧ i = .int .i64 k ∧ wr.ownsRow W.heap.size 5 1 o (2 * k) (Lib.byteCells (hexL (s.data.toList.take k))) ∧ Below W.heap.size W wr) (fun _ i _ => s.size - (intOf i).toNat)
 case atStart => exact ⟨0,zAR _,rfl,by simpa [hexL,Lib.byteCells] using hown,hb1⟩
 case round =>
   obtain ⟨k,hk,rfl,ho,hb⟩:=hrel
   by_cases hlt:k < s.size
   · have hi1:(k:Int) < (s.size:Int):=by omega
     have hi0:(0:Int) ≤ (k:Int):=by omega
     have hc1:(0:Int) ≤ (s[k].toNat:Int) / 16:=by omega
     have hc2:(s[k].toNat:Int) / 16 < 16:=by have:=u8_lt s[k]; omega
     have hc3:=(low_nibble s[k]).1
     have hc4:=(low_nibble s[k]).2.1
     go_wp2_with fail
     go_region_law ((refine step_append_lies _ (by rfl) _ _ _ (by rfl) W.heap.size 5 i0 _ 1 1 Tryz.underlying71 hi hz0 hz1 hz2 rfl (by omega) u3 (2 * k) _ (by rfl) ((ho.alloc _).drew) ⟨wr.heap.size,0,none⟩ 2 2 _ (by rfl) (by rfl) (World.news_of_block (t:=5) (fr:=(0,0)) (heap_alloc_new wr _)) (by simp [Value.oneCell']) (by omega) (by unfold maxLen; omega) (by omega) (by have:=hb.size; simp; omega) (wr.heap.size + 1) (by simp) ?_; intro g cap w2 hown2 hgrow2 hat2 hlt2))
     all_goals
       go_wp2
       go_roundw
       case rel => exact ⟨k + 1,by omega,by go_num,hex_row s k hlt _ _ hown2,(hb.alloc hb.size _).drew.grown hgrow2 (by have:=hb.size; simp; omega) (fun j hj => (ho.lt j hj).1)⟩
       case measure => simp [intOf]; omega
   · obtain rfl:k = s.size:=by omega
     have hcv:=str_own ho
     go_wp2
     go_ret
     exact ⟨ret1_of (val_str (by rw [zA7 (by simp)])),hb⟩
end Go.Proofs.YteecbglmohhaeaaGreatDoor
namespace Go.Proofs.YteecbglmohhaeaaGreatDoor
open Go.RowKit
attribute [local go_sem ↓] Go.wp_at_zero Go.wp_at_succ
theorem wrap_u8_eq (n:Int):IntKind.u8.wrap n = n % 256:=by simp [IntKind.wrap,IntKind.bits,IntKind.signed]
theorem refHex_row {w:World} {B:Nat} {v:Value} (s:ByteArray) (k:Nat) (hlt:k < s.size) (h1:((s[k].toNat:Int) / 16).toNat < digB.size) (h2:((s[k].toNat:Int) % 16).toNat < digB.size)
   (hown:w.ownsRow B 5 1 v (2 * k + 2) (Lib.byteCells (hexL (s.data.toList.take k)) ++ #[Value.int .u8 (digB[((s[k].toNat:Int) / 16).toNat].toNat),Value.int .u8 (digB[((s[k].toNat:Int) % 16).toNat].toNat)].toList)) :
   w.ownsRow B 5 1 v (2 * (k + 1)) (Lib.byteCells (hexL (s.data.toList.take (k + 1)))):=by
 have e:((s[k].toNat:Int) / 16).toNat = s[k].toNat / 16:=by omega
 have e':((s[k].toNat:Int) % 16).toNat = s[k].toNat % 16:=by omega
 rw [digB_at _ h1,digB_at _ h2,e,e'] at hown
 rw [take_snoc s k hlt,hexL_append]
 rw [show 2 * (k + 1) = 2 * k + 2 by omega]
 simpa [hexL,Lib.byteCells] using hown
set_option maxHeartbeats 800000 in
theorem refHex_any (s:ByteArray) (W:World) (hs:s.size ≤ 1000000) :
   Calls Tryz.prog 32 #[.string s] W fun e W' => e = .returned (.string ⟨(hexL s.data.toList).toArray⟩) ∧ Below W.heap.size W W':=by
 obtain ⟨i0,hi,hz0,hz1,hz2⟩:=info_parts info5
 go_enter Tryz.func32,Tryz.ntmps32
 go_wp2_with fail
 go_loopw [3,4] (fun o i wr => ∃ k:Nat,k ≤ s.size ∧ i = .int .i64 k ∧ wr.ownsRow W.heap.size 5 1 o (2 * k) (Lib.byteCells (hexL (s.data.toList.take k))) ∧ Below W.heap.size W wr) (fun _ i _ => s.size - (intOf i).toNat)
 case atStart => exact ⟨0,zAR _,rfl,World.ownsRow_made W #[] 0 (zA3 _) (zAR _) rfl,(Below.refl _ W).alloc (zA3 _) _⟩
 case round =>
   obtain ⟨k,hk,rfl,ho,hb⟩:=hrel
   by_cases hlt:k < s.size
   · have hi1:(k:Int) < (s.size:Int):=by omega
     have hi0:(0:Int) ≤ (k:Int):=by omega
     have hc1:(0:Int) ≤ (s[k].toNat:Int) / 16:=by omega
     have hc2:(s[k].toNat:Int) / 16 < 16:=by have:=u8_lt s[k]; omega
     have hc5:IntKind.u8.wrap ((s[k].toNat:Int) / 16) = (s[k].toNat:Int) / 16:=by rw [wrap_u8_eq]; have:=u8_lt s[k]; omega
     have hc6:(s[k].toNat:Int).tmod 16 = (s[k].toNat:Int) % 16:=zBK (by omega)
     have hc3:(0:Int) ≤ (s[k].toNat:Int) % 16:=by omega
     have hc4:(s[k].toNat:Int) % 16 < 16:=by omega
     go_wp2_with fail
     go_region_law ((refine step_append_lies _ (by rfl) _ _ _ (by rfl) W.heap.size 5 i0 _ 1 1 Tryz.underlying71 hi hz0 hz1 hz2 rfl (by omega) u3 (2 * k) _ (by rfl) ((ho.alloc _).drew) ⟨wr.heap.size,0,none⟩ 2 2 _ (by rfl) (by rfl) (World.news_of_block (t:=5) (fr:=(0,0)) (heap_alloc_new wr _)) (by simp [Value.oneCell']) (by omega) (by unfold maxLen; omega) (by omega) (by have:=hb.size; simp; omega) (wr.heap.size + 1) (by simp) ?_; intro g cap w2 hown2 hgrow2 hat2 hlt2))
     all_goals
       go_wp2
       go_roundw
       case rel => exact ⟨k + 1,by omega,by go_num,refHex_row s k hlt _ _ hown2,(hb.alloc hb.size _).drew.grown hgrow2 (by have:=hb.size; simp; omega) (fun j hj => (ho.lt j hj).1)⟩
       case measure => simp [intOf]; omega
   · obtain rfl:k = s.size:=by omega
     have hcv:=str_own ho
     go_wp2
     go_ret
     exact ⟨ret1_of (val_str (by rw [zA7 (by simp)])),hb⟩
set_option maxHeartbeats 400000 in
theorem digit_any (c:UInt8) (W:World) :
   Calls Tryz.prog 69 #[.int .u8 c.toNat] W fun e W' => e = .returned (.int .i64 (dv c)) ∧ W = W':=by
 have hb:=u8_lt c
 have hd:=Lib.hid (dv_eq c)
 rcases (show c.toNat < 48 ∨ (48 ≤ c.toNat ∧ c.toNat ≤ 57) ∨ (57 < c.toNat ∧ c.toNat < 97) ∨ (97 ≤ c.toNat ∧ c.toNat ≤ 102) ∨ 102 < c.toNat by omega) with h | h | h | h | h
 all_goals
   go_enter Tryz.func69,Tryz.ntmps69
   go_wp2
   go_ret
   exact ⟨ret1_of (val_int (by rw [hd.out]; (repeat' split) <;> omega)),rfl⟩
end Go.Proofs.YteecbglmohhaeaaGreatDoor
namespace Go.Proofs
open Go.Shelf
def Tryz.lays137_ren:Go.Shelf.Ren:=⟨fun | 137 => 68 | 217 => 107 | 266 => 144 | n => n,fun | 9 => 9 | 5 => 5 | 3 => 3 | n => n,fun | n => n⟩
theorem Tryz.lays137:Go.Proofs.Lays.n137 Tryz.prog Tryz.lays137_ren:={
 mixed:=by kernel_rfl
 f137:=Tryz.func68.trans (congrArg some (by kernel_rfl))
 f217:=Tryz.func107.trans (congrArg some (by kernel_rfl))
 f266:=Tryz.func144.trans (congrArg some (by kernel_rfl))
 t3:=Tryz.underlying3
 a3:=Tryz.isAgg3
 z3:=Tryz.sizeOf3
 v3:=Tryz.zeroValue3
 t5:=Tryz.underlying5
 a5:=Tryz.isAgg5
 z5:=Tryz.sizeOf5
 v5:=Tryz.zeroValue5
 t9:=Tryz.underlying9
 a9:=Tryz.isAgg9
 z9:=Tryz.sizeOf9
 v9:=Tryz.zeroValue9 }
open Go.RowKit in
theorem Tryz.strings_IndexByte (s:ByteArray) (c:Int) (w:World) :
   Calls Tryz.prog 68 #[.string s,.int .u8 c] w fun e w' => e = .returned (.int .i64 (Lib.indexByte s.data.toList c.toNat.toUInt8)) ∧ w' = w:=Any.strings_IndexByte Tryz.lays137 s c w
end Go.Proofs
namespace Go.Proofs.YteecbglmohhaeaaGreatDoor
open Go.RowKit
theorem idx_any (c:UInt8) (w:World) :
   Calls Tryz.prog 68 #[.string digB,.int .u8 c.toNat] w fun e w' => e = .returned (.int .i64 (dv c)) ∧ w' = w:=by
 have h:=Tryz.strings_IndexByte digB (c.toNat:Int) w
 have e:Lib.indexByte digB.data.toList ((c.toNat:Int)).toNat.toUInt8 = dv c:=by rw [show ((c.toNat:Int)).toNat.toUInt8 = c by simp]; rfl
 rw [e] at h
 exact h
theorem or_nibbles:∀ a b:Fin 16,bits BinOp.or IntKind.i64 ((a.val:Int) * 16) (b.val:Int) % 256 = (((16 * a.val + b.val).toUInt8).toNat:Int):=by decide +kernel
theorem or_dv (a b:Int) (ha:0 ≤ a) (hb:0 ≤ b) (ha':a ≤ 15) (hb':b ≤ 15):bits BinOp.or IntKind.i64 (a * 16) b % 256 = (((16 * a.toNat + b.toNat).toUInt8).toNat:Int):=by
 have h:=or_nibbles ⟨a.toNat,by omega⟩ ⟨b.toNat,by omega⟩
 simp only at h
 rw [show ((a.toNat:Nat):Int) = a by omega,show ((b.toNat:Nat):Int) = b by omega] at h
 exact h
theorem unhex_row {w:World} {B:Nat} {v:Value} {acc:List UInt8} {c d:UInt8} (hown:w.ownsRow B 5 1 v (acc.length + 1) (Lib.byteCells acc ++ #[Value.int .u8 (bits BinOp.or IntKind.i64 (dv c * 16) (dv d) % 256)].toList)) (hc:0 ≤ dv c) (hd:0 ≤ dv d) :
   w.ownsRow B 5 1 v (acc ++ [(16 * (dv c).toNat + (dv d).toNat).toUInt8]).length (Lib.byteCells (acc ++ [(16 * (dv c).toNat + (dv d).toNat).toUInt8])):=by
 rw [or_dv _ _ hc hd (dv_bounds c).2 (dv_bounds d).2] at hown
 rw [Lib.byteCells_append,zAL]
 exact hown
set_option maxHeartbeats 400000 in
theorem unhex_bad (s:ByteArray) (W:World) (m:Nat) (hm:2 * m + 1 = s.size) :
   Calls Tryz.prog 43 #[.string s] W fun e W' => e = .returned (.tuple #[.string ByteArray.empty,.int .i64 4]) ∧ Below W.heap.size W W':=by
 have ho:((s.size:Int) % 2 != 0) = true:=by simp; omega
 go_enter Tryz.func43,Tryz.ntmps43
 go_wp2
 go_ret2
 exact ⟨rfl,Below.refl _ _⟩
set_option maxHeartbeats 800000 in
theorem unhex_even (s:ByteArray) (W:World) (hs:s.size ≤ 1000000) (m:Nat) (hm:2 * m = s.size) :
   Calls Tryz.prog 43 #[.string s] W fun e W' => e = .returned (.tuple #[.string (unhexS s.data.toList),.int .i64 (unhexE s.data.toList)]) ∧ Below W.heap.size W W':=by
 obtain ⟨i0,hi,hz0,hz1,hz2⟩:=info_parts info5
 have ho:((s.size:Int) % 2 != 0) = false:=by simp; omega
 go_enter Tryz.func43,Tryz.ntmps43
 go_wp2_with (at_make; refine wpList_make_own _ rfl _ _ 71 rfl W.heap.size 5 i0 (.int .u8 0) 1 Tryz.underlying71 hi hz0 hz1 _ _ _ m rfl rfl (by omega) ?b2 ?b3 (zA3 _) ?_)
 case b2 => rw [hz2]; omega
 case b3 => unfold maxLen; omega
 intro w1 hown hgrow
 have hb1:=(Below.refl W.heap.size W).grown hgrow (zA3 _) (fun k hk => by cases hk)
 clear hgrow
 go_wp2_with fail
 go_loopw [4,5] (fun o i wr => ∃ (k:Nat) (acc:List UInt8),k ≤ s.size ∧ i = .int .i64 k ∧ 2 * acc.length = k ∧ wr.ownsRow W.heap.size 5 1 o acc.length (Lib.byteCells acc) ∧ Reads s.data.toList acc k ∧ Below W.heap.size W wr) (fun _ i _ => s.size - (intOf i).toNat)
 case atStart => exact ⟨0,[],zAR _,rfl,rfl,by simpa [Lib.byteCells] using hown,reads_zero _,hb1⟩
 case round =>
   obtain ⟨k,acc,hk,rfl,hka,ho,hrd,hb⟩:=hrel
   have HK:=Lib.hid hka
   clear hka
   by_cases hlt:k < s.size
   · have hlt2:k + 1 < s.size:=by have:=HK.out; omega
     have d1:=dv_bounds s[k]
     have d2:=dv_bounds s[k + 1]
     have e1:(k:Int) + 1 < (s.size:Int):=by omega
     have e0:(k:Int) < (s.size:Int):=by omega
     have e2:(0:Int) ≤ (k:Int) + 1:=by omega
     have e3:((k:Int) + 1).toNat = k + 1:=by omega
     have e4:IntKind.i64.wrap ((k:Int) + 1) = (k:Int) + 1:=IntWalk.i64_in _ (by omega)
     go_wp2_with fail
     go_quiet ((go_at_call 68; exact Calls.quiet_of_same (idx_any _ _)))
     have hoq:(wr.drewN nq).ownsRow W.heap.size 5 1 u4 acc.length (Lib.byteCells acc):=ho
     have hbq:Below W.heap.size W (wr.drewN nq):=below_drewN hb nq
     clear ho hb
     generalize wr.drewN nq = w3 at hoq hbq ⊢
     have hB:=hbq.size
     by_cases ha:0 ≤ dv s[k]
     · by_cases hb':0 ≤ dv s[k + 1]
       · have hl:acc.length ≤ 1000000:=by have:=HK.out; omega
         go_wp2_with (at_builtin; refine wpList_append_lies _ rfl _ _ 71 (by rfl) W.heap.size 5 i0 _ 1 1 Tryz.underlying71 hi hz0 hz1 hz2 rfl (by omega) u4 acc.length _ (by rfl) (hoq.alloc _) ⟨w3.heap.size,0,none⟩ 1 1 _ (by rfl) (by rfl) (World.news_of_block (t:=5) (fr:=(0,0)) (heap_alloc_new w3 _)) (by simp [Value.oneCell']) (by omega) (by unfold maxLen; omega) (by omega) (by simp; omega) (w3.heap.size + 1) (by simp) ?_; intro g cap w2 hown2 hgrow2 hat2 hlt3)
         go_wp2
         go_roundw
         case rel => exact ⟨k + 2,_,by omega,by go_num,by simp; have:=HK.out; omega,unhex_row hown2 ha hb',reads_step _ _ _ (by simpa using hlt2) hrd ha hb',(hbq.alloc hB _).grown hgrow2 (by simp; omega) (fun j hj => (hoq.lt j hj).1)⟩
         case measure => simp [intOf]; omega
       · have hn:=reads_stop _ _ _ (by simpa using hlt2) hrd (fun h => hb' h.2)
         have h1:=Lib.hid (unhexS_none hn)
         have h2:=Lib.hid (unhexE_none hn)
         clear hn hrd
         go_wp2
         go_ret2
         exact ⟨by rw [h1.out,h2.out]; rfl,hbq⟩
     · have hn:=reads_stop _ _ _ (by simpa using hlt2) hrd (fun h => ha h.1)
       have h1:=Lib.hid (unhexS_none hn)
       have h2:=Lib.hid (unhexE_none hn)
       clear hn hrd
       go_wp2
       go_ret2
       exact ⟨by rw [h1.out,h2.out]; rfl,hbq⟩
   · have hks:k = s.data.toList.length:=by simp; omega
     rw [hks] at hrd
     have hn:=reads_end _ _ hrd
     have h1:=Lib.hid (unhexS_some hn)
     have h2:=Lib.hid (unhexE_some hn)
     have hcv:=str_own ho
     clear hn hrd hks
     go_wp2
     go_ret2
     exact ⟨by rw [h1.out,h2.out]; rfl,hb⟩
theorem unhex_any (s:ByteArray) (W:World) (hs:s.size ≤ 1000000) :
   Calls Tryz.prog 43 #[.string s] W fun e W' => e = .returned (.tuple #[.string (unhexS s.data.toList),.int .i64 (unhexE s.data.toList)]) ∧ Below W.heap.size W W':=by
 rcases Nat.mod_two_eq_zero_or_one s.size with h | h
 · exact unhex_even s W hs (s.size / 2) (by omega)
 · have hn:=unhex_odd s.data.toList (s.size / 2) (by simp; omega)
   rw [unhexS_none hn,unhexE_none hn]
   exact unhex_bad s W (s.size / 2) (by omega)
end Go.Proofs.YteecbglmohhaeaaGreatDoor
namespace Go.Proofs.YteecbglmohhaeaaGreatDoor
open Go.RowKit
attribute [local go_sem ↓] Go.wp_at_zero Go.wp_at_succ
theorem refUnhex_row {w:World} {B:Nat} {v:Value} {acc:List UInt8} {c d:UInt8} (hown:w.ownsRow B 5 1 v (acc.length + 1) (Lib.byteCells acc ++ #[Value.int .u8 (IntKind.u8.wrap (IntKind.i64.wrap (IntKind.i64.wrap (16 * dv c) + dv d)))].toList)) (hc:0 ≤ dv c) (hd:0 ≤ dv d) :
   w.ownsRow B 5 1 v (acc ++ [(16 * (dv c).toNat + (dv d).toNat).toUInt8]).length (Lib.byteCells (acc ++ [(16 * (dv c).toNat + (dv d).toNat).toUInt8])):=by
 have h1:=(dv_bounds c).2
 have h2:=(dv_bounds d).2
 have e:IntKind.u8.wrap (IntKind.i64.wrap (IntKind.i64.wrap (16 * dv c) + dv d)) = (((16 * (dv c).toNat + (dv d).toNat).toUInt8).toNat:Int):=by
   rw [IntWalk.i64_in (16 * dv c) (by omega),IntWalk.i64_in (16 * dv c + dv d) (by omega),wrap_u8_eq,toNat_lt256 _ (by omega)]; omega
 rw [e] at hown
 rw [Lib.byteCells_append,zAL]
 exact hown
set_option maxHeartbeats 1600000 in
theorem refUnhex_any (s:ByteArray) (W:World) (hs:s.size ≤ 1000000) :
   Calls Tryz.prog 44 #[.string s] W fun e W' => e = .returned (.tuple #[.string (unhexS s.data.toList),.bool (unhexB s.data.toList)]) ∧ Below W.heap.size W W':=by
 obtain ⟨i0,hi,hz0,hz1,hz2⟩:=info_parts info5
 go_enter Tryz.func44,Tryz.ntmps44
 go_wp2_with fail
 go_loopw [4,5] (fun o i wr => ∃ (k:Nat) (acc:List UInt8),k ≤ s.size ∧ i = .int .i64 k ∧ 2 * acc.length = k ∧ wr.ownsRow W.heap.size 5 1 o acc.length (Lib.byteCells acc) ∧ Reads s.data.toList acc k ∧ Below W.heap.size W wr) (fun _ i _ => s.size - (intOf i).toNat)
 case atStart => exact ⟨0,[],zAR _,rfl,rfl,World.ownsRow_made W #[] 0 (zA3 _) (zAR _) rfl,reads_zero _,(Below.refl _ W).alloc (zA3 _) _⟩
 case round =>
   obtain ⟨k,acc,hk,rfl,hka,ho,hrd,hb⟩:=hrel
   have HK:=Lib.hid hka
   clear hka
   by_cases hlt:k + 1 < s.size
   · have d1:=dv_bounds s[k]
     have d2:=dv_bounds s[k + 1]
     have e1:(k:Int) + 1 < (s.size:Int):=by omega
     have e0:(k:Int) < (s.size:Int):=by omega
     have e2:(0:Int) ≤ (k:Int) + 1:=by omega
     have e3:((k:Int) + 1).toNat = k + 1:=by omega
     have e4:IntKind.i64.wrap ((k:Int) + 1) = (k:Int) + 1:=IntWalk.i64_in _ (by omega)
     have hB:=hb.size
     by_cases ha:0 ≤ dv s[k]
     · by_cases hb':0 ≤ dv s[k + 1]
       · have hl:acc.length ≤ 1000000:=by have:=HK.out; omega
         go_wp2_with (go_at_call 69; refine (digit_any _ _).mono ?_; rintro e w' ⟨rfl,rfl⟩)
         go_region_held3 (fun _ => True) (trivial) (first | (refine step_append_lies _ (by rfl) _ _ _ (by rfl) W.heap.size 5 i0 _ 1 1 Tryz.underlying71 hi hz0 hz1 hz2 rfl (by omega) u4 acc.length _ (by rfl) ((ho.alloc _).drew) ⟨wr.heap.size,0,none⟩ 1 1 _ (by rfl) (by rfl) (World.news_of_block (t:=5) (fr:=(0,0)) (heap_alloc_new wr _)) (by simp [Value.oneCell']) (by omega) (by unfold maxLen; omega) (by omega) (by simp; omega) (wr.heap.size + 1) (by simp) ?_; intro g cap w2 hown2 hgrow2 hat2 hlt3) | (go_at_call 69; refine (digit_any _ _).mono ?_; rintro e w' ⟨rfl,rfl⟩))
         all_goals
           go_wp2
           go_roundw
           case rel => exact ⟨k + 2,_,by omega,by go_num,by simp; have:=HK.out; omega,refUnhex_row hown2 ha hb',reads_step _ _ _ (by simpa using hlt) hrd ha hb',(hb.alloc hB _).drew.grown hgrow2 (by simp; omega) (fun j hj => (ho.lt j hj).1)⟩
           case measure => simp [intOf]; omega
       · have hn:=reads_stop _ _ _ (by simpa using hlt) hrd (fun h => hb' h.2)
         have h1:=Lib.hid (unhexS_none hn)
         have h2:=Lib.hid (unhexB_none hn)
         clear hn hrd
         go_wp2_with (go_at_call 69; refine (digit_any _ _).mono ?_; rintro e w' ⟨rfl,rfl⟩)
         go_ret2
         exact ⟨by rw [h1.out,h2.out]; rfl,hb⟩
     · have hn:=reads_stop _ _ _ (by simpa using hlt) hrd (fun h => ha h.1)
       have h1:=Lib.hid (unhexS_none hn)
       have h2:=Lib.hid (unhexB_none hn)
       clear hn hrd
       go_wp2_with (go_at_call 69; refine (digit_any _ _).mono ?_; rintro e w' ⟨rfl,rfl⟩)
       go_ret2
       exact ⟨by rw [h1.out,h2.out]; rfl,hb⟩
   · rcases (show k = s.size ∨ k + 1 = s.size by omega) with hks | hks
     · rw [show k = s.data.toList.length by simp; omega] at hrd
       have hn:=reads_end _ _ hrd
       have h1:=Lib.hid (unhexS_some hn)
       have h2:=Lib.hid (unhexB_some hn)
       have hcv:=str_own ho
       have hp:((s.size:Int) % 2 == 1) = false:=by have:=HK.out; simp; omega
       clear hn hrd hks
       go_wp2
       go_ret2
       exact ⟨by rw [h1.out,h2.out]; rfl,hb⟩
     · have hn:=unhex_odd s.data.toList acc.length (by have:=HK.out; simp; omega)
       have h1:=Lib.hid (unhexS_none hn)
       have h2:=Lib.hid (unhexB_none hn)
       have hp:((s.size:Int) % 2 == 1) = true:=by have:=HK.out; simp; omega
       clear hn hrd hks
       go_wp2
       go_ret2
       exact ⟨by rw [h1.out,h2.out]; rfl,hb⟩
end Go.Proofs.YteecbglmohhaeaaGreatDoor
namespace Go.Proofs.YteecbglmohhaeaaGreatDoor.V
open Go.RowKit Go.Sort
theorem lessL_drop {l m:List UInt8} {k:Nat} (hl:k < l.length) (hm:k < m.length):lessL (l.drop k) (m.drop k) = if l[k] = m[k] then lessL (l.drop (k + 1)) (m.drop (k + 1)) else decide (l[k].toNat < m[k].toNat):=by
 rw [zAS hl,zAS hm,lessL]
theorem lessL_end {l m:List UInt8} {k:Nat} (h1:k ≤ l.length) (h2:k ≤ m.length) (h:l.length ≤ k ∨ m.length ≤ k):lessL (l.drop k) (m.drop k) = decide (l.length < m.length):=by
 rcases h with h | h
 · rw [List.drop_eq_nil_of_le h]
   cases hd:m.drop k with
   | nil =>
     have:=congrArg List.length hd
     simp at this
     rw [lessL,decide_eq_false (by omega)]
   | cons c r =>
     have:=congrArg List.length hd
     simp at this
     rw [lessL,decide_eq_true (by omega)]
 · rw [List.drop_eq_nil_of_le h]
   cases hd:l.drop k with
   | nil =>
     have:=congrArg List.length hd
     simp at this
     rw [lessL,decide_eq_false (by omega)]
   | cons c r => rw [lessL,decide_eq_false (by omega)]
set_option maxHeartbeats 1600000 in
theorem refLess_any (s t:ByteArray) (W:World) (hs:s.size ≤ maxLen) :
   Calls Tryz.prog 29 #[.string s,.string t] W fun e w' => e = .returned (.bool (lessL s.data.toList t.data.toList)) ∧ Below W.heap.size W w':=by
 unfold maxLen at hs
 have hl1:s.data.toList.length = s.size:=zAC
 have hl2:t.data.toList.length = t.size:=zAC
 go_enter Tryz.func29,Tryz.ntmps29
 go_wp2
 go_loopw [5] (fun iv wr => ∃ k:Nat,iv = .int .i64 k ∧ k ≤ s.size ∧ k ≤ t.size ∧ Hid (lessL s.data.toList t.data.toList = lessL (s.data.toList.drop k) (t.data.toList.drop k)) ∧ Below W.heap.size W wr) (fun iv _ => s.size - (intOf iv).toNat)
 case atStart => exact ⟨0,rfl,zAR _,zAR _,Lib.hid (by rw [zAH,zAH]),Below.refl _ _⟩
 case round =>
   obtain ⟨k,rfl,hk1,hk2,HS,hb⟩:=hrel
   by_cases hlt1:k < s.size
   · have h1:(k:Int) < (s.size:Int):=by omega
     by_cases hlt2:k < t.size
     · have h2:(k:Int) < (t.size:Int):=by omega
       have hS:=HS.out
       have he:s.data.toList[k]'(by omega) = s[k]:=rfl
       have he2:t.data.toList[k]'(by omega) = t[k]:=rfl
       rw [lessL_drop (by omega) (by omega),he,he2] at hS
       by_cases hne:s[k] = t[k]
       · rw [if_pos hne] at hS
         have HS2:=Lib.hid hS
         have h3:((s[k].toNat:Int) != (t[k].toNat:Int)) = false:=by rw [hne]; simp
         clear HS hS he he2
         go_wp2
         go_region
         go_wp2
         go_roundw
         case rel => exact ⟨k + 1,by go_num,by omega,by omega,HS2,hb.drew⟩
         case measure => simp [intOf]; omega
       · rw [if_neg hne] at hS
         have hr:=Lib.hid hS
         have h3:((s[k].toNat:Int) != (t[k].toNat:Int)) = true:=by
           simp only [bne_iff_ne,ne_eq]
           intro e
           exact hne (UInt8.toNat_inj.1 (by omega))
         clear HS hS he he2
         go_wp2
         go_region
         go_wp2
         go_region
         go_wp2
         go_ret
         exact ⟨ret1_of (by rw [hr.out]; simp),hb.drew.drew⟩
     · have h2:¬ (k:Int) < (t.size:Int):=by omega
       have hr:=Lib.hid (show lessL s.data.toList t.data.toList = decide (s.size < t.size) by
         rw [HS.out,lessL_end (by omega) (by omega) (.inr (by omega)),hl1,hl2])
       clear HS
       go_wp2
       go_ret
       exact ⟨ret1_of (by rw [hr.out]; rfl),hb⟩
   · have h1:¬ (k:Int) < (s.size:Int):=by omega
     have hr:=Lib.hid (show lessL s.data.toList t.data.toList = decide (s.size < t.size) by
       rw [HS.out,lessL_end (by omega) (by omega) (.inl (by omega)),hl1,hl2])
     clear HS
     go_wp2
     go_ret
     exact ⟨ret1_of (by rw [hr.out]; rfl),hb⟩
end Go.Proofs.YteecbglmohhaeaaGreatDoor.V
namespace Go.Proofs.YteecbglmohhaeaaGreatDoor.E
open Go.RowKit Go.Sort Go.Proofs.YteecbglmohhaeaaGreatDoor.F Go.Proofs.YteecbglmohhaeaaGreatDoor.C
theorem key_text {P:Pt} (h:P.On):keyB (textN P) = true ∧ keyQ (textN P) = P:=by
 have hp:=text_parts P
 have e1:keyY (textN P) = P.y.val:=hp.1
 have e2:keyO (textN P) = decide (P.x.val % 2 = 1):=hp.2
 have hb:keyB (textN P) = true:=by unfold keyB; rw [e1,e2]; exact parseB_on h
 refine ⟨hb,?_⟩
 have h1:=key_pn hb
 rw [e1,e2] at h1
 exact h1.same (parseT_pn h)
section
variable (s m:ByteArray)
theorem seedT_size:(seedT s m).size = 64:=by
 unfold seedT signT
 rw [zBN,text_size]
 simp [ByteArray.size,leL_length]
theorem seedT_list:(seedT s m).data.toList = (signT s.data.toList m.data.toList).data.toList ++ leL (signS s.data.toList m.data.toList) 32:=by
 unfold seedT
 rw [T.list_append]
theorem seedT_take:(seedT s m).data.toList.take 32 = (signT s.data.toList m.data.toList).data.toList:=by
 have h:(signT s.data.toList m.data.toList).data.toList.length = 32:=by rw [← Lib.size_eq]; exact text_size _
 rw [seedT_list,← h,List.take_left']
 rfl
theorem seedT_drop:(seedT s m).data.toList.drop 32 = leL (signS s.data.toList m.data.toList) 32:=by
 have h:(signT s.data.toList m.data.toList).data.toList.length = 32:=by rw [← Lib.size_eq]; exact text_size _
 rw [seedT_list,List.drop_left' h]
theorem signS_lt (a b:List UInt8):signS a b < l25:=zAO _ (by decide)
theorem sigN_own:sigN (seedT s m) = signS s.data.toList m.data.toList:=by
 unfold sigN
 rw [seedT_drop,numLE_leL,zAB (zCI (signS_lt _ _) (by decide))]
theorem text_back (x:ByteArray) (l:List UInt8) (h:x.data.toList = l):x = ⟨l.toArray⟩:=by rw [← h,Lib.mk_data]
theorem key_on:(keyP s.data.toList).On:=Pt.smul_on Bp_on _
theorem keyT_is:keyB (keyT s.data.toList) = true:=(key_text (key_on s)).1
theorem own_point:(Bp.smul (signS s.data.toList m.data.toList)).add ((keyP s.data.toList).smul (signK s.data.toList m.data.toList)).neg = Bp.smul (signR s.data.toList m.data.toList):=by
 unfold signS keyP
 exact sign_point _ _ _
theorem sigK_of (x:ByteArray) (h:x.data.toList.take 32 = (signT s.data.toList m.data.toList).data.toList):sigK (keyT s.data.toList) m x = signK s.data.toList m.data.toList:=by
 unfold sigK signK
 rw [h]
theorem first_of (x:ByteArray) (h:x.data.toList.take 32 = (signT s.data.toList m.data.toList).data.toList):x.extract 0 32 = signT s.data.toList m.data.toList:=by
 rw [text_back (x.extract 0 32) _ (T.head_list x 32),h,Lib.mk_data]
theorem sigR_of (x:ByteArray) (h:x.data.toList.take 32 = (signT s.data.toList m.data.toList).data.toList) :
   sigR (keyT s.data.toList) m x = textN ((Bp.smul (sigN x)).add ((keyP s.data.toList).smul (signK s.data.toList m.data.toList)).neg):=by
 unfold sigR
 rw [sigK_of s m x h]
 unfold keyT
 rw [(key_text (key_on s)).2]
theorem verify_own:verifyE (keyT s.data.toList) m (seedT s m) = 0:=by
 unfold verifyE
 rw [if_pos ⟨text_size _,seedT_size s m⟩,if_pos (keyT_is s),sigN_own,if_pos (signS_lt _ _),if_pos]
 rw [sigR_of s m _ (seedT_take s m),sigN_own,own_point,first_of s m _ (seedT_take s m)]
 rfl
end
end Go.Proofs.YteecbglmohhaeaaGreatDoor.E
namespace Go.Proofs.YteecbglmohhaeaaGreatDoor
open Go.ChangeShapes Go.WideShapes Go.ChangeAt Go.RowKit
open Go.ChangeMaps (open_string shut_string)
theorem cells9:Tryz.prog.cellsOf 9 = 1:=by kernel_rfl
theorem arg_strs {H:Type} {enc:TypeId × Value → H} {W:World} {a0:Option Addr} {len0 cap0:Nat} {d:DataW H} {p:List MemPlace}
   (h:DataW.Trod enc Tryz.prog W 0 (fun _ => true) true 22 (.slice a0 len0 cap0) d p) :
   ∃ l,Strs W (.slice a0 len0 cap0) l ∧ ∀ x ∈ l,x.length ≤ maxLen:=by
 obtain ⟨fuel,hf⟩:=h
 rcases open_strings Tryz.underlying22 Tryz.underlying9 cells9 hf with ⟨hcs,_⟩ | ⟨a,len,cap,ss,hcs,_,hl,hm,hz,_,hcell,hwz⟩
 · simp [Value.cells] at hcs
   obtain ⟨rfl,rfl,rfl⟩:=hcs
   exact ⟨[],Strs.nil W,fun x hx => by cases hx⟩
 · simp [Value.cells] at hcs
   obtain ⟨rfl,rfl,rfl⟩:=hcs
   have hz':ss.length = cap0:=by simpa using hz
   have hlen:((ss.take len0).map (fun s => s.data.toList)).length = len0:=by simp; omega
   refine ⟨(ss.take len0).map (fun s => s.data.toList),⟨some a,cap0,by rw [hlen],by rw [hlen]; exact hl,hm,(fun e => by cases e),fun hne => ?_⟩,?_⟩
   · have hpos:0 < len0:=by
       rcases zC len0 with h0 | h0
       · exfalso; apply hne; rw [h0]; rfl
       · exact h0
     have h0:=hcell 0 (by omega)
     have hspot:a.spot = none:=by
       have:=World.cell?_spot h0
       unfold Addr.add at this
       split at this <;> simp_all
     obtain ⟨b,off,spot⟩:=a
     simp only at hspot
     subst hspot
     refine ⟨b,off,rfl,fun i x hi => ?_⟩
     have hlt:=(List.getElem?_eq_some_iff.1 hi).1
     rw [hlen] at hlt
     have hc:=hcell i (by omega)
     have hadd:((⟨b,off,none⟩:Addr).add i) = ⟨b,off + i,none⟩:=by unfold Addr.add; split <;> simp_all
     rw [hadd] at hc
     rw [hc]
     have hx:(ss.getD i ByteArray.empty).data.toList = x:=by
       rw [zAD,zC0,if_pos hlt] at hi
       rw [zA4]
       rcases hs:ss[i]? with _ | s
       · rw [hs] at hi; cases hi
       · rw [hs] at hi; simpa using hi
     unfold str
     rw [← hx,Lib.mk_data]
   · intro x hx
     obtain ⟨s,hs,rfl⟩:=List.mem_map.1 hx
     have:=hwz s (List.mem_of_mem_take hs)
     rw [← Lib.size_eq]; exact this
end Go.Proofs.YteecbglmohhaeaaGreatDoor
