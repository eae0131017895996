import Derived.Test.YteecbglmohhaeaaGreatDoorK3
import Derived.BigQuiet
import Derived.Deep.CutRange
import Derived.Deep.QuietTactic
import Derived.Deep.RegionWith
import Derived.Deep.WholeRow
import Derived.Laws.StructEq
import Derived.Lib.QuietBelow
set_option maxRecDepth 100000
open List renaming append_assoc → zBL, drop_eq_getElem_cons → zAS, getD_eq_getElem?_getD → zA4, getElem?_eq_getElem → zA5, getElem?_map → zAD, getElem?_toArray → zA6, length_append → zAL, length_cons → zB7, length_take → zAM, map_append → zC3, mem_append → zCO, mem_cons → zCK, mem_of_getElem? → zAU, replicate_succ → zCA, setIfInBounds_toArray → zA0, set_cons_succ → zA2, take_append_drop → zC2, take_of_length_le → zA7, take_succ_eq_append_getElem → zBQ
open Nat renaming add_assoc → zC5, add_mul → zCR, add_mul_mod_self_left → zAX, add_zero → zAZ, div_div_eq_div_mul → zB5, div_eq_of_lt → zBX, div_one → zCP, le_refl → zA3, le_succ → zBP, le_trans → zB, lt_trans → zCI, min_eq_left → zBS, mod_eq_of_lt → zAB, mod_eq_zero_of_dvd → zBZ, mod_lt → zAO, mod_mod → zCS, mul_add → zAT, mul_assoc → zAY, mul_comm → zAV, mul_left_comm → zCB, mul_mod → zCJ, mul_zero → zCQ, pow_add → zBI, pow_mul → zC1, pow_succ → zAP, pow_zero → zCG, zero_add → zAQ
open Bool renaming and_eq_true → zAI
open UInt8 renaming toNat_ofNat' → zBG
namespace Go.Proofs.YteecbglmohhaeaaGreatDoor.F
open Go.RowKit
theorem lies3 (w:World) (a b:Obj) (t:TypeId) (cs:Array Value):Lies (((w.alloc a).alloc b).alloc (.cells cs t)) (w.heap.size + 2) t cs:=by
 have h:=Lies.new ((w.alloc a).alloc b) t cs
 have e:((w.alloc a).alloc b).heap.size = w.heap.size + 2:=by simp
 rwa [e] at h
abbrev fe0A:Array Value:=#[.int .u64 0,.int .u64 0,.int .u64 0,.int .u64 0]
theorem digits_fold (n:Nat) (h:n < K256) (W:World) (g cap:Nat) (hc:16 ≤ cap) (hd:Dig W g 0 (dgL n 16)) :
   Calls Tryz.prog 155 #[.slice (some ⟨g,0,none⟩) 16 cap] W fun e W' => e = .returned (fe (n % p25)) ∧ Below W.heap.size W W':=by
 have hl:=dgL_length n 16
 have hf:=fold_any (dgL n 16) g 0 cap W hd (by omega) (by omega) (dgL_dg n 16)
 rw [hl,dgL_full h] at hf
 exact hf
set_option maxHeartbeats 800000 in
theorem refLeast_any (n:Nat) (W:World) (hn:n < K256) :
   Calls Tryz.prog 154 #[fe n] W fun e W' => e = .returned (fe (n % p25)) ∧ Below W.heap.size W W':=by
 have HF:=Lib.hid (digits_fold n hn)
 go_enter Tryz.func154,Tryz.ntmps154
 have hx:=(Lies.new W 72 (feA n)).alloc (.cells fe0A 72)
 have hr:Lies ((W.alloc (.cells (feA n) 72)).alloc (.cells fe0A 72)) (W.heap.size + 1) 72 fe0A:=heap_alloc2_new W _ _
 have hB:=((Below.refl W.heap.size W).alloc (zA3 _) (.cells (feA n) 72)).alloc (by simp) (.cells fe0A 72)
 go_upto_region 1 with fail
 generalize World.alloc (World.alloc W _) _ = w0 at *
 go_wp2_with (first
   | ((with_reducible refine wpL_load W.heap.size 72 (feA n) 4 rowFe rfl hx ?_ ?_); rfl)
   | (go_at_call 119; refine (digits_any n _).mono ?_; rintro e w1 ⟨g,cap,rfl,hc,hd,hb⟩; replace hr:=hr.on hb; replace hB:=below_on hB hb; clear hb)
   | (go_at_call 155; refine (HF.out _ g cap hc hd).mono ?_; rintro e w2 ⟨rfl,hb⟩; replace hr:=hr.on hb; replace hB:=below_on hB hb; clear hb)
   | ((with_reducible refine wpL_store (W.heap.size + 1) 72 _ (feA (n % p25)) 4 rowFe rfl (feA_size _) (feA_one _) hr ?_ ?_ ?_); rfl; rfl))
 exact bodyPost_ret (results_row Tryz.results154 rowFe (feA_size _) (hr.row _) rfl) rfl ⟨rfl,below_rowSet hB (zBP _) _⟩
theorem val_fold (r:List Nat) (v:Nat) (W:World) (g cap:Nat) (hl:r.length ≤ 100) (hc:r.length ≤ cap) (hd:Dig W g 0 r) (dr:Dg r) (hv:val r = v) :
   Calls Tryz.prog 155 #[.slice (some ⟨g,0,none⟩) r.length cap] W fun e W' => e = .returned (fe (v % p25)) ∧ Below W.heap.size W W':=by
 subst hv
 exact fold_any r g 0 cap W hd hl hc dr
theorem digits_plus (m n:Nat) (hm:m < K256) (hn:n < K256) (gx cx gy cy:Nat) (W:World) (hx:Dig W gx 0 (dgL m 16)) (hy:Dig W gy 0 (dgL n 16)) :
   Calls Tryz.prog 156 #[.slice (some ⟨gx,0,none⟩) 16 cx,.slice (some ⟨gy,0,none⟩) 16 cy] W fun e W' => ∃ r g' cap',e = .returned (.slice (some ⟨g',0,none⟩) r.length cap') ∧ r.length ≤ cap' ∧ r.length ≤ 100 ∧ Dig W' g' 0 r ∧ Dg r ∧ val r = m + n ∧ Below W.heap.size W W':=by
 have hl:=dgL_length m 16
 have hl2:=dgL_length n 16
 have h:=plus_any (dgL m 16) (dgL n 16) gx 0 cx gy 0 cy W hx hy (by omega) (by omega) (dgL_dg m 16) (dgL_dg n 16)
 rw [hl,hl2,dgL_full hm,dgL_full hn] at h
 refine h.mono ?_
 rintro e W' ⟨r,g',cap',rfl,h1,h2,h3,h4,h5,h6,h7⟩
 exact ⟨r,g',cap',rfl,h1,by omega,h3,h4,h6,h7⟩
theorem digits_times (m n:Nat) (hm:m < K256) (hn:n < K256) (gx cx gy cy:Nat) (W:World) (hx:Dig W gx 0 (dgL m 16)) (hy:Dig W gy 0 (dgL n 16)) :
   Calls Tryz.prog 160 #[.slice (some ⟨gx,0,none⟩) 16 cx,.slice (some ⟨gy,0,none⟩) 16 cy] W fun e W' => ∃ r g' cap',e = .returned (.slice (some ⟨g',0,none⟩) r.length cap') ∧ r.length ≤ cap' ∧ r.length ≤ 100 ∧ Dig W' g' 0 r ∧ Dg r ∧ val r = m * n ∧ Below W.heap.size W W':=by
 have hl:=dgL_length m 16
 have hl2:=dgL_length n 16
 have h:=times_any (dgL m 16) (dgL n 16) gx 0 cx gy 0 cy W hx hy (by omega) (by omega) (dgL_dg m 16) (dgL_dg n 16)
 rw [hl,hl2,dgL_full hm,dgL_full hn] at h
 refine h.mono ?_
 rintro e W' ⟨r,g',cap',rfl,h1,h2,h3,h4,h5,h6,h7⟩
 exact ⟨r,g',cap',rfl,h1,by omega,h3,h4,h6,h7⟩
theorem Lies.four {w:World} {g t:Nat} {x0 x1 x2 x3:Value} (h:Lies w g t #[x0,x1,x2,x3]):w.cell? ⟨g,0,none⟩ = some x0 ∧ w.cell? ⟨g,1,none⟩ = some x1 ∧ w.cell? ⟨g,2,none⟩ = some x2 ∧ w.cell? ⟨g,3,none⟩ = some x3:=⟨h.cell 0,h.cell 1,h.cell 2,h.cell 3⟩
theorem fe_four (n:Nat):∃ a b c d:Nat,feA n = #[w64 a,w64 b,w64 c,w64 d]:=⟨_,_,_,_,rfl⟩
def leL (n:Nat):Nat → List UInt8
 | 0 => []
 | k + 1 => leL n k ++ [(n / 256 ^ k % 256).toUInt8]
theorem leL_length (n k:Nat):(leL n k).length = k:=by
 induction k with
 | zero => rfl
 | succ k ih => rw [leL,zAL,ih]; rfl
theorem dig_low (n k:Nat):digN n k % 256 = n / 256 ^ (2 * k) % 256:=by
 unfold digN
 rw [show (65536:Nat) ^ k = 256 ^ (2 * k) by rw [zC1],show (65536:Nat) = 256 * 256 from rfl,Nat.mod_mul_right_mod]
theorem dig_high (n k:Nat):digN n k / 256 = n / 256 ^ (2 * k + 1) % 256:=by
 unfold digN
 rw [show (65536:Nat) ^ k = 256 ^ (2 * k) by rw [zC1],show (65536:Nat) = 256 * 256 from rfl,Nat.mod_mul_right_div_self,zB5,zAP]
theorem leL_two (n k:Nat):leL n (2 * (k + 1)) = leL n (2 * k) ++ [(digN n k % 256).toUInt8,(digN n k / 256).toUInt8]:=by
 rw [show 2 * (k + 1) = (2 * k + 1) + 1 by omega,leL,leL,dig_low,dig_high,zBL]
 rfl
theorem byte_two (d:Nat) (h:d < 65536):Lib.byteCells [(d % 256).toUInt8,(d / 256).toUInt8] = [.int .u8 ((d:Int) % 256),.int .u8 ((d:Int) / 256)]:=by
 have h1:((d % 256).toUInt8).toNat = d % 256:=by rw [Nat.toUInt8,zBG]; omega
 have h2:((d / 256).toUInt8).toNat = d / 256:=by rw [Nat.toUInt8,zBG]; omega
 simp only [Lib.byteCells,List.map_cons,List.map_nil,h1,h2]
 rfl
def numLE:List UInt8 → Nat
 | [] => 0
 | b :: r => b.toNat + 256 * numLE r
theorem numLE_append (a b:List UInt8):numLE (a ++ b) = numLE a + 256 ^ a.length * numLE b:=by
 induction a with
 | nil => simp [numLE]
 | cons x a ih =>
   rw [List.cons_append,numLE,ih,numLE,zB7,zAP,zAT,zAV (256 ^ a.length) 256,zAY]
   omega
theorem numLE_lt (l:List UInt8):numLE l < 256 ^ l.length:=by
 induction l with
 | nil => simp [numLE]
 | cons x l ih =>
   have h1:=u8_lt x
   rw [numLE,zB7,zAP]
   omega
theorem numLE_leL (n k:Nat):numLE (leL n k) = n % 256 ^ k:=by
 induction k with
 | zero => simp [leL,numLE,Nat.mod_one]
 | succ k ih =>
   rw [leL,numLE_append,ih,leL_length,zAP,Nat.mod_mul]
   simp only [numLE,zCQ,zAZ]
   rw [toNat_mod]
theorem leL_numLE (l:List UInt8):leL (numLE l) l.length = l:=by
 suffices h:∀ k,k ≤ l.length → leL (numLE l) k = l.take k by
   have:=h l.length (zA3 _)
   rwa [zA7 (zA3 _)] at this
 intro k hk
 induction k with
 | zero => rfl
 | succ k ih =>
   rw [leL,ih (by omega),zBQ (by omega)]
   congr 2
   have e:=numLE_append (l.take k) (l.drop k)
   rw [zC2,zAM,zBS (by omega),zAS (by omega),numLE] at e
   have h1:=numLE_lt (l.take k)
   rw [zAM,zBS (by omega)] at h1
   have h2:=u8_lt l[k]
   have h3:numLE l / 256 ^ k = (l[k]).toNat + 256 * numLE (l.drop (k + 1)):=by
     rw [e,Nat.add_mul_div_left _ _ (Nat.pow_pos (by decide)),zBX h1,zAQ]
   rw [h3,show ((l[k]).toNat + 256 * numLE (l.drop (k + 1))) % 256 = (l[k]).toNat by omega]
   exact UInt8.ofNat_toNat
def rdL (l:List UInt8):Nat → List Nat
 | 0 => []
 | k + 1 => rdL l k ++ [(l.getD (2 * k) 0).toNat + 256 * (l.getD (2 * k + 1) 0).toNat]
theorem rdL_length (l:List UInt8) (k:Nat):(rdL l k).length = k:=by
 induction k with
 | zero => rfl
 | succ k ih => rw [rdL,zAL,ih]; rfl
theorem rdL_dg (l:List UInt8) (k:Nat):Dg (rdL l k):=by
 induction k with
 | zero => intro d hd; cases hd
 | succ k ih =>
   intro d hd
   rw [rdL,zCO,List.mem_singleton] at hd
   rcases hd with hd | rfl
   · exact ih d hd
   · have h1:=u8_lt (l.getD (2 * k) 0)
     have h2:=u8_lt (l.getD (2 * k + 1) 0)
     omega
theorem take_getD (l:List UInt8) (k:Nat) (h:k < l.length):l.take (k + 1) = l.take k ++ [l.getD k 0]:=by
 rw [zBQ h,zA4,zA5 h]
 rfl
theorem rdL_val (l:List UInt8) (k:Nat) (h:2 * k ≤ l.length):val (rdL l k) = numLE (l.take (2 * k)):=by
 induction k with
 | zero => rfl
 | succ k ih =>
   rw [rdL,val_snoc,rdL_length,ih (by omega),show 2 * (k + 1) = 2 * k + 1 + 1 by omega,take_getD l (2 * k + 1) (by omega),take_getD l (2 * k) (by omega),numLE_append,numLE_append,zAL,zAM,zBS (by omega)]
   simp only [numLE,zCQ,zAZ]
   rw [show (65536:Nat) ^ k = 256 ^ (2 * k) by rw [zC1],show 2 * k + [l.getD (2 * k) 0].length = 2 * k + 1 from rfl,zAP,zAT,zAY]
   omega
theorem rdL_full (l:List UInt8) (h:l.length = 32):val (rdL l 16) = numLE l:=by
 rw [rdL_val l 16 (by omega),zA7 (by omega)]
theorem rdL_val_any (l:List UInt8) (k:Nat):val (rdL l k) = numLE (l.take (2 * k)):=by
 induction k with
 | zero => rfl
 | succ k ih =>
   by_cases h:2 * (k + 1) ≤ l.length
   · exact rdL_val l (k + 1) h
   · rw [rdL,val_snoc,rdL_length,ih]
     have h1:l.getD (2 * k + 1) 0 = 0:=by rw [zA4,List.getElem?_eq_none (by omega)]; rfl
     rw [h1]
     by_cases h2:2 * k < l.length
     · rw [zA7 (show l.length ≤ 2 * (k + 1) by omega)]
       have h3:l = l.take (2 * k) ++ [l.getD (2 * k) 0]:=by
         rw [← take_getD l (2 * k) h2,zA7 (by omega)]
       have h4:=numLE_append (l.take (2 * k)) [l.getD (2 * k) 0]
       rw [← h3,zAM,zBS (by omega)] at h4
       rw [h4,show (65536:Nat) ^ k = 256 ^ (2 * k) by rw [zC1]]
       rfl
     · have h3:l.getD (2 * k) 0 = 0:=by rw [zA4,List.getElem?_eq_none (by omega)]; rfl
       rw [h3,zA7 (by omega),zA7 (by omega)]
       rfl
theorem rdL_all (l:List UInt8) (k:Nat) (h:l.length ≤ 2 * k):val (rdL l k) = numLE l:=by
 rw [rdL_val_any,zA7 h]
end Go.Proofs.YteecbglmohhaeaaGreatDoor.F
namespace Go.Proofs.YteecbglmohhaeaaGreatDoor.F
open Go.RowKit
set_option maxHeartbeats 800000 in
theorem read_any (s:ByteArray) (hs:s.size = 32) (W:World) :
   Calls Tryz.prog 126 #[.string s] W fun e W' => ∃ g cap,e = .returned (.slice (some ⟨g,0,none⟩) 16 cap) ∧ 16 ≤ cap ∧ Dig W' g 0 (rdL s.data.toList 16) ∧ Below W.heap.size W W':=by
 obtain ⟨i0,hi,hz0,hz1,hz2⟩:=info_parts info3
 go_enter Tryz.func126,Tryz.ntmps126
 go_wp2_with fail
 go_loopw [3,4] (fun ox ix wr => ∃ k g cap:Nat,k ≤ 16 ∧ ix = .int .i64 ((2 * k:Nat):Int) ∧ ox = .slice (some ⟨g,0,none⟩) k cap ∧ wr.ownsRow W.heap.size 3 1 (.slice (some ⟨g,0,none⟩) k cap) k ((rdL s.data.toList k).map i64) ∧ Below W.heap.size W wr) (fun _ ix _ => 32 - (intOf ix).toNat)
 case atStart => exact ⟨0,_,_,by omega,rfl,rfl,own_empty (Lies.new W _ _) (zA3 _),(Below.refl _ _).alloc (zA3 _) _⟩
 case round =>
   obtain ⟨k,g,cap,hk,rfl,rfl,ho,hB⟩:=hrel
   have hsz:=hB.size
   by_cases hlt:k < 16
   · obtain ⟨i,hi2⟩:∃ i,2 * k = i:=⟨_,rfl⟩
     have h1:i < s.size:=by omega
     have h2:i + 1 < s.size:=by omega
     have b1:=u8_lt s[i]
     have b2:=u8_lt s[i + 1]
     have HS:Hid (rdL s.data.toList (k + 1) = rdL s.data.toList k ++ [(s[i]).toNat + 256 * (s[i + 1]).toNat]):=Lib.hid (by
       rw [rdL,hi2,zA4,zA4,zA5 (by simpa using h1),zA5 (by simpa using h2)]
       rfl)
     rw [hi2]
     have hcast:Value.int .i64 (((s[i]).toNat:Int) + 256 * ((s[i + 1]).toNat:Int)) = i64 ((s[i]).toNat + 256 * (s[i + 1]).toNat):=val_int (by omega)
     go_wp2_with ((with_reducible refine wpL_append W.heap.size 3 i0 (.int .i64 0) 8 Tryz.underlying48 hi hz0 hz1 hz2 rfl _ k _ (ho.alloc _) _ _ (Lies.new _ _ _) rfl (by unfold maxLen; omega) (by omega) (by simp; omega) ?_ ?_ ?_); rfl; rfl; intro g6 cap6 w6 ho6 hgrow6)
     go_roundw
     case rel => exact ⟨k + 1,g6,cap6,by omega,val_int (by omega),rfl,by rw [HS.out,zC3]; exact ho6,(hB.alloc hsz _).grown hgrow6 (by simp; omega) (fun j hj => (ho.lt j hj).1)⟩
     case measure => simp [intOf]; omega
   · obtain rfl:k = 16:=by omega
     go_wp2_with fail
     go_ret
     exact ⟨g,cap,rfl,own_cap ho,own_dig ho,hB⟩
theorem words_trim (l:List UInt8) (hl:l.length = 32) (g cap:Nat) (W:World) (hd:Dig W g 0 (rdL l 16)) :
   Calls Tryz.prog 149 #[.slice (some ⟨g,0,none⟩) (trimL (rdL l 16)).length cap] W fun e W' => e = .returned (fe (numLE l)) ∧ Below W.heap.size W W':=by
 have h:=words_any (trimL (rdL l 16)) g 0 cap W (hd.take _) (zB (trimL_le _) (by rw [rdL_length]; decide)) (rdL_dg l 16).trim
 rw [val_trim,rdL_full l hl] at h
 exact h
theorem less_trim (l:List UInt8) (hl:l.length = 32) (g cap gp cp:Nat) (W:World) (hd:Dig W g 0 (rdL l 16)) (hp:Dig W gp 0 primeL) :
   Calls Tryz.prog 150 #[.slice (some ⟨g,0,none⟩) (trimL (rdL l 16)).length cap,.slice (some ⟨gp,0,none⟩) 16 cp] W fun e W' => e = .returned (.bool (decide (numLE l < p25))) ∧ Below W.heap.size W W':=by
 have hle:=trimL_le (rdL l 16)
 rw [rdL_length] at hle
 have h:=less_any (trimL (rdL l 16)) primeL g 0 cap gp 0 cp W (hd.take _) hp (by omega) (rdL_dg l 16).trim prime_dg (trim_tr _) prime_tr
 rw [val_trim,rdL_full l hl,prime_val] at h
 exact h
set_option maxHeartbeats 800000 in
theorem refParse_any (s:ByteArray) (hs:s.size = 32) (W:World) :
   Calls Tryz.prog 114 #[.string s] W fun e W' => e = .returned (.tuple #[fe (numLE s.data.toList),.bool (decide (numLE s.data.toList < p25))]) ∧ Below W.heap.size W W':=by
 have hl:s.data.toList.length = 32:=by rw [← Lib.size_eq]; exact hs
 have HR:=Lib.hid (fun w => read_any s hs w)
 have HT:=Lib.hid (fun g cap w (hc:16 ≤ cap) (hd:Dig w g 0 (rdL s.data.toList 16)) => by
   have h:=trim_any (rdL s.data.toList 16) g 0 cap w hd (by rw [rdL_length]; decide) (by rw [rdL_length]; exact hc)
   rw [rdL_length] at h
   exact h)
 have HW:=Lib.hid (words_trim s.data.toList hl)
 have HL:=Lib.hid (less_trim s.data.toList hl)
 clear hl
 go_enter Tryz.func114,Tryz.ntmps114
 have hr:=Lies.new W 72 fe0A
 have hB:=(Below.refl W.heap.size W).alloc (zA3 _) (.cells fe0A 72)
 go_upto_region 1 with fail
 generalize World.alloc W _ = w0 at *
 go_wp2_with (first
   | (go_at_call 126; refine (HR.out _).mono ?_; rintro e w1 ⟨g,cap,rfl,hc,hd,hb⟩; replace hr:=hr.on hb; replace hB:=below_on hB hb; clear hb)
   | (go_at_call 148; refine (HT.out g cap _ hc hd).mono ?_; rintro e w2 ⟨rfl,rfl⟩)
   | (go_at_call 149; refine (HW.out g cap _ hd).mono ?_; rintro e w3 ⟨rfl,hb⟩; replace hr:=hr.on hb; replace hd:=hd.on hb; replace hB:=below_on hB hb; clear hb)
   | (go_at_call 151; refine (prime_any _).mono ?_; rintro e w4 ⟨gp,cp,rfl,_,hp,hb⟩; replace hr:=hr.on hb; replace hd:=hd.on hb; replace hB:=below_on hB hb; clear hb)
   | (go_at_call 150; refine (HL.out g cap gp cp _ hd hp).mono ?_; rintro e w5 ⟨rfl,hb⟩; replace hr:=hr.on hb; replace hB:=below_on hB hb; clear hb)
   | ((with_reducible refine wpL_store W.heap.size 72 _ (feA (numLE s.data.toList)) 4 rowFe rfl (feA_size _) (feA_one _) hr ?_ ?_ ?_); rfl; rfl))
 exact bodyPost_ret (results_row_tmp Tryz.results114 rowFe (feA_size _) (hr.row _) rfl rfl) rfl ⟨rfl,below_rowSet hB (zA3 _) _⟩
end Go.Proofs.YteecbglmohhaeaaGreatDoor.F
namespace Go.Proofs.YteecbglmohhaeaaGreatDoor.F
open Go.RowKit Go.Sort
theorem eq_four (d:Nat) (w:World) (a0 a1 a2 a3 b0 b1 b2 b3:Int) :
   (Op.equalIn (d + 2) 72 (.agg #[.int .u64 a0,.int .u64 a1,.int .u64 a2,.int .u64 a3]) (.agg #[.int .u64 b0,.int .u64 b1,.int .u64 b2,.int .u64 b3])).run Tryz.prog w = .ok (a0 == b0 && a1 == b1 && a2 == b2 && a3 == b3) w:=by
 have h1:∀ w,(sizeOf 65).run Tryz.prog w = .ok 1 w:=fun _ => by kernel_rfl
 have h2:∀ w,(isAgg 65).run Tryz.prog w = .ok false w:=fun _ => by kernel_rfl
 have h3:∀ (a b:Int) w,(Op.equalIn (d + 1) 65 (.int .u64 a) (.int .u64 b)).run Tryz.prog w = .ok (a == b) w:=fun a b w => run_equalIn_int w d 65 .u64 .u64 a b Tryz.underlying65
 rw [Op.equalIn]
 simp only [Sem.run_bind,run_underlying Tryz.underlying72,Result.andThen_ok,h1,Std.Legacy.Range.forIn_eq_forIn_range',Std.Legacy.Range.size]
 simp only [Nat.sub_zero,Nat.reduceAdd,Nat.reduceSub,zCP,List.range',List.forIn_cons,List.forIn_nil]
 simp [part,h2,h3]
 (repeat' split) <;> simp [*]
theorem eql_four (w:World) (a0 a1 a2 a3 b0 b1 b2 b3:Int) :
   (binOp .eql 72 (.agg #[.int .u64 a0,.int .u64 a1,.int .u64 a2,.int .u64 a3]) (.agg #[.int .u64 b0,.int .u64 b1,.int .u64 b2,.int .u64 b3])).run Tryz.prog w = .ok (.bool (a0 == b0 && a1 == b1 && a2 == b2 && a3 == b3)) w:=by
 rw [run_eql_struct,eq_four 9998]
 rfl
theorem neq_four (w:World) (a0 a1 a2 a3 b0 b1 b2 b3:Int) :
   (binOp .neq 72 (.agg #[.int .u64 a0,.int .u64 a1,.int .u64 a2,.int .u64 a3]) (.agg #[.int .u64 b0,.int .u64 b1,.int .u64 b2,.int .u64 b3])).run Tryz.prog w = .ok (.bool (!(a0 == b0 && a1 == b1 && a2 == b2 && a3 == b3))) w:=by
 rw [run_neq_struct,eq_four 9998]
 rfl
theorem fe_word (n:Nat) (h:n < 18446744073709551616):fe n = .agg #[.int .u64 (n:Int),.int .u64 0,.int .u64 0,.int .u64 0]:=by
 unfold fe feA
 rw [zAB h,show n / 18446744073709551616 = 0 by omega,show n / 340282366920938463463374607431768211456 = 0 by omega,show n / 6277101735386680763835789423207666416102355444464034512896 = 0 by omega]
 rfl
theorem fe_same (m n:Nat) (hm:m < K256) (hn:n < K256):(((m % 18446744073709551616:Nat):Int) == ((n % 18446744073709551616:Nat):Int) && ((m / 18446744073709551616 % 18446744073709551616:Nat):Int) == ((n / 18446744073709551616 % 18446744073709551616:Nat):Int) && ((m / 340282366920938463463374607431768211456 % 18446744073709551616:Nat):Int) == ((n / 340282366920938463463374607431768211456 % 18446744073709551616:Nat):Int) && ((m / 6277101735386680763835789423207666416102355444464034512896 % 18446744073709551616:Nat):Int) == ((n / 6277101735386680763835789423207666416102355444464034512896 % 18446744073709551616:Nat):Int)) = decide (m = n):=by
 unfold K256 at hm hn
 rw [Bool.eq_iff_iff]
 simp only [zAI,beq_iff_eq,decide_eq_true_eq]
 omega
theorem eql_fe (m n:Nat) (hm:m < K256) (hn:n < K256) (w:World):(binOp .eql 72 (fe m) (fe n)).run Tryz.prog w = .ok (.bool (decide (m = n))) w:=by
 unfold fe feA
 rw [eql_four,fe_same m n hm hn]
theorem neq_fe (m n:Nat) (hm:m < K256) (hn:n < K256) (w:World):(binOp .neq 72 (fe m) (fe n)).run Tryz.prog w = .ok (.bool (!decide (m = n))) w:=by
 unfold fe feA
 rw [neq_four,fe_same m n hm hn]
theorem zero_four (n:Nat) (hn:n < K256) (w:World):(binOp .eql 72 (fe n) (.agg #[.int .u64 0,.int .u64 0,.int .u64 0,.int .u64 0])).run Tryz.prog w = .ok (.bool (decide (n = 0))) w:=eql_fe n 0 hn (by decide) w
theorem newly (w:World) (o:Obj) (cs:Array Value):Below w.heap.size w ((w.alloc o).setRow w.heap.size cs):=below_rowSet ((Below.refl _ w).alloc (zA3 _) o) (zA3 _) cs
theorem newly_lies (w:World) (t:TypeId) (cs cs':Array Value):Lies ((w.alloc (.cells cs t)).setRow w.heap.size cs') w.heap.size t cs':=(Lies.new w t cs).row _
theorem word_low (n:Nat):∃ a b c d:Nat,feA n = #[w64 a,w64 b,w64 c,w64 d] ∧ a % 2 = n % 2 ∧ a < 18446744073709551616:=by
 refine ⟨_,_,_,_,by unfold feA; rfl,?_,zAO _ (by decide)⟩
 omega
def invN (n:Nat):Nat:=n ^ (p25 - 2) % p25
theorem invN_eq (n:Nat):invN n = n ^ (p25 - 2) % p25:=rfl
attribute [irreducible] invN
theorem mod_K (n:Nat):n % p25 < K256:=zCI (zAO _ p25_pos) (by decide)
theorem invN_lt (n:Nat):invN n < p25:=by rw [invN_eq]; exact zAO _ p25_pos
structure FieldOk:Prop where
 of:∀ (n:Nat) (w:World),n < 18446744073709551616 → Tab w → Calls Tryz.prog 96 #[.int .u64 (n:Int)] w fun e w' => e = .returned (fe n) ∧ Below w.heap.size w w'
 least:∀ (n:Nat) (w:World),n < K256 → Tab w → Calls Tryz.prog 93 #[fe n] w fun e w' => e = .returned (fe (n % p25)) ∧ Below w.heap.size w w'
 add:∀ (m n:Nat) (w:World),m < K256 → n < K256 → Tab w → Calls Tryz.prog 97 #[fe m,fe n] w fun e w' => e = .returned (fe ((m + n) % p25)) ∧ Below w.heap.size w w'
 sub:∀ (m n:Nat) (w:World),m < K256 → n < K256 → Tab w → Calls Tryz.prog 95 #[fe m,fe n] w fun e w' => e = .returned (fe ((m + (p25 - n % p25)) % p25)) ∧ Below w.heap.size w w'
 mul:∀ (m n:Nat) (w:World),m < K256 → n < K256 → Tab w → Calls Tryz.prog 94 #[fe m,fe n] w fun e w' => e = .returned (fe (m * n % p25)) ∧ Below w.heap.size w w'
 inv:∀ (n:Nat) (w:World),n < K256 → Tab w → Calls Tryz.prog 99 #[fe n] w fun e w' => e = .returned (fe (invN n)) ∧ Below w.heap.size w w'
 sqrt:∃ (R:Nat → Nat) (B:Nat → Bool),(∀ (n:Nat) (w:World),n < K256 → Tab2 w → Calls Tryz.prog 98 #[fe n] w fun e w' => e = .returned (.tuple #[fe (R n),.bool (B n)]) ∧ Below w.heap.size w w') ∧
   ∀ n,n < K256 → R n < p25 ∧ R n % 2 = 0 ∧ (B n = true → R n * R n % p25 = n % p25) ∧ (B n = false → R n = 0) ∧ (B n = true ↔ Sq n)
 bytes:∀ (n:Nat) (w:World),n < K256 → Tab w → Calls Tryz.prog 131 #[fe n] w fun e w' => e = .returned (.string ⟨(leL (n % p25) 32).toArray⟩) ∧ Below w.heap.size w w'
 parse:∀ (s:ByteArray) (w:World),s.size ≤ 140737488355328 → Tab w → Calls Tryz.prog 60 #[.string s] w fun e w' =>
   e = .returned (if s.size = 32 then if numLE s.data.toList < p25 then .tuple #[fe (numLE s.data.toList),.int .i64 0] else .tuple #[fe 0,.int .i64 2] else .tuple #[fe 0,.int .i64 1]) ∧ Below w.heap.size w w'
theorem reg {f:FuncId} {args:Array Value} {W:World} {v:Value} (h:∀ w,Below W.heap.size W w → Calls Tryz.prog f args w fun e w' => e = .returned v ∧ Below w.heap.size w w') :
   ∀ d os,Calls Tryz.prog f args (grow (redrawn W d) os) fun e w'' => e = .returned v ∧ ∃ p:Regrown,w'' = grow (redrawn W p.d) p.os:=fun d os => Calls.regrown_of (h _ (below_regrown W d os))
def powN (x e:Nat):Nat:=x ^ e % p25
theorem powN_eq (x e:Nat):powN x e = x ^ e % p25:=rfl
attribute [irreducible] powN
theorem powN_lt (x e:Nat):powN x e < p25:=by rw [powN_eq]; exact zAO _ p25_pos
theorem below_K {n:Nat} (h:n < p25):n < K256:=zCI h (by decide)
def Pw (x e v:Nat):Prop:=v % p25 = powN x e
theorem Pw.one (x:Nat):Pw x 1 x:=by unfold Pw; rw [powN_eq,Nat.pow_one]
theorem Pw.mul {x a b u v:Nat} (h:Pw x a u) (k:Pw x b v):Pw x (a + b) (u * v % p25):=by
 simp only [Pw,powN_eq] at *
 rw [zCS,zCJ,h,k,← zCJ,← zBI]
theorem Pw.pow {x a u:Nat} (h:Pw x a u) (b:Nat):Pw x (a * b) (powN u b):=by
 simp only [Pw,powN_eq] at *
 rw [zCS,Nat.pow_mod,h,← Nat.pow_mod,← zC1]
theorem Pw.is {x e v:Nat} (h:Pw x e v) (hv:v < p25):v = powN x e:=by
 unfold Pw at h
 rw [← h,zAB hv]
def sqL (x i:Nat):Nat:=if i = 0 then x else powN x (2 ^ i)
theorem sqL_pw (x i:Nat):Pw x (2 ^ i) (sqL x i):=by
 unfold sqL
 split
 · rename_i h
   rw [h]
   exact Pw.one x
 · unfold Pw
   exact zAB (powN_lt _ _)
theorem sqL_step (x i:Nat):sqL x i * sqL x i % p25 = sqL x (i + 1):=by
 have h:=((sqL_pw x i).mul (sqL_pw x i)).is (zAO _ p25_pos)
 rw [h,show 2 ^ i + 2 ^ i = 2 ^ (i + 1) by rw [zAP]; omega]
 unfold sqL
 rw [if_neg (by omega)]
theorem sqL_lt (x i:Nat) (h:x < K256):sqL x i < K256:=by
 unfold sqL
 split
 · exact h
 · exact below_K (powN_lt _ _)
theorem sqL_pos (x i:Nat) (h:0 < i):sqL x i = powN x (2 ^ i):=by unfold sqL; rw [if_neg (by omega)]
theorem sqL_one (x:Nat):sqL x 1 = x * x % p25:=(sqL_step x 0).symm
def onesN (x n:Nat):Nat:=if n ≤ 1 then x else powN x (2 ^ n - 1)
theorem onesN_pw (x n:Nat) (h:1 ≤ n):Pw x (2 ^ n - 1) (onesN x n):=by
 unfold onesN
 split
 · obtain rfl:n = 1:=by omega
   exact Pw.one x
 · unfold Pw
   exact zAB (powN_lt _ _)
theorem onesN_lt (x n:Nat) (h:x < K256):onesN x n < K256:=by
 unfold onesN
 split
 · exact h
 · exact below_K (powN_lt _ _)
theorem onesN_even (x h:Nat) (h1:1 ≤ h):sqL (onesN x h) h * onesN x h % p25 = onesN x (2 * h):=by
 have e:=(((onesN_pw x h h1).pow (2 ^ h)).mul (onesN_pw x h h1)).is (zAO _ p25_pos)
 rw [sqL_pos _ _ h1,e]
 unfold onesN
 rw [if_neg (by omega)]
 congr 1
 have h2:0 < 2 ^ h:=Nat.pow_pos (by decide)
 obtain ⟨m,hm⟩:∃ m,2 ^ h = m + 1:=⟨2 ^ h - 1,by omega⟩
 rw [Nat.two_mul,zBI,hm,Nat.add_sub_cancel,Nat.succ_mul m (m + 1)]
 have h3:m * (m + 1) = m * m + m:=Nat.mul_succ m m
 omega
theorem onesN_odd (x h:Nat) (h1:1 ≤ h):sqL (onesN x (2 * h)) 1 * x % p25 = onesN x (2 * h + 1):=by
 have e:=(((onesN_pw x (2 * h) (by omega)).pow (2 ^ 1)).mul (Pw.one x)).is (zAO _ p25_pos)
 rw [sqL_pos _ _ (by decide),e]
 unfold onesN
 rw [if_neg (by omega)]
 congr 1
 have h2:0 < 2 ^ (2 * h):=Nat.pow_pos (by decide)
 rw [zAP 2 (2 * h)]
 omega
def eP:Nat:=7237005577332262213973186563042994240829374041602535252466099000494570602493
theorem power_eq (x:Nat):sqL (onesN x 250) 2 * x % p25 = powN x eP:=by
 have e:=(((onesN_pw x 250 (by decide)).pow (2 ^ 2)).mul (Pw.one x)).is (zAO _ p25_pos)
 rw [sqL_pos _ _ (by decide),e]
 exact congrArg (powN x) (by decide)
theorem inv_eq (x:Nat):sqL (powN x eP) 3 * (x * sqL x 1 % p25) % p25 = invN x:=by
 have h1:Pw x eP (powN x eP):=by unfold Pw; exact zAB (powN_lt _ _)
 have e:=((h1.pow (2 ^ 3)).mul ((Pw.one x).mul (sqL_pw x 1))).is (zAO _ p25_pos)
 rw [sqL_pos _ 3 (by decide),e,invN_eq,← powN_eq]
 exact congrArg (powN x) (by decide)
def rootC (x:Nat):Nat:=x * powN x eP % p25
def rootD (x:Nat):Nat:=rootC x * i25 % p25
theorem rootC_lt (x:Nat):rootC x < p25:=zAO _ p25_pos
theorem rootD_lt (x:Nat):rootD x < p25:=zAO _ p25_pos
theorem rootC_eq (x:Nat):rootC x = c25 x % p25:=by
 have h1:Pw x eP (powN x eP):=by unfold Pw; exact zAB (powN_lt _ _)
 have e:=((Pw.one x).mul h1).is (zAO _ p25_pos)
 unfold rootC
 rw [e,show 1 + eP = d25 by decide,powN_eq]
 rfl
def evN (r:Nat):Nat:=if r % 2 = 1 then (0 + (p25 - r % p25)) % p25 else r
theorem evN_lt (r:Nat) (h:r < p25):evN r < p25:=by
 unfold evN
 split
 · exact zAO _ p25_pos
 · exact h
theorem evN_odd (r:Nat) (h:r < p25) (h1:r % 2 = 1):evN r = p25 - r:=by
 unfold evN
 rw [if_pos h1,zAQ,zAB h,zAB (by omega)]
theorem evN_even (r:Nat) (h:r < p25):evN r % 2 = 0:=by
 by_cases h1:r % 2 = 1
 · rw [evN_odd r h h1]
   have:=contrary_odd r h
   omega
 · unfold evN
   rw [if_neg h1]
   omega
theorem contrary_sq (r:Nat) (h:r < p25):(p25 - r) * (p25 - r) % p25 = r * r % p25:=by
 obtain ⟨s,hs⟩:∃ s,p25 - r = s:=⟨_,rfl⟩
 have e:p25 = r + s:=by omega
 rw [hs]
 have h1:s * s + p25 * r = r * r + p25 * s:=by
   rw [e,zCR,zCR,zAV s r]
   omega
 have h2:=congrArg (· % p25) h1
 simp only [zAX] at h2
 exact h2
theorem evN_sq (r:Nat) (h:r < p25):evN r * evN r % p25 = r * r % p25:=by
 by_cases h1:r % 2 = 1
 · rw [evN_odd r h h1,contrary_sq r h]
 · unfold evN
   rw [if_neg h1]
def sqrtR (x:Nat):Nat:=if rootC x * rootC x % p25 = x % p25 then evN (rootC x) else if rootD x * rootD x % p25 = x % p25 then evN (rootD x) else 0
def sqrtB (x:Nat):Bool:=decide (rootC x * rootC x % p25 = x % p25) || decide (rootD x * rootD x % p25 = x % p25)
theorem sq_of_square {r x:Nat} (h:r * r % p25 = x % p25):Sq x:=⟨r,h⟩
theorem sqrt_finds (x:Nat) (h:Sq x):rootC x * rootC x % p25 = x % p25 ∨ rootD x * rootD x % p25 = x % p25:=by
 by_cases hd:p25 ∣ x
 · left
   have h0:x % p25 = 0:=zBZ hd
   have h1:rootC x = 0:=by
     unfold rootC
     rw [zCJ,h0,Nat.zero_mul,Nat.zero_mod]
   rw [h1,h0]
   rfl
 · rcases cand x (sq_power x hd h) with h1 | h1
   · left
     rw [rootC_eq,← zCJ]
     exact h1
   · right
     have e:rootD x = c25 x * i25 % p25:=by
       unfold rootD
       rw [rootC_eq,Nat.mod_mul_mod]
     rw [e,← zCJ]
     exact h1
theorem sqrt_spec (n:Nat):sqrtR n < p25 ∧ sqrtR n % 2 = 0 ∧ (sqrtB n = true → sqrtR n * sqrtR n % p25 = n % p25) ∧ (sqrtB n = false → sqrtR n = 0) ∧ (sqrtB n = true ↔ Sq n):=by
 by_cases h1:rootC n * rootC n % p25 = n % p25
 · have eR:sqrtR n = evN (rootC n):=by unfold sqrtR; rw [if_pos h1]
   have eB:sqrtB n = true:=by unfold sqrtB; rw [decide_eq_true h1]; rfl
   rw [eR,eB]
   exact ⟨evN_lt _ (rootC_lt n),evN_even _ (rootC_lt n),fun _ => by rw [evN_sq _ (rootC_lt n),h1],(fun h => by cases h),fun _ => sq_of_square h1,fun _ => rfl⟩
 · by_cases h2:rootD n * rootD n % p25 = n % p25
   · have eR:sqrtR n = evN (rootD n):=by unfold sqrtR; rw [if_neg h1,if_pos h2]
     have eB:sqrtB n = true:=by unfold sqrtB; rw [decide_eq_true h2,Bool.or_true]
     rw [eR,eB]
     exact ⟨evN_lt _ (rootD_lt n),evN_even _ (rootD_lt n),fun _ => by rw [evN_sq _ (rootD_lt n),h2],(fun h => by cases h),fun _ => sq_of_square h2,fun _ => rfl⟩
   · have eR:sqrtR n = 0:=by unfold sqrtR; rw [if_neg h1,if_neg h2]
     have eB:sqrtB n = false:=by unfold sqrtB; rw [decide_eq_false h1,decide_eq_false h2]; rfl
     rw [eR,eB]
     refine ⟨p25_pos,rfl,(fun h => by cases h),fun _ => rfl,(fun h => by cases h),fun h => ?_⟩
     rcases sqrt_finds n h with h3 | h3
     · exact absurd h3 h1
     · exact absurd h3 h2
end Go.Proofs.YteecbglmohhaeaaGreatDoor.F
namespace Go.Proofs.YteecbglmohhaeaaGreatDoor.C
open Go.Proofs.YteecbglmohhaeaaGreatDoor.F
theorem z_pow (n e:Nat):z ((n % p25) ^ e) = z (n ^ e):=z_iff.2 (by rw [← Nat.pow_mod])
theorem z_inv (n:Nat):z (invN n) = zinv (z n):=by
 have h:zinv (z n) = z ((n % p25) ^ (p25 - 2)):=by unfold zinv; rw [show (z n).val = n % p25 by unfold z; rfl]
 rw [h,z_pow,invN_eq,z_mod]
theorem val_z {n:Nat} (h:n < p25):(z n).val = n:=by unfold z; exact zAB h
theorem z_ne {n:Nat} (h:n < p25) (h0:n ≠ 0):z n ≠ 0:=fun e => h0 (by rw [z_is_zero,zAB h] at e; exact e)
theorem val_mod (n:Nat):(z n).val = n % p25:=by unfold z; rfl
structure N4 where
 X:Nat
 Y:Nat
 Z:Nat
 T:Nat
structure Pn (u:N4) (P:Pt):Prop where
 lX:u.X < p25
 lY:u.Y < p25
 lZ:u.Z < p25
 lT:u.T < p25
 rep:Rep (z u.X) (z u.Y) (z u.Z) P
 t:z u.X * z u.Y = z u.Z * z u.T
 on:P.On
theorem Pn.same {u:N4} {P Q:Pt} (h:Pn u P) (k:Pn u Q):P = Q:=h.rep.same k.rep
theorem Pn.affine {u:N4} {P:Pt} (h:Pn u P):u.X * invN u.Z % p25 = P.x.val ∧ u.Y * invN u.Z % p25 = P.y.val:=by
 obtain ⟨n,a,b⟩:=h.rep
 have hi:=zinv_mul n
 constructor
 · rw [← val_mod,z_mul,z_inv,a,show P.x * z u.Z * zinv (z u.Z) = P.x * (z u.Z * zinv (z u.Z)) by grind,hi]
   congr 1
   grind
 · rw [← val_mod,z_mul,z_inv,b,show P.y * z u.Z * zinv (z u.Z) = P.y * (z u.Z * zinv (z u.Z)) by grind,hi]
   congr 1
   grind
def onB (x y:Nat):Bool:=decide ((y * y % p25 + (p25 - x * x % p25 % p25)) % p25 = (1 + dN * (x * x % p25 * (y * y % p25) % p25) % p25) % p25)
theorem z_dN:z dN = dd:=by unfold dd; rfl
theorem onB_iff (x y:Nat):onB x y = true ↔ On (z x) (z y):=by
 unfold onB
 rw [decide_eq_true_iff,← z_iff]
 simp only [z_mod,z_mul,z_add,z_neg,z_one,z_dN]
 unfold On
 constructor
 · intro h; grind
 · intro h; grind
def N4.right (u:N4):Bool:=decide (u.X < p25) && decide (u.Y < p25) && decide (u.Z < p25) && decide (u.T < p25) && decide (u.Z ≠ 0) && decide (u.X * u.Y % p25 = u.Z * u.T % p25) && onB (u.X * invN u.Z % p25) (u.Y * invN u.Z % p25)
theorem right_iff (u:N4):u.right = true ↔ ∃ P,Pn u P:=by
 unfold N4.right
 simp only [zAI,decide_eq_true_eq]
 constructor
 · rintro ⟨⟨⟨⟨⟨⟨h1,h2⟩,h3⟩,h4⟩,h5⟩,h6⟩,h7⟩
   have hz:=z_ne h3 h5
   have hi:=zinv_mul hz
   refine ⟨⟨z (u.X * invN u.Z % p25),z (u.Y * invN u.Z % p25)⟩,h1,h2,h3,h4,⟨hz,?_,?_⟩,?_,(onB_iff _ _).1 h7⟩
   · show z u.X = z (u.X * invN u.Z % p25) * z u.Z
     rw [z_mod,z_mul,z_inv]
     grind
   · show z u.Y = z (u.Y * invN u.Z % p25) * z u.Z
     rw [z_mod,z_mul,z_inv]
     grind
   · rw [← z_mul,← z_mul]
     exact z_iff.2 h6
 · rintro ⟨P,h⟩
   obtain ⟨a,b⟩:=h.affine
   refine ⟨⟨⟨⟨⟨⟨h.lX,h.lY⟩,h.lZ⟩,h.lT⟩,fun e => h.rep.ne (by rw [e,z_zero])⟩,?_⟩,?_⟩
   · have:=h.t
     rw [← z_mul,← z_mul] at this
     exact z_iff.1 this
   · rw [a,b,onB_iff,z_back,z_back]
     exact h.on
theorem den_ne (y:Z):dd * (y * y) + 1 ≠ 0:=fun h => by
 have hi:=zi_two
 by_cases hy:y = 0
 · rw [hy] at h
   rw [Fin.mul_zero,Fin.mul_zero] at h
   exact absurd h (by decide)
 · exact d_no_quot (u:=zi) hy (by grind)
def wN (y:Nat):Nat:=(y * y % p25 + (p25 - 1 % p25)) % p25 * invN ((dN * (y * y % p25) % p25 + 1) % p25) % p25
theorem wN_lt (y:Nat):wN y < p25:=zAO _ p25_pos
theorem wN_is (y:Nat):z (wN y) * (dd * (z y * z y) + 1) = z y * z y - 1:=by
 have hi:=zinv_mul (den_ne (z y))
 unfold wN
 simp only [z_mod,z_mul,z_add,z_neg,z_one,z_inv,z_dN]
 grind
theorem on_w (x:Z) (y:Nat):On x (z y) ↔ x * x = z (wN y):=by
 have hw:=wN_is y
 have hd:=den_ne (z y)
 unfold On
 constructor
 · intro h
   refine zcancel hd ?_
   grind
 · intro h
   grind
def xE (y:Nat):Nat:=sqrtR (wN y)
def xB (y:Nat):Bool:=sqrtB (wN y)
theorem xE_lt (y:Nat):xE y < p25:=(sqrt_spec (wN y)).1
theorem xE_even (y:Nat):xE y % 2 = 0:=(sqrt_spec (wN y)).2.1
theorem xE_on {y:Nat} (h:xB y = true):On (z (xE y)) (z y):=by
 have hs:=(sqrt_spec (wN y)).2.2.1 h
 rw [on_w,← z_mul,z_iff]
 exact hs
theorem xB_iff (y:Nat):xB y = true ↔ ∃ x,On x (z y):=by
 refine ⟨fun h => ⟨_,xE_on h⟩,fun ⟨x,hx⟩ => ?_⟩
 refine (sqrt_spec (wN y)).2.2.2.2.2 ⟨x.val,?_⟩
 rw [on_w] at hx
 have h1:z (x.val * x.val) = z (wN y):=by rw [z_mul,z_back]; exact hx
 exact z_iff.1 h1
def xOf (y:Nat) (odd:Bool):Nat:=if odd = true then (0 + (p25 - xE y % p25)) % p25 else xE y
theorem z_xOf (y:Nat) (odd:Bool):z (xOf y odd) = if odd = true then - z (xE y) else z (xE y):=by
 unfold xOf
 split
 · rw [zAQ,z_mod,z_neg]
 · rfl
theorem xOf_on {y:Nat} (h:xB y = true) (odd:Bool):On (z (xOf y odd)) (z y):=by
 have hx:=xE_on h
 rw [z_xOf]
 split
 · unfold On at *; grind
 · exact hx
theorem xOf_lt (y:Nat) (odd:Bool):xOf y odd < p25:=by
 unfold xOf
 split
 · exact zAO _ p25_pos
 · exact xE_lt y
theorem xOf_odd (y:Nat) (odd:Bool) (h:xE y ≠ 0 ∨ odd = false):xOf y odd % 2 = if odd = true then 1 else 0:=by
 unfold xOf
 have h1:=xE_lt y
 have h2:=xE_even y
 cases odd with
 | false => simpa using h2
 | true =>
   have h3:xE y ≠ 0:=by rcases h with h | h; exact h; cases h
   have h4:=contrary_odd (xE y) h1
   have h5:p25 - xE y < p25:=by omega
   rw [if_pos rfl,if_pos rfl,zAQ,zAB h1,zAB h5]
   omega
theorem xOf_is {x:Z} {y:Nat} (h:On x (z y)):x.val = xOf y (decide (x.val % 2 = 1)):=by
 have hb:xB y = true:=(xB_iff y).2 ⟨x,h⟩
 have hx:=xE_on hb
 rw [on_w] at h hx
 have h1:=xE_lt y
 have h2:=xE_even y
 have hs:(x - z (xE y)) * (x + z (xE y)) = 0:=by grind
 have hxl:=x.isLt
 rcases zmul_zero hs with h3 | h3
 · have e:x.val = xE y:=by
     have:x = z (xE y):=by grind
     rw [this,val_z h1]
   rw [e,decide_eq_false (by omega)]
   unfold xOf
   rw [if_neg (by decide)]
 · have e:x = -z (xE y):=by grind
   by_cases h0:xE y = 0
   · have ex:x.val = 0:=by
       rw [e,h0,z_zero]
       decide
     rw [ex,decide_eq_false (by decide)]
     unfold xOf
     rw [if_neg (by decide),h0]
   · have h5:p25 - xE y < p25:=by omega
     have ex:x.val = p25 - xE y:=by
       rw [e,← z_neg,val_mod,zAB h1,zAB h5]
     have h4:=contrary_odd (xE y) h1
     rw [ex,decide_eq_true (by omega)]
     unfold xOf
     rw [if_pos rfl,zAQ,zAB h1,zAB h5]
end Go.Proofs.YteecbglmohhaeaaGreatDoor.C
namespace Go.Proofs.YteecbglmohhaeaaGreatDoor.F
def valK:List Nat → Nat
 | [] => 0
 | d :: r => d + 18446744073709551616 * valK r
theorem valK_append (a b:List Nat):valK (a ++ b) = valK a + 18446744073709551616 ^ a.length * valK b:=by
 induction a with
 | nil => simp [valK]
 | cons x a ih =>
   rw [List.cons_append,valK,ih,valK,zB7,zAP,zAT,zAV (18446744073709551616 ^ a.length) 18446744073709551616,zAY]
   omega
theorem valK_snoc (l:List Nat) (x:Nat):valK (l ++ [x]) = valK l + 18446744073709551616 ^ l.length * x:=by rw [valK_append]; simp [valK]
theorem valK_zeros (n:Nat):valK (List.replicate n 0) = 0:=by
 induction n with
 | zero => rfl
 | succ n ih => rw [zCA,valK,ih]
theorem valK_take_succ (l:List Nat) (i:Nat):valK (l.take (i + 1)) = valK (l.take i) + 18446744073709551616 ^ i * l.getD i 0:=by
 by_cases h:i < l.length
 · rw [zBQ h,valK_snoc,zAM,zBS (by omega),zA4,zA5 h]
   rfl
 · rw [getD_past h,zA7 (by omega),zA7 (by omega)]
   omega
theorem valK_set (l:List Nat) (i x:Nat) (h:i < l.length):valK (l.set i x) + 18446744073709551616 ^ i * l.getD i 0 = valK l + 18446744073709551616 ^ i * x:=by
 induction l generalizing i with
 | nil => simp at h
 | cons a l ih =>
   cases i with
   | zero => simp [valK]; omega
   | succ i =>
     have:=ih i (by simpa using h)
     rw [zA2,valK,valK,List.getD_cons_succ,zAP,zAV (18446744073709551616 ^ i) 18446744073709551616,zAY,zAY]
     omega
def Wd (l:List Nat):Prop:=∀ d ∈ l,d < 18446744073709551616
theorem Wd.at {l:List Nat} (h:Wd l) (i:Nat):l.getD i 0 < 18446744073709551616:=by
 rw [zA4]
 rcases e:l[i]? with _ | x
 · simp
 · exact h x (zAU e)
theorem Wd.snoc {l:List Nat} (h:Wd l) {x:Nat} (hx:x < 18446744073709551616):Wd (l ++ [x]):=fun d hd => by
 rw [zCO,List.mem_singleton] at hd
 rcases hd with hd | rfl
 · exact h d hd
 · exact hx
theorem Wd.set {l:List Nat} (h:Wd l) (i:Nat) {x:Nat} (hx:x < 18446744073709551616):Wd (l.set i x):=fun d hd => by
 rcases List.mem_or_eq_of_mem_set hd with hd | rfl
 · exact h d hd
 · exact hx
theorem valK_lt {l:List Nat} (h:Wd l):valK l < 18446744073709551616 ^ l.length:=by
 induction l with
 | nil => simp [valK]
 | cons x l ih =>
   have h1:=h x (List.mem_cons_self ..)
   have h2:=ih fun d hd => h d (List.mem_cons_of_mem _ hd)
   rw [valK,zB7,zAP]
   omega
def wordsL (n:Nat):List Nat:=[wordN n 0,wordN n 1,wordN n 2,wordN n 3]
theorem wordsL_val {n:Nat} (h:n < K256):valK (wordsL n) = n:=by
 unfold wordsL valK valK valK valK valK wordN
 unfold K256 at h
 rw [zCG,Nat.pow_one,zCP]
 omega
theorem wordsL_wd (n:Nat):Wd (wordsL n):=fun d hd => by
 simp only [wordsL,zCK,List.not_mem_nil,or_false] at hd
 rcases hd with rfl | rfl | rfl | rfl <;> exact wordN_lt _ _
theorem feA_wordsL (n:Nat):feA n = ((wordsL n).map w64).toArray:=by rw [feA_words]; rfl
theorem words_feA (l:List Nat) (hl:l.length = 4) (hw:Wd l):(l.map w64).toArray = feA (valK l) ∧ valK l < K256:=by
 match l,hl with
 | [a,b,c,d],_ =>
   have ha:=hw a (by simp)
   have hb:=hw b (by simp)
   have hc:=hw c (by simp)
   have hd:=hw d (by simp)
   obtain ⟨n,hn,he,hv⟩:=fe_of a b c d ha hb hc hd
   have e:valK [a,b,c,d] = n:=by
     rw [hv]
     unfold valK valK valK valK valK
     omega
   rw [e]
   injection he with he
   exact ⟨he,hn⟩
theorem mul_step {x y c o:Nat} (hx:x < 18446744073709551616) (hy:y < 18446744073709551616) (hc:c < 18446744073709551616) (ho:o < 18446744073709551616) :
   ∃ h l l2 m1 nw m2:Nat,x * y / 18446744073709551616 = h ∧ x * y % 18446744073709551616 = l ∧ (l + c + 0) % 18446744073709551616 = l2 ∧ (l + c + 0) / 18446744073709551616 = m1 ∧ (o + l2 + 0) % 18446744073709551616 = nw ∧ (o + l2 + 0) / 18446744073709551616 = m2 ∧
     h < 18446744073709551616 ∧ l < 18446744073709551616 ∧ l2 < 18446744073709551616 ∧ h + m1 < 18446744073709551616 ∧ h + m1 + m2 < 18446744073709551616 ∧ nw < 18446744073709551616 ∧ nw + 18446744073709551616 * (h + m1 + m2) = x * y + c + o:=by
 have h1:=Nat.mul_le_mul (show x ≤ 18446744073709551615 by omega) (show y ≤ 18446744073709551615 by omega)
 have h2:=zB h1 (show 18446744073709551615 * 18446744073709551615 ≤ 340282366920938463426481119284349108225 by decide)
 clear h1
 generalize x * y = p at h2
 exact ⟨_,_,_,_,_,_,rfl,rfl,rfl,rfl,rfl,rfl,by omega,by omega,by omega,by omega,by omega,by omega,by omega⟩
theorem listA_at (l:List Nat) (j:Nat) (h:j < l.length):((l.map w64).toArray)[j]? = some (w64 (l.getD j 0)):=by
 rw [zA6,zAD,zA5 h,zA4,zA5 h]
 rfl
theorem listA_set (l:List Nat) (j x:Nat):((l.map w64).toArray).setIfInBounds j (w64 x) = ((l.set j x).map w64).toArray:=by
 rw [zA0,List.map_set]
theorem set_getD (l:List Nat) (i j x:Nat) (h:i ≠ j):(l.set i x).getD j 0 = l.getD j 0:=by
 rw [zA4,zA4,List.getElem?_set_ne h]
theorem inner_step {al:List Nat} {V A x y c o nw q i k:Nat} (hl:i + k < al.length) (ho:al.getD (i + k) 0 = o) (h:valK al + 18446744073709551616 ^ (i + k) * c = V + 18446744073709551616 ^ i * (x * A)) (hs:nw + 18446744073709551616 * q = x * y + c + o) :
   valK (al.set (i + k) nw) + 18446744073709551616 ^ (i + (k + 1)) * q = V + 18446744073709551616 ^ i * (x * (A + 18446744073709551616 ^ k * y)):=by
 have h1:=valK_set al (i + k) nw hl
 rw [ho] at h1
 have h2:18446744073709551616 ^ (i + k) * nw + 18446744073709551616 ^ (i + (k + 1)) * q = 18446744073709551616 ^ (i + k) * (x * y) + 18446744073709551616 ^ (i + k) * c + 18446744073709551616 ^ (i + k) * o:=by
   rw [← zC5,zAP,zAY,← zAT,hs,zAT,zAT]
 have h3:18446744073709551616 ^ i * (x * (A + 18446744073709551616 ^ k * y)) = 18446744073709551616 ^ i * (x * A) + 18446744073709551616 ^ (i + k) * (x * y):=by
   rw [zAT,zAT,zBI,zCB x,zAY]
 rw [h3]
 omega
theorem row_step {al:List Nat} {V x n c i:Nat} (hl:i + 4 < al.length) (ho:al.getD (i + 4) 0 = 0) (h:valK al + 18446744073709551616 ^ (i + 4) * c = V * n + 18446744073709551616 ^ i * (x * n)) :
   valK (al.set (i + 4) c) = (V + 18446744073709551616 ^ i * x) * n:=by
 have h1:=valK_set al (i + 4) c hl
 rw [ho,zCQ,zAZ] at h1
 rw [zCR,zAY,h1,h]
theorem high_step {V L H c x o nw q i:Nat} (h:V + 18446744073709551616 ^ i * c = L + 38 * H) (hs:nw + 18446744073709551616 * q = x * 38 + c + o) :
   (V + 18446744073709551616 ^ i * nw) + 18446744073709551616 ^ (i + 1) * q = (L + 18446744073709551616 ^ i * o) + 38 * (H + 18446744073709551616 ^ i * x):=by
 have h2:18446744073709551616 ^ i * nw + 18446744073709551616 ^ (i + 1) * q = 18446744073709551616 ^ i * (x * 38) + 18446744073709551616 ^ i * c + 18446744073709551616 ^ i * o:=by
   rw [zAP,zAY,← zAT,hs,zAT,zAT]
 have h3:38 * (H + 18446744073709551616 ^ i * x) = 38 * H + 18446744073709551616 ^ i * (x * 38):=by
   rw [zAT,zCB,zAV 38 x]
 rw [h3]
 omega
end Go.Proofs.YteecbglmohhaeaaGreatDoor.F
