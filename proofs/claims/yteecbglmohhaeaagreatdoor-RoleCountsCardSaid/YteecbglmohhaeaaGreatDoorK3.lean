import Derived.Test.YteecbglmohhaeaaGreatDoorK2
import Derived.BigRegion
set_option maxRecDepth 100000
open List renaming append_nil → zB6, drop_eq_getElem_cons → zAS, drop_of_length_le → zAW, getD_eq_getElem?_getD → zA4, getElem?_append_left → zBY, getElem?_append_right → zBJ, getElem?_drop → zBF, getElem?_eq_getElem → zA5, length_append → zAL, length_drop → zB4, length_take → zAM, map_append → zC3, mem_append → zCO, replicate_zero → zCE, take_of_length_le → zA7, take_succ_cons → zA8, take_succ_eq_append_getElem → zBQ
open Nat renaming add_assoc → zC5, add_comm → zCL, add_mul → zCR, add_mul_mod_self_left → zAX, div_div_eq_div_mul → zB5, div_le_self → zB9, div_one → zCP, le_refl → zA3, le_succ → zBP, le_trans → zB, lt_of_lt_of_le → zBA, mod_eq_of_lt → zAB, mod_lt → zAO, mul_add → zAT, mul_assoc → zAY, mul_comm → zAV, mul_le_mul_left → zC9, pow_add → zBI, pow_le_pow_right → zB1, pow_mul → zC1, pow_succ → zAP, pow_zero → zCG, sub_self → zB8, zero_le → zAR
namespace Go.Proofs.YteecbglmohhaeaaGreatDoor.F
open Go.RowKit
theorem below_put {B:Nat} {a w:World} (h:Below B a w) {g:Nat} (hg:B ≤ g) (i:Nat) (v:Value):Below B a (w.setCell ⟨g,i,none⟩ v):=h.setCell (p:=⟨g,i,none⟩) hg v
theorem i64_sum (A B:Nat) (hA:A ≤ 1152921504606846976) (hB:B ≤ 1152921504606846976):IntKind.i64.wrap ((A:Int) + (B:Int)) = ((A + B:Nat):Int):=by
 rw [IntWalk.i64_in _ (by omega)]
 omega
set_option maxHeartbeats 1600000 in
theorem plus_any (a b:List Nat) (ga oa ca gb ob cb:Nat) (W:World) (ha:Dig W ga oa a) (hb:Dig W gb ob b) (hla:a.length ≤ 400) (hlb:b.length ≤ 400) (da:Dg a) (db:Dg b) :
   Calls Tryz.prog 156 #[.slice (some ⟨ga,oa,none⟩) a.length ca,.slice (some ⟨gb,ob,none⟩) b.length cb] W fun e W' => ∃ r g' cap',e = .returned (.slice (some ⟨g',0,none⟩) r.length cap') ∧ r.length ≤ cap' ∧ r.length ≤ a.length + b.length + 4 ∧ Dig W' g' 0 r ∧ Dg r ∧ Tr r ∧ val r = val a + val b ∧ Below W.heap.size W W':=by
 obtain ⟨i0,hi,hz0,hz1,hz2⟩:=info_parts info3
 obtain ⟨N,hN⟩:∃ N,a.length + b.length = N:=⟨_,rfl⟩
 have hNi:(a.length:Int) + (b.length:Int) = (N:Int):=by omega
 go_enter Tryz.func156,Tryz.ntmps156
 go_wp2_with (at_make; refine wpList_make_full _ rfl _ _ 48 rfl W.heap.size 3 i0 (.int .i64 0) 1 Tryz.underlying48 hi hz0 hz1 _ _ _ _ N rfl rfl ?e1 ?e2 ?b2 ?b3 (zA3 _) ?_)
 case e1 => omega
 case e2 => omega
 case b2 => rw [hz2]; omega
 case b3 => unfold maxLen; omega
 intro w1 hown hgrow
 have hb1:Below W.heap.size W w1:=(Below.refl _ _).grown hgrow (zA3 _) (fun k hk => by cases hk)
 rw [made_zeros] at hown
 clear hgrow
 go_wp2_with fail
 go_loopw [16] (fun ix wr => ∃ i:Nat,i ≤ a.length ∧ ix = .int .i64 i ∧ wr.ownsRow W.heap.size 3 1 (.slice (some ⟨W.heap.size,0,none⟩) N N) N ((a.take i ++ List.replicate (N - i) 0).map i64) ∧ Below W.heap.size W wr) (fun ix _ => a.length - (intOf ix).toNat)
 case atStart => exact ⟨0,zAR _,rfl,hown,hb1⟩
 case round =>
   clear hown hb1
   obtain ⟨i,hi1,rfl,ho,hB⟩:=hrel
   by_cases hlt:i < a.length
   · have hF:=ho.frozenAt i
     have hO:=own_at ho i (by omega)
     have HO:=Lib.hid ho
     have HP:=Lib.hid (pre_set (a.take i) N i (a.getD i 0) (by rw [zAM]; omega) (by omega))
     have HS:Hid (a.take (i + 1) = a.take i ++ [a.getD i 0]):=Lib.hid (by
       rw [zBQ hlt,zA4,zA5 hlt]
       rfl)
     have hX:=(ha.on hB) i hlt
     clear ho
     generalize (a.take i ++ List.replicate (N - i) 0).getD i 0 = Z at hO
     generalize a.getD i 0 = X at hX HP HS
     go_wp2_with fail
     go_roundw
     case rel => exact ⟨i + 1,by omega,by go_num,by rw [HS.out,← HP.out]; exact own_putv HO.out i _ _ rfl,below_put hB (zA3 _) _ _⟩
     case measure => simp [intOf]; omega
   · obtain rfl:i = a.length:=by omega
     rw [zA7 (zA3 _)] at ho
     obtain ⟨s,hs⟩:∃ s,a ++ List.replicate (N - a.length) 0 = s:=⟨_,rfl⟩
     have hsl:s.length = N:=by rw [← hs]; simp; omega
     have hsd:Dg s:=by rw [← hs]; exact dg_zeros da _
     have hsv:val s = val a:=by rw [← hs]; exact val_pad _ _
     rw [hs] at ho
     have HD:=Lib.hid hsd
     have HV:=Lib.hid hsv
     have HDb:=Lib.hid db
     clear hs hsd hsv da db
     go_wp2_with fail
     go_loopw [29] (fun ix wr => ∃ k:Nat,k ≤ b.length ∧ ix = .int .i64 k ∧ wr.ownsRow W.heap.size 3 1 (.slice (some ⟨W.heap.size,0,none⟩) N N) N ((plusS s b k).map i64) ∧ Below W.heap.size W wr) (fun ix _ => b.length - (intOf ix).toNat)
     case atStart => exact ⟨0,zAR _,rfl,ho,hB⟩
     case round =>
       clear ho hB
       obtain ⟨k,hk1,rfl,ho,hB⟩:=hrel
       by_cases hltk:k < b.length
       · have hF:=ho.frozenAt k
         have hO:=own_at ho k (by omega)
         have hO2:=(plusS_bd HD.out HDb.out k (by omega)).at k
         have HO:=Lib.hid ho
         have HS:Hid (plusS s b (k + 1) = (plusS s b k).set k ((plusS s b k).getD k 0 + b.getD k 0)):=Lib.hid rfl
         have hY:=(hb.on hB) k hltk
         have hY2:=HDb.out.at k
         clear ho
         generalize (plusS s b k).getD k 0 = X at hO hO2 HS
         generalize b.getD k 0 = Y at hY hY2 HS
         have hsum:=i64_sum X Y (by omega) (by omega)
         go_wp2_with fail
         go_region
         all_goals
           go_wp2_with fail
           go_roundw
           case rel => exact ⟨k + 1,by omega,by go_num,by rw [HS.out]; exact own_putv HO.out k _ _ (val_int (by omega)),(below_put hB (zA3 _) _ _).drew⟩
           case measure => simp [intOf]; omega
       · obtain rfl:k = b.length:=by omega
         have hD:=own_dig ho
         have hlen:=plusS_length s b b.length
         rw [hsl] at hlen
         have HT:=Lib.hid (carry_any (plusS s b b.length) 131072 W.heap.size 0 N wr hD (by omega) (plusS_bd HD.out HDb.out _ (by omega)) (by decide))
         rw [hlen] at HT
         have HVal:Hid (val (plusS s b b.length) = val a + val b):=Lib.hid (by rw [plusS_val _ _ _ (by omega),HV.out,zA7 (zA3 _)])
         clear ho hD
         go_wp2_with (go_at_call 175; refine HT.out.mono ?_; rintro e w2 ⟨r,g2,cap2,rfl,hr1,hr2,hr3,hr4,hr5,hr6,hb2⟩)
         go_ret
         exact ⟨r,g2,cap2,rfl,hr1,by omega,hr3,hr4,hr5,hr6.trans HVal.out,below_on hB hb2⟩
end Go.Proofs.YteecbglmohhaeaaGreatDoor.F
namespace Go.Proofs.YteecbglmohhaeaaGreatDoor.F
open Go.RowKit
def wordN (n j:Nat):Nat:=n / 18446744073709551616 ^ j % 18446744073709551616
theorem wordN_lt (n j:Nat):wordN n j < 18446744073709551616:=zAO _ (by decide)
theorem feA_words (n:Nat):feA n = #[w64 (wordN n 0),w64 (wordN n 1),w64 (wordN n 2),w64 (wordN n 3)]:=by
 unfold feA wordN
 rw [zCG,zCP]
theorem index_four (a b c d:Nat) (i:Nat) (h:i < 4) (W:World):(Instr.index 66 (.agg #[w64 a,w64 b,w64 c,w64 d]) (.int .i64 (i:Int))).run Tryz.prog W = .ok (w64 ([a,b,c,d].getD i 0)) W:=by
 match i,h with
 | 0,_ | 1,_ | 2,_ | 3,_ => (show _ = _; kernel_rfl)
theorem index_word (n i:Nat) (h:i < 4) (W:World):(Instr.index 66 (.agg #[w64 (wordN n 0),w64 (wordN n 1),w64 (wordN n 2),w64 (wordN n 3)]) (.int .i64 (i:Int))).run Tryz.prog W = .ok (w64 (wordN n i)) W:=by
 rw [index_four _ _ _ _ i h]
 match i,h with
 | 0,_ | 1,_ | 2,_ | 3,_ => rfl
def digN (n k:Nat):Nat:=n / 65536 ^ k % 65536
def dgL (n:Nat):Nat → List Nat
 | 0 => []
 | k + 1 => dgL n k ++ [digN n k]
theorem dgL_length (n k:Nat):(dgL n k).length = k:=by
 induction k with
 | zero => rfl
 | succ k ih => rw [dgL,zAL,ih]; rfl
theorem dgL_dg (n k:Nat):Dg (dgL n k):=by
 induction k with
 | zero => intro d hd; cases hd
 | succ k ih =>
   intro d hd
   rw [dgL,zCO,List.mem_singleton] at hd
   rcases hd with hd | rfl
   · exact ih d hd
   · exact zAO _ (by decide)
theorem dgL_at (n k i:Nat) (h:i < k):(dgL n k).getD i 0 = digN n i:=by
 induction k with
 | zero => omega
 | succ k ih =>
   rw [dgL,zA4]
   by_cases e:i < k
   · rw [zBY (by rw [dgL_length]; exact e),← zA4,ih e]
   · obtain rfl:i = k:=by omega
     rw [zBJ (by rw [dgL_length]; exact zA3 _),dgL_length,zB8]
     rfl
theorem dgL_val (n k:Nat):val (dgL n k) = n % 65536 ^ k:=by
 induction k with
 | zero => simp [dgL,val,Nat.mod_one]
 | succ k ih => rw [dgL,val_snoc,ih,dgL_length,digN,zAP,Nat.mod_mul]
theorem dgL_full {n:Nat} (h:n < K256):val (dgL n 16) = n:=by
 rw [dgL_val,zAB]
 exact h
theorem word_digit (n j i:Nat) (hi:i < 4):wordN n j / 65536 ^ i % 65536 = digN n (4 * j + i):=by
 unfold wordN digN
 have e1:(18446744073709551616:Nat) = 65536 ^ i * 65536 ^ (4 - i):=by rw [← zBI,show i + (4 - i) = 4 by omega]
 have e2:(65536:Nat) ^ (4 * j + i) = 18446744073709551616 ^ j * 65536 ^ i:=by rw [zBI,zC1]
 have e3:(65536:Nat) ^ (4 - i) = 65536 * 65536 ^ (3 - i):=by rw [show 4 - i = (3 - i) + 1 by omega,zAP,zAV]
 rw [e2,← zB5]
 generalize n / 18446744073709551616 ^ j = m
 rw [e1,Nat.mod_mul_right_div_self,e3,Nat.mod_mul_right_mod]
theorem left_next (x i:Nat):x / 65536 ^ i / 65536 = x / 65536 ^ (i + 1):=by rw [zB5,zAP]
set_option maxHeartbeats 1600000 in
theorem digits_own (n:Nat) (W:World) :
   Calls Tryz.prog 119 #[fe n] W fun e W' => ∃ g cap,e = .returned (.slice (some ⟨g,0,none⟩) 16 cap) ∧ W'.ownsRow W.heap.size 3 1 (.slice (some ⟨g,0,none⟩) 16 cap) 16 ((dgL n 16).map i64) ∧ Below W.heap.size W W':=by
 obtain ⟨i0,hi,hz0,hz1,hz2⟩:=info_parts info3
 have hix:=index_word n
 rw [fe,feA_words]
 go_enter Tryz.func119,Tryz.ntmps119
 go_wp2_with ((with_reducible refine wpL_load W.heap.size 66 #[w64 (wordN n 0),w64 (wordN n 1),w64 (wordN n 2),w64 (wordN n 3)] 4 row4 rfl (heap_alloc2_old W _ _) ?_ ?_); rfl)
 go_loopw [3,9] (fun ox jx wr => ∃ j g cap:Nat,j ≤ 4 ∧ jx = .int .i64 j ∧ ox = .slice (some ⟨g,0,none⟩) (4 * j) cap ∧ wr.ownsRow W.heap.size 3 1 (.slice (some ⟨g,0,none⟩) (4 * j) cap) (4 * j) ((dgL n (4 * j)).map i64) ∧ Below W.heap.size W wr) (fun _ jx _ => 4 - (intOf jx).toNat)
 case atStart => exact ⟨0,_,_,by omega,rfl,rfl,own_empty (heap_alloc2_new W _ _) (by simp),((Below.refl _ W).alloc (zA3 _) _).alloc (by simp) _⟩
 case round =>
   obtain ⟨j,g,cap,hj,rfl,rfl,ho,hB⟩:=hrel
   by_cases hlt:j < 4
   · have hx:=hix j hlt
     have hw:=wordN_lt n j
     have hji:(j:Int) < 4:=by omega
     have HW:=Lib.hid (word_digit n j)
     clear hix
     generalize wordN n j = X at hx hw HW
     go_wp2_with fail
     go_loopw [3,5,6] (fun ox wx ix wr => ∃ i g cap:Nat,i ≤ 4 ∧ ix = .int .i64 i ∧ wx = w64 (X / 65536 ^ i) ∧ ox = .slice (some ⟨g,0,none⟩) (4 * j + i) cap ∧ wr.ownsRow W.heap.size 3 1 (.slice (some ⟨g,0,none⟩) (4 * j + i) cap) (4 * j + i) ((dgL n (4 * j + i)).map i64) ∧ Below W.heap.size W wr) (fun _ _ ix _ => 4 - (intOf ix).toNat)
     case atStart => exact ⟨0,_,_,by omega,rfl,val_int (by simp),rfl,ho,hB⟩
     case round =>
       clear ho hB
       obtain ⟨i,g,cap,hi1,rfl,rfl,rfl,ho,hB⟩:=hrel
       have hsz:=hB.size
       by_cases hlti:i < 4
       · have HD:=Lib.hid (HW.out i hlti)
         have HN:=Lib.hid (left_next X i)
         have hle:X / 65536 ^ i ≤ X:=zB9 _ _
         have HS:Hid (dgL n (4 * j + i + 1) = dgL n (4 * j + i) ++ [digN n (4 * j + i)]):=Lib.hid rfl
         have hlen:4 * j + i ≤ 16:=by omega
         obtain ⟨m,hm⟩:∃ m,4 * j + i = m:=⟨_,rfl⟩
         rw [hm] at HD HS ho hlen
         have hm2:4 * (j:Int) + (i:Int) = (m:Int):=by omega
         rw [hm]
         generalize X / 65536 ^ i = Y at *
         go_wp2_with ((with_reducible refine wpL_append W.heap.size 3 i0 (.int .i64 0) 8 Tryz.underlying48 hi hz0 hz1 hz2 rfl _ m _ (ho.alloc _) _ _ (Lies.new _ _ _) rfl (by unfold maxLen; omega) (by omega) (by simp; omega) ?_ ?_ ?_); rfl; rfl; intro g6 cap6 w6 ho6 hgrow6)
         go_roundw
         case rel =>
           rw [← HD.out] at HS
           exact ⟨i + 1,g6,cap6,by omega,by go_num,val_int (by rw [← HN.out]; omega),by rw [← zC5,hm],by
             rw [← zC5,hm,HS.out,zC3]
             exact ho6,(hB.alloc hsz _).grown hgrow6 (by simp; omega) (fun j hj => (ho.lt j hj).1)⟩
         case measure => simp [intOf]; omega
       · obtain rfl:i = 4:=by omega
         go_wp2_with fail
         go_roundw
         case rel => exact ⟨j + 1,g,cap,by omega,by go_num,by rw [zAT],by rw [zAT]; exact ho,hB⟩
         case measure => simp [intOf]; omega
   · obtain rfl:j = 4:=by omega
     clear hix
     go_wp2_with fail
     go_ret
     exact ⟨g,cap,rfl,ho,hB⟩
theorem digits_any (n:Nat) (W:World) :
   Calls Tryz.prog 119 #[fe n] W fun e W' => ∃ g cap,e = .returned (.slice (some ⟨g,0,none⟩) 16 cap) ∧ 16 ≤ cap ∧ Dig W' g 0 (dgL n 16) ∧ Below W.heap.size W W':=
 (digits_own n W).mono fun _ _ ⟨g,cap,he,ho,hB⟩ => ⟨g,cap,he,own_cap ho,own_dig ho,hB⟩
def wrd (d:List Nat) (n j:Nat):Nat:=val ((d.drop (max n (4 * j))).take (4 * j + 4 - max n (4 * j)))
def wrdA (d:List Nat) (n:Nat):Array Value:=#[w64 (wrd d n 0),w64 (wrd d n 1),w64 (wrd d n 2),w64 (wrd d n 3)]
theorem wrd_start (d:List Nat) (j:Nat):wrd d d.length j = 0:=by
 unfold wrd
 rw [zAW (Nat.le_max_left _ _)]
 simp [val]
theorem wrd_other (d:List Nat) (n j:Nat) (h:j ≠ n / 4):wrd d n j = wrd d (n + 1) j:=by
 unfold wrd
 by_cases h1:n < 4 * j
 · rw [Nat.max_eq_right (by omega),Nat.max_eq_right (by omega)]
 · rw [show 4 * j + 4 - max n (4 * j) = 0 by omega,show 4 * j + 4 - max (n + 1) (4 * j) = 0 by omega]
   rfl
theorem wrd_step (d:List Nat) (n:Nat) (h:n < d.length):wrd d n (n / 4) = 65536 * wrd d (n + 1) (n / 4) + d.getD n 0:=by
 unfold wrd
 rw [Nat.max_eq_left (by omega),Nat.max_eq_left (by omega),show 4 * (n / 4) + 4 - n = (4 * (n / 4) + 4 - (n + 1)) + 1 by omega,zAS h,zA8,val,zA4,zA5 h]
 exact zCL _ _
theorem wrd_lt {d:List Nat} (hd:Dg d) (n:Nat):wrd d (n + 1) (n / 4) < 281474976710656:=by
 unfold wrd
 have h1:=val_lt ((hd.drop (max (n + 1) (4 * (n / 4)))).take (4 * (n / 4) + 4 - max (n + 1) (4 * (n / 4))))
 have h2:65536 ^ ((d.drop (max (n + 1) (4 * (n / 4)))).take (4 * (n / 4) + 4 - max (n + 1) (4 * (n / 4)))).length ≤ 65536 ^ 3:=zB1 (by decide) (by rw [zAM]; omega)
 exact zBA h1 h2
theorem wrd_full {d:List Nat} (hd:Dg d) (j:Nat):wrd d 0 j < 18446744073709551616:=by
 unfold wrd
 have h1:=val_lt ((hd.drop (max 0 (4 * j))).take (4 * j + 4 - max 0 (4 * j)))
 have h2:65536 ^ ((d.drop (max 0 (4 * j))).take (4 * j + 4 - max 0 (4 * j))).length ≤ 65536 ^ 4:=zB1 (by decide) (by rw [zAM]; omega)
 exact zBA h1 h2
theorem val_four (l:List Nat) (n:Nat):val l = val (l.take n) + 65536 ^ n * val (l.drop n):=by
 by_cases h:n ≤ l.length
 · exact val_split l n h
 · rw [zA7 (by omega),zAW (by omega)]
   simp [val]
theorem wrd_val {d:List Nat} (hl:d.length ≤ 16):val d = wrd d 0 0 + 18446744073709551616 * wrd d 0 1 + 340282366920938463463374607431768211456 * wrd d 0 2 + 6277101735386680763835789423207666416102355444464034512896 * wrd d 0 3:=by
 have h0:=val_four d 4
 have h1:=val_four (d.drop 4) 4
 have h2:=val_four (d.drop 8) 4
 have h3:(d.drop 12).take 4 = d.drop 12:=zA7 (by rw [zB4]; omega)
 rw [List.drop_drop] at h1 h2
 have e0:wrd d 0 0 = val (d.take 4):=rfl
 have e1:wrd d 0 1 = val ((d.drop 4).take 4):=rfl
 have e2:wrd d 0 2 = val ((d.drop 8).take 4):=rfl
 have e3:wrd d 0 3 = val ((d.drop 12).take 4):=rfl
 rw [h3] at e3
 have p4:(65536:Nat) ^ 4 = 18446744073709551616:=by decide
 rw [p4] at h0 h1 h2
 rw [e0,e1,e2,e3]
 have f1:val (d.drop (4 + 4)) = val (d.drop 8):=rfl
 have f2:val (d.drop (8 + 4)) = val (d.drop 12):=rfl
 omega
theorem wrdA_fe {d:List Nat} (hd:Dg d) (hl:d.length ≤ 16):wrdA d 0 = feA (val d):=by
 obtain ⟨n,_,h,hn⟩:=fe_of _ _ _ _ (wrd_full hd 0) (wrd_full hd 1) (wrd_full hd 2) (wrd_full hd 3)
 rw [← wrd_val hl] at hn
 subst hn
 injection h
theorem wrdA_at (d:List Nat) (n j:Nat) (h:j < 4):(wrdA d n)[j]? = some (w64 (wrd d n j)):=by
 match j,h with
 | 0,_ | 1,_ | 2,_ | 3,_ => rfl
theorem wrdA_set (d:List Nat) (n:Nat) (h:n < d.length) (h4:n / 4 < 4):(wrdA d (n + 1)).setIfInBounds (n / 4) (w64 (65536 * wrd d (n + 1) (n / 4) + d.getD n 0)) = wrdA d n:=by
 rw [← wrd_step d n h]
 obtain ⟨q,hq⟩:∃ q,n / 4 = q:=⟨_,rfl⟩
 have ho:=wrd_other d n
 rw [hq] at h4 ho ⊢
 unfold wrdA
 match q,h4,ho with
 | 0,_,ho => rw [← ho 1 (by decide),← ho 2 (by decide),← ho 3 (by decide)]; rfl
 | 1,_,ho => rw [← ho 0 (by decide),← ho 2 (by decide),← ho 3 (by decide)]; rfl
 | 2,_,ho => rw [← ho 0 (by decide),← ho 1 (by decide),← ho 3 (by decide)]; rfl
 | 3,_,ho => rw [← ho 0 (by decide),← ho 1 (by decide),← ho 2 (by decide)]; rfl
set_option maxHeartbeats 1600000 in
theorem words_any (d:List Nat) (g o cap:Nat) (W:World) (hd:Dig W g o d) (hl:d.length ≤ 16) (dd:Dg d) :
   Calls Tryz.prog 149 #[.slice (some ⟨g,o,none⟩) d.length cap] W fun e W' => e = .returned (fe (val d)) ∧ Below W.heap.size W W':=by
 have HE:=Lib.hid (wrdA_fe dd hl)
 have HL:=Lib.hid (fun n => @wrd_lt d dd n)
 have HX:=Lib.hid dd
 have HZ:Hid (wrdA d d.length = #[w64 0,w64 0,w64 0,w64 0]):=Lib.hid (by unfold wrdA; rw [wrd_start,wrd_start,wrd_start,wrd_start])
 clear dd
 go_enter Tryz.func149,Tryz.ntmps149
 go_wp2_with fail
 go_loopw [4] (fun ix wr => ∃ n:Nat,n ≤ d.length ∧ ix = .int .i64 ((n:Int) - 1) ∧ Lies wr (W.heap.size + 1) 66 (wrdA d n) ∧ Lies wr W.heap.size 66 #[w64 0,w64 0,w64 0,w64 0] ∧ Below W.heap.size W wr) (fun ix _ => (intOf ix + 1).toNat)
 case atStart => exact ⟨d.length,zA3 _,val_int (by omega),by rw [HZ.out]; exact heap_alloc2_new W _ _,heap_alloc2_old W _ _,((Below.refl _ W).alloc (zA3 _) _).alloc (by simp) _⟩
 case round =>
   obtain ⟨n,hn,rfl,hx,hr,hB⟩:=hrel
   cases n with
   | zero =>
     have hx0:=hx
     rw [HE.out] at hx0
     go_wp2_with (first | ((with_reducible refine wpL_load (W.heap.size + 1) 66 (feA (val d)) 4 row4 (feA_size _) hx0 ?_ ?_); rfl) | ((with_reducible refine wpL_store W.heap.size 66 _ (feA (val d)) 4 row4 rfl (feA_size _) (feA_one _) hr ?_ ?_ ?_); rfl; rfl))
     exact bodyPost_ret (results_row Tryz.results149 row4 (feA_size _) (hr.row _) rfl) rfl ⟨rfl,below_rowSet hB (zA3 _) _⟩
   | succ n =>
     have em:((n + 1:Nat):Int) - 1 = (n:Int):=by omega
     rw [em]
     have hX:=(hd.on hB) n (by omega)
     have hX2:=HX.out.at n
     have hlt:=HL.out n
     have HS:=Lib.hid (wrdA_set d n (by omega) (by omega))
     obtain ⟨q,hq⟩:∃ q,n / 4 = q:=⟨_,rfl⟩
     have hq4:q < 4:=by omega
     rw [hq] at hlt HS
     have hqi:(n:Int) / 4 = (q:Int):=by omega
     have hc:=(hx.cell q).trans (wrdA_at d (n + 1) q hq4)
     have hf:=hx.frozen q
     have hqi4:(q:Int) < 4:=by omega
     generalize wrd d (n + 1) q = F at hlt HS hc
     generalize d.getD n 0 = X at hX hX2 HS
     have e1:IntKind.u64.wrap (65536 * (F:Int)) = ((65536 * F:Nat):Int):=by rw [IntKind.wrap_u64]; omega
     have e2:IntKind.u64.wrap (X:Int) = (X:Int):=by rw [IntKind.wrap_u64]; omega
     have hcast:Value.int .u64 (65536 * (F:Int) + (X:Int)) = w64 (65536 * F + X):=val_int (by omega)
     have e3:IntKind.u64.wrap (((65536 * F:Nat):Int) + (X:Int)) = ((65536 * F + X:Nat):Int):=by rw [IntKind.wrap_u64]; omega
     go_wp2_with fail
     go_region
     all_goals
       go_wp2_with fail
       go_roundw
       case rel => exact ⟨n,by omega,rfl,by rw [← HS.out,← hcast]; exact (hx.put q _).drew,(hr.far (by simp) _).drew,(below_put hB (zBP _) _ _).drew⟩
       case measure => simp [intOf]
end Go.Proofs.YteecbglmohhaeaaGreatDoor.F
namespace Go.Proofs.YteecbglmohhaeaaGreatDoor.F
open Go.RowKit
def Tab (w:World):Prop:=∀ i,i < 4 → w.cell? ⟨6,i,none⟩ = some (w64 (wordN p25 i))
theorem Tab.on {w w':World} (h:Tab w) (hb:Below w.heap.size w w'):Tab w':=fun i hi => by
 have h1:=h i hi
 exact (hb.cell (p:=⟨6,i,none⟩) (World.block_lt_of_cell? w _ h1)).trans h1
def TabR (w:World):Prop:=∀ i,i < 4 → w.cell? ⟨7,i,none⟩ = some (w64 (wordN i25 i))
theorem TabR.on {w w':World} (h:TabR w) (hb:Below w.heap.size w w'):TabR w':=fun i hi => by
 have h1:=h i hi
 exact (hb.cell (p:=⟨7,i,none⟩) (World.block_lt_of_cell? w _ h1)).trans h1
def Tab2 (w:World):Prop:=Tab w ∧ TabR w
theorem Tab2.on {w w':World} (h:Tab2 w) (hb:Below w.heap.size w w'):Tab2 w':=⟨h.1.on hb,h.2.on hb⟩
end Go.Proofs.YteecbglmohhaeaaGreatDoor.F
namespace Go.Proofs.YteecbglmohhaeaaGreatDoor.F
open Go.RowKit
set_option maxHeartbeats 1600000 in
theorem times_any (a b:List Nat) (ga oa ca gb ob cb:Nat) (W:World) (ha:Dig W ga oa a) (hb:Dig W gb ob b) (hla:a.length ≤ 400) (hlb:b.length ≤ 400) (da:Dg a) (db:Dg b) :
   Calls Tryz.prog 160 #[.slice (some ⟨ga,oa,none⟩) a.length ca,.slice (some ⟨gb,ob,none⟩) b.length cb] W fun e W' => ∃ r g' cap',e = .returned (.slice (some ⟨g',0,none⟩) r.length cap') ∧ r.length ≤ cap' ∧ r.length ≤ a.length + b.length + 4 ∧ Dig W' g' 0 r ∧ Dg r ∧ Tr r ∧ val r = val a * val b ∧ Below W.heap.size W W':=by
 obtain ⟨i0,hi,hz0,hz1,hz2⟩:=info_parts info3
 obtain ⟨N,hN⟩:∃ N,a.length + b.length = N:=⟨_,rfl⟩
 have hNi:(a.length:Int) + (b.length:Int) = (N:Int):=by omega
 have HA:=Lib.hid da
 have HBd:=Lib.hid db
 clear da db
 go_enter Tryz.func160,Tryz.ntmps160
 go_wp2_with (at_make; refine wpList_make_full _ rfl _ _ 48 rfl W.heap.size 3 i0 (.int .i64 0) 1 Tryz.underlying48 hi hz0 hz1 _ _ _ _ N rfl rfl ?e1 ?e2 ?b2 ?b3 (zA3 _) ?_)
 case e1 => omega
 case e2 => omega
 case b2 => rw [hz2]; omega
 case b3 => unfold maxLen; omega
 intro w1 hown hgrow
 have hb1:Below W.heap.size W w1:=(Below.refl _ _).grown hgrow (zA3 _) (fun k hk => by cases hk)
 rw [made_zeros] at hown
 clear hgrow
 go_wp2_with fail
 go_loopw [16] (fun ix wr => ∃ i:Nat,i ≤ a.length ∧ ix = .int .i64 i ∧ wr.ownsRow W.heap.size 3 1 (.slice (some ⟨W.heap.size,0,none⟩) N N) N ((outS a b i).map i64) ∧ Below W.heap.size W wr) (fun ix _ => a.length - (intOf ix).toNat)
 case atStart => exact ⟨0,zAR _,rfl,by rw [outS,hN]; exact hown,hb1⟩
 case round =>
   clear hown hb1
   obtain ⟨i,hi1,rfl,ho,hB⟩:=hrel
   by_cases hlt:i < a.length
   · go_wp2_with fail
     go_loopw [21] (fun kx wv => ∃ k:Nat,k ≤ b.length ∧ kx = .int .i64 k ∧ wv.ownsRow W.heap.size 3 1 (.slice (some ⟨W.heap.size,0,none⟩) N N) N ((innS a b i (outS a b i) k).map i64) ∧ Below W.heap.size W wv) (fun kx _ => b.length - (intOf kx).toNat)
     case atStart => exact ⟨0,zAR _,rfl,ho,hB⟩
     case round =>
       clear ho hB
       obtain ⟨k,hk1,rfl,ho,hB⟩:=hrel
       by_cases hltk:k < b.length
       · obtain ⟨m,hm⟩:∃ m,i + k = m:=⟨_,rfl⟩
         have hmN:m < N:=by omega
         have hF:=ho.frozenAt m
         have hO:=own_at ho m hmN
         have hO2:=innS_bd HA.out HBd.out i k hi1 hk1 hlt m
         have HO:=Lib.hid ho
         have HS:Hid (innS a b i (outS a b i) (k + 1) = (innS a b i (outS a b i) k).set (i + k) ((innS a b i (outS a b i) k).getD (i + k) 0 + a.getD i 0 * b.getD k 0)):=Lib.hid rfl
         rw [hm] at HS
         have hX:=(ha.on hB) i hlt
         have hX2:=HA.out.at i
         have hY:=(hb.on hB) k hltk
         have hY2:=HBd.out.at k
         have hP2:=zB (Nat.mul_le_mul (show a.getD i 0 ≤ 65535 by omega) (show b.getD k 0 ≤ 65535 by omega)) (show 65535 * 65535 ≤ 4294836225 by decide)
         clear ho
         have e1:IntKind.i64.wrap ((i:Int) + (k:Int)) = (m:Int):=by rw [IntWalk.i64_in _ (by omega)]; omega
         have hcast:(i:Int) + (k:Int) = (m:Int):=by omega
         have b1:(m:Int) < (N:Int):=by omega
         generalize (innS a b i (outS a b i) k).getD m 0 = O at hO hO2 HS
         generalize a.getD i 0 = X at hX hX2 HS hP2
         generalize b.getD k 0 = Y at hY hY2 HS hP2
         obtain ⟨M,hM⟩:∃ M,X * Y = M:=⟨_,rfl⟩
         have eM:(X:Int) * (Y:Int) = (M:Int):=by rw [← hM]; omega
         rw [hM] at HS hP2
         clear hM
         have hO3:O ≤ 1152921504606846976:=by omega
         have eM2:IntKind.i64.wrap (M:Int) = (M:Int):=by rw [IntWalk.i64_in _ (by omega)]
         have hsum:=i64_sum O M hO3 (by omega)
         obtain ⟨T,hT⟩:∃ T,O + M = T:=⟨_,rfl⟩
         rw [hT] at HS hsum
         have hcast2:(O:Int) + (M:Int) = (T:Int):=by omega
         clear hO2 hX2 hY2
         go_wp2_with fail
         go_region
         all_goals
           go_wp2_with fail
           go_roundw
           case rel => exact ⟨k + 1,by omega,by go_num,by rw [HS.out]; exact own_putv HO.out m _ _ rfl,(below_put hB (zA3 _) _ _).drew⟩
           case measure => simp [intOf]; omega
       · obtain rfl:k = b.length:=by omega
         go_wp2_with fail
         go_roundw
         case rel => exact ⟨i + 1,by omega,by go_num,ho,hB⟩
         case measure => simp [intOf]; omega
   · obtain rfl:i = a.length:=by omega
     have hD:=own_dig ho
     have hlen:=outS_length a b a.length
     rw [hN] at hlen
     have HT:=Lib.hid (carry_any (outS a b a.length) 1717934490000 W.heap.size 0 N wr hD (by omega) (bd_of fun j => zB (outS_bd HA.out HBd.out a.length (zA3 _) j) (by omega)) (by decide))
     rw [hlen] at HT
     have HVal:Hid (val (outS a b a.length) = val a * val b):=Lib.hid (by rw [outS_val _ _ _ (zA3 _),zA7 (zA3 _)])
     clear ho hD
     go_wp2_with (go_at_call 175; refine HT.out.mono ?_; rintro e w2 ⟨r,g2,cap2,rfl,hr1,hr2,hr3,hr4,hr5,hr6,hb2⟩)
     go_ret
     exact ⟨r,g2,cap2,rfl,hr1,by omega,hr3,hr4,hr5,hr6.trans HVal.out,below_on hB hb2⟩
end Go.Proofs.YteecbglmohhaeaaGreatDoor.F
namespace Go.Proofs.YteecbglmohhaeaaGreatDoor.F
open Go.RowKit
set_option maxHeartbeats 800000 in
theorem less_any (a b:List Nat) (ga oa ca gb ob cb:Nat) (W:World) (ha:Dig W ga oa a) (hb:Dig W gb ob b) (hla:a.length ≤ 900) (da:Dg a) (db:Dg b) (ta:Tr a) (tb:Tr b) :
   Calls Tryz.prog 150 #[.slice (some ⟨ga,oa,none⟩) a.length ca,.slice (some ⟨gb,ob,none⟩) b.length cb] W fun e W' => e = .returned (.bool (decide (val a < val b))) ∧ Below W.heap.size W W':=by
 by_cases hne:a.length = b.length
 · have hne2:(a.length:Int) = (b.length:Int):=by omega
   have HA:=Lib.hid (fun i => less_at a b i da hne)
   have HB:=Lib.hid (fun i => less_at b a i db hne.symm)
   have HD:=Lib.hid (fun i => @drop_same a b i hne)
   clear da db ta tb
   go_enter Tryz.func150,Tryz.ntmps150
   go_wp2
   go_loopw [5] (fun ix wr => ∃ n:Nat,n ≤ a.length ∧ ix = .int .i64 ((n:Int) - 1) ∧ Hid (a.drop n = b.drop n) ∧ Below W.heap.size W wr) (fun ix _ => (intOf ix + 1).toNat)
   case atStart => exact ⟨a.length,zA3 _,val_int (by omega),Lib.hid (by rw [zAW (zA3 _),zAW (by omega)]),Below.refl _ _⟩
   case round =>
     obtain ⟨n,hn,rfl,HS,hB⟩:=hrel
     cases n with
     | zero =>
       have HE:=Lib.hid (show a = b from HS.out)
       go_wp2
       go_ret
       exact ⟨ret1_of (by rw [HE.out]; simp),hB⟩
     | succ m =>
       have em:((m + 1:Nat):Int) - 1 = (m:Int):=by omega
       rw [em]
       have hX:=(ha.on hB) m (by omega)
       have hY:=(hb.on hB) m (by omega)
       have HA1:=Lib.hid (HA.out m (by omega) HS.out)
       have HB1:=Lib.hid (HB.out m (by omega) HS.out.symm)
       have HD1:=Lib.hid (HD.out m (by omega) HS.out)
       generalize a.getD m 0 = X at hX HA1 HB1 HD1
       generalize b.getD m 0 = Y at hY HA1 HB1 HD1
       by_cases hxy:X = Y
       · have HD2:=Lib.hid (HD1.out hxy)
         clear HA1 HB1 HD1
         subst hxy
         go_wp2_with fail
         go_quiet (fail)
         go_wp2_with fail
         go_roundw
         case rel => exact ⟨m,by omega,rfl,HD2,below_drawn hB nq⟩
         case measure => simp [intOf]
       · have hxy2:¬ (X:Int) = (Y:Int):=by omega
         have HE:Hid (decide (X < Y) = decide (val a < val b)):=Lib.hid (by
           by_cases h:X < Y
           · rw [decide_eq_true (HA1.out h),decide_eq_true h]
           · rw [decide_eq_false h,decide_eq_false (by have:=HB1.out (by omega); omega)])
         clear HA1 HB1 HD1
         go_wp2_with fail
         go_quiet (fail)
         go_wp2_with fail
         go_quiet (fail)
         go_wp2_with fail
         go_ret
         exact ⟨ret1_of (by rw [← HE.out]; rfl),below_drawn (below_drawn hB _) _⟩
 · have hne2:¬ (a.length:Int) = (b.length:Int):=by omega
   have HE:Hid (decide (a.length < b.length) = decide (val a < val b)):=Lib.hid (by
     by_cases h:a.length < b.length
     · rw [decide_eq_true (tr_shorter da tb h),decide_eq_true h]
     · rw [decide_eq_false h,decide_eq_false (by have:=tr_shorter db ta (by omega); omega)])
   go_enter Tryz.func150,Tryz.ntmps150
   go_wp2
   go_ret
   exact ⟨ret1_of (by rw [← HE.out]; rfl),Below.refl _ _⟩
theorem bor_pos {A B L:Nat} (h:¬ A < L + B):(A:Int) - L - B = ((A - L - B:Nat):Int):=by omega
theorem bor_neg {A B L:Nat} (hA:A < 65536) (hB:B < 65536) (hL:L ≤ 1):(A:Int) - L - B + 65536 = ((A + 65536 - L - B:Nat):Int):=by omega
set_option maxHeartbeats 1600000 in
theorem minus_any (a b:List Nat) (ga oa ca gb ob cb:Nat) (W:World) (ha:Dig W ga oa a) (hb:Dig W gb ob b) (hla:a.length ≤ 900) (da:Dg a) (db:Dg b) (hle:val b ≤ val a) :
   Calls Tryz.prog 153 #[.slice (some ⟨ga,oa,none⟩) a.length ca,.slice (some ⟨gb,ob,none⟩) b.length cb] W fun e W' => ∃ r g' cap',e = .returned (.slice (some ⟨g',0,none⟩) r.length cap') ∧ r.length ≤ cap' ∧ r.length ≤ a.length ∧ Dig W' g' 0 r ∧ Dg r ∧ Tr r ∧ val r = val a - val b ∧ Below W.heap.size W W':=by
 obtain ⟨i0,hi,hz0,hz1,hz2⟩:=info_parts info3
 have HE:=Lib.hid (bor_end da db hle)
 have HA:=Lib.hid da
 have HBd:=Lib.hid db
 clear da db hle
 go_enter Tryz.func153,Tryz.ntmps153
 go_wp2_with (at_make; refine wpList_make_full _ rfl _ _ 48 rfl W.heap.size 3 i0 (.int .i64 0) 1 Tryz.underlying48 hi hz0 hz1 _ _ _ _ a.length rfl rfl ?e1 ?e2 ?b2 ?b3 (zA3 _) ?_)
 case e1 => omega
 case e2 => omega
 case b2 => rw [hz2]; omega
 case b3 => unfold maxLen; omega
 intro w1 hown hgrow
 have hb1:Below W.heap.size W w1:=(Below.refl _ _).grown hgrow (zA3 _) (fun k hk => by cases hk)
 rw [made_zeros] at hown
 clear hgrow
 go_wp2_with fail
 go_loopw [6,14] (fun low ix wr => ∃ i:Nat,i ≤ a.length ∧ ix = .int .i64 i ∧ low = i64 (borN a b i) ∧ wr.ownsRow W.heap.size 3 1 (.slice (some ⟨W.heap.size,0,none⟩) a.length a.length) a.length ((borL a b i ++ List.replicate (a.length - i) 0).map i64) ∧ Below W.heap.size W wr) (fun _ ix _ => a.length - (intOf ix).toNat)
 case atStart => exact ⟨0,zAR _,rfl,rfl,hown,hb1⟩
 case round =>
   clear hown hb1
   obtain ⟨i,hi1,rfl,rfl,ho,hB⟩:=hrel
   by_cases hlt:i < a.length
   · have hF:=ho.frozenAt i
     have hO:=own_at ho i hlt
     have HO:=Lib.hid ho
     have HP:=Lib.hid (pre_set (borL a b i) a.length i (borD a b i) (borL_length a b i) hlt)
     have HS:=Lib.hid (borL_succ a b i)
     have HN:Hid (borN a b (i + 1) = if a.getD i 0 < borN a b i + b.getD i 0 then 1 else 0):=Lib.hid rfl
     have HD:Hid (borD a b i = if a.getD i 0 < borN a b i + b.getD i 0 then a.getD i 0 + 65536 - borN a b i - b.getD i 0 else a.getD i 0 - borN a b i - b.getD i 0):=Lib.hid rfl
     have hL:=borN_le a b i
     have hX:=(ha.on hB) i hlt
     have hX2:=HA.out.at i
     clear ho
     generalize (borL a b i ++ List.replicate (a.length - i) 0).getD i 0 = Z at hO
     by_cases hlt2:i < b.length
     · have hY:=(hb.on hB) i hlt2
       have hY2:=HBd.out.at i
       generalize a.getD i 0 = A at hX hX2 HN HD
       generalize b.getD i 0 = B at hY hY2 HN HD
       generalize borN a b i = L at hL HN HD
       have e1:IntKind.i64.wrap ((A:Int) - (L:Int)) = (A:Int) - L:=by rw [IntWalk.i64_in _ (by omega)]
       have e2:IntKind.i64.wrap ((A:Int) - (L:Int) - (B:Int)) = (A:Int) - L - B:=by rw [IntWalk.i64_in _ (by omega)]
       by_cases hbo:A < L + B
       · have hneg:(A:Int) - L - B < 0:=by omega
         have HQ:=Lib.hid (bor_neg hX2 hY2 hL)
         have e3:IntKind.i64.wrap ((A:Int) - (L:Int) - (B:Int) + 65536) = (A:Int) - L - B + 65536:=by rw [IntWalk.i64_in _ (by omega)]
         go_wp2_with fail
         go_roundw
         case rel => exact ⟨i + 1,by omega,by go_num,val_int (by rw [HN.out,if_pos hbo]; rfl),by rw [HS.out,← HP.out]; exact own_putv HO.out i _ _ (val_int (by rw [HD.out,if_pos hbo,← HQ.out])),hB.setCell (p:=⟨W.heap.size,i,none⟩) (zA3 _) _⟩
         case measure => simp [intOf]; omega
       · have hneg:¬ (A:Int) - L - B < 0:=by omega
         have HQ:=Lib.hid (bor_pos hbo)
         go_wp2_with fail
         go_roundw
         case rel => exact ⟨i + 1,by omega,by go_num,val_int (by rw [HN.out,if_neg hbo]; rfl),by rw [HS.out,← HP.out]; exact own_putv HO.out i _ _ (val_int (by rw [HD.out,if_neg hbo,← HQ.out])),hB.setCell (p:=⟨W.heap.size,i,none⟩) (zA3 _) _⟩
         case measure => simp [intOf]; omega
     · rw [getD_past hlt2] at HN HD
       generalize a.getD i 0 = A at hX hX2 HN HD
       generalize borN a b i = L at hL HN HD
       have e1:IntKind.i64.wrap ((A:Int) - (L:Int)) = (A:Int) - L:=by rw [IntWalk.i64_in _ (by omega)]
       by_cases hbo:A < L + 0
       · have hneg:(A:Int) - L < 0:=by omega
         have HQ:=Lib.hid (bor_neg hX2 (B:=0) (by omega) hL)
         have e3:IntKind.i64.wrap ((A:Int) - (L:Int) + 65536) = (A:Int) - L + 65536:=by rw [IntWalk.i64_in _ (by omega)]
         go_wp2_with fail
         go_roundw
         case rel => exact ⟨i + 1,by omega,by go_num,val_int (by rw [HN.out,if_pos hbo]; rfl),by rw [HS.out,← HP.out]; exact own_putv HO.out i _ _ (val_int (by rw [HD.out,if_pos hbo,← HQ.out]; omega)),hB.setCell (p:=⟨W.heap.size,i,none⟩) (zA3 _) _⟩
         case measure => simp [intOf]; omega
       · have hneg:¬ (A:Int) - L < 0:=by omega
         have HQ:=Lib.hid (bor_pos (B:=0) hbo)
         go_wp2_with fail
         go_roundw
         case rel => exact ⟨i + 1,by omega,by go_num,val_int (by rw [HN.out,if_neg hbo]; rfl),by rw [HS.out,← HP.out]; exact own_putv HO.out i _ _ (val_int (by rw [HD.out,if_neg hbo,← HQ.out]; omega)),hB.setCell (p:=⟨W.heap.size,i,none⟩) (zA3 _) _⟩
         case measure => simp [intOf]; omega
   · obtain rfl:i = a.length:=by omega
     rw [zB8,zCE,zB6] at ho
     have hD:=own_dig ho
     have hlen:=borL_length a b a.length
     have HT:=Lib.hid (trim_any (borL a b a.length) W.heap.size 0 a.length wr hD (by omega) (by omega))
     rw [hlen] at HT
     have hle:=trimL_le (borL a b a.length)
     clear ho
     go_wp2_with (go_at_call 148; refine HT.out.mono ?_; rintro e w2 ⟨rfl,rfl⟩)
     go_ret
     exact ⟨trimL (borL a b a.length),_,_,rfl,by omega,by omega,hD.take _,(borL_dg HA.out HBd.out _).trim,trim_tr _,(val_trim _).trans HE.out,hB⟩
end Go.Proofs.YteecbglmohhaeaaGreatDoor.F
namespace Go.Proofs.YteecbglmohhaeaaGreatDoor.F
open Go.RowKit
set_option maxHeartbeats 800000 in
theorem prime_any (W:World) :
   Calls Tryz.prog 151 #[] W fun e W' => ∃ g cap,e = .returned (.slice (some ⟨g,0,none⟩) 16 cap) ∧ 16 ≤ cap ∧ Dig W' g 0 primeL ∧ Below W.heap.size W W':=by
 obtain ⟨i0,hi,hz0,hz1,hz2⟩:=info_parts info3
 go_enter Tryz.func151,Tryz.ntmps151
 go_wp2_with (at_make; refine wpList_make_full _ rfl _ _ 48 rfl W.heap.size 3 i0 (.int .i64 0) 1 Tryz.underlying48 hi hz0 hz1 _ _ _ _ 16 rfl rfl ?e1 ?e2 ?b2 ?b3 (zA3 _) ?_)
 case e1 => omega
 case e2 => omega
 case b2 => rw [hz2]; omega
 case b3 => unfold maxLen; omega
 intro w1 hown hgrow
 have hb1:Below W.heap.size W w1:=(Below.refl _ _).grown hgrow (zA3 _) (fun k hk => by cases hk)
 rw [made_zeros] at hown
 clear hgrow
 go_wp2_with fail
 go_loopw [6] (fun ix wr => ∃ i:Nat,i ≤ 16 ∧ ix = .int .i64 i ∧ wr.ownsRow W.heap.size 3 1 (.slice (some ⟨W.heap.size,0,none⟩) 16 16) 16 ((List.replicate i 65535 ++ List.replicate (16 - i) 0).map i64) ∧ Below W.heap.size W wr) (fun ix _ => 16 - (intOf ix).toNat)
 case atStart => exact ⟨0,zAR _,rfl,hown,hb1⟩
 case round =>
   clear hown hb1
   obtain ⟨i,hi1,rfl,ho,hB⟩:=hrel
   by_cases hlt:i < 16
   · have hF:=ho.frozenAt i
     have hO:=own_at ho i hlt
     have HO:=Lib.hid ho
     have HP:=Lib.hid (pre_set (List.replicate i 65535) 16 i 65535 (by simp) hlt)
     have HS:Hid (List.replicate (i + 1) 65535 = List.replicate i 65535 ++ [65535]):=Lib.hid (by rw [List.replicate_succ'])
     clear ho
     generalize (List.replicate i 65535 ++ List.replicate (16 - i) 0).getD i 0 = Z at hO
     go_wp2_with fail
     go_roundw
     case rel => exact ⟨i + 1,by omega,by go_num,by rw [HS.out,← HP.out]; exact own_putv HO.out i _ _ rfl,hB.setCell (p:=⟨W.heap.size,i,none⟩) (zA3 _) _⟩
     case measure => simp [intOf]; omega
   · obtain rfl:i = 16:=by omega
     have hF0:=ho.frozenAt 0
     have hF15:=ho.frozenAt 15
     have hO0:=own_at ho 0 (by decide)
     have hO15:=own_at ho 15 (by decide)
     have HO:=Lib.hid ho
     clear ho
     generalize (List.replicate 16 65535 ++ List.replicate (16 - 16) 0).getD 0 0 = Z0 at hO0
     generalize (List.replicate 16 65535 ++ List.replicate (16 - 16) 0).getD 15 0 = Z15 at hO15
     go_wp2_with fail
     go_ret
     exact ⟨_,_,rfl,zA3 _,own_dig (own_putv (own_putv HO.out 0 65517 _ rfl) 15 32767 _ rfl),(hB.setCell (p:=⟨W.heap.size,0,none⟩) (zA3 _) _).setCell (p:=⟨W.heap.size,15,none⟩) (zA3 _) _⟩
end Go.Proofs.YteecbglmohhaeaaGreatDoor.F
namespace Go.Proofs.YteecbglmohhaeaaGreatDoor.F
open Go.RowKit
theorem fold_step (l:List Nat) (r:List Nat) (h16:16 < l.length) (ht:Tr l) (hr:val r = val (l.take 16) + val (l.drop 16) * 38):val r % p25 = val l % p25 ∧ val r < val l:=by
 have h1:=val_split l 16 (by omega)
 obtain ⟨n,hn⟩:∃ n,l.length = n + 1:=⟨l.length - 1,by omega⟩
 have h2:Tr (l.drop 16):=fun k hk => by
   rw [zB4] at hk
   rw [zA4,zBF,← zA4]
   exact ht (16 + k) (by omega)
 have h3:=h2.ge (n - 16) (by rw [zB4]; omega)
 have h4:1 ≤ 65536 ^ (n - 16):=Nat.pow_pos (by decide)
 have e:(65536:Nat) ^ 16 = 38 + 2 * p25:=by decide +kernel
 rw [e,zCR] at h1
 generalize val (l.drop 16) = H at *
 generalize val (l.take 16) = L at *
 have hp:1 ≤ p25:=by decide
 have h5:2 * p25 * H = p25 * (2 * H):=by rw [zAV 2 p25,zAY]
 rw [h5] at h1
 refine ⟨?_,?_⟩
 · rw [hr,h1,show L + (38 * H + p25 * (2 * H)) = (L + H * 38) + p25 * (2 * H) by rw [zAV 38 H]; omega,zAX]
 · have h6:p25 * 1 ≤ p25 * (2 * H):=zC9 _ (by omega)
   omega
set_option maxHeartbeats 1600000 in
theorem fold_any (d:List Nat) (g o cap:Nat) (W:World) (hd:Dig W g o d) (hl:d.length ≤ 100) (hc:d.length ≤ cap) (dd:Dg d) :
   Calls Tryz.prog 155 #[.slice (some ⟨g,o,none⟩) d.length cap] W fun e W' => e = .returned (fe (val d % p25)) ∧ Below W.heap.size W W':=by
 have HT:=Lib.hid (fun w hd => trim_any d g o cap w hd (by omega) hc)
 have HD:=Lib.hid dd
 go_enter Tryz.func155,Tryz.ntmps155
 go_wp2_with (go_at_call 148; refine (HT.out _ (hd.on ((Below.refl _ W).alloc (zA3 _) _))).mono ?_; rintro e w1 ⟨rfl,rfl⟩)
 go_loopw [0] (fun dx wr => ∃ (l:List Nat) (g o cap:Nat),dx = .slice (some ⟨g,o,none⟩) l.length cap ∧ l.length ≤ cap ∧ l.length ≤ 100 ∧ Dig wr g o l ∧ Dg l ∧ Tr l ∧ Hid (val l % p25 = val d % p25) ∧ Lies wr W.heap.size 66 #[w64 0,w64 0,w64 0,w64 0] ∧ Below W.heap.size W wr) (fun dx wr => readV dx wr)
 case atStart => exact ⟨trimL d,g,o,cap,rfl,zB (trimL_le d) hc,zB (trimL_le d) hl,(hd.on ((Below.refl _ W).alloc (zA3 _) _)).take _,HD.out.trim,trim_tr d,Lib.hid (by rw [val_trim]),heap_alloc_new W _,(Below.refl _ W).alloc (zA3 _) _⟩
 case round =>
   clear hd HT
   obtain ⟨l,g,o,cap,rfl,hc,hl,hd,dl,tl,HV,hr,hB⟩:=hrel
   have hsz:=hB.size
   by_cases h16:16 < l.length
   · have hl16:(l.drop 16).length = l.length - 16:=zB4
     have ht16:(l.take 16).length = 16:=by rw [zAM]; omega
     have hba:Below wr.heap.size wr (wr.alloc (.cells #[Value.int .i64 38] 3)):=(Below.refl _ wr).alloc (zA3 _) _
     have hd38:Dig (wr.alloc (.cells #[Value.int .i64 38] 3)) wr.heap.size 0 [38]:=fun i hi => by
       obtain rfl:i = 0:=by simpa using hi
       exact (Lies.new wr 3 #[Value.int .i64 38]).cell 0
     have HT1:=Lib.hid (times_any (l.drop 16) [38] g (o + 16) (cap - 16) wr.heap.size 0 1 _ ((hd.on hba).drop 16) hd38 (by omega) (by decide) (dl.drop 16) (by unfold Dg; simp))
     rw [hl16] at HT1
     have HT2:=Lib.hid (fun w (h:Dig w g o l) => trim_any (l.take 16) g o cap w (h.take 16) (by omega) (by omega))
     rw [ht16] at HT2
     have hlt:=trimL_le (l.take 16)
     rw [ht16] at hlt
     have hrd:=readV_dig (cap:=cap) hd
     have HF:=Lib.hid (fun r => fold_step l r h16 tl)
     have HTr:=Lib.hid (val_trim (l.take 16))
     have HDt:=Lib.hid ((dl.take 16).trim)
     have HDl:=Lib.hid dl
     clear dl tl
     go_wp2_with (first
       | (go_at_call 160; refine HT1.out.mono ?_; rintro e w1 ⟨r1,g1,cap1,rfl,a1,a2,a3,a4,a5,a6,hb1⟩; replace a2:r1.length ≤ l.length - 16 + 1 + 4:=a2)
       | (go_at_call 148; refine (HT2.out _ (hd.on (hba.trans (hb1.mono hba.size)))).mono ?_; rintro e w2 ⟨rfl,rfl⟩)
       | (go_at_call 156; refine (plus_any (trimL (l.take 16)) r1 g o cap g1 0 cap1 _ (((hd.on (hba.trans (hb1.mono hba.size))).take 16).take _) a3 (by omega) (by omega) HDt.out a4).mono ?_; rintro e w3 ⟨r3,g3,cap3,rfl,c1,c2,c3,c4,c5,c6,hb3⟩))
     have hv3:val r3 = val (l.take 16) + val (l.drop 16) * 38:=by rw [c6,a6,HTr.out]; rfl
     have hf3:=HF.out r3 hv3
     have hb4:Below wr.heap.size wr w3:=below_on (below_on hba hb1) hb3
     have hl3:=shorter c5 HDl.out (Nat.le_of_lt hf3.2)
     go_roundw
     case rel => exact ⟨r3,g3,0,cap3,rfl,c1,by omega,c3,c4,c5,Lib.hid (hf3.1.trans HV.out),hr.on hb4,below_on hB hb4⟩
     case measure => rw [readV_dig c3,hrd]; exact hf3.2
   · have HDl:=Lib.hid dl
     have HTl:=Lib.hid tl
     clear dl tl
     go_wp2_with (go_at_call 151; refine (prime_any _).mono ?_; rintro e w1 ⟨gp,capp,rfl,p1,hp,hb1⟩)
     go_loopw [0] (fun dx wr => ∃ (l:List Nat) (g o cap:Nat),dx = .slice (some ⟨g,o,none⟩) l.length cap ∧ l.length ≤ 16 ∧ Dig wr g o l ∧ Dg l ∧ Tr l ∧ Hid (val l % p25 = val d % p25) ∧ Dig wr gp 0 primeL ∧ Lies wr W.heap.size 66 #[w64 0,w64 0,w64 0,w64 0] ∧ Below W.heap.size W wr) (fun dx wr => readV dx wr)
     case atStart => exact ⟨l,g,o,cap,rfl,by omega,hd.on hb1,HDl.out,HTl.out,HV,hp,hr.on hb1,below_on hB hb1⟩
     case round =>
       clear hd hr hB HV HDl HTl hp hb1 hsz
       obtain ⟨l,g,o,cap,rfl,hl,hd,dl,tl,HV,hp,hr,hB⟩:=hrel
       have hrd:=readV_dig (cap:=cap) hd
       have HLs:=Lib.hid (less_any l primeL g o cap gp 0 capp wr hd hp (by omega) dl prime_dg tl prime_tr)
       have hpp:primeL.length = 16:=rfl
       rw [hpp,prime_val] at HLs
       by_cases hlt:val l < p25
       · rw [decide_eq_true hlt] at HLs
         have HVal:=Lib.hid (zAB hlt ▸ HV.out:val l = val d % p25)
         have HW:=Lib.hid (fun w (h:Dig w g o l) => words_any l g o cap w h hl dl)
         clear hlt dl tl
         go_wp2_with (first
           | (go_at_call 150; refine HLs.out.mono ?_; rintro e w2 ⟨rfl,hb2⟩)
           | (go_at_call 149; refine (HW.out _ (hd.on hb2)).mono ?_; rintro e w3 ⟨rfl,hb3⟩; have hr3:=(hr.on hb2).on hb3)
           | ((with_reducible refine wpL_store W.heap.size 66 _ (feA (val l)) 4 row4 rfl (feA_size _) (feA_one _) hr3 ?_ ?_ ?_); rfl; rfl))
         exact bodyPost_ret (results_row Tryz.results155 row4 (feA_size _) (hr3.row _) rfl) rfl ⟨by rw [HVal.out],below_rowSet (below_on (below_on hB hb2) hb3) (zA3 _) _⟩
       · rw [decide_eq_false hlt] at HLs
         have HM:=Lib.hid (fun w (h:Dig w g o l) (hp:Dig w gp 0 primeL) => minus_any l primeL g o cap gp 0 capp w h hp (by omega) dl prime_dg (by rw [prime_val]; omega))
         rw [hpp,prime_val] at HM
         clear dl tl
         go_wp2_with (first
           | (go_at_call 150; refine HLs.out.mono ?_; rintro e w2 ⟨rfl,hb2⟩)
           | (go_at_call 153; refine (HM.out _ (hd.on hb2) (hp.on hb2)).mono ?_; rintro e w3 ⟨r3,g3,cap3,rfl,c1,c2,c3,c4,c5,c6,hb3⟩))
         have hp25:0 < p25:=by decide
         have hb4:=below_on hb2 hb3
         have hv4:val r3 % p25 = val l % p25:=by rw [c6,← Nat.mod_eq_sub_mod (by omega)]
         go_roundw
         case rel => exact ⟨r3,g3,0,cap3,rfl,by omega,c3,c4,c5,Lib.hid (hv4.trans HV.out),hp.on hb4,hr.on hb4,below_on hB hb4⟩
         case measure => rw [readV_dig c3,hrd,c6]; omega
end Go.Proofs.YteecbglmohhaeaaGreatDoor.F
