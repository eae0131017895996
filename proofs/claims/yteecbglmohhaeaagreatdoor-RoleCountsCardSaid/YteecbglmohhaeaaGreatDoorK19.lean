import Derived.Test.YteecbglmohhaeaaGreatDoorK18
import Derived.ChangeOld
import Derived.ChangeSame
import Derived.Deep.Slices
import Derived.Deep.Strs
import Derived.LaidMore
import Derived.OpenShut
import Derived.ProofKit
import Derived.ShutString
import Derived.Stop.Joined
import Derived.Test.YteecbglmohhaeaaGreatDoorRows
set_option maxRecDepth 100000
open List renaming getD_eq_getElem?_getD → zA4, getElem?_drop → zBF, getElem?_eq_getElem → zA5, getElem?_map → zAD, getElem?_take → zC0, length_map → zAG
open Nat renaming add_zero → zAZ, eq_zero_or_pos → zC, mul_one → zBO
open Option renaming map_some → zBW
namespace Go.Proofs.YteecbglmohhaeaaGreatDoor.C
open Go.Proofs.YteecbglmohhaeaaGreatDoor.F
open Go.ChangeShapes Go.WideShapes Go.ChangeAt Go.RowKit
theorem cellsU64:Tryz.prog.cellsOf 65 = 1:=by kernel_rfl
end Go.Proofs.YteecbglmohhaeaaGreatDoor.C
namespace Go.Proofs.YteecbglmohhaeaaGreatDoor.C
open Go.Proofs.YteecbglmohhaeaaGreatDoor.F
open Go.ChangeShapes Go.WideShapes Go.ChangeAt Go.RowKit
theorem arr_cells {W:World} {name:String} {g t n fuel:Nat} {cs:Array Value} {p:List MemPlace} (L:List Nat) (hg:Tryz.prog.globalNamed name = some g) (ht:Tryz.prog.underlying t = some (.array n 65)) (hv:W.var? Tryz.prog name = some cs)
   (hd:DataW.trod (fun _ => ()) Tryz.prog W 0 (fun _ => true) false fuel t cs.toList = some (.agg (L.map fun x:Nat => .lit (.int .u64 (x:Int))),p)) (hn:L.length = n) :
   ∀ i,i < n → W.cell? ⟨g,i,none⟩ = some (w64 (L.getD i 0)):=by
 intro i hi
 obtain ⟨xs,m,rfl,hx,_,hxn,hel⟩:=DataW.trod_array ht hd
 have h1:=hel i hi
 simp only [Prod.mk.injEq,DataW.agg.injEq] at hx
 have hxi:xs[i]? = some (xs[i]'(by omega)):=zA5 (by omega)
 rw [hxi,cellsU64,zBO] at h1
 obtain ⟨k,e1,e2,_⟩:=DataW.trod_int Tryz.underlying65 h1
 have h2:(xs.map (·.1))[i]? = some (.lit (.int .u64 k)):=by rw [zAD,hxi,e2]; rfl
 rw [← hx.1,zAD] at h2
 have hLi:L[i]? = some (L[i]'(by omega)):=zA5 (by omega)
 rw [hLi] at h2
 simp only [zBW,Option.some.injEq,DataW.lit.injEq,Lit.int.injEq,true_and] at h2
 rw [World.var?_cell hg hv i,← Array.getElem?_toList]
 have h3:((cs.toList.drop i).take 1)[0]? = some (.int .u64 k):=by rw [e1]; rfl
 rw [zC0,if_pos (by decide),zBF,zAZ] at h3
 rw [h3,← h2,zA4,hLi]
 rfl
theorem g_pr:Tryz.prog.globalNamed "imprimatur/field.prime" = some 6:=by kernel_rfl
theorem t_pr:(Tryz.prog.globals[6]?).map (·.type) = some 72:=by kernel_rfl
def w_pr:List Nat:=[18446744073709551597,18446744073709551615,18446744073709551615,9223372036854775807]
theorem a_pr (i:Nat) (h:i < 4):w_pr.getD i 0 = wordN p25 i:=by
 match i,h with
 | 0,_ | 1,_ | 2,_ | 3,_ => decide
theorem g_ro:Tryz.prog.globalNamed "imprimatur/field.rootOfMinusOne" = some 7:=by kernel_rfl
theorem t_ro:(Tryz.prog.globals[7]?).map (·.type) = some 72:=by kernel_rfl
def w_ro:List Nat:=[14190309331451158704,3405592160176694392,3120150775007532967,3135389899092516619]
theorem a_ro (i:Nat) (h:i < 4):w_ro.getD i 0 = wordN i25 i:=by
 match i,h with
 | 0,_ | 1,_ | 2,_ | 3,_ => decide
theorem g_dd:Tryz.prog.globalNamed "imprimatur/point.d" = some 1:=by kernel_rfl
theorem t_dd:(Tryz.prog.globals[1]?).map (·.type) = some 72:=by kernel_rfl
def w_dd:List Nat:=[8496970652267935907,31536524315187371,10144147576115030168,5909686906226998899]
theorem a_dd (i:Nat) (h:i < 4):w_dd.getD i 0 = wordN dN i:=by
 match i,h with
 | 0,_ | 1,_ | 2,_ | 3,_ => decide
theorem g_bx:Tryz.prog.globalNamed "imprimatur/point.baseX" = some 4:=by kernel_rfl
theorem t_bx:(Tryz.prog.globals[4]?).map (·.type) = some 72:=by kernel_rfl
def w_bx:List Nat:=[14507833142362363162,7578651490590762930,13881468655802702940,2407515759118799870]
theorem a_bx (i:Nat) (h:i < 4):w_bx.getD i 0 = wordN bxN i:=by
 match i,h with
 | 0,_ | 1,_ | 2,_ | 3,_ => decide
theorem g_by:Tryz.prog.globalNamed "imprimatur/point.baseY" = some 5:=by kernel_rfl
theorem t_by:(Tryz.prog.globals[5]?).map (·.type) = some 72:=by kernel_rfl
def w_by:List Nat:=[7378697629483820632,7378697629483820646,7378697629483820646,7378697629483820646]
theorem a_by (i:Nat) (h:i < 4):w_by.getD i 0 = wordN byN i:=by
 match i,h with
 | 0,_ | 1,_ | 2,_ | 3,_ => decide
theorem g_or:Tryz.prog.globalNamed "imprimatur/scalar.order" = some 9:=by kernel_rfl
theorem t_or:(Tryz.prog.globals[9]?).map (·.type) = some 67:=by kernel_rfl
def w_or:List Nat:=[6346243789798364141,1503914060200516822,0,1152921504606846976]
theorem a_or (i:Nat) (h:i < 4):w_or.getD i 0 = wordN G.l25 i:=by
 match i,h with
 | 0,_ | 1,_ | 2,_ | 3,_ => decide
end Go.Proofs.YteecbglmohhaeaaGreatDoor.C
namespace Go.Proofs.YteecbglmohhaeaaGreatDoor.T
open Go.ChangeShapes Go.WideShapes Go.ChangeAt Go.RowKit
theorem cells25:Tryz.prog.cellsOf 65 = 1:=by kernel_rfl
theorem arr_cells {W:World} {name:String} {g t n fuel:Nat} {cs:Array Value} {p:List MemPlace} (L:List Nat) (hg:Tryz.prog.globalNamed name = some g) (ht:Tryz.prog.underlying t = some (.array n 65)) (hv:W.var? Tryz.prog name = some cs)
   (hd:DataW.trod (fun _ => ()) Tryz.prog W 0 (fun _ => true) false fuel t cs.toList = some (.agg (L.map fun x:Nat => .lit (.int .u64 (x:Int))),p)) (hn:L.length = n) :
   ∀ i,i < n → W.cell? ⟨g,i,none⟩ = some (w64 (L.getD i 0)):=by
 intro i hi
 obtain ⟨xs,m,rfl,hx,_,hxn,hel⟩:=DataW.trod_array ht hd
 have h1:=hel i hi
 simp only [Prod.mk.injEq,DataW.agg.injEq] at hx
 have hxi:xs[i]? = some (xs[i]'(by omega)):=zA5 (by omega)
 rw [hxi,cells25,zBO] at h1
 obtain ⟨k,e1,e2,_⟩:=DataW.trod_int Tryz.underlying65 h1
 have h2:(xs.map (·.1))[i]? = some (.lit (.int .u64 k)):=by rw [zAD,hxi,e2]; rfl
 rw [← hx.1,zAD] at h2
 have hLi:L[i]? = some (L[i]'(by omega)):=zA5 (by omega)
 rw [hLi] at h2
 simp only [zBW,Option.some.injEq,DataW.lit.injEq,Lit.int.injEq,true_and] at h2
 rw [World.var?_cell hg hv i,← Array.getElem?_toList]
 have h3:((cs.toList.drop i).take 1)[0]? = some (.int .u64 k):=by rw [e1]; rfl
 rw [zC0,if_pos (by decide),zBF,zAZ] at h3
 rw [h3,← h2,zA4,hLi]
 rfl
theorem gSq:Tryz.prog.globalNamed "imprimatur/sha512.squareRoots" = some 3:=by kernel_rfl
theorem gCu:Tryz.prog.globalNamed "imprimatur/sha512.cubeRoots" = some 8:=by kernel_rfl
theorem tSq:(Tryz.prog.globals[3]?).map (·.type) = some 106:=by kernel_rfl
theorem tCu:(Tryz.prog.globals[8]?).map (·.type) = some 198:=by kernel_rfl
def sq:List Nat:=[h0.a,h0.b,h0.c,h0.d,h0.e,h0.f,h0.g,h0.h]
theorem sq_at (i:Nat) (h:i < 8):sq.getD i 0 = h0.at i:=by
 match i,h with
 | 0,_ | 1,_ | 2,_ | 3,_ | 4,_ | 5,_ | 6,_ | 7,_ => rfl
end Go.Proofs.YteecbglmohhaeaaGreatDoor.T
namespace Go.Proofs.YteecbglmohhaeaaGreatDoor.U
open Go.ChangeShapes Go.WideShapes Go.ChangeAt Go.RowKit
theorem rowOwn:ownKnob Tryz.prog.godebug = none:=by kernel_rfl
theorem rowLaid:laidOutB Tryz.prog = true:=by kernel_rfl
theorem cells25:Tryz.prog.cellsOf 88 = 1:=by kernel_rfl
theorem arr_cells {W:World} {name:String} {g t n fuel:Nat} {cs:Array Value} {p:List MemPlace} (L:List Nat) (hg:Tryz.prog.globalNamed name = some g) (ht:Tryz.prog.underlying t = some (.array n 88)) (hv:W.var? Tryz.prog name = some cs)
   (hd:DataW.trod (fun _ => ()) Tryz.prog W 0 (fun _ => true) false fuel t cs.toList = some (.agg (L.map fun x:Nat => .lit (.int .u32 (x:Int))),p)) (hn:L.length = n) :
   ∀ i,i < n → W.cell? ⟨g,i,none⟩ = some (u32 (L.getD i 0)):=by
 intro i hi
 obtain ⟨xs,m,rfl,hx,_,hxn,hel⟩:=DataW.trod_array ht hd
 have h1:=hel i hi
 simp only [Prod.mk.injEq,DataW.agg.injEq] at hx
 have hxi:xs[i]? = some (xs[i]'(by omega)):=zA5 (by omega)
 rw [hxi,cells25,zBO] at h1
 obtain ⟨k,e1,e2,_⟩:=DataW.trod_int Tryz.underlying88 h1
 have h2:(xs.map (·.1))[i]? = some (.lit (.int .u32 k)):=by rw [zAD,hxi,e2]; rfl
 rw [← hx.1,zAD] at h2
 have hLi:L[i]? = some (L[i]'(by omega)):=zA5 (by omega)
 rw [hLi] at h2
 simp only [zBW,Option.some.injEq,DataW.lit.injEq,Lit.int.injEq,true_and] at h2
 rw [World.var?_cell hg hv i,← Array.getElem?_toList]
 have h3:((cs.toList.drop i).take 1)[0]? = some (.int .u32 k):=by rw [e1]; rfl
 rw [zC0,if_pos (by decide),zBF,zAZ] at h3
 rw [h3,← h2,zA4,hLi]
 rfl
theorem gSq:Tryz.prog.globalNamed "imprimatur/sha256.squareRoots" = some 0:=by kernel_rfl
theorem gCu:Tryz.prog.globalNamed "imprimatur/sha256.cubeRoots" = some 2:=by kernel_rfl
theorem tSq:(Tryz.prog.globals[0]?).map (·.type) = some 89:=by kernel_rfl
theorem tCu:(Tryz.prog.globals[2]?).map (·.type) = some 156:=by kernel_rfl
def sq:List Nat:=[h0.a,h0.b,h0.c,h0.d,h0.e,h0.f,h0.g,h0.h]
theorem sq_at (i:Nat) (h:i < 8):sq.getD i 0 = h0.at i:=by
 match i,h with
 | 0,_ | 1,_ | 2,_ | 3,_ | 4,_ | 5,_ | 6,_ | 7,_ => rfl
end Go.Proofs.YteecbglmohhaeaaGreatDoor.U
namespace Go.Proofs.YteecbglmohhaeaaGreatDoor.O
open Go.ChangeShapes Go.WideShapes Go.ChangeAt Go.RowKit Go.Proofs.YteecbglmohhaeaaGreatDoor.F Go.Proofs.YteecbglmohhaeaaGreatDoor.C
abbrev laidO:List (String × DataW Unit):=[("imprimatur/field.rootOfMinusOne",Rows.laid_imprimatur_field_rootOfMinusOne),("imprimatur/field.prime",Rows.laid_imprimatur_field_prime),("imprimatur/point.d",Rows.laid_imprimatur_point_d),("imprimatur/point.baseX",Rows.laid_imprimatur_point_baseX),("imprimatur/point.baseY",Rows.laid_imprimatur_point_baseY),("imprimatur/scalar.order",Rows.laid_imprimatur_scalar_order),("imprimatur/sha256.squareRoots",Rows.laid_imprimatur_sha256_squareRoots),("imprimatur/sha256.cubeRoots",Rows.laid_imprimatur_sha256_cubeRoots),("imprimatur/sha512.squareRoots",Rows.laid_imprimatur_sha512_squareRoots),("imprimatur/sha512.cubeRoots",Rows.laid_imprimatur_sha512_cubeRoots)]
theorem tabO_of_laid {W:World} (h:laidMetH Tryz.prog laidO W):U.Tab W ∧ E.EdTab2 W:=by
 rw [MakeChecks.laidMetH_plain _ _ _ (by kernel_rfl)] at h
 obtain ⟨ps,⟨g0,t0,cs0,f0,p0,q0,hg0,ht0,hv0,hd0,⟨g1,t1,cs1,f1,p1,q1,hg1,ht1,hv1,hd1,⟨g2,t2,cs2,f2,p2,q2,hg2,ht2,hv2,hd2,⟨g3,t3,cs3,f3,p3,q3,hg3,ht3,hv3,hd3,⟨g4,t4,cs4,f4,p4,q4,hg4,ht4,hv4,hd4,⟨g5,t5,cs5,f5,p5,q5,hg5,ht5,hv5,hd5,⟨g6,t6,cs6,f6,p6,q6,hg6,ht6,hv6,hd6,⟨g7,t7,cs7,f7,p7,q7,hg7,ht7,hv7,hd7,⟨g8,t8,cs8,f8,p8,q8,hg8,ht8,hv8,hd8,⟨g9,t9,cs9,f9,p9,q9,hg9,ht9,hv9,hd9,_,_⟩,_⟩,_⟩,_⟩,_⟩,_⟩,_⟩,_⟩,_⟩,_⟩,_⟩:=h
 obtain rfl:=Option.some.inj (C.g_ro.symm.trans hg0)
 obtain rfl:=Option.some.inj (C.g_pr.symm.trans hg1)
 obtain rfl:=Option.some.inj (C.g_dd.symm.trans hg2)
 obtain rfl:=Option.some.inj (C.g_bx.symm.trans hg3)
 obtain rfl:=Option.some.inj (C.g_by.symm.trans hg4)
 obtain rfl:=Option.some.inj (C.g_or.symm.trans hg5)
 obtain rfl:=Option.some.inj (U.gSq.symm.trans hg6)
 obtain rfl:=Option.some.inj (U.gCu.symm.trans hg7)
 obtain rfl:=Option.some.inj (T.gSq.symm.trans hg8)
 obtain rfl:=Option.some.inj (T.gCu.symm.trans hg9)
 obtain rfl:=Option.some.inj (C.t_ro.symm.trans ht0)
 obtain rfl:=Option.some.inj (C.t_pr.symm.trans ht1)
 obtain rfl:=Option.some.inj (C.t_dd.symm.trans ht2)
 obtain rfl:=Option.some.inj (C.t_bx.symm.trans ht3)
 obtain rfl:=Option.some.inj (C.t_by.symm.trans ht4)
 obtain rfl:=Option.some.inj (C.t_or.symm.trans ht5)
 obtain rfl:=Option.some.inj (U.tSq.symm.trans ht6)
 obtain rfl:=Option.some.inj (U.tCu.symm.trans ht7)
 obtain rfl:=Option.some.inj (T.tSq.symm.trans ht8)
 obtain rfl:=Option.some.inj (T.tCu.symm.trans ht9)
 have c_ro:VarN 7 i25 W:=fun i hi => by rw [← C.a_ro i hi]; exact C.arr_cells C.w_ro C.g_ro Tryz.underlying72 hv0 hd0 rfl i hi
 have c_pr:VarN 6 p25 W:=fun i hi => by rw [← C.a_pr i hi]; exact C.arr_cells C.w_pr C.g_pr Tryz.underlying72 hv1 hd1 rfl i hi
 have c_dd:VarN 1 dN W:=fun i hi => by rw [← C.a_dd i hi]; exact C.arr_cells C.w_dd C.g_dd Tryz.underlying72 hv2 hd2 rfl i hi
 have c_bx:VarN 4 bxN W:=fun i hi => by rw [← C.a_bx i hi]; exact C.arr_cells C.w_bx C.g_bx Tryz.underlying72 hv3 hd3 rfl i hi
 have c_by:VarN 5 byN W:=fun i hi => by rw [← C.a_by i hi]; exact C.arr_cells C.w_by C.g_by Tryz.underlying72 hv4 hd4 rfl i hi
 have c_or:VarN 9 G.l25 W:=fun i hi => by rw [← C.a_or i hi]; exact C.arr_cells C.w_or C.g_or Tryz.underlying67 hv5 hd5 rfl i hi
 have c_sq2:=U.arr_cells U.sq U.gSq Tryz.underlying89 hv6 hd6 rfl
 have c_cu2:=U.arr_cells U.ks U.gCu Tryz.underlying156 hv7 hd7 rfl
 have c_sq5:=T.arr_cells T.sq T.gSq Tryz.underlying106 hv8 hd8 rfl
 have c_cu5:=T.arr_cells T.ks T.gCu Tryz.underlying198 hv9 hd9 rfl
 have h1:U.Tab W:=⟨fun i hi => by rw [← U.sq_at i hi]; exact c_sq2 i hi,c_cu2⟩
 have h2:E.EdTab W:=⟨⟨fun i hi => by rw [← T.sq_at i hi]; exact c_sq5 i hi,c_cu5⟩,c_or,⟨c_pr,c_dd,c_bx,c_by⟩⟩
 exact ⟨h1,h2,c_ro⟩
theorem door_metO (os:Os) (args:Array Value):laidMetH Tryz.prog laidO ((World.doorLaid Tryz.prog 400 os).forCall (fun _ _ => 0) ⟨#[],args,[]⟩).memory:=
 laidMetH_of_parts3 (fuel:=8) (laidMet_of_run' 8 (by kernel_rfl) (by kernel_rfl)) (by kernel_rfl) (by kernel_rfl)
end Go.Proofs.YteecbglmohhaeaaGreatDoor.O
namespace Go.Proofs.YteecbglmohhaeaaGreatDoor.O
open Go.ChangeShapes Go.WideShapes Go.ChangeAt Go.RowKit
open V (Lies OwnL RowL)
theorem cellsK2:Tryz.prog.cellsOf 51 = 2:=by kernel_rfl
theorem cellsS2:Tryz.prog.cellsOf 46 = 2:=by kernel_rfl
theorem cellsT1:Tryz.prog.cellsOf 9 = 1:=by kernel_rfl
theorem cellsR1:Tryz.prog.cellsOf 22 = 1:=by kernel_rfl
theorem list_two {α:Type} {l:List α} (h:l.length = 2):∃ c0 c1,l = [c0,c1]:=by
 match l,h with
 | [c0,c1],_ => exact ⟨c0,c1,rfl⟩
theorem row_arg {H:Type} {enc:TypeId × Value → H} {W:World} {r:Reach} {b0:Nat} {v:Value} {d:DataW H} {p:List MemPlace} {α:Type} (ty e:TypeId) (k:Nat) (f:α → List Value) (hty:Tryz.prog.underlying ty = some (.slice e)) (hk:Tryz.prog.cellsOf e = k) (hk0:0 < k) (hf:∀ x,(f x).length = k)
   (ho:∀ (fuel:Nat) (cs:List Value) (x:DataW H × List MemPlace),DataW.trod enc Tryz.prog W 0 (fun _ => true) true fuel e cs = some x → ∃ y,cs = f y)
   (hv:Value.okWide Tryz.prog W r b0 ty v) (h:DataW.Trod enc Tryz.prog W 0 (fun _ => true) true ty v d p):∃ S:List α,RowL W k v (S.map f):=by
 obtain ⟨a0,l0,c0,rfl⟩:=okWide_slice hty hv
 obtain ⟨fuel,hf2⟩:=h
 rcases DataW.trod_slice hty hf2 with ⟨hcs,_⟩ | ⟨a,len,cap,elems,rest,n',rfl,hcs,_,_,hl,hm,hel,hx,_⟩
 · simp [Value.cells] at hcs
   obtain ⟨rfl,rfl,rfl⟩:=hcs
   exact ⟨[],RowL.nil _ _⟩
 · simp [Value.cells] at hcs
   obtain ⟨rfl,rfl,rfl⟩:=hcs
   rw [hk] at hx
   have hx':∀ i,i < l0 → ∃ y:α,W.cells? 0 (a.add (i * k)) k = some (f y):=by
     intro i hi
     have:=hx i hi
     rw [zA5 (by omega)] at this
     obtain ⟨cs',g1,g2⟩:=Option.bind_eq_some_iff.1 this
     obtain ⟨y,rfl⟩:=ho _ _ _ g2
     exact ⟨y,g1⟩
   rcases zC l0 with h00 | hpos0
   · subst h00
     exact ⟨[],⟨fun cs hcs => (by cases hcs),some a,c0,rfl,hl,hm,(fun e => by cases e),fun hpos => absurd hpos (by simp)⟩⟩
   obtain ⟨y0,_⟩:=hx' 0 hpos0
   obtain ⟨f',hf'⟩:∃ f':Nat → α,∀ i,i < l0 → W.cells? 0 (a.add (i * k)) k = some (f (f' i)):=by
     refine ⟨fun i => if hi:i < l0 then (hx' i hi).choose else y0,fun i hi => ?_⟩
     simp only [hi,dite_true]
     exact (hx' i hi).choose_spec
   have hll:(((List.range l0).map f').map f).length = l0:=by simp
   refine ⟨(List.range l0).map f',⟨fun cs hcs => ?_,some a,c0,by rw [hll],by rw [hll]; exact hl,hm,(fun e => by cases e),fun hpos => ?_⟩⟩
   · obtain ⟨y,_,rfl⟩:=List.mem_map.1 hcs
     exact hf y
   · obtain ⟨_,g2,g3⟩:=World.cells?_some (hf' 0 hpos0)
     have hspot:a.spot = none:=by
       have g4:=g3 0 hk0
       rw [zA5 (by have:=hf (f' 0); omega)] at g4
       have:=World.cell?_spot g4
       simpa [Addr.add] using this
     obtain ⟨b,off,spot⟩:=a
     simp only at hspot
     subst hspot
     refine ⟨b,off,rfl,fun i cs hi j u hu => ?_⟩
     have hlt:i < l0:=by have:=(List.getElem?_eq_some_iff.1 hi).1; omega
     have hi2:cs = f (f' i):=by
       simp only [zAD,List.getElem?_range hlt,zBW,Option.some.injEq] at hi
       exact hi.symm
     subst hi2
     obtain ⟨_,g2,g3⟩:=World.cells?_some (hf' i hlt)
     have:=g3 j (by have:=(List.getElem?_eq_some_iff.1 hu).1; have:=hf (f' i); omega)
     rw [Addr.add_mid,Addr.add_mid] at this
     exact this.trans hu
theorem key_open {H:Type} {enc:TypeId × Value → H} {W:World} {fuel:Nat} {cs:List Value} {x:DataW H × List MemPlace}
   (h:DataW.trod enc Tryz.prog W 0 (fun _ => true) true fuel 51 cs = some x):∃ k:B2,cs = twoS k:=by
 obtain ⟨xs,n,rfl,_,hlen,hxl,hfl⟩:=DataW.trod_struct Tryz.underlying51 h
 obtain ⟨c0,c1,rfl⟩:=list_two (hlen.trans cellsK2)
 obtain ⟨y0,y1,rfl⟩:=list_two (l:=xs) hxl
 have h0:=hfl 0 _ rfl
 have h1:=hfl 1 _ rfl
 simp [cellsT1] at h0 h1
 clear hfl
 obtain ⟨s,es,_,_⟩:=DataW.trod_string Tryz.underlying9 h0
 obtain ⟨u,eu,_,_⟩:=DataW.trod_string Tryz.underlying9 h1
 injection es with es
 injection eu with eu
 exact ⟨(s,u),by rw [es,eu]⟩
theorem sig_open {H:Type} {enc:TypeId × Value → H} {W:World} {fuel:Nat} {cs:List Value} {x:DataW H × List MemPlace}
   (h:DataW.trod enc Tryz.prog W 0 (fun _ => true) true fuel 46 cs = some x):∃ k:B2,cs = twoS k:=by
 obtain ⟨xs,n,rfl,_,hlen,hxl,hfl⟩:=DataW.trod_struct Tryz.underlying46 h
 obtain ⟨c0,c1,rfl⟩:=list_two (hlen.trans cellsS2)
 obtain ⟨y0,y1,rfl⟩:=list_two (l:=xs) hxl
 have h0:=hfl 0 _ rfl
 have h1:=hfl 1 _ rfl
 simp [cellsT1] at h0 h1
 clear hfl
 obtain ⟨s,es,_,_⟩:=DataW.trod_string Tryz.underlying9 h0
 obtain ⟨u,eu,_,_⟩:=DataW.trod_string Tryz.underlying9 h1
 injection es with es
 injection eu with eu
 exact ⟨(s,u),by rw [es,eu]⟩
section
variable {H:Type} {enc:TypeId × Value → H} {W:World} {r:Reach} {b0:Nat} {v:Value} {d:DataW H} {p:List MemPlace}
theorem keys_arg (hv:Value.okWide Tryz.prog W r b0 25 v) (h:DataW.Trod enc Tryz.prog W 0 (fun _ => true) true 25 v d p):∃ S:List B2,RowL W 2 v (S.map twoS):=
 row_arg _ _ 2 twoS Tryz.underlying25 cellsK2 (by decide) (fun _ => rfl) (fun _ _ _ h => key_open h) hv h
theorem sigs_arg (hv:Value.okWide Tryz.prog W r b0 26 v) (h:DataW.Trod enc Tryz.prog W 0 (fun _ => true) true 26 v d p):∃ S:List B2,RowL W 2 v (S.map twoS):=
 row_arg _ _ 2 twoS Tryz.underlying26 cellsS2 (by decide) (fun _ => rfl) (fun _ _ _ h => sig_open h) hv h
theorem strs_cell {cs:List Value} {fuel:Nat} {x:DataW H × List MemPlace} {c:Value} (h:DataW.trod enc Tryz.prog W 0 (fun _ => true) true fuel 22 cs = some x) (hc:cs = [c]):∃ a n k,c = .slice a n k:=by
 subst hc
 rcases DataW.trod_slice Tryz.underlying22 h with ⟨hcs,_⟩ | ⟨a,len,cap,_,_,_,rfl,hcs,_⟩
 · injection hcs with h1 _
   exact ⟨_,_,_,h1⟩
 · injection hcs with h1 _
   exact ⟨_,_,_,h1⟩
theorem role_arg (hv:Value.okWide Tryz.prog W r b0 24 v) (h:DataW.Trod enc Tryz.prog W 0 (fun _ => true) true 24 v d p) :
   ∃ (S:List ByteArray) (need:Int) (av:Option Addr) (ac:Nat),v = .agg #[.slice av S.length ac,.int .i64 need] ∧ RowL W 1 (.slice av S.length ac) (S.map oneS):=by
 obtain ⟨a,rfl,_⟩:=okWide_struct Tryz.underlying24 hv
 obtain ⟨fuel,hf⟩:=h
 have hf:DataW.trod enc Tryz.prog W 0 (fun _ => true) true fuel 24 a.toList = some (d,p):=hf
 obtain ⟨xs,n,rfl,_,hlen,hxl,hfl⟩:=DataW.trod_struct Tryz.underlying24 hf
 obtain ⟨c0,c1,hl⟩:=list_two (hlen.trans (show Tryz.prog.cellsOf 24 = 2 by kernel_rfl))
 obtain ⟨y0,y1,rfl⟩:=list_two (l:=xs) hxl
 rw [hl] at hfl
 have h0:=hfl 0 _ rfl
 have h1:=hfl 1 _ rfl
 simp [cellsR1,show Tryz.prog.cellsOf 3 = 1 by kernel_rfl] at h0 h1
 clear hfl
 obtain ⟨av,k,ac,rfl⟩:=strs_cell h0 rfl
 obtain ⟨z,ez,_⟩:=DataW.trod_int Tryz.underlying3 h1
 injection ez with ez
 subst ez
 obtain ⟨S,hS,_⟩:=arg_strs (a0:=av) (len0:=k) (cap0:=ac) (d:=y0.1) (p:=y0.2) ⟨n,h0⟩
 have hr:=strs_row hS
 obtain ⟨a',c',he,_⟩:=hr.form
 injection he with _ e2 _
 rw [zAG] at e2
 refine ⟨S.map bytesO,z,av,ac,?_,?_⟩
 · rw [← e2,show a = a.toList.toArray from rfl,hl]
 · rw [← e2]
   exact hr
end
end Go.Proofs.YteecbglmohhaeaaGreatDoor.O
