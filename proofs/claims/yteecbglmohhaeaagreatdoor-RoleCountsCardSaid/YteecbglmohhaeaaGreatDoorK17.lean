import Derived.Test.YteecbglmohhaeaaGreatDoorK16
import Derived.Deep.AppendLies
import Derived.Deep.CutRange
import Derived.Laws.Bits64
import Derived.Maps.AppendAt
set_option maxRecDepth 100000
open List renaming append_assoc → zBL, append_nil → zB6, drop_eq_getElem_cons → zAS, drop_of_length_le → zAW, drop_succ_cons → zAA, drop_zero → zAH, getD_eq_getElem?_getD → zA4, getElem?_append_right → zBJ, getElem?_cons_succ → zAN, getElem?_cons_zero → zAF, getElem?_drop → zBF, getElem?_eq_getElem → zA5, getElem?_map → zAD, getElem?_take → zC0, getElem?_toArray → zA6, length_append → zAL, length_drop → zB4, length_map → zAG, length_set → zBC, length_take → zAM, map_append → zC3, mem_cons → zCK, mem_of_getElem? → zAU, nil_append → zBU, setIfInBounds_toArray → zA0, set_append_right → zBV, set_cons_succ → zA2, set_cons_zero → zA1, take_add_one → zCC, take_of_length_le → zA7, take_succ_cons → zA8, take_zero → zAJ
open Nat renaming add_zero → zAZ, div_add_mod → zCH, div_div_eq_div_mul → zB5, div_le_self → zB9, eq_zero_or_pos → zC, le_refl → zA3, le_succ → zBP, le_trans → zB, lt_of_le_of_lt → zBB, lt_trans → zCI, min_eq_left → zBS, mod_eq_of_lt → zAB, mod_lt → zAO, mod_mod → zCS, mul_one → zBO, pow_add → zBI, pow_le_pow_right → zB1, pow_mul → zC1, pow_succ → zAP, sub_self → zB8, two_pow_pos → zCN, zero_add → zAQ, zero_le → zAR
open Array renaming length_toList → zAC, toArray_toList → zAK
open Option renaming map_some → zBW, toList_some → zCD
open Bool renaming and_eq_true → zAI, false_and → zC8, true_and → zC7
open Int renaming natCast_ediv → zBH, tdiv_eq_ediv_of_nonneg → zB3
namespace Go.Proofs.YteecbglmohhaeaaGreatDoor.O
open Go.RowKit Go.Sort Go.Proofs.YteecbglmohhaeaaGreatDoor.E
open C (Pts)
open V (Lies OwnL RowL reg lessL bytesLess_is)
theorem own_kept {w w':World} {B:Nat} {e:TypeId} {k:Nat} {v:Value} {css:List (List Value)} {row:Option Nat} (h:OwnL w B e k v css) (hg:w.grownBy w' row) (hne:v.ownBlock ≠ row):OwnL w' B e k v css:=⟨h.1,h.2.kept hg (.inr hne)⟩
theorem own_apart {w:World} {B g:Nat} {e:TypeId} {k:Nat} {v:Value} {css:List (List Value)} (h:OwnL w B e k v css) (hne:v.ownBlock ≠ some g) (i:Nat) (u:Value):OwnL (w.setCell ⟨g,i,none⟩ u) B e k v css:=by
 refine ⟨h.1,h.2.1,?_⟩
 rcases h.2.2 with hv | ⟨b,cap,cur,hv,hB,hh,hr⟩
 · exact .inl hv
 · refine .inr ⟨b,cap,cur,hv,hB,(Below.heap_setCell _ _ _ _ (show b ≠ g from fun e => hne ?_)).trans hh,hr⟩
   rw [hv,← e]
   rfl
theorem own_in {w:World} {B:Nat} {e:TypeId} {k:Nat} {v:Value} {css:List (List Value)} (h:OwnL w B e k v css):v.ownBlock ≠ some w.heap.size:=fun e => by
 have:=(h.2.lt _ e).2
 omega
theorem sep_app {w:World} {B:Nat} {e:TypeId} {k:Nat} {u v v':Value} {css:List (List Value)} (hu:OwnL w B e k u css) (hne:u.ownBlock ≠ v.ownBlock) (hat:v'.ownBlock = v.ownBlock ∨ v'.ownBlock = some w.heap.size):u.ownBlock ≠ v'.ownBlock:=by
 rcases hat with h | h
 · rw [h]; exact hne
 · rw [h]; exact own_in hu
section
variable {P:Program} {ops:Array Oper} {rest:List Oper} {a:Act} {w:World} {Q:Exit → Act → World → Prop} {t':TypeId} {pos:String} {after:Array Edge}
theorem wpL_appendAt {d:Option Tmp} {x y:Tmp} {ty:TypeId} (B:Nat) (e:TypeId) (i:TypeInfo) (z:Value) (k bytes:Nat) (ht:P.underlying ty = some (.slice e)) (hi:P.info? e = some i) (hz:i.zero = some z) (hsize:i.size = k) (hby:i.bytes = bytes) (hzs:z.cells.size = k) (hk:0 < k)
   (v:Value) (css:List (List Value)) (hown:OwnL w B e k v css) (v':Value) (css':List (List Value)) (hrow:RowL w k v' css') (hu:∀ u ∈ css'.flatten,u.oneCell' = true) (h63:css.length + css'.length ≤ maxLen) (hbytes:(css.length + css'.length) * bytes ≤ 140737488355328) (hbase:B ≤ w.heap.size)
   (hs:a.eval (.tmp x) = v) (hx:a.eval (.tmp y) = v')
   (h:∀ v'' w',OwnL w' B e k v'' (css ++ css') → w.grownBy w' v.ownBlock → (v''.ownBlock = v.ownBlock ∨ v''.ownBlock = some w.heap.size) → wpList P ops Q rest (a.put d v'') w') :
   wpList P ops Q (⟨d,.call { callee:=.builtin .append,args:=#[.tmp x,.tmp y],argTypes:=#[ty,ty] },t',pos,after,none⟩ :: rest) a w:=by
 obtain ⟨h0,ho⟩:=hown
 obtain ⟨h0',av,cv,rfl,hc,hm,hn,hl⟩:=hrow
 have hall:∀ cs ∈ css ++ css',cs.length = k:=fun cs hcs => (List.mem_append.1 hcs).elim (h0 cs) (h0' cs)
 rcases zC css'.length with hz0 | hpos
 · obtain rfl:=List.eq_nil_of_length_eq_zero hz0
   cases av with
   | none =>
     obtain rfl:=hn rfl
     refine wpList_append_own_none (o:=⟨d,.call { callee:=.builtin .append,args:=#[.tmp x,.tmp y],argTypes:=#[ty,ty] },t',pos,after,none⟩) rfl _ _ ty rfl B e i k ht hi v css.length css.flatten hs ho hx (h v w ⟨hall,?_⟩ (World.grownBy.refl w _) (.inl rfl))
     rw [zB6]; exact ho
   | some ad =>
     refine wpList_append_own_at (o:=⟨d,.call { callee:=.builtin .append,args:=#[.tmp x,.tmp y],argTypes:=#[ty,ty] },t',pos,after,none⟩) w rfl _ _ ty rfl B e i z k bytes ht hi hz hsize hby hzs hk v css.length css.flatten hs ho ad 0 cv [] hx (by simp) (fun j u h => by simp at h) (fun u h => by cases h) (by simpa using h63) (by simpa using hbytes) hbase (fun v'' w' h1 h2 _ h4 => h v'' w' ⟨hall,?_⟩ h2 h4)
     simpa using h1
 · obtain ⟨b,off,rfl,hx2⟩:=hl hpos
   refine wpList_append_own_at (o:=⟨d,.call { callee:=.builtin .append,args:=#[.tmp x,.tmp y],argTypes:=#[ty,ty] },t',pos,after,none⟩) w rfl _ _ ty rfl B e i z k bytes ht hi hz hsize hby hzs hk v css.length css.flatten hs ho ⟨b,off,none⟩ css'.length cv css'.flatten hx (V.flat_len h0') (fun j u hj => ?_) hu h63 hbytes hbase (fun v'' w' h1 h2 _ h4 => h v'' w' ⟨hall,?_⟩ h2 h4)
   · rw [Addr.add_mid]
     exact V.flat_cells h0' hx2 j u hj
   · rw [zAL,List.flatten_append]; exact h1
end
theorem own_at {w:World} {B:Nat} {v:Value} {l:List ByteArray} (h:OwnL w B 9 1 v (l.map oneS)):(v = .slice none 0 0 ∧ l = []) ∨ ∃ g c,v = .slice (some ⟨g,0,none⟩) l.length c ∧ B ≤ g ∧ g < w.heap.size ∧ l.length ≤ c ∧ c ≤ maxLen ∧
   (∀ j x,l[j]? = some x → w.cell? ⟨g,j,none⟩ = some (.string x) ∧ w.frozen? ⟨g,j,none⟩ = false) ∧
   (∀ j x,j < l.length → OwnL (w.setCell ⟨g,j,none⟩ (.string x)) B 9 1 v ((l.set j x).map oneS)):=by
 have h0:=h
 obtain ⟨h1,hlen,h2⟩:=h
 rw [zAG] at h2 hlen
 have hfl:∀ l:List ByteArray,(l.map oneS).flatten = l.map Value.string:=by
   intro l
   induction l with
   | nil => rfl
   | cons b l ih => rw [List.map_cons,List.flatten_cons,ih]; rfl
 rcases h2 with ⟨hv,hn⟩ | ⟨g,cap,cur,hv,hB,hh,hc,hm,hs,ht⟩
 · exact .inl ⟨hv,List.eq_nil_of_length_eq_zero (by omega)⟩
 · right
   rw [hfl,zBO] at ht
   have hcur:∀ j,j < l.length → cur[j]? = (l[j]?).map Value.string:=fun j hj => by
     have:(cur.toList.take l.length)[j]? = (l.map Value.string)[j]?:=by rw [ht]
     rw [zC0,if_pos hj,zAD] at this
     rw [← this,Array.getElem?_toList]
   refine ⟨g,cap,hv,hB,(Array.getElem?_eq_some_iff.1 hh).1,hc,hm,fun j x hj => ?_,fun j x hj => ?_⟩
   · have hlt:=(List.getElem?_eq_some_iff.1 hj).1
     refine ⟨?_,frozen_of_row w g j cur _ hh⟩
     rw [cell_of_row w g j cur _ (0,0) hh,hcur j hlt,hj]
     rfl
   · refine ⟨fun cs hcs => ?_,?_,.inr ⟨g,cap,cur.setIfInBounds j (.string x),?_,hB,heap_setCell_same w g j cur _ (.string x) hh,?_,hm,?_,?_⟩⟩
     · obtain ⟨b,_,rfl⟩:=List.mem_map.1 hcs
       rfl
     · rw [hfl]; simp
     · rw [hv]; simp
     · simpa using hc
     · rw [Array.size_setIfInBounds]; exact hs
     · rw [zAG,zBC,hfl,zBO,Array.toList_setIfInBounds,List.take_set,ht,List.map_set]
theorem flat2:∀ (css:List (List Value)) (j:Nat) (a b:Value),(∀ cs ∈ css,cs.length = 2) → j < css.length → ((css.flatten).set (j * 2) a).set (j * 2 + 1) b = (css.set j [a,b]).flatten:=by
 intro css
 induction css with
 | nil => intro j a b _ h; simp at h
 | cons c r ih =>
   intro j a b h0 hj
   obtain ⟨x,y,rfl⟩:∃ x y,c = [x,y]:=by
     have:=h0 c (by simp)
     match c,this with
     | [x,y],_ => exact ⟨x,y,rfl⟩
   cases j with
   | zero => rfl
   | succ j =>
     have:=ih j a b (fun cs hcs => h0 cs (by simp [hcs])) (by simpa using hj)
     rw [show (j + 1) * 2 = j * 2 + 2 by omega,show j * 2 + 2 + 1 = (j * 2 + 1) + 2 by omega]
     show x :: y :: ((r.flatten.set (j * 2) a).set (j * 2 + 1) b) = x :: y :: (r.set j [a,b]).flatten
     rw [this]
theorem own_form {w:World} {B:Nat} {e:TypeId} {k:Nat} {v:Value} {css:List (List Value)} (h:OwnL w B e k v css):(v = .slice none 0 0 ∧ css = []) ∨ ∃ g c,v = .slice (some ⟨g,0,none⟩) css.length c ∧ B ≤ g ∧ g < w.heap.size:=by
 rcases h.2.2 with ⟨hv,hn⟩ | ⟨g,cap,cur,hv,hB,hh,_⟩
 · exact .inl ⟨hv,List.eq_nil_of_length_eq_zero hn⟩
 · exact .inr ⟨g,cap,hv,hB,(Array.getElem?_eq_some_iff.1 hh).1⟩
theorem own_put2 {w:World} {B:Nat} {e:TypeId} {g n c:Nat} {css:List (List Value)} (h:OwnL w B e 2 (.slice (some ⟨g,0,none⟩) n c) css) {j:Nat} (hj:j < css.length) (a b:Value):OwnL (w.setCells g (j * 2) [a,b]) B e 2 (.slice (some ⟨g,0,none⟩) n c) (css.set j [a,b]):=by
 have hn:n = css.length:=by
   rcases h.2.2 with ⟨hv,_⟩ | ⟨_,_,_,hv,_⟩
   · cases hv
   · injection hv
 subst hn
 have h1:=(h.2.stored (j * 2) a).1
 have h2:=(h1.stored (j * 2 + 1) b).1
 refine ⟨fun cs hcs => ?_,?_⟩
 · rcases List.mem_or_eq_of_mem_set hcs with h3 | h3
   · exact h.1 cs h3
   · rw [h3]; rfl
 · rw [zBC,← flat2 css j a b h.1 hj]
   exact h2
theorem own_there {w:World} {B:Nat} {e:TypeId} {g n c:Nat} {css:List (List Value)} (h:OwnL w B e 2 (.slice (some ⟨g,0,none⟩) n c) css) {j:Nat} (hj:j < css.length):w.there g (j * 2) 2:=by
 have hn:n = css.length:=by
   rcases h.2.2 with ⟨hv,_⟩ | ⟨_,_,_,hv,_⟩
   · cases hv
   · injection hv
 subst hn
 have hlen:=V.flat_len h.1
 intro i hi
 refine ⟨?_,h.2.frozenAt _⟩
 rw [h.2.cellAt _ (by omega),zA5 (by omega)]
 rfl
theorem own_off {w:World} {B:Nat} {e:TypeId} {k:Nat} {v:Value} {css:List (List Value)} (h:OwnL w B e k v css) {g:Nat} (hne:v.ownBlock ≠ some g) (o:Nat) (a b:Value):OwnL (w.setCells g o [a,b]) B e k v css:=
 own_apart (own_apart h hne o a) hne (o + 1) b
theorem below_put2 {B:Nat} {a w:World} (h:Below B a w) {g:Nat} (hg:B ≤ g) (o:Nat) (x y:Value):Below B a (w.setCells g o [x,y]):=
 (h.setCell (p:=⟨g,o,none⟩) hg x).setCell (p:=⟨g,o + 1,none⟩) hg y
theorem lies_put2 {w:World} {g':Nat} {t:TypeId} {cs:Array Value} (h:Lies w g' t cs) {g:Nat} (hne:g' ≠ g) (o:Nat) (x y:Value):Lies (w.setCells g o [x,y]) g' t cs:=
 (h.far (p:=⟨g,o,none⟩) hne x).far (p:=⟨g,o + 1,none⟩) hne y
section
variable {P:Program} {ops:Array Oper} {rest:List Oper} {a:Act} {w:World} {Q:Exit → Act → World → Prop} {t':TypeId} {pos:String} {after:Array Edge}
end
section
variable {α:Type}
def cutTo (f:α → α) (l:List α) (j:Nat):List α:=(l.take j).map f ++ l.drop j
theorem cutTo_len (f:α → α) (l:List α) (j:Nat):(cutTo f l j).length = l.length:=by
 unfold cutTo
 rw [zAL,zAG,zAM,zB4]
 omega
theorem cutTo_all (f:α → α) (l:List α):cutTo f l l.length = l.map f:=by
 unfold cutTo
 rw [List.take_length,List.drop_length,zB6]
theorem cutTo_at {f:α → α} {l:List α} {j:Nat} {x:α} (h:l[j]? = some x):(cutTo f l j)[j]? = some x:=by
 have hlt:=(List.getElem?_eq_some_iff.1 h).1
 unfold cutTo
 rw [zBJ (by rw [zAG,zAM]; omega),zAG,zAM,zBF]
 rw [show j + (j - min j l.length) = j by omega]
 exact h
theorem cutTo_set {f:α → α} {l:List α} {j:Nat} {x:α} (h:l[j]? = some x):(cutTo f l j).set j (f x) = cutTo f l (j + 1):=by
 have hlt:=(List.getElem?_eq_some_iff.1 h).1
 have h1:((l.take j).map f).length = j:=by rw [zAG,zAM]; omega
 unfold cutTo
 rw [zBV _ _ (by omega),h1,zB8,zAS hlt,zA1,zCC,h]
 rw [zCD,zC3,zBL]
 rfl
end
def cutN (k:Nat) (s:ByteArray):ByteArray:=s.extract 0 (min (s.size:Int) (k:Int)).toNat
theorem cutN_le (k:Nat) (s:ByteArray):(cutN k s).size ≤ k:=cut_le s k
def cutK (k:B2):B2:=(cutN 70 k.1,cutN 40 k.2)
def cutS (k:B2):B2:=(cutN 70 k.1,cutN 70 k.2)
end Go.Proofs.YteecbglmohhaeaaGreatDoor.O
namespace Go.Proofs.YteecbglmohhaeaaGreatDoor.O
open Go.RowKit Go.Sort Go.Proofs.YteecbglmohhaeaaGreatDoor.E
open C (Pts)
open V (Lies OwnL RowL reg lessL bytesLess_is)
section
variable {a:Act} {d:Option Tmp} {t':TypeId} {pos:String} {after:Array Edge} {gd:Option (Nat × Bool)} {x:Operand} {y z:Tmp}
theorem run_lenK (s:Option Addr) (n c:Nat) (hx:a.eval x = .slice s n c) (w:World) :
   (execOp a.eval ⟨d,.call { callee:=.builtin .len,args:=#[x],argTypes:=#[25] },t',pos,after,gd⟩).run Tryz.prog w = .ok (.value (.int .i64 (n:Int))) w:=by
 have hr:(Builtin.len_ #[25] t' #[.slice s n c]).run Tryz.prog w = .ok (.int .i64 (n:Int)) w:=by simp [go_sem]
 simp [execOp,resolve,invoke,builtin,hx,hr,Result.andThen]
theorem run_lenS (s:Option Addr) (n c:Nat) (hx:a.eval x = .slice s n c) (w:World) :
   (execOp a.eval ⟨d,.call { callee:=.builtin .len,args:=#[x],argTypes:=#[26] },t',pos,after,gd⟩).run Tryz.prog w = .ok (.value (.int .i64 (n:Int))) w:=by
 have hr:(Builtin.len_ #[26] t' #[.slice s n c]).run Tryz.prog w = .ok (.int .i64 (n:Int)) w:=by simp [go_sem]
 simp [execOp,resolve,invoke,builtin,hx,hr,Result.andThen]
theorem run_minP (n m r:Int) (hx:a.eval x = .int .i64 n) (hr0:min n m = r) (w:World) :
   (execOp a.eval ⟨d,.call { callee:=.builtin .min,args:=#[x,.const (.int .i64 m)],argTypes:=#[3,3] },t',pos,after,gd⟩).run Tryz.prog w = .ok (.value (.int .i64 r)) w:=by
 have h2:a.eval (.const (.int .i64 m)) = .int .i64 m:=rfl
 have hr:(Builtin.min_ #[3,3] t' #[.int .i64 n,.int .i64 m]).run Tryz.prog w = .ok (.int .i64 r) w:=by rw [← hr0]; simp [go_sem]
 simp [execOp,resolve,invoke,builtin,hx,h2,hr,Result.andThen]
theorem run_cutT (ty:TypeId) (k:Nat) (ht:Tryz.prog.underlying ty = some (.slice (Tryz.prog.elem ty))) (hs:∀ w,(Go.sizeOf (Tryz.prog.elem ty)).run Tryz.prog w = .ok k w) (ad:Option Addr) (n c r:Nat) (hr:r ≤ c) (hx:a.eval (.tmp y) = .slice ad n c) (hy:a.eval (.tmp z) = .int .i64 (r:Int)) (w:World) :
   (execOp a.eval ⟨d,.slice ty (.tmp y) none (some (.tmp z)) none,t',pos,after,gd⟩).run Tryz.prog w = .ok (.value (sliced ad 0 r c k)) w:=by
 have h1:=run_slice_h (P:=Tryz.prog) w ty ad n c ht .i64 (r:Int) (by omega) (by omega)
 have h2:=run_sliceAt_slice (P:=Tryz.prog) w ty (.slice ad n c) none (some (.int .i64 (r:Int))) none ht
 unfold execOp
 simp only [hx,hy,zBW,Option.map_none,Sem.run_bind,h2,h1,hs,Result.andThen,Sem.run_pure,Int.toNat_natCast]
end
theorem elemK:∀ w,(Go.sizeOf (Tryz.prog.elem 25)).run Tryz.prog w = .ok 2 w:=by
 rw [show Tryz.prog.elem 25 = 51 by kernel_rfl]
 exact Tryz.sizeOf51
theorem elemS:∀ w,(Go.sizeOf (Tryz.prog.elem 26)).run Tryz.prog w = .ok 2 w:=by
 rw [show Tryz.prog.elem 26 = 46 by kernel_rfl]
 exact Tryz.sizeOf46
theorem underK:Tryz.prog.underlying 25 = some (.slice (Tryz.prog.elem 25)):=by kernel_rfl
theorem underS:Tryz.prog.underlying 26 = some (.slice (Tryz.prog.elem 26)):=by kernel_rfl
theorem rowOnes2 (l:List B2):∀ u ∈ (l.map twoS).flatten,u.oneCell' = true:=by
 intro u hu
 obtain ⟨cs,hcs,hu⟩:=List.mem_flatten.1 hu
 obtain ⟨b,_,rfl⟩:=List.mem_map.1 hcs
 simp only [zCK,List.mem_nil_iff,or_false] at hu
 rcases hu with rfl | rfl <;> rfl
theorem rowOnes1 (l:List ByteArray):∀ u ∈ (l.map oneS).flatten,u.oneCell' = true:=by
 intro u hu
 obtain ⟨cs,hcs,hu⟩:=List.mem_flatten.1 hu
 obtain ⟨b,_,rfl⟩:=List.mem_map.1 hcs
 rw [List.mem_singleton.1 hu]
 rfl
structure FewAt (w wr:World) (B2:Nat) (gA:Nat) (v1 v2 v3:Value) (need:Int) (l1:List ByteArray) (l2 l3:List (ByteArray × ByteArray)):Prop where
 hA:w.heap.size = gA
 hB:gA + 2 ≤ B2
 a:Lies wr gA 24 #[v1,.int .i64 need]
 q:Lies wr (gA + 1) 24 #[.slice none 0 0,.int .i64 0]
 r1:OwnL wr (gA + 2) 9 1 v1 (l1.map oneS)
 lt:∀ g,v1.ownBlock = some g → g < B2
 r2:OwnL wr B2 51 2 v2 (l2.map twoS)
 r3:OwnL wr B2 46 2 v3 (l3.map twoS)
 ne:v2.ownBlock ≠ v3.ownBlock
 b:Below w.heap.size w wr
theorem FewAt.on {w wr w':World} {B2 gA:Nat} {v1 v2 v3:Value} {need:Int} {l1:List ByteArray} {l2 l3:List (ByteArray × ByteArray)} (h:FewAt w wr B2 gA v1 v2 v3 need l1 l2 l3) (hb:Below wr.heap.size wr w'):FewAt w w' B2 gA v1 v2 v3 need l1 l2 l3:=
 ⟨h.hA,h.hB,h.a.on hb,h.q.on hb,h.r1.on hb,h.lt,h.r2.on hb,h.r3.on hb,h.ne,h.b.trans (hb.mono h.b.size)⟩
theorem FewAt.put1 {w wr:World} {B2 gA g n c:Nat} {v2 v3:Value} {need:Int} {l1:List ByteArray} {l2 l3:List (ByteArray × ByteArray)} (h:FewAt w wr B2 gA (.slice (some ⟨g,0,none⟩) n c) v2 v3 need l1 l2 l3) {j:Nat} (hj:j < l1.length) (x:ByteArray):FewAt w (wr.setCell ⟨g,j,none⟩ (.string x)) B2 gA (.slice (some ⟨g,0,none⟩) n c) v2 v3 need (l1.set j x) l2 l3:=by
 have hg2:=h.lt g rfl
 have hg1:=h.r1.lt g rfl
 refine ⟨h.hA,h.hB,h.a.far (show gA ≠ g by omega) _,h.q.far (show gA + 1 ≠ g by omega) _,?_,h.lt,h.r2.far hg2 _ _,h.r3.far hg2 _ _,h.ne,h.b.setCell (p:=⟨g,j,none⟩) (by have:=h.hA; show w.heap.size ≤ g; omega) _⟩
 rcases own_at h.r1 with ⟨hv,_⟩ | ⟨g',c',hv,_,_,_,_,_,hset⟩
 · cases hv
 · injection hv with e1 e2 e3
   injection e1 with e1
   injection e1 with e1
   subst e1 e2 e3
   exact hset j x hj
theorem FewAt.put2 {w wr:World} {B2 gA g n c:Nat} {v1 v3:Value} {need:Int} {l1:List ByteArray} {l2 l3:List (ByteArray × ByteArray)} (h:FewAt w wr B2 gA v1 (.slice (some ⟨g,0,none⟩) n c) v3 need l1 l2 l3) {j:Nat} (hj:j < l2.length) (x y:ByteArray):FewAt w (wr.setCells g (j * 2) [.string x,.string y]) B2 gA v1 (.slice (some ⟨g,0,none⟩) n c) v3 need l1 (l2.set j (x,y)) l3:=by
 have hg1:=h.r2.lt g rfl
 have hB:=h.hB
 have hn1:v1.ownBlock ≠ some g:=fun e => by have:=h.lt g e; omega
 refine ⟨h.hA,h.hB,lies_put2 h.a (by omega) _ _ _,lies_put2 h.q (by omega) _ _ _,own_off h.r1 hn1 _ _ _,h.lt,?_,own_off h.r3 (fun e => h.ne (by rw [e]; rfl)) _ _ _,h.ne,below_put2 h.b (by have:=h.hA; omega) _ _ _⟩
 rw [List.map_set]
 exact own_put2 h.r2 (by rw [zAG]; exact hj) _ _
theorem FewAt.put3 {w wr:World} {B2 gA g n c:Nat} {v1 v2:Value} {need:Int} {l1:List ByteArray} {l2 l3:List (ByteArray × ByteArray)} (h:FewAt w wr B2 gA v1 v2 (.slice (some ⟨g,0,none⟩) n c) need l1 l2 l3) {j:Nat} (hj:j < l3.length) (x y:ByteArray):FewAt w (wr.setCells g (j * 2) [.string x,.string y]) B2 gA v1 v2 (.slice (some ⟨g,0,none⟩) n c) need l1 l2 (l3.set j (x,y)):=by
 have hg1:=h.r3.lt g rfl
 have hB:=h.hB
 have hn1:v1.ownBlock ≠ some g:=fun e => by have:=h.lt g e; omega
 refine ⟨h.hA,h.hB,lies_put2 h.a (by omega) _ _ _,lies_put2 h.q (by omega) _ _ _,own_off h.r1 hn1 _ _ _,h.lt,own_off h.r2 (fun e => h.ne (by rw [e]; rfl)) _ _ _,?_,h.ne,below_put2 h.b (by have:=h.hA; omega) _ _ _⟩
 rw [List.map_set]
 exact own_put2 h.r3 (by rw [zAG]; exact hj) _ _
structure Own4 (w:World) (B:Nat) (a1:Option Addr) (c1:Nat) (a2:Option Addr) (c2:Nat) (a3:Option Addr) (c3:Nat) (ids:List ByteArray) (keys sigs:List (ByteArray × ByteArray)):Prop where
 i:OwnL w B 9 1 (.slice a1 ids.length c1) (ids.map oneS)
 k:OwnL w B 51 2 (.slice a2 keys.length c2) (keys.map twoS)
 s:OwnL w B 46 2 (.slice a3 sigs.length c3) (sigs.map twoS)
theorem own_rowFar {w:World} {B:Nat} {e:TypeId} {k:Nat} {v:Value} {css:List (List Value)} (h:OwnL w B e k v css) {g:Nat} (hg:g < B) (cs:Array Value):OwnL (w.setRow g cs) B e k v css:=by
 refine ⟨h.1,h.2.1,?_⟩
 rcases h.2.2 with hv | ⟨b,cap,cur,hv,hB,hh,hr⟩
 · exact .inl hv
 · exact .inr ⟨b,cap,cur,hv,hB,(setRow_other w g b cs (by omega)).trans hh,hr⟩
theorem Own4.rows {w:World} {B:Nat} {a1 a2 a3:Option Addr} {c1 c2 c3:Nat} {ids:List ByteArray} {keys sigs:List (ByteArray × ByteArray)} (h:Own4 w B a1 c1 a2 c2 a3 c3 ids keys sigs):Rows4 w a1 c1 a2 c2 a3 c3 ids keys sigs:=⟨h.i.read,h.k.read,h.s.read⟩
theorem Own4.rowFar {w:World} {B:Nat} {a1 a2 a3:Option Addr} {c1 c2 c3:Nat} {ids:List ByteArray} {keys sigs:List (ByteArray × ByteArray)} (h:Own4 w B a1 c1 a2 c2 a3 c3 ids keys sigs) {g:Nat} (hg:g < B) (cs:Array Value):Own4 (w.setRow g cs) B a1 c1 a2 c2 a3 c3 ids keys sigs:=⟨own_rowFar h.i hg cs,own_rowFar h.k hg cs,own_rowFar h.s hg cs⟩
def FewPost (w:World) (ids:List ByteArray) (need:Int) (keys sigs:List (ByteArray × ByteArray)) (e:Ending) (w':World):Prop:=
 ∃ a1 c1 a2 c2 a3 c3,e = .returned (.tuple #[.agg #[.slice a1 ((ids.take 18).map (cutN 70)).length c1,.int .i64 need],.slice a2 ((keys.take 18).map cutK).length c2,.slice a3 ((sigs.take 18).map cutS).length c3]) ∧
   Own4 w' w.heap.size a1 c1 a2 c2 a3 c3 ((ids.take 18).map (cutN 70)) ((keys.take 18).map cutK) ((sigs.take 18).map cutS) ∧ Below w.heap.size w w'
theorem take_min {α:Type} (l:List α) (k r:Nat) (h:r = min l.length k):l.take r = l.take k:=by
 subst h
 rcases Nat.le_total l.length k with h | h
 · rw [zBS h,List.take_length,zA7 h]
 · rw [Nat.min_eq_right h]
theorem role_one (a:Option Addr) (n c:Nat) (i:Int):V.Ones #[.slice a n c,.int .i64 i]:=by unfold V.Ones; simp [Value.oneCell']
theorem res_three {P:Program} {fn:Func} {p u v:Tmp} {ty:TypeId} {n:Nat} {w:World} {g:Nat} {t:TypeId} {cs:Array Value} {tmps:Array Value} {x y:Value} (h:fn.results = #[.cell p ty,.tmp u,.tmp v]) (hT:V.RowT P ty n) (hn:cs.size = n) (hg:Lies w g t cs) (hp:tmps.getD p undef = .pointer (some ⟨g,0,none⟩)) (hx:tmps.getD u undef = x) (hy:tmps.getD v undef = y) :
   (results fn tmps).run P w = .ok (.tuple #[.agg cs,x,y]) w:=by
 obtain ⟨⟨d,hu,hd⟩,hi⟩:=hT
 have hl:=run_loadVar_row (P:=P) w g t ty cs (0,0) d hg hu (by cases d <;> first | rfl | simp [TypeDesc.isRow] at hd) (by rw [hi,hn])
 have hp':tmps[p]?.getD undef = .pointer (some ⟨g,0,none⟩):=by simpa using hp
 have hx':tmps[u]?.getD undef = x:=by simpa using hx
 have hy':tmps[v]?.getD undef = y:=by simpa using hy
 simp [results,h,hp',hx',hy',asAddr,hl]
theorem row_cap {w:World} {k:Nat} {a:Option Addr} {n c:Nat} {css:List (List Value)} (h:RowL w k (.slice a n c) css):css.length ≤ c ∧ c ≤ maxLen:=by
 obtain ⟨_,a',c',e,h1,h2,_⟩:=h
 injection e with _ _ e3
 subst e3
 exact ⟨h1,h2⟩
set_option maxHeartbeats 25600000 in
theorem few_any (av kv sv:Option Addr) (ac kc sc:Nat) (ids:List ByteArray) (need:Int) (keys sigs:List (ByteArray × ByteArray)) (w:World) (hR:Rows4 w av ac kv kc sv sc ids keys sigs) :
   Calls Tryz.prog 8 #[.agg #[.slice av ids.length ac,.int .i64 need],.slice kv keys.length kc,.slice sv sigs.length sc] w fun e w' => FewPost w ids need keys sigs e w':=by
 obtain ⟨iT,hiT,hzT0,hzT1,hzT2⟩:=info_parts infoStr
 obtain ⟨iK,hiK,hzK0,hzK1,hzK2⟩:=info_parts infoKey
 obtain ⟨iS,hiS,hzS0,hzS1,hzS2⟩:=info_parts infoSig
 have hc1:=(row_cap hR.i).1
 have hc2:=(row_cap hR.k).1
 have hc3:=(row_cap hR.s).1
 rw [zAG] at hc1 hc2 hc3
 obtain ⟨r1,hr1⟩:∃ r:Nat,r = min ids.length 18:=⟨_,rfl⟩
 obtain ⟨r2,hr2⟩:∃ r:Nat,r = min keys.length 18:=⟨_,rfl⟩
 obtain ⟨r3,hr3⟩:∃ r:Nat,r = min sigs.length 18:=⟨_,rfl⟩
 have hrI1:min (ids.length:Int) 18 = (r1:Int):=by omega
 have hrI2:min (keys.length:Int) 18 = (r2:Int):=by omega
 have hrI3:min (sigs.length:Int) 18 = (r3:Int):=by omega
 have hr61:r1 ≤ 18:=by omega
 have hr62:r2 ≤ 18:=by omega
 have hr63:r3 ≤ 18:=by omega
 have hra1:r1 ≤ ac:=by omega
 have hra2:r2 ≤ kc:=by omega
 have hra3:r3 ≤ sc:=by omega
 have hT1:=take_min ids 18 r1 hr1
 have hT2:=take_min keys 18 r2 hr2
 have hT3:=take_min sigs 18 r3 hr3
 have hrl1:r1 ≤ ids.length:=by omega
 have hrl2:r2 ≤ keys.length:=by omega
 have hrl3:r3 ≤ sigs.length:=by omega
 obtain ⟨L1,hL1⟩:∃ L,ids.take r1 = L:=⟨_,rfl⟩
 obtain ⟨L2,hL2⟩:∃ L,keys.take r2 = L:=⟨_,rfl⟩
 obtain ⟨L3,hL3⟩:∃ L,sigs.take r3 = L:=⟨_,rfl⟩
 have hLl1:L1.length = r1:=by rw [← hL1,zAM]; omega
 have hLl2:L2.length = r2:=by rw [← hL2,zAM]; omega
 have hLl3:L3.length = r3:=by rw [← hL3,zAM]; omega
 have HR1:=Lib.hid (fun (w':World) (hb:Below w.heap.size w w') => (show RowL w' 1 (.slice av r1 ac) (L1.map oneS) by
   have h:=row_take (hR.i.below hb) (j:=r1) (by rw [zAG]; exact hrl1)
   rwa [← List.map_take,hL1] at h))
 have HRK:=Lib.hid (fun (w':World) (hb:Below w.heap.size w w') => (show RowL w' 2 (sliced kv 0 r2 kc 2) (L2.map twoS) by
   have h:=(hR.k.below hb).take (j:=r2) (by rw [zAG]; exact hrl2)
   rwa [← List.map_take,hL2] at h))
 have HRS:=Lib.hid (fun (w':World) (hb:Below w.heap.size w w') => (show RowL w' 2 (sliced sv 0 r3 sc 2) (L3.map twoS) by
   have h:=(hR.s.below hb).take (j:=r3) (by rw [zAG]; exact hrl3)
   rwa [← List.map_take,hL3] at h))
 have HFin:=Lib.hid (show FewPost w ids need keys sigs = fun e w' => ∃ a1 c1 a2 c2 a3 c3,e = .returned (.tuple #[.agg #[.slice a1 (L1.map (cutN 70)).length c1,.int .i64 need],.slice a2 (L2.map cutK).length c2,.slice a3 (L3.map cutS).length c3]) ∧ Own4 w' w.heap.size a1 c1 a2 c2 a3 c3 (L1.map (cutN 70)) (L2.map cutK) (L3.map cutS) ∧ Below w.heap.size w w' by
   funext e w'
   rw [← hL1,← hL2,← hL3,hT1,hT2,hT3]
   rfl)
 have hu1:∀ u ∈ (L1.map oneS).flatten,u.oneCell' = true:=rowOnes1 L1
 have hu2:∀ u ∈ (L2.map twoS).flatten,u.oneCell' = true:=rowOnes2 L2
 have hu3:∀ u ∈ (L3.map twoS).flatten,u.oneCell' = true:=rowOnes2 L3
 have h631:([]:List (List Value)).length + (L1.map oneS).length ≤ maxLen:=by rw [zAG,hLl1]; unfold maxLen; simp; omega
 have h632:([]:List (List Value)).length + (L2.map twoS).length ≤ maxLen:=by rw [zAG,hLl2]; unfold maxLen; simp; omega
 have h633:([]:List (List Value)).length + (L3.map twoS).length ≤ maxLen:=by rw [zAG,hLl3]; unfold maxLen; simp; omega
 have h641:(([]:List (List Value)).length + (L1.map oneS).length) * 16 ≤ 140737488355328:=by rw [zAG,hLl1]; simp; omega
 have h642:(([]:List (List Value)).length + (L2.map twoS).length) * 32 ≤ 140737488355328:=by rw [zAG,hLl2]; simp; omega
 have h643:(([]:List (List Value)).length + (L3.map twoS).length) * 32 ≤ 140737488355328:=by rw [zAG,hLl3]; simp; omega
 have hrc1:([] ++ L1.map oneS).length = r1:=by rw [zBU,zAG,hLl1]
 have hrc2:([] ++ L2.map twoS).length = r2:=by rw [zBU,zAG,hLl2]
 have hrc3:([] ++ L3.map twoS).length = r3:=by rw [zBU,zAG,hLl3]
 have HLl1:=Lib.hid hLl1
 have HLl2:=Lib.hid hLl2
 have HLl3:=Lib.hid hLl3
 clear hR hL1 hL2 hL3 hT1 hT2 hT3 hrl1 hrl2 hrl3 hr1 hr2 hr3 hLl1 hLl2 hLl3
 have lA:Lies ((w.alloc (.cells #[.slice av ids.length ac,.int .i64 need] 24)).alloc (.cells #[.slice none 0 0,.int .i64 0] 24)) w.heap.size 24 #[.slice av ids.length ac,.int .i64 need]:=(Lies.new w _ _).alloc _
 have lQ:Lies ((w.alloc (.cells #[.slice av ids.length ac,.int .i64 need] 24)).alloc (.cells #[.slice none 0 0,.int .i64 0] 24)) (w.heap.size + 1) 24 #[.slice none 0 0,.int .i64 0]:=by
   have h:=Lies.new (w.alloc (.cells #[.slice av ids.length ac,.int .i64 need] 24)) 24 #[.slice none 0 0,.int .i64 0]
   rwa [World.size_alloc] at h
 have hb0:=((Below.refl w.heap.size w).alloc (zA3 _) (.cells #[.slice av ids.length ac,.int .i64 need] 24)).alloc (by simp) (.cells #[.slice none 0 0,.int .i64 0] 24)
 have hsz0:((w.alloc (.cells #[.slice av ids.length ac,.int .i64 need] 24)).alloc (.cells #[.slice none 0 0,.int .i64 0] 24)).heap.size = w.heap.size + 2:=by simp
 have HSZ0:=Lib.hid hsz0
 clear hsz0
 go_enter Tryz.func8,Tryz.ntmps8
 go_upto_region 1 with fail
 generalize World.alloc (World.alloc w _) _ = w0 at *
 have hoM:OwnL (w0.alloc (.cells #[] 9)) (w.heap.size + 2) 9 1 (.slice (some ⟨w0.heap.size,0,none⟩) 0 0) []:=OwnL.made w0 (w.heap.size + 2) 9 1 (by have:=HSZ0.out; omega)
 have hlt0:∀ g,(Value.slice (some ⟨w0.heap.size,0,none⟩) 0 0).ownBlock = some g → w.heap.size + 2 ≤ g:=fun g h => hoM.lt g h
 have hbM:=hb0.alloc hb0.size (.cells #[] 9)
 have hR1:=HR1.out _ hbM
 have hszM:w.heap.size + 2 ≤ (w0.alloc (.cells #[] 9)).heap.size:=by have:=HSZ0.out; simp; omega
 have lAM:=lA.alloc (.cells #[] 9)
 have lQM:=lQ.alloc (.cells #[] 9)
 have c0:=lAM.cell 0
 simp only [zA6,zAF] at c0
 have hi1:(0:Int) ≤ (r1:Int):=by omega
 have hi2:(r1:Int) ≤ (ac:Int):=by omega
 clear lA lQ
 go_upto_region 2 with ((with_reducible refine V.wpL_appendL (w.heap.size + 2) 9 iT _ 1 16 Tryz.underlying22 hiT hzT0 hzT1 hzT2 rfl (by decide) _ [] hoM _ (L1.map oneS) hR1 hu1 h631 h641 hszM ?_ ?_ ?_); rfl; rfl; intro v5 w1 hoX hgX; have hneA:some w.heap.size ≠ (Value.slice (some ⟨w0.heap.size,0,none⟩) 0 0).ownBlock:=(fun e => by have:=hlt0 w.heap.size e.symm; omega); have lA1:=lAM.only hgX hneA; have lQ1:=lQM.only hgX (fun e => by have:=hlt0 _ e.symm; omega); have hb1:=hbM.grown hgX (by omega) (fun k hk => by have:=hlt0 k hk; omega); have d0:=lA1.cell 0; simp only [zA6,zAF] at d0; have f0:=lA1.frozen 0; clear lAM lQM c0 hoM hbM hR1; obtain ⟨p1,n1,rfl,_,_,_⟩:=hoX.read.form; rw [hrc1] at hoX ⊢)
 have lA2:Lies (w1.setCell ⟨w.heap.size,0,none⟩ (.slice p1 r1 n1)) w.heap.size 24 #[.slice p1 r1 n1,.int .i64 need]:=lA1.put 0 (.slice p1 r1 n1)
 have lQ2:=lQ1.far (p:=⟨w.heap.size,0,none⟩) (show w.heap.size + 1 ≠ w.heap.size by omega) (.slice p1 r1 n1)
 have hO1:=hoX.far (g:=w.heap.size) (by omega) 0 (.slice p1 r1 n1)
 have hb2:=hb1.setCell (p:=⟨w.heap.size,0,none⟩) (zA3 _) (.slice p1 r1 n1)
 have hBB:w.heap.size + 2 ≤ (w1.setCell ⟨w.heap.size,0,none⟩ (.slice p1 r1 n1)).heap.size:=by have:=hgX.size; simp only [World.size_setCell]; omega
 clear lA1 lQ1 hoX hb1 d0 f0 hgX hneA
 generalize w1.setCell ⟨w.heap.size,0,none⟩ (.slice p1 r1 n1) = w2 at *
 have HR2:=Lib.hid (fun (w':World) (hb':Below w2.heap.size w2 w') => HRK.out w' (hb2.trans (hb'.mono hb2.size)))
 have HR3:=Lib.hid (fun (w':World) (hb':Below w2.heap.size w2 w') => HRS.out w' (hb2.trans (hb'.mono hb2.size)))
 clear hszM hlt0 hi1 hi2
 go_cut [1,2] from 25 to 38 (fun s1 s2 wx => ∃ (d1:Option Addr) (e1:Nat) (d2:Option Addr) (e2:Nat),s1 = .slice d1 r2 e1 ∧ s2 = .slice d2 r3 e2 ∧ OwnL wx w2.heap.size 51 2 (.slice d1 r2 e1) ([] ++ L2.map twoS) ∧ OwnL wx w2.heap.size 46 2 (.slice d2 r3 e2) ([] ++ L3.map twoS) ∧ (Value.slice d1 r2 e1).ownBlock ≠ (Value.slice d2 r3 e2).ownBlock ∧ Below w2.heap.size w2 wx)
 case first =>
   refine V.wp_held_any (S:=fun _ => True) 16 rfl (by kernel_rfl) ?_
   have HB:Below w2.heap.size w2 { w2 with drawn:=w2.drawn + 1 }:=(Below.refl _ _).drew
   generalize ({ w2 with drawn:=w2.drawn + 1 }:World) = wd at *
   refine V.held_put 1 26 (.slice kv keys.length kc) rfl rfl (by kernel_rfl) (by kernel_rfl) (by kernel_rfl) (by kernel_rfl) (fun w hS => rfl) trivial ?_
   simp only [zA0,zA2,zA1]
   refine V.held_put 2 27 (.slice kv keys.length kc) rfl rfl (by kernel_rfl) (by kernel_rfl) (by kernel_rfl) (by kernel_rfl) (fun w hS => rfl) trivial ?_
   simp only [zA0,zA2,zA1]
   refine V.held_put 3 28 (.int .i64 (keys.length:Int)) rfl rfl (by kernel_rfl) (by kernel_rfl) (by kernel_rfl) (by kernel_rfl) (fun w hS => run_lenK kv keys.length kc rfl w) trivial ?_
   simp only [zA0,zA2,zA1]
   refine V.held_put 4 29 (.int .i64 (r2:Int)) rfl rfl (by kernel_rfl) (by kernel_rfl) (by kernel_rfl) (by kernel_rfl) (fun w hS => run_minP _ 18 _ rfl hrI2 w) trivial ?_
   simp only [zA0,zA2,zA1]
   refine V.held_put 5 30 (sliced kv 0 r2 kc 2) rfl rfl (by kernel_rfl) (by kernel_rfl) (by kernel_rfl) (by kernel_rfl) (fun w hS => run_cutT _ 2 underK elemK _ _ _ _ (by omega) rfl rfl w) trivial ?_
   simp only [zA0,zA2,zA1]
   refine V.held_put 8 33 (.slice sv sigs.length sc) rfl rfl (by kernel_rfl) (by kernel_rfl) (by kernel_rfl) (by kernel_rfl) (fun w hS => rfl) trivial ?_
   simp only [zA0,zA2,zA1]
   refine V.held_put 9 34 (.slice sv sigs.length sc) rfl rfl (by kernel_rfl) (by kernel_rfl) (by kernel_rfl) (by kernel_rfl) (fun w hS => rfl) trivial ?_
   simp only [zA0,zA2,zA1]
   refine V.held_put 10 35 (.int .i64 (sigs.length:Int)) rfl rfl (by kernel_rfl) (by kernel_rfl) (by kernel_rfl) (by kernel_rfl) (fun w hS => run_lenS sv sigs.length sc rfl w) trivial ?_
   simp only [zA0,zA2,zA1]
   refine V.held_put 11 36 (.int .i64 (r3:Int)) rfl rfl (by kernel_rfl) (by kernel_rfl) (by kernel_rfl) (by kernel_rfl) (fun w hS => run_minP _ 18 _ rfl hrI3 w) trivial ?_
   simp only [zA0,zA2,zA1]
   refine V.held_put 12 37 (sliced sv 0 r3 sc 2) rfl rfl (by kernel_rfl) (by kernel_rfl) (by kernel_rfl) (by kernel_rfl) (fun w hS => run_cutT _ 2 underS elemS _ _ _ _ (by omega) rfl rfl w) trivial ?_
   simp only [zA0,zA2,zA1]
   refine V.held_two 0 7 (by kernel_rfl) (V.wpOp_put 25 (w':=wd.alloc (.cells #[] 51)) (v:=.slice (some ⟨wd.heap.size,0,none⟩) 0 0) rfl rfl (by kernel_rfl) (by kernel_rfl) ⟨trivial,?_⟩) (V.wpOp_put 32 (w':=wd.alloc (.cells #[] 46)) (v:=.slice (some ⟨wd.heap.size,0,none⟩) 0 0) rfl rfl (by kernel_rfl) (by kernel_rfl) ⟨trivial,?_⟩)
   · simp only [zA0,zA2,zA1]
     have OA:=OwnL.made wd w2.heap.size 51 2 HB.size
     replace HB:=HB.alloc HB.size (.cells #[] 51)
     generalize wd.alloc (.cells #[] 51) = w1x at *
     generalize wd.heap.size = gA at *
     refine V.held_two 6 7 (by kernel_rfl) (V.wpOp_lawD 31 rfl rfl (by kernel_rfl) (wpL_appendAt w2.heap.size 51 iK _ 2 32 Tryz.underlying25 hiK hzK0 hzK1 hzK2 rfl (by decide) _ [] OA _ (L2.map twoS) (HR2.out _ HB) hu2 h632 h642 HB.size rfl rfl ?_)) (V.wpOp_put 32 (w':=w1x.alloc (.cells #[] 46)) (v:=.slice (some ⟨w1x.heap.size,0,none⟩) 0 0) rfl rfl (by kernel_rfl) (by kernel_rfl) ⟨trivial,?_⟩)
     · intro vA w2x OA2 hg hat
       refine And.intro trivial ?_
       simp only [Act.put,zA0,zA2,zA1]
       replace HB:=HB.grown hg HB.size (fun k hk => OA.lt k hk)
       replace OA:=OA2
       clear OA2 hg hat
       refine V.held_one 7 (by kernel_rfl) (V.wpOp_put 32 (w':=w2x.alloc (.cells #[] 46)) (v:=.slice (some ⟨w2x.heap.size,0,none⟩) 0 0) rfl rfl (by kernel_rfl) (by kernel_rfl) ⟨trivial,?_⟩)
       simp only [zA0,zA2,zA1]
       have OB:=OwnL.made w2x w2.heap.size 46 2 HB.size
       have hbl:=(Below.refl w2x.heap.size w2x).alloc (zA3 _) (.cells #[] 46)
       have HN:vA.ownBlock ≠ (Value.slice (some ⟨w2x.heap.size,0,none⟩) 0 0).ownBlock:=own_in OA
       replace OA:=OA.on hbl
       clear hbl
       replace HB:=HB.alloc HB.size (.cells #[] 46)
       generalize w2x.alloc (.cells #[] 46) = w3x at *
       generalize w2x.heap.size = gB at *
       refine V.held_one 13 (by kernel_rfl) (V.wpOp_lawD 38 rfl rfl (by kernel_rfl) (wpL_appendAt w2.heap.size 46 iS _ 2 32 Tryz.underlying26 hiS hzS0 hzS1 hzS2 rfl (by decide) _ [] OB _ (L3.map twoS) (HR3.out _ HB) hu3 h633 h643 HB.size rfl rfl ?_))
       intro vB w4x OB2 hg hat
       refine And.intro trivial ?_
       simp only [Act.put,zA0,zA2,zA1]
       have HN2:=sep_app (v:=(Value.slice (some ⟨gB,0,none⟩) 0 0)) OA HN hat
       replace OA:=own_kept OA hg HN
       replace HN:=HN2
       clear HN2
       replace HB:=HB.grown hg HB.size (fun k hk => OB.lt k hk)
       replace OB:=OB2
       clear OB2 hg hat
       refine V.held_put 14 1 vA rfl rfl (by kernel_rfl) (by kernel_rfl) (by kernel_rfl) (by kernel_rfl) (fun w hS => rfl) trivial ?_
       simp only [zA0,zA2,zA1]
       refine V.held_put 15 2 vB rfl rfl (by kernel_rfl) (by kernel_rfl) (by kernel_rfl) (by kernel_rfl) (fun w hS => rfl) trivial ?_
       simp only [zA0,zA2,zA1]
       obtain ⟨d1,e1,rfl,_,_,_⟩:=OA.read.form
       obtain ⟨d2,e2,rfl,_,_,_⟩:=OB.read.form
       rw [hrc2] at OA HN ⊢
       rw [hrc3] at OB HN ⊢
       refine V.held_done (by kernel_rfl) ?_
       simp only [Exit.then]
       go_wp2_with fail
       go_meet
       exact ⟨d1,e1,d2,e2,rfl,rfl,OA,OB,HN,HB⟩
     · simp only [zA0,zA2,zA1]
       have OB:=OwnL.made w1x w2.heap.size 46 2 HB.size
       have hbl:=(Below.refl w1x.heap.size w1x).alloc (zA3 _) (.cells #[] 46)
       have HN:(Value.slice (some ⟨gA,0,none⟩) 0 0).ownBlock ≠ (Value.slice (some ⟨w1x.heap.size,0,none⟩) 0 0).ownBlock:=own_in OA
       replace OA:=OA.on hbl
       clear hbl
       replace HB:=HB.alloc HB.size (.cells #[] 46)
       generalize w1x.alloc (.cells #[] 46) = w5x at *
       generalize w1x.heap.size = gB at *
       refine V.held_one 6 (by kernel_rfl) (V.wpOp_lawD 31 rfl rfl (by kernel_rfl) (wpL_appendAt w2.heap.size 51 iK _ 2 32 Tryz.underlying25 hiK hzK0 hzK1 hzK2 rfl (by decide) _ [] OA _ (L2.map twoS) (HR2.out _ HB) hu2 h632 h642 HB.size rfl rfl ?_))
       intro vA w6x OA2 hg hat
       refine And.intro trivial ?_
       simp only [Act.put,zA0,zA2,zA1]
       have HN2:=Ne.symm (sep_app (v:=(Value.slice (some ⟨gA,0,none⟩) 0 0)) OB (Ne.symm HN) hat)
       replace OB:=own_kept OB hg (Ne.symm HN)
       replace HN:=HN2
       clear HN2
       replace HB:=HB.grown hg HB.size (fun k hk => OA.lt k hk)
       replace OA:=OA2
       clear OA2 hg hat
       refine V.held_one 13 (by kernel_rfl) (V.wpOp_lawD 38 rfl rfl (by kernel_rfl) (wpL_appendAt w2.heap.size 46 iS _ 2 32 Tryz.underlying26 hiS hzS0 hzS1 hzS2 rfl (by decide) _ [] OB _ (L3.map twoS) (HR3.out _ HB) hu3 h633 h643 HB.size rfl rfl ?_))
       intro vB w7x OB2 hg hat
       refine And.intro trivial ?_
       simp only [Act.put,zA0,zA2,zA1]
       have HN2:=sep_app (v:=(Value.slice (some ⟨gB,0,none⟩) 0 0)) OA HN hat
       replace OA:=own_kept OA hg HN
       replace HN:=HN2
       clear HN2
       replace HB:=HB.grown hg HB.size (fun k hk => OB.lt k hk)
       replace OB:=OB2
       clear OB2 hg hat
       refine V.held_put 14 1 vA rfl rfl (by kernel_rfl) (by kernel_rfl) (by kernel_rfl) (by kernel_rfl) (fun w hS => rfl) trivial ?_
       simp only [zA0,zA2,zA1]
       refine V.held_put 15 2 vB rfl rfl (by kernel_rfl) (by kernel_rfl) (by kernel_rfl) (by kernel_rfl) (fun w hS => rfl) trivial ?_
       simp only [zA0,zA2,zA1]
       obtain ⟨d1,e1,rfl,_,_,_⟩:=OA.read.form
       obtain ⟨d2,e2,rfl,_,_,_⟩:=OB.read.form
       rw [hrc2] at OA HN ⊢
       rw [hrc3] at OB HN ⊢
       refine V.held_done (by kernel_rfl) ?_
       simp only [Exit.then]
       go_wp2_with fail
       go_meet
       exact ⟨d1,e1,d2,e2,rfl,rfl,OA,OB,HN,HB⟩
   · simp only [zA0,zA2,zA1]
     have OB:=OwnL.made wd w2.heap.size 46 2 HB.size
     replace HB:=HB.alloc HB.size (.cells #[] 46)
     generalize wd.alloc (.cells #[] 46) = w8x at *
     generalize wd.heap.size = gB at *
     refine V.held_one 0 (by kernel_rfl) (V.wpOp_put 25 (w':=w8x.alloc (.cells #[] 51)) (v:=.slice (some ⟨w8x.heap.size,0,none⟩) 0 0) rfl rfl (by kernel_rfl) (by kernel_rfl) ⟨trivial,?_⟩)
     simp only [zA0,zA2,zA1]
     have OA:=OwnL.made w8x w2.heap.size 51 2 HB.size
     have hbl:=(Below.refl w8x.heap.size w8x).alloc (zA3 _) (.cells #[] 51)
     have HN:(Value.slice (some ⟨w8x.heap.size,0,none⟩) 0 0).ownBlock ≠ (Value.slice (some ⟨gB,0,none⟩) 0 0).ownBlock:=Ne.symm (own_in OB)
     replace OB:=OB.on hbl
     clear hbl
     replace HB:=HB.alloc HB.size (.cells #[] 51)
     generalize w8x.alloc (.cells #[] 51) = w9x at *
     generalize w8x.heap.size = gA at *
     refine V.held_one 6 (by kernel_rfl) (V.wpOp_lawD 31 rfl rfl (by kernel_rfl) (wpL_appendAt w2.heap.size 51 iK _ 2 32 Tryz.underlying25 hiK hzK0 hzK1 hzK2 rfl (by decide) _ [] OA _ (L2.map twoS) (HR2.out _ HB) hu2 h632 h642 HB.size rfl rfl ?_))
     intro vA w10x OA2 hg hat
     refine And.intro trivial ?_
     simp only [Act.put,zA0,zA2,zA1]
     have HN2:=Ne.symm (sep_app (v:=(Value.slice (some ⟨gA,0,none⟩) 0 0)) OB (Ne.symm HN) hat)
     replace OB:=own_kept OB hg (Ne.symm HN)
     replace HN:=HN2
     clear HN2
     replace HB:=HB.grown hg HB.size (fun k hk => OA.lt k hk)
     replace OA:=OA2
     clear OA2 hg hat
     refine V.held_one 13 (by kernel_rfl) (V.wpOp_lawD 38 rfl rfl (by kernel_rfl) (wpL_appendAt w2.heap.size 46 iS _ 2 32 Tryz.underlying26 hiS hzS0 hzS1 hzS2 rfl (by decide) _ [] OB _ (L3.map twoS) (HR3.out _ HB) hu3 h633 h643 HB.size rfl rfl ?_))
     intro vB w11x OB2 hg hat
     refine And.intro trivial ?_
     simp only [Act.put,zA0,zA2,zA1]
     have HN2:=sep_app (v:=(Value.slice (some ⟨gB,0,none⟩) 0 0)) OA HN hat
     replace OA:=own_kept OA hg HN
     replace HN:=HN2
     clear HN2
     replace HB:=HB.grown hg HB.size (fun k hk => OB.lt k hk)
     replace OB:=OB2
     clear OB2 hg hat
     refine V.held_put 14 1 vA rfl rfl (by kernel_rfl) (by kernel_rfl) (by kernel_rfl) (by kernel_rfl) (fun w hS => rfl) trivial ?_
     simp only [zA0,zA2,zA1]
     refine V.held_put 15 2 vB rfl rfl (by kernel_rfl) (by kernel_rfl) (by kernel_rfl) (by kernel_rfl) (fun w hS => rfl) trivial ?_
     simp only [zA0,zA2,zA1]
     obtain ⟨d1,e1,rfl,_,_,_⟩:=OA.read.form
     obtain ⟨d2,e2,rfl,_,_,_⟩:=OB.read.form
     rw [hrc2] at OA HN ⊢
     rw [hrc3] at OB HN ⊢
     refine V.held_done (by kernel_rfl) ?_
     simp only [Exit.then]
     go_wp2_with fail
     go_meet
     exact ⟨d1,e1,d2,e2,rfl,rfl,OA,OB,HN,HB⟩
 case rest =>
   obtain ⟨d1,e1,d2,e2,rfl,rfl,OA,OB,HN,HB⟩:=hcut
   rw [zBU] at OA OB hO1
   have hF:FewAt w wc w2.heap.size w.heap.size (.slice p1 r1 n1) (.slice d1 r2 e1) (.slice d2 r3 e2) need (cutTo (cutN 70) L1 0) (cutTo cutK L2 0) (cutTo cutS L3 0):=
     ⟨rfl,hBB,lA2.on HB,lQ2.on HB,hO1.on HB,fun g h => (hO1.2.lt g h).2,OA,OB,HN,hb2.trans (HB.mono hb2.size)⟩
   clear OA OB HN HB hO1 lA2 lQ2 HR2 HR3 hu2 hu3 h632 h633 h642 h643 hrc1 hrc2 hrc3 hrI1 hrI2 hrI3 hra1 hra2 hra3 hc1 hc2 hc3 HR1 HRK HRS hu1 h631 h641 hb0 HSZ0 hBB hb2
   have HF:=Lib.hid hF
   have q0:=hF.a.cell 0
   simp only [zA6,zAF] at q0
   clear hF
   go_wp2
   clear q0
   go_loopw [9,10,42] (fun _ _ iv wr => ∃ j:Nat,iv = .int .i64 (j:Int) ∧ j ≤ r1 ∧ Hid (FewAt w wr w2.heap.size w.heap.size (.slice p1 r1 n1) (.slice d1 r2 e1) (.slice d2 r3 e2) need (cutTo (cutN 70) L1 j) (cutTo cutK L2 0) (cutTo cutS L3 0))) (fun _ _ iv _ => r1 - (intOf iv).toNat)
   case atStart => exact ⟨0,rfl,zAR _,HF⟩
   case round =>
     clear HF
     obtain ⟨j,rfl,hj,HF⟩:=hrel
     by_cases hlt:j < r1
     case pos =>
       have hF:=HF.out
       obtain ⟨x,hx⟩:∃ x,L1[j]? = some x:=⟨_,zA5 (by have:=HLl1.out; omega)⟩
       have hlen:=cutTo_len (cutN 70) L1 j
       rcases own_at hF.r1 with ⟨_,hnil⟩ | ⟨g,cc,hv,hBg,hgl,hcc,hcm,hcell,_⟩
       · rw [hnil] at hlen
         have:=HLl1.out
         simp at hlen
         omega
       rw [hlen,HLl1.out] at hv
       injection hv with hv1 hv2 hv3
       subst hv1 hv3
       obtain ⟨q0,f0⟩:=hcell j x (cutTo_at hx)
       have c0:=hF.a.cell 0
       simp only [zA6,zAF] at c0
       have hP:=hF.put1 (j:=j) (by rw [hlen]; have:=HLl1.out; omega) (cutN 70 x)
       rw [cutTo_set hx] at hP
       have HP:=Lib.hid hP
       have HJ:=Lib.hid hlt
       have i1:(j:Int) < (r1:Int):=by omega
       have i2:(0:Int) ≤ (j:Int):=by omega
       have m1:(0:Int) ≤ min (x.size:Int) 70:=by omega
       have m2:min (x.size:Int) 70 ≤ (x.size:Int):=by omega
       clear hF HF hx hlen hBg hgl hcc hcm hcell hP hlt hv2
       go_upto_region 6 with fail
       go_region
       go_wp2
       go_roundw
       case rel => exact ⟨j + 1,by go_num,HJ.out,Lib.hid (HP.out.on (Below.refl _ _).drew)⟩
       case measure =>
         have:=HJ.out
         simp [intOf]; omega
     have hjr:j = r1:=by omega
     subst j
     have i1:¬ (r1:Int) < (r1:Int):=by omega
     replace HF:=Lib.hid (show FewAt w wr w2.heap.size w.heap.size (.slice p1 r1 n1) (.slice d1 r2 e1) (.slice d2 r3 e2) need (L1.map (cutN 70)) (cutTo cutK L2 0) (cutTo cutS L3 0) by
       have h:=HF.out
       have h2:=cutTo_all (cutN 70) L1
       rw [HLl1.out] at h2
       rwa [h2] at h)
     clear hlt hj
     go_wp2
     go_loopw [11,12,59] (fun _ _ iv wr => ∃ j:Nat,iv = .int .i64 (j:Int) ∧ j ≤ r2 ∧ Hid (FewAt w wr w2.heap.size w.heap.size (.slice p1 r1 n1) (.slice d1 r2 e1) (.slice d2 r3 e2) need (L1.map (cutN 70)) (cutTo cutK L2 j) (cutTo cutS L3 0))) (fun _ _ iv _ => r2 - (intOf iv).toNat)
     case atStart => exact ⟨0,rfl,zAR _,HF⟩
     case round =>
       clear HF
       obtain ⟨j,rfl,hj,HF⟩:=hrel
       by_cases hlt:j < r2
       case pos =>
         have hF:=HF.out
         obtain ⟨k,hx⟩:∃ x,L2[j]? = some x:=⟨_,zA5 (by have:=HLl2.out; omega)⟩
         have hlen:=cutTo_len cutK L2 j
         rcases own_form hF.r2 with ⟨_,hnil⟩ | ⟨g,cc,hv,hBg,hgl⟩
         · have h0:=congrArg List.length hnil
           rw [zAG,hlen] at h0
           rw [List.length_nil] at h0
           have:=HLl2.out
           omega
         rw [zAG,hlen,HLl2.out] at hv
         injection hv with hv1 hv2 hv3
         subst hv1 hv3
         have hjl:j < ((cutTo cutK L2 j).map twoS).length:=by rw [zAG,hlen]; have:=HLl2.out; omega
         obtain ⟨b9,off9,he9,hr,_⟩:=hF.r2.read.at (i:=j) (cs:=twoS k) (by rw [zAD,cutTo_at hx]; rfl)
         injection he9 with he9
         injection he9 with z1 z2
         subst z1 z2
         rw [zAQ] at hr
         obtain ⟨id,pub⟩:=k
         have HJ:=Lib.hid hlt
         have i1:(j:Int) < (r2:Int):=by omega
         have i2:(0:Int) ≤ (j:Int):=by omega
         have m1:(0:Int) ≤ min (id.size:Int) 70:=by omega
         have m2:min (id.size:Int) 70 ≤ (id.size:Int):=by omega
         have m3:(0:Int) ≤ min (pub.size:Int) 40:=by omega
         have m4:min (pub.size:Int) 40 ≤ (pub.size:Int):=by omega
         have lZ:=Lies.new wr 51 #[.string ⟨#[]⟩,.string ⟨#[]⟩]
         have hbZ:=V.below_rowSet ((Below.refl wr.heap.size wr).alloc (zA3 _) (.cells #[.string ⟨#[]⟩,.string ⟨#[]⟩] 51)) (zA3 _) #[.string id,.string pub]
         have hF2:=hF.on hbZ
         have hgne:g < wr.heap.size:=hgl
         clear hF HF
         go_upto_region 11 with (first
           | ((with_reducible refine V.wpL_loadMid g (j * 2) _ 2 rowKey rfl hr ?_ ?_); rfl)
           | ((with_reducible refine V.wpL_store wr.heap.size 51 _ #[.string id,.string pub] 2 rowKey rfl rfl (two_one _ _) lZ ?_ ?_ ?_); rfl; rfl))
         have lK:=lZ.row #[.string id,.string pub]
         generalize World.setRow _ _ _ = w3 at *
         simp only [Act.put]
         have q0:=lK.cell 0; have q1:=lK.cell 1; simp only [zA6,zAN,zAF] at q0 q1
         have hth:=own_there hF2.r2 hjl
         obtain ⟨b8,off8,he8,hr8,_⟩:=hF2.r2.read.at (i:=j) (cs:=twoS (id,pub)) (by rw [zAD,cutTo_at hx]; rfl)
         injection he8 with he8
         injection he8 with z1 z2
         subst z1 z2
         rw [zAQ] at hr8
         have t0:=hr8 0 (.string id) rfl
         have t1:=hr8 1 (.string pub) rfl
         rw [zAZ] at t0
         have f0:=(hth 0 (by decide)).2
         have f1:=(hth 1 (by decide)).2
         rw [zAZ] at f0
         have hP:=hF2.put2 (j:=j) (by rw [hlen]; have:=HLl2.out; omega) (cutK (id,pub)).1 (cutK (id,pub)).2
         rw [show ((cutK (id,pub)).1,(cutK (id,pub)).2) = cutK (id,pub) from rfl,cutTo_set hx] at hP
         have HP:=Lib.hid hP
         have hg3:g ≠ wr.heap.size:=by omega
         clear hF2 hx hlen hBg hgl hr hr8 hth hP hlt hv2 lZ hbZ hjl lK hgne
         go_region
         go_wp2
         go_roundw
         case rel => exact ⟨j + 1,by go_num,HJ.out,Lib.hid (HP.out.on (Below.refl _ _).drew)⟩
         case measure =>
           have:=HJ.out
           simp [intOf]; omega
       have hjr:j = r2:=by omega
       subst j
       have i1:¬ (r2:Int) < (r2:Int):=by omega
       replace HF:=Lib.hid (show FewAt w wr w2.heap.size w.heap.size (.slice p1 r1 n1) (.slice d1 r2 e1) (.slice d2 r3 e2) need (L1.map (cutN 70)) (L2.map cutK) (cutTo cutS L3 0) by
         have h:=HF.out
         have h2:=cutTo_all cutK L2
         rw [HLl2.out] at h2
         rwa [h2] at h)
       clear hlt hj
       go_wp2
       go_loopw [13,14,85] (fun _ _ iv wr => ∃ j:Nat,iv = .int .i64 (j:Int) ∧ j ≤ r3 ∧ Hid (FewAt w wr w2.heap.size w.heap.size (.slice p1 r1 n1) (.slice d1 r2 e1) (.slice d2 r3 e2) need (L1.map (cutN 70)) (L2.map cutK) (cutTo cutS L3 j))) (fun _ _ iv _ => r3 - (intOf iv).toNat)
       case atStart => exact ⟨0,rfl,zAR _,HF⟩
       case round =>
         clear HF
         obtain ⟨j,rfl,hj,HF⟩:=hrel
         by_cases hlt:j < r3
         case pos =>
           have hF:=HF.out
           obtain ⟨k,hx⟩:∃ x,L3[j]? = some x:=⟨_,zA5 (by have:=HLl3.out; omega)⟩
           have hlen:=cutTo_len cutS L3 j
           rcases own_form hF.r3 with ⟨_,hnil⟩ | ⟨g,cc,hv,hBg,hgl⟩
           · have h0:=congrArg List.length hnil
             rw [zAG,hlen] at h0
             rw [List.length_nil] at h0
             have:=HLl3.out
             omega
           rw [zAG,hlen,HLl3.out] at hv
           injection hv with hv1 hv2 hv3
           subst hv1 hv3
           have hjl:j < ((cutTo cutS L3 j).map twoS).length:=by rw [zAG,hlen]; have:=HLl3.out; omega
           obtain ⟨b9,off9,he9,hr,_⟩:=hF.r3.read.at (i:=j) (cs:=twoS k) (by rw [zAD,cutTo_at hx]; rfl)
           injection he9 with he9
           injection he9 with z1 z2
           subst z1 z2
           rw [zAQ] at hr
           obtain ⟨id,pub⟩:=k
           have HJ:=Lib.hid hlt
           have i1:(j:Int) < (r3:Int):=by omega
           have i2:(0:Int) ≤ (j:Int):=by omega
           have m1:(0:Int) ≤ min (id.size:Int) 70:=by omega
           have m2:min (id.size:Int) 70 ≤ (id.size:Int):=by omega
           have m3:(0:Int) ≤ min (pub.size:Int) 70:=by omega
           have m4:min (pub.size:Int) 70 ≤ (pub.size:Int):=by omega
           have lZ:=Lies.new wr 46 #[.string ⟨#[]⟩,.string ⟨#[]⟩]
           have hbZ:=V.below_rowSet ((Below.refl wr.heap.size wr).alloc (zA3 _) (.cells #[.string ⟨#[]⟩,.string ⟨#[]⟩] 46)) (zA3 _) #[.string id,.string pub]
           have hF2:=hF.on hbZ
           have hgne:g < wr.heap.size:=hgl
           clear hF HF
           go_upto_region 16 with (first
             | ((with_reducible refine V.wpL_loadMid g (j * 2) _ 2 rowSig rfl hr ?_ ?_); rfl)
             | ((with_reducible refine V.wpL_store wr.heap.size 46 _ #[.string id,.string pub] 2 rowSig rfl rfl (two_one _ _) lZ ?_ ?_ ?_); rfl; rfl))
           have lK:=lZ.row #[.string id,.string pub]
           generalize World.setRow _ _ _ = w3 at *
           simp only [Act.put]
           have q0:=lK.cell 0; have q1:=lK.cell 1; simp only [zA6,zAN,zAF] at q0 q1
           have hth:=own_there hF2.r3 hjl
           obtain ⟨b8,off8,he8,hr8,_⟩:=hF2.r3.read.at (i:=j) (cs:=twoS (id,pub)) (by rw [zAD,cutTo_at hx]; rfl)
           injection he8 with he8
           injection he8 with z1 z2
           subst z1 z2
           rw [zAQ] at hr8
           have t0:=hr8 0 (.string id) rfl
           have t1:=hr8 1 (.string pub) rfl
           rw [zAZ] at t0
           have f0:=(hth 0 (by decide)).2
           have f1:=(hth 1 (by decide)).2
           rw [zAZ] at f0
           have hP:=hF2.put3 (j:=j) (by rw [hlen]; have:=HLl3.out; omega) (cutS (id,pub)).1 (cutS (id,pub)).2
           rw [show ((cutS (id,pub)).1,(cutS (id,pub)).2) = cutS (id,pub) from rfl,cutTo_set hx] at hP
           have HP:=Lib.hid hP
           have hg3:g ≠ wr.heap.size:=by omega
           clear hF2 hx hlen hBg hgl hr hr8 hth hP hlt hv2 lZ hbZ hjl lK hgne
           go_region
           go_wp2
           go_roundw
           case rel => exact ⟨j + 1,by go_num,HJ.out,Lib.hid (HP.out.on (Below.refl _ _).drew)⟩
           case measure =>
             have:=HJ.out
             simp [intOf]; omega
         have hjr:j = r3:=by omega
         subst j
         have i1:¬ (r3:Int) < (r3:Int):=by omega
         replace HF:=Lib.hid (show FewAt w wr w2.heap.size w.heap.size (.slice p1 r1 n1) (.slice d1 r2 e1) (.slice d2 r3 e2) need (L1.map (cutN 70)) (L2.map cutK) (L3.map cutS) by
           have h:=HF.out
           have h2:=cutTo_all cutS L3
           rw [HLl3.out] at h2
           rwa [h2] at h)
         clear hlt hj
         have hF:=HF.out
         clear HF
         have e1_:(L1.map (cutN 70)).length = r1:=by rw [zAG]; exact HLl1.out
         have e2_:(L2.map cutK).length = r2:=by rw [zAG]; exact HLl2.out
         have e3_:(L3.map cutS).length = r3:=by rw [zAG]; exact HLl3.out
         have hq:=hF.q
         have ha:=hF.a
         have hfin:=Lib.hid (show FewPost w ids need keys sigs (.returned (.tuple #[.agg #[.slice p1 r1 n1,.int .i64 need],.slice d1 r2 e1,.slice d2 r3 e2])) (wr.setRow (w.heap.size + 1) #[.slice p1 r1 n1,.int .i64 need]) by
           rw [HFin.out]
           have h1:=own_base (own_rowFar hF.r1 (g:=w.heap.size + 1) (by omega) #[.slice p1 r1 n1,.int .i64 need]) (B:=w.heap.size) (by omega)
           have h2:=own_base (own_rowFar hF.r2 (g:=w.heap.size + 1) (by have:=hF.hB; omega) #[.slice p1 r1 n1,.int .i64 need]) (B:=w.heap.size) (by have:=hF.hB; omega)
           have h3:=own_base (own_rowFar hF.r3 (g:=w.heap.size + 1) (by have:=hF.hB; omega) #[.slice p1 r1 n1,.int .i64 need]) (B:=w.heap.size) (by have:=hF.hB; omega)
           refine ⟨p1,n1,d1,e1,d2,e2,by rw [e1_,e2_,e3_],⟨?_,?_,?_⟩,V.below_rowSet hF.b (zBP _) _⟩
           · rw [e1_]; exact h1
           · rw [e2_]; exact h2
           · rw [e3_]; exact h3)
         have hres:=hq.row #[.slice p1 r1 n1,.int .i64 need]
         clear hF e1_ e2_ e3_ HLl1 HLl2 HLl3 HFin
         go_wp2_with (first
           | ((with_reducible refine V.wpL_load w.heap.size 24 #[.slice p1 r1 n1,.int .i64 need] 2 rowRole rfl ha ?_ ?_); rfl)
           | ((with_reducible refine V.wpL_store (w.heap.size + 1) 24 #[.slice none 0 0,.int .i64 0] #[.slice p1 r1 n1,.int .i64 need] 2 rowRole rfl rfl (role_one _ _ _ _) hq ?_ ?_ ?_); rfl; rfl))
         exact bodyPost_ret (res_three Tryz.results8 rowRole rfl hres rfl rfl rfl) rfl hfin.out
end Go.Proofs.YteecbglmohhaeaaGreatDoor.O
namespace Go.Proofs.YteecbglmohhaeaaGreatDoor.O
open Go.RowKit Go.Sort Go.Proofs.YteecbglmohhaeaaGreatDoor.E
open C (Pts)
open V (Lies OwnL RowL reg lessL bytesLess_is)
theorem isId_any (s:ByteArray) (hs:s.size ≤ 1000000) (w:World):Calls Tryz.prog 28 #[.string s] w fun e w' => e = .returned (.bool (isSumB s)) ∧ Below w.heap.size w w':=by
 have HU:=Lib.hid (fun (w:World) => refUnhex_any s w hs)
 unfold isSumB
 by_cases h:s.size = 64
 · have hi:((s.size:Int) == 64) = true:=by rw [h]; rfl
   rw [decide_eq_true h,zC7]
   clear hs h
   generalize unhexS s.data.toList = X at *
   cases hu:unhexB s.data.toList with
   | false =>
     rw [hu] at HU
     go_enter Tryz.func28,Tryz.ntmps28
     go_wp2_with (go_at_call 44; (with_reducible refine (HU.out _).mono ?_); rintro e w1 ⟨rfl,hb⟩)
     go_ret
     exact ⟨rfl,hb⟩
   | true =>
     rw [hu] at HU
     go_enter Tryz.func28,Tryz.ntmps28
     go_wp2_with (go_at_call 44; (with_reducible refine (HU.out _).mono ?_); rintro e w1 ⟨rfl,hb⟩)
     go_ret
     exact ⟨rfl,hb⟩
 · have hi:((s.size:Int) == 64) = false:=by simp; omega
   rw [decide_eq_false h,zC8]
   clear hs h
   generalize unhexS s.data.toList = X at *
   generalize unhexB s.data.toList = B0 at *
   cases B0 with
   | false =>
     go_enter Tryz.func28,Tryz.ntmps28
     go_wp2_with (go_at_call 44; (with_reducible refine (HU.out _).mono ?_); rintro e w1 ⟨rfl,hb⟩)
     go_ret
     exact ⟨rfl,hb⟩
   | true =>
     go_enter Tryz.func28,Tryz.ntmps28
     go_wp2_with (go_at_call 44; (with_reducible refine (HU.out _).mono ?_); rintro e w1 ⟨rfl,hb⟩)
     go_ret
     exact ⟨rfl,hb⟩
theorem less_lists (x y:ByteArray):lessL x.data.toList y.data.toList = lessB x y:=rfl
set_option maxHeartbeats 6400000 in
theorem rright_any (av:Option Addr) (cv:Nat) (ids:List ByteArray) (need:Int) (w:World) (hl:RowL w 1 (.slice av ids.length cv) (ids.map oneS)) (hs:∀ x ∈ ids,x.size ≤ 1000) :
   Calls Tryz.prog 12 #[.agg #[.slice av ids.length cv,.int .i64 need]] w fun e w' => e = .returned (.bool (rightR ids need)) ∧ Below w.heap.size w w':=by
 have hcap:ids.length ≤ 9223372036854775807:=by
   obtain ⟨a',c',e,h1,h2,_⟩:=hl.form
   injection e with _ _ e3
   rw [zAG] at h1
   unfold maxLen at h2
   omega
 have lA:=Lies.new w 24 #[.slice av ids.length cv,.int .i64 need]
 have hb0:=(Below.refl w.heap.size w).alloc (zA3 _) (.cells #[.slice av ids.length cv,.int .i64 need] 24)
 by_cases hok:(ids.length:Int) ≠ 0 ∧ ¬ (16:Int) < (ids.length:Int) ∧ ¬ need < 1 ∧ ¬ (ids.length:Int) < need
 case neg =>
   rw [show rightR ids need = false by
     unfold rightR
     by_cases h1:ids.length ≤ 16
     · rw [decide_eq_false (show ¬ (1 ≤ need ∧ need ≤ (ids.length:Int)) by omega),Bool.and_false]; rfl
     · rw [decide_eq_false h1]; rfl]
   have hor:(ids.length:Int) = 0 ∨ (ids.length:Int) ≠ 0 ∧ (16:Int) < (ids.length:Int) ∨ (ids.length:Int) ≠ 0 ∧ ¬ (16:Int) < (ids.length:Int) ∧ need < 1 ∨ (ids.length:Int) ≠ 0 ∧ ¬ (16:Int) < (ids.length:Int) ∧ ¬ need < 1 ∧ (ids.length:Int) < need:=by omega
   clear hok
   rcases hor with h1 | ⟨h1,h2⟩ | ⟨h1,h2,h3⟩ | ⟨h1,h2,h3,h4⟩
   · have i0:((ids.length:Int) == 0) = true:=by rw [h1]; rfl
     go_enter Tryz.func12,Tryz.ntmps12
     go_upto_region 1 with fail
     generalize World.alloc w _ = wa at *
     have q0:=lA.cell 0; have q1:=lA.cell 1; simp only [zA6,zAN,zAF] at q0 q1
     clear hl lA h1
     go_wp2
     go_ret
     exact ⟨rfl,hb0⟩
   · have i0:((ids.length:Int) == 0) = false:=by rw [beq_eq_false_iff_ne]; exact h1
     go_enter Tryz.func12,Tryz.ntmps12
     go_upto_region 1 with fail
     generalize World.alloc w _ = wa at *
     have q0:=lA.cell 0; have q1:=lA.cell 1; simp only [zA6,zAN,zAF] at q0 q1
     clear hl lA h1
     go_wp2
     go_ret
     exact ⟨rfl,hb0⟩
   · have i0:((ids.length:Int) == 0) = false:=by rw [beq_eq_false_iff_ne]; exact h1
     go_enter Tryz.func12,Tryz.ntmps12
     go_upto_region 1 with fail
     generalize World.alloc w _ = wa at *
     have q0:=lA.cell 0; have q1:=lA.cell 1; simp only [zA6,zAN,zAF] at q0 q1
     clear hl lA h1
     go_wp2
     go_ret
     exact ⟨rfl,hb0⟩
   · have i0:((ids.length:Int) == 0) = false:=by rw [beq_eq_false_iff_ne]; exact h1
     go_enter Tryz.func12,Tryz.ntmps12
     go_upto_region 1 with fail
     generalize World.alloc w _ = wa at *
     have q0:=lA.cell 0; have q1:=lA.cell 1; simp only [zA6,zAN,zAF] at q0 q1
     clear hl lA h1
     go_wp2
     go_ret
     exact ⟨rfl,hb0⟩
 obtain ⟨h1,h2,h3,h4⟩:=hok
 have hR0:rightR ids need = allTo (stepR ids) ids.length:=by
   unfold rightR
   rw [decide_eq_true (show ids.length ≤ 16 by omega),decide_eq_true (show 1 ≤ need ∧ need ≤ (ids.length:Int) by omega)]
   rfl
 rw [hR0]
 obtain ⟨R,hR⟩:∃ R,allTo (stepR ids) ids.length = R:=⟨_,rfl⟩
 rw [hR]
 have HR:=Lib.hid hR
 clear hR hR0
 have HL:=Lib.hid (fun (w1:World) (hb:Below w.heap.size w w1) => hl.below hb)
 have HS:=Lib.hid hs
 go_enter Tryz.func12,Tryz.ntmps12
 go_upto_region 1 with fail
 generalize World.alloc w _ = wa at *
 have q0:=lA.cell 0; have q1:=lA.cell 1; simp only [zA6,zAN,zAF] at q0 q1
 clear hl hs
 have i0:((ids.length:Int) == 0) = false:=by rw [beq_eq_false_iff_ne]; exact h1
 clear h1
 go_wp2
 clear h2 h3 h4 i0
 go_loopw [4,5,29] (fun _ _ iv wr => ∃ j:Nat,iv = .int .i64 (j:Int) ∧ j ≤ ids.length ∧ Hid (allTo (stepR ids) j = true) ∧ Lies wr w.heap.size 24 #[.slice av ids.length cv,.int .i64 need] ∧ Below w.heap.size w wr) (fun _ _ iv _ => ids.length - (intOf iv).toNat)
 case atStart => exact ⟨0,rfl,zAR _,Lib.hid (allTo_zero _),lA,hb0⟩
 case round =>
   clear hb0 q0 q1 lA
   obtain ⟨j,rfl,hj,HT,lA,hb⟩:=hrel
   by_cases hlt:j < ids.length
   case neg =>
     obtain rfl:j = ids.length:=by omega
     have i1:¬ ((ids.length:Int) < (ids.length:Int)):=by omega
     obtain rfl:R = true:=HR.out.symm.trans HT.out
     go_wp2
     go_ret
     exact ⟨rfl,hb⟩
   have i1:(j:Int) < (ids.length:Int):=by omega
   have i3:(0:Int) ≤ (j:Int):=by omega
   obtain ⟨x,hx⟩:∃ x,ids[j]? = some x:=⟨_,zA5 hlt⟩
   have hxs:=HS.out x (zAU hx)
   obtain ⟨b,off,rfl,hr,_⟩:=(HL.out _ hb).at (i:=j) (cs:=oneS x) (by rw [zAD,hx]; rfl)
   have q0:=hr 0 (.string x) rfl
   rw [zBO,zAZ] at q0
   have hst:stepR ids j = (isSumB x && lessB (prevB ids j) x):=by unfold stepR; rw [zA4,hx]; rfl
   have HI:=Lib.hid (fun (w:World) => isId_any x (by omega) w)
   have HJ:=Lib.hid hlt
   cases hsx:isSumB x with
   | false =>
     rw [hsx] at HI
     rw [hsx,zC8] at hst
     obtain rfl:R = false:=HR.out.symm.trans (allTo_bad HJ.out hst)
     clear hst hsx hx hr
     go_wp2_with (go_at_call 28; (with_reducible refine (HI.out _).mono ?_); rintro e w1 ⟨rfl,hb1⟩)
     go_ret
     exact ⟨rfl,hb.trans (hb1.mono hb.size)⟩
   | true =>
     rw [hsx] at HI
     rw [hsx,zC7] at hst
     by_cases hj0:j = 0
     · have hst2:stepR ids j = true:=by
         rw [hst,hj0,prev_zero]
         refine less_no ?_
         unfold isSumB at hsx
         rw [zAI] at hsx
         have:=of_decide_eq_true hsx.1
         omega
       have HT2:=Lib.hid (show allTo (stepR ids) (j + 1) = true by rw [allTo_succ,HT.out,hst2]; rfl)
       have i6:¬ (0:Int) < (j:Int):=by omega
       clear hst hst2 hsx hx hr HT hlt hj0
       go_wp2_with (go_at_call 28; (with_reducible refine (HI.out _).mono ?_); rintro e w1 ⟨rfl,hb1⟩)
       go_roundw
       case rel => exact ⟨j + 1,by go_num,HJ.out,HT2,lA.on hb1,hb.trans (hb1.mono hb.size)⟩
       case measure =>
         have:=HJ.out
         simp [intOf]; omega
     obtain ⟨m,rfl⟩:∃ m,j = m + 1:=⟨j - 1,by omega⟩
     obtain ⟨y,hy⟩:∃ y,ids[m]? = some y:=⟨_,zA5 (by omega)⟩
     rw [prev_succ hy] at hst
     obtain ⟨b9,off9,he9,hr9,_⟩:=(HL.out _ hb).at (i:=m) (cs:=oneS y) (by rw [zAD,hy]; rfl)
     injection he9 with he9
     injection he9 with e1 e2
     subst e1 e2
     have hry:=hr9 0 (.string y) rfl
     rw [zBO,zAZ] at hry
     have HY:=Lib.hid (fun (w1:World) (hb1:Below wr.heap.size wr w1) => (hb1.cell (p:=⟨b,off + m,none⟩) (World.block_lt_of_cell? wr _ hry)).trans hry)
     have hys:=HS.out y (zAU hy)
     have HLs:=Lib.hid (fun (w:World) => V.refLess_any y x w (by unfold maxLen; omega))
     rw [less_lists] at HLs
     have i5:IntKind.i64.wrap (((m + 1:Nat):Int) - 1) = (m:Int):=by rw [IntWalk.i64_in _ (by omega)]; omega
     have i6:(0:Int) < ((m + 1:Nat):Int):=by omega
     have i7:(m:Int) < (ids.length:Int):=by omega
     have i8:(0:Int) ≤ (m:Int):=by omega
     have i9:((m + 1:Nat):Int) - 1 = (m:Int):=by omega
     clear hr hr9 hry hys hxs hj0
     cases hls:lessB y x with
     | false =>
       rw [hls] at hst HLs
       obtain rfl:R = false:=HR.out.symm.trans (allTo_bad HJ.out hst)
       clear hst hsx hx hls hy hlt
       go_wp2_with (first
         | (go_at_call 28; (with_reducible refine (HI.out _).mono ?_); rintro e w1 ⟨rfl,hb1⟩; have lA1:=lA.on hb1; have c0:=lA1.cell 0; simp only [zA6,zAF] at c0; have c1:=HY.out _ hb1)
         | (go_at_call 29; (with_reducible refine (HLs.out _).mono ?_); rintro e w2 ⟨rfl,hb2⟩))
       go_ret
       exact ⟨rfl,hb.trans ((hb1.trans (hb2.mono hb1.size)).mono hb.size)⟩
     | true =>
       rw [hls] at hst HLs
       have HT2:=Lib.hid (show allTo (stepR ids) (m + 1 + 1) = true by rw [allTo_succ,HT.out,hst]; rfl)
       clear hst hsx hx hls hy HT hlt
       go_wp2_with (first
         | (go_at_call 28; (with_reducible refine (HI.out _).mono ?_); rintro e w1 ⟨rfl,hb1⟩; have lA1:=lA.on hb1; have c0:=lA1.cell 0; simp only [zA6,zAF] at c0; have c1:=HY.out _ hb1)
         | (go_at_call 29; (with_reducible refine (HLs.out _).mono ?_); rintro e w2 ⟨rfl,hb2⟩))
       go_roundw
       case rel => exact ⟨m + 1 + 1,by go_num,HJ.out,HT2,lA1.on hb2,hb.trans ((hb1.trans (hb2.mono hb1.size)).mono hb.size)⟩
       case measure =>
         have:=HJ.out
         simp [intOf]; omega
end Go.Proofs.YteecbglmohhaeaaGreatDoor.O
namespace Go.Proofs.YteecbglmohhaeaaGreatDoor.O
open Go.RowKit Go.Sort Go.Proofs.YteecbglmohhaeaaGreatDoor.E
open C (Pts)
open V (Lies OwnL RowL reg lessL bytesLess_is)
theorem keys_bad {ks:List B2} {j:Nat} (hj:j < ks.length) (h:stepK ks j = false):keysR ks = false:=by
 unfold keysR
 rw [allTo_bad hj h,Bool.and_false]
theorem keys_all {ks:List B2} (h:allTo (stepK ks) ks.length = true):keysR ks = decide (ks.length ≤ 16):=by
 unfold keysR
 rw [h,Bool.and_true]
set_option maxHeartbeats 6400000 in
theorem rkeys_any (av:Option Addr) (cv:Nat) (ks:List B2) (w:World) (hl:RowL w 2 (.slice av ks.length cv) (ks.map twoS)) (hs:∀ k ∈ ks,k.1.size ≤ 1000) :
   Calls Tryz.prog 14 #[.slice av ks.length cv] w fun e w' => e = .returned (.bool (keysR ks)) ∧ Below w.heap.size w w':=by
 have hcap:ks.length ≤ 9223372036854775807:=by
   obtain ⟨a',c',e,h1,h2,_⟩:=hl.form
   injection e with _ _ e3
   rw [zAG] at h1
   unfold maxLen at h2
   omega
 obtain ⟨R,hR⟩:∃ R,keysR ks = R:=⟨_,rfl⟩
 rw [hR]
 have HR:=Lib.hid hR
 clear hR
 have HL:=Lib.hid (fun (w1:World) (hb:Below w.heap.size w w1) => hl.below hb)
 have HS:=Lib.hid hs
 go_enter Tryz.func14,Tryz.ntmps14
 clear hl hs
 go_wp2
 go_loopw [3,4,7] (fun _ _ iv wr => ∃ j:Nat,iv = .int .i64 (j:Int) ∧ j ≤ ks.length ∧ Hid (allTo (stepK ks) j = true) ∧ Below w.heap.size w wr) (fun _ _ iv _ => ks.length - (intOf iv).toNat)
 case atStart => exact ⟨0,rfl,zAR _,Lib.hid (allTo_zero _),Below.refl _ _⟩
 case round =>
   obtain ⟨j,rfl,hj,HT,hb⟩:=hrel
   by_cases hlt:j < ks.length
   case neg =>
     obtain rfl:j = ks.length:=by omega
     have i1:¬ ((ks.length:Int) < (ks.length:Int)):=by omega
     have hR:=HR.out.symm.trans (keys_all HT.out)
     by_cases h16:ks.length ≤ 16
     · rw [decide_eq_true h16] at hR
       subst hR
       have i2:(ks.length:Int) ≤ 16:=by omega
       clear h16 hlt hj
       go_wp2
       go_ret
       exact ⟨by simp,hb⟩
     · rw [decide_eq_false h16] at hR
       subst hR
       have i2:¬ (ks.length:Int) ≤ 16:=by omega
       clear h16 hlt hj
       go_wp2
       go_ret
       exact ⟨by simp,hb⟩
   have i1:(j:Int) < (ks.length:Int):=by omega
   have i3:(0:Int) ≤ (j:Int):=by omega
   obtain ⟨k,hx⟩:∃ x,ks[j]? = some x:=⟨_,zA5 hlt⟩
   obtain ⟨b,off,rfl,hr,_⟩:=(HL.out _ hb).at (i:=j) (cs:=twoS k) (by rw [zAD,hx]; rfl)
   have hst:stepK ks j = (keyOkB k && lessB (prevB (ks.map (·.1)) j) k.1):=by unfold stepK; rw [zA4,hx]; rfl
   have hkz:=HS.out k (zAU hx)
   have HX:=Lib.hid hx
   clear hx
   obtain ⟨id,pub⟩:=k
   have HJ:=Lib.hid hlt
   have hrA:=fun i u h => (hr i u h)
   have lZ:=Lies.new wr 51 #[.string ⟨#[]⟩,.string ⟨#[]⟩]
   have hbZ:=hb.alloc hb.size (.cells #[.string ⟨#[]⟩,.string ⟨#[]⟩] 51)
   have hK:keyOkB (id,pub) = (decide (pub.size = 32) && decide (id = idT pub)):=rfl
   have hst:stepK ks j = (keyOkB (id,pub) && lessB (prevB (ks.map (·.1)) j) id):=hst
   have hkz:id.size ≤ 1000:=hkz
   rw [hK] at hst
   clear hK hlt
   have hszB:=hb.size
   go_upto_region 4 with (first
     | ((with_reducible refine V.wpL_loadMid b (off + j * 2) _ 2 rowKey rfl hr ?_ ?_); rfl)
     | ((with_reducible refine V.wpL_store wr.heap.size 51 _ #[.string id,.string pub] 2 rowKey rfl rfl (two_one _ _) lZ ?_ ?_ ?_); rfl; rfl))
   have lK:=lZ.row #[.string id,.string pub]
   have hbK:=V.below_rowSet hbZ hszB #[.string id,.string pub]
   generalize World.setRow _ _ _ = w2 at *
   simp only [Act.put]
   have q0:=lK.cell 0; have q1:=lK.cell 1; simp only [zA6,zAN,zAF] at q0 q1
   have u0:=cell_regrown q0
   have u1:=cell_regrown q1
   have cI:=Lib.hid (fun (h:pub.size ≤ 1000) => reg (W:=w2) (fun w _ => refId_any pub w h))
   clear q0 q1 hr hrA lZ hbZ
   by_cases h32:pub.size = 32
   case neg =>
     rw [decide_eq_false h32,zC8,zC8] at hst
     obtain rfl:R = false:=HR.out.symm.trans (keys_bad HJ.out hst)
     have g1:((pub.size:Int) != 32) = true:=by rw [bne_iff_ne]; omega
     clear hst h32
     refine wp_region_quiet_below (by kernel_rfl) (by kernel_rfl) ?_
     repeat (go_big_quiet_step (fail))
     refine wpQuiet_nil ?_
     intro _ hw'
     obtain ⟨⟨dq,osq⟩,hw''⟩:=hw'
     subst hw''
     have hb2:=below_regrown w2 dq osq
     go_wp2
     go_ret
     exact ⟨rfl,hbK.trans (hb2.mono hbK.size)⟩
   have g1:((pub.size:Int) != 32) = false:=by rw [h32]; rfl
   have cI2:=Lib.hid (cI.out (by omega))
   rw [decide_eq_true h32,zC7] at hst
   clear cI h32
   have heq:=eq_is id (idT pub)
   by_cases hid:id = idT pub
   case neg =>
     rw [decide_eq_false hid,zC8] at hst
     rw [decide_eq_false hid] at heq
     obtain rfl:R = false:=HR.out.symm.trans (keys_bad HJ.out hst)
     clear hst
     generalize idT pub = I at *
     have g2:(id.toList == I.toList) = false:=by rw [Lib.toList_data,Lib.toList_data]; exact heq
     clear hid heq
     refine wp_region_quiet_below (by kernel_rfl) (by kernel_rfl) ?_
     repeat (go_big_quiet_step (with_reducible exact cI2.out _ _))
     refine wpQuiet_nil ?_
     intro _ hw'
     obtain ⟨⟨dq,osq⟩,hw''⟩:=hw'
     subst hw''
     have hb2:=below_regrown w2 dq osq
     go_wp2
     go_ret
     exact ⟨rfl,hbK.trans (hb2.mono hbK.size)⟩
   rw [decide_eq_true hid] at heq
   rw [decide_eq_true hid,zC7] at hst
   have hid0:=Lib.hid hid
   clear heq
   rw [← hid] at cI2
   clear hid
   by_cases hj0:j = 0
   · have hst2:stepK ks j = true:=by
       rw [hst,hj0,prev_zero]
       exact less_no (by rw [hid0.out,idT_size]; decide)
     have HT2:=Lib.hid (show allTo (stepK ks) (j + 1) = true by rw [allTo_succ,HT.out,hst2]; rfl)
     have i6:¬ (0:Int) < (j:Int):=by omega
     have i6d:decide (0 < j) = false:=decide_eq_false (by omega)
     have i6n:¬ 0 < j:=by omega
     clear hst hst2 HT hj0
     refine wp_region_quiet_below (by kernel_rfl) (by kernel_rfl) ?_
     repeat (go_big_quiet_step (with_reducible exact cI2.out _ _))
     refine wpQuiet_nil ?_
     intro _ hw'
     obtain ⟨⟨dq,osq⟩,hw''⟩:=hw'
     subst hw''
     have hb2:=below_regrown w2 dq osq
     go_wp2
     go_roundw
     case rel => exact ⟨j + 1,by go_num,HJ.out,HT2,hbK.trans (hb2.mono hbK.size)⟩
     case measure =>
       have:=HJ.out
       simp [intOf]; omega
   obtain ⟨m,rfl⟩:∃ m,j = m + 1:=⟨j - 1,by omega⟩
   obtain ⟨y,hy⟩:∃ y,ks[m]? = some y:=⟨_,zA5 (by have:=HJ.out; omega)⟩
   rw [map_prev hy] at hst
   obtain ⟨b9,off9,he9,hr9,_⟩:=(HL.out _ hbK).at (i:=m) (cs:=twoS y) (by rw [zAD,hy]; rfl)
   injection he9 with he9
   injection he9 with e1 e2
   subst e1 e2
   have hry:=hr9 0 (.string y.1) rfl
   rw [zAZ] at hry
   have u9:=cell_regrown hry
   have hys:=HS.out y (zAU hy)
   obtain ⟨yid,ypub⟩:=y
   have hys:yid.size ≤ 1000:=hys
   have HLs:=fun (w:World) => V.refLess_any yid id w (by unfold maxLen; omega)
   rw [less_lists] at HLs
   have i5:IntKind.i64.wrap (((m + 1:Nat):Int) - 1) = (m:Int):=by rw [IntWalk.i64_in _ (by have:=HJ.out; omega)]; omega
   have i6:(0:Int) < ((m + 1:Nat):Int):=by omega
   have i7:(m:Int) < (ks.length:Int):=by have:=HJ.out; omega
   have i8:(0:Int) ≤ (m:Int):=by omega
   have i9:((m + 1:Nat):Int) - 1 = (m:Int):=by omega
   have hst:stepK ks (m + 1) = lessB yid id:=hst
   have u9:∀ d os,(grow (redrawn w2 d) os).cell? ⟨b,off + m * 2,none⟩ = some (.string yid):=u9
   clear hr9 hry hys hj0 hy
   cases hls:lessB yid id with
   | false =>
     rw [hls] at hst HLs
     obtain rfl:R = false:=HR.out.symm.trans (keys_bad HJ.out hst)
     have cL:=Lib.hid (reg (W:=w2) (fun w _ => HLs w))
     clear hst hls HLs
     refine wp_region_quiet_below (by kernel_rfl) (by kernel_rfl) ?_
     repeat (go_big_quiet_step (first | with_reducible exact cI2.out _ _ | with_reducible exact cL.out _ _))
     refine wpQuiet_nil ?_
     intro _ hw'
     obtain ⟨⟨dq,osq⟩,hw''⟩:=hw'
     subst hw''
     have hb2:=below_regrown w2 dq osq
     go_wp2
     go_ret
     exact ⟨rfl,hbK.trans (hb2.mono hbK.size)⟩
   | true =>
     rw [hls] at hst HLs
     have HT2:=Lib.hid (show allTo (stepK ks) (m + 1 + 1) = true by rw [allTo_succ,HT.out,hst]; rfl)
     have cL:=Lib.hid (reg (W:=w2) (fun w _ => HLs w))
     clear hst hls HLs HT
     refine wp_region_quiet_below (by kernel_rfl) (by kernel_rfl) ?_
     repeat (go_big_quiet_step (first | with_reducible exact cI2.out _ _ | with_reducible exact cL.out _ _))
     refine wpQuiet_nil ?_
     intro _ hw'
     obtain ⟨⟨dq,osq⟩,hw''⟩:=hw'
     subst hw''
     have hb2:=below_regrown w2 dq osq
     go_wp2
     go_roundw
     case rel => exact ⟨m + 1 + 1,by go_num,HJ.out,HT2,hbK.trans (hb2.mono hbK.size)⟩
     case measure =>
       have:=HJ.out
       simp [intOf]; omega
end Go.Proofs.YteecbglmohhaeaaGreatDoor.O
namespace Go.Proofs.YteecbglmohhaeaaGreatDoor.C
open Go.RowKit Go.Sort Go.Proofs.YteecbglmohhaeaaGreatDoor.F
theorem sum_vals (P Q:Pt):((P.x.val * Q.y.val % p25 + Q.x.val * P.y.val % p25) % p25 * invN ((1 + dN * (P.x.val * Q.x.val % p25 * (P.y.val * Q.y.val % p25) % p25) % p25) % p25) % p25 = (P.add Q).x.val) ∧
   ((P.y.val * Q.y.val % p25 + P.x.val * Q.x.val % p25) % p25 * invN ((1 + (p25 - dN * (P.x.val * Q.x.val % p25 * (P.y.val * Q.y.val % p25) % p25) % p25 % p25)) % p25) % p25 = (P.add Q).y.val):=by
 unfold Pt.add Pt.k kk
 constructor
 · rw [← val_mod]
   congr 1
   simp only [z_mod,z_mul,z_add,z_inv,z_one,z_dN,z_back]
 · rw [← val_mod]
   congr 1
   simp only [z_mod,z_mul,z_add,z_neg,z_inv,z_one,z_dN,z_back,z_less]
attribute [local irreducible] feA
set_option maxHeartbeats 1600000 in
theorem refSum_any (P Q:Pt) (W:World) :
   Calls Tryz.prog 81 #[af P.x.val P.y.val,af Q.x.val Q.y.val] W fun e w' => e = .returned (af (P.add Q).x.val (P.add Q).y.val) ∧ Below W.heap.size W w':=by
 obtain ⟨hsx,hsy⟩:=sum_vals P Q
 have k1:=below_K P.x.isLt
 have k2:=below_K P.y.isLt
 have k3:=below_K Q.x.isLt
 have k4:=below_K Q.y.isLt
 generalize (P.add Q).x.val = sx at *
 generalize (P.add Q).y.val = sy at *
 generalize P.x.val = x1 at *
 generalize P.y.val = y1 at *
 generalize Q.x.val = x2 at *
 generalize Q.y.val = y2 at *
 have H1:=Lib.hid (fun w => refMul_any x1 y2 w k1 k4)
 have H2:=Lib.hid (fun w => refMul_any x2 y1 w k3 k2)
 have H3:=Lib.hid (fun w => refMul_any y1 y2 w k2 k4)
 have H4:=Lib.hid (fun w => refMul_any x1 x2 w k1 k3)
 have kxv:=mod_K (x1 * y2)
 have kuy:=mod_K (x2 * y1)
 have kyv:=mod_K (y1 * y2)
 have kxu:=mod_K (x1 * x2)
 generalize x1 * y2 % p25 = xv at *
 generalize x2 * y1 % p25 = uy at *
 generalize y1 * y2 % p25 = yv at *
 generalize x1 * x2 % p25 = xu at *
 have H5:=Lib.hid (fun w => refMul_any xu yv w kxu kyv)
 have kpr:=mod_K (xu * yv)
 generalize xu * yv % p25 = pr at *
 have H6:=Lib.hid (fun w => refMul_any dN pr w (by decide) kpr)
 have kal:=mod_K (dN * pr)
 generalize dN * pr % p25 = al at *
 have HD:=Lib.hid (fun w => refD_any w)
 generalize dN = D at *
 have H7:=Lib.hid (fun w => refAdd_any xv uy w kxv kuy)
 have H8:=Lib.hid (fun w => refAdd_any 1 al w (by decide) kal)
 have H9:=Lib.hid (fun w => refAdd_any yv xu w kyv kxu)
 have H10:=Lib.hid (fun w => refSub_any 1 al w (by decide) kal)
 have ka:=mod_K (xv + uy)
 have kb:=mod_K (1 + al)
 have kc:=mod_K (yv + xu)
 have kd:=mod_K (1 + (p25 - al % p25))
 generalize (xv + uy) % p25 = na at *
 generalize (1 + al) % p25 = nb at *
 generalize (yv + xu) % p25 = nc at *
 generalize (1 + (p25 - al % p25)) % p25 = nd at *
 have H11:=Lib.hid (fun w => refInv_any nb w kb)
 have H12:=Lib.hid (fun w => refInv_any nd w kd)
 have H13:=Lib.hid (fun w => refMul_any na (invN nb) w ka (below_K (invN_lt _)))
 have H14:=Lib.hid (fun w => refMul_any nc (invN nd) w kc (below_K (invN_lt _)))
 rw [hsx] at H13
 rw [hsy] at H14
 generalize invN nb = ib at *
 generalize invN nd = id' at *
 clear hsx hsy k1 k2 k3 k4 kxv kuy kyv kxu kpr kal ka kb kc kd
 have hf1:(.agg #[.int .u64 1,.int .u64 0,.int .u64 0,.int .u64 0]:Value) = fe 1:=fe_small 1 (by decide)
 have hf1A:(#[.int .u64 1,.int .u64 0,.int .u64 0,.int .u64 0]:Array Value) = feA 1:=by injection hf1
 have HF1:=Lib.hid hf1A
 clear hf1 hf1A
 go_enter Tryz.func81,Tryz.ntmps81
 have hp:=((Lies.new W 124 (afA x1 y1)).alloc (.cells (afA x2 y2) 124)).alloc (.cells af0A 124)
 have hq:Lies ((W.alloc (.cells (afA x1 y1) 124)).alloc (.cells (afA x2 y2) 124)) (W.heap.size + 1) 124 (afA x2 y2):=heap_alloc2_new W _ _
 replace hq:=hq.alloc (.cells af0A 124)
 have hr:=lies3 W (.cells (afA x1 y1) 124) (.cells (afA x2 y2) 124) 124 af0A
 have hB:=(((Below.refl W.heap.size W).alloc (zA3 _) (.cells (afA x1 y1) 124)).alloc (by simp) (.cells (afA x2 y2) 124)).alloc (by simp; omega) (.cells af0A 124)
 go_upto_region 1 with fail
 generalize World.alloc (World.alloc (World.alloc W _) _) _ = w0 at *
 go_upto_region 2 with (first
   | ((with_reducible refine wpL_loadMid (W.heap.size) 0 (feA x1).toList 4 rowFe (by rw [zAC]; exact feA_size _) (af_X hp) ?_ ?_); rfl; rw [zAK])
   | ((with_reducible refine wpL_loadMid (W.heap.size + 1) 4 (feA y2).toList 4 rowFe (by rw [zAC]; exact feA_size _) (af_Y hq) ?_ ?_); rfl; rw [zAK])
   | (go_at_call 122; (with_reducible refine (H1.out _).mono ?_); rintro e u1 ⟨rfl,hb⟩; replace hp:=hp.on hb; replace hq:=hq.on hb; replace hr:=hr.on hb; replace hB:=below_on hB hb; clear hb)
   | ((with_reducible refine wpL_store u1.heap.size 72 _ (feA xv) 4 rowFe ?_ (feA_size _) (feA_one _) (Lies.new u1 _ _) ?_ ?_ ?_); rfl; rfl; rfl))
 have zxv:=newly_lies u1 72 fe0A (feA xv)
 have hnw:=newly u1 (.cells fe0A 72) (feA xv)
 replace hp:=hp.on hnw
 replace hq:=hq.on hnw
 replace hr:=hr.on hnw
 replace hB:=below_on hB hnw
 clear hnw
 generalize World.setRow _ _ _ = w1 at *
 generalize u1.heap.size = gzxv at *
 go_upto_region 3 with (first
   | ((with_reducible refine wpL_loadMid (W.heap.size + 1) 0 (feA x2).toList 4 rowFe (by rw [zAC]; exact feA_size _) (af_X hq) ?_ ?_); rfl; rw [zAK])
   | ((with_reducible refine wpL_loadMid (W.heap.size) 4 (feA y1).toList 4 rowFe (by rw [zAC]; exact feA_size _) (af_Y hp) ?_ ?_); rfl; rw [zAK])
   | (go_at_call 122; (with_reducible refine (H2.out _).mono ?_); rintro e u2 ⟨rfl,hb⟩; replace hp:=hp.on hb; replace hq:=hq.on hb; replace hr:=hr.on hb; replace zxv:=zxv.on hb; replace hB:=below_on hB hb; clear hb)
   | ((with_reducible refine wpL_store u2.heap.size 72 _ (feA uy) 4 rowFe ?_ (feA_size _) (feA_one _) (Lies.new u2 _ _) ?_ ?_ ?_); rfl; rfl; rfl))
 have zuy:=newly_lies u2 72 fe0A (feA uy)
 have hnw:=newly u2 (.cells fe0A 72) (feA uy)
 replace hp:=hp.on hnw
 replace hq:=hq.on hnw
 replace hr:=hr.on hnw
 replace zxv:=zxv.on hnw
 replace hB:=below_on hB hnw
 clear hnw
 generalize World.setRow _ _ _ = w2 at *
 generalize u2.heap.size = gzuy at *
 go_upto_region 4 with (first
   | ((with_reducible refine wpL_loadMid (W.heap.size) 4 (feA y1).toList 4 rowFe (by rw [zAC]; exact feA_size _) (af_Y hp) ?_ ?_); rfl; rw [zAK])
   | ((with_reducible refine wpL_loadMid (W.heap.size + 1) 4 (feA y2).toList 4 rowFe (by rw [zAC]; exact feA_size _) (af_Y hq) ?_ ?_); rfl; rw [zAK])
   | (go_at_call 122; (with_reducible refine (H3.out _).mono ?_); rintro e u3 ⟨rfl,hb⟩; replace hp:=hp.on hb; replace hq:=hq.on hb; replace hr:=hr.on hb; replace zxv:=zxv.on hb; replace zuy:=zuy.on hb; replace hB:=below_on hB hb; clear hb)
   | ((with_reducible refine wpL_store u3.heap.size 72 _ (feA yv) 4 rowFe ?_ (feA_size _) (feA_one _) (Lies.new u3 _ _) ?_ ?_ ?_); rfl; rfl; rfl))
 have zyv:=newly_lies u3 72 fe0A (feA yv)
 have hnw:=newly u3 (.cells fe0A 72) (feA yv)
 replace hp:=hp.on hnw
 replace hq:=hq.on hnw
 replace hr:=hr.on hnw
 replace zxv:=zxv.on hnw
 replace zuy:=zuy.on hnw
 replace hB:=below_on hB hnw
 clear hnw
 generalize World.setRow _ _ _ = w3 at *
 generalize u3.heap.size = gzyv at *
 go_upto_region 5 with (first
   | ((with_reducible refine wpL_loadMid (W.heap.size) 0 (feA x1).toList 4 rowFe (by rw [zAC]; exact feA_size _) (af_X hp) ?_ ?_); rfl; rw [zAK])
   | ((with_reducible refine wpL_loadMid (W.heap.size + 1) 0 (feA x2).toList 4 rowFe (by rw [zAC]; exact feA_size _) (af_X hq) ?_ ?_); rfl; rw [zAK])
   | (go_at_call 122; (with_reducible refine (H4.out _).mono ?_); rintro e u4 ⟨rfl,hb⟩; replace hp:=hp.on hb; replace hq:=hq.on hb; replace hr:=hr.on hb; replace zxv:=zxv.on hb; replace zuy:=zuy.on hb; replace zyv:=zyv.on hb; replace hB:=below_on hB hb; clear hb)
   | ((with_reducible refine wpL_store u4.heap.size 72 _ (feA xu) 4 rowFe ?_ (feA_size _) (feA_one _) (Lies.new u4 _ _) ?_ ?_ ?_); rfl; rfl; rfl))
 have zxu:=newly_lies u4 72 fe0A (feA xu)
 have hnw:=newly u4 (.cells fe0A 72) (feA xu)
 replace hp:=hp.on hnw
 replace hq:=hq.on hnw
 replace hr:=hr.on hnw
 replace zxv:=zxv.on hnw
 replace zuy:=zuy.on hnw
 replace zyv:=zyv.on hnw
 replace hB:=below_on hB hnw
 clear hnw
 generalize World.setRow _ _ _ = w4 at *
 generalize u4.heap.size = gzxu at *
 refine wp_region_made 5 9 _ 72 fe0A rfl rfl (by kernel_rfl) (by kernel_rfl) (alloc_fe rfl) ?_
 simp only [zA8,zAJ,zAA,zAH]
 refine wpQB_call 118 #[] (fe D) rfl rfl (fun _ => by kernel_rfl) (fun w _ => HD.out w) ?_
 simp only [Act.put,zA0,zA2,zA1]
 refine wpQB_fe (gzxu) xu zxu rfl ?_
 simp only [Act.put,zA0,zA2,zA1]
 refine wpQB_fe (gzyv) yv zyv rfl ?_
 simp only [Act.put,zA0,zA2,zA1]
 refine wpQB_call 122 #[fe xu,fe yv] (fe pr) rfl rfl (fun _ => by kernel_rfl) (fun w _ => H5.out w) ?_
 simp only [Act.put,zA0,zA2,zA1]
 refine wpQB_call 122 #[fe D,fe pr] (fe al) rfl rfl (fun _ => by kernel_rfl) (fun w _ => H6.out w) ?_
 simp only [Act.put,zA0,zA2,zA1]
 refine wpQB_nil ?_
 intro k w5 hb hk hy3
 simp only [zA0,zA2,zA1]
 replace hy3:Lies w5 k 72 fe0A:=hy3
 have lhr:=hr.lt
 have lzxv:=zxv.lt
 have lzuy:=zuy.lt
 have lzyv:=zyv.lt
 have lzxu:=zxu.lt
 replace hr:=(hr.on hb).rowFar (show W.heap.size + 2 ≠ k by omega) (feA al)
 replace zxv:=(zxv.on hb).rowFar (show gzxv ≠ k by omega) (feA al)
 replace zuy:=(zuy.on hb).rowFar (show gzuy ≠ k by omega) (feA al)
 replace zyv:=(zyv.on hb).rowFar (show gzyv ≠ k by omega) (feA al)
 replace zxu:=(zxu.on hb).rowFar (show gzxu ≠ k by omega) (feA al)
 have lhB:=hB.size
 replace hB:=below_rowSet (below_on hB hb) (show W.heap.size ≤ k by omega) (feA al)
 have zal:=hy3.row (feA al)
 clear hb hp hq lhr lzxv lzuy lzyv lzxu lhB
 go_upto_region 6 with ((with_reducible refine wpL_store k 72 _ (feA al) 4 rowFe rfl (feA_size _) (feA_one _) hy3 ?_ ?_ ?_); rfl; rfl)
 clear hy3
 generalize World.setRow _ _ _ = w6 at *
 have zon:=newly_lies w6 72 fe0A #[.int .u64 1,.int .u64 0,.int .u64 0,.int .u64 0]
 have hnw:=newly w6 (.cells fe0A 72) #[.int .u64 1,.int .u64 0,.int .u64 0,.int .u64 0]
 replace hr:=hr.on hnw
 replace zxv:=zxv.on hnw
 replace zuy:=zuy.on hnw
 replace zyv:=zyv.on hnw
 replace zxu:=zxu.on hnw
 replace zal:=zal.on hnw
 replace hB:=below_on hB hnw
 clear hnw
 go_upto_region 7 with ((with_reducible refine wpL_store w6.heap.size 72 _ #[.int .u64 1,.int .u64 0,.int .u64 0,.int .u64 0] 4 rowFe ?_ rfl (by unfold Ones; simp [Value.oneCell']) (Lies.new w6 _ _) ?_ ?_ ?_); rfl; rfl; rfl)
 generalize World.setRow _ _ _ = w7 at *
 generalize w6.heap.size = gzon at *
 rw [HF1.out] at zon
 refine wp_region_plain 17 (by kernel_rfl) (by kernel_rfl) ?_
 simp only [zA8,zAJ,zAA,zAH]
 refine wpQB_fe (gzxv) xv zxv rfl ?_
 simp only [Act.put,zA0,zA2,zA1]
 refine wpQB_fe (gzuy) uy zuy rfl ?_
 simp only [Act.put,zA0,zA2,zA1]
 refine wpQB_call 124 #[fe xv,fe uy] (fe na) rfl rfl (fun _ => by kernel_rfl) (fun w _ => H7.out w) ?_
 simp only [Act.put,zA0,zA2,zA1]
 refine wpQB_fe (gzon) 1 zon rfl ?_
 simp only [Act.put,zA0,zA2,zA1]
 refine wpQB_fe (k) al zal rfl ?_
 simp only [Act.put,zA0,zA2,zA1]
 refine wpQB_call 124 #[fe 1,fe al] (fe nb) rfl rfl (fun _ => by kernel_rfl) (fun w _ => H8.out w) ?_
 simp only [Act.put,zA0,zA2,zA1]
 refine wpQB_call 121 #[fe nb] (fe ib) rfl rfl (fun _ => by kernel_rfl) (fun w _ => H11.out w) ?_
 simp only [Act.put,zA0,zA2,zA1]
 refine wpQB_call 122 #[fe na,fe ib] (fe sx) rfl rfl (fun _ => by kernel_rfl) (fun w _ => H13.out w) ?_
 simp only [Act.put,zA0,zA2,zA1]
 refine wpQB_fe (gzyv) yv zyv rfl ?_
 simp only [Act.put,zA0,zA2,zA1]
 refine wpQB_fe (gzxu) xu zxu rfl ?_
 simp only [Act.put,zA0,zA2,zA1]
 refine wpQB_call 124 #[fe yv,fe xu] (fe nc) rfl rfl (fun _ => by kernel_rfl) (fun w _ => H9.out w) ?_
 simp only [Act.put,zA0,zA2,zA1]
 refine wpQB_fe (gzon) 1 zon rfl ?_
 simp only [Act.put,zA0,zA2,zA1]
 refine wpQB_fe (k) al zal rfl ?_
 simp only [Act.put,zA0,zA2,zA1]
 refine wpQB_call 116 #[fe 1,fe al] (fe nd) rfl rfl (fun _ => by kernel_rfl) (fun w _ => H10.out w) ?_
 simp only [Act.put,zA0,zA2,zA1]
 refine wpQB_call 121 #[fe nd] (fe id') rfl rfl (fun _ => by kernel_rfl) (fun w _ => H12.out w) ?_
 simp only [Act.put,zA0,zA2,zA1]
 refine wpQB_call 122 #[fe nc,fe id'] (fe sy) rfl rfl (fun _ => by kernel_rfl) (fun w _ => H14.out w) ?_
 simp only [Act.put,zA0,zA2,zA1]
 refine wpQB_run (af sx sy) rfl (fun _ _ => by kernel_rfl) ?_
 simp only [Act.put,zA0,zA2,zA1]
 refine wpQB_nil ?_
 intro w8 hb
 replace hr:=hr.on hb
 replace hB:=below_on hB hb
 clear hb
 go_wp2_with ((with_reducible refine wpL_store (W.heap.size + 1 + 1) 124 _ (afA sx sy) 8 rowAf rfl (afA_size _ _) (afA_one _ _) hr ?_ ?_ ?_); rfl; rfl)
 exact bodyPost_ret (results_row Tryz.results81 rowAf (afA_size _ _) (hr.row _) rfl) rfl ⟨rfl,below_rowSet hB (by omega) _⟩
end Go.Proofs.YteecbglmohhaeaaGreatDoor.C
namespace Go.Proofs.YteecbglmohhaeaaGreatDoor.E
open Go.RowKit Go.Sort Go.Proofs.YteecbglmohhaeaaGreatDoor.F Go.Proofs.YteecbglmohhaeaaGreatDoor.C
structure N3 where
 X:Nat
 Y:Nat
 Z:Nat
structure N3.Lt (u:N3):Prop where
 X:u.X < K256
 Y:u.Y < K256
 Z:u.Z < K256
def addN (u v:N3):N3:=
 let A:=u.Z * v.Z % p25
 let B:=A * A % p25
 let C:=u.X * v.X % p25
 let D:=u.Y * v.Y % p25
 let K:=dN * (C * D % p25) % p25
 let F:=(B + (p25 - K % p25)) % p25
 let G:=(B + K) % p25
 let S:=(u.X + u.Y) % p25 * ((v.X + v.Y) % p25) % p25
 let x:=((S + (p25 - C % p25)) % p25 + (p25 - D % p25)) % p25
 ⟨(A * F % p25) * x % p25,(A * G % p25) * ((D + C) % p25) % p25,F * G % p25⟩
theorem addN_lt (u v:N3):(addN u v).Lt:=⟨mod_K _,mod_K _,mod_K _⟩
def Hp (u:N3) (P:Pt):Prop:=Rep (z u.X) (z u.Y) (z u.Z) P
theorem both_less (a b c d:Z):(a + b) * (c + d) + -(a * c) + -(b * d) = a * d + c * b:=by grind
theorem Hp.add {u v:N3} {P Q:Pt} (h:Hp u P) (k:Hp v Q) (hP:P.On) (hQ:Q.On):Hp (addN u v) (P.add Q):=by
 have r:=Rep.add h k hP hQ rfl rfl rfl rfl rfl rfl rfl
 have hd:dd = z dN:=by unfold dd; rfl
 rw [hd,z_less] at r
 unfold Hp addN
 simp only [z_mod,z_mul,z_add,z_neg,both_less]
 exact r
theorem Hp.affine {u:N3} {P:Pt} (h:Hp u P):u.X * invN u.Z % p25 = P.x.val ∧ u.Y * invN u.Z % p25 = P.y.val:=by
 obtain ⟨n,a,b⟩:=h
 have hi:=zinv_mul n
 constructor
 · rw [← val_mod,z_mul,z_inv,a,show P.x * z u.Z * zinv (z u.Z) = P.x * (z u.Z * zinv (z u.Z)) by grind,hi]
   congr 1
   grind
 · rw [← val_mod,z_mul,z_inv,b,show P.y * z u.Z * zinv (z u.Z) = P.y * (z u.Z * zinv (z u.Z)) by grind,hi]
   congr 1
   grind
def h3A (u:N3):Array Value:=feA u.X ++ feA u.Y ++ feA u.Z
theorem h3A_size (u:N3):(h3A u).size = 12:=rfl
theorem h3A_one (u:N3):Ones (h3A u):=ones_append (ones_append (feA_one _) (feA_one _)) (feA_one _)
theorem rowH:RowT Tryz.prog 164 12:=⟨⟨_,Tryz.underlying164,rfl⟩,by kernel_rfl⟩
section
variable {w:World} {g t:Nat} {u:N3} (h:Lies w g t (h3A u))
include h
theorem h_X:w.rangeAt g 0 (feA u.X).toList:=range_app (a:=#[]) (c:=feA u.Y ++ feA u.Z) rfl (by unfold h3A at h; rw [Array.empty_append,← Array.append_assoc]; exact h)
theorem h_Y:w.rangeAt g 4 (feA u.Y).toList:=range_app (a:=feA u.X) (c:=feA u.Z) (feA_size _) h
theorem h_Z:w.rangeAt g 8 (feA u.Z).toList:=range_app (a:=feA u.X ++ feA u.Y) (c:=#[]) (by simp [feA_size]) (by rw [Array.append_empty]; exact h)
end
theorem h3A_is (u:N3):Value.agg (h3A u) = .agg (feA u.X ++ feA u.Y ++ feA u.Z):=rfl
abbrev z12A:Array Value:=#[.int .u64 0,.int .u64 0,.int .u64 0,.int .u64 0,.int .u64 0,.int .u64 0,.int .u64 0,.int .u64 0,.int .u64 0,.int .u64 0,.int .u64 0,.int .u64 0]
theorem lies4 (w:World) (a b c:Obj) (t:TypeId) (cs:Array Value):Lies ((((w.alloc a).alloc b).alloc c).alloc (.cells cs t)) (w.heap.size + 3) t cs:=by
 have h:=Lies.new (((w.alloc a).alloc b).alloc c) t cs
 have e:(((w.alloc a).alloc b).alloc c).heap.size = w.heap.size + 3:=by simp
 rw [e] at h
 exact h
attribute [local irreducible] feA h3A
set_option maxHeartbeats 3200000 in
theorem hadd_any (u v:N3) (W:World) (hu:u.Lt) (hv:v.Lt) :
   Calls Tryz.prog 120 #[.agg (h3A u),.agg (h3A v),fe dN] W fun e w' => e = .returned (.agg (h3A (addN u v))) ∧ Below W.heap.size W w':=by
 have hdK:dN < K256:=by decide
 obtain ⟨R,hR⟩:∃ R,addN u v = R:=⟨_,rfl⟩
 rw [hR]
 unfold addN at hR
 simp only at hR
 have HA:=Lib.hid (fun w => refMul_any (u.Z) (v.Z) w hu.Z hv.Z)
 have kA:u.Z * v.Z % p25 < K256:=mod_K _
 obtain ⟨A,eA⟩:∃ n,u.Z * v.Z % p25 = n:=⟨_,rfl⟩
 rw [eA] at HA kA hR
 clear eA
 have HBv:=Lib.hid (fun w => refMul_any (A) (A) w kA kA)
 have kBv:A * A % p25 < K256:=mod_K _
 obtain ⟨Bv,eBv⟩:∃ n,A * A % p25 = n:=⟨_,rfl⟩
 rw [eBv] at HBv kBv hR
 clear eBv
 have HC:=Lib.hid (fun w => refMul_any (u.X) (v.X) w hu.X hv.X)
 have kC:u.X * v.X % p25 < K256:=mod_K _
 obtain ⟨C,eC⟩:∃ n,u.X * v.X % p25 = n:=⟨_,rfl⟩
 rw [eC] at HC kC hR
 clear eC
 have HE:=Lib.hid (fun w => refMul_any (u.Y) (v.Y) w hu.Y hv.Y)
 have kE:u.Y * v.Y % p25 < K256:=mod_K _
 obtain ⟨E,eE⟩:∃ n,u.Y * v.Y % p25 = n:=⟨_,rfl⟩
 rw [eE] at HE kE hR
 clear eE
 have HCE:=Lib.hid (fun w => refMul_any (C) (E) w kC kE)
 have kCE:C * E % p25 < K256:=mod_K _
 obtain ⟨CE,eCE⟩:∃ n,C * E % p25 = n:=⟨_,rfl⟩
 rw [eCE] at HCE kCE hR
 clear eCE
 have HK:=Lib.hid (fun w => refMul_any (dN) (CE) w hdK kCE)
 have kK:dN * CE % p25 < K256:=mod_K _
 obtain ⟨K,eK⟩:∃ n,dN * CE % p25 = n:=⟨_,rfl⟩
 rw [eK] at HK kK hR
 clear eK
 have HF:=Lib.hid (fun w => refSub_any (Bv) (K) w kBv kK)
 have kFv:(Bv + (p25 - K % p25)) % p25 < K256:=mod_K _
 obtain ⟨Fv,eFv⟩:∃ n,(Bv + (p25 - K % p25)) % p25 = n:=⟨_,rfl⟩
 rw [eFv] at HF kFv hR
 clear eFv
 have HG:=Lib.hid (fun w => refAdd_any (Bv) (K) w kBv kK)
 have kG:(Bv + K) % p25 < K256:=mod_K _
 obtain ⟨G,eG⟩:∃ n,(Bv + K) % p25 = n:=⟨_,rfl⟩
 rw [eG] at HG kG hR
 clear eG
 have HS1:=Lib.hid (fun w => refAdd_any (u.X) (u.Y) w hu.X hu.Y)
 have kS1:(u.X + u.Y) % p25 < K256:=mod_K _
 obtain ⟨S1,eS1⟩:∃ n,(u.X + u.Y) % p25 = n:=⟨_,rfl⟩
 rw [eS1] at HS1 kS1 hR
 clear eS1
 have HS2:=Lib.hid (fun w => refAdd_any (v.X) (v.Y) w hv.X hv.Y)
 have kS2:(v.X + v.Y) % p25 < K256:=mod_K _
 obtain ⟨S2,eS2⟩:∃ n,(v.X + v.Y) % p25 = n:=⟨_,rfl⟩
 rw [eS2] at HS2 kS2 hR
 clear eS2
 have HS:=Lib.hid (fun w => refMul_any (S1) (S2) w kS1 kS2)
 have kS:S1 * S2 % p25 < K256:=mod_K _
 obtain ⟨S,eS⟩:∃ n,S1 * S2 % p25 = n:=⟨_,rfl⟩
 rw [eS] at HS kS hR
 clear eS
 have Hx0:=Lib.hid (fun w => refSub_any (S) (C) w kS kC)
 have kx0:(S + (p25 - C % p25)) % p25 < K256:=mod_K _
 obtain ⟨x0,ex0⟩:∃ n,(S + (p25 - C % p25)) % p25 = n:=⟨_,rfl⟩
 rw [ex0] at Hx0 kx0 hR
 clear ex0
 have Hx1:=Lib.hid (fun w => refSub_any (x0) (E) w kx0 kE)
 have kx1:(x0 + (p25 - E % p25)) % p25 < K256:=mod_K _
 obtain ⟨x1,ex1⟩:∃ n,(x0 + (p25 - E % p25)) % p25 = n:=⟨_,rfl⟩
 rw [ex1] at Hx1 kx1 hR
 clear ex1
 have HAF:=Lib.hid (fun w => refMul_any (A) (Fv) w kA kFv)
 have kAF:A * Fv % p25 < K256:=mod_K _
 obtain ⟨AF,eAF⟩:∃ n,A * Fv % p25 = n:=⟨_,rfl⟩
 rw [eAF] at HAF kAF hR
 clear eAF
 have HX:=Lib.hid (fun w => refMul_any (AF) (x1) w kAF kx1)
 have kX3:AF * x1 % p25 < K256:=mod_K _
 obtain ⟨X3,eX3⟩:∃ n,AF * x1 % p25 = n:=⟨_,rfl⟩
 rw [eX3] at HX kX3 hR
 clear eX3
 have HAG:=Lib.hid (fun w => refMul_any (A) (G) w kA kG)
 have kAG:A * G % p25 < K256:=mod_K _
 obtain ⟨AG,eAG⟩:∃ n,A * G % p25 = n:=⟨_,rfl⟩
 rw [eAG] at HAG kAG hR
 clear eAG
 have HEC:=Lib.hid (fun w => refAdd_any (E) (C) w kE kC)
 have kEC:(E + C) % p25 < K256:=mod_K _
 obtain ⟨EC,eEC⟩:∃ n,(E + C) % p25 = n:=⟨_,rfl⟩
 rw [eEC] at HEC kEC hR
 clear eEC
 have HY:=Lib.hid (fun w => refMul_any (AG) (EC) w kAG kEC)
 have kY3:AG * EC % p25 < K256:=mod_K _
 obtain ⟨Y3,eY3⟩:∃ n,AG * EC % p25 = n:=⟨_,rfl⟩
 rw [eY3] at HY kY3 hR
 clear eY3
 have HZ:=Lib.hid (fun w => refMul_any (Fv) (G) w kFv kG)
 have kZ3:Fv * G % p25 < K256:=mod_K _
 obtain ⟨Z3,eZ3⟩:∃ n,Fv * G % p25 = n:=⟨_,rfl⟩
 rw [eZ3] at HZ kZ3 hR
 clear eZ3
 have hbuild:Value.agg (h3A R) = .agg (feA X3 ++ feA Y3 ++ feA Z3):=by rw [← hR]; exact h3A_is _
 clear hu hv hR kA kBv kC kE kCE kK kFv kG kS1 kS2 kS kx0 kx1 kAF kX3 kAG kEC kY3 kZ3 hdK
 go_enter Tryz.func120,Tryz.ntmps120
 have hp:=(((Lies.new W 164 (h3A u)).alloc (.cells (h3A v) 164)).alloc (.cells (feA dN) 72)).alloc (.cells z12A 164)
 have hq:Lies ((W.alloc (.cells (h3A u) 164)).alloc (.cells (h3A v) 164)) (W.heap.size + 1) 164 (h3A v):=heap_alloc2_new W _ _
 replace hq:=(hq.alloc (.cells (feA dN) 72)).alloc (.cells z12A 164)
 have hd:=(lies3 W (.cells (h3A u) 164) (.cells (h3A v) 164) 72 (feA dN)).alloc (.cells z12A 164)
 have hr:=lies4 W (.cells (h3A u) 164) (.cells (h3A v) 164) (.cells (feA dN) 72) 164 z12A
 have hB:=((((Below.refl W.heap.size W).alloc (zA3 _) (.cells (h3A u) 164)).alloc (by simp) (.cells (h3A v) 164)).alloc (by simp; omega) (.cells (feA dN) 72)).alloc (by simp; omega) (.cells z12A 164)
 go_upto_region 1 with fail
 generalize World.alloc (World.alloc (World.alloc (World.alloc W _) _) _) _ = w0 at *
 have hpZ:=h_Z hp
 have hqZ:=h_Z hq
 go_upto_region 2 with (first
   | ((with_reducible refine wpL_loadMid W.heap.size 8 (feA u.Z).toList 4 rowFe (by rw [zAC]; exact feA_size _) hpZ ?_ ?_); rfl; rw [zAK])
   | ((with_reducible refine wpL_loadMid (W.heap.size + 1) 8 (feA v.Z).toList 4 rowFe (by rw [zAC]; exact feA_size _) hqZ ?_ ?_); rfl; rw [zAK])
   | (go_at_call 122; (with_reducible refine (HA.out _).mono ?_); rintro e w1 ⟨rfl,hb⟩; replace hp:=hp.on hb; replace hq:=hq.on hb; replace hd:=hd.on hb; replace hr:=hr.on hb; replace hB:=below_on hB hb; clear hb)
   | ((with_reducible refine wpL_store w1.heap.size 72 _ (feA A) 4 rowFe ?_ (feA_size _) (feA_one _) (Lies.new w1 _ _) ?_ ?_ ?_); rfl; rfl; rfl))
 have hA:=newly_lies w1 72 fe0A (feA A)
 have hnw:=newly w1 (.cells fe0A 72) (feA A)
 replace hp:=hp.on hnw
 replace hq:=hq.on hnw
 replace hd:=hd.on hnw
 replace hr:=hr.on hnw
 replace hB:=below_on hB hnw
 clear hnw HA hpZ hqZ
 generalize World.setRow _ _ _ = w2 at *
 generalize w1.heap.size = gA at *
 go_upto_region 3 with (first
   | ((with_reducible refine wpL_load gA 72 (feA A) 4 rowFe (feA_size _) hA ?_ ?_); rfl)
   | (go_at_call 122; (with_reducible refine (HBv.out _).mono ?_); rintro e w3 ⟨rfl,hb⟩; replace hp:=hp.on hb; replace hq:=hq.on hb; replace hd:=hd.on hb; replace hr:=hr.on hb; replace hA:=hA.on hb; replace hB:=below_on hB hb; clear hb)
   | ((with_reducible refine wpL_store w3.heap.size 72 _ (feA Bv) 4 rowFe ?_ (feA_size _) (feA_one _) (Lies.new w3 _ _) ?_ ?_ ?_); rfl; rfl; rfl))
 have hBv:=newly_lies w3 72 fe0A (feA Bv)
 have hnw:=newly w3 (.cells fe0A 72) (feA Bv)
 replace hp:=hp.on hnw
 replace hq:=hq.on hnw
 replace hd:=hd.on hnw
 replace hr:=hr.on hnw
 replace hA:=hA.on hnw
 replace hB:=below_on hB hnw
 clear hnw HBv
 generalize World.setRow _ _ _ = w4 at *
 generalize w3.heap.size = gBv at *
 have hpX:=h_X hp
 have hqX:=h_X hq
 go_upto_region 4 with (first
   | ((with_reducible refine wpL_loadMid W.heap.size 0 (feA u.X).toList 4 rowFe (by rw [zAC]; exact feA_size _) hpX ?_ ?_); rfl; rw [zAK])
   | ((with_reducible refine wpL_loadMid (W.heap.size + 1) 0 (feA v.X).toList 4 rowFe (by rw [zAC]; exact feA_size _) hqX ?_ ?_); rfl; rw [zAK])
   | (go_at_call 122; (with_reducible refine (HC.out _).mono ?_); rintro e w5 ⟨rfl,hb⟩; replace hp:=hp.on hb; replace hq:=hq.on hb; replace hd:=hd.on hb; replace hr:=hr.on hb; replace hA:=hA.on hb; replace hBv:=hBv.on hb; replace hB:=below_on hB hb; clear hb)
   | ((with_reducible refine wpL_store w5.heap.size 72 _ (feA C) 4 rowFe ?_ (feA_size _) (feA_one _) (Lies.new w5 _ _) ?_ ?_ ?_); rfl; rfl; rfl))
 have hC:=newly_lies w5 72 fe0A (feA C)
 have hnw:=newly w5 (.cells fe0A 72) (feA C)
 replace hp:=hp.on hnw
 replace hq:=hq.on hnw
 replace hd:=hd.on hnw
 replace hr:=hr.on hnw
 replace hA:=hA.on hnw
 replace hBv:=hBv.on hnw
 replace hB:=below_on hB hnw
 clear hnw HC hpX hqX
 generalize World.setRow _ _ _ = w6 at *
 generalize w5.heap.size = gC at *
 have hpY:=h_Y hp
 have hqY:=h_Y hq
 go_upto_region 5 with (first
   | ((with_reducible refine wpL_loadMid W.heap.size 4 (feA u.Y).toList 4 rowFe (by rw [zAC]; exact feA_size _) hpY ?_ ?_); rfl; rw [zAK])
   | ((with_reducible refine wpL_loadMid (W.heap.size + 1) 4 (feA v.Y).toList 4 rowFe (by rw [zAC]; exact feA_size _) hqY ?_ ?_); rfl; rw [zAK])
   | (go_at_call 122; (with_reducible refine (HE.out _).mono ?_); rintro e w7 ⟨rfl,hb⟩; replace hp:=hp.on hb; replace hq:=hq.on hb; replace hd:=hd.on hb; replace hr:=hr.on hb; replace hA:=hA.on hb; replace hBv:=hBv.on hb; replace hC:=hC.on hb; replace hB:=below_on hB hb; clear hb)
   | ((with_reducible refine wpL_store w7.heap.size 72 _ (feA E) 4 rowFe ?_ (feA_size _) (feA_one _) (Lies.new w7 _ _) ?_ ?_ ?_); rfl; rfl; rfl))
 have hE:=newly_lies w7 72 fe0A (feA E)
 have hnw:=newly w7 (.cells fe0A 72) (feA E)
 replace hp:=hp.on hnw
 replace hq:=hq.on hnw
 replace hd:=hd.on hnw
 replace hr:=hr.on hnw
 replace hA:=hA.on hnw
 replace hBv:=hBv.on hnw
 replace hC:=hC.on hnw
 replace hB:=below_on hB hnw
 clear hnw HE hpY hqY
 generalize World.setRow _ _ _ = w8 at *
 generalize w7.heap.size = gE at *
 refine wp_region_made 5 11 _ 72 fe0A rfl rfl (by kernel_rfl) (by kernel_rfl) (alloc_fe rfl) ?_
 simp only [zA8,zAJ,zAA,zAH]
 refine wpQB_fe (W.heap.size + 2) dN hd rfl ?_
 simp only [Act.put,zA0,zA2,zA1]
 refine wpQB_fe gC C hC rfl ?_
 simp only [Act.put,zA0,zA2,zA1]
 refine wpQB_fe gE E hE rfl ?_
 simp only [Act.put,zA0,zA2,zA1]
 refine wpQB_call 122 #[fe C,fe E] (fe CE) rfl rfl (fun _ => by kernel_rfl) (fun w _ => HCE.out w) ?_
 simp only [Act.put,zA0,zA2,zA1]
 refine wpQB_call 122 #[fe dN,fe CE] (fe K) rfl rfl (fun _ => by kernel_rfl) (fun w _ => HK.out w) ?_
 simp only [Act.put,zA0,zA2,zA1]
 refine wpQB_nil ?_
 intro gK w9 hb hg hK
 simp only [zA0,zA2,zA1]
 replace hK:Lies w9 gK 72 fe0A:=hK
 have l0:=hp.lt
 have l1:=hq.lt
 have l2:=hd.lt
 have l3:=hr.lt
 have l4:=hA.lt
 have l5:=hBv.lt
 have l6:=hC.lt
 have l7:=hE.lt
 replace hp:=(hp.on hb).rowFar (show W.heap.size ≠ gK by omega) (feA K)
 replace hq:=(hq.on hb).rowFar (show W.heap.size + 1 ≠ gK by omega) (feA K)
 replace hd:=(hd.on hb).rowFar (show W.heap.size + 2 ≠ gK by omega) (feA K)
 replace hr:=(hr.on hb).rowFar (show W.heap.size + 3 ≠ gK by omega) (feA K)
 replace hA:=(hA.on hb).rowFar (show gA ≠ gK by omega) (feA K)
 replace hBv:=(hBv.on hb).rowFar (show gBv ≠ gK by omega) (feA K)
 replace hC:=(hC.on hb).rowFar (show gC ≠ gK by omega) (feA K)
 replace hE:=(hE.on hb).rowFar (show gE ≠ gK by omega) (feA K)
 have hsz:=hB.size
 replace hB:=below_rowSet (below_on hB hb) (show W.heap.size ≤ gK by omega) (feA K)
 have hn:=hK.row (feA K)
 clear hb HCE HK
 go_upto_region 6 with ((with_reducible refine wpL_store gK 72 _ (feA K) 4 rowFe rfl (feA_size _) (feA_one _) hK ?_ ?_ ?_); rfl; rfl)
 clear hK hsz hg l0 l1 l2 l3 l4 l5 l6 l7
 have hK:=hn
 clear hn
 generalize World.setRow _ _ _ = w10 at *
 clear hd
 go_upto_region 7 with (first
   | ((with_reducible refine wpL_load gBv 72 (feA Bv) 4 rowFe (feA_size _) hBv ?_ ?_); rfl)
   | ((with_reducible refine wpL_load gK 72 (feA K) 4 rowFe (feA_size _) hK ?_ ?_); rfl)
   | (go_at_call 116; (with_reducible refine (HF.out _).mono ?_); rintro e w11 ⟨rfl,hb⟩; replace hp:=hp.on hb; replace hq:=hq.on hb; replace hr:=hr.on hb; replace hA:=hA.on hb; replace hBv:=hBv.on hb; replace hC:=hC.on hb; replace hE:=hE.on hb; replace hK:=hK.on hb; replace hB:=below_on hB hb; clear hb)
   | ((with_reducible refine wpL_store w11.heap.size 72 _ (feA Fv) 4 rowFe ?_ (feA_size _) (feA_one _) (Lies.new w11 _ _) ?_ ?_ ?_); rfl; rfl; rfl))
 have hFv:=newly_lies w11 72 fe0A (feA Fv)
 have hnw:=newly w11 (.cells fe0A 72) (feA Fv)
 replace hp:=hp.on hnw
 replace hq:=hq.on hnw
 replace hr:=hr.on hnw
 replace hA:=hA.on hnw
 replace hBv:=hBv.on hnw
 replace hC:=hC.on hnw
 replace hE:=hE.on hnw
 replace hK:=hK.on hnw
 replace hB:=below_on hB hnw
 clear hnw HF
 generalize World.setRow _ _ _ = w12 at *
 generalize w11.heap.size = gFv at *
 go_upto_region 8 with (first
   | ((with_reducible refine wpL_load gBv 72 (feA Bv) 4 rowFe (feA_size _) hBv ?_ ?_); rfl)
   | ((with_reducible refine wpL_load gK 72 (feA K) 4 rowFe (feA_size _) hK ?_ ?_); rfl)
   | (go_at_call 124; (with_reducible refine (HG.out _).mono ?_); rintro e w13 ⟨rfl,hb⟩; replace hp:=hp.on hb; replace hq:=hq.on hb; replace hr:=hr.on hb; replace hA:=hA.on hb; replace hBv:=hBv.on hb; replace hC:=hC.on hb; replace hE:=hE.on hb; replace hK:=hK.on hb; replace hFv:=hFv.on hb; replace hB:=below_on hB hb; clear hb)
   | ((with_reducible refine wpL_store w13.heap.size 72 _ (feA G) 4 rowFe ?_ (feA_size _) (feA_one _) (Lies.new w13 _ _) ?_ ?_ ?_); rfl; rfl; rfl))
 have hG:=newly_lies w13 72 fe0A (feA G)
 have hnw:=newly w13 (.cells fe0A 72) (feA G)
 replace hp:=hp.on hnw
 replace hq:=hq.on hnw
 replace hr:=hr.on hnw
 replace hA:=hA.on hnw
 replace hBv:=hBv.on hnw
 replace hC:=hC.on hnw
 replace hE:=hE.on hnw
 replace hK:=hK.on hnw
 replace hFv:=hFv.on hnw
 replace hB:=below_on hB hnw
 clear hnw HG
 generalize World.setRow _ _ _ = w14 at *
 generalize w13.heap.size = gG at *
 have hpX:=h_X hp
 have hpY:=h_Y hp
 have hqX:=h_X hq
 have hqY:=h_Y hq
 refine wp_region_made 11 14 _ 72 fe0A rfl rfl (by kernel_rfl) (by kernel_rfl) (alloc_fe rfl) ?_
 simp only [zA8,zAJ,zAA,zAH]
 refine wpQB_run (.pointer (some ⟨W.heap.size,0,none⟩)) rfl (fun _ _ => by kernel_rfl) ?_
 simp only [Act.put,zA0,zA2,zA1]
 refine wpQB_mid W.heap.size 0 u.X hpX rfl ?_
 simp only [Act.put,zA0,zA2,zA1]
 refine wpQB_run (.pointer (some ⟨W.heap.size,4,none⟩)) rfl (fun _ _ => by kernel_rfl) ?_
 simp only [Act.put,zA0,zA2,zA1]
 refine wpQB_mid W.heap.size 4 u.Y hpY rfl ?_
 simp only [Act.put,zA0,zA2,zA1]
 refine wpQB_call 124 #[fe u.X,fe u.Y] (fe S1) rfl rfl (fun _ => by kernel_rfl) (fun w _ => HS1.out w) ?_
 simp only [Act.put,zA0,zA2,zA1]
 refine wpQB_run (.pointer (some ⟨W.heap.size + 1,0,none⟩)) rfl (fun _ _ => by kernel_rfl) ?_
 simp only [Act.put,zA0,zA2,zA1]
 refine wpQB_mid (W.heap.size + 1) 0 v.X hqX rfl ?_
 simp only [Act.put,zA0,zA2,zA1]
 refine wpQB_run (.pointer (some ⟨W.heap.size + 1,4,none⟩)) rfl (fun _ _ => by kernel_rfl) ?_
 simp only [Act.put,zA0,zA2,zA1]
 refine wpQB_mid (W.heap.size + 1) 4 v.Y hqY rfl ?_
 simp only [Act.put,zA0,zA2,zA1]
 refine wpQB_call 124 #[fe v.X,fe v.Y] (fe S2) rfl rfl (fun _ => by kernel_rfl) (fun w _ => HS2.out w) ?_
 simp only [Act.put,zA0,zA2,zA1]
 refine wpQB_call 122 #[fe S1,fe S2] (fe S) rfl rfl (fun _ => by kernel_rfl) (fun w _ => HS.out w) ?_
 simp only [Act.put,zA0,zA2,zA1]
 refine wpQB_nil ?_
 intro gS w15 hb hg hS
 simp only [zA0,zA2,zA1]
 replace hS:Lies w15 gS 72 fe0A:=hS
 have l0:=hp.lt
 have l1:=hq.lt
 have l2:=hr.lt
 have l3:=hA.lt
 have l4:=hBv.lt
 have l5:=hC.lt
 have l6:=hE.lt
 have l7:=hK.lt
 have l8:=hFv.lt
 have l9:=hG.lt
 replace hp:=(hp.on hb).rowFar (show W.heap.size ≠ gS by omega) (feA S)
 replace hq:=(hq.on hb).rowFar (show W.heap.size + 1 ≠ gS by omega) (feA S)
 replace hr:=(hr.on hb).rowFar (show W.heap.size + 3 ≠ gS by omega) (feA S)
 replace hA:=(hA.on hb).rowFar (show gA ≠ gS by omega) (feA S)
 replace hBv:=(hBv.on hb).rowFar (show gBv ≠ gS by omega) (feA S)
 replace hC:=(hC.on hb).rowFar (show gC ≠ gS by omega) (feA S)
 replace hE:=(hE.on hb).rowFar (show gE ≠ gS by omega) (feA S)
 replace hK:=(hK.on hb).rowFar (show gK ≠ gS by omega) (feA S)
 replace hFv:=(hFv.on hb).rowFar (show gFv ≠ gS by omega) (feA S)
 replace hG:=(hG.on hb).rowFar (show gG ≠ gS by omega) (feA S)
 have hsz:=hB.size
 replace hB:=below_rowSet (below_on hB hb) (show W.heap.size ≤ gS by omega) (feA S)
 have hn:=hS.row (feA S)
 clear hb HS1 HS2 HS hpX hpY hqX hqY
 go_upto_region 9 with ((with_reducible refine wpL_store gS 72 _ (feA S) 4 rowFe rfl (feA_size _) (feA_one _) hS ?_ ?_ ?_); rfl; rfl)
 clear hS hsz hg l0 l1 l2 l3 l4 l5 l6 l7 l8 l9
 have hS:=hn
 clear hn
 generalize World.setRow _ _ _ = w16 at *
 refine wp_region_made 5 15 _ 72 fe0A rfl rfl (by kernel_rfl) (by kernel_rfl) (alloc_fe rfl) ?_
 simp only [zA8,zAJ,zAA,zAH]
 refine wpQB_fe gS S hS rfl ?_
 simp only [Act.put,zA0,zA2,zA1]
 refine wpQB_fe gC C hC rfl ?_
 simp only [Act.put,zA0,zA2,zA1]
 refine wpQB_call 116 #[fe S,fe C] (fe x0) rfl rfl (fun _ => by kernel_rfl) (fun w _ => Hx0.out w) ?_
 simp only [Act.put,zA0,zA2,zA1]
 refine wpQB_fe gE E hE rfl ?_
 simp only [Act.put,zA0,zA2,zA1]
 refine wpQB_call 116 #[fe x0,fe E] (fe x1) rfl rfl (fun _ => by kernel_rfl) (fun w _ => Hx1.out w) ?_
 simp only [Act.put,zA0,zA2,zA1]
 refine wpQB_nil ?_
 intro gx1 w17 hb hg hx1
 simp only [zA0,zA2,zA1]
 replace hx1:Lies w17 gx1 72 fe0A:=hx1
 have l0:=hp.lt
 have l1:=hq.lt
 have l2:=hr.lt
 have l3:=hA.lt
 have l4:=hBv.lt
 have l5:=hC.lt
 have l6:=hE.lt
 have l7:=hK.lt
 have l8:=hFv.lt
 have l9:=hG.lt
 have l10:=hS.lt
 replace hp:=(hp.on hb).rowFar (show W.heap.size ≠ gx1 by omega) (feA x1)
 replace hq:=(hq.on hb).rowFar (show W.heap.size + 1 ≠ gx1 by omega) (feA x1)
 replace hr:=(hr.on hb).rowFar (show W.heap.size + 3 ≠ gx1 by omega) (feA x1)
 replace hA:=(hA.on hb).rowFar (show gA ≠ gx1 by omega) (feA x1)
 replace hBv:=(hBv.on hb).rowFar (show gBv ≠ gx1 by omega) (feA x1)
 replace hC:=(hC.on hb).rowFar (show gC ≠ gx1 by omega) (feA x1)
 replace hE:=(hE.on hb).rowFar (show gE ≠ gx1 by omega) (feA x1)
 replace hK:=(hK.on hb).rowFar (show gK ≠ gx1 by omega) (feA x1)
 replace hFv:=(hFv.on hb).rowFar (show gFv ≠ gx1 by omega) (feA x1)
 replace hG:=(hG.on hb).rowFar (show gG ≠ gx1 by omega) (feA x1)
 replace hS:=(hS.on hb).rowFar (show gS ≠ gx1 by omega) (feA x1)
 have hsz:=hB.size
 replace hB:=below_rowSet (below_on hB hb) (show W.heap.size ≤ gx1 by omega) (feA x1)
 have hn:=hx1.row (feA x1)
 clear hb Hx0 Hx1
 go_upto_region 10 with ((with_reducible refine wpL_store gx1 72 _ (feA x1) 4 rowFe rfl (feA_size _) (feA_one _) hx1 ?_ ?_ ?_); rfl; rfl)
 clear hx1 hsz hg l0 l1 l2 l3 l4 l5 l6 l7 l8 l9 l10
 have hx1:=hn
 clear hn
 generalize World.setRow _ _ _ = w18 at *
 refine wp_region_plain 16 (by kernel_rfl) (by kernel_rfl) ?_
 simp only [zA8,zAJ,zAA,zAH]
 refine wpQB_fe gA A hA rfl ?_
 simp only [Act.put,zA0,zA2,zA1]
 refine wpQB_fe gFv Fv hFv rfl ?_
 simp only [Act.put,zA0,zA2,zA1]
 refine wpQB_call 122 #[fe A,fe Fv] (fe AF) rfl rfl (fun _ => by kernel_rfl) (fun w _ => HAF.out w) ?_
 simp only [Act.put,zA0,zA2,zA1]
 refine wpQB_fe gx1 x1 hx1 rfl ?_
 simp only [Act.put,zA0,zA2,zA1]
 refine wpQB_call 122 #[fe AF,fe x1] (fe X3) rfl rfl (fun _ => by kernel_rfl) (fun w _ => HX.out w) ?_
 simp only [Act.put,zA0,zA2,zA1]
 refine wpQB_fe gA A hA rfl ?_
 simp only [Act.put,zA0,zA2,zA1]
 refine wpQB_fe gG G hG rfl ?_
 simp only [Act.put,zA0,zA2,zA1]
 refine wpQB_call 122 #[fe A,fe G] (fe AG) rfl rfl (fun _ => by kernel_rfl) (fun w _ => HAG.out w) ?_
 simp only [Act.put,zA0,zA2,zA1]
 refine wpQB_fe gE E hE rfl ?_
 simp only [Act.put,zA0,zA2,zA1]
 refine wpQB_fe gC C hC rfl ?_
 simp only [Act.put,zA0,zA2,zA1]
 refine wpQB_call 124 #[fe E,fe C] (fe EC) rfl rfl (fun _ => by kernel_rfl) (fun w _ => HEC.out w) ?_
 simp only [Act.put,zA0,zA2,zA1]
 refine wpQB_call 122 #[fe AG,fe EC] (fe Y3) rfl rfl (fun _ => by kernel_rfl) (fun w _ => HY.out w) ?_
 simp only [Act.put,zA0,zA2,zA1]
 refine wpQB_fe gFv Fv hFv rfl ?_
 simp only [Act.put,zA0,zA2,zA1]
 refine wpQB_fe gG G hG rfl ?_
 simp only [Act.put,zA0,zA2,zA1]
 refine wpQB_call 122 #[fe Fv,fe G] (fe Z3) rfl rfl (fun _ => by kernel_rfl) (fun w _ => HZ.out w) ?_
 simp only [Act.put,zA0,zA2,zA1]
 refine wpQB_run (.agg (h3A R)) rfl (fun _ _ => by rw [hbuild]; kernel_rfl) ?_
 simp only [Act.put,zA0,zA2,zA1]
 refine wpQB_nil ?_
 intro wz hb
 replace hr:=hr.on hb
 replace hB:=below_on hB hb
 clear hb
 go_wp2_with ((with_reducible refine wpL_store (W.heap.size + 3) 164 _ (h3A R) 12 rowH rfl (h3A_size _) (h3A_one _) hr ?_ ?_ ?_); rfl; rfl)
 exact bodyPost_ret (results_row Tryz.results120 rowH (h3A_size _) (hr.row _) rfl) rfl ⟨rfl,below_rowSet hB (by omega) _⟩
end Go.Proofs.YteecbglmohhaeaaGreatDoor.E
namespace Go.Proofs.YteecbglmohhaeaaGreatDoor.E
open Go.RowKit Go.Sort Go.Proofs.YteecbglmohhaeaaGreatDoor.F Go.Proofs.YteecbglmohhaeaaGreatDoor.C
def oneN3 (P:Pt):N3:=⟨P.x.val,P.y.val,1⟩
theorem oneN3_lt (P:Pt):(oneN3 P).Lt:=⟨below_K P.x.isLt,below_K P.y.isLt,show 1 < K256 by decide⟩
theorem oneN3_hp (P:Pt):Hp (oneN3 P) P:=by
 unfold Hp oneN3
 rw [z_back,z_back,z_one]
 exact Rep.one P
def zeroN3:N3:=⟨0,1,1⟩
theorem zeroN3_lt:zeroN3.Lt:=⟨by decide,by decide,by decide⟩
theorem zeroN3_hp (P:Pt):Hp zeroN3 (P.smul 0):=by
 unfold Hp zeroN3
 rw [z_zero,z_one]
 exact Rep.zero
theorem oneN3_is (P:Pt):Value.agg (h3A (oneN3 P)) = .agg (feA P.x.val ++ feA P.y.val ++ feA 1):=rfl
theorem zeroN3_is:Value.agg (h3A zeroN3) = .agg (feA 0 ++ feA 1 ++ feA 1):=rfl
abbrev z8A:Array Value:=#[.int .u64 0,.int .u64 0,.int .u64 0,.int .u64 0,.int .u64 0,.int .u64 0,.int .u64 0,.int .u64 0]
attribute [local irreducible] feA h3A afA
set_option maxHeartbeats 6400000 in
theorem refTimes_any (n:Nat) (P:Pt) (hP:P.On) (W:World) :
   Calls Tryz.prog 79 #[fe n,af P.x.val P.y.val] W fun e w' => e = .returned (af (P.smul (n % K256)).x.val (P.smul (n % K256)).y.val) ∧ Below W.heap.size W w':=by
 have HD:=Lib.hid (fun w => refD_any w)
 have HG:=Lib.hid (fun w => digits_own n w)
 have hval:val (dgL n 16) = n % K256:=by rw [dgL_val]
 have hdg:=Lib.hid (dgL_dg n 16)
 have hln:(dgL n 16).length = 16:=dgL_length n 16
 generalize dgL n 16 = l at *
 rw [← hval]
 clear hval
 have HQl:=oneN3_lt P
 have HQh:=oneN3_hp P
 have HQb:=oneN3_is P
 obtain ⟨q,hq⟩:∃ q,oneN3 P = q:=⟨_,rfl⟩
 rw [hq] at HQl HQh HQb
 clear hq
 have HQ:=Lib.hid (And.intro HQl HQh)
 have HQB:=Lib.hid HQb
 clear HQb
 clear HQl HQh
 have HZb:=zeroN3_is
 have HZ:=Lib.hid (And.intro zeroN3_lt (zeroN3_hp P))
 generalize zeroN3 = s0 at *
 have HZB:=Lib.hid HZb
 clear HZb
 have hone:fe 1 = .agg #[.int .u64 1,.int .u64 0,.int .u64 0,.int .u64 0]:=fe_word 1 (by decide)
 have HOn:=Lib.hid hP
 clear hP
 go_enter Tryz.func79,Tryz.ntmps79
 have ha:Lies ((W.alloc (.cells (feA n) 67)).alloc (.cells (afA P.x.val P.y.val) 124)) (W.heap.size + 1) 124 (afA P.x.val P.y.val):=heap_alloc2_new W _ _
 replace ha:=ha.alloc (.cells z8A 124)
 have hn:=((Lies.new W 67 (feA n)).alloc (.cells (afA P.x.val P.y.val) 124)).alloc (.cells z8A 124)
 have hr:=lies3 W (.cells (feA n) 67) (.cells (afA P.x.val P.y.val) 124) 124 z8A
 have hB:=(((Below.refl W.heap.size W).alloc (zA3 _) (.cells (feA n) 67)).alloc (by simp) (.cells (afA P.x.val P.y.val) 124)).alloc (by simp; omega) (.cells z8A 124)
 go_upto_region 1 with fail
 generalize World.alloc (World.alloc (World.alloc W _) _) _ = w0 at *
 go_upto_region 2 with (first
   | (go_at_call 118; (with_reducible refine (HD.out _).mono ?_); rintro e w1 ⟨rfl,hb⟩; replace ha:=ha.on hb; replace hn:=hn.on hb; replace hr:=hr.on hb; replace hB:=below_on hB hb; clear hb)
   | ((with_reducible refine wpL_store w1.heap.size 72 _ (feA dN) 4 rowFe ?_ (feA_size _) (feA_one _) (Lies.new w1 _ _) ?_ ?_ ?_); rfl; rfl; rfl))
 have hd:=newly_lies w1 72 fe0A (feA dN)
 have hnw:=newly w1 (.cells fe0A 72) (feA dN)
 have l1:=hr.lt
 replace ha:=ha.on hnw
 replace hn:=hn.on hnw
 replace hr:=hr.on hnw
 replace hB:=below_on hB hnw
 clear hnw
 generalize World.setRow _ _ _ = w2 at *
 generalize w1.heap.size = gd at *
 have haX:=af_X ha
 have haY:=af_Y ha
 go_upto_region 3 with (first
   | ((with_reducible refine wpL_loadMid (W.heap.size + 1) 0 (feA P.x.val).toList 4 rowFe (by rw [zAC]; exact feA_size _) haX ?_ ?_); rfl; rw [zAK])
   | ((with_reducible refine wpL_loadMid (W.heap.size + 1) 4 (feA P.y.val).toList 4 rowFe (by rw [zAC]; exact feA_size _) haY ?_ ?_); rfl; rw [zAK])
   | ((with_reducible refine wpL_bld (ty:=164) (.agg (h3A q)) ?_ ?_); (rw [HQB.out]; kernel_rfl))
   | ((with_reducible refine wpL_bld (ty:=72) (fe 1) ?_ ?_); kernel_rfl)
   | ((with_reducible refine wpL_store w2.heap.size 164 _ (h3A q) 12 rowH ?_ (h3A_size _) (h3A_one _) (Lies.new w2 _ _) ?_ ?_ ?_); rfl; rfl; rfl))
 have hq:=newly_lies w2 164 z12A (h3A q)
 have hnw:=newly w2 (.cells z12A 164) (h3A q)
 have l2:=hd.lt
 replace hn:=hn.on hnw
 replace hr:=hr.on hnw
 replace hd:=hd.on hnw
 replace hB:=below_on hB hnw
 clear hnw ha haX haY
 generalize World.setRow _ _ _ = w3 at *
 generalize w2.heap.size = gq at *
 go_upto_region 4 with (first
   | ((with_reducible refine wpL_bld (ty:=164) (.agg (h3A s0)) ?_ ?_); (rw [HZB.out]; kernel_rfl))
   | ((with_reducible refine wpL_bld (ty:=72) (fe 1) ?_ ?_); kernel_rfl)
   | ((with_reducible refine wpL_store w3.heap.size 164 _ (h3A s0) 12 rowH ?_ (h3A_size _) (h3A_one _) (Lies.new w3 _ _) ?_ ?_ ?_); rfl; rfl; rfl))
 have hs:=newly_lies w3 164 z12A (h3A s0)
 have hnw:=newly w3 (.cells z12A 164) (h3A s0)
 have l3:=hq.lt
 replace hn:=hn.on hnw
 replace hr:=hr.on hnw
 replace hd:=hd.on hnw
 replace hq:=hq.on hnw
 replace hB:=below_on hB hnw
 clear hnw
 generalize World.setRow _ _ _ = w4 at *
 generalize w3.heap.size = gs at *
 have l4:=hs.lt
 go_upto_region 5 with (first
   | ((with_reducible refine wpL_load W.heap.size 67 (feA n) 4 G.rowFe (feA_size _) hn ?_ ?_); rfl)
   | (go_at_call 119; go_loud (refine (HG.out _).mono ?_; rintro e w5 ⟨g,cap,rfl,ho,hb⟩); have hdi:=own_dig ho; have hcp:=own_cap ho; have hgo:=(ho.lt g rfl).1; clear ho; replace hr:=hr.on hb; replace hd:=hd.on hb; replace hq:=hq.on hb; replace hs:=hs.on hb; replace hB:=below_on hB hb; clear hb))
 have HN:Hid (gd ≠ gs ∧ gq ≠ gs ∧ g ≠ gs ∧ W.heap.size + 2 ≠ gs ∧ W.heap.size ≤ gs ∧ 16 ≤ cap):=Lib.hid ⟨by omega,by omega,by omega,by omega,by omega,hcp⟩
 clear l1 l2 l3 l4 hgo hcp hn HD HG HZB HQB hone
 have hu0:∃ u:N3,u.Lt ∧ Hp u (P.smul (val (l.drop 16))) ∧ Lies w5 gs 164 (h3A u):=⟨s0,HZ.out.1,by rw [← hln,zAW (zA3 _)]; exact HZ.out.2,hs⟩
 clear hs HZ
 go_wp2_with fail
 go_loopw [9] (fun ix wr => ∃ k:Nat,k ≤ 16 ∧ ix = .int .i64 ((k:Int) - 1) ∧ Dig wr g 0 l ∧ Lies wr (W.heap.size + 2) 124 z8A ∧ Lies wr gd 72 (feA dN) ∧ Lies wr gq 164 (h3A q) ∧ (∃ u:N3,u.Lt ∧ Hp u (P.smul (val (l.drop k))) ∧ Lies wr gs 164 (h3A u)) ∧ Below W.heap.size W wr) (fun ix _ => (intOf ix + 1).toNat)
 case atStart => exact ⟨16,zA3 _,rfl,hdi,hr,hd,hq,hu0,hB⟩
 case round =>
   clear hdi hr hd hq hu0 hB
   obtain ⟨k,hk,rfl,hdi,hr,hd,hq,hu,hB⟩:=hrel
   cases k with
   | zero =>
     rw [zAH] at hu
     obtain ⟨u,hul,hup,hs⟩:=hu
     obtain ⟨eX,eY⟩:=hup.affine
     have HI:=Lib.hid (fun w => refInv_any u.Z w hul.Z)
     have ki:invN u.Z < K256:=below_K (invN_lt _)
     generalize invN u.Z = iz at *
     have HX:=Lib.hid (fun w => refMul_any u.X iz w hul.X ki)
     rw [eX] at HX
     have HY:=Lib.hid (fun w => refMul_any u.Y iz w hul.Y ki)
     rw [eY] at HY
     obtain ⟨vx,hvx⟩:∃ v,(P.smul (val l)).x.val = v:=⟨_,rfl⟩
     obtain ⟨vy,hvy⟩:∃ v,(P.smul (val l)).y.val = v:=⟨_,rfl⟩
     rw [hvx] at HX
     rw [hvy] at HY
     have HVX:=Lib.hid hvx
     have HVY:=Lib.hid hvy
     clear hvx hvy
     have hbuild:af vx vy = .agg (feA vx ++ feA vy):=by unfold af afA; rfl
     have hsz:=HN.out
     clear eX eY hul hup ki HQ HOn hdi hd hq
     have hsZ:=h_Z hs
     go_upto_region 15 with (first
       | ((with_reducible refine wpL_loadMid gs 8 (feA u.Z).toList 4 rowFe (by rw [zAC]; exact feA_size _) hsZ ?_ ?_); rfl; rw [zAK])
       | (go_at_call 121; (with_reducible refine (HI.out _).mono ?_); rintro e w6 ⟨rfl,hb⟩; replace hr:=hr.on hb; replace hs:=hs.on hb; replace hB:=below_on hB hb; clear hb)
       | ((with_reducible refine wpL_store w6.heap.size 72 _ (feA iz) 4 rowFe ?_ (feA_size _) (feA_one _) (Lies.new w6 _ _) ?_ ?_ ?_); rfl; rfl; rfl))
     have hi:=newly_lies w6 72 fe0A (feA iz)
     have hnw:=newly w6 (.cells fe0A 72) (feA iz)
     replace hr:=hr.on hnw
     replace hs:=hs.on hnw
     replace hB:=below_on hB hnw
     clear hnw hsZ
     generalize World.setRow _ _ _ = w7 at *
     generalize w6.heap.size = gi at *
     have hsX:=h_X hs
     have hsY:=h_Y hs
     refine wp_region_plain 9 (by kernel_rfl) (by kernel_rfl) ?_
     simp only [zA8,zAJ,zAA,zAH]
     refine wpQB_run (.pointer (some ⟨gs,0,none⟩)) rfl (fun _ _ => by kernel_rfl) ?_
     simp only [Act.put,zA0,zA2,zA1]
     refine wpQB_mid gs 0 u.X hsX rfl ?_
     simp only [Act.put,zA0,zA2,zA1]
     refine wpQB_fe gi iz hi rfl ?_
     simp only [Act.put,zA0,zA2,zA1]
     refine wpQB_call 122 #[fe u.X,fe iz] (fe vx) rfl rfl (fun _ => by kernel_rfl) (fun w _ => HX.out w) ?_
     simp only [Act.put,zA0,zA2,zA1]
     refine wpQB_run (.pointer (some ⟨gs,4,none⟩)) rfl (fun _ _ => by kernel_rfl) ?_
     simp only [Act.put,zA0,zA2,zA1]
     refine wpQB_mid gs 4 u.Y hsY rfl ?_
     simp only [Act.put,zA0,zA2,zA1]
     refine wpQB_fe gi iz hi rfl ?_
     simp only [Act.put,zA0,zA2,zA1]
     refine wpQB_call 122 #[fe u.Y,fe iz] (fe vy) rfl rfl (fun _ => by kernel_rfl) (fun w _ => HY.out w) ?_
     simp only [Act.put,zA0,zA2,zA1]
     refine wpQB_run (af vx vy) rfl (fun _ _ => by rw [hbuild]; kernel_rfl) ?_
     simp only [Act.put,zA0,zA2,zA1]
     refine wpQB_nil ?_
     intro wz hb
     replace hr:=hr.on hb
     replace hB:=below_on hB hb
     clear hb
     go_wp2_with ((with_reducible refine wpL_store (W.heap.size + 2) 124 _ (afA vx vy) 8 rowAf rfl (afA_size _ _) (afA_one _ _) hr ?_ ?_ ?_); rfl; rfl)
     exact bodyPost_ret (results_row Tryz.results79 rowAf (afA_size _ _) (hr.row _) rfl) rfl ⟨by rw [HVX.out,HVY.out],below_rowSet hB (by omega) _⟩
   | succ m =>
     have em:((m + 1:Nat):Int) - 1 = (m:Int):=by omega
     rw [em]
     have hdm:l.drop m = l.getD m 0 :: l.drop (m + 1):=by
       rw [zAS (by omega),zA4,zA5 (by omega)]
       rfl
     have HDM:=Lib.hid hdm
     have hD:=hdg.out.at m
     have hml:(m:Int) < 16:=by omega
     have hcap:(16:Int) ≤ (cap:Int):=by have:=HN.out; omega
     clear hdm
     obtain ⟨V,hV⟩:∃ V,val (l.drop (m + 1)) = V:=⟨_,rfl⟩
     rw [hV] at hu
     have HV:=Lib.hid hV
     clear hV
     obtain ⟨D,hDD⟩:∃ D,l.getD m 0 = D:=⟨_,rfl⟩
     rw [hDD] at hD
     have HDD:=Lib.hid hDD
     clear hDD
     rw [← preN_zero V D hD] at hu
     obtain ⟨wq,hwq⟩:∃ wq,wq = wr:=⟨_,rfl⟩
     subst hwq
     go_wp2_with fail
     go_loopw [10] (fun bx wv => ∃ j b:Nat,j ≤ 16 ∧ bx = .int .i64 (b:Int) ∧ b = (if j = 16 then 0 else 2 ^ (15 - j)) ∧ Dig wv g 0 l ∧ Lies wv (W.heap.size + 2) 124 z8A ∧ Lies wv gd 72 (feA dN) ∧ Lies wv gq 164 (h3A q) ∧ (∃ u:N3,u.Lt ∧ Hp u (P.smul (preN V D j)) ∧ Lies wv gs 164 (h3A u)) ∧ Below W.heap.size W wv) (fun bx _ => (intOf bx).toNat)
     case atStart => exact ⟨0,32768,by omega,rfl,rfl,hdi,hr,hd,hq,hu,hB⟩
     case round =>
       clear hdi hr hd hq hu hB
       obtain ⟨j,b,hj,rfl,hb,hdi,hr,hd,hq,hu,hB⟩:=hrel
       by_cases hj16:j = 16
       · subst hj16
         rw [if_pos rfl] at hb
         subst hb
         go_wp2_with fail
         go_roundw
         case rel => exact ⟨m,by omega,rfl,hdi,hr,hd,hq,by rw [HDM.out,HDD.out]; show ∃ u:N3,u.Lt ∧ Hp u (P.smul (D + 65536 * val (l.drop (m + 1)))) ∧ _; rw [HV.out,← preN_end]; exact hu,hB⟩
         case measure => simp [intOf]
       · rw [if_neg hj16] at hb
         obtain ⟨u,hul,hup,hs⟩:=hu
         have hbp:=bit_pos j
         have hble:=bit_le j
         have hbh:=bit_half j (by omega)
         have hst:=preN_step V D j (by omega)
         rw [← hb] at hbp hble hbh hst
         have HM:=Lib.hid (fun w => hadd_any u u w hul hul)
         have hon:=Pt.smul_on HOn.out (preN V D j)
         have hup2:=hup.add hup hon hon
         rw [← Pt.smul_two HOn.out] at hup2
         have hul2:=addN_lt u u
         have HMx:=Lib.hid (fun w => hadd_any (addN u u) q w hul2 HQ.out.1)
         have hup3:Hp (addN (addN u u) q) (P.smul (2 * preN V D j + 1)):=hup2.add HQ.out.2 (Pt.smul_on HOn.out _) HOn.out
         have hul3:=addN_lt (addN u u) q
         generalize addN (addN u u) q = u3 at *
         generalize addN u u = u2 at *
         have hX:=(hdi m (by omega))
         rw [HDD.out,zAQ] at hX
         have hcase:Hid ((D / b % 2 = 1 ∧ Hp u3 (P.smul (preN V D (j + 1)))) ∨ (D / b % 2 = 0 ∧ Hp u2 (P.smul (preN V D (j + 1))))):=Lib.hid (by
           rcases Nat.mod_two_eq_zero_or_one (D / b) with h | h
           · right; exact ⟨h,by rw [hst,h,zAZ]; exact hup2⟩
           · left; exact ⟨h,by rw [hst,h]; exact hup3⟩)
         have HBH:=Lib.hid hbh
         clear hst hbh hb hup hup2 hup3 hon
         have hbpi:(0:Int) < (b:Int):=by omega
         have hbne:¬ (b:Int) = 0:=by omega
         have hq1:Int.tdiv (D:Int) (b:Int) = ((D / b:Nat):Int):=by rw [zB3 (by omega)]; exact (zBH _ _).symm
         have hq1':(D:Int) / (b:Int) = ((D / b:Nat):Int):=(zBH _ _).symm
         have hDb:D / b < 65536:=zBB (zB9 _ _) hD
         obtain ⟨b2,hb2⟩:∃ b2,b / 2 = b2:=⟨_,rfl⟩
         have hq2:Int.tdiv (b:Int) 2 = (b2:Int):=by rw [zB3 (by omega)]; omega
         have hq2':(b:Int) / 2 = (b2:Int):=by omega
         have HB2:=Lib.hid hb2
         clear hb2
         obtain ⟨qq,hqq⟩:∃ qq,D / b = qq:=⟨_,rfl⟩
         rw [hqq] at hq1 hq1' hDb hcase
         clear hqq
         obtain ⟨n1,n2,n3,n4,n5,n6⟩:=HN.out
         go_upto_region 11 with (first
           | ((with_reducible refine wpL_load gs 164 (h3A u) 12 rowH (h3A_size _) hs ?_ ?_); rfl)
           | ((with_reducible refine wpL_load gd 72 (feA dN) 4 rowFe (feA_size _) hd ?_ ?_); rfl)
           | (go_at_call 120; (with_reducible refine (HM.out _).mono ?_); rintro e w8 ⟨rfl,hb⟩; replace hdi:=hdi.on hb; replace hr:=hr.on hb; replace hd:=hd.on hb; replace hq:=hq.on hb; replace hs:=hs.on hb; replace hB:=below_on hB hb; clear hb hX)
           | ((with_reducible refine wpL_store gs 164 _ (h3A u2) 12 rowH (h3A_size _) (h3A_size _) (h3A_one _) hs ?_ ?_ ?_); rfl; rfl))
         replace hs:=hs.row (h3A u2)
         replace hdi:=hdi.rowFar n3 (h3A u2)
         replace hr:=hr.rowFar n4 (h3A u2)
         replace hd:=hd.rowFar n1 (h3A u2)
         replace hq:=hq.rowFar n2 (h3A u2)
         replace hB:=below_rowSet hB n5 (h3A u2)
         generalize World.setRow _ _ _ = w9 at *
         have hX:=hdi m (by omega)
         rw [HDD.out,zAQ] at hX
         clear HM
         rcases hcase.out with ⟨hodd,hup⟩ | ⟨heven,hup⟩
         · have hqi:(qq:Int) % 2 = 1:=by omega
           have HUP:=Lib.hid hup
           clear hcase hodd hup
           go_upto_region 13 with (first
             | ((with_reducible refine wpL_load gs 164 (h3A u2) 12 rowH (h3A_size _) hs ?_ ?_); rfl)
             | ((with_reducible refine wpL_load gq 164 (h3A q) 12 rowH (h3A_size _) hq ?_ ?_); rfl)
             | ((with_reducible refine wpL_load gd 72 (feA dN) 4 rowFe (feA_size _) hd ?_ ?_); rfl)
             | (go_at_call 120; (with_reducible refine (HMx.out _).mono ?_); rintro e w10 ⟨rfl,hb⟩; replace hdi:=hdi.on hb; replace hr:=hr.on hb; replace hd:=hd.on hb; replace hq:=hq.on hb; replace hs:=hs.on hb; replace hB:=below_on hB hb; clear hb)
             | ((with_reducible refine wpL_store gs 164 _ (h3A u3) 12 rowH (h3A_size _) (h3A_size _) (h3A_one _) hs ?_ ?_ ?_); rfl; rfl))
           replace hs:=hs.row (h3A u3)
           replace hdi:=hdi.rowFar n3 (h3A u3)
           replace hr:=hr.rowFar n4 (h3A u3)
           replace hd:=hd.rowFar n1 (h3A u3)
           replace hq:=hq.rowFar n2 (h3A u3)
           replace hB:=below_rowSet hB n5 (h3A u3)
           generalize World.setRow _ _ _ = w11 at *
           clear hX
           go_wp2_with fail
           go_roundw
           case rel => exact ⟨j + 1,b2,by omega,rfl,by rw [← HB2.out,HBH.out],hdi,hr,hd,hq,⟨u3,hul3,HUP.out,hs⟩,hB⟩
           case measure => have:=HB2.out; simp [intOf]; omega
         · have hqi:(qq:Int) % 2 = 0:=by omega
           have HUP:=Lib.hid hup
           clear hcase heven hup
           go_wp2_with fail
           go_roundw
           case rel => exact ⟨j + 1,b2,by omega,rfl,by rw [← HB2.out,HBH.out],hdi,hr,hd,hq,⟨u2,hul2,HUP.out,hs⟩,hB⟩
           case measure => have:=HB2.out; simp [intOf]; omega
end Go.Proofs.YteecbglmohhaeaaGreatDoor.E
namespace Go.Proofs.YteecbglmohhaeaaGreatDoor.G
open Go.Proofs.YteecbglmohhaeaaGreatDoor.F
open Go.RowKit Go.WideShapes
theorem list_of {l:List UInt8} {s:ByteArray} (h:(⟨l.toArray⟩:ByteArray) = s):l = s.data.toList:=by rw [← h]
theorem of_list {l:List UInt8} {s:ByteArray} (h:l = s.data.toList):(⟨l.toArray⟩:ByteArray) = s:=by rw [h]
theorem below_eq (s:ByteArray) (hs:s.size = 32):((⟨(leL (numLE s.data.toList % l25 % l25) 32).toArray⟩:ByteArray) = s) ↔ numLE s.data.toList < l25:=by
 have hl:s.data.toList.length = 32:=by rw [← Lib.size_eq]; exact hs
 have e:=leL_numLE s.data.toList
 rw [hl] at e
 rw [zCS]
 constructor
 · intro h
   have h1:=list_of h
   have h2:numLE (leL (numLE s.data.toList % l25) 32) = numLE s.data.toList:=by rw [h1]
   rw [numLE_leL,zAB (zCI (zAO _ l25_pos) (by decide))] at h2
   rw [← h2]
   exact zAO _ l25_pos
 · intro h
   exact of_list (by rw [zAB h,e])
theorem toList_beq (a b:ByteArray):(a.toList == b.toList) = decide (a = b):=by
 rw [Bool.eq_iff_iff,beq_iff_eq,decide_eq_true_eq]
 constructor
 · intro h
   rw [ByteArray.toList_eq,ByteArray.toList_eq] at h
   exact bytes_inj h
 · intro h
   rw [h]
set_option maxHeartbeats 400000 in
theorem refBelow_any (s:ByteArray) (hs:s.size = 32) (W:World) :
   Calls Tryz.prog 78 #[.string s] W fun e W' => e = .returned (.bool (decide (numLE s.data.toList < l25))) ∧ Below W.heap.size W W':=by
 have HW:=Lib.hid (fun w => refWide_any s (by omega) w)
 have HB:=Lib.hid (fun w => refBytes_any (numLE s.data.toList % l25) w (modL_K _))
 have HE:=Lib.hid (below_eq s hs)
 generalize numLE s.data.toList % l25 = V at HW HB HE
 generalize hX:(⟨(leL (V % l25) 32).toArray⟩:ByteArray) = X at HB HE
 clear hX
 have HQ:Hid ((X.toList == s.toList) = decide (numLE s.data.toList < l25)):=Lib.hid (by
   rw [toList_beq]
   by_cases h:numLE s.data.toList < l25
   · rw [decide_eq_true h,decide_eq_true (HE.out.2 h)]
   · rw [decide_eq_false h,decide_eq_false (fun e => h (HE.out.1 e))])
 have hB:=Below.refl W.heap.size W
 go_enter Tryz.func78,Tryz.ntmps78
 go_wp2_with (first
   | (go_at_call 82; refine (HW.out _).mono ?_; rintro e w1 ⟨rfl,hb⟩; replace hB:=below_on hB hb; clear hb)
   | (go_at_call 117; refine (HB.out _).mono ?_; rintro e w2 ⟨rfl,hb⟩; replace hB:=below_on hB hb; clear hb))
 go_ret
 exact ⟨ret1_of (by rw [← HQ.out]; rfl),hB⟩
end Go.Proofs.YteecbglmohhaeaaGreatDoor.G
namespace Go.Proofs.YteecbglmohhaeaaGreatDoor.T
open Go.RowKit
theorem own_on {wr w1:World} {B:Nat} {e:TypeId} {v:Value} {n:Nat} {xs:List Value} (h:wr.ownsRow B e 1 v n xs) (hb:Below wr.heap.size wr w1):w1.ownsRow B e 1 v n xs:=by
 obtain ⟨hl,h⟩:=h
 refine ⟨hl,?_⟩
 rcases h with h | ⟨g,cap,cur,hv,hg,hh,hr⟩
 · exact Or.inl h
 · exact Or.inr ⟨g,cap,cur,hv,hg,Lies.on (t:=e) hh hb,hr⟩
theorem own_far {w:World} {B e n g t:Nat} {v:Value} {xs:List Value} {cs:Array Value} (h:w.ownsRow B e 1 v n xs) (hl:Lies w g t cs) (hne:e ≠ t):v.ownBlock ≠ some g:=by
 rcases h.2 with ⟨rfl,_⟩ | ⟨g1,cap,cur,rfl,_,hh,_⟩
 · intro e; cases e
 · intro e2
   simp only [Value.ownBlock,Option.some.injEq] at e2
   subst e2
   unfold Lies at hl
   rw [hh] at hl
   injection hl with hl
   injection hl with _ ht
   exact hne ht
theorem own_empty {w:World} {B g:Nat} {e:TypeId} (hl:Lies w g e #[]) (hB:B ≤ g):w.ownsRow B e 1 (.slice (some ⟨g,0,none⟩) 0 0) 0 []:=
 ⟨rfl,.inr ⟨g,0,#[],rfl,hB,hl,zA3 _,zAR _,rfl,rfl⟩⟩
theorem wpL_append {P:Program} {ops:Array Oper} {rest:List Oper} {a:Act} {w:World} {Q:Exit → Act → World → Prop} {t':TypeId} {pos:String} {after:Array Edge} {d:Option Tmp} {x y:Tmp} {ty:TypeId}
   (B:Nat) (e:TypeId) (i:TypeInfo) (z:Value) (bytes:Nat) (ht:P.underlying ty = some (.slice e)) (hi:P.info? e = some i) (hz:i.zero = some z) (hsize:i.size = 1) (hby:i.bytes = bytes) (hzs:z.cells.size = 1)
   (v:Value) (n:Nat) (xs:List Value) (hown:w.ownsRow B e 1 v n xs) (b:Nat) (u:Value) (hl:Lies w b e #[u]) (hu:u.oneCell' = true) (h63:n + 1 ≤ maxLen) (hbytes:(n + 1) * bytes ≤ 140737488355328) (hbase:B ≤ w.heap.size)
   (hs:a.eval (.tmp x) = v) (hx:a.eval (.tmp y) = .slice (some ⟨b,0,none⟩) 1 1)
   (h:∀ g cap w',w'.ownsRow B e 1 (.slice (some ⟨g,0,none⟩) (n + 1) cap) (n + 1) (xs ++ [u]) → w.grownBy w' v.ownBlock → wpList P ops Q rest (a.put d (.slice (some ⟨g,0,none⟩) (n + 1) cap)) w') :
   wpList P ops Q (⟨d,.call { callee:=.builtin .append,args:=#[.tmp x,.tmp y],argTypes:=#[ty,ty] },t',pos,after,none⟩ :: rest) a w:=
 wpList_append_lies (o:=⟨d,.call { callee:=.builtin .append,args:=#[.tmp x,.tmp y],argTypes:=#[ty,ty] },t',pos,after,none⟩) w rfl _ _ ty rfl B e i z 1 bytes ht hi hz hsize hby hzs (by decide) v n xs hs hown ⟨b,0,none⟩ 1 1 [u] hx rfl (World.news_of_block hl) (by simpa using hu) (by decide) h63 hbytes hbase w.heap.size rfl (fun g cap w' h2 h3 _ _ => h g cap w' h2 h3)
def numN (l:List Nat):Nat → Nat
 | 0 => 0
 | n + 1 => numN l n + 65536 ^ n * l.getD n 0
def V (l:List Nat):Nat:=numN l l.length
theorem place (m:Nat):2 ^ m = 65536 ^ (m / 16) * 2 ^ (m % 16):=by
 rw [show (65536:Nat) = 2 ^ 16 from rfl,← zC1,← zBI,zCH]
end Go.Proofs.YteecbglmohhaeaaGreatDoor.T
namespace Go.Proofs.YteecbglmohhaeaaGreatDoor.T
open Go.RowKit
theorem two_pow_le (k:Nat) (h:k ≤ 63):2 ^ k ≤ 9223372036854775808:=by
 have:=zB1 (n:=2) (by decide) h
 exact zB this (by decide)
theorem two_pow_lt (k:Nat) (h:k < 63):2 ^ k ≤ 4611686018427387904:=by
 have:=zB1 (n:=2) (by decide) (show k ≤ 62 by omega)
 exact zB this (by decide)
theorem turn_eq (x n:Nat):((x:Int) / ((2 ^ n:Nat):Int) + (x:Int) % ((2 ^ n:Nat):Int) * ((2 ^ (64 - n):Nat):Int)) = ((rotr x n:Nat):Int):=by
 unfold rotr
 rw [Int.natCast_add,Int.natCast_mul,zBH,Int.natCast_emod]
set_option maxHeartbeats 400000 in
theorem turn_any (x n:Nat) (w:World) (hx:x < 18446744073709551616) (h1:0 < n) (h2:n < 64) :
   Calls Tryz.prog 182 #[.int .u64 x,.int .i64 n] w fun e w' => e = .returned (.int .u64 (rotr x n)) ∧ ∃ n,w' = w.drewN n:=by
 go_enter Tryz.func182,Tryz.ntmps182
 go_wp2
 go_loopw [5,6] (fun p i wr => ∃ k:Nat,k ≤ n ∧ i = .int .i64 k ∧ p = .int .u64 ((2 ^ k:Nat):Int) ∧ wr = w) (fun _ i _ => n - (intOf i).toNat)
 case atStart => exact ⟨0,zAR _,rfl,rfl,rfl⟩
 case round =>
   obtain ⟨k,hk,rfl,rfl,rfl⟩:=hrel
   by_cases hlt:k < n
   · have hp:=two_pow_lt k (by omega)
     have HS:=Lib.hid (zAP 2 k)
     generalize 2 ^ k = P at *
     go_wp2
     go_roundw
     case rel =>
       refine ⟨k + 1,by omega,by go_num,val_int ?_,trivial⟩
       rw [HS.out]
       omega
     case measure => simp [intOf]; omega
   · obtain rfl:k = n:=by omega
     have hp:=two_pow_le k (by omega)
     have h0:0 < 2 ^ k:=zCN k
     have HE:=Lib.hid (turn_eq x k)
     generalize 2 ^ k = P at *
     go_wp2
     go_loopw [7,8] (fun q i wv => ∃ m:Nat,k ≤ m ∧ m ≤ 64 ∧ i = .int .i64 m ∧ q = .int .u64 ((2 ^ (m - k):Nat):Int) ∧ wv = wr) (fun _ i _ => 64 - (intOf i).toNat)
     case atStart => exact ⟨k,by omega,by omega,rfl,by rw [zB8]; rfl,rfl⟩
     case round =>
       obtain ⟨m,hm1,hm2,rfl,rfl,rfl⟩:=hrel
       by_cases hlt:m < 64
       · have hp2:=two_pow_lt (m - k) (by omega)
         have HS:Hid (2 ^ (m + 1 - k) = 2 ^ (m - k) * 2):=Lib.hid (by rw [← zAP]; congr 1; omega)
         generalize 2 ^ (m - k) = P2 at *
         go_wp2
         go_roundw
         case rel =>
           refine ⟨m + 1,by omega,by omega,by go_num,val_int ?_,trivial⟩
           rw [HS.out]
           omega
         case measure => simp [intOf]; omega
       · obtain rfl:m = 64:=by omega
         have hq:=two_pow_le (64 - k) (by omega)
         generalize 2 ^ (64 - k) = Q at *
         have hd:0 ≤ (x:Int) / (P:Int):=Int.ediv_nonneg (by omega) (by omega)
         have hm:0 ≤ (x:Int) % (P:Int) * (Q:Int):=Int.mul_nonneg (Int.emod_nonneg _ (by omega)) (by omega)
         have hr:=rotr_lt x k hx (by omega)
         have he:=HE.out
         have hz:(P:Int) ≠ 0:=by omega
         go_wp2
         go_quiet (fail)
         go_wp2
         go_ret
         exact ⟨rfl,_,rfl⟩
set_option maxHeartbeats 400000 in
theorem move_any (x n:Nat) (w:World) (hx:x < 18446744073709551616) (h2:n < 64) :
   Calls Tryz.prog 183 #[.int .u64 x,.int .i64 n] w fun e w' => e = .returned (.int .u64 ((x / 2 ^ n:Nat):Int)) ∧ w' = w:=by
 go_enter Tryz.func183,Tryz.ntmps183
 go_wp2
 go_loopw [0,5] (fun v i wr => ∃ k:Nat,k ≤ n ∧ i = .int .i64 k ∧ v = .int .u64 ((x / 2 ^ k:Nat):Int) ∧ wr = w) (fun _ i _ => n - (intOf i).toNat)
 case atStart => exact ⟨0,zAR _,rfl,by simp,rfl⟩
 case round =>
   obtain ⟨k,hk,rfl,rfl,rfl⟩:=hrel
   by_cases hlt:k < n
   · have HS:Hid (x / 2 ^ (k + 1) = x / 2 ^ k / 2):=Lib.hid (by rw [zAP,zB5])
     have hl:x / 2 ^ k < 18446744073709551616:=zBB (zB9 _ _) hx
     generalize x / 2 ^ k = y at *
     go_wp2
     go_roundw
     case rel =>
       refine ⟨k + 1,by omega,by go_num,val_int ?_,trivial⟩
       rw [HS.out]
       omega
     case measure => simp [intOf]; omega
   · obtain rfl:k = n:=by omega
     go_wp2
     go_ret
     exact ⟨rfl,rfl⟩
end Go.Proofs.YteecbglmohhaeaaGreatDoor.T
