import Derived.Test.YteecbglmohhaeaaGreatDoorK1
import Derived.BigQuiet
import Derived.Deep.AppendLies
import Derived.Deep.CutRange
import Derived.Deep.MidRow
import Derived.Deep.QuietTactic
import Derived.Lib.Hide
import Derived.Lib.Strings
import Derived.Test.YteecbglmohhaeaaGreatDoorProg
import Derived.WalkKit
import Derived.WalkLawsBesides
import Derived.WalkSpells
set_option maxRecDepth 100000
open List renaming append_assoc → zBL, append_nil → zB6, getD_eq_getElem?_getD → zA4, getElem?_drop → zBF, getElem?_eq_getElem → zA5, getElem?_map → zAD, getElem?_replicate → zC6, getElem?_take_of_lt → zBT, length_drop → zB4, length_set → zBC, length_take → zAM, mem_append → zCO, nil_append → zBU, replicate_succ → zCA, replicate_zero → zCE, set_append_right → zBV, set_cons_zero → zA1, take_of_length_le → zA7, take_zero → zAJ
open Nat renaming add_assoc → zC5, add_mul → zCR, add_zero → zAZ, le_refl → zA3, le_trans → zB, lt_or_ge → zBD, mul_add → zAT, mul_assoc → zAY, mul_left_comm → zCB, mul_zero → zCQ, pow_add → zBI, sub_self → zB8, zero_add → zAQ, zero_le → zAR
open Array renaming getElem?_eq_none → zBR, toArray_toList → zAK
namespace Go.Proofs.YteecbglmohhaeaaGreatDoor
open Go.RowKit
theorem val_int {k:IntKind} {a b:Int} (h:a = b):Value.int k a = Value.int k b:=by rw [h]
theorem val_str {a b:List UInt8} (h:a = b):Value.string ⟨a.toArray⟩ = Value.string ⟨b.toArray⟩:=by rw [h]
theorem ret1_of {a b:Value} (h:a = b):Ending.returned a = .returned b:=by rw [h]
theorem below_on {W w1 w2:World} (hb:Below W.heap.size W w1) (h2:Below w1.heap.size w1 w2):Below W.heap.size W w2:=hb.trans (h2.mono hb.size)
theorem info5:(Tryz.prog.info? 5).map (fun i => (i.zero,i.size,i.bytes)) = some (some (.int .u8 0),1,1):=by kernel_rfl
theorem str_own {w:World} {B:Nat} {v:Value} {n:Nat} {l:List UInt8} (hown:w.ownsRow B 5 1 v n (Lib.byteCells l)) :
   (convert 71 9 v).run Tryz.prog w = .ok (.string ⟨l.toArray⟩) w:=by
 have hl:l.length = n:=by have:=hown.1; simpa [Lib.byteCells] using this
 rcases hown.2 with ⟨rfl,h0⟩ | ⟨g,cap,cur,rfl,_⟩
 · have:l = []:=List.eq_nil_of_length_eq_zero (by omega)
   subst this
   rw [run_convert_bytes_string w 71 9 5 none 0 0 Tryz.underlying71 Tryz.underlying5 Tryz.underlying9]
   rfl
 · subst hl
   exact run_convert_bytes_back w 71 9 5 ⟨g,0,none⟩ cap l Tryz.underlying71 Tryz.underlying5 Tryz.underlying9 (by
     intro j hj
     exact hown.cells (g:=g) rfl j _ (by simp [Lib.byteCells,zA5 hj]))
theorem str_one (w:World) (x:Int) (h0:0 ≤ x) (hx:x < 256) :
   (convert 71 9 (.slice (some ⟨w.heap.size,0,none⟩) 1 1)).run Tryz.prog (w.alloc (.cells #[.int .u8 x] 5)) = .ok (.string ⟨#[x.toNat.toUInt8]⟩) (w.alloc (.cells #[.int .u8 x] 5)):=by
 have h:=run_convert_bytes_back (P:=Tryz.prog) (w.alloc (.cells #[.int .u8 x] 5)) 71 9 5 ⟨w.heap.size,0,none⟩ 1 [x.toNat.toUInt8] Tryz.underlying71 Tryz.underlying5 Tryz.underlying9 (by
   intro j hj
   obtain rfl:j = 0:=by simp at hj; omega
   rw [show ((⟨w.heap.size,0,none⟩:Addr).add 0) = ⟨w.heap.size,0,none⟩ by simp [Addr.add]]
   rw [World.cell?_alloc_mark]
   simp
   omega)
 exact h
end Go.Proofs.YteecbglmohhaeaaGreatDoor
namespace Go.Proofs.YteecbglmohhaeaaGreatDoor.F
open Go.RowKit
abbrev w64 (x:Nat):Value:=Value.int .u64 (x:Int)
abbrev i64 (x:Nat):Value:=Value.int .i64 (x:Int)
def Lies (w:World) (g:Nat) (t:TypeId) (cs:Array Value):Prop:=w.heap[g]? = some (.cells cs t (0,0))
section
variable {w w':World} {g:Nat} {t:TypeId} {cs:Array Value}
theorem Lies.lt (h:Lies w g t cs):g < w.heap.size:=by
 rcases zBD g w.heap.size with hlt | hge
 · exact hlt
 · unfold Lies at h; rw [zBR hge] at h; cases h
theorem Lies.cell (h:Lies w g t cs) (i:Nat):w.cell? ⟨g,i,none⟩ = cs[i]?:=cell_of_row w g i cs t (0,0) h
theorem Lies.frozen (h:Lies w g t cs) (i:Nat):w.frozen? ⟨g,i,none⟩ = false:=frozen_of_row w g i cs t h
theorem Lies.drew (h:Lies w g t cs):Lies w.drew g t cs:=h
theorem Lies.alloc (h:Lies w g t cs) (o:Obj):Lies (w.alloc o) g t cs:=(Below.heap_alloc w o g h.lt).trans h
theorem Lies.new (w:World) (t:TypeId) (cs:Array Value):Lies (w.alloc (.cells cs t)) w.heap.size t cs:=heap_alloc_new w _
theorem Lies.put (h:Lies w g t cs) (i:Nat) (v:Value):Lies (w.setCell ⟨g,i,none⟩ v) g t (cs.setIfInBounds i v):=heap_setCell_same w g i cs t v h
theorem Lies.far (h:Lies w g t cs) {p:Addr} (hp:g ≠ p.block) (v:Value):Lies (w.setCell p v) g t cs:=(heap_setCell_other w p g v hp).trans h
theorem Lies.below {B:Nat} (h:Lies w g t cs) (hb:Below B w w') (hg:g < B):Lies w' g t cs:=(hb.block g hg).trans h
theorem Lies.on (h:Lies w g t cs) (hb:Below w.heap.size w w'):Lies w' g t cs:=h.below hb h.lt
theorem Lies.row (h:Lies w g t cs) (old:Array Value):Lies (w.setRow g old) g t old:=setRow_heap w g cs old t (0,0) h
theorem Lies.rowFar {g':Nat} (h:Lies w g t cs) (hg:g ≠ g') (old:Array Value):Lies (w.setRow g' old) g t cs:=(setRow_other w g' g old hg).trans h
end
theorem below_drawn {B:Nat} {a w:World} (h:Below B a w) (n:Nat):Below B a (w.drewN n):=⟨h.os,h.tape,h.output,h.size,h.block⟩
theorem below_rowSet {B:Nat} {a w:World} (h:Below B a w) {g:Nat} (hg:B ≤ g) (cs:Array Value):Below B a (w.setRow g cs):=
 h.trans ⟨rfl,rfl,rfl,by simp,fun k hk => setRow_other _ _ _ _ (by omega)⟩
section
variable {a w w':World} {g:Nat}
end
def RowT (P:Program) (ty:TypeId) (n:Nat):Prop:=(∃ d,P.underlying ty = some d ∧ d.isRow = true) ∧ (P.info? ty).map (·.size) = some n
def Ones (cs:Array Value):Prop:=cs.all (·.oneCell') = true
theorem ones_of {cs:List Value} (h:∀ v ∈ cs,v.oneCell' = true):Ones cs.toArray:=all_oneCell_toArray h
section
variable {P:Program} {ops:Array Oper} {rest:List Oper} {a:Act} {w:World} {Q:Exit → Act → World → Prop} {t':TypeId} {pos:String} {after:Array Edge}
theorem wpL_load {d:Option Tmp} {x:Tmp} {ty:TypeId} (g:Nat) (t:TypeId) (cs:Array Value) (n:Nat) (hT:RowT P ty n) (hn:cs.size = n) (hg:Lies w g t cs)
   (hx:a.eval (.tmp x) = .pointer (some ⟨g,0,none⟩)) (h:wpList P ops Q rest (a.put d (.agg cs)) w):wpList P ops Q (⟨d,.load ty (.tmp x),t',pos,after,none⟩ :: rest) a w:=by
 obtain ⟨⟨ds,hu,hd⟩,hi⟩:=hT
 exact wpList_load_row (o:=⟨d,.load ty (.tmp x),t',pos,after,none⟩) rfl ty (.tmp x) rfl g hx t cs (0,0) ds hg hu (by cases ds <;> first | rfl | simp [TypeDesc.isRow] at hd) (by rw [hi,hn]) h
theorem wpL_store {x y:Tmp} {ty:TypeId} (g:Nat) (t:TypeId) (old cs:Array Value) (n:Nat) (hT:RowT P ty n) (ho:old.size = n) (hn:cs.size = n) (h1:Ones cs) (hg:Lies w g t old)
   (hx:a.eval (.tmp x) = .pointer (some ⟨g,0,none⟩)) (hy:a.eval (.tmp y) = .agg cs) (h:wpList P ops Q rest (a.put none undef) (w.setRow g cs)):wpList P ops Q (⟨none,.store ty (.tmp x) (.tmp y),t',pos,after,none⟩ :: rest) a w:=
 wpList_store_row (o:=⟨none,.store ty (.tmp x) (.tmp y),t',pos,after,none⟩) rfl ty (.tmp x) (.tmp y) rfl g cs hx hy t old hg (by rw [hT.2,hn]) (by rw [ho,hn]) h1 h
theorem wpL_loadMid {d:Option Tmp} {x:Tmp} {ty:TypeId} (g o:Nat) (cs:List Value) (n:Nat) (hT:RowT P ty n) (hn:cs.length = n) (hg:w.rangeAt g o cs)
   (hx:a.eval (.tmp x) = .pointer (some ⟨g,o,none⟩)) (h:wpList P ops Q rest (a.put d (.agg cs.toArray)) w):wpList P ops Q (⟨d,.load ty (.tmp x),t',pos,after,none⟩ :: rest) a w:=by
 obtain ⟨⟨ds,hu,hd⟩,hi⟩:=hT
 exact wpList_load_mid (op:=⟨d,.load ty (.tmp x),t',pos,after,none⟩) rfl ty (.tmp x) rfl g o hx cs ds hg hu hd (by rw [hi,hn]) h
end
theorem results_row {P:Program} {fn:Func} {p:Tmp} {ty:TypeId} {n:Nat} {w:World} {g:Nat} {t:TypeId} {cs:Array Value} {tmps:Array Value} (h:fn.results = #[.cell p ty]) (hT:RowT P ty n) (hn:cs.size = n) (hg:Lies w g t cs) (hp:tmps.getD p undef = .pointer (some ⟨g,0,none⟩)) :
   (results fn tmps).run P w = .ok (.agg cs) w:=by
 obtain ⟨⟨ds,hu,hd⟩,hi⟩:=hT
 exact results_cell_row h tmps w g t cs (0,0) ds hp hg hu (by cases ds <;> first | rfl | simp [TypeDesc.isRow] at hd) (by rw [hi,hn])
theorem results_row_tmp {P:Program} {fn:Func} {p u:Tmp} {ty:TypeId} {n:Nat} {w:World} {g:Nat} {t:TypeId} {cs:Array Value} {tmps:Array Value} {x:Value} (h:fn.results = #[.cell p ty,.tmp u]) (hT:RowT P ty n) (hn:cs.size = n) (hg:Lies w g t cs) (hp:tmps.getD p undef = .pointer (some ⟨g,0,none⟩)) (hx:tmps.getD u undef = x) :
   (results fn tmps).run P w = .ok (.tuple #[.agg cs,x]) w:=by
 obtain ⟨⟨d,hu,hd⟩,hi⟩:=hT
 have hl:=run_loadVar_row (P:=P) w g t ty cs (0,0) d hg hu (by cases d <;> first | rfl | simp [TypeDesc.isRow] at hd) (by rw [hi,hn])
 have hp':tmps[p]?.getD undef = .pointer (some ⟨g,0,none⟩):=by simpa using hp
 have hx':tmps[u]?.getD undef = x:=by simpa using hx
 simp [results,h,hp',hx',asAddr,hl]
theorem own_on {wr w1:World} {B:Nat} {e:TypeId} {v:Value} {n:Nat} {xs:List Value} (h:wr.ownsRow B e 1 v n xs) (hb:Below wr.heap.size wr w1):w1.ownsRow B e 1 v n xs:=by
 obtain ⟨hl,h⟩:=h
 refine ⟨hl,?_⟩
 rcases h with h | ⟨g,cap,cur,hv,hg,hh,hr⟩
 · exact Or.inl h
 · exact Or.inr ⟨g,cap,cur,hv,hg,Lies.on (t:=e) hh hb,hr⟩
theorem own_apart {w:World} {B e e' n n':Nat} {v v':Value} {xs xs':List Value} (h:w.ownsRow B e 1 v n xs) (h':w.ownsRow B e' 1 v' n' xs') (hne:e ≠ e') (g:Nat) (hv:v.ownBlock = some g):v'.ownBlock ≠ some g:=by
 rcases h.2 with ⟨rfl,_⟩ | ⟨g1,cap,cur,rfl,_,hh,_⟩
 · cases hv
 · rcases h'.2 with ⟨rfl,_⟩ | ⟨g2,cap2,cur2,rfl,_,hh2,_⟩
   · intro e; cases e
   · intro e2
     simp only [Value.ownBlock,Option.some.injEq] at hv e2
     subst hv
     subst e2
     rw [hh] at hh2
     injection hh2 with hh2
     injection hh2 with _ ht
     exact hne ht
theorem own_grown {w w':World} {B e n:Nat} {v:Value} {xs:List Value} {row:Option Nat} (h:w.ownsRow B e 1 v n xs) (hg:w.grownBy w' row) (hne:∀ g,v.ownBlock = some g → row ≠ some g):w'.ownsRow B e 1 v n xs:=by
 obtain ⟨hl,h⟩:=h
 refine ⟨hl,?_⟩
 rcases h with h | ⟨g,cap,cur,hv,hB,hh,hr⟩
 · exact Or.inl h
 · refine Or.inr ⟨g,cap,cur,hv,hB,?_,hr⟩
   have hlt:=Lies.lt (t:=e) hh
   exact (hg.block g hlt (fun e => hne g (by rw [hv]; rfl) e.symm)).trans hh
theorem own_less {w:World} {B B' e n:Nat} {v:Value} {xs:List Value} (h:w.ownsRow B e 1 v n xs) (hB:B' ≤ B):w.ownsRow B' e 1 v n xs:=by
 obtain ⟨hl,h⟩:=h
 refine ⟨hl,?_⟩
 rcases h with h | ⟨g,cap,cur,hv,hg,hh,hr⟩
 · exact Or.inl h
 · exact Or.inr ⟨g,cap,cur,hv,zB hB hg,hh,hr⟩
theorem own_empty {w:World} {B g:Nat} {e:TypeId} (hl:Lies w g e #[]) (hB:B ≤ g):w.ownsRow B e 1 (.slice (some ⟨g,0,none⟩) 0 0) 0 []:=
 ⟨rfl,.inr ⟨g,0,#[],rfl,hB,hl,zA3 _,zAR _,rfl,rfl⟩⟩
theorem wpL_append {P:Program} {ops:Array Oper} {rest:List Oper} {a:Act} {w:World} {Q:Exit → Act → World → Prop} {t':TypeId} {pos:String} {after:Array Edge} {d:Option Tmp} {x y:Tmp} {ty:TypeId}
   (B:Nat) (e:TypeId) (i:TypeInfo) (z:Value) (bytes:Nat) (ht:P.underlying ty = some (.slice e)) (hi:P.info? e = some i) (hz:i.zero = some z) (hsize:i.size = 1) (hby:i.bytes = bytes) (hzs:z.cells.size = 1)
   (v:Value) (n:Nat) (xs:List Value) (hown:w.ownsRow B e 1 v n xs) (b:Nat) (u:Value) (hl:Lies w b e #[u]) (hu:u.oneCell' = true) (h63:n + 1 ≤ maxLen) (hbytes:(n + 1) * bytes ≤ 140737488355328) (hbase:B ≤ w.heap.size)
   (hs:a.eval (.tmp x) = v) (hx:a.eval (.tmp y) = .slice (some ⟨b,0,none⟩) 1 1)
   (h:∀ g cap w',w'.ownsRow B e 1 (.slice (some ⟨g,0,none⟩) (n + 1) cap) (n + 1) (xs ++ [u]) → w.grownBy w' v.ownBlock → wpList P ops Q rest (a.put d (.slice (some ⟨g,0,none⟩) (n + 1) cap)) w') :
   wpList P ops Q (⟨d,.call { callee:=.builtin .append,args:=#[.tmp x,.tmp y],argTypes:=#[ty,ty] },t',pos,after,none⟩ :: rest) a w:=
 wpList_append_lies (o:=⟨d,.call { callee:=.builtin .append,args:=#[.tmp x,.tmp y],argTypes:=#[ty,ty] },t',pos,after,none⟩) w rfl _ _ ty rfl B e i z 1 bytes ht hi hz hsize hby hzs (by decide) v n xs hs hown ⟨b,0,none⟩ 1 1 [u] hx rfl (World.news_of_block hl) (by simpa using hu) (by decide) h63 hbytes hbase w.heap.size rfl (fun g cap w' h2 h3 _ _ => h g cap w' h2 h3)
def Dig (w:World) (g o:Nat) (l:List Nat):Prop:=∀ i,i < l.length → w.cell? ⟨g,o + i,none⟩ = some (i64 (l.getD i 0))
theorem Dig.on {w w':World} {g o:Nat} {l:List Nat} (h:Dig w g o l) (hb:Below w.heap.size w w'):Dig w' g o l:=fun i hi => by
 have h1:=h i hi
 exact (hb.cell (p:=⟨g,o + i,none⟩) (World.block_lt_of_cell? w _ h1)).trans h1
theorem Dig.take {w:World} {g o:Nat} {l:List Nat} (h:Dig w g o l) (n:Nat):Dig w g o (l.take n):=fun i hi => by
 rw [zAM] at hi
 have h1:=h i (by omega)
 rw [h1,zA4,zA4,zBT (by omega)]
theorem Dig.drop {w:World} {g o:Nat} {l:List Nat} (h:Dig w g o l) (n:Nat):Dig w g (o + n) (l.drop n):=fun i hi => by
 rw [zB4] at hi
 have h1:=h (n + i) (by omega)
 rw [zC5,h1,zA4,zA4,zBF]
theorem own_dig {w:World} {B g n cap:Nat} {e:TypeId} {l:List Nat} (h:w.ownsRow B e 1 (.slice (some ⟨g,0,none⟩) n cap) n (l.map i64)):Dig w g 0 l:=fun i hi => by
 have hn:l.length = n:=by simpa using h.1
 rw [zAQ,h.cellAt i (by omega),zAD,zA5 hi,zA4,zA5 hi]
 rfl
theorem own_cap {w:World} {B g n cap:Nat} {e:TypeId} {xs:List Value} (h:w.ownsRow B e 1 (.slice (some ⟨g,0,none⟩) n cap) n xs):n ≤ cap:=by
 rcases h.2 with ⟨hv,_⟩ | ⟨g',cap',cur,hv,_,_,h1,_⟩
 · cases hv
 · injection hv with _ _ hc
   omega
theorem own_at {w:World} {B g n cap:Nat} {e:TypeId} {l:List Nat} (h:w.ownsRow B e 1 (.slice (some ⟨g,0,none⟩) n cap) n (l.map i64)) (i:Nat) (hi:i < n):w.cell? ⟨g,i,none⟩ = some (i64 (l.getD i 0)):=by
 have hn:l.length = n:=by simpa using h.1
 have:=own_dig h i (by omega)
 rw [zAQ] at this
 exact this
theorem own_putv {w:World} {B g n cap:Nat} {e:TypeId} {l:List Nat} (h:w.ownsRow B e 1 (.slice (some ⟨g,0,none⟩) n cap) n (l.map i64)) (j x:Nat) (v:Value) (hv:v = i64 x) :
   (w.setCell ⟨g,j,none⟩ v).ownsRow B e 1 (.slice (some ⟨g,0,none⟩) n cap) n ((l.set j x).map i64):=by
 rw [hv,List.map_set]
 exact (h.stored j _).1
theorem made_zeros (n:Nat):(madeCells #[Value.int .i64 0] n).toList = (List.replicate n 0).map i64:=by
 rw [List.map_replicate,toList_madeCells_one]
 rfl
def readV (v:Value) (w:World):Nat:=match v with
 | .slice (some ⟨g,o,none⟩) n _ => val ((List.range n).map fun i => match w.cell? ⟨g,o + i,none⟩ with | some (.int _ x) => x.toNat | _ => 0)
 | _ => 0
theorem readV_dig {w:World} {g o cap:Nat} {l:List Nat} (h:Dig w g o l):readV (.slice (some ⟨g,o,none⟩) l.length cap) w = val l:=by
 show val _ = val l
 congr 1
 apply List.ext_getElem (by simp)
 intro i h1 h2
 simp only [List.getElem_map,List.getElem_range]
 rw [h i h2,zA4,zA5 h2]
 rfl
def feA (n:Nat):Array Value:=#[w64 (n % 18446744073709551616),w64 (n / 18446744073709551616 % 18446744073709551616),w64 (n / 340282366920938463463374607431768211456 % 18446744073709551616),w64 (n / 6277101735386680763835789423207666416102355444464034512896 % 18446744073709551616)]
abbrev fe (n:Nat):Value:=.agg (feA n)
abbrev K256:Nat:=115792089237316195423570985008687907853269984665640564039457584007913129639936
theorem fe_of (a b c d:Nat) (ha:a < 18446744073709551616) (hb:b < 18446744073709551616) (hc:c < 18446744073709551616) (hd:d < 18446744073709551616) :
   ∃ n,n < K256 ∧ Value.agg #[w64 a,w64 b,w64 c,w64 d] = fe n ∧ n = a + 18446744073709551616 * b + 340282366920938463463374607431768211456 * c + 6277101735386680763835789423207666416102355444464034512896 * d:=by
 obtain ⟨n,hn⟩:∃ n,a + 18446744073709551616 * b + 340282366920938463463374607431768211456 * c + 6277101735386680763835789423207666416102355444464034512896 * d = n:=⟨_,rfl⟩
 have e0:n % 18446744073709551616 = a:=by omega
 have e1:n / 18446744073709551616 % 18446744073709551616 = b:=by omega
 have e2:n / 340282366920938463463374607431768211456 % 18446744073709551616 = c:=by omega
 have e3:n / 6277101735386680763835789423207666416102355444464034512896 % 18446744073709551616 = d:=by omega
 refine ⟨n,by unfold K256; omega,?_,hn.symm⟩
 unfold fe feA
 rw [e0,e1,e2,e3]
theorem feA_one (n:Nat):Ones (feA n):=by unfold Ones feA; simp [Value.oneCell']
theorem feA_size (n:Nat):(feA n).size = 4:=rfl
theorem Lies.storeFe {w:World} {g t:Nat} {cs:Array Value} (h:Lies w g t cs) (n:Nat) (hn:cs.size = 4:=by rfl):(storeCells ⟨g,0,none⟩ (feA n).toList).run Tryz.prog w = .ok () (w.setRow g (feA n)):=by
 have h2:=run_storeCells_from (P:=Tryz.prog) g t (feA n).toList 0 cs w h (by rw [hn]; rfl) (fun v hv => (Array.all_eq_true_iff_forall_mem.1 (feA_one n)) v (by simpa using hv))
 rw [zAJ,zBU,zAK] at h2
 exact h2
theorem row4:RowT Tryz.prog 66 4:=⟨⟨_,Tryz.underlying66,rfl⟩,by kernel_rfl⟩
end Go.Proofs.YteecbglmohhaeaaGreatDoor.F
namespace Go.Proofs.YteecbglmohhaeaaGreatDoor.F
open Go.RowKit
theorem rowFe:RowT Tryz.prog 72 4:=⟨⟨_,Tryz.underlying72,rfl⟩,by kernel_rfl⟩
end Go.Proofs.YteecbglmohhaeaaGreatDoor.F
namespace Go.Proofs.YteecbglmohhaeaaGreatDoor.F
open Go.RowKit
theorem info3:(Tryz.prog.info? 3).map (fun i => (i.zero,i.size,i.bytes)) = some (some (.int .i64 0),1,8):=by kernel_rfl
set_option maxHeartbeats 400000 in
theorem trim_any (l:List Nat) (g o cap:Nat) (w:World) (hd:Dig w g o l) (hl:l.length ≤ 1000) (hc:l.length ≤ cap) :
   Calls Tryz.prog 148 #[.slice (some ⟨g,o,none⟩) l.length cap] w fun e w' => e = .returned (.slice (some ⟨g,o,none⟩) (trimL l).length cap) ∧ w' = w:=by
 have HL:=Lib.hid (trimL_length l)
 go_enter Tryz.func148,Tryz.ntmps148
 go_wp2
 go_loop [3] (fun n => ∃ k:Nat,k ≤ l.length ∧ n = .int .i64 k ∧ Hid (trimN l l.length = trimN l k)) (fun n => (intOf n).toNat)
 case atStart => exact ⟨_,zA3 _,rfl,Lib.hid rfl⟩
 case round =>
   obtain ⟨k,hk,rfl,HT⟩:=hrel
   cases k with
   | zero =>
     have HE:=Lib.hid (HL.out.trans HT.out)
     go_wp2
     go_ret
     exact ⟨ret1_of (by rw [HE.out]; rfl),rfl⟩
   | succ k =>
     have hX:=hd k (by omega)
     have HS:Hid (trimN l (k + 1) = if l.getD k 0 = 0 then trimN l k else k + 1):=Lib.hid rfl
     generalize l.getD k 0 = X at hX HS
     have em:((k + 1:Nat):Int) - 1 = (k:Int):=by omega
     by_cases hx:X = 0
     · subst hx
       go_wp2
       go_round
       case rel => exact ⟨k,by omega,by go_num,Lib.hid (by rw [HT.out,HS.out,if_pos rfl])⟩
       case measure => simp [intOf]
     · have HE:=Lib.hid (HL.out.trans (HT.out.trans (HS.out.trans (if_neg hx))))
       go_wp2
       go_ret
       exact ⟨ret1_of (by rw [HE.out]; rfl),rfl⟩
theorem pre_set (p:List Nat) (n i x:Nat) (hp:p.length = i) (h:i < n):(p ++ List.replicate (n - i) 0).set i x = (p ++ [x]) ++ List.replicate (n - (i + 1)) 0:=by
 rw [zBV _ _ (by omega),hp,zB8,show n - i = (n - (i + 1)) + 1 by omega,zCA,zA1,zBL]
 rfl
theorem carry_step (C X:Nat) (hC:C ≤ 1152921504606846976) (hX:X ≤ 1152921504606846976):IntKind.i64.wrap ((C:Int) + (X:Int)) = ((C + X:Nat):Int):=by
 rw [IntWalk.i64_in _ (by omega)]
 omega
set_option maxHeartbeats 800000 in
theorem carry_any (d:List Nat) (M g o cap:Nat) (W:World) (hd:Dig W g o d) (hl:d.length ≤ 900) (hM:Bd M d) (hM2:M ≤ 1152921504606846976) :
   Calls Tryz.prog 175 #[.slice (some ⟨g,o,none⟩) d.length cap] W fun e W' => ∃ r g' cap',e = .returned (.slice (some ⟨g',0,none⟩) r.length cap') ∧ r.length ≤ cap' ∧ r.length ≤ d.length + 4 ∧ Dig W' g' 0 r ∧ Dg r ∧ Tr r ∧ val r = val d ∧ Below W.heap.size W W':=by
 obtain ⟨i0,hi,hz0,hz1,hz2⟩:=info_parts info3
 go_enter Tryz.func175,Tryz.ntmps175
 go_wp2_with (at_make; refine wpList_make_full _ rfl _ _ 48 rfl W.heap.size 3 i0 (.int .i64 0) 1 Tryz.underlying48 hi hz0 hz1 _ _ _ _ (d.length + 4) rfl rfl ?e1 ?e2 ?b2 ?b3 (zA3 _) ?_)
 case e1 => omega
 case e2 => omega
 case b2 => rw [hz2]; omega
 case b3 => unfold maxLen; omega
 intro w1 hown hgrow
 have hb1:Below W.heap.size W w1:=(Below.refl _ _).grown hgrow (zA3 _) (fun k hk => by cases hk)
 rw [made_zeros] at hown
 clear hgrow
 go_wp2_with fail
 go_loopw [4,12] (fun n ix wr => ∃ i:Nat,i ≤ d.length + 4 ∧ ix = .int .i64 i ∧ n = i64 (carN d i) ∧ wr.ownsRow W.heap.size 3 1 (.slice (some ⟨W.heap.size,0,none⟩) (d.length + 4) (d.length + 4)) (d.length + 4) ((carL d i ++ List.replicate (d.length + 4 - i) 0).map i64) ∧ Below W.heap.size W wr) (fun _ ix _ => d.length + 4 - (intOf ix).toNat)
 case atStart => exact ⟨0,zAR _,rfl,rfl,hown,hb1⟩
 case round =>
   clear hown hb1
   obtain ⟨i,hi1,rfl,rfl,ho,hB⟩:=hrel
   by_cases hlt:i < d.length + 4
   · have hC:=zB (carN_le hM i) hM2
     have hF:=ho.frozenAt i
     have hO:=own_at ho i (by omega)
     have HO:=Lib.hid ho
     have HP:=Lib.hid (pre_set (carL d i) (d.length + 4) i (carD d i) (carL_length d i) hlt)
     have HS:=Lib.hid (carL_succ d i)
     have HN:Hid (carN d (i + 1) = (carN d i + d.getD i 0) / 65536):=Lib.hid rfl
     have HD:Hid (carD d i = (carN d i + d.getD i 0) % 65536):=Lib.hid rfl
     clear ho
     generalize (carL d i ++ List.replicate (d.length + 4 - i) 0).getD i 0 = Y at hO
     by_cases hlt2:i < d.length
     · have hX:=(hd.on hB) i hlt2
       have hX2:=zB (hM.at i) hM2
       generalize carN d i = C at hC HN HD
       generalize d.getD i 0 = X at hX hX2 HN HD
       have hcs:=carry_step C X hC hX2
       obtain ⟨S,hS⟩:∃ S,C + X = S:=⟨_,rfl⟩
       have hSle:S ≤ 2305843009213693952:=by omega
       rw [hS] at hcs HN HD
       clear hS hC hX2
       go_wp2_with fail
       go_roundw
       case rel => exact ⟨i + 1,by omega,by go_num,val_int (by rw [HN.out]; omega),by rw [HS.out,← HP.out]; exact own_putv HO.out i _ _ (val_int (by rw [HD.out]; omega)),hB.setCell (p:=⟨W.heap.size,i,none⟩) (zA3 _) _⟩
       case measure => simp [intOf]; omega
     · rw [getD_past hlt2,zAZ] at HN HD
       generalize carN d i = C at hC HN HD
       go_wp2_with fail
       go_roundw
       case rel => exact ⟨i + 1,by omega,by go_num,val_int (by rw [HN.out]; omega),by rw [HS.out,← HP.out]; exact own_putv HO.out i _ _ (val_int (by rw [HD.out]; omega)),hB.setCell (p:=⟨W.heap.size,i,none⟩) (zA3 _) _⟩
       case measure => simp [intOf]; omega
   · obtain rfl:i = d.length + 4:=by omega
     rw [zB8,zCE,zB6] at ho
     have hD:=own_dig ho
     have hlen:=carL_length d (d.length + 4)
     have HT:=Lib.hid (trim_any (carL d (d.length + 4)) W.heap.size 0 (d.length + 4) wr hD (by omega) (by omega))
     rw [hlen] at HT
     have hle:=trimL_le (carL d (d.length + 4))
     clear ho
     go_wp2_with (go_at_call 148; refine HT.out.mono ?_; rintro e w2 ⟨rfl,rfl⟩)
     go_ret
     exact ⟨trimL (carL d (d.length + 4)),_,_,rfl,by omega,by omega,hD.take _,(carL_dg _ _).trim,trim_tr _,(val_trim _).trans (car_end hM (by omega)),hB⟩
theorem getD_set (l:List Nat) (i j x:Nat) (h:i < l.length):(l.set i x).getD j 0 = if j = i then x else l.getD j 0:=by
 rw [zA4,zA4,List.getElem?_set]
 by_cases e:i = j
 · subst e
   simp [h]
 · rw [if_neg e,if_neg (fun h => e h.symm)]
theorem bd_of {M:Nat} {l:List Nat} (h:∀ j,l.getD j 0 ≤ M):Bd M l:=fun d hd => by
 obtain ⟨j,hj,rfl⟩:=List.getElem_of_mem hd
 have:=h j
 rw [zA4,zA5 hj] at this
 exact this
def plusS (s b:List Nat):Nat → List Nat
 | 0 => s
 | k + 1 => (plusS s b k).set k ((plusS s b k).getD k 0 + b.getD k 0)
theorem plusS_length (s b:List Nat) (k:Nat):(plusS s b k).length = s.length:=by
 induction k with
 | zero => rfl
 | succ k ih => rw [plusS,zBC,ih]
theorem plusS_at (s b:List Nat) (k j:Nat) (hk:k ≤ s.length):(plusS s b k).getD j 0 = if j < k then s.getD j 0 + b.getD j 0 else s.getD j 0:=by
 induction k with
 | zero => simp [plusS]
 | succ k ih =>
   have ih:=ih (by omega)
   rw [plusS,getD_set _ _ _ _ (by rw [plusS_length]; omega)]
   by_cases e:j = k
   · subst e
     rw [if_pos rfl,ih,if_neg (by omega),if_pos (by omega)]
   · rw [if_neg e,ih]
     by_cases h:j < k
     · rw [if_pos h,if_pos (by omega)]
     · rw [if_neg h,if_neg (by omega)]
theorem plusS_val (s b:List Nat) (k:Nat) (hk:k ≤ s.length):val (plusS s b k) = val s + val (b.take k):=by
 induction k with
 | zero => simp [plusS,val]
 | succ k ih =>
   have h1:=val_set (plusS s b k) k ((plusS s b k).getD k 0 + b.getD k 0) (by rw [plusS_length]; omega)
   have h2:=val_take_any b k
   have ih:=ih (by omega)
   rw [zAT] at h1
   rw [plusS]
   omega
theorem plusS_bd {s b:List Nat} (hs:Dg s) (hb:Dg b) (k:Nat) (hk:k ≤ s.length):Bd 131072 (plusS s b k):=bd_of fun j => by
 have h1:=hs.at j
 have h2:=hb.at j
 rw [plusS_at _ _ _ _ hk]
 split <;> omega
theorem dg_zeros {a:List Nat} (ha:Dg a) (n:Nat):Dg (a ++ List.replicate n 0):=fun d hd => by
 rw [zCO,List.mem_replicate] at hd
 rcases hd with hd | ⟨_,rfl⟩
 · exact ha d hd
 · decide
theorem val_pad (a:List Nat) (n:Nat):val (a ++ List.replicate n 0) = val a:=by rw [val_append,val_zeros,zCQ,zAZ]
def innS (a b:List Nat) (i:Nat) (s:List Nat):Nat → List Nat
 | 0 => s
 | k + 1 => (innS a b i s k).set (i + k) ((innS a b i s k).getD (i + k) 0 + a.getD i 0 * b.getD k 0)
def outS (a b:List Nat):Nat → List Nat
 | 0 => List.replicate (a.length + b.length) 0
 | i + 1 => innS a b i (outS a b i) b.length
theorem innS_length (a b:List Nat) (i:Nat) (s:List Nat) (k:Nat):(innS a b i s k).length = s.length:=by
 induction k with
 | zero => rfl
 | succ k ih => rw [innS,zBC,ih]
theorem outS_length (a b:List Nat) (i:Nat):(outS a b i).length = a.length + b.length:=by
 induction i with
 | zero => simp [outS]
 | succ i ih => rw [outS,innS_length,ih]
theorem innS_at (a b:List Nat) (i:Nat) (s:List Nat) (k j:Nat) (hk:i + k ≤ s.length):(innS a b i s k).getD j 0 = if i ≤ j ∧ j < i + k then s.getD j 0 + a.getD i 0 * b.getD (j - i) 0 else s.getD j 0:=by
 induction k with
 | zero => rw [innS,if_neg (by omega)]
 | succ k ih =>
   have ih:=ih (by omega)
   rw [innS,getD_set _ _ _ _ (by rw [innS_length]; omega)]
   by_cases e:j = i + k
   · subst e
     rw [if_pos rfl,ih,if_neg (by omega),if_pos (by omega),Nat.add_sub_cancel_left]
   · rw [if_neg e,ih]
     by_cases h:i ≤ j ∧ j < i + k
     · rw [if_pos h,if_pos (by omega)]
     · rw [if_neg h,if_neg (by omega)]
theorem innS_val (a b:List Nat) (i:Nat) (s:List Nat) (k:Nat) (hk:i + k ≤ s.length):val (innS a b i s k) = val s + 65536 ^ i * (a.getD i 0 * val (b.take k)):=by
 induction k with
 | zero => simp [innS,val]
 | succ k ih =>
   have h1:=val_set (innS a b i s k) (i + k) ((innS a b i s k).getD (i + k) 0 + a.getD i 0 * b.getD k 0) (by rw [innS_length]; omega)
   have ih:=ih (by omega)
   rw [zAT] at h1
   rw [innS,val_take_any b k,zAT,zAT]
   have h3:65536 ^ (i + k) * (a.getD i 0 * b.getD k 0) = 65536 ^ i * (a.getD i 0 * (65536 ^ k * b.getD k 0)):=by
     rw [zBI,zAY,zCB (65536 ^ k)]
   omega
theorem outS_val (a b:List Nat) (i:Nat) (hi:i ≤ a.length):val (outS a b i) = val (a.take i) * val b:=by
 induction i with
 | zero => simp [outS,val,val_zeros]
 | succ i ih =>
   rw [outS,innS_val _ _ _ _ _ (by rw [outS_length]; omega),ih (by omega),zA7 (zA3 b.length),val_take_any a i,zCR,zAY]
theorem outS_bd {a b:List Nat} (ha:Dg a) (hb:Dg b) (i:Nat) (hi:i ≤ a.length) (j:Nat):(outS a b i).getD j 0 ≤ i * 4294836225:=by
 induction i with
 | zero =>
   rw [outS,zA4,zC6]
   split <;> simp
 | succ i ih =>
   have ih:=ih (by omega)
   have h1:=ha.at i
   have h2:=hb.at (j - i)
   have h3:=Nat.mul_le_mul (show a.getD i 0 ≤ 65535 by omega) (show b.getD (j - i) 0 ≤ 65535 by omega)
   have h4:=zB h3 (show 65535 * 65535 ≤ 4294836225 by decide)
   clear h3
   rw [outS,innS_at _ _ _ _ _ _ (by rw [outS_length]; omega),Nat.succ_mul]
   by_cases h:i ≤ j ∧ j < i + b.length
   · rw [if_pos h]
     exact Nat.add_le_add ih h4
   · rw [if_neg h]
     exact zB ih (Nat.le_add_right _ _)
theorem innS_bd {a b:List Nat} (ha:Dg a) (hb:Dg b) (i k:Nat) (hi:i ≤ a.length) (hk:k ≤ b.length) (hik:i < a.length) (j:Nat):(innS a b i (outS a b i) k).getD j 0 ≤ (i + 1) * 4294836225:=by
 have ih:=outS_bd ha hb i hi j
 have h1:=ha.at i
 have h2:=hb.at (j - i)
 have h3:=Nat.mul_le_mul (show a.getD i 0 ≤ 65535 by omega) (show b.getD (j - i) 0 ≤ 65535 by omega)
 have h4:=zB h3 (show 65535 * 65535 ≤ 4294836225 by decide)
 clear h3
 rw [innS_at _ _ _ _ _ _ (by rw [outS_length]; omega),Nat.succ_mul]
 by_cases h:i ≤ j ∧ j < i + k
 · rw [if_pos h]
   exact Nat.add_le_add ih h4
 · rw [if_neg h]
   exact zB ih (Nat.le_add_right _ _)
def primeL:List Nat:=[65517,65535,65535,65535,65535,65535,65535,65535,65535,65535,65535,65535,65535,65535,65535,32767]
theorem prime_val:val primeL = p25:=by decide +kernel
theorem prime_dg:Dg primeL:=by unfold Dg primeL; decide
theorem prime_tr:Tr primeL:=fun n hn => by
 obtain rfl:n = 15:=by simp [primeL] at hn; omega
 decide
end Go.Proofs.YteecbglmohhaeaaGreatDoor.F
