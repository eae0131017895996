import Derived.Test.YteecbglmohhaeaaGreatDoorK14
import Derived.BigQuiet
import Derived.ChangeSame
import Derived.Deep.MidRow
import Derived.Deep.QuietTactic
import Derived.Deep.Slices
import Derived.Laws.AppendOwn
import Derived.Laws.AppendOwnNone
import Derived.Laws.Externs
import Derived.Laws.Slices
import Derived.Lib.AppendStr
import Derived.Lib.Builder
import Derived.Lib.QuietBelow
import Derived.Lib.SmallJoins
import Derived.OpenShut
import Derived.OrdersHeld
set_option maxRecDepth 100000
open List renaming append_nil → zB6, drop_eq_getElem_cons → zAS, drop_zero → zAH, getD_eq_getElem?_getD → zA4, getElem?_append_left → zBY, getElem?_append_right → zBJ, getElem?_cons_succ → zAN, getElem?_cons_zero → zAF, getElem?_eq_getElem → zA5, getElem?_map → zAD, getElem?_take → zC0, getElem?_toArray → zA6, length_append → zAL, length_cons → zB7, length_map → zAG, length_take → zAM, mem_cons → zCK, mem_of_getElem? → zAU
open Nat renaming add_zero → zAZ, eq_zero_or_pos → zC, le_refl → zA3, le_trans → zB, lt_or_ge → zBD, mul_one → zBO, zero_add → zAQ, zero_le → zAR
open Array renaming getElem?_eq_none → zBR
open Option renaming map_some → zBW
open Bool renaming false_and → zC8, true_and → zC7
namespace Go.Proofs.YteecbglmohhaeaaGreatDoor.V
open Go.ChangeShapes Go.WideShapes Go.ChangeAt Go.RowKit
instance:Inhabited VT:=⟨vt0⟩
theorem range_below {w w':World} {b o:Nat} {cs:List Value} (hb:Below w.heap.size w w') (h:w.rangeAt b o cs):w'.rangeAt b o cs:=fun j v hv => by
 have h4:=h j v hv
 rw [hb.cell (p:=⟨b,o + j,none⟩) (World.block_lt_of_cell? w _ h4),h4]
def RowC (w:World) (k:Nat) (v:Value) (m:Nat) (p:Nat → List Value → Prop):Prop:=
 ∃ a c,v = .slice a m c ∧ m ≤ c ∧ c ≤ maxLen ∧ (a = none → c = 0) ∧ (0 < m → ∃ b off,a = some ⟨b,off,none⟩ ∧ ∀ i,i < m → ∃ cs,cs.length = k ∧ w.rangeAt b (off + i * k) cs ∧ p i cs)
theorem RowC.mono {w:World} {k:Nat} {v:Value} {m:Nat} {p q:Nat → List Value → Prop} (h:RowC w k v m p) (hq:∀ i cs,i < m → p i cs → q i cs):RowC w k v m q:=by
 obtain ⟨a,c,hv,hc,hm,hn,hl⟩:=h
 refine ⟨a,c,hv,hc,hm,hn,fun hpos => ?_⟩
 obtain ⟨b,off,ha,hx⟩:=hl hpos
 exact ⟨b,off,ha,fun i hi => let ⟨cs,h1,h2,h3⟩:=hx i hi; ⟨cs,h1,h2,hq i cs hi h3⟩⟩
def VFit (t:VT):Prop:=(-9223372036854775808 ≤ t.kind ∧ t.kind ≤ 9223372036854775807) ∧ (-9223372036854775808 ≤ t.num ∧ t.num ≤ 9223372036854775807) ∧ t.txt.length ≤ maxLen ∧ ∀ x ∈ t.keys,x.length ≤ maxLen
def IsV (w:World):Nat → List Value → VT → Prop
 | 0,_,_ => False
 | d + 1,cs,t => ∃ vi vk,cs = [.int .i64 t.kind,.int .i64 t.num,str t.txt,vi,vk] ∧ VFit t ∧ Strs w vk t.keys ∧ RowC w 5 vi t.items.length (fun i cs' => ∃ x,t.items[i]? = some x ∧ IsV w d cs' x)
theorem IsV.mono {w:World}:∀ {d d':Nat} {cs:List Value} {t:VT},IsV w d cs t → d ≤ d' → IsV w d' cs t:=by
 intro d
 induction d with
 | zero => intro d' cs t h; exact h.elim
 | succ d ih =>
   intro d' cs t h hd
   obtain ⟨e,rfl⟩:∃ e,d' = e + 1:=⟨d' - 1,by omega⟩
   obtain ⟨vi,vk,h1,h2,h3,h4⟩:=h
   exact ⟨vi,vk,h1,h2,h3,h4.mono fun i cs _ ⟨x,hx,hv⟩ => ⟨x,hx,ih hv (by omega)⟩⟩
end Go.Proofs.YteecbglmohhaeaaGreatDoor.V
namespace Go.Proofs.YteecbglmohhaeaaGreatDoor.V
open Go.RowKit
def Lies (w:World) (g:Nat) (t:TypeId) (cs:Array Value):Prop:=w.heap[g]? = some (.cells cs t (0,0))
section
variable {w w':World} {g:Nat} {t:TypeId} {cs:Array Value}
theorem Lies.lt (h:Lies w g t cs):g < w.heap.size:=by
 rcases zBD g w.heap.size with hlt | hge
 · exact hlt
 · unfold Lies at h; rw [zBR hge] at h; cases h
theorem Lies.cell (h:Lies w g t cs) (i:Nat):w.cell? ⟨g,i,none⟩ = cs[i]?:=cell_of_row w g i cs t (0,0) h
theorem Lies.frozen (h:Lies w g t cs) (i:Nat):w.frozen? ⟨g,i,none⟩ = false:=frozen_of_row w g i cs t h
theorem Lies.alloc (h:Lies w g t cs) (o:Obj):Lies (w.alloc o) g t cs:=(Below.heap_alloc w o g h.lt).trans h
theorem Lies.new (w:World) (t:TypeId) (cs:Array Value):Lies (w.alloc (.cells cs t)) w.heap.size t cs:=heap_alloc_new w _
theorem Lies.put (h:Lies w g t cs) (i:Nat) (v:Value):Lies (w.setCell ⟨g,i,none⟩ v) g t (cs.setIfInBounds i v):=heap_setCell_same w g i cs t v h
theorem Lies.far (h:Lies w g t cs) {p:Addr} (hp:g ≠ p.block) (v:Value):Lies (w.setCell p v) g t cs:=(heap_setCell_other w p g v hp).trans h
theorem Lies.below {B:Nat} (h:Lies w g t cs) (hb:Below B w w') (hg:g < B):Lies w' g t cs:=(hb.block g hg).trans h
theorem Lies.on (h:Lies w g t cs) (hb:Below w.heap.size w w'):Lies w' g t cs:=h.below hb h.lt
theorem Lies.only {row:Option Nat} (h:Lies w g t cs) (hb:w.grownBy w' row) (hg:some g ≠ row):Lies w' g t cs:=(hb.block g h.lt hg).trans h
theorem Lies.row (h:Lies w g t cs) (old:Array Value):Lies (w.setRow g old) g t old:=setRow_heap w g cs old t (0,0) h
theorem Lies.rowFar {g':Nat} (h:Lies w g t cs) (hg:g ≠ g') (old:Array Value):Lies (w.setRow g' old) g t cs:=(setRow_other w g' g old hg).trans h
end
end Go.Proofs.YteecbglmohhaeaaGreatDoor.V
namespace Go.Proofs.YteecbglmohhaeaaGreatDoor.V
open Go.RowKit
theorem below_rowSet {B:Nat} {a w:World} (h:Below B a w) {g:Nat} (hg:B ≤ g) (cs:Array Value):Below B a (w.setRow g cs):=
 h.trans ⟨rfl,rfl,rfl,by simp,fun k hk => setRow_other _ _ _ _ (by omega)⟩
def RowT (P:Program) (ty:TypeId) (n:Nat):Prop:=(∃ d,P.underlying ty = some d ∧ d.isRow = true) ∧ (P.info? ty).map (·.size) = some n
def Ones (cs:Array Value):Prop:=cs.all (·.oneCell') = true
section
variable {P:Program} {ops:Array Oper} {rest:List Oper} {a:Act} {w:World} {Q:Exit → Act → World → Prop} {t':TypeId} {pos:String} {after:Array Edge}
theorem wpL_load {d:Option Tmp} {x:Tmp} {ty:TypeId} (g:Nat) (t:TypeId) (cs:Array Value) (n:Nat) (hT:RowT P ty n) (hn:cs.size = n) (hg:Lies w g t cs)
   (hx:a.eval (.tmp x) = .pointer (some ⟨g,0,none⟩)) (h:wpList P ops Q rest (a.put d (.agg cs)) w):wpList P ops Q (⟨d,.load ty (.tmp x),t',pos,after,none⟩ :: rest) a w:=by
 obtain ⟨⟨ds,hu,hd⟩,hi⟩:=hT
 exact wpList_load_row (o:=⟨d,.load ty (.tmp x),t',pos,after,none⟩) rfl ty (.tmp x) rfl g hx t cs (0,0) ds hg hu (by cases ds <;> first | rfl | simp [TypeDesc.isRow] at hd) (by rw [hi,hn]) h
theorem wpL_store {x y:Tmp} {ty:TypeId} (g:Nat) (t:TypeId) (old cs:Array Value) (n:Nat) (hT:RowT P ty n) (ho:old.size = n) (hn:cs.size = n) (h1:Ones cs) (hg:Lies w g t old)
   (hx:a.eval (.tmp x) = .pointer (some ⟨g,0,none⟩)) (hy:a.eval (.tmp y) = .agg cs) (h:wpList P ops Q rest (a.put none undef) (w.setRow g cs)):wpList P ops Q (⟨none,.store ty (.tmp x) (.tmp y),t',pos,after,none⟩ :: rest) a w:=
 wpList_store_row (o:=⟨none,.store ty (.tmp x) (.tmp y),t',pos,after,none⟩) rfl ty (.tmp x) (.tmp y) rfl g cs hx hy t old hg (by rw [hT.2,hn]) (by rw [ho,hn]) h1 h
theorem wpL_loadMid {d:Option Tmp} {x:Tmp} {ty:TypeId} (g o:Nat) (cs:List Value) (n:Nat) (hT:RowT P ty n) (hn:cs.length = n) (hg:w.rangeAt g o cs)
   (hx:a.eval (.tmp x) = .pointer (some ⟨g,o,none⟩)) (h:wpList P ops Q rest (a.put d (.agg cs.toArray)) w):wpList P ops Q (⟨d,.load ty (.tmp x),t',pos,after,none⟩ :: rest) a w:=by
 obtain ⟨⟨ds,hu,hd⟩,hi⟩:=hT
 exact wpList_load_mid (op:=⟨d,.load ty (.tmp x),t',pos,after,none⟩) rfl ty (.tmp x) rfl g o hx cs ds hg hu hd (by rw [hi,hn]) h
end
end Go.Proofs.YteecbglmohhaeaaGreatDoor.V
namespace Go.Proofs.YteecbglmohhaeaaGreatDoor.V
open Go.RowKit
def Calm (b:Nat) (w w':World):Prop:=w.heap.size ≤ w'.heap.size ∧ ∀ (k:Nat) (cs:Array Value) (t:TypeId) (fr:Nat × Nat),k ≠ b → t ≠ 5 → w.heap[k]? = some (.cells cs t fr) → w'.heap[k]? = some (.cells cs t fr)
theorem Calm.trans {b:Nat} {w w1 w2:World} (h:Calm b w w1) (k:Calm b w1 w2):Calm b w w2:=⟨zB h.1 k.1,fun j cs t fr hj ht hc => k.2 j cs t fr hj ht (h.2 j cs t fr hj ht hc)⟩
theorem Calm.grown {b B n:Nat} {v:Value} {ys:List Value} {w w':World} (ho:w.ownsRow B 5 1 v n ys) (h:w.grownBy w' v.ownBlock):Calm b w w':=by
 refine ⟨h.size,fun j cs t fr _ ht hc => ?_⟩
 have hj:j < w.heap.size:=by
   rcases zBD j w.heap.size with h1 | h1
   · exact h1
   · rw [zBR h1] at hc; cases hc
 refine (h.block j hj ?_).trans hc
 rcases ho.2 with ⟨rfl,_⟩ | ⟨g,cap,cur,rfl,_,hg,_⟩
 · simp [Value.ownBlock]
 · intro e
   simp only [Value.ownBlock,Option.some.injEq] at e
   subst e
   rw [hg] at hc
   simp only [Option.some.injEq,Obj.cells.injEq] at hc
   exact ht hc.2.1.symm
theorem own_on {k:Nat} {w w1:World} {B:Nat} {e:TypeId} {v:Value} {n:Nat} {xs:List Value} (h:w.ownsRow B e k v n xs) (hb:Below w.heap.size w w1):w1.ownsRow B e k v n xs:=by
 obtain ⟨hl,h⟩:=h
 refine ⟨hl,?_⟩
 rcases h with h | ⟨g,cap,cur,hv,hg,hh,hr⟩
 · exact Or.inl h
 · have hlt:g < w.heap.size:=by
     rcases zBD g w.heap.size with h' | h'
     · exact h'
     · rw [zBR h'] at hh; cases hh
   exact Or.inr ⟨g,cap,cur,hv,hg,(hb.block g hlt).trans hh,hr⟩
end Go.Proofs.YteecbglmohhaeaaGreatDoor.V
namespace Go.Proofs.YteecbglmohhaeaaGreatDoor.V
open Go.RowKit
def RowL (w:World) (k:Nat) (v:Value) (css:List (List Value)):Prop:=
 (∀ cs ∈ css,cs.length = k) ∧ ∃ a c,v = .slice a css.length c ∧ css.length ≤ c ∧ c ≤ maxLen ∧ (a = none → c = 0) ∧ (0 < css.length → ∃ b off,a = some ⟨b,off,none⟩ ∧ ∀ (i:Nat) (cs:List Value),css[i]? = some cs → w.rangeAt b (off + i * k) cs)
theorem RowL.below {w w':World} {k:Nat} {v:Value} {css:List (List Value)} (h:RowL w k v css) (hb:Below w.heap.size w w'):RowL w' k v css:=by
 obtain ⟨h0,a,c,hv,hc,hm,hn,hl⟩:=h
 refine ⟨h0,a,c,hv,hc,hm,hn,fun hpos => ?_⟩
 obtain ⟨b,off,ha,hx⟩:=hl hpos
 exact ⟨b,off,ha,fun i cs hi => range_below hb (hx i cs hi)⟩
theorem RowL.nil (w:World) (k:Nat):RowL w k (.slice none 0 0) []:=⟨(fun cs h => by cases h),none,0,rfl,zA3 _,zAR _,fun _ => rfl,fun h => absurd h (by simp)⟩
theorem RowL.form {w:World} {k:Nat} {v:Value} {css:List (List Value)} (h:RowL w k v css):∃ a c,v = .slice a css.length c ∧ css.length ≤ c ∧ c ≤ maxLen ∧ (a = none → c = 0):=by
 obtain ⟨_,a,c,hv,hc,hm,hn,_⟩:=h
 exact ⟨a,c,hv,hc,hm,hn⟩
theorem RowL.at {w:World} {k:Nat} {a:Option Addr} {n c:Nat} {css:List (List Value)} (h:RowL w k (.slice a n c) css) {i:Nat} {cs:List Value} (hi:css[i]? = some cs):∃ b off,a = some ⟨b,off,none⟩ ∧ w.rangeAt b (off + i * k) cs ∧ cs.length = k:=by
 obtain ⟨h0,a',c',hv,hc,hm,hn,hl⟩:=h
 injection hv with e1 e2 e3
 subst e1
 have hlt:=(List.getElem?_eq_some_iff.1 hi).1
 obtain ⟨b,off,ha,hx⟩:=hl (by omega)
 exact ⟨b,off,ha,hx i cs hi,h0 cs (zAU hi)⟩
theorem flat_len {k:Nat}:∀ {css:List (List Value)},(∀ cs ∈ css,cs.length = k) → css.flatten.length = css.length * k:=by
 intro css
 induction css with
 | nil => intro _; simp
 | cons c r ih =>
   intro h
   rw [List.flatten_cons,zAL,zB7,ih (fun cs hc => h cs (by simp [hc])),h c (by simp),Nat.succ_mul]
   omega
theorem flat_cells {w:World} {k b:Nat}:∀ {css:List (List Value)} {off:Nat},(∀ cs ∈ css,cs.length = k) → (∀ (i:Nat) (cs:List Value),css[i]? = some cs → w.rangeAt b (off + i * k) cs) → ∀ (j:Nat) (u:Value),css.flatten[j]? = some u → w.cell? ⟨b,off + j,none⟩ = some u:=by
 intro css
 induction css with
 | nil => intro off _ _ j u h; simp at h
 | cons c r ih =>
   intro off h0 hx j u h
   have hc:=h0 c (by simp)
   rw [List.flatten_cons] at h
   by_cases hj:j < c.length
   · rw [zBY hj] at h
     have:=hx 0 c rfl j u h
     simpa using this
   · rw [zBJ (by omega)] at h
     have:=ih (off:=off + k) (fun cs hcs => h0 cs (by simp [hcs])) (fun i cs hi => by
       have:=hx (i + 1) cs (by simpa using hi)
       rw [Nat.succ_mul] at this
       rwa [show off + k + i * k = off + (i * k + k) by omega]) (j - c.length) u h
     rwa [show off + k + (j - c.length) = off + j by omega] at this
theorem flat_at {k:Nat}:∀ {css:List (List Value)} {i:Nat} {cs:List Value},(∀ cs ∈ css,cs.length = k) → css[i]? = some cs → ∀ (j:Nat) (u:Value),cs[j]? = some u → css.flatten[i * k + j]? = some u:=by
 intro css
 induction css with
 | nil => intro i cs _ h; simp at h
 | cons c r ih =>
   intro i cs h0 h j u hu
   have hc:=h0 c (by simp)
   rw [List.flatten_cons]
   cases i with
   | zero =>
     simp at h
     subst h
     have hj:=(List.getElem?_eq_some_iff.1 hu).1
     rw [Nat.zero_mul,zAQ,zBY hj]
     exact hu
   | succ i =>
     have h2:r[i]? = some cs:=by simpa using h
     rw [Nat.succ_mul,zBJ (by omega)]
     rw [show i * k + k + j - c.length = i * k + j by omega]
     exact ih (fun cs hcs => h0 cs (by simp [hcs])) h2 j u hu
def OwnL (w:World) (B:Nat) (e:TypeId) (k:Nat) (v:Value) (css:List (List Value)):Prop:=(∀ cs ∈ css,cs.length = k) ∧ w.ownsRow B e k v css.length css.flatten
theorem OwnL.read {w:World} {B:Nat} {e:TypeId} {k:Nat} {v:Value} {css:List (List Value)} (h:OwnL w B e k v css):RowL w k v css:=by
 obtain ⟨h0,ho⟩:=h
 refine ⟨h0,?_⟩
 rcases ho.2 with ⟨rfl,hn⟩ | ⟨g,cap,cur,rfl,hg,hh,hc,hm,hs,ht⟩
 · exact ⟨none,0,by rw [hn],by omega,zAR _,fun _ => rfl,fun h => by omega⟩
 · refine ⟨some ⟨g,0,none⟩,cap,rfl,hc,hm,(fun e => by cases e),fun _ => ⟨g,0,rfl,fun i cs hi j u hu => ?_⟩⟩
   have hf:=flat_at h0 hi j u hu
   have hlt:i * k + j < css.length * k:=by
     rw [← flat_len h0]
     exact (List.getElem?_eq_some_iff.1 hf).1
   rw [show 0 + i * k + j = i * k + j by omega,ho.cellAt _ hlt,hf]
theorem OwnL.on {w w':World} {B:Nat} {e:TypeId} {k:Nat} {v:Value} {css:List (List Value)} (h:OwnL w B e k v css) (hb:Below w.heap.size w w'):OwnL w' B e k v css:=⟨h.1,own_on h.2 hb⟩
theorem OwnL.far {w:World} {B g:Nat} {e:TypeId} {k:Nat} {v:Value} {css:List (List Value)} (h:OwnL w B e k v css) (hg:g < B) (i:Nat) (u:Value):OwnL (w.setCell ⟨g,i,none⟩ u) B e k v css:=by
 refine ⟨h.1,h.2.1,?_⟩
 rcases h.2.2 with hv | ⟨b,cap,cur,hv,hB,hh,hr⟩
 · exact .inl hv
 · exact .inr ⟨b,cap,cur,hv,hB,(Below.heap_setCell _ _ _ _ (show b ≠ g by omega)).trans hh,hr⟩
theorem OwnL.made (w:World) (B:Nat) (e:TypeId) (k:Nat) (hB:B ≤ w.heap.size):OwnL (w.alloc (.cells #[] e)) B e k (.slice (some ⟨w.heap.size,0,none⟩) 0 0) []:=
 ⟨(fun cs h => by cases h),World.ownsRow_made w #[] 0 hB (zAR _) (by simp)⟩
theorem OwnL.nil (w:World) (B:Nat) (e:TypeId) (k:Nat):OwnL w B e k (.slice none 0 0) []:=⟨(fun cs h => by cases h),World.ownsRow_nil _ _ _ _⟩
theorem OwnL.form {w:World} {B:Nat} {e:TypeId} {k:Nat} {v:Value} {css:List (List Value)} (h:OwnL w B e k v css):∃ a c,v = .slice a css.length c ∧ css.length ≤ c ∧ c ≤ maxLen ∧ (a = none → c = 0):=h.read.form
theorem OwnL.lt {w:World} {B:Nat} {e:TypeId} {k:Nat} {v:Value} {css:List (List Value)} (h:OwnL w B e k v css):∀ g,v.ownBlock = some g → B ≤ g:=fun g hg => (h.2.lt g hg).1
theorem RowL.lit (w:World) (e:TypeId) (k:Nat) (cs:List Value) (hk:cs.length = k):RowL (w.alloc (.cells cs.toArray e)) k (.slice (some ⟨w.heap.size,0,none⟩) 1 1) [cs]:=by
 refine ⟨fun c h => by rw [List.mem_singleton.1 h]; exact hk,some ⟨w.heap.size,0,none⟩,1,rfl,zA3 _,by decide,(fun e => by cases e),fun _ => ⟨w.heap.size,0,rfl,fun i c hi j u hu => ?_⟩⟩
 obtain ⟨hi0,rfl⟩:i = 0 ∧ c = cs:=by
   cases i with
   | zero => simp at hi; exact ⟨rfl,hi.symm⟩
   | succ i => simp at hi
 subst hi0
 have hl:=(Lies.new w e c.toArray).cell j
 rw [show 0 + 0 * k + j = j by omega,hl]
 simpa using hu
theorem RowL.take {w:World} {k:Nat} {a:Option Addr} {n c:Nat} {css:List (List Value)} (h:RowL w k (.slice a n c) css) {j:Nat} (hj:j ≤ css.length):RowL w k (sliced a 0 j c k) (css.take j):=by
 obtain ⟨h0,a',c',hv,hc,hm,hn,hl⟩:=h
 injection hv with e1 e2 e3
 subst e1 e2 e3
 have hlen:(css.take j).length = j:=by rw [zAM]; omega
 refine ⟨fun cs hcs => h0 cs (List.mem_of_mem_take hcs),(if c = 0 then a else a.map (·.add (0 * k))),c - 0,?_,by omega,by omega,fun e => ?_,fun hpos => ?_⟩
 · rw [hlen]; unfold sliced; rw [Nat.sub_zero]
 · by_cases h0:c = 0
   · omega
   · rw [if_neg h0,Option.map_eq_none_iff] at e
     have:=hn e; omega
 · obtain ⟨b,off,rfl,hx⟩:=hl (by omega)
   refine ⟨b,off,?_,fun i cs hi => ?_⟩
   · by_cases h0:c = 0
     · rw [if_pos h0]
     · rw [if_neg h0,zBW,Addr.add_mid,Nat.zero_mul,zAZ]
   · rw [zC0] at hi
     split at hi
     · exact hx i cs hi
     · cases hi
section
variable {P:Program} {ops:Array Oper} {rest:List Oper} {a:Act} {w:World} {Q:Exit → Act → World → Prop} {t':TypeId} {pos:String} {after:Array Edge}
theorem wpL_appendL {d:Option Tmp} {x y:Tmp} {ty:TypeId} (B:Nat) (e:TypeId) (i:TypeInfo) (z:Value) (k bytes:Nat) (ht:P.underlying ty = some (.slice e)) (hi:P.info? e = some i) (hz:i.zero = some z) (hsize:i.size = k) (hby:i.bytes = bytes) (hzs:z.cells.size = k) (hk:0 < k)
   (v:Value) (css:List (List Value)) (hown:OwnL w B e k v css) (v':Value) (css':List (List Value)) (hrow:RowL w k v' css') (hu:∀ u ∈ css'.flatten,u.oneCell' = true) (h63:css.length + css'.length ≤ maxLen) (hbytes:(css.length + css'.length) * bytes ≤ 140737488355328) (hbase:B ≤ w.heap.size)
   (hs:a.eval (.tmp x) = v) (hx:a.eval (.tmp y) = v')
   (h:∀ v'' w',OwnL w' B e k v'' (css ++ css') → w.grownBy w' v.ownBlock → wpList P ops Q rest (a.put d v'') w') :
   wpList P ops Q (⟨d,.call { callee:=.builtin .append,args:=#[.tmp x,.tmp y],argTypes:=#[ty,ty] },t',pos,after,none⟩ :: rest) a w:=by
 obtain ⟨h0,ho⟩:=hown
 obtain ⟨h0',av,cv,rfl,hc,hm,hn,hl⟩:=hrow
 have hall:∀ cs ∈ css ++ css',cs.length = k:=fun cs hcs => (List.mem_append.1 hcs).elim (h0 cs) (h0' cs)
 rcases zC css'.length with hz0 | hpos
 · obtain rfl:=List.eq_nil_of_length_eq_zero hz0
   cases av with
   | none =>
     obtain rfl:=hn rfl
     refine wpList_append_own_none (o:=⟨d,.call { callee:=.builtin .append,args:=#[.tmp x,.tmp y],argTypes:=#[ty,ty] },t',pos,after,none⟩) rfl _ _ ty rfl B e i k ht hi v css.length css.flatten hs ho hx (h v w ⟨hall,?_⟩ (World.grownBy.refl w _))
     rw [zB6]; exact ho
   | some ad =>
     refine wpList_append_own (o:=⟨d,.call { callee:=.builtin .append,args:=#[.tmp x,.tmp y],argTypes:=#[ty,ty] },t',pos,after,none⟩) w rfl _ _ ty rfl B e i z k bytes ht hi hz hsize hby hzs hk v css.length css.flatten hs ho ad 0 cv [] hx (by simp) (fun j u h => by simp at h) (fun u h => by cases h) (by simpa using h63) (by simpa using hbytes) hbase (fun v'' w' h1 h2 _ => h v'' w' ⟨hall,?_⟩ h2)
     simpa using h1
 · obtain ⟨b,off,rfl,hx2⟩:=hl hpos
   refine wpList_append_own (o:=⟨d,.call { callee:=.builtin .append,args:=#[.tmp x,.tmp y],argTypes:=#[ty,ty] },t',pos,after,none⟩) w rfl _ _ ty rfl B e i z k bytes ht hi hz hsize hby hzs hk v css.length css.flatten hs ho ⟨b,off,none⟩ css'.length cv css'.flatten hx (flat_len h0') (fun j u hj => ?_) hu h63 hbytes hbase (fun v'' w' h1 h2 _ => h v'' w' ⟨hall,?_⟩ h2)
   · rw [Addr.add_mid]
     exact flat_cells h0' hx2 j u hj
   · rw [zAL,List.flatten_append]; exact h1
end
end Go.Proofs.YteecbglmohhaeaaGreatDoor.V
namespace Go.Proofs.YteecbglmohhaeaaGreatDoor.V
open Go.RowKit Go.Sort
theorem reg {f:FuncId} {args:Array Value} {W:World} {v:Value} (h:∀ w,Below W.heap.size W w → Calls Tryz.prog f args w fun e w' => e = .returned v ∧ Below w.heap.size w w') :
   ∀ d os,Calls Tryz.prog f args (grow (redrawn W d) os) fun e w'' => e = .returned v ∧ ∃ p:Regrown,w'' = grow (redrawn W p.d) p.os:=fun d os => Calls.regrown_of (h _ (below_regrown W d os))
end Go.Proofs.YteecbglmohhaeaaGreatDoor.V
namespace Go.Proofs.YteecbglmohhaeaaGreatDoor.V
open Go.Sort Go.RowKit
def Still (Q:Exit → Act → World → Prop):Exit → Act → World → Prop
 | .panic _,_,_ => False
 | e,a,w => Q e a w
theorem calm_panic {K:Act → World → Prop} {Q:Exit → Act → World → Prop}:∀ c d v (a:Act) (w:World),Exit.then K (Still Q) (.panic c) (a.put d v) w → Exit.then K (Still Q) (.panic c) a w:=fun _ _ _ _ _ h => (h:False).elim
section
variable {P:Program} {md:Region.Mode} {ops:Array Oper} {Q:Exit → Act → World → Prop} {S:World → Prop} {a:Act} {w w':World}
theorem wpOp_val {i:Nat} {o:Oper} {v:Value} {K:Act → World → Prop} (hi:ops[i]? = some o) (hw:Region.wanted o (yielded ops a.tmps) = true) (hr:(execOp a.eval o).run P w = .ok (.value v) w') (h:K (a.put o.dst v) w'):wpOp P ops Q i K a w:=by
 unfold Go.wpOp
 simp only [hi]
 simp only [hw,if_true,Oper.wp,hr,Oper.upon]
 exact .inl h
theorem held_done {K:Act → World → Prop} {Q:Exit → Act → World → Prop} {listed:Array Bool} {fuel:Nat} (hr:Region.ready md ops listed = []) (h:Exit.then K Q .normal a w):wpAnyH P md ops (Exit.then K (Still Q)) S fuel listed a w:=wpAnyH_done hr (show Exit.then K (Still Q) .normal a w from h) fuel
theorem held_take {K:Act → World → Prop} {Q:Exit → Act → World → Prop} {fuel:Nat} {listed:Array Bool} (i:Nat) (v:Value) {oi:Oper} (hi:ops[i]? = some oi) (hs:Region.noSelect ops = true) (hf:Region.free md ops listed i = true) (hr:(Region.ready md ops listed).contains i = true)
   (hw:Region.wanted oi (yielded ops a.tmps) = true) (hy:∀ w,S w → (execOp a.eval oi).run P w = .ok (.value v) w) (hS:S w) (h:wpAnyH P md ops (Exit.then K (Still Q)) S fuel (listed.setIfInBounds i true) (a.put oi.dst v) w):wpAnyH P md ops (Exit.then K (Still Q)) S (fuel + 1) listed a w:=
 wpAnyH_take hi hs hf hr (fun c a w h => calm_panic c _ _ a w h) (.inl ⟨hw,hy⟩) hS h
theorem held_put {K:Act → World → Prop} {Q:Exit → Act → World → Prop} {fuel:Nat} {listed:Array Bool} (i:Nat) (d:Tmp) (v:Value) {oi:Oper} (hi:ops[i]? = some oi) (hd:oi.dst = some d) (hs:Region.noSelect ops = true) (hf:Region.free md ops listed i = true) (hr:(Region.ready md ops listed).contains i = true)
   (hw:Region.wanted oi (yielded ops a.tmps) = true) (hy:∀ w,S w → (execOp a.eval oi).run P w = .ok (.value v) w) (hS:S w) (h:wpAnyH P md ops (Exit.then K (Still Q)) S fuel (listed.setIfInBounds i true) ⟨a.tmps.setIfInBounds d v,a.defers⟩ w):wpAnyH P md ops (Exit.then K (Still Q)) S (fuel + 1) listed a w:=
 held_take i v hi hs hf hr hw hy hS (by rw [hd]; exact h)
theorem wpOp_put {i:Nat} {o:Oper} (d:Tmp) {v:Value} {K:Act → World → Prop} (hi:ops[i]? = some o) (hd:o.dst = some d) (hw:Region.wanted o (yielded ops a.tmps) = true) (hr:(execOp a.eval o).run P w = .ok (.value v) w') (h:K ⟨a.tmps.setIfInBounds d v,a.defers⟩ w'):wpOp P ops Q i K a w:=
 wpOp_val hi hw hr (by rw [hd]; exact h)
theorem held_one {fuel:Nat} {listed:Array Bool} (i:Nat) (hr:Region.ready md ops listed = [i]) (h:wpOp P ops Q i (fun a' w' => S w' ∧ wpAnyH P md ops Q S fuel (listed.setIfInBounds i true) a' w') a w):wpAnyH P md ops Q S (fuel + 1) listed a w:=
 wpAnyH_all hr (by simp) (fun j hj => by rw [List.mem_singleton.1 hj]; exact h)
theorem held_two {fuel:Nat} {listed:Array Bool} (i j:Nat) (hr:Region.ready md ops listed = [i,j]) (h:wpOp P ops Q i (fun a' w' => S w' ∧ wpAnyH P md ops Q S fuel (listed.setIfInBounds i true) a' w') a w) (k:wpOp P ops Q j (fun a' w' => S w' ∧ wpAnyH P md ops Q S fuel (listed.setIfInBounds j true) a' w') a w):wpAnyH P md ops Q S (fuel + 1) listed a w:=
 wpAnyH_all hr (by simp) (fun l hl => by
   simp only [zCK,List.not_mem_nil,or_false] at hl
   rcases hl with rfl | rfl
   · exact h
   · exact k)
theorem wpOp_call {i:Nat} {o:Oper} (d:Tmp) {f:FuncId} {args:Array Value} {K:Act → World → Prop} (hi:ops[i]? = some o) (hd:o.dst = some d) (hw:Region.wanted o (yielded ops a.tmps) = true) (hr:(execOp a.eval o).run P w = .ok (.enter f args) w) (h:Calls P f args w fun e w'' => ∃ v,e = .returned v ∧ K ⟨a.tmps.setIfInBounds d v,a.defers⟩ w''):wpOp P ops Q i K a w:=by
 unfold Go.wpOp
 simp only [hi]
 simp only [hw,if_true,Oper.wp,hr,Oper.upon]
 refine .inl (h.mono ?_)
 rintro e w'' ⟨v,rfl,hk⟩
 rw [hd]
 exact hk
end
section
variable {P:Program} {md:Region.Mode} {ops:Array Oper} {Q:Exit → Act → World → Prop} {S:World → Prop} {a:Act} {w:World}
theorem wpOp_law {i:Nat} {o:Oper} {K:Act → World → Prop} (hi:ops[i]? = some o) (hw:Region.wanted o (yielded ops a.tmps) = true) (h:wpList P ops (Exit.then K Q) [⟨o.dst,o.op,o.type,o.pos,o.after,none⟩] a w):wpOp P ops Q i K a w:=by
 unfold Go.wpOp
 simp only [hi]
 simp only [hw,if_true]
 unfold wpList at h
 simp only [Region.wanted,if_true] at h
 rcases h with h | h
 · refine .inl ?_
   unfold Oper.wp at *
   have he:(execOp a.eval ⟨o.dst,o.op,o.type,o.pos,o.after,none⟩).run P w = (execOp a.eval o).run P w:=rfl
   rw [he] at h
   generalize (execOp a.eval o).run P w = r at *
   cases r with
   | ok n w' =>
     cases n <;> simp only [Oper.upon] at h ⊢
     case value u => exact h
     case skip => exact h
     case defer d => exact h
     case enter f args =>
       refine Calls.mono h fun e w'' he => ?_
       cases e with
       | returned u => exact he
       | panicked c => exact he
       | outgrown => exact he
     case row row args => exact Rows.mono h fun u w'' he => he
   | halt x w' =>
     cases x <;> simp only [Oper.upon] at h ⊢
     case panic u => exact h
 · exact .inr h
end
theorem wp_held_any {P:Program} {ops:Array Oper} {S:World → Prop} {a:Act} {w:World} {id:Nat} {Q:Exit → Act → World → Prop} (n:Nat) (hn:ops.size = n) (hm:P.follows .mixedOrders = true)
   (h:wpAnyH P .any ops (Exit.then (fun a w => Q .normal a w) (Still fun _ _ _ => False)) S n (Array.replicate n false) a { w with drawn:=w.drawn + 1 }):(Code.region id ops true).wp P Q a w:=by
 subst hn
 refine Code.wp_mono (Q:=Exit.then (fun a w => Q .normal a w) (Still fun _ _ _ => False)) (fun e a w h => ?_) (wp_region_held hm h)
 cases e <;> first | exact h | exact (h:False).elim
theorem wpOp_lawD {P:Program} {ops:Array Oper} {Q:Exit → Act → World → Prop} {a:Act} {w:World} {i:Nat} {o:Oper} (d:Tmp) {K:Act → World → Prop} (hi:ops[i]? = some o) (hd:o.dst = some d) (hw:Region.wanted o (yielded ops a.tmps) = true) (h:wpList P ops (Exit.then K Q) [⟨some d,o.op,o.type,o.pos,o.after,none⟩] a w):wpOp P ops Q i K a w:=wpOp_law hi hw (by rw [hd]; exact h)
end Go.Proofs.YteecbglmohhaeaaGreatDoor.V
namespace Go.Proofs.YteecbglmohhaeaaGreatDoor.O
open Go.RowKit Go.Sort Go.Proofs.YteecbglmohhaeaaGreatDoor.E
open V (Lies OwnL RowL reg lessL bytesLess_is)
structure RTab (w:World):Prop where
 u:U.Tab w
 e:EdTab2 w
theorem RTab.on {w w':World} (h:RTab w) (hb:Below w.heap.size w w'):RTab w':=⟨h.u.below hb,h.e.on hb⟩
abbrev oneS (b:ByteArray):List Value:=[.string b]
abbrev twoS (k:B2):List Value:=[.string k.1,.string k.2]
theorem leq_is (x y:ByteArray):(Op.bytesLess x.data.toList y.data.toList || x.data.toList == y.data.toList) = !lessB y x:=by
 unfold lessB
 rw [bytesLess_is]
 rcases V.less_three x.data.toList y.data.toList with ⟨h1,h2,h3⟩ | ⟨h1,h2,h3⟩ | ⟨h1,h2,h3⟩
 · rw [h1,h3]; rfl
 · rw [h2,h1] at *
   rw [h3]
   simp
 · rw [h1,h3,beq_false_of_ne h2]
   rfl
theorem leq_no {x y:ByteArray} (h:lessB y x = true):Op.bytesLess x.toList y.toList = false ∧ (x.toList == y.toList) = false:=by
 rw [Lib.toList_data,Lib.toList_data]
 have h1:=leq_is x y
 rw [h,Bool.not_true,Bool.or_eq_false_iff] at h1
 exact h1
theorem leq_yes {x y:ByteArray} (h:lessB y x = false):Op.bytesLess x.toList y.toList = true ∨ (x.toList == y.toList) = true:=by
 rw [Lib.toList_data,Lib.toList_data]
 have h1:=leq_is x y
 rw [h,Bool.not_false,Bool.or_eq_true] at h1
 exact h1
theorem eq_is (x y:ByteArray):(x.data.toList == y.data.toList) = decide (x = y):=by
 by_cases h:x = y
 · subst h; simp
 · have h2:x.data.toList ≠ y.data.toList:=fun e => h (by rw [← Lib.mk_data x,← Lib.mk_data y,e])
   rw [beq_false_of_ne h2,decide_eq_false h]
theorem id_any (p:ByteArray) (w:World) (hp:p.size ≤ 1000) (hT:U.Tab w):Calls Tryz.prog 15 #[.string p] w fun e w' => e = .returned (.string (idT p)) ∧ Below w.heap.size w w':=by
 have HS:=Lib.hid (U.sum_text p w hp hT)
 have HX:=Lib.hid (fun (w:World) => hex_any (U.bytesOf (U.sumT p.data.toList)) w (by rw [U.bytes_size,U.sumT_length]; decide))
 rw [show (⟨(hexL (U.bytesOf (U.sumT p.data.toList)).data.toList).toArray⟩:ByteArray) = idT p from rfl] at HX
 generalize idT p = R at *
 generalize U.bytesOf (U.sumT p.data.toList) = S at *
 clear hp hT
 go_enter Tryz.func15,Tryz.ntmps15
 go_wp2_with (first
   | (go_at_call 31; (with_reducible refine HS.out.mono ?_); rintro e w1 ⟨rfl,hb⟩)
   | (go_at_call 30; (with_reducible refine (HX.out _).mono ?_); rintro e w2 ⟨rfl,hb2⟩))
 go_ret
 exact ⟨rfl,below_on hb hb2⟩
theorem isSum_any (s:ByteArray) (w:World):Calls Tryz.prog 27 #[.string s] w fun e w' => e = .returned (.bool (isSumB s)) ∧ Below w.heap.size w w':=by
 by_cases h:s.size = 64
 · have HU:=Lib.hid (fun (w:World) => unhex_any s w (by omega))
   have hi:((s.size:Int) != 64) = false:=by rw [h]; rfl
   have hB:isSumB s = unhexB s.data.toList:=by unfold isSumB; rw [decide_eq_true h,zC7]
   rw [hB]
   clear hB h
   cases hu:unhexL s.data.toList with
   | none =>
     rw [unhexE_none hu,unhexS_none hu] at HU
     rw [unhexB_none hu]
     clear hu
     go_enter Tryz.func27,Tryz.ntmps27
     go_wp2_with (go_at_call 43; (with_reducible refine (HU.out _).mono ?_); rintro e w1 ⟨rfl,hb⟩)
     go_ret
     exact ⟨rfl,hb⟩
   | some x =>
     rw [unhexE_some hu,unhexS_some hu] at HU
     rw [unhexB_some hu]
     clear hu
     go_enter Tryz.func27,Tryz.ntmps27
     go_wp2_with (go_at_call 43; (with_reducible refine (HU.out _).mono ?_); rintro e w1 ⟨rfl,hb⟩)
     go_ret
     exact ⟨rfl,hb⟩
 · have hi:((s.size:Int) != 64) = true:=by rw [bne_iff_ne]; omega
   have hB:isSumB s = false:=by unfold isSumB; rw [decide_eq_false h,zC8]
   rw [hB]
   clear hB h
   go_enter Tryz.func27,Tryz.ntmps27
   go_wp2
   go_ret
   exact ⟨rfl,Below.refl _ _⟩
end Go.Proofs.YteecbglmohhaeaaGreatDoor.O
namespace Go.Proofs.YteecbglmohhaeaaGreatDoor.O
open Go.RowKit Go.Sort Go.Proofs.YteecbglmohhaeaaGreatDoor.E
open V (Lies OwnL RowL reg lessL bytesLess_is)
set_option maxHeartbeats 3200000 in
theorem right_any (av:Option Addr) (cv:Nat) (ids:List ByteArray) (need:Int) (w:World) (hl:RowL w 1 (.slice av ids.length cv) (ids.map oneS)) :
   Calls Tryz.prog 11 #[.agg #[.slice av ids.length cv,.int .i64 need]] w fun e w' => e = .returned (.bool (rightR ids need)) ∧ Below w.heap.size w w':=by
 have hcap:ids.length ≤ 9223372036854775807:=by
   obtain ⟨a',c',e,h1,h2,_⟩:=hl.form
   injection e with _ _ e3
   rw [zAG] at h1
   unfold maxLen at h2
   omega
 have lA:=Lies.new w 24 #[.slice av ids.length cv,.int .i64 need]
 have hb0:=(Below.refl w.heap.size w).alloc (zA3 _) (.cells #[.slice av ids.length cv,.int .i64 need] 24)
 by_cases h16:16 < ids.length
 · rw [show rightR ids need = false by unfold rightR; rw [decide_eq_false (show ¬ ids.length ≤ 16 by omega)]; rfl]
   have i1:(16:Int) < (ids.length:Int):=by omega
   go_enter Tryz.func11,Tryz.ntmps11
   go_upto_region 1 with fail
   generalize World.alloc w _ = wa at *
   have q0:=lA.cell 0; have q1:=lA.cell 1; simp only [zA6,zAN,zAF] at q0 q1
   clear hl lA h16
   go_wp2
   go_ret
   exact ⟨rfl,hb0⟩
 by_cases hn1:need < 1
 · rw [show rightR ids need = false by unfold rightR; rw [decide_eq_false (show ¬ (1 ≤ need ∧ need ≤ (ids.length:Int)) by omega),Bool.and_false]; rfl]
   have i1:¬ (16:Int) < (ids.length:Int):=by omega
   go_enter Tryz.func11,Tryz.ntmps11
   go_upto_region 1 with fail
   generalize World.alloc w _ = wa at *
   have q0:=lA.cell 0; have q1:=lA.cell 1; simp only [zA6,zAN,zAF] at q0 q1
   clear hl lA h16
   go_wp2
   go_ret
   exact ⟨rfl,hb0⟩
 by_cases hn2:(ids.length:Int) < need
 · rw [show rightR ids need = false by unfold rightR; rw [decide_eq_false (show ¬ (1 ≤ need ∧ need ≤ (ids.length:Int)) by omega),Bool.and_false]; rfl]
   have i1:¬ (16:Int) < (ids.length:Int):=by omega
   go_enter Tryz.func11,Tryz.ntmps11
   go_upto_region 1 with fail
   generalize World.alloc w _ = wa at *
   have q0:=lA.cell 0; have q1:=lA.cell 1; simp only [zA6,zAN,zAF] at q0 q1
   clear hl lA h16
   go_wp2
   go_ret
   exact ⟨rfl,hb0⟩
 have hR0:rightR ids need = allTo (stepR ids) ids.length:=by
   unfold rightR
   rw [decide_eq_true (show ids.length ≤ 16 by omega),decide_eq_true (show 1 ≤ need ∧ need ≤ (ids.length:Int) by omega)]
   rfl
 rw [hR0]
 obtain ⟨R,hR⟩:∃ R,allTo (stepR ids) ids.length = R:=⟨_,rfl⟩
 rw [hR]
 have HR:=Lib.hid hR
 clear hR hR0
 have i1:¬ (16:Int) < (ids.length:Int):=by omega
 have HL:=Lib.hid (fun (w1:World) (hb:Below w.heap.size w w1) => hl.below hb)
 go_enter Tryz.func11,Tryz.ntmps11
 go_upto_region 1 with fail
 generalize World.alloc w _ = wa at *
 have q0:=lA.cell 0; have q1:=lA.cell 1; simp only [zA6,zAN,zAF] at q0 q1
 clear hl lA h16
 go_wp2
 clear hn1 hn2 i1
 go_loopw [3,5,26] (fun lv _ iv wr => ∃ j:Nat,iv = .int .i64 (j:Int) ∧ j ≤ ids.length ∧ lv = .string (prevB ids j) ∧ Hid (allTo (stepR ids) j = true) ∧ Below w.heap.size w wr) (fun _ _ iv _ => ids.length - (intOf iv).toNat)
 case atStart => exact ⟨0,rfl,zAR _,rfl,Lib.hid (allTo_zero _),hb0⟩
 case round =>
   clear hb0 q0 q1
   obtain ⟨j,rfl,hj,rfl,HT,hb⟩:=hrel
   by_cases hlt:j < ids.length
   case neg =>
     obtain rfl:j = ids.length:=by omega
     have i1:¬ ((ids.length:Int) < (ids.length:Int)):=by omega
     obtain rfl:R = true:=HR.out.symm.trans HT.out
     go_wp2
     go_ret
     exact ⟨rfl,hb⟩
   have i1:(j:Int) < (ids.length:Int):=by omega
   have i3:(0:Int) ≤ (j:Int):=by omega
   obtain ⟨x,hx⟩:∃ x,ids[j]? = some x:=⟨_,zA5 hlt⟩
   obtain ⟨b,off,rfl,hr,_⟩:=(HL.out _ hb).at (i:=j) (cs:=oneS x) (by rw [zAD,hx]; rfl)
   have q0:=hr 0 (.string x) rfl
   rw [zBO,zAZ] at q0
   have hst:stepR ids j = (isSumB x && lessB (prevB ids j) x):=by unfold stepR; rw [zA4,hx]; rfl
   have HP:=Lib.hid (prev_succ hx)
   have HI:=Lib.hid (fun (w:World) => isSum_any x w)
   obtain ⟨p,hp⟩:∃ p,prevB ids j = p:=⟨_,rfl⟩
   rw [hp] at hst ⊢
   clear hp hr
   have HJ:=Lib.hid hlt
   cases hs:isSumB x with
   | false =>
     rw [hs] at HI
     rw [hs,zC8] at hst
     obtain rfl:R = false:=HR.out.symm.trans (allTo_bad HJ.out hst)
     clear hst hs hx
     go_wp2_with (go_at_call 27; (with_reducible refine (HI.out _).mono ?_); rintro e w1 ⟨rfl,hb1⟩)
     go_ret
     exact ⟨rfl,hb.trans (hb1.mono hb.size)⟩
   | true =>
     rw [hs] at HI
     rw [hs,zC7] at hst
     cases hls:lessB p x with
     | false =>
       rw [hls] at hst
       have hless:=leq_yes hls
       have hor:(Op.bytesLess x.toList p.toList || x.toList == p.toList) = true:=by simpa using hless
       obtain rfl:R = false:=HR.out.symm.trans (allTo_bad HJ.out hst)
       clear hst hs hx hls
       go_wp2_with (go_at_call 27; (with_reducible refine (HI.out _).mono ?_); rintro e w1 ⟨rfl,hb1⟩)
       go_ret
       exact ⟨rfl,hb.trans (hb1.mono hb.size)⟩
     | true =>
       rw [hls] at hst
       obtain ⟨hl1,hl2⟩:=leq_no hls
       have hor:(Op.bytesLess x.toList p.toList || x.toList == p.toList) = false:=by rw [hl1,hl2]; rfl
       have HT2:=Lib.hid (show allTo (stepR ids) (j + 1) = true by rw [allTo_succ,HT.out,hst]; rfl)
       clear hst hs hx hls HT hlt
       go_wp2_with (go_at_call 27; (with_reducible refine (HI.out _).mono ?_); rintro e w1 ⟨rfl,hb1⟩)
       go_roundw
       case rel => exact ⟨j + 1,by go_num,HJ.out,by rw [HP.out],HT2,hb.trans (hb1.mono hb.size)⟩
       case measure =>
         have:=HJ.out
         simp [intOf]; omega
end Go.Proofs.YteecbglmohhaeaaGreatDoor.O
namespace Go.Proofs.YteecbglmohhaeaaGreatDoor.O
open Go.RowKit Go.Sort Go.Proofs.YteecbglmohhaeaaGreatDoor.E
open V (Lies OwnL RowL reg lessL bytesLess_is)
theorem rowKey:V.RowT Tryz.prog 51 2:=⟨⟨_,Tryz.underlying51,rfl⟩,by kernel_rfl⟩
theorem rowSig:V.RowT Tryz.prog 46 2:=⟨⟨_,Tryz.underlying46,rfl⟩,by kernel_rfl⟩
theorem two_one (a b:ByteArray):V.Ones #[.string a,.string b]:=by unfold V.Ones; simp [Value.oneCell']
theorem map_prev {ks:List B2} {j:Nat} {k:B2} (h:ks[j]? = some k):prevB (ks.map (·.1)) (j + 1) = k.1:=prev_succ (by rw [zAD,h]; rfl)
set_option maxHeartbeats 6400000 in
theorem keys_any (av:Option Addr) (cv:Nat) (ks:List B2) (w:World) (hl:RowL w 2 (.slice av ks.length cv) (ks.map twoS)) (hT:U.Tab w) :
   Calls Tryz.prog 13 #[.slice av ks.length cv] w fun e w' => e = .returned (.bool (keysR ks)) ∧ Below w.heap.size w w':=by
 have hcap:ks.length ≤ 9223372036854775807:=by
   obtain ⟨a',c',e,h1,h2,_⟩:=hl.form
   injection e with _ _ e3
   rw [zAG] at h1
   unfold maxLen at h2
   omega
 by_cases h16:16 < ks.length
 · rw [show keysR ks = false by unfold keysR; rw [decide_eq_false (show ¬ ks.length ≤ 16 by omega)]; rfl]
   have i1:(16:Int) < (ks.length:Int):=by omega
   clear hl h16
   go_enter Tryz.func13,Tryz.ntmps13
   go_wp2
   go_ret
   exact ⟨rfl,Below.refl _ _⟩
 have hR0:keysR ks = allTo (stepK ks) ks.length:=by
   unfold keysR
   rw [decide_eq_true (show ks.length ≤ 16 by omega)]
   rfl
 rw [hR0]
 obtain ⟨R,hR⟩:∃ R,allTo (stepK ks) ks.length = R:=⟨_,rfl⟩
 rw [hR]
 have HR:=Lib.hid hR
 clear hR hR0
 have i1:¬ (16:Int) < (ks.length:Int):=by omega
 have HL:=Lib.hid (fun (w1:World) (hb:Below w.heap.size w w1) => hl.below hb)
 have HTT:=Lib.hid (fun (w1:World) (hb:Below w.heap.size w w1) => hT.below hb)
 go_enter Tryz.func13,Tryz.ntmps13
 clear hl h16 hT
 go_wp2
 clear i1
 go_loopw [3,5,11] (fun lv _ iv wr => ∃ j:Nat,iv = .int .i64 (j:Int) ∧ j ≤ ks.length ∧ lv = .string (prevB (ks.map (·.1)) j) ∧ Hid (allTo (stepK ks) j = true) ∧ Below w.heap.size w wr) (fun _ _ iv _ => ks.length - (intOf iv).toNat)
 case atStart => exact ⟨0,rfl,zAR _,rfl,Lib.hid (allTo_zero _),Below.refl _ _⟩
 case round =>
   obtain ⟨j,rfl,hj,rfl,HT,hb⟩:=hrel
   by_cases hlt:j < ks.length
   case neg =>
     obtain rfl:j = ks.length:=by omega
     have i1:¬ ((ks.length:Int) < (ks.length:Int)):=by omega
     obtain rfl:R = true:=HR.out.symm.trans HT.out
     go_wp2
     go_ret
     exact ⟨rfl,hb⟩
   have i1:(j:Int) < (ks.length:Int):=by omega
   have i3:(0:Int) ≤ (j:Int):=by omega
   obtain ⟨k,hx⟩:∃ x,ks[j]? = some x:=⟨_,zA5 hlt⟩
   obtain ⟨b,off,rfl,hr,_⟩:=(HL.out _ hb).at (i:=j) (cs:=twoS k) (by rw [zAD,hx]; rfl)
   have hst:stepK ks j = (keyOkB k && lessB (prevB (ks.map (·.1)) j) k.1):=by unfold stepK; rw [zA4,hx]; rfl
   have HP:=Lib.hid (map_prev hx)
   obtain ⟨p,hp⟩:∃ p,prevB (ks.map (·.1)) j = p:=⟨_,rfl⟩
   rw [hp] at hst ⊢
   have HX:=Lib.hid hx
   clear hp hx
   obtain ⟨id,pub⟩:=k
   have HJ:=Lib.hid hlt
   have hrA:=fun i u h => (hr i u h)
   have lZ:=Lies.new wr 51 #[.string ⟨#[]⟩,.string ⟨#[]⟩]
   have hbZ:=hb.alloc hb.size (.cells #[.string ⟨#[]⟩,.string ⟨#[]⟩] 51)
   have hK:keyOkB (id,pub) = (decide (pub.size = 32) && decide (id = idT pub)):=rfl
   have hst:stepK ks j = (keyOkB (id,pub) && lessB p id):=hst
   rw [hK] at hst
   clear hK hlt
   have hszB:=hb.size
   go_upto_region 7 with (first
     | ((with_reducible refine V.wpL_loadMid b (off + j * 2) _ 2 rowKey rfl hr ?_ ?_); rfl)
     | ((with_reducible refine V.wpL_store wr.heap.size 51 _ #[.string id,.string pub] 2 rowKey rfl rfl (two_one _ _) lZ ?_ ?_ ?_); rfl; rfl))
   have lK:=lZ.row #[.string id,.string pub]
   have hbK:=V.below_rowSet hbZ hszB #[.string id,.string pub]
   generalize World.setRow _ _ _ = w2 at *
   simp only [Act.put]
   have hTK:=HTT.out _ hbK
   have q0:=lK.cell 0; have q1:=lK.cell 1; simp only [zA6,zAN,zAF] at q0 q1
   have u0:=cell_regrown q0
   have u1:=cell_regrown q1
   have cI:=Lib.hid (fun (h:pub.size ≤ 1000) => reg (W:=w2) (fun w hw => id_any pub w h (hTK.below hw)))
   clear q0 q1 hr hrA lZ hbZ
   by_cases h32:pub.size = 32
   case neg =>
     rw [decide_eq_false h32,zC8,zC8] at hst
     obtain rfl:R = false:=HR.out.symm.trans (allTo_bad HJ.out hst)
     have g1:((pub.size:Int) != 32) = true:=by rw [bne_iff_ne]; omega
     clear hst h32
     refine wp_region_quiet_below (by kernel_rfl) (by kernel_rfl) ?_
     repeat (go_big_quiet_step (fail))
     refine wpQuiet_nil ?_
     intro _ hw'
     obtain ⟨⟨dq,osq⟩,hw''⟩:=hw'
     subst hw''
     have hb2:=below_regrown w2 dq osq
     go_wp2
     go_ret
     exact ⟨rfl,hbK.trans (hb2.mono hbK.size)⟩
   have g1:((pub.size:Int) != 32) = false:=by rw [h32]; rfl
   have cI2:=Lib.hid (cI.out (by omega))
   rw [decide_eq_true h32,zC7] at hst
   clear cI h32
   have heq:=eq_is id (idT pub)
   by_cases hid:id = idT pub
   case neg =>
     rw [decide_eq_false hid,zC8] at hst
     rw [decide_eq_false hid] at heq
     obtain rfl:R = false:=HR.out.symm.trans (allTo_bad HJ.out hst)
     clear hst
     generalize idT pub = I at *
     have g2:(id.toList == I.toList) = false:=by rw [Lib.toList_data,Lib.toList_data]; exact heq
     clear hid heq
     refine wp_region_quiet_below (by kernel_rfl) (by kernel_rfl) ?_
     repeat (go_big_quiet_step (with_reducible exact cI2.out _ _))
     refine wpQuiet_nil ?_
     intro _ hw'
     obtain ⟨⟨dq,osq⟩,hw''⟩:=hw'
     subst hw''
     have hb2:=below_regrown w2 dq osq
     go_wp2
     go_ret
     exact ⟨rfl,hbK.trans (hb2.mono hbK.size)⟩
   rw [decide_eq_true hid] at heq
   rw [decide_eq_true hid,zC7] at hst
   generalize idT pub = I at *
   clear heq
   subst hid
   cases hls:lessB p id with
   | false =>
     rw [hls] at hst
     have hless:=leq_yes hls
     have hor:(Op.bytesLess id.toList p.toList || id.toList == p.toList) = true:=by simpa using hless
     obtain rfl:R = false:=HR.out.symm.trans (allTo_bad HJ.out hst)
     clear hst hls
     refine wp_region_quiet_below (by kernel_rfl) (by kernel_rfl) ?_
     repeat (go_big_quiet_step (with_reducible exact cI2.out _ _))
     refine wpQuiet_nil ?_
     intro _ hw'
     obtain ⟨⟨dq,osq⟩,hw''⟩:=hw'
     subst hw''
     have hb2:=below_regrown w2 dq osq
     go_wp2
     go_ret
     exact ⟨rfl,hbK.trans (hb2.mono hbK.size)⟩
   | true =>
     rw [hls] at hst
     obtain ⟨hl1,hl2⟩:=leq_no hls
     have hor:(Op.bytesLess id.toList p.toList || id.toList == p.toList) = false:=by rw [hl1,hl2]; rfl
     have HT2:=Lib.hid (show allTo (stepK ks) (j + 1) = true by rw [allTo_succ,HT.out,hst]; rfl)
     clear hst hls HT
     refine wp_region_quiet_below (by kernel_rfl) (by kernel_rfl) ?_
     repeat (go_big_quiet_step (with_reducible exact cI2.out _ _))
     refine wpQuiet_nil ?_
     intro _ hw'
     obtain ⟨⟨dq,osq⟩,hw''⟩:=hw'
     subst hw''
     have hb2:=below_regrown w2 dq osq
     have lK2:=lK.on hb2
     have q0:=lK2.cell 0; have q1:=lK2.cell 1; simp only [zA6,zAN,zAF] at q0 q1
     go_wp2
     go_roundw
     case rel => exact ⟨j + 1,by go_num,HJ.out,by rw [HP.out],HT2,hbK.trans (hb2.mono hbK.size)⟩
     case measure =>
       have:=HJ.out
       simp [intOf]; omega
end Go.Proofs.YteecbglmohhaeaaGreatDoor.O
namespace Go.Proofs.YteecbglmohhaeaaGreatDoor.O
open Go.RowKit Go.Sort Go.Proofs.YteecbglmohhaeaaGreatDoor.E
open V (Lies OwnL RowL reg lessL bytesLess_is)
def sIdx (id:ByteArray):List B2 → Nat → Int
 | [],_ => -1
 | x :: l,j => if decide (x.1 = id) = true then (j:Int) else sIdx id l (j + 1)
theorem sIdx_find (id:ByteArray):∀ (l:List B2) (j:Nat),(sIdx id l j = -1 ∧ l.find? (fun s => decide (s.1 = id)) = none) ∨ ∃ n s,sIdx id l j = ((j + n:Nat):Int) ∧ l[n]? = some s ∧ l.find? (fun s => decide (s.1 = id)) = some s:=by
 intro l
 induction l with
 | nil => intro j; exact .inl ⟨rfl,rfl⟩
 | cons x l ih =>
   intro j
   rw [sIdx,List.find?_cons]
   by_cases h:x.1 = id
   · right
     refine ⟨0,x,?_,rfl,?_⟩
     · rw [if_pos (decide_eq_true h)]; rfl
     · rw [decide_eq_true h]
   · rw [if_neg (by simpa using h),decide_eq_false h]
     rcases ih (j + 1) with ⟨h1,h2⟩ | ⟨n,s,h1,h2,h3⟩
     · exact .inl ⟨h1,h2⟩
     · exact .inr ⟨n + 1,s,by rw [h1]; congr 1; omega,by simpa using h2,h3⟩
theorem clos_any (s k:B2) (g:Nat) (w:World) (hg:Lies w g 51 #[.string k.1,.string k.2]):Calls Tryz.prog 42 #[.agg #[.string s.1,.string s.2],.pointer (some ⟨g,0,none⟩)] w fun e w' => e = .returned (.bool (decide (s.1 = k.1))) ∧ Below w.heap.size w w':=by
 have hq:=eq_is s.1 k.1
 obtain ⟨x,hx⟩:∃ x,decide (s.1 = k.1) = x:=⟨_,rfl⟩
 rw [hx] at hq ⊢
 clear hx
 obtain ⟨a,b⟩:=s
 obtain ⟨c,d⟩:=k
 have hb:=(Below.refl w.heap.size w).alloc (zA3 _) (.cells #[.string a,.string b] 46)
 have lg:=hg.alloc (.cells #[.string a,.string b] 46)
 have lS:=Lies.new w 46 #[.string a,.string b]
 have hq:(a.toList == c.toList) = x:=by rw [Lib.toList_data,Lib.toList_data]; exact hq
 go_enter Tryz.func42,Tryz.ntmps42
 go_upto_region 1 with fail
 generalize World.alloc w _ = wa at *
 have q0:=lS.cell 0; have q1:=lg.cell 0; simp only [zA6,zAF] at q0 q1
 clear hg lg lS
 go_wp2
 go_ret
 exact ⟨rfl,hb⟩
set_option maxHeartbeats 3200000 in
theorem index_any (av:Option Addr) (cv:Nat) (sigs:List B2) (k:B2) (g:Nat) (w:World) (hl:RowL w 2 (.slice av sigs.length cv) (sigs.map twoS)) (hg:Lies w g 51 #[.string k.1,.string k.2]) :
   Calls Tryz.prog 41 #[.slice av sigs.length cv,.func (.func 42) #[] #[.pointer (some ⟨g,0,none⟩)]] w fun e w' => e = .returned (.int .i64 (sIdx k.1 sigs 0)) ∧ Below w.heap.size w w':=by
 have hcap:sigs.length ≤ 9223372036854775807:=by
   obtain ⟨a',c',e,h1,h2,_⟩:=hl.form
   injection e with _ _ e3
   rw [zAG] at h1
   unfold maxLen at h2
   omega
 obtain ⟨R,hR⟩:∃ R,sIdx k.1 sigs 0 = R:=⟨_,rfl⟩
 rw [hR]
 have HR:=Lib.hid hR
 have HL:=Lib.hid (fun (w1:World) (hb:Below w.heap.size w w1) => hl.below hb)
 have HG:=Lib.hid (fun (w1:World) (hb:Below w.heap.size w w1) => hg.on hb)
 clear hR hl hg
 go_enter Tryz.func41,Tryz.ntmps41
 go_wp2
 go_loopw [5,8] (fun _ iv wr => ∃ j:Nat,iv = .int .i64 (j:Int) ∧ j ≤ sigs.length ∧ Hid (R = sIdx k.1 (sigs.drop j) j) ∧ Below w.heap.size w wr) (fun _ iv _ => sigs.length - (intOf iv).toNat)
 case atStart => exact ⟨0,rfl,zAR _,Lib.hid (by rw [zAH]; exact HR.out.symm),Below.refl _ _⟩
 case round =>
   obtain ⟨j,rfl,hj,HT,hb⟩:=hrel
   clear HR
   by_cases hlt:j < sigs.length
   case neg =>
     obtain rfl:j = sigs.length:=by omega
     have i1:¬ ((sigs.length:Int) < (sigs.length:Int)):=by omega
     have HT2:=Lib.hid (show R = -1 by rw [HT.out,List.drop_length]; rfl)
     clear HT
     go_wp2
     go_ret
     exact ⟨by rw [HT2.out]; rfl,hb⟩
   have i1:(j:Int) < (sigs.length:Int):=by omega
   have i3:(0:Int) ≤ (j:Int):=by omega
   obtain ⟨x,hx⟩:∃ x,sigs[j] = x:=⟨_,rfl⟩
   obtain ⟨b,off,rfl,hr,_⟩:=(HL.out _ hb).at (i:=j) (cs:=twoS x) (by rw [zAD,zA5 hlt,hx]; rfl)
   have hT:=HT.out
   rw [zAS hlt,hx,sIdx] at hT
   have HC:=Lib.hid (fun (w1:World) (hb1:Below w.heap.size w w1) => clos_any x k g w1 (HG.out w1 hb1))
   cases hq:decide (x.1 = k.1) with
   | true =>
     rw [if_pos hq] at hT
     rw [hq] at HC
     have HT2:=Lib.hid hT
     clear HT hT hq hx
     go_wp2_with (first
       | ((with_reducible refine V.wpL_loadMid b (off + j * 2) _ 2 rowSig rfl hr ?_ ?_); rfl)
       | (go_at_call 42; refine (HC.out _ hb).mono ?_; rintro e w1 ⟨rfl,hb1⟩))
     go_ret
     exact ⟨by rw [HT2.out]; rfl,hb.trans (hb1.mono hb.size)⟩
   | false =>
     rw [if_neg (by rw [hq]; simp)] at hT
     rw [hq] at HC
     have HT2:=Lib.hid hT
     clear HT hT hq hx
     go_wp2_with (first
       | ((with_reducible refine V.wpL_loadMid b (off + j * 2) _ 2 rowSig rfl hr ?_ ?_); rfl)
       | (go_at_call 42; refine (HC.out _ hb).mono ?_; rintro e w1 ⟨rfl,hb1⟩))
     go_roundw
     case rel => exact ⟨j + 1,by go_num,by omega,HT2,hb.trans (hb1.mono hb.size)⟩
     case measure => simp [intOf]; omega
end Go.Proofs.YteecbglmohhaeaaGreatDoor.O
namespace Go.Proofs.YteecbglmohhaeaaGreatDoor.O
open Go.RowKit Go.Sort Go.Proofs.YteecbglmohhaeaaGreatDoor.E
open C (Pts)
open V (Lies OwnL RowL reg lessL bytesLess_is)
set_option maxHeartbeats 3200000 in
theorem signed_any (A:Pts EdTab) (av:Option Addr) (cv:Nat) (sigs:List B2) (id pub text:ByteArray) (w:World) (hl:RowL w 2 (.slice av sigs.length cv) (sigs.map twoS)) (hm:text.size ≤ 1000) (hT:EdTab2 w) :
   Calls Tryz.prog 26 #[.agg #[.string id,.string pub],.string text,.slice av sigs.length cv] w fun e w' => e = .returned (.bool (sigIn pub id text sigs)) ∧ Below w.heap.size w w':=by
 have hcap:sigs.length ≤ 9223372036854775807:=by
   obtain ⟨a',c',e,h1,h2,_⟩:=hl.form
   injection e with _ _ e3
   rw [zAG] at h1
   unfold maxLen at h2
   omega
 have lK:=Lies.new w 51 #[.string id,.string pub]
 have hb0:=(Below.refl w.heap.size w).alloc (zA3 _) (.cells #[.string id,.string pub] 51)
 have HI:=Lib.hid (show ∀ w1,Below w.heap.size w w1 → Lies w1 w.heap.size 51 #[.string id,.string pub] → Calls Tryz.prog 41 #[.slice av sigs.length cv,.func (.func 42) #[] #[.pointer (some ⟨w.heap.size,0,none⟩)]] w1 fun e w' => e = .returned (.int .i64 (sIdx id sigs 0)) ∧ Below w1.heap.size w1 w' from fun w1 hb h => index_any av cv sigs (id,pub) w.heap.size w1 (hl.below hb) h)
 have HTT:=Lib.hid (fun (w1:World) (hb:Below w.heap.size w w1) => hT.on hb)
 rcases sIdx_find id sigs 0 with ⟨h1,h2⟩ | ⟨n,s,h1,h2,h3⟩
 · rw [sigIn_none h2]
   rw [h1] at HI
   clear h1 h2 hl hT
   go_enter Tryz.func26,Tryz.ntmps26
   go_upto_region 2 with (go_at_call 41; (with_reducible refine (HI.out _ hb0 lK).mono ?_); rintro e w1 ⟨rfl,hb1⟩)
   have hb:=hb0.trans (hb1.mono hb0.size)
   refine wp_region_quiet_below (by kernel_rfl) (by kernel_rfl) ?_
   repeat (go_big_quiet_step (fail))
   refine wpQuiet_nil ?_
   intro _ hw'
   obtain ⟨⟨dq,osq⟩,hw''⟩:=hw'
   subst hw''
   have hb2:=below_regrown w1 dq osq
   go_wp2
   go_ret
   exact ⟨rfl,hb.trans (hb2.mono hb.size)⟩
 · rw [sigIn_some h3]
   rw [h1,zAQ] at HI
   have hlt:=(List.getElem?_eq_some_iff.1 h2).1
   obtain ⟨b,off,rfl,hr,_⟩:=hl.at (i:=n) (cs:=twoS s) (by rw [zAD,h2]; rfl)
   have HR:=Lib.hid (fun (w1:World) (hb:Below w.heap.size w w1) => V.range_below hb hr)
   have i0:(0:Int) ≤ (n:Int):=by omega
   have i1:(n:Int) < (sigs.length:Int):=by omega
   obtain ⟨sid,sg⟩:=s
   have HV0:=Lib.hid (fun (w1:World) (hb:Below w.heap.size w w1) => verify_any A pub text sg hm w1 (HTT.out w1 hb))
   rw [show verifyE pub text (sid,sg).2 = verifyE pub text sg from rfl]
   generalize verifyE pub text sg = V at *
   clear h1 h2 h3 hl hT hr hlt
   by_cases h0:V = 0
   · subst h0
     go_enter Tryz.func26,Tryz.ntmps26
     go_upto_region 2 with (go_at_call 41; (with_reducible refine (HI.out _ hb0 lK).mono ?_); rintro e w1 ⟨rfl,hb1⟩)
     have hb:=hb0.trans (hb1.mono hb0.size)
     have lK1:=lK.on hb1
     have q1:=lK1.cell 1; simp only [zA6,zAN,zAF] at q1
     have q2:=HR.out _ hb 1 _ rfl
     have u1:=cell_regrown q1
     have u2:=cell_regrown q2
     have cV:=Lib.hid (reg (W:=w1) (fun w2 hw => HV0.out w2 (hb.trans (hw.mono hb.size))))
     clear q1 q2
     refine wp_region_quiet_below (by kernel_rfl) (by kernel_rfl) ?_
     repeat (go_big_quiet_step (with_reducible exact cV.out _ _))
     refine wpQuiet_nil ?_
     intro _ hw'
     obtain ⟨⟨dq,osq⟩,hw''⟩:=hw'
     subst hw''
     have hb2:=below_regrown w1 dq osq
     go_wp2
     go_ret
     exact ⟨rfl,hb.trans (hb2.mono hb.size)⟩
   · rw [decide_eq_false h0]
     have hV:(V == 0) = false:=by simpa using h0
     clear h0
     go_enter Tryz.func26,Tryz.ntmps26
     go_upto_region 2 with (go_at_call 41; (with_reducible refine (HI.out _ hb0 lK).mono ?_); rintro e w1 ⟨rfl,hb1⟩)
     have hb:=hb0.trans (hb1.mono hb0.size)
     have lK1:=lK.on hb1
     have q1:=lK1.cell 1; simp only [zA6,zAN,zAF] at q1
     have q2:=HR.out _ hb 1 _ rfl
     have u1:=cell_regrown q1
     have u2:=cell_regrown q2
     have cV:=Lib.hid (reg (W:=w1) (fun w2 hw => HV0.out w2 (hb.trans (hw.mono hb.size))))
     clear q1 q2
     refine wp_region_quiet_below (by kernel_rfl) (by kernel_rfl) ?_
     repeat (go_big_quiet_step (with_reducible exact cV.out _ _))
     refine wpQuiet_nil ?_
     intro _ hw'
     obtain ⟨⟨dq,osq⟩,hw''⟩:=hw'
     subst hw''
     have hb2:=below_regrown w1 dq osq
     go_wp2
     go_ret
     exact ⟨rfl,hb.trans (hb2.mono hb.size)⟩
end Go.Proofs.YteecbglmohhaeaaGreatDoor.O
