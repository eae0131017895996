import Derived.Test.YteecbglmohhaeaaGreatDoorK6
import Derived.Deep.MidRow
import Derived.Laws.Rows
set_option maxRecDepth 100000
open List renaming drop_eq_getElem_cons → zAS, drop_of_length_le → zAW, drop_succ_cons → zAA, drop_zero → zAH, getD_eq_getElem?_getD → zA4, getElem?_drop → zBF, getElem?_eq_getElem → zA5, getElem?_toArray → zA6, length_cons → zB7, setIfInBounds_toArray → zA0, set_cons_succ → zA2, set_cons_zero → zA1, take_succ_cons → zA8, take_zero → zAJ
open Nat renaming add_assoc → zC5, add_comm → zCL, add_zero → zAZ, div_div_eq_div_mul → zB5, div_eq_of_lt → zBX, div_le_self → zB9, div_one → zCP, le_refl → zA3, le_succ → zBP, lt_of_le_of_lt → zBB, lt_or_ge → zBD, lt_trans → zCI, mod_eq_of_lt → zAB, mod_lt → zAO, mul_assoc → zAY, mul_one → zBO, pow_le_pow_right → zB1, pow_succ → zAP, pow_zero → zCG, zero_add → zAQ, zero_le → zAR
open Array renaming getElem?_eq_none → zBR, length_toList → zAC, toArray_toList → zAK
open Bool renaming and_eq_true → zAI
open Int renaming natCast_ediv → zBH, tdiv_eq_ediv_of_nonneg → zB3
namespace Go.Proofs.YteecbglmohhaeaaGreatDoor
open Go.Sort Go.RowKit
section
variable {P:Program} {ops:Array Oper} {md:Region.Mode} {w0:World}
def Yb (P:Program) (w0:World) (o:Oper) (v:Value) (a:Act):Prop:=o.guard = none ∧ ∀ w,Below w0.heap.size w0 w → o.quietAt P a (fun w'' => Below w.heap.size w w'') w v
def qB (P:Program) (w0:World) (o:Oper) (K:Act → Prop) (a:Act):Prop:=∃ v,Yb P w0 o v a ∧ K (a.put o.dst v)
def wpQB (P:Program) (w0:World) (Q:Act → Prop):List Oper → Act → Prop
 | [],a => Q a
 | o :: rest,a => qB P w0 o (wpQB P w0 Q rest) a
theorem qB_mono {o:Oper} {a:Act} {K K':Act → Prop} (h:∀ a,K a → K' a) (hh:qB P w0 o K a):qB P w0 o K' a:=
 let ⟨v,h1,h2⟩:=hh
 ⟨v,h1,h _ h2⟩
theorem wanted_plain {o:Oper} (h:o.guard = none) (y:Nat → Option Bool):Region.wanted o y = true:=by unfold Region.wanted; rw [h]
def anyB (P:Program) (md:Region.Mode) (ops:Array Oper) (w0:World) (n:Nat) (L:Array Bool → Act → Prop):Nat → Array Bool → Act → Prop
 | 0,listed,a => L listed a
 | f + 1,listed,a => Region.ready md ops listed ≠ [] ∧ ∀ i ∈ Region.ready md ops listed,i < n ∧ ∃ o,ops[i]? = some o ∧ qB P w0 o (anyB P md ops w0 n L f (listed.setIfInBounds i true)) a
def anyA (P:Program) (md:Region.Mode) (ops:Array Oper) (w0:World) (n:Nat) (L:Array Bool → Act → Prop):Nat → Array Bool → Act → Prop
 | 0,_,_ => False
 | f + 1,listed,a => Region.ready md ops listed ≠ [] ∧ ∀ i ∈ Region.ready md ops listed,(i = n ∧ anyB P md ops w0 n L f (listed.setIfInBounds n true) a) ∨
     (i < n ∧ ∃ o,ops[i]? = some o ∧ qB P w0 o (anyA P md ops w0 n L f (listed.setIfInBounds i true)) a)
theorem quietAt_mono {o:Oper} {a:Act} {C C':World → Prop} {w:World} {v:Value} (h:∀ w',C w' → C' w') (hh:o.quietAt P a C w v):o.quietAt P a C' w v:=by
 unfold Oper.quietAt at *
 generalize (execOp a.eval o).run P w = r at *
 cases r with
 | ok n w' =>
   cases n <;> simp only [Oper.quietUpon] at hh ⊢
   case value u => exact hh
   case skip => exact hh
   case enter f args => exact ⟨hh.1,hh.2.mono fun e w'' ⟨he,hc⟩ => ⟨he,h _ hc⟩⟩
 | halt x w' => simp only [Oper.quietUpon] at hh
theorem wpOp_of_qB {i:Nat} {o:Oper} {a a2:Act} {K:Act → Prop} {K':Act → World → Prop} {Q':Exit → Act → World → Prop} {C:World → Prop} {w:World} (hi:ops[i]? = some o)
   (hC0:∀ w,C w → Below w0.heap.size w0 w) (hC:∀ w w',C w → Below w.heap.size w w' → C w') (hw:C w)
   (he:execOp a2.eval o = execOp a.eval o) (h:∀ v w',C w' → K (a.put o.dst v) → K' (a2.put o.dst v) w') (hh:qB P w0 o K a):wpOp P ops Q' i K' a2 w:=by
 obtain ⟨v,⟨hg,hv⟩,hk⟩:=hh
 unfold wpOp
 rw [hi]
 simp only [wanted_plain hg,if_true]
 left
 have h3:=hv w (hC0 w hw)
 unfold Oper.quietAt at h3
 unfold Oper.wp
 rw [he]
 generalize (execOp a.eval o).run P w = r at *
 cases r with
 | ok n w' =>
   cases n <;> simp only [Oper.quietUpon] at h3 <;> simp only [Oper.upon]
   case value u =>
     obtain ⟨e1,e2⟩:=h3
     rw [e1,e2]
     exact h _ _ hw hk
   case skip =>
     obtain ⟨e1,e2⟩:=h3
     rw [e1,← e2]
     exact h _ _ hw hk
   case enter f args =>
     obtain ⟨e1,hc⟩:=h3
     rw [e1]
     exact hc.mono fun e w'' ⟨he,hw''⟩ => by subst he; exact h _ _ (hC w w'' hw hw'') hk
 | halt x w' => simp only [Oper.quietUpon] at h3
theorem wpAny_of_anyB {n g:Nat} {L:Array Bool → Act → Prop} {Q':Exit → Act → World → Prop} {C:World → Prop} {d:Option Tmp} {u:Value} (hC0:∀ w,C w → Below w0.heap.size w0 w) (hC:∀ w w',C w → Below w.heap.size w w' → C w')
   (hsel:∀ (j:Nat) (o:Oper) cs b,ops[j]? = some o → o.op ≠ .select cs b)
   (hap:∀ j o,j < n → ops[j]? = some o → (∀ x,d = some x → x ∉ o.looksAt ops) ∧ (∀ x,d = some x → o.dst ≠ some x))
   (hL:∀ listed a w,C w → L listed a → wpAny P md ops Q' g listed (a.put d u) w) :
   ∀ (f:Nat) (listed:Array Bool) (a:Act) (w:World),C w → anyB P md ops w0 n L f listed a → wpAny P md ops Q' (f + g) listed (a.put d u) w
 | 0,listed,a,w,hw,h => by rw [zAQ]; exact hL _ _ _ hw h
 | f + 1,listed,a,w,hw,h => by
   rw [show f + 1 + g = (f + g) + 1 by omega]
   refine ⟨fun h0 => absurd h0 h.1,fun i hi => ?_⟩
   obtain ⟨hin,o,ho,hq⟩:=h.2 i hi
   obtain ⟨h1,h2⟩:=hap i o hin ho
   refine wpOp_of_qB ho hC0 hC hw (execOp_put o (fun cs b => hsel i o cs b ho) a d u h1) (fun v w' hw' hk => ?_) hq
   rw [Act.put_comm a u v h2]
   exact wpAny_of_anyB hC0 hC hsel hap hL f _ _ w' hw' hk
theorem wpAny_of_anyA {n g:Nat} {L:Array Bool → Act → Prop} {Q':Exit → Act → World → Prop} {oa:Oper} {t:TypeId} {z:Array Value} (hoa:ops[n]? = some oa) (hga:oa.guard = none)
   (hal:∀ (a:Act) (w:World),(execOp a.eval oa).run P w = .ok (.value (.pointer (some ⟨w.heap.size,0,none⟩))) (w.alloc (.cells z t)))
   (hsel:∀ (j:Nat) (o:Oper) cs b,ops[j]? = some o → o.op ≠ .select cs b)
   (hap:∀ j o,j < n → ops[j]? = some o → (∀ x,oa.dst = some x → x ∉ o.looksAt ops) ∧ (∀ x,oa.dst = some x → o.dst ≠ some x))
   (hL:∀ k listed a w,Below w0.heap.size w0 w → w0.heap.size ≤ k → w.heap[k]? = some (.cells z t (0,0)) → L listed a → wpAny P md ops Q' g listed (a.put oa.dst (.pointer (some ⟨k,0,none⟩))) w) :
   ∀ (f:Nat) (listed:Array Bool) (a:Act) (w:World),Below w0.heap.size w0 w → anyA P md ops w0 n L f listed a → wpAny P md ops Q' (f + g) listed a w
 | 0,_,_,_,_,h => h.elim
 | f + 1,listed,a,w,hw,h => by
   rw [show f + 1 + g = (f + g) + 1 by omega]
   refine ⟨fun h0 => absurd h0 h.1,fun i hi => ?_⟩
   rcases h.2 i hi with ⟨rfl,hb⟩ | ⟨hin,o,ho,hq⟩
   · unfold wpOp
     rw [hoa]
     simp only [wanted_plain hga,if_true]
     left
     unfold Oper.wp
     rw [hal]
     simp only [Oper.upon]
     have hsz:=hw.size
     refine wpAny_of_anyB (C:=fun w' => Below w0.heap.size w0 w' ∧ w'.heap[w.heap.size]? = some (.cells z t (0,0))) (fun _ h => h.1) (fun w1 w2 h1 h2 => ⟨h1.1.trans (h2.mono h1.1.size),?_⟩) hsel hap
       (fun listed a w' hw' hl => hL _ _ _ _ hw'.1 hsz hw'.2 hl) f _ _ _ ⟨hw.alloc hsz _,heap_alloc_new w _⟩ hb
     have hlt:w.heap.size < w1.heap.size:=by
       rcases zBD w.heap.size w1.heap.size with h | h
       · exact h
       · have:=h1.2; rw [zBR h] at this; cases this
     exact (h2.block _ hlt).trans h1.2
   · exact wpOp_of_qB (C:=fun w' => Below w0.heap.size w0 w') ho (fun _ h => h) (fun _ _ h1 h2 => h1.trans (h2.mono h1.size)) hw rfl (fun v w' hw' hk => wpAny_of_anyA hoa hga hal hsel hap hL f _ _ w' hw' hk) hq
theorem qB_put {oi oj:Oper} {v:Value} (hap:oi.apart ops oj = true)
   (hsi:∀ cs b,oi.op ≠ .select cs b) (hsj:∀ cs b,oj.op ≠ .select cs b) {K:Act → Prop} {a:Act}
   (hy:Yb P w0 oi v a) (h:qB P w0 oj K (a.put oi.dst v)):qB P w0 oj (fun a' => Yb P w0 oi v a' ∧ K (a'.put oi.dst v)) a:=by
 obtain ⟨h1,h2,h3⟩:=Oper.apart_spec hap
 obtain ⟨u,⟨hg,hu⟩,hn⟩:=h
 refine ⟨u,⟨hg,fun w hw => ?_⟩,⟨hy.1,fun w hw => ?_⟩,by rw [← Act.put_comm a v u h2]; exact hn⟩
 · have:=hu w hw
   unfold Oper.quietAt at *
   rwa [execOp_put oj hsj a oi.dst v h1] at this
 · have:=hy.2 w hw
   unfold Oper.quietAt at *
   rwa [execOp_put oi hsi a oj.dst u h3]
theorem anyB_first {n i:Nat} {oi:Oper} {v:Value} {L:Array Bool → Act → Prop} (hi:ops[i]? = some oi) (hsel:∀ (j:Nat) (o:Oper) cs b,ops[j]? = some o → o.op ≠ .select cs b)
   (hs:Region.sinkB md ops (n + 1) = true) (hc:Region.chainB md ops (n + 1) = true) (hn:n + 1 < ops.size) (hin:i < n)
   (hdone:∀ listed a,L listed a → ∀ j ∈ Region.ready md ops listed,n + 1 ≤ j) :
   ∀ (f:Nat) (listed:Array Bool) (a:Act),HeadInv md ops (n + 1) listed → listed.getD n true = true →
     (∀ j oj,ops[j]? = some oj → j ≠ i → listed.getD j true = false → (∀ e ∈ oj.after,Region.binds md e = true → e.on ≠ i) → oi.apart ops oj = true) →
     i ∈ Region.ready md ops listed → Yb P w0 oi v a →
     anyB P md ops w0 n L f (listed.setIfInBounds i true) (a.put oi.dst v) → anyB P md ops w0 n L (f + 1) listed a:=by
 intro f
 induction f with
 | zero =>
   intro listed a inv hln _ hr hy H
   have hun:=(mem_ready.1 hr).1
   refine ⟨fun h => (by rw [h] at hr; cases hr),fun j hj => ?_⟩
   have hjn:j < n:=by
     rcases zBD j (n + 1) with h | h
     · rcases zBD j n with h' | h'
       · exact h'
       · obtain rfl:j = n:=by omega
         have:=(mem_ready.1 hj).1
         rw [hln] at this
         cases this
     · exact absurd hj (tail_waits hs hc hn inv _ i rfl (by omega) hun j h)
   by_cases hji:j = i
   · subst hji; exact ⟨hjn,oi,hi,v,hy,H⟩
   · have:=hdone _ _ H j (ready_mono hj hji)
     omega
 | succ f ih =>
   intro listed a inv hln hfree hr hy H
   have hun:=(mem_ready.1 hr).1
   refine ⟨fun h => (by rw [h] at hr; cases hr),fun j hj => ?_⟩
   have hjn:j < n:=by
     rcases zBD j (n + 1) with h | h
     · rcases zBD j n with h' | h'
       · exact h'
       · obtain rfl:j = n:=by omega
         have:=(mem_ready.1 hj).1
         rw [hln] at this
         cases this
     · exact absurd hj (tail_waits hs hc hn inv _ i rfl (by omega) hun j h)
   by_cases hji:j = i
   · subst hji; exact ⟨hjn,oi,hi,v,hy,H⟩
   · obtain ⟨_,oj',hoj',h1⟩:=H.2 j (ready_mono hj hji)
     obtain ⟨hjun,oj,hoj,hall⟩:=mem_ready.1 hj
     obtain rfl:oj' = oj:=Option.some.inj (hoj'.symm.trans hoj)
     refine ⟨hjn,oj',hoj,?_⟩
     have hnot:∀ e ∈ oj'.after,Region.binds md e = true → e.on ≠ i:=fun e he hb heq => by
       have h1:=hall e he hb
       rw [heq,getD_both hun] at h1
       cases h1
     have h2:=qB_put (hfree j oj' hoj hji hjun hnot) (fun cs b => hsel i oi cs b hi) (fun cs b => hsel j oj' cs b hoj) hy h1
     have hfree':∀ k ok,ops[k]? = some ok → k ≠ i → (listed.setIfInBounds j true).getD k true = false →
         (∀ e ∈ ok.after,Region.binds md e = true → e.on ≠ i) → oi.apart ops ok = true:=fun k ok hk hki hun hno => by
       refine hfree k ok hk hki ?_ hno
       by_cases hjk:j = k
       · subst hjk; exact hjun
       · rw [getD_set_ne true hjk] at hun; exact hun
     refine qB_mono (fun a' h3 => ih (listed.setIfInBounds j true) a' (inv.set hj (by omega)) (by rw [getD_set_ne true (by omega)]; exact hln) hfree' (ready_mono hr (Ne.symm hji)) h3.1 ?_) h2
     rw [Array.setIfInBounds_comm _ _ hji]
     exact h3.2
def lexHeadA (md:Region.Mode) (ops:Array Oper) (n g:Nat):Nat → Nat → Array Bool → Bool
 | 0,_,listed => Region.seqB md ops g (n + 1) listed
 | f + 1,k,listed => (Region.ready md ops listed).contains k && Region.free md ops listed k && lexHeadA md ops n g f (k + 1) (listed.setIfInBounds k true)
theorem anyB_lex {n g:Nat} {Lq:Act → Prop} (hsel:Region.noSelect ops = true) (hs:Region.sinkB md ops (n + 1) = true) (hc:Region.chainB md ops (n + 1) = true) (hn:n + 1 < ops.size) :
   ∀ (l:List Oper) (k:Nat) (listed:Array Bool) (a:Act),(∀ j,j < l.length → l[j]? = ops[k + j]?) → k + l.length = n → HeadInv md ops (n + 1) listed → listed.getD n true = true →
   lexHeadA md ops n g l.length k listed = true → wpQB P w0 Lq l a →
   anyB P md ops w0 n (fun listed' a' => Region.seqB md ops g (n + 1) listed' = true ∧ Lq a') l.length listed a
 | [],k,listed,a,_,_,_,_,hB,h => ⟨by simpa [lexHeadA] using hB,h⟩
 | o :: l,k,listed,a,hl,hk,inv,hln,hB,h => by
   have h0:ops[k]? = some o:=by simpa using (hl 0 (by simp)).symm
   simp only [zB7,lexHeadA,zAI] at hB
   obtain ⟨⟨hr,hf⟩,hB'⟩:=hB
   have hkn:k < n:=by simp only [zB7] at hk; omega
   have hr':k ∈ Region.ready md ops listed:=by simpa using hr
   obtain ⟨v,hy,hK⟩:=h
   exact anyB_first h0 (Region.noSelect_spec hsel) hs hc hn hkn (fun listed' a' hL => seqB_ready hL.1) l.length listed a inv hln (Region.free_spec h0 hf) hr' hy
     (anyB_lex hsel hs hc hn l (k + 1) _ _ (fun j hj => by have:=hl (j + 1) (by simp; omega); simpa [zC5,zCL 1 j] using this) (by simp only [zB7] at hk; omega) (inv.set hr' (by omega)) (by rw [getD_set_ne true (by omega)]; exact hln) hB' hK)
theorem anyA_of_anyB {n:Nat} {oa:Oper} {L:Array Bool → Act → Prop} (hoa:ops[n]? = some oa) (haf:∀ e ∈ oa.after,Region.binds md e = true → False)
   (hs:Region.sinkB md ops (n + 1) = true) (hc:Region.chainB md ops (n + 1) = true) (hn:n + 1 < ops.size)
   (hdone:∀ listed a,L listed a → ∀ j ∈ Region.ready md ops listed,n + 1 ≤ j) :
   ∀ (f:Nat) (listed:Array Bool) (a:Act),HeadInv md ops (n + 1) listed → listed.getD n true = false →
     anyB P md ops w0 n L f (listed.setIfInBounds n true) a → anyA P md ops w0 n L (f + 1) listed a:=by
 intro f
 induction f with
 | zero =>
   intro listed a inv hun H
   have hr:n ∈ Region.ready md ops listed:=mem_ready.2 ⟨hun,oa,hoa,fun e he hb => (haf e he hb).elim⟩
   refine ⟨fun h => (by rw [h] at hr; cases hr),fun j hj => ?_⟩
   by_cases hjn:j = n
   · exact .inl ⟨hjn,H⟩
   · have h1:=hdone _ _ H j (ready_mono hj hjn)
     exact absurd hj (tail_waits hs hc hn inv _ n rfl (by omega) hun j h1)
 | succ f ih =>
   intro listed a inv hun H
   have hr:n ∈ Region.ready md ops listed:=mem_ready.2 ⟨hun,oa,hoa,fun e he hb => (haf e he hb).elim⟩
   refine ⟨fun h => (by rw [h] at hr; cases hr),fun j hj => ?_⟩
   by_cases hjn:j = n
   · exact .inl ⟨hjn,H⟩
   · obtain ⟨h1,o,ho,hq⟩:=H.2 j (ready_mono hj hjn)
     refine .inr ⟨h1,o,ho,qB_mono (fun a' h3 => ih (listed.setIfInBounds j true) a' (inv.set hj (by omega)) (by rw [getD_set_ne true hjn]; exact hun) ?_) hq⟩
     rw [Array.setIfInBounds_comm _ _ hjn]
     exact h3
def lexAllocB (md:Region.Mode) (ops:Array Oper) (n:Nat):Bool:=
 Region.noSelect ops && decide (n + 1 < ops.size) && Region.sinkB md ops (n + 1) && Region.chainB md ops (n + 1) && lexHeadA md ops n (ops.size - (n + 1)) n 0 ((Array.replicate ops.size false).setIfInBounds n true) &&
   (match ops[n]? with
    | some oa => oa.guard == none && oa.after.all (fun e => !Region.binds md e) && (List.range n).all (fun j => match ops[j]? with | some o => oa.apart ops o | none => true)
    | none => false)
theorem any_made {Q:Exit → Act → World → Prop} {a:Act} {w:World} {l:List Oper} (n:Nat) (d:Tmp) (oa:Oper) (t:TypeId) (z:Array Value) (hoa:l.toArray[n]? = some oa) (hd:oa.dst = some d) (hB:lexAllocB .any l.toArray n = true)
   (hal:∀ (a:Act) (w:World),(execOp a.eval oa).run P w = .ok (.value (.pointer (some ⟨w.heap.size,0,none⟩))) (w.alloc (.cells z t)))
   (h:wpQB P w (fun a' => ∀ k w',Below w.heap.size w w' → w.heap.size ≤ k → w'.heap[k]? = some (.cells z t (0,0)) → wpList P l.toArray Q (l.drop (n + 1)) (a'.put (some d) (.pointer (some ⟨k,0,none⟩))) w') (l.take n) a) :
   wpAny P .any l.toArray Q l.toArray.size (Array.replicate l.toArray.size false) a { w with drawn:=w.drawn + 1 }:=by
 rw [← hd] at h
 simp only [lexAllocB,zAI,decide_eq_true_eq,hoa] at hB
 obtain ⟨⟨⟨⟨⟨hsel,hn⟩,hs⟩,hc⟩,hlex⟩,⟨hg,haf⟩,hap⟩:=hB
 have hg':oa.guard = none:=by simpa using hg
 have haf':∀ e ∈ oa.after,Region.binds .any e = true → False:=fun e he hb => by
   have:=Array.all_eq_true_iff_forall_mem.1 haf e he
   simp [hb] at this
 have hap':∀ j o,j < n → l.toArray[j]? = some o → (∀ x,oa.dst = some x → x ∉ o.looksAt l.toArray) ∧ (∀ x,oa.dst = some x → o.dst ≠ some x):=fun j o hj ho => by
   have h1:=List.all_eq_true.1 hap j (List.mem_range.2 hj)
   rw [ho] at h1
   obtain ⟨h2,h3,_⟩:=Oper.apart_spec h1
   exact ⟨h2,h3⟩
 have hn':n + 1 < l.length:=by simpa using hn
 have htl:(l.take n).length = n:=by simp; omega
 have hdl:(l.drop (n + 1)).length = l.toArray.size - (n + 1):=by simp
 have inv0:HeadInv .any l.toArray (n + 1) (Array.replicate l.toArray.size false):=
   ⟨by simp,fun j oj _ hl => (by rw [getD_replicate_false] at hl; cases hl),fun t _ ht => getD_in (by simpa using ht) (getD_replicate_false _ _)⟩
 have hun:(Array.replicate l.toArray.size false).getD n true = false:=getD_in (by simp; omega) (getD_replicate_false _ _)
 have hr:n ∈ Region.ready .any l.toArray (Array.replicate l.toArray.size false):=mem_ready.2 ⟨hun,oa,hoa,fun e he hb => (haf' e he hb).elim⟩
 have hln:((Array.replicate l.toArray.size false).setIfInBounds n true).getD n true = true:=by
   simp [Array.getElem?_setIfInBounds_self]
   split <;> rfl
 have H:=anyA_of_anyB (md:=.any) (w0:=w) hoa haf' hs hc hn (fun listed a hL => seqB_ready hL.1) (l.take n).length (Array.replicate l.toArray.size false) a inv0 hun
   (anyB_lex (g:=l.toArray.size - (n + 1)) hsel hs hc hn (l.take n) 0 _ a (fun j hj => by
     have hj':j < n:=by rw [htl] at hj; exact hj
     simp [hj']) (by simpa using htl) (inv0.set hr (by omega)) hln (by rw [htl]; exact hlex) h)
 have:=wpAny_of_anyA (Q':=Q) (g:=l.toArray.size - (n + 1)) hoa hg' hal (Region.noSelect_spec hsel) hap' (fun k listed a' w' hw' hk hz hL => by
   have:=wpAny_of_seq (md:=.any) (Q':=Q) (l.drop (n + 1)) (n + 1) listed (a'.put oa.dst (.pointer (some ⟨k,0,none⟩))) w' (fun j => by simp [zBF]) (by rw [hdl]; exact hL.1) (hL.2 k w' hw' hk hz)
   rwa [hdl] at this) _ _ _ { w with drawn:=w.drawn + 1 } (Below.refl w.heap.size w).drew H
 rw [htl,show n + 1 + (l.toArray.size - (n + 1)) = l.toArray.size by omega] at this
 exact this
theorem wp_region_made {id:Nat} {Q:Exit → Act → World → Prop} {a:Act} {w:World} {l:List Oper} (n:Nat) (d:Tmp) (oa:Oper) (t:TypeId) (z:Array Value) (hoa:l.toArray[n]? = some oa) (hd:oa.dst = some d) (hm:P.follows .mixedOrders = true) (hB:lexAllocB .any l.toArray n = true)
   (hal:∀ (a:Act) (w:World),(execOp a.eval oa).run P w = .ok (.value (.pointer (some ⟨w.heap.size,0,none⟩))) (w.alloc (.cells z t)))
   (h:wpQB P w (fun a' => ∀ k w',Below w.heap.size w w' → w.heap.size ≤ k → w'.heap[k]? = some (.cells z t (0,0)) → wpList P l.toArray Q (l.drop (n + 1)) (a'.put (some d) (.pointer (some ⟨k,0,none⟩))) w') (l.take n) a) :
   (Code.region id l.toArray true).wp P Q a w:=
 wp_region_any hm (any_made n d oa t z hoa hd hB hal h)
theorem wpQuiet_of_qb {C:World → Prop} (hC0:∀ w,C w → Below w0.heap.size w0 w) (hC:∀ w w',C w → Below w.heap.size w w' → C w') {Q:Act → Prop}:∀ (l:List Oper) (a:Act),wpQB P w0 Q l a → wpQuiet P ops C Q l a
 | [],_,h => h
 | o :: l,a,⟨v,⟨hg,hv⟩,hk⟩ => by
   unfold wpQuiet
   rw [if_pos (wanted_plain hg _)]
   exact ⟨v,fun w hw => quietAt_mono (fun w' h => hC w w' hw h) (hv w (hC0 w hw)),wpQuiet_of_qb hC0 hC l _ hk⟩
theorem wp_region_plain {id:Nat} {Q:Exit → Act → World → Prop} {a:Act} {w:World} {l:List Oper} (n:Nat) (hm:P.follows .mixedOrders = true) (hB:Region.lexTailB .any l.toArray n = true)
   (h:wpQB P w (fun a' => ∀ w',Below w.heap.size w w' → wpList P l.toArray Q (l.drop n) a' w') (l.take n) a):(Code.region id l.toArray true).wp P Q a w:=
 wp_region_quiet_tail (C:=fun w' => Below w.heap.size w w') n hm hB (Below.refl w.heap.size w).drew (wpQuiet_of_qb (fun _ h => h) (fun _ _ h1 h2 => h1.trans (h2.mono h1.size)) _ _ h)
theorem wp_region_all {id:Nat} {Q:Exit → Act → World → Prop} {a:Act} {w:World} {l:List Oper} (hm:P.follows .mixedOrders = true) (hB:Region.lexB .any l.toArray = true)
   (h:wpQB P w (fun a' => ∀ w',Below w.heap.size w w' → Q .normal a' w') l a):(Code.region id l.toArray true).wp P Q a w:=
 wp_region_quiet (C:=fun w' => Below w.heap.size w w') hm hB (Below.refl w.heap.size w).drew (wpQuiet_of_qb (fun _ h => h) (fun _ _ h1 h2 => h1.trans (h2.mono h1.size)) _ _ h)
section
variable {Q:Act → Prop} {a:Act} {rest:List Oper} {t':TypeId} {pos:String} {after:Array Edge}
theorem wpQB_nil (h:Q a):wpQB P w0 Q [] a:=h
theorem wpQB_run {o:Oper} (v:Value) (hg:o.guard = none) (hr:∀ w,Below w0.heap.size w0 w → (execOp a.eval o).run P w = .ok (.value v) w) (h:wpQB P w0 Q rest (a.put o.dst v)):wpQB P w0 Q (o :: rest) a:=
 ⟨v,⟨hg,fun w hw => by unfold Oper.quietAt; rw [hr w hw]; exact ⟨rfl,rfl⟩⟩,h⟩
theorem wpQB_move {d:Option Tmp} {x:Operand} (h:wpQB P w0 Q rest (a.put d (a.eval x))):wpQB P w0 Q (⟨d,.move x,t',pos,after,none⟩ :: rest) a:=
 wpQB_run _ rfl (fun _ _ => rfl) h
theorem wpQB_load {d:Option Tmp} {x:Operand} {ty:TypeId} (g:Nat) (t:TypeId) (cs:Array Value) (ds:TypeDesc) (hu:P.underlying ty = some ds) (hd:(match ds with | .struct _ | .array _ _ => true | _ => false) = true) (hi:(P.info? ty).map (·.size) = some cs.size)
   (hg:w0.heap[g]? = some (.cells cs t (0,0))) (hx:a.eval x = .pointer (some ⟨g,0,none⟩)) (h:wpQB P w0 Q rest (a.put d (.agg cs))):wpQB P w0 Q (⟨d,.load ty x,t',pos,after,none⟩ :: rest) a:=
 wpQB_run _ rfl (fun w hw => by
   have hlt:g < w0.heap.size:=by
     rcases zBD g w0.heap.size with h | h
     · exact h
     · rw [zBR h] at hg; cases hg
   have hg':=(hw.block g hlt).trans hg
   unfold execOp
   simp only [hx,Instr.loadAt,Instr.sureAddr,Sem.run_bind,Sem.run_pure,Result.andThen_ok,run_loadVar_row w g t ty cs (0,0) ds hg' hu hd hi]) h
theorem wpQB_call {d:Option Tmp} {o:Oper} (f:FuncId) (args:Array Value) (v:Value) (hd:o.dst = d) (hg:o.guard = none) (hr:∀ w,(execOp a.eval o).run P w = .ok (.enter f args) w)
   (hc:∀ w,Below w0.heap.size w0 w → Calls P f args w fun e w' => e = .returned v ∧ Below w.heap.size w w') (h:wpQB P w0 Q rest (a.put d v)):wpQB P w0 Q (o :: rest) a:=by
 subst hd
 exact ⟨v,⟨hg,fun w hw => by unfold Oper.quietAt; rw [hr w]; exact ⟨rfl,hc w hw⟩⟩,h⟩
end
end
end Go.Proofs.YteecbglmohhaeaaGreatDoor
namespace Go.Proofs.YteecbglmohhaeaaGreatDoor.F
open Go.RowKit Go.Sort
attribute [local irreducible] feA
theorem wpQB_fe {w0:World} {Q:Act → Prop} {a:Act} {rest:List Oper} {t':TypeId} {pos:String} {after:Array Edge} {d:Option Tmp} {x:Operand} (g n:Nat) (hz:Lies w0 g 72 (feA n)) (hx:a.eval x = .pointer (some ⟨g,0,none⟩))
   (h:wpQB Tryz.prog w0 Q rest (a.put d (fe n))):wpQB Tryz.prog w0 Q (⟨d,.load 72 x,t',pos,after,none⟩ :: rest) a:=
 wpQB_load g 72 (feA n) _ Tryz.underlying72 rfl (by rw [feA_size]; exact rowFe.2) hz hx h
set_option maxHeartbeats 800000 in
theorem squared_any (x t:Nat) (W:World) (hx:x < K256) (ht:t ≤ 1000) (hT:Tab W) :
   Calls Tryz.prog 140 #[fe x,.int .i64 (t:Int)] W fun e w' => e = .returned (fe (sqL x t)) ∧ Below W.heap.size W w':=by
 have hT0:=Lib.hid hT
 clear hT
 go_enter Tryz.func140,Tryz.ntmps140
 have hz:=(Lies.new W 72 (feA x)).alloc (.cells fe0A 72)
 have hr:Lies ((W.alloc (.cells (feA x) 72)).alloc (.cells fe0A 72)) (W.heap.size + 1) 72 fe0A:=heap_alloc2_new W _ _
 have hB:=((Below.refl W.heap.size W).alloc (zA3 _) (.cells (feA x) 72)).alloc (by simp) (.cells fe0A 72)
 go_upto_region 1 with fail
 generalize World.alloc (World.alloc W _) _ = w0 at *
 go_wp2_with fail
 go_loopw [6] (fun ix wr => ∃ i:Nat,i ≤ t ∧ ix = .int .i64 (i:Int) ∧ Lies wr W.heap.size 72 (feA (sqL x i)) ∧ Lies wr (W.heap.size + 1) 72 fe0A ∧ Below W.heap.size W wr) (fun ix _ => t - (intOf ix).toNat)
 case atStart => exact ⟨0,zAR _,rfl,hz,hr,hB⟩
 case round =>
   clear hz hr hB
   obtain ⟨i,hi,rfl,hz,hr,hB⟩:=hrel
   have hT:=hT0.out.on hB
   by_cases hlt:i < t
   · have hv:=sqL_lt x i hx
     have HM:=Lib.hid (fun w hT => mul_any (sqL x i) (sqL x i) w hv hv hT)
     rw [sqL_step] at HM
     generalize sqL x i = v at *
     obtain ⟨u,hu⟩:∃ u,sqL x (i + 1) = u:=⟨_,rfl⟩
     rw [hu] at HM
     have HU:=Lib.hid hu
     have hii:(i:Int) < (t:Int):=by omega
     clear hu hv
     go_wp2_with (first
       | ((with_reducible refine wpL_load W.heap.size 72 (feA v) 4 rowFe (feA_size _) hz ?_ ?_); rfl)
       | (go_at_call 94; refine (HM.out _ hT).mono ?_; rintro e w1 ⟨rfl,hb⟩; replace hz:=hz.on hb; replace hr:=hr.on hb; replace hB:=below_on hB hb; clear hb)
       | ((with_reducible refine wpL_store W.heap.size 72 _ (feA u) 4 rowFe (feA_size _) (feA_size _) (feA_one _) hz ?_ ?_ ?_); rfl; rfl))
     go_roundw
     case rel => exact ⟨i + 1,by omega,by go_num,by rw [HU.out]; exact hz.row _,hr.rowFar (by omega) _,below_rowSet hB (zA3 _) _⟩
     case measure => simp [intOf]; omega
   · obtain rfl:i = t:=by omega
     have hii:¬ (i:Int) < (i:Int):=by omega
     obtain ⟨u,hu⟩:∃ u,sqL x i = u:=⟨_,rfl⟩
     rw [hu] at hz
     have HU:=Lib.hid hu
     clear hu
     go_wp2_with (first
       | ((with_reducible refine wpL_load W.heap.size 72 (feA u) 4 rowFe (feA_size _) hz ?_ ?_); rfl)
       | ((with_reducible refine wpL_store (W.heap.size + 1) 72 _ (feA u) 4 rowFe rfl (feA_size _) (feA_one _) hr ?_ ?_ ?_); rfl; rfl))
     exact bodyPost_ret (results_row Tryz.results140 rowFe (feA_size _) (hr.row _) rfl) rfl ⟨by rw [HU.out],below_rowSet hB (zBP _) _⟩
set_option maxHeartbeats 800000 in
theorem even_any (r:Nat) (W:World) (hr:r < p25) (hT:Tab W) :
   Calls Tryz.prog 141 #[fe r] W fun e w' => e = .returned (fe (evN r)) ∧ Below W.heap.size W w':=by
 have hT0:=Lib.hid hT
 have hrK:=below_K hr
 have HS:=Lib.hid (fun w hT => sub_any 0 r w (by decide) hrK hT)
 have HO:∀ w,Calls Tryz.prog 96 #[.int .u64 0] w fun e w' => e = .returned (fe 0) ∧ Below w.heap.size w w':=fun w => of_any 0 w (by decide)
 obtain ⟨u,hu⟩:∃ u,(0 + (p25 - r % p25)) % p25 = u:=⟨_,rfl⟩
 obtain ⟨v,hv⟩:∃ v,evN r = v:=⟨_,rfl⟩
 have hcase:(r % 2 = 1 ∧ v = u) ∨ (r % 2 = 0 ∧ v = r):=by
   rw [← hv,← hu]
   unfold evN
   split
   · exact .inl ⟨by assumption,rfl⟩
   · exact .inr ⟨by omega,rfl⟩
 rw [hu] at HS
 rw [hv]
 clear hu hv hT hrK hr
 go_enter Tryz.func141,Tryz.ntmps141
 have hz:=(Lies.new W 72 (feA r)).alloc (.cells fe0A 72)
 have hr:Lies ((W.alloc (.cells (feA r) 72)).alloc (.cells fe0A 72)) (W.heap.size + 1) 72 fe0A:=heap_alloc2_new W _ _
 have hB:=((Below.refl W.heap.size W).alloc (zA3 _) (.cells (feA r) 72)).alloc (by simp) (.cells fe0A 72)
 go_upto_region 1 with fail
 generalize World.alloc (World.alloc W _) _ = w0 at *
 obtain ⟨a,b,c,d,ha,ha2,haK⟩:=word_low r
 have hz':=hz
 rw [ha] at hz'
 have c0:=hz'.cell 0
 clear hz'
 rcases hcase with ⟨h1,rfl⟩ | ⟨h1,rfl⟩
 · have ha1:(a:Int) % 2 = 1:=by omega
   have cS:=fun w (h:Below w0.heap.size w0 w) => HS.out w ((hT0.out.on hB).on h)
   clear HS h1 ha2 ha hT0
   go_upto_region 2 with fail
   refine wp_region_plain 3 (by kernel_rfl) (by kernel_rfl) ?_
   simp only [zA8,zAJ,zAA,zAH]
   refine wpQB_call 96 #[.int .u64 0] (fe 0) rfl rfl (fun _ => by kernel_rfl) (fun w _ => HO w) ?_
   refine wpQB_fe W.heap.size r hz rfl ?_
   refine wpQB_call 95 #[fe 0,fe r] (fe v) rfl rfl (fun _ => by kernel_rfl) (fun w h => cS w h) ?_
   refine wpQB_nil ?_
   intro w1 hb
   replace hr:=hr.on hb
   replace hB:=below_on hB hb
   clear hb
   go_wp2_with ((with_reducible refine wpL_store (W.heap.size + 1) 72 _ (feA v) 4 rowFe rfl (feA_size _) (feA_one _) hr ?_ ?_ ?_); rfl; rfl)
   exact bodyPost_ret (results_row Tryz.results141 rowFe (feA_size _) (hr.row _) rfl) rfl ⟨rfl,below_rowSet hB (zBP _) _⟩
 · have ha1:(a:Int) % 2 = 0:=by omega
   clear HS h1 ha2 ha hT0 HO
   go_wp2_with (first
     | ((with_reducible refine wpL_load W.heap.size 72 (feA v) 4 rowFe (feA_size _) hz ?_ ?_); rfl)
     | ((with_reducible refine wpL_store (W.heap.size + 1) 72 _ (feA v) 4 rowFe rfl (feA_size _) (feA_one _) hr ?_ ?_ ?_); rfl; rfl))
   exact bodyPost_ret (results_row Tryz.results141 rowFe (feA_size _) (hr.row _) rfl) rfl ⟨rfl,below_rowSet hB (zBP _) _⟩
end Go.Proofs.YteecbglmohhaeaaGreatDoor.F
namespace Go.Proofs.YteecbglmohhaeaaGreatDoor.F
open Go.RowKit Go.Sort
attribute [local irreducible] feA
theorem alloc_fe {o:Oper} (h:o.op = .alloc 72) (a:Act) (w:World):(execOp a.eval o).run Tryz.prog w = .ok (.value (.pointer (some ⟨w.heap.size,0,none⟩))) (w.alloc (.cells fe0A 72)):=by
 unfold execOp
 rw [h]
 kernel_rfl
theorem half_i64 (n:Nat):Int.tdiv (n:Int) 2 = ((n / 2:Nat):Int):=by
 rw [zB3 (by omega)]
 omega
set_option maxHeartbeats 1600000 in
theorem ones_any (n:Nat):∀ (x:Nat) (W:World),1 ≤ n → n ≤ 1000 → x < K256 → Tab W →
   Calls Tryz.prog 173 #[fe x,.int .i64 (n:Int)] W fun e w' => e = .returned (fe (onesN x n)) ∧ Below W.heap.size W w':=by
 induction n using Nat.strongRecOn with
 | _ n ih =>
   intro x W h1 hn hx hT
   have hT0:=Lib.hid hT
   clear hT
   by_cases hone:n = 1
   · subst hone
     clear ih
     go_enter Tryz.func173,Tryz.ntmps173
     have hz:=(Lies.new W 72 (feA x)).alloc (.cells fe0A 72)
     have hr:Lies ((W.alloc (.cells (feA x) 72)).alloc (.cells fe0A 72)) (W.heap.size + 1) 72 fe0A:=heap_alloc2_new W _ _
     have hB:=((Below.refl W.heap.size W).alloc (zA3 _) (.cells (feA x) 72)).alloc (by simp) (.cells fe0A 72)
     go_upto_region 1 with fail
     generalize World.alloc (World.alloc W _) _ = w0 at *
     go_wp2_with (first
       | ((with_reducible refine wpL_load W.heap.size 72 (feA x) 4 rowFe (feA_size _) hz ?_ ?_); rfl)
       | ((with_reducible refine wpL_store (W.heap.size + 1) 72 _ (feA x) 4 rowFe rfl (feA_size _) (feA_one _) hr ?_ ?_ ?_); rfl; rfl))
     exact bodyPost_ret (results_row Tryz.results173 rowFe (feA_size _) (hr.row _) rfl) rfl ⟨rfl,below_rowSet hB (zBP _) _⟩
   · obtain ⟨h,hh⟩:∃ h,n / 2 = h:=⟨_,rfl⟩
     have hq:=half_i64 n
     have hq2:(n:Int) / 2 = (h:Int):=by omega
     rw [hh] at hq
     have hq3:IntKind.i64.wrap (h:Int) = (h:Int):=by rw [IntWalk.i64_in _ (by omega)]
     have hh1:1 ≤ h:=by omega
     have hH:=onesN_lt x h hx
     have HO:=Lib.hid (fun w hT => ih h (by omega) x w hh1 (by omega) hx hT)
     have HS:=Lib.hid (fun w hT => squared_any (onesN x h) h w hH (by omega) hT)
     have hS:=sqL_lt (onesN x h) h hH
     have HM:=Lib.hid (fun w hT => mul_any (sqL (onesN x h) h) (onesN x h) w hS hH hT)
     rw [onesN_even x h hh1] at HM
     have hE:=onesN_lt x (2 * h) hx
     have HSt:=Lib.hid (fun w hT => squared_any (onesN x (2 * h)) 1 w hE (by decide) hT)
     have hQ:=sqL_lt (onesN x (2 * h)) 1 hE
     have HMo:=Lib.hid (fun w hT => mul_any (sqL (onesN x (2 * h)) 1) x w hQ hx hT)
     rw [onesN_odd x h hh1] at HMo
     have hpar:(n % 2 = 1 ∧ n = 2 * h + 1) ∨ (n % 2 = 0 ∧ n = 2 * h):=by omega
     have HP:Hid ((n % 2 = 1 ∧ onesN x n = onesN x (2 * h + 1)) ∨ (n % 2 = 0 ∧ onesN x n = onesN x (2 * h))):=Lib.hid (by
       rcases hpar with ⟨a,b⟩ | ⟨a,b⟩
       · exact .inl ⟨a,by rw [← b]⟩
       · exact .inr ⟨a,by rw [← b]⟩)
     clear ih hpar hS hH hE hQ hh
     generalize onesN x (2 * h + 1) = vo at *
     generalize sqL (onesN x (2 * h)) 1 = q at *
     generalize onesN x (2 * h) = ve at *
     generalize sqL (onesN x h) h = s at *
     generalize onesN x h = vh at *
     generalize onesN x n = vn at *
     have hone':¬ (n:Int) = 1:=by omega
     go_enter Tryz.func173,Tryz.ntmps173
     have hz:=(Lies.new W 72 (feA x)).alloc (.cells fe0A 72)
     have hr:Lies ((W.alloc (.cells (feA x) 72)).alloc (.cells fe0A 72)) (W.heap.size + 1) 72 fe0A:=heap_alloc2_new W _ _
     have hB:=((Below.refl W.heap.size W).alloc (zA3 _) (.cells (feA x) 72)).alloc (by simp) (.cells fe0A 72)
     go_upto_region 1 with fail
     generalize World.alloc (World.alloc W _) _ = w0 at *
     have hT:=hT0.out.on hB
     go_upto_region 4 with (first
       | ((with_reducible refine wpL_load W.heap.size 72 (feA x) 4 rowFe (feA_size _) hz ?_ ?_); rfl)
       | (go_at_call 173; refine (HO.out _ hT).mono ?_; rintro e w1 ⟨rfl,hb⟩; replace hz:=hz.on hb; replace hr:=hr.on hb; replace hT:=hT.on hb; replace hB:=below_on hB hb; clear hb)
       | ((with_reducible refine wpL_store w1.heap.size 72 _ (feA vh) 4 rowFe ?_ (feA_size _) (feA_one _) (Lies.new w1 _ _) ?_ ?_ ?_); rfl; rfl; rfl))
     have hy:=newly_lies w1 72 fe0A (feA vh)
     have hnw:=newly w1 (.cells fe0A 72) (feA vh)
     replace hz:=hz.on hnw
     replace hr:=hr.on hnw
     replace hT:=hT.on hnw
     replace hB:=below_on hB hnw
     clear hnw HO
     generalize World.setRow _ _ _ = w2 at *
     generalize w1.heap.size = gh at *
     refine wp_region_made 6 6 _ 72 fe0A rfl rfl (by kernel_rfl) (by kernel_rfl) (alloc_fe rfl) ?_
     simp only [zA8,zAJ,zAA,zAH]
     refine wpQB_fe gh vh hy rfl ?_
     simp only [Act.put,zA0,zA2,zA1]
     refine wpQB_move ?_
     simp only [Act.put,zA0,zA2,zA1]
     refine wpQB_run (.int .i64 (h:Int)) rfl (fun w _ => ?_) ?_
     · simp [go_sem,hq,hq3]
     simp only [Act.put,zA0,zA2,zA1]
     refine wpQB_call 140 #[fe vh,.int .i64 (h:Int)] (fe s) rfl rfl (fun _ => by kernel_rfl) (fun w hb => HS.out w (hT.on hb)) ?_
     simp only [Act.put,zA0,zA2,zA1]
     refine wpQB_fe gh vh hy rfl ?_
     simp only [Act.put,zA0,zA2,zA1]
     refine wpQB_call 94 #[fe s,fe vh] (fe ve) rfl rfl (fun _ => by kernel_rfl) (fun w hb => HM.out w (hT.on hb)) ?_
     simp only [Act.put,zA0,zA2,zA1]
     refine wpQB_nil ?_
     intro k w3 hb hk hy3
     simp only [zA0,zA2,zA1]
     replace hy3:Lies w3 k 72 fe0A:=hy3
     have hzl:=hz.lt
     have hrl:=hr.lt
     replace hz:=(hz.on hb).rowFar (show W.heap.size ≠ k by omega) (feA ve)
     replace hr:=(hr.on hb).rowFar (show W.heap.size + 1 ≠ k by omega) (feA ve)
     replace hB:=below_rowSet (below_on hB hb) (show W.heap.size ≤ k by omega) (feA ve)
     replace hT:=hT0.out.on hB
     have hv:=hy3.row (feA ve)
     clear hb HS HM hy
     go_upto_region 5 with ((with_reducible refine wpL_store k 72 _ (feA ve) 4 rowFe rfl (feA_size _) (feA_one _) hy3 ?_ ?_ ?_); rfl; rfl)
     clear hy3
     generalize World.setRow _ _ _ = w4 at *
     rcases HP.out with ⟨hodd,rfl⟩ | ⟨heven,rfl⟩
     · have ho2:(n:Int) % 2 = 1:=by omega
       go_upto_region 6 with fail
       refine wp_region_plain 4 (by kernel_rfl) (by kernel_rfl) ?_
       simp only [zA8,zAJ,zAA,zAH]
       refine wpQB_fe k ve hv rfl ?_
       simp only [Act.put,zA0,zA2,zA1]
       refine wpQB_call 140 #[fe ve,.int .i64 1] (fe q) rfl rfl (fun _ => by kernel_rfl) (fun w hb => HSt.out w (hT.on hb)) ?_
       simp only [Act.put,zA0,zA2,zA1]
       refine wpQB_fe W.heap.size x hz rfl ?_
       simp only [Act.put,zA0,zA2,zA1]
       refine wpQB_call 94 #[fe q,fe x] (fe vn) rfl rfl (fun _ => by kernel_rfl) (fun w hb => HMo.out w (hT.on hb)) ?_
       simp only [Act.put,zA0,zA2,zA1]
       refine wpQB_nil ?_
       intro w5 hb
       replace hv:=hv.on hb
       replace hr:=hr.on hb
       replace hB:=below_on hB hb
       clear hb
       go_upto_region 7 with ((with_reducible refine wpL_store k 72 _ (feA vn) 4 rowFe (feA_size _) (feA_size _) (feA_one _) hv ?_ ?_ ?_); rfl; rfl)
       replace hv:=hv.row (feA vn)
       replace hr:=hr.rowFar (show W.heap.size + 1 ≠ k by omega) (feA vn)
       replace hB:=below_rowSet hB (show W.heap.size ≤ k by omega) (feA vn)
       generalize World.setRow _ _ _ = w6 at *
       go_wp2_with (first
         | ((with_reducible refine wpL_load k 72 (feA vn) 4 rowFe (feA_size _) hv ?_ ?_); rfl)
         | ((with_reducible refine wpL_store (W.heap.size + 1) 72 _ (feA vn) 4 rowFe rfl (feA_size _) (feA_one _) hr ?_ ?_ ?_); rfl; rfl))
       exact bodyPost_ret (results_row Tryz.results173 rowFe (feA_size _) (hr.row _) rfl) rfl ⟨rfl,below_rowSet hB (zBP _) _⟩
     · have ho2:(n:Int) % 2 = 0:=by omega
       go_wp2_with (first
         | ((with_reducible refine wpL_load k 72 (feA vn) 4 rowFe (feA_size _) hv ?_ ?_); rfl)
         | ((with_reducible refine wpL_store (W.heap.size + 1) 72 _ (feA vn) 4 rowFe rfl (feA_size _) (feA_one _) hr ?_ ?_ ?_); rfl; rfl))
       exact bodyPost_ret (results_row Tryz.results173 rowFe (feA_size _) (hr.row _) rfl) rfl ⟨rfl,below_rowSet hB (zBP _) _⟩
end Go.Proofs.YteecbglmohhaeaaGreatDoor.F
namespace Go.Proofs.YteecbglmohhaeaaGreatDoor.F
open Go.RowKit Go.Sort
attribute [local irreducible] feA
set_option maxHeartbeats 800000 in
theorem power_any (x:Nat) (W:World) (hx:x < K256) (hT:Tab W) :
   Calls Tryz.prog 139 #[fe x] W fun e w' => e = .returned (fe (powN x eP)) ∧ Below W.heap.size W w':=by
 have HO:Hid (∀ w,Tab w → Calls Tryz.prog 173 #[fe x,.int .i64 250] w fun e w' => e = .returned (fe (onesN x 250)) ∧ Below w.heap.size w w'):=Lib.hid (fun w hT => ones_any 250 x w (by decide) (by decide) hx hT)
 have hH:=onesN_lt x 250 hx
 have HS:Hid (∀ w,Tab w → Calls Tryz.prog 140 #[fe (onesN x 250),.int .i64 2] w fun e w' => e = .returned (fe (sqL (onesN x 250) 2)) ∧ Below w.heap.size w w'):=Lib.hid (fun w hT => squared_any (onesN x 250) 2 w hH (by decide) hT)
 have HM:=Lib.hid (fun w hT => mul_any (sqL (onesN x 250) 2) x w (sqL_lt _ 2 hH) hx hT)
 rw [power_eq] at HM
 generalize powN x eP = v at *
 generalize sqL (onesN x 250) 2 = s at *
 generalize onesN x 250 = u at *
 go_enter Tryz.func139,Tryz.ntmps139
 have hz:=(Lies.new W 72 (feA x)).alloc (.cells fe0A 72)
 have hr:Lies ((W.alloc (.cells (feA x) 72)).alloc (.cells fe0A 72)) (W.heap.size + 1) 72 fe0A:=heap_alloc2_new W _ _
 have hB:=((Below.refl W.heap.size W).alloc (zA3 _) (.cells (feA x) 72)).alloc (by simp) (.cells fe0A 72)
 go_upto_region 1 with fail
 generalize World.alloc (World.alloc W _) _ = w0 at *
 replace hT:=hT.on hB
 refine wp_region_plain 5 (by kernel_rfl) (by kernel_rfl) ?_
 simp only [zA8,zAJ,zAA,zAH]
 refine wpQB_fe W.heap.size x hz rfl ?_
 simp only [Act.put,zA0,zA2,zA1]
 refine wpQB_call 173 #[fe x,.int .i64 250] (fe u) rfl rfl (fun _ => by kernel_rfl) (fun w hb => HO.out w (hT.on hb)) ?_
 simp only [Act.put,zA0,zA2,zA1]
 refine wpQB_call 140 #[fe u,.int .i64 2] (fe s) rfl rfl (fun _ => by kernel_rfl) (fun w hb => HS.out w (hT.on hb)) ?_
 simp only [Act.put,zA0,zA2,zA1]
 refine wpQB_fe W.heap.size x hz rfl ?_
 simp only [Act.put,zA0,zA2,zA1]
 refine wpQB_call 94 #[fe s,fe x] (fe v) rfl rfl (fun _ => by kernel_rfl) (fun w hb => HM.out w (hT.on hb)) ?_
 simp only [Act.put,zA0,zA2,zA1]
 refine wpQB_nil ?_
 intro w1 hb
 replace hr:=hr.on hb
 replace hB:=below_on hB hb
 clear hb hT
 go_wp2_with ((with_reducible refine wpL_store (W.heap.size + 1) 72 _ (feA v) 4 rowFe rfl (feA_size _) (feA_one _) hr ?_ ?_ ?_); rfl; rfl)
 exact bodyPost_ret (results_row Tryz.results139 rowFe (feA_size _) (hr.row _) rfl) rfl ⟨rfl,below_rowSet hB (zBP _) _⟩
set_option maxHeartbeats 800000 in
theorem inv_any (x:Nat) (W:World) (hx:x < K256) (hT:Tab W) :
   Calls Tryz.prog 99 #[fe x] W fun e w' => e = .returned (fe (invN x)) ∧ Below W.heap.size W w':=by
 have HP:=Lib.hid (fun w hT => power_any x w hx hT)
 have hP:=below_K (powN_lt x eP)
 have HS3:Hid (∀ w,Tab w → Calls Tryz.prog 140 #[fe (powN x eP),.int .i64 3] w fun e w' => e = .returned (fe (sqL (powN x eP) 3)) ∧ Below w.heap.size w w'):=Lib.hid (fun w hT => squared_any (powN x eP) 3 w hP (by decide) hT)
 have HS1:Hid (∀ w,Tab w → Calls Tryz.prog 140 #[fe x,.int .i64 1] w fun e w' => e = .returned (fe (sqL x 1)) ∧ Below w.heap.size w w'):=Lib.hid (fun w hT => squared_any x 1 w hx (by decide) hT)
 have HM1:=Lib.hid (fun w hT => mul_any x (sqL x 1) w hx (sqL_lt x 1 hx) hT)
 have HM2:=Lib.hid (fun w hT => mul_any (sqL (powN x eP) 3) (x * sqL x 1 % p25) w (sqL_lt _ 3 hP) (mod_K _) hT)
 rw [inv_eq] at HM2
 generalize invN x = v at *
 generalize x * sqL x 1 % p25 = m at *
 generalize sqL (powN x eP) 3 = s3 at *
 generalize sqL x 1 = s1 at *
 generalize powN x eP = p at *
 go_enter Tryz.func99,Tryz.ntmps99
 have hz:=(Lies.new W 72 (feA x)).alloc (.cells fe0A 72)
 have hr:Lies ((W.alloc (.cells (feA x) 72)).alloc (.cells fe0A 72)) (W.heap.size + 1) 72 fe0A:=heap_alloc2_new W _ _
 have hB:=((Below.refl W.heap.size W).alloc (zA3 _) (.cells (feA x) 72)).alloc (by simp) (.cells fe0A 72)
 go_upto_region 1 with fail
 generalize World.alloc (World.alloc W _) _ = w0 at *
 replace hT:=hT.on hB
 refine wp_region_plain 8 (by kernel_rfl) (by kernel_rfl) ?_
 simp only [zA8,zAJ,zAA,zAH]
 refine wpQB_fe W.heap.size x hz rfl ?_
 simp only [Act.put,zA0,zA2,zA1]
 refine wpQB_call 139 #[fe x] (fe p) rfl rfl (fun _ => by kernel_rfl) (fun w hb => HP.out w (hT.on hb)) ?_
 simp only [Act.put,zA0,zA2,zA1]
 refine wpQB_call 140 #[fe p,.int .i64 3] (fe s3) rfl rfl (fun _ => by kernel_rfl) (fun w hb => HS3.out w (hT.on hb)) ?_
 simp only [Act.put,zA0,zA2,zA1]
 refine wpQB_fe W.heap.size x hz rfl ?_
 simp only [Act.put,zA0,zA2,zA1]
 refine wpQB_fe W.heap.size x hz rfl ?_
 simp only [Act.put,zA0,zA2,zA1]
 refine wpQB_call 140 #[fe x,.int .i64 1] (fe s1) rfl rfl (fun _ => by kernel_rfl) (fun w hb => HS1.out w (hT.on hb)) ?_
 simp only [Act.put,zA0,zA2,zA1]
 refine wpQB_call 94 #[fe x,fe s1] (fe m) rfl rfl (fun _ => by kernel_rfl) (fun w hb => HM1.out w (hT.on hb)) ?_
 simp only [Act.put,zA0,zA2,zA1]
 refine wpQB_call 94 #[fe s3,fe m] (fe v) rfl rfl (fun _ => by kernel_rfl) (fun w hb => HM2.out w (hT.on hb)) ?_
 simp only [Act.put,zA0,zA2,zA1]
 refine wpQB_nil ?_
 intro w1 hb
 replace hr:=hr.on hb
 replace hB:=below_on hB hb
 clear hb hT
 go_wp2_with ((with_reducible refine wpL_store (W.heap.size + 1) 72 _ (feA v) 4 rowFe rfl (feA_size _) (feA_one _) hr ?_ ?_ ?_); rfl; rfl)
 exact bodyPost_ret (results_row Tryz.results99 rowFe (feA_size _) (hr.row _) rfl) rfl ⟨rfl,below_rowSet hB (zBP _) _⟩
end Go.Proofs.YteecbglmohhaeaaGreatDoor.F
namespace Go.Proofs.YteecbglmohhaeaaGreatDoor.F
open Go.RowKit Go.Sort
attribute [local irreducible] feA
theorem fe0A_one:Ones fe0A:=by unfold Ones; simp [Value.oneCell']
theorem neq_exec {o:Oper} {a:Act} {x y:Operand} {r:TypeId} (ho:o.op = .binOp .neq 72 x y r) (m n:Nat) (hm:m < K256) (hn:n < K256) (hx:a.eval x = fe m) (hy:a.eval y = fe n) (w:World) :
   (execOp a.eval o).run Tryz.prog w = .ok (.value (.bool (!decide (m = n)))) w:=by
 unfold execOp
 simp only [ho,hx,hy,Sem.run_bind,run_eqGuard_agg (hm:=Tryz.eqGuardType72),Result.andThen_ok,neq_fe m n hm hn,Sem.run_pure]
theorem sqrt_cases (x:Nat) :
   (rootC x * rootC x % p25 = x % p25 ∧ sqrtR x = evN (rootC x) ∧ sqrtB x = true) ∨
   (rootC x * rootC x % p25 ≠ x % p25 ∧ rootD x * rootD x % p25 = x % p25 ∧ sqrtR x = evN (rootD x) ∧ sqrtB x = true) ∨
   (rootC x * rootC x % p25 ≠ x % p25 ∧ rootD x * rootD x % p25 ≠ x % p25 ∧ sqrtR x = 0 ∧ sqrtB x = false):=by
 unfold sqrtR sqrtB
 by_cases h1:rootC x * rootC x % p25 = x % p25
 · left
   rw [if_pos h1,decide_eq_true h1]
   exact ⟨h1,rfl,rfl⟩
 · by_cases h2:rootD x * rootD x % p25 = x % p25
   · right; left
     rw [if_neg h1,if_pos h2,decide_eq_true h2,Bool.or_true]
     exact ⟨h1,h2,rfl,rfl⟩
   · right; right
     rw [if_neg h1,if_neg h2,decide_eq_false h1,decide_eq_false h2]
     exact ⟨h1,h2,rfl,rfl⟩
set_option maxHeartbeats 1600000 in
theorem sqrt_any (x:Nat) (W:World) (hx:x < K256) (hT:Tab2 W) :
   Calls Tryz.prog 98 #[fe x] W fun e w' => e = .returned (.tuple #[fe (sqrtR x),.bool (sqrtB x)]) ∧ Below W.heap.size W w':=by
 have hT0:=Lib.hid hT
 have HP:=Lib.hid (fun w hT => power_any x w hx hT)
 have HMC:Hid (∀ w,Tab w → Calls Tryz.prog 94 #[fe x,fe (powN x eP)] w fun e w' => e = .returned (fe (rootC x)) ∧ Below w.heap.size w w'):=Lib.hid (fun w hT => mul_any x (powN x eP) w hx (below_K (powN_lt _ _)) hT)
 have HSC:Hid (∀ w,Tab w → Calls Tryz.prog 140 #[fe (rootC x),.int .i64 1] w fun e w' => e = .returned (fe (rootC x * rootC x % p25)) ∧ Below w.heap.size w w'):=Lib.hid (fun w hT => by rw [← sqL_one]; exact squared_any (rootC x) 1 w (below_K (rootC_lt x)) (by decide) hT)
 have HL:=Lib.hid (fun w hT => least_any x w hx hT)
 have HMD:Hid (∀ w,Tab w → Calls Tryz.prog 94 #[fe (rootC x),fe i25] w fun e w' => e = .returned (fe (rootD x)) ∧ Below w.heap.size w w'):=Lib.hid (fun w hT => mul_any (rootC x) i25 w (below_K (rootC_lt x)) (by decide) hT)
 have HSD:Hid (∀ w,Tab w → Calls Tryz.prog 140 #[fe (rootD x),.int .i64 1] w fun e w' => e = .returned (fe (rootD x * rootD x % p25)) ∧ Below w.heap.size w w'):=Lib.hid (fun w hT => by rw [← sqL_one]; exact squared_any (rootD x) 1 w (below_K (rootD_lt x)) (by decide) hT)
 have HEC:=Lib.hid (fun w hT => even_any (rootC x) w (rootC_lt x) hT)
 have HED:=Lib.hid (fun w hT => even_any (rootD x) w (rootD_lt x) hT)
 have hcase:=sqrt_cases x
 have hCC:=mod_K (rootC x * rootC x)
 have hDD:=mod_K (rootD x * rootD x)
 have hE:=mod_K x
 obtain ⟨vi,hvi⟩:∃ vi,i25 = vi:=⟨_,rfl⟩
 have hTR:Hid (∀ w,Tab2 w → w.rangeAt 7 0 (feA vi).toList):=Lib.hid (fun w h => by rw [← hvi]; exact h.2.root)
 rw [hvi] at HMD
 clear hvi hT hx
 generalize sqrtR x = R at *
 generalize sqrtB x = B at *
 generalize rootD x * rootD x % p25 = DD at *
 generalize rootC x * rootC x % p25 = CC at *
 generalize evN (rootC x) = eC at *
 generalize evN (rootD x) = eD at *
 generalize x % p25 = E at *
 generalize powN x eP = p at *
 generalize rootC x = C at *
 generalize rootD x = D at *
 go_enter Tryz.func98,Tryz.ntmps98
 have hz:=(Lies.new W 72 (feA x)).alloc (.cells fe0A 72)
 have hr:Lies ((W.alloc (.cells (feA x) 72)).alloc (.cells fe0A 72)) (W.heap.size + 1) 72 fe0A:=heap_alloc2_new W _ _
 have hB:=((Below.refl W.heap.size W).alloc (zA3 _) (.cells (feA x) 72)).alloc (by simp) (.cells fe0A 72)
 go_upto_region 1 with fail
 generalize World.alloc (World.alloc W _) _ = w0 at *
 have hT:=(hT0.out.on hB).1
 refine wp_region_made 4 4 _ 72 fe0A rfl rfl (by kernel_rfl) (by kernel_rfl) (alloc_fe rfl) ?_
 simp only [zA8,zAJ,zAA,zAH]
 refine wpQB_fe W.heap.size x hz rfl ?_
 simp only [Act.put,zA0,zA2,zA1]
 refine wpQB_fe W.heap.size x hz rfl ?_
 simp only [Act.put,zA0,zA2,zA1]
 refine wpQB_call 139 #[fe x] (fe p) rfl rfl (fun _ => by kernel_rfl) (fun w hb => HP.out w (hT.on hb)) ?_
 simp only [Act.put,zA0,zA2,zA1]
 refine wpQB_call 94 #[fe x,fe p] (fe C) rfl rfl (fun _ => by kernel_rfl) (fun w hb => HMC.out w (hT.on hb)) ?_
 simp only [Act.put,zA0,zA2,zA1]
 refine wpQB_nil ?_
 intro k w3 hb hk hy3
 simp only [zA0,zA2,zA1]
 replace hy3:Lies w3 k 72 fe0A:=hy3
 have hzl:=hz.lt
 have hrl:=hr.lt
 replace hz:=(hz.on hb).rowFar (show W.heap.size ≠ k by omega) (feA C)
 replace hr:=(hr.on hb).rowFar (show W.heap.size + 1 ≠ k by omega) (feA C)
 replace hB:=below_rowSet (below_on hB hb) (show W.heap.size ≤ k by omega) (feA C)
 have hv:=hy3.row (feA C)
 clear hb HP HMC hT
 go_upto_region 2 with ((with_reducible refine wpL_store k 72 _ (feA C) 4 rowFe rfl (feA_size _) (feA_one _) hy3 ?_ ?_ ?_); rfl; rfl)
 clear hy3
 generalize World.setRow _ _ _ = w4 at *
 have hT:=(hT0.out.on hB).1
 refine wp_region_all (by kernel_rfl) (by kernel_rfl) ?_
 refine wpQB_fe k C hv rfl ?_
 simp only [Act.put,zA0,zA2,zA1]
 refine wpQB_call 140 #[fe C,.int .i64 1] (fe CC) rfl rfl (fun _ => by kernel_rfl) (fun w hb => HSC.out w (hT.on hb)) ?_
 simp only [Act.put,zA0,zA2,zA1]
 refine wpQB_fe W.heap.size x hz rfl ?_
 simp only [Act.put,zA0,zA2,zA1]
 refine wpQB_call 93 #[fe x] (fe E) rfl rfl (fun _ => by kernel_rfl) (fun w hb => HL.out w (hT.on hb)) ?_
 simp only [Act.put,zA0,zA2,zA1]
 refine wpQB_run (.bool (!decide (CC = E))) rfl (fun w _ => neq_exec rfl CC E hCC hE rfl rfl w) ?_
 simp only [Act.put,zA0,zA2,zA1]
 refine wpQB_nil ?_
 intro w5 hb
 replace hv:=hv.on hb
 replace hz:=hz.on hb
 replace hr:=hr.on hb
 replace hB:=below_on hB hb
 clear hb hT
 rcases hcase with ⟨hC,rfl,rfl⟩ | hcase
 · rw [decide_eq_true hC]
   subst hC
   have hT:=(hT0.out.on hB).1
   go_upto_region 4 with fail
   refine wp_region_all (by kernel_rfl) (by kernel_rfl) ?_
   refine wpQB_fe k C hv rfl ?_
   simp only [Act.put,zA0,zA2,zA1]
   refine wpQB_call 140 #[fe C,.int .i64 1] (fe CC) rfl rfl (fun _ => by kernel_rfl) (fun w hb => HSC.out w (hT.on hb)) ?_
   simp only [Act.put,zA0,zA2,zA1]
   refine wpQB_fe W.heap.size x hz rfl ?_
   simp only [Act.put,zA0,zA2,zA1]
   refine wpQB_call 93 #[fe x] (fe CC) rfl rfl (fun _ => by kernel_rfl) (fun w hb => HL.out w (hT.on hb)) ?_
   simp only [Act.put,zA0,zA2,zA1]
   refine wpQB_run (.bool false) rfl (fun w _ => (neq_exec rfl CC CC hCC hCC rfl rfl w).trans (by rw [decide_eq_true rfl]; rfl)) ?_
   simp only [Act.put,zA0,zA2,zA1]
   refine wpQB_nil ?_
   intro w6 hb
   replace hv:=hv.on hb
   replace hr:=hr.on hb
   replace hT:=hT.on hb
   replace hB:=below_on hB hb
   clear hb
   go_wp2_with (first
     | ((with_reducible refine wpL_load k 72 (feA C) 4 rowFe (feA_size _) hv ?_ ?_); rfl)
     | (go_at_call 141; refine (HEC.out _ hT).mono ?_; rintro e w7 ⟨rfl,hb⟩; replace hr:=hr.on hb; replace hB:=below_on hB hb; clear hb)
     | ((with_reducible refine wpL_store (W.heap.size + 1) 72 _ (feA R) 4 rowFe rfl (feA_size _) (feA_one _) hr ?_ ?_ ?_); rfl; rfl))
   exact bodyPost_ret (results_row_tmp Tryz.results98 rowFe (feA_size _) (hr.row _) rfl rfl) rfl ⟨rfl,below_rowSet hB (zBP _) _⟩
 · have hC:CC ≠ E:=by rcases hcase with h | h <;> exact h.1
   have HCase:Hid ((DD = E ∧ R = eD ∧ B = true) ∨ (DD ≠ E ∧ R = 0 ∧ B = false)):=Lib.hid (by rcases hcase with h | h; exact .inl h.2; exact .inr h.2)
   rw [decide_eq_false hC]
   clear hcase hC HSC HEC
   have hT:=(hT0.out.on hB).1
   have hG:=hTR.out _ (hT0.out.on hB)
   go_upto_region 4 with (first
     | ((with_reducible refine wpL_load k 72 (feA C) 4 rowFe (feA_size _) hv ?_ ?_); rfl)
     | ((with_reducible refine wpL_loadGlobal 7 0 (feA vi).toList 4 rowFe (by rw [zAC]; exact feA_size _) hG ?_ ?_); rfl; rw [zAK])
     | (go_at_call 94; refine (HMD.out _ hT).mono ?_; rintro e w6 ⟨rfl,hb⟩; replace hv:=hv.on hb; replace hz:=hz.on hb; replace hr:=hr.on hb; replace hB:=below_on hB hb; clear hb)
     | ((with_reducible refine wpL_store k 72 _ (feA D) 4 rowFe (feA_size _) (feA_size _) (feA_one _) hv ?_ ?_ ?_); rfl; rfl))
   clear hT hG
   replace hv:=hv.row (feA D)
   replace hz:=hz.rowFar (show W.heap.size ≠ k by omega) (feA D)
   replace hr:=hr.rowFar (show W.heap.size + 1 ≠ k by omega) (feA D)
   replace hB:=below_rowSet hB (show W.heap.size ≤ k by omega) (feA D)
   generalize World.setRow _ _ _ = w7 at *
   have hT:=(hT0.out.on hB).1
   refine wp_region_all (by kernel_rfl) (by kernel_rfl) ?_
   refine wpQB_fe k D hv rfl ?_
   simp only [Act.put,zA0,zA2,zA1]
   refine wpQB_call 140 #[fe D,.int .i64 1] (fe DD) rfl rfl (fun _ => by kernel_rfl) (fun w hb => HSD.out w (hT.on hb)) ?_
   simp only [Act.put,zA0,zA2,zA1]
   refine wpQB_fe W.heap.size x hz rfl ?_
   simp only [Act.put,zA0,zA2,zA1]
   refine wpQB_call 93 #[fe x] (fe E) rfl rfl (fun _ => by kernel_rfl) (fun w hb => HL.out w (hT.on hb)) ?_
   simp only [Act.put,zA0,zA2,zA1]
   refine wpQB_run (.bool (!decide (DD = E))) rfl (fun w _ => neq_exec rfl DD E hDD hE rfl rfl w) ?_
   simp only [Act.put,zA0,zA2,zA1]
   refine wpQB_nil ?_
   intro w8 hb
   replace hv:=hv.on hb
   replace hr:=hr.on hb
   replace hT:=hT.on hb
   replace hB:=below_on hB hb
   clear hb
   rcases HCase.out with ⟨hD,rfl,rfl⟩ | ⟨hD,rfl,rfl⟩
   · rw [decide_eq_true hD]
     clear hD
     go_wp2_with (first
       | ((with_reducible refine wpL_load k 72 (feA D) 4 rowFe (feA_size _) hv ?_ ?_); rfl)
       | (go_at_call 141; refine (HED.out _ hT).mono ?_; rintro e w9 ⟨rfl,hb⟩; replace hr:=hr.on hb; replace hB:=below_on hB hb; clear hb)
       | ((with_reducible refine wpL_store (W.heap.size + 1) 72 _ (feA R) 4 rowFe rfl (feA_size _) (feA_one _) hr ?_ ?_ ?_); rfl; rfl))
     exact bodyPost_ret (results_row_tmp Tryz.results98 rowFe (feA_size _) (hr.row _) rfl rfl) rfl ⟨rfl,below_rowSet hB (zBP _) _⟩
   · rw [decide_eq_false hD]
     clear hD
     go_wp2_with ((with_reducible refine wpL_store (W.heap.size + 1) 72 _ fe0A 4 rowFe rfl rfl fe0A_one hr ?_ ?_ ?_); rfl; rfl)
     exact bodyPost_ret (results_row_tmp Tryz.results98 rowFe rfl (hr.row fe0A) rfl rfl) rfl ⟨by rw [fe_word 0 (by decide)]; rfl,below_rowSet hB (zBP _) _⟩
end Go.Proofs.YteecbglmohhaeaaGreatDoor.F
namespace Go.Proofs.YteecbglmohhaeaaGreatDoor.C
open Go.RowKit Go.Sort Go.Proofs.YteecbglmohhaeaaGreatDoor.F
def ptA (u:N4):Array Value:=feA u.X ++ feA u.Y ++ feA u.Z ++ feA u.T
abbrev pt (u:N4):Value:=.agg (ptA u)
def afA (x y:Nat):Array Value:=feA x ++ feA y
abbrev af (x y:Nat):Value:=.agg (afA x y)
theorem ptA_size (u:N4):(ptA u).size = 16:=rfl
theorem afA_size (x y:Nat):(afA x y).size = 8:=rfl
theorem ones_append {a b:Array Value} (ha:Ones a) (hb:Ones b):Ones (a ++ b):=by
 unfold Ones at *
 rw [Array.all_append,ha,hb]
 rfl
theorem ptA_one (u:N4):Ones (ptA u):=ones_append (ones_append (ones_append (feA_one _) (feA_one _)) (feA_one _)) (feA_one _)
theorem afA_one (x y:Nat):Ones (afA x y):=ones_append (feA_one _) (feA_one _)
theorem rowPt:RowT Tryz.prog 74 16:=⟨⟨_,Tryz.underlying74,rfl⟩,by kernel_rfl⟩
theorem rowAf:RowT Tryz.prog 124 8:=⟨⟨_,Tryz.underlying124,rfl⟩,by kernel_rfl⟩
attribute [local irreducible] feA
theorem range_app {w:World} {g t o:Nat} {a b c:Array Value} (ho:a.size = o) (h:Lies w g t (a ++ b ++ c)):w.rangeAt g o b.toList:=fun j v hv => by
 subst ho
 have hj:j < b.size:=by have:=(List.getElem?_eq_some_iff.1 hv).1; rwa [zAC] at this
 rw [h.cell,Array.getElem?_append_left (by rw [Array.size_append]; omega),Array.getElem?_append_right (by omega),show a.size + j - a.size = j by omega]
 rwa [Array.getElem?_toList] at hv
section
variable {w:World} {g t:Nat}
theorem pt_X {u:N4} (h:Lies w g t (ptA u)):w.rangeAt g 0 (feA u.X).toList:=
 range_app (a:=#[]) (c:=feA u.Y ++ feA u.Z ++ feA u.T) rfl (by unfold ptA at h; rw [Array.empty_append,← Array.append_assoc,← Array.append_assoc]; exact h)
theorem pt_Y {u:N4} (h:Lies w g t (ptA u)):w.rangeAt g 4 (feA u.Y).toList:=
 range_app (a:=feA u.X) (c:=feA u.Z ++ feA u.T) (feA_size _) (by unfold ptA at h; rw [← Array.append_assoc]; exact h)
theorem pt_Z {u:N4} (h:Lies w g t (ptA u)):w.rangeAt g 8 (feA u.Z).toList:=
 range_app (a:=feA u.X ++ feA u.Y) (c:=feA u.T) (by simp [feA_size]) h
theorem pt_T {u:N4} (h:Lies w g t (ptA u)):w.rangeAt g 12 (feA u.T).toList:=
 range_app (a:=feA u.X ++ feA u.Y ++ feA u.Z) (c:=#[]) (by simp [feA_size]) (by rw [Array.append_empty]; exact h)
theorem af_X {x y:Nat} (h:Lies w g t (afA x y)):w.rangeAt g 0 (feA x).toList:=
 range_app (a:=#[]) (c:=feA y) rfl (by rw [Array.empty_append]; exact h)
theorem af_Y {x y:Nat} (h:Lies w g t (afA x y)):w.rangeAt g 4 (feA y).toList:=
 range_app (a:=feA x) (c:=#[]) (feA_size _) (by rw [Array.append_empty]; exact h)
end
section
variable {w0:World} {Q:Act → Prop} {a:Act} {rest:List Oper} {t':TypeId} {pos:String} {after:Array Edge} {d:Option Tmp} {x:Operand}
theorem wpQB_mid (g o n:Nat) (hr:w0.rangeAt g o (feA n).toList) (hx:a.eval x = .pointer (some ⟨g,o,none⟩)) (h:wpQB Tryz.prog w0 Q rest (a.put d (fe n))):wpQB Tryz.prog w0 Q (⟨d,.load 72 x,t',pos,after,none⟩ :: rest) a:=
 wpQB_run (fe n) rfl (fun w hw => by
   have hr':w.rangeAt g o (feA n).toList:=fun j v hv => by
     have h1:=hr j v hv
     exact (hw.cell (p:=⟨g,o + j,none⟩) (World.block_lt_of_cell? w0 _ h1)).trans h1
   unfold execOp
   simp only [hx,Instr.loadAt,Instr.sureAddr,Sem.run_bind,Sem.run_pure,Result.andThen_ok,run_loadVar_mid w g o 72 (feA n).toList _ hr' Tryz.underlying72 rfl (by rw [zAC,feA_size]; exact rowFe.2),zAK]) h
theorem wpQB_pt (g:Nat) (u:N4) (hz:Lies w0 g 74 (ptA u)) (hx:a.eval x = .pointer (some ⟨g,0,none⟩))
   (h:wpQB Tryz.prog w0 Q rest (a.put d (pt u))):wpQB Tryz.prog w0 Q (⟨d,.load 74 x,t',pos,after,none⟩ :: rest) a:=
 wpQB_load g 74 (ptA u) _ Tryz.underlying74 rfl (by rw [ptA_size]; exact rowPt.2) hz hx h
end
theorem d_val:(0 + (p25 - 121665 % p25)) % p25 * invN 121666 % p25 = dN:=by
 refine z_inj (zAO _ p25_pos) (by decide) ?_
 have hne:z 121666 ≠ 0:=z_ne (by decide) (by decide)
 have hi:=zinv_mul hne
 have hd:z dN * z 121666 = - z 121665:=by
   rw [← z_mul,← z_neg]
   exact z_iff.2 (by rw [dN_is]; decide)
 rw [z_mod,z_mul,z_mod,zAQ,z_neg,z_inv,← hd]
 grind
end Go.Proofs.YteecbglmohhaeaaGreatDoor.C
namespace Go.Proofs.YteecbglmohhaeaaGreatDoor.C
open Go.RowKit Go.Proofs.YteecbglmohhaeaaGreatDoor.F
def VarN (g n:Nat) (w:World):Prop:=∀ i,i < 4 → w.cell? ⟨g,i,none⟩ = some (w64 (wordN n i))
theorem VarN.on {g n:Nat} {w w':World} (h:VarN g n w) (hb:Below w.heap.size w w'):VarN g n w':=fun i hi => by
 have h1:=h i hi
 exact (hb.cell (p:=⟨g,i,none⟩) (World.block_lt_of_cell? w _ h1)).trans h1
theorem VarN.root {g n:Nat} {w:World} (h:VarN g n w):w.rangeAt g 0 (feA n).toList:=fun j v hv => by
 rw [zAQ]
 rw [feA_words] at hv
 match j,hv with
 | 0,hv | 1,hv | 2,hv | 3,hv => exact (h _ (by decide)).trans hv
def PtTab (w:World):Prop:=Tab w ∧ VarN 1 dN w ∧ VarN 4 bxN w ∧ VarN 5 byN w
theorem PtTab.on {w w':World} (h:PtTab w) (hb:Below w.heap.size w w'):PtTab w':=⟨h.1.on hb,h.2.1.on hb,h.2.2.1.on hb,h.2.2.2.on hb⟩
theorem PtTab.f {w:World} (h:PtTab w):Tab w:=h.1
def PtTab2 (w:World):Prop:=PtTab w ∧ TabR w
theorem PtTab2.on {w w':World} (h:PtTab2 w) (hb:Below w.heap.size w w'):PtTab2 w':=⟨h.1.on hb,h.2.on hb⟩
theorem PtTab2.f2 {w:World} (h:PtTab2 w):Tab2 w:=⟨h.1.1,h.2⟩
end Go.Proofs.YteecbglmohhaeaaGreatDoor.C
namespace Go.Proofs.YteecbglmohhaeaaGreatDoor
open Go.Sort Go.RowKit
section
variable {P:Program} {w0:World}
abbrev Gr (w0:World):World → Prop:=fun w => Below w0.heap.size w0 w
theorem wp_region_all_g {id:Nat} {Q:Exit → Act → World → Prop} {a:Act} {w:World} {l:List Oper} (hm:P.follows .mixedOrders = true) (hB:Region.lexB .any l.toArray = true)
   (h:wpQuiet P l.toArray (Gr w) (fun a' => ∀ w',Below w.heap.size w w' → Q .normal a' w') l a):(Code.region id l.toArray true).wp P Q a w:=
 wp_region_quiet (C:=Gr w) hm hB (Below.refl w.heap.size w).drew h
variable {ops:Array Oper} {Q:Act → Prop} {a:Act} {rest:List Oper} {t':TypeId} {pos:String} {after:Array Edge} {gd:Option (Nat × Bool)}
theorem wpQg_run {o:Oper} (v:Value) (hg:Region.wanted o (yielded ops a.tmps) = true) (hr:∀ w,Below w0.heap.size w0 w → (execOp a.eval o).run P w = .ok (.value v) w) (h:wpQuiet P ops (Gr w0) Q rest (a.put o.dst v)):wpQuiet P ops (Gr w0) Q (o :: rest) a:=by
 unfold wpQuiet
 rw [if_pos hg]
 exact ⟨v,fun w hw => by unfold Oper.quietAt; rw [hr w hw]; exact ⟨rfl,rfl⟩,h⟩
theorem wpQg_skip {o:Oper} (hg:Region.wanted o (yielded ops a.tmps) = false) (h:wpQuiet P ops (Gr w0) Q rest (a.put o.dst undef)):wpQuiet P ops (Gr w0) Q (o :: rest) a:=by
 unfold wpQuiet
 rw [if_neg (by rw [hg]; decide)]
 exact h
theorem wpQg_load {d:Option Tmp} {x:Operand} {ty:TypeId} (g:Nat) (t:TypeId) (cs:Array Value) (ds:TypeDesc) (hu:P.underlying ty = some ds) (hd:(match ds with | .struct _ | .array _ _ => true | _ => false) = true) (hi:(P.info? ty).map (·.size) = some cs.size)
   (hg:w0.heap[g]? = some (.cells cs t (0,0))) (hx:a.eval x = .pointer (some ⟨g,0,none⟩)) (hw:Region.wanted ⟨d,.load ty x,t',pos,after,gd⟩ (yielded ops a.tmps) = true) (h:wpQuiet P ops (Gr w0) Q rest (a.put d (.agg cs))):wpQuiet P ops (Gr w0) Q (⟨d,.load ty x,t',pos,after,gd⟩ :: rest) a:=
 wpQg_run _ hw (fun w hw => by
   have hlt:g < w0.heap.size:=by
     rcases zBD g w0.heap.size with h | h
     · exact h
     · rw [zBR h] at hg; cases hg
   have hg':w.heap[g]? = some (.cells cs t (0,0)):=(hw.block g hlt).trans hg
   unfold execOp
   simp only [hx,Instr.loadAt,Instr.sureAddr,Sem.run_bind,Sem.run_pure,Result.andThen_ok,run_loadVar_row w g t ty cs (0,0) ds hg' hu hd hi]) h
theorem wpQg_call {d:Option Tmp} {o:Oper} (f:FuncId) (args:Array Value) (v:Value) (hd:o.dst = d) (hg:Region.wanted o (yielded ops a.tmps) = true) (hr:∀ w,(execOp a.eval o).run P w = .ok (.enter f args) w)
   (hc:∀ w,Below w0.heap.size w0 w → Calls P f args w fun e w' => e = .returned v ∧ Below w.heap.size w w') (h:wpQuiet P ops (Gr w0) Q rest (a.put d v)):wpQuiet P ops (Gr w0) Q (o :: rest) a:=by
 subst hd
 unfold wpQuiet
 rw [if_pos hg]
 exact ⟨v,fun w hw => by unfold Oper.quietAt; rw [hr w]; exact ⟨rfl,(hc w hw).mono fun e w' ⟨h1,h2⟩ => ⟨h1,hw.trans (h2.mono hw.size)⟩⟩,h⟩
end
end Go.Proofs.YteecbglmohhaeaaGreatDoor
namespace Go.Proofs.YteecbglmohhaeaaGreatDoor.C
open Go.RowKit Go.Sort Go.Proofs.YteecbglmohhaeaaGreatDoor.F
structure N4.Lt (u:N4):Prop where
 X:u.X < K256
 Y:u.Y < K256
 Z:u.Z < K256
 T:u.T < K256
theorem p_K:p25 < K256:=by decide
theorem Pn.lt {u:N4} {P:Pt} (h:Pn u P):u.Lt:=⟨zCI h.lX p_K,zCI h.lY p_K,zCI h.lZ p_K,zCI h.lT p_K⟩
def N4.of (u:N4):Pt:=⟨z (u.X * invN u.Z % p25),z (u.Y * invN u.Z % p25)⟩
theorem Pn.of {u:N4} {P:Pt} (h:Pn u P):u.of = P:=by
 obtain ⟨a,b⟩:=h.affine
 unfold N4.of
 rw [a,b,z_back,z_back]
theorem Pn.right {u:N4} {P:Pt} (h:Pn u P):u.right = true:=(right_iff u).2 ⟨P,h⟩
def ptEq (P Q:Pt):Bool:=decide (P.x = Q.x) && decide (P.y = Q.y)
theorem ptEq_iff (P Q:Pt):ptEq P Q = true ↔ P = Q:=by
 unfold ptEq
 rw [zAI,decide_eq_true_iff,decide_eq_true_iff]
 exact ⟨fun h => Pt.same h.1 h.2,fun h => by rw [h]; exact ⟨rfl,rfl⟩⟩
def zeroN:N4:=⟨0,1,1,0⟩
def baseN:N4:=⟨bxN,byN,1,bxN * byN % p25⟩
def noneN:N4:=⟨0,0,0,0⟩
theorem zero_pn:Pn zeroN Pt.zero:=⟨by decide,by decide,by decide,by decide,by rw [show z zeroN.X = 0 from z_zero,show z zeroN.Y = 1 from z_one,show z zeroN.Z = 1 from z_one]; exact Rep.zero,by
 rw [show z zeroN.X = 0 from z_zero,show z zeroN.Y = 1 from z_one,show z zeroN.Z = 1 from z_one,show z zeroN.T = 0 from z_zero]; grind,Pt.zero_on⟩
theorem one_pn {x y:Nat} (hx:x < p25) (hy:y < p25) (h:On (z x) (z y)):Pn ⟨x,y,1,x * y % p25⟩ ⟨z x,z y⟩:=⟨hx,hy,(show 1 < p25 by decide),zAO _ p25_pos,by
 show Rep (z x) (z y) (z 1) ⟨z x,z y⟩
 rw [z_one]
 exact Rep.one ⟨z x,z y⟩,by
 show z x * z y = z 1 * z (x * y % p25)
 rw [z_mod,z_mul,z_one]
 grind,h⟩
theorem base_pn:Pn baseN Bp:=one_pn (by decide) (by decide) Bp_on
abbrev two255:Nat:=57896044618658097711785492504343953926634992332820282019728792003956564819968
def textN (P:Pt):ByteArray:=⟨(leL (P.y.val + two255 * (P.x.val % 2)) 32).toArray⟩
def parseB (y:Nat) (odd:Bool):Bool:=decide (y < p25) && xB y && !(odd && decide (xE y = 0))
def parseN (y:Nat) (odd:Bool):N4:=⟨xOf y odd,y,1,xOf y odd * y % p25⟩
theorem parse_pn {y:Nat} {odd:Bool} (h:parseB y odd = true):Pn (parseN y odd) ⟨z (xOf y odd),z y⟩:=by
 unfold parseB at h
 simp only [zAI,decide_eq_true_eq] at h
 exact one_pn (xOf_lt y odd) h.1.1 (xOf_on h.1.2 odd)
section
variable {w0:World} {ops:Array Oper} {Q:Act → Prop} {a:Act} {rest:List Oper} {t':TypeId} {pos:String} {after:Array Edge} {gd:Option (Nat × Bool)} {d:Option Tmp} {x:Operand}
end
structure PointOk:Prop where
 zero:∀ (w:World),PtTab w → Calls Tryz.prog 143 #[] w fun e w' => e = .returned (pt zeroN) ∧ Below w.heap.size w w'
 base:∀ (w:World),PtTab w → Calls Tryz.prog 89 #[] w fun e w' => e = .returned (pt baseN) ∧ Below w.heap.size w w'
 add:∃ f:N4 → N4 → N4,(∀ u v P Q,Pn u P → Pn v Q → Pn (f u v) (P.add Q)) ∧ ∀ (u v:N4) (w:World),u.Lt → v.Lt → PtTab w → Calls Tryz.prog 66 #[pt u,pt v] w fun e w' =>
   e = .returned (if (u.right && v.right) = true then .tuple #[pt (f u v),.int .i64 0] else .tuple #[pt noneN,.int .i64 1]) ∧ Below w.heap.size w w'
 neg:∃ f:N4 → N4,(∀ u P,Pn u P → Pn (f u) P.neg) ∧ ∀ (u:N4) (w:World),u.Lt → PtTab w → Calls Tryz.prog 65 #[pt u] w fun e w' =>
   e = .returned (if u.right = true then .tuple #[pt (f u),.int .i64 0] else .tuple #[pt noneN,.int .i64 1]) ∧ Below w.heap.size w w'
 mul:∃ f:Nat → N4 → N4,(∀ n u P,n < K256 → Pn u P → Pn (f n u) (P.smul n)) ∧ ∀ (n:Nat) (u:N4) (w:World),n < K256 → u.Lt → PtTab w → Calls Tryz.prog 64 #[fe n,pt u] w fun e w' =>
   e = .returned (if u.right = true then .tuple #[pt (f n u),.int .i64 0] else .tuple #[pt noneN,.int .i64 1]) ∧ Below w.heap.size w w'
 bytes:∀ (u:N4) (w:World),u.Lt → PtTab w → Calls Tryz.prog 88 #[pt u] w fun e w' =>
   e = .returned (if u.right = true then .tuple #[.string (textN u.of),.int .i64 0] else .tuple #[.string ByteArray.empty,.int .i64 1]) ∧ Below w.heap.size w w'
 parse:∀ (s:ByteArray) (w:World),s.size ≤ 140737488355328 → PtTab2 w → Calls Tryz.prog 37 #[.string s] w fun e w' =>
   e = .returned (if s.size = 32 then if parseB (numLE s.data.toList % two255) (decide (two255 ≤ numLE s.data.toList)) = true then .tuple #[pt (parseN (numLE s.data.toList % two255) (decide (two255 ≤ numLE s.data.toList))),.int .i64 0] else .tuple #[pt noneN,.int .i64 10] else .tuple #[pt noneN,.int .i64 1]) ∧ Below w.heap.size w w'
end Go.Proofs.YteecbglmohhaeaaGreatDoor.C
namespace Go.Proofs.YteecbglmohhaeaaGreatDoor
open Go.Sort Go.RowKit
def addEdge:List Oper → Nat → Nat → List Oper
 | [],_,_ => []
 | o :: l,0,i => { o with after:=o.after.push ⟨i,.data⟩ } :: l
 | o :: l,j + 1,i => o :: addEdge l j i
theorem addEdge_at:∀ (l:List Oper) (j i k:Nat),(addEdge l j i)[k]? = if k = j then (l[k]?).map (fun o => { o with after:=o.after.push ⟨i,.data⟩ }) else l[k]?
 | [],j,i,k => by simp [addEdge]
 | o :: l,0,i,k => by cases k <;> simp [addEdge]
 | o :: l,j + 1,i,k => by
   cases k with
   | zero => simp [addEdge]
   | succ k => simp [addEdge,addEdge_at l j i k]
theorem addEdge_length:∀ (l:List Oper) (j i:Nat),(addEdge l j i).length = l.length
 | [],_,_ => rfl
 | _ :: _,0,_ => rfl
 | _ :: l,j + 1,i => by simp [addEdge,addEdge_length l j i]
def reach (md:Region.Mode) (ops:Array Oper):Nat → Nat → Nat → Bool
 | 0,_,_ => false
 | f + 1,k,d => match ops[k]? with
   | none => false
   | some o => o.after.any fun e => Region.binds md e && (e.on == d || reach md ops f e.on d)
def pureB (o:Oper):Bool:=match o.op with
 | .extract _ _ => true
 | .pick _ _ _ => true
 | _ => false
def lateB (md:Region.Mode) (ops:Array Oper) (i j:Nat):Bool:=
 Region.noSelect ops && decide (i ≠ j) && decide (Region.binds md ⟨i,.data⟩ = true) && (match ops[i]? with
   | none => false
   | some oi => pureB oi && (oi.guard == none) && (oi.after.all fun e => !Region.binds md e || reach md ops ops.size j e.on) &&
     (List.range ops.size).all fun k => k == i || (oi.after.any fun e => Region.binds md e && e.on == k) || match ops[k]? with
       | none => true
       | some ok => (ok.after.any fun e => Region.binds md e && e.on == i) || oi.apart ops ok)
section
variable {P:Program} {Q:Exit → Act → World → Prop} {md:Region.Mode}
structure Closed (md:Region.Mode) (ops:Array Oper) (listed:Array Bool):Prop where
 size:listed.size = ops.size
 closed:∀ k ok,ops[k]? = some ok → listed.getD k false = true → ∀ e ∈ ok.after,Region.binds md e = true → listed.getD e.on false = true
theorem Closed.set {ops:Array Oper} {listed:Array Bool} {i:Nat} (h:Closed md ops listed) (hr:i ∈ Region.ready md ops listed):Closed md ops (listed.setIfInBounds i true):=by
 obtain ⟨hun,oi,hoi,hall⟩:=mem_ready.1 hr
 refine ⟨by simp [h.size],fun k ok hk hl e he hb => ?_⟩
 by_cases hki:k = i
 · subst hki
   obtain rfl:oi = ok:=Option.some.inj (hoi.symm.trans hk)
   exact getD_set_true (hall e he hb)
 · rw [getD_set_ne false (Ne.symm hki)] at hl
   exact getD_set_true (h.closed k ok hk hl e he hb)
theorem reach_listed {ops:Array Oper} {listed:Array Bool} (h:Closed md ops listed):∀ (f k d:Nat) (ok:Oper),ops[k]? = some ok → (∀ e ∈ ok.after,Region.binds md e = true → listed.getD e.on false = true) → reach md ops f k d = true → listed.getD d false = true
 | 0,_,_,_,_,_,hr => by cases hr
 | f + 1,k,d,ok,hk,hall,hr => by
   unfold reach at hr
   simp only [hk] at hr
   obtain ⟨e,he,hp⟩:=Array.any_eq_true'.1 hr
   simp only [zAI,Bool.or_eq_true,beq_iff_eq] at hp
   obtain ⟨hb,hp⟩:=hp
   have hl:=hall e he hb
   rcases hp with hp | hp
   · rw [← hp]; exact hl
   · cases ho:ops[e.on]? with
     | none => cases f <;> simp [reach,ho] at hp
     | some oe => exact reach_listed h f e.on d oe ho (h.closed e.on oe ho hl) hp
theorem pure_yields {o:Oper} {a:Act} {w:World} {K:Act → World → Prop} (hp:pureB o = true) (h:o.wp P a w K Q ∨ (o.asks P a w ∧ LetsOut Q)) :
   ∃ v,(∀ w',(execOp a.eval o).run P w' = .ok (.value v) w') ∧ K (a.put o.dst v) w:=by
 obtain ⟨dst,op,type,pos,after,guard⟩:=o
 cases op <;> simp only [pureB] at hp <;> try (cases hp; done)
 case pick c x y =>
   unfold Oper.wp Oper.asks at h
   simp only [execOp] at h ⊢
   cases hc:a.eval c
   case bool b =>
     rw [hc] at h
     refine ⟨if b then a.eval x else a.eval y,fun w' => by simp [asBool],?_⟩
     rcases h with h | ⟨h,_⟩
     · simpa [asBool,Oper.upon] using h
     · exact absurd h.1 (by first | (change ¬ noRoomEvent ∈ #[]; simp) | simp [asBool,Instr.extract,Sem.runT])
   all_goals
     rw [hc] at h
     rcases h with h | ⟨h,_⟩
     · simp [asBool,Oper.upon] at h
     · exact absurd h.1 (by first | (change ¬ noRoomEvent ∈ #[]; simp) | simp [asBool,Instr.extract,Sem.runT])
 case extract t ix =>
   unfold Oper.wp Oper.asks at h
   simp only [execOp] at h ⊢
   cases hc:a.eval t
   case tuple vs =>
     rw [hc] at h
     cases hv:vs[ix]? with
     | some v =>
       refine ⟨v,fun w' => by simp [Instr.extract,hv],?_⟩
       rw [show (Instr.extract (.tuple vs) ix:Sem Value) = pure v by simp [Instr.extract,hv]] at h
       rcases h with h | ⟨h,_⟩
       · simpa [Instr.extract,hv,Oper.upon] using h
       · exact absurd h.1 (by first | (change ¬ noRoomEvent ∈ #[]; simp) | simp [asBool,Instr.extract,Sem.runT])
     | none =>
       rw [show (Instr.extract (.tuple vs) ix:Sem Value) = stuck "Extract: no such component" by simp [Instr.extract,hv]] at h
       rcases h with h | ⟨h,_⟩
       · simp [Oper.upon] at h
       · exact absurd h.1 (by change ¬ noRoomEvent ∈ #[]; simp)
   all_goals
     rw [hc] at h
     rcases h with h | ⟨h,_⟩
     · simp [Instr.extract,Oper.upon] at h
     · exact absurd h.1 (by first | (change ¬ noRoomEvent ∈ #[]; simp) | simp [asBool,Instr.extract,Sem.runT])
variable {l:List Oper} {i j:Nat}
theorem yielded_edge:yielded (addEdge l j i).toArray = yielded l.toArray:=by
 funext tmps g
 have h:((addEdge l j i).toArray[g]?).bind (·.dst) = (l.toArray[g]?).bind (·.dst):=by
   rw [zA6,zA6,addEdge_at]
   split
   · cases l[g]? <;> rfl
   · rfl
 unfold yielded
 rw [h]
theorem wpAny_late (hB:lateB md l.toArray i j = true) (hQ:∀ c d v (a:Act) (w:World),Q (.panic c) (a.put d v) w → Q (.panic c) a w) :
   ∀ (f:Nat) (listed:Array Bool) (a:Act) (w:World),Closed md l.toArray listed → wpAny P md (addEdge l j i).toArray Q f listed a w → wpAny P md l.toArray Q f listed a w:=by
 simp only [lateB,zAI,decide_eq_true_eq] at hB
 obtain ⟨⟨⟨hsel,hij⟩,_⟩,hB⟩:=hB
 obtain ⟨oi,hoi⟩:∃ oi,l.toArray[i]? = some oi:=by
   cases h:l.toArray[i]? with
   | none => rw [h] at hB; cases hB
   | some o => exact ⟨o,rfl⟩
 rw [hoi] at hB
 simp only [zAI] at hB
 obtain ⟨⟨⟨hp,hg⟩,hd⟩,hfree⟩:=hB
 have hg':oi.guard = none:=by simpa using hg
 have hat:=addEdge_at l j i
 have hat':∀ k,(addEdge l j i).toArray[k]? = if k = j then (l.toArray[k]?).map (fun o => { o with after:=o.after.push ⟨i,.data⟩ }) else l.toArray[k]?:=fun k => by
   rw [zA6,zA6,hat]
 have hdeps:∀ (listed:Array Bool) (oj:Oper),Closed md l.toArray listed → l.toArray[j]? = some oj → (∀ e ∈ oj.after,Region.binds md e = true → listed.getD e.on false = true) → ∀ e ∈ oi.after,Region.binds md e = true → listed.getD e.on false = true:=fun listed oj hc hj hall e he hb => by
   have h1:=Array.all_eq_true_iff_forall_mem.1 hd e he
   rw [hb] at h1
   exact reach_listed hc _ j e.on oj hj hall (by simpa using h1)
 have hready:∀ listed,Closed md l.toArray listed → i ∉ Region.ready md l.toArray listed → ∀ k,k ∈ Region.ready md l.toArray listed ↔ k ∈ Region.ready md (addEdge l j i).toArray listed:=fun listed hc hni k => by
   rw [mem_ready,mem_ready]
   constructor
   · rintro ⟨hun,ok,hk,hall⟩
     refine ⟨hun,?_⟩
     by_cases hkj:k = j
     · subst hkj
       refine ⟨{ ok with after:=ok.after.push ⟨i,.data⟩ },by rw [hat',if_pos rfl,hk]; rfl,fun e he hb => ?_⟩
       rcases Array.mem_push.1 he with he | rfl
       · exact hall e he hb
       · cases hli:listed.getD i false with
         | true => rfl
         | false =>
           have hlt:i < listed.size:=by rw [hc.size]; exact (Array.getElem?_eq_some_iff.1 hoi).1
           exact absurd (mem_ready.2 ⟨getD_in hlt hli,oi,hoi,hdeps listed ok hc hk hall⟩) hni
     · exact ⟨ok,by rw [hat',if_neg hkj]; exact hk,hall⟩
   · rintro ⟨hun,ok,hk,hall⟩
     refine ⟨hun,?_⟩
     rw [hat'] at hk
     split at hk
     · cases ho:l.toArray[k]? with
       | none => rw [ho] at hk; cases hk
       | some o =>
         rw [ho] at hk
         obtain rfl:=Option.some.inj hk
         exact ⟨o,rfl,fun e he hb => hall e (Array.mem_push.2 (.inl he)) hb⟩
     · exact ⟨ok,hk,hall⟩
 have hone:∀ k K a w,wpOp P (addEdge l j i).toArray Q k K a w → wpOp P l.toArray Q k K a w:=fun k K a w h => by
   unfold wpOp at h ⊢
   rw [hat'] at h
   rw [yielded_edge] at h
   split at h
   · rename_i hn
     split at hn
     · cases ho:l.toArray[k]? with
       | none => exact h
       | some o => rw [ho] at hn; cases hn
     · rw [hn]; exact h
   · rename_i o hn
     split at hn
     · cases ho:l.toArray[k]? with
       | none => rw [ho] at hn; cases hn
       | some o2 =>
         rw [ho] at hn
         obtain rfl:=Option.some.inj hn
         exact h
     · rw [hn]; exact h
 intro f
 induction f with
 | zero =>
   intro listed a w hc h
   have hni:i ∉ Region.ready md l.toArray listed:=fun hr => by
     obtain ⟨hun,o,ho,hall⟩:=mem_ready.1 hr
     have:i ∈ Region.ready md (addEdge l j i).toArray listed:=mem_ready.2 ⟨hun,o,by rw [hat',if_neg hij]; exact ho,hall⟩
     rw [h.1] at this
     cases this
   refine ⟨List.eq_nil_iff_forall_not_mem.2 fun k hk => ?_,h.2⟩
   have:=(hready listed hc hni k).1 hk
   rw [h.1] at this
   cases this
 | succ f ih =>
   intro listed a w hc h
   by_cases hi:i ∈ Region.ready md l.toArray listed
   · have hi':i ∈ Region.ready md (addEdge l j i).toArray listed:=by
       obtain ⟨hun,o,ho,hall⟩:=mem_ready.1 hi
       exact mem_ready.2 ⟨hun,o,by rw [hat',if_neg hij]; exact ho,hall⟩
     have h1:=hone i _ a w (h.2 i hi')
     unfold wpOp at h1
     rw [hoi] at h1
     have hw:Region.wanted oi (yielded l.toArray a.tmps) = true:=by unfold Region.wanted; rw [hg']
     simp only [hw,if_true] at h1
     obtain ⟨v,hv,hK⟩:=pure_yields hp h1
     refine wpAny_first hoi (Region.noSelect_spec hsel) (fun c a w h => hQ c _ _ a w h) f listed a w (fun k ok hk hki hun hno => ?_) hi (.inl ⟨hw,hv⟩) (ih _ _ _ (hc.set hi) hK)
     have h2:=List.all_eq_true.1 hfree k (List.mem_range.2 (Array.getElem?_eq_some_iff.1 hk).1)
     rw [hk] at h2
     simp only [Bool.or_eq_true,beq_iff_eq] at h2
     rcases h2 with (h2 | h2) | h2 | h2
     · exact absurd h2 hki
     · obtain ⟨e,he,hq⟩:=Array.any_eq_true'.1 h2
       simp only [zAI,beq_iff_eq] at hq
       obtain ⟨_,o3,ho3,hall⟩:=mem_ready.1 hi
       rw [hoi] at ho3
       obtain rfl:=Option.some.inj ho3
       have h3:=hall e he hq.1
       rw [hq.2] at h3
       have h4:=getD_both hun
       rw [h3] at h4
       cases h4
     · obtain ⟨e,he,hp⟩:=Array.any_eq_true'.1 h2
       simp only [zAI,beq_iff_eq] at hp
       exact absurd hp.2 (hno e he hp.1)
     · exact h2
   · have he:=hready listed hc hi
     refine ⟨fun hr => h.1 (List.eq_nil_iff_forall_not_mem.2 fun k hk => ?_),fun k hk => ?_⟩
     · have:=(he k).2 hk
       rw [hr] at this
       cases this
     · exact wpOp_mono (fun a' w' h' => ih _ a' w' (hc.set hk) h') (hone k _ a w (h.2 k ((he k).1 hk)))
theorem closed_none (n:Nat) {ops:Array Oper} (h:ops.size = n):Closed md ops (Array.replicate n false):=
 ⟨by simp [h],fun k ok _ hl => by rw [getD_replicate_false] at hl; cases hl⟩
end
def Calm (Q:Exit → Act → World → Prop):Exit → Act → World → Prop
 | .panic _,_,_ => False
 | e,a,w => Q e a w
theorem calm_then {K:Act → World → Prop} {Q:Exit → Act → World → Prop}:∀ (e:Exit) (a:Act) (w:World),Exit.then K (Calm Q) e a w → Exit.then K Q e a w:=fun e a w h => by
 cases e <;> first | exact h | exact (h:False).elim
theorem calm_panic {K:Act → World → Prop} {Q:Exit → Act → World → Prop}:∀ c d v (a:Act) (w:World),Exit.then K (Calm Q) (.panic c) (a.put d v) w → Exit.then K (Calm Q) (.panic c) a w:=fun _ _ _ _ _ h => (h:False).elim
theorem wp_region_plain_late {P:Program} {id:Nat} {K:Act → World → Prop} {Q:Exit → Act → World → Prop} {a:Act} {w:World} {l:List Oper} (i j n:Nat) (hm:P.follows .mixedOrders = true) (hL:lateB .any l.toArray i j = true) (hB:Region.lexTailB .any (addEdge l j i).toArray n = true)
   (h:wpQuiet P (addEdge l j i).toArray (Gr w) (fun a' => ∀ w',Below w.heap.size w w' → wpList P (addEdge l j i).toArray (Exit.then K (Calm Q)) ((addEdge l j i).drop n) a' w') ((addEdge l j i).take n) a):(Code.region id l.toArray true).wp P (Exit.then K Q) a w:=by
 refine Code.wp_mono (Q:=Exit.then K (Calm Q)) calm_then (wp_region_any hm (wpAny_late hL calm_panic _ _ _ _ (closed_none _ rfl) ?_))
 have:=any_quiet_tail (C:=Gr w) n hB (Below.refl w.heap.size w).drew h
 rwa [List.size_toArray,addEdge_length] at this
theorem wp_region_made_late {P:Program} {id:Nat} {K:Act → World → Prop} {Q:Exit → Act → World → Prop} {a:Act} {w:World} {l:List Oper} (i j n:Nat) (d:Tmp) (oa:Oper) (t:TypeId) (z:Array Value) (hoa:(addEdge l j i).toArray[n]? = some oa) (hd:oa.dst = some d) (hm:P.follows .mixedOrders = true) (hL:lateB .any l.toArray i j = true) (hB:lexAllocB .any (addEdge l j i).toArray n = true)
   (hal:∀ (a:Act) (w:World),(execOp a.eval oa).run P w = .ok (.value (.pointer (some ⟨w.heap.size,0,none⟩))) (w.alloc (.cells z t)))
   (h:wpQB P w (fun a' => ∀ k w',Below w.heap.size w w' → w.heap.size ≤ k → w'.heap[k]? = some (.cells z t (0,0)) → wpList P (addEdge l j i).toArray (Exit.then K (Calm Q)) ((addEdge l j i).drop (n + 1)) (a'.put (some d) (.pointer (some ⟨k,0,none⟩))) w') ((addEdge l j i).take n) a) :
   (Code.region id l.toArray true).wp P (Exit.then K Q) a w:=by
 refine Code.wp_mono (Q:=Exit.then K (Calm Q)) calm_then (wp_region_any hm (wpAny_late hL calm_panic _ _ _ _ (closed_none _ rfl) ?_))
 have:=any_made n d oa t z hoa hd hB hal h
 rwa [List.size_toArray,addEdge_length] at this
end Go.Proofs.YteecbglmohhaeaaGreatDoor
namespace Go.Proofs.YteecbglmohhaeaaGreatDoor.G
open Go.Proofs.YteecbglmohhaeaaGreatDoor.F
open Go.RowKit
theorem rowFe:RowT Tryz.prog 67 4:=⟨⟨_,Tryz.underlying67,rfl⟩,by kernel_rfl⟩
def l25:Nat:=7237005577332262213973186563042994240857116359379907606001950938285454250989
theorem l25_pos:0 < l25:=by decide
theorem modL_K (n:Nat):n % l25 < K256:=zCI (zAO _ l25_pos) (by decide)
def Tab (w:World):Prop:=∀ i,i < 4 → w.cell? ⟨9,i,none⟩ = some (w64 (wordN l25 i))
theorem Tab.on {w w':World} (h:Tab w) (hb:Below w.heap.size w w'):Tab w':=fun i hi => by
 have h1:=h i hi
 exact (hb.cell (p:=⟨9,i,none⟩) (World.block_lt_of_cell? w _ h1)).trans h1
end Go.Proofs.YteecbglmohhaeaaGreatDoor.G
namespace Go.Proofs.YteecbglmohhaeaaGreatDoor.F
open Go.RowKit
set_option maxHeartbeats 1600000 in
theorem refMul_any (m n:Nat) (W:World) (hm:m < K256) (hn:n < K256) :
   Calls Tryz.prog 122 #[fe m,fe n] W fun e W' => e = .returned (fe ((m * n) % p25)) ∧ Below W.heap.size W W':=by
 have HP:=Lib.hid (digits_times m n hm hn)
 have HM:=Lib.hid (digits_any m)
 have HN:=Lib.hid (digits_any n)
 rw [fe,fe]
 obtain ⟨a0,a1,a2,a3,ha⟩:=fe_four m
 obtain ⟨b0,b1,b2,b3,hb⟩:=fe_four n
 rw [fe,ha] at HM
 rw [fe,hb] at HN
 rw [ha,hb]
 clear ha hb
 go_enter Tryz.func122,Tryz.ntmps122
 have hx:=((Lies.new W 72 #[w64 a0,w64 a1,w64 a2,w64 a3]).alloc (.cells #[w64 b0,w64 b1,w64 b2,w64 b3] 72)).alloc (.cells fe0A 72)
 have hy:Lies ((W.alloc (.cells #[w64 a0,w64 a1,w64 a2,w64 a3] 72)).alloc (.cells #[w64 b0,w64 b1,w64 b2,w64 b3] 72)) (W.heap.size + 1) 72 #[w64 b0,w64 b1,w64 b2,w64 b3]:=heap_alloc2_new W _ _
 replace hy:=hy.alloc (.cells fe0A 72)
 have hr:=lies3 W (.cells #[w64 a0,w64 a1,w64 a2,w64 a3] 72) (.cells #[w64 b0,w64 b1,w64 b2,w64 b3] 72) 72 fe0A
 have hB:=(((Below.refl W.heap.size W).alloc (zA3 _) (.cells #[w64 a0,w64 a1,w64 a2,w64 a3] 72)).alloc (by simp) (.cells #[w64 b0,w64 b1,w64 b2,w64 b3] 72)).alloc (by simp; omega) (.cells fe0A 72)
 go_upto_region 1 with fail
 generalize World.alloc (World.alloc (World.alloc W _) _) _ = w0 at *
 obtain ⟨x0,x1,x2,x3⟩:=hx.four
 obtain ⟨y0,y1,y2,y3⟩:=hy.four
 replace hx:=hx.drew
 replace hy:=hy.drew
 replace hr:=hr.drew
 replace hB:=hB.drew
 go_region_with (first
   | (go_at_call 119; first
     | ((with_reducible refine (HM.out _).mono ?_); rintro e w1 ⟨gx,cx,rfl,hcx,hdx,hb⟩; replace hy:=hy.on hb; replace hr:=hr.on hb; replace hB:=below_on hB hb; clear hb x0 x1 x2 x3 y0 y1 y2 y3; obtain ⟨y0,y1,y2,y3⟩:=hy.four)
     | ((with_reducible refine (HN.out _).mono ?_); rintro e w2 ⟨gy,cy,rfl,hcy,hdy,hb⟩; replace hr:=hr.on hb; replace hB:=below_on hB hb; replace hdx:=hdx.on hb; clear hb))
   | (go_at_call 160; refine (HP.out gx cx gy cy _ hdx hdy).mono ?_; rintro e w3 ⟨r,gr,cr,rfl,r1,r2,r3,r4,r5,hb⟩; replace hr:=hr.on hb; replace hB:=below_on hB hb; clear hb)
   | (go_at_call 155; refine (val_fold r (m * n) _ gr cr r2 r1 r3 r4 r5).mono ?_; rintro e w4 ⟨rfl,hb⟩; replace hr:=hr.on hb; replace hB:=below_on hB hb; clear hb; have hst:=hr.storeFe ((m * n) % p25); have hsz:=feA_size ((m * n) % p25)))
 all_goals
   go_wp2_with fail
   exact bodyPost_ret (results_row Tryz.results122 rowFe (feA_size _) (hr.row _) rfl) rfl ⟨rfl,below_rowSet hB (by omega) _⟩
end Go.Proofs.YteecbglmohhaeaaGreatDoor.F
namespace Go.Proofs.YteecbglmohhaeaaGreatDoor.F
open Go.RowKit Go.Sort
attribute [local irreducible] feA
theorem pow_twice (x e:Nat):powN x e * powN x e % p25 = powN x (2 * e):=by
 have h1:Pw x e (powN x e):=by unfold Pw; exact zAB (powN_lt _ _)
 rw [(h1.mul h1).is (zAO _ p25_pos),Nat.two_mul]
theorem pow_once (x e:Nat):powN x e * x % p25 = powN x (e + 1):=by
 have h1:Pw x e (powN x e):=by unfold Pw; exact zAB (powN_lt _ _)
 exact (h1.mul (Pw.one x)).is (zAO _ p25_pos)
theorem pow_zero (x:Nat):powN x 0 = 1:=by rw [powN_eq,zCG]; decide
def preN (V d j:Nat):Nat:=V * 2 ^ j + d / 2 ^ (16 - j)
theorem preN_zero (V d:Nat) (hd:d < 65536):preN V d 0 = V:=by
 unfold preN
 rw [zCG,zBO,show (2:Nat) ^ (16 - 0) = 65536 by decide,zBX hd,zAZ]
theorem preN_end (V d:Nat):preN V d 16 = d + 65536 * V:=by
 unfold preN
 rw [show (2:Nat) ^ (16 - 16) = 1 by decide,show (2:Nat) ^ 16 = 65536 by decide,zCP]
 omega
theorem preN_step (V d j:Nat) (hj:j < 16):preN V d (j + 1) = 2 * preN V d j + d / 2 ^ (15 - j) % 2:=by
 unfold preN
 have h1:d / 2 ^ (16 - j) = d / 2 ^ (15 - j) / 2:=by
   rw [zB5,show 16 - j = (15 - j) + 1 by omega,zAP]
 rw [h1,show 16 - (j + 1) = 15 - j by omega,zAP]
 generalize d / 2 ^ (15 - j) = q
 have h2:V * (2 ^ j * 2) = 2 * (V * 2 ^ j):=by rw [← zAY]; omega
 omega
theorem bit_half (j:Nat) (hj:j < 16):2 ^ (15 - j) / 2 = if j + 1 = 16 then 0 else 2 ^ (15 - (j + 1)):=by
 by_cases h:j = 15
 · subst h; decide
 · rw [if_neg (by omega),show 15 - j = (15 - (j + 1)) + 1 by omega,zAP,Nat.mul_div_cancel _ (by decide)]
theorem bit_pos (j:Nat):0 < 2 ^ (15 - j):=Nat.pow_pos (by decide)
theorem bit_le (j:Nat):2 ^ (15 - j) ≤ 32768:=zB1 (n:=2) (by decide) (show 15 - j ≤ 15 by omega)
theorem Dig.rowFar {w:World} {g o gy:Nat} {l:List Nat} (h:Dig w g o l) (hne:g ≠ gy) (cs:Array Value):Dig (w.setRow gy cs) g o l:=fun i hi => by
 have h1:=h i hi
 unfold World.cell? at *
 rw [setRow_other _ _ _ _ hne]
 exact h1
set_option maxHeartbeats 1600000 in
theorem power_ref (x:Nat) (l:List Nat) (g o cap:Nat) (W:World) (hx:x < K256) (hd:Dig W g o l) (dd:Dg l) (hl:l.length ≤ 100) (hc:l.length ≤ cap) :
   Calls Tryz.prog 159 #[fe x,.slice (some ⟨g,o,none⟩) l.length cap] W fun e w' => e = .returned (fe (powN x (val l))) ∧ Below W.heap.size W w':=by
 have HD:=Lib.hid dd
 have HG:Hid (l.length ≠ 0 → g < W.heap.size):=Lib.hid (fun h => World.block_lt_of_cell? W _ (hd 0 (by omega)))
 have hf1:fe 1 = .agg #[.int .u64 1,.int .u64 0,.int .u64 0,.int .u64 0]:=fe_word 1 (by decide)
 clear dd
 go_enter Tryz.func159,Tryz.ntmps159
 have hz:=(Lies.new W 72 (feA x)).alloc (.cells fe0A 72)
 have hr:Lies ((W.alloc (.cells (feA x) 72)).alloc (.cells fe0A 72)) (W.heap.size + 1) 72 fe0A:=heap_alloc2_new W _ _
 have hB:=((Below.refl W.heap.size W).alloc (zA3 _) (.cells (feA x) 72)).alloc (by simp) (.cells fe0A 72)
 replace hd:=hd.on hB
 go_upto_region 1 with fail
 generalize World.alloc (World.alloc W _) _ = w0 at *
 have hy:=newly_lies w0 72 fe0A #[.int .u64 1,.int .u64 0,.int .u64 0,.int .u64 0]
 have hnw:=newly w0 (.cells fe0A 72) #[.int .u64 1,.int .u64 0,.int .u64 0,.int .u64 0]
 have hrl:=hr.lt
 replace hz:=hz.on hnw
 replace hr:=hr.on hnw
 replace hd:=hd.on hnw
 replace hB:=below_on hB hnw
 clear hnw
 go_upto_region 2 with ((with_reducible refine wpL_store w0.heap.size 72 _ #[.int .u64 1,.int .u64 0,.int .u64 0,.int .u64 0] 4 rowFe ?_ rfl (by unfold Ones; simp [Value.oneCell']) (Lies.new w0 _ _) ?_ ?_ ?_); rfl; rfl; rfl)
 generalize World.setRow _ _ _ = w1 at *
 generalize w0.heap.size = gy at *
 have hy1:Lies w1 gy 72 (feA (powN x (val (l.drop l.length)))):=by
   rw [zAW (zA3 _),show val [] = 0 from rfl,pow_zero]
   injection hf1 with hf1
   rw [hf1]
   exact hy
 clear hy hf1
 go_wp2_with fail
 go_loopw [6] (fun ix wr => ∃ k:Nat,k ≤ l.length ∧ ix = .int .i64 ((k:Int) - 1) ∧ Dig wr g o l ∧ Lies wr W.heap.size 72 (feA x) ∧ Lies wr (W.heap.size + 1) 72 fe0A ∧ Lies wr gy 72 (feA (powN x (val (l.drop k)))) ∧ Below W.heap.size W wr) (fun ix _ => (intOf ix + 1).toNat)
 case atStart => exact ⟨l.length,zA3 _,rfl,hd,hz,hr,hy1,hB⟩
 case round =>
   clear hd hz hr hy1 hB
   obtain ⟨k,hk,rfl,hd,hz,hr,hy,hB⟩:=hrel
   cases k with
   | zero =>
     rw [zAH] at hy
     obtain ⟨v,hv⟩:∃ v,powN x (val l) = v:=⟨_,rfl⟩
     rw [hv] at hy
     have HV:=Lib.hid hv
     clear hv
     go_wp2_with (first
       | ((with_reducible refine wpL_load gy 72 (feA v) 4 rowFe (feA_size _) hy ?_ ?_); rfl)
       | ((with_reducible refine wpL_store (W.heap.size + 1) 72 _ (feA v) 4 rowFe rfl (feA_size _) (feA_one _) hr ?_ ?_ ?_); rfl; rfl))
     exact bodyPost_ret (results_row Tryz.results159 rowFe (feA_size _) (hr.row _) rfl) rfl ⟨by rw [HV.out],below_rowSet hB (zBP _) _⟩
   | succ m =>
     have em:((m + 1:Nat):Int) - 1 = (m:Int):=by omega
     rw [em]
     have hdm:l.drop m = l.getD m 0 :: l.drop (m + 1):=by
       rw [zAS (by omega),zA4,zA5 (by omega)]
       rfl
     have HDM:=Lib.hid hdm
     have hD:=HD.out.at m
     have hml:(m:Int) < (l.length:Int):=by omega
     have hgy:g ≠ gy:=by have:=HG.out (by omega); omega
     have hcap:(l.length:Int) ≤ (cap:Int):=by omega
     clear hdm
     obtain ⟨V,hV⟩:∃ V,val (l.drop (m + 1)) = V:=⟨_,rfl⟩
     rw [hV] at hy
     have HV:=Lib.hid hV
     clear hV
     obtain ⟨D,hDD⟩:∃ D,l.getD m 0 = D:=⟨_,rfl⟩
     rw [hDD] at hD
     have HDD:=Lib.hid hDD
     clear hDD
     rw [← preN_zero V D hD] at hy
     obtain ⟨wq,hwq⟩:∃ wq,wq = wr:=⟨_,rfl⟩
     subst hwq
     go_wp2_with fail
     go_loopw [7] (fun bx wv => ∃ j b:Nat,j ≤ 16 ∧ bx = .int .i64 (b:Int) ∧ b = (if j = 16 then 0 else 2 ^ (15 - j)) ∧ Dig wv g o l ∧ Lies wv W.heap.size 72 (feA x) ∧ Lies wv (W.heap.size + 1) 72 fe0A ∧ Lies wv gy 72 (feA (powN x (preN V D j))) ∧ Below W.heap.size W wv) (fun bx _ => (intOf bx).toNat)
     case atStart => exact ⟨0,32768,by omega,rfl,rfl,hd,hz,hr,hy,hB⟩
     case round =>
       clear hd hz hr hy hB
       obtain ⟨j,b,hj,rfl,hb,hd,hz,hr,hy,hB⟩:=hrel
       by_cases hj16:j = 16
       · subst hj16
         rw [if_pos rfl] at hb
         subst hb
         go_wp2_with fail
         go_roundw
         case rel => exact ⟨m,by omega,rfl,hd,hz,hr,by rw [HDM.out,HDD.out]; show Lies _ gy _ (feA (powN x (D + 65536 * val (l.drop (m + 1))))); rw [HV.out,← preN_end]; exact hy,hB⟩
         case measure => simp [intOf]
       · rw [if_neg hj16] at hb
         have hbp:=bit_pos j
         have hble:=bit_le j
         have hbh:=bit_half j (by omega)
         have hst:=preN_step V D j (by omega)
         rw [← hb] at hbp hble hbh hst
         have hM:=Lib.hid (fun w => refMul_any (powN x (preN V D j)) (powN x (preN V D j)) w (below_K (powN_lt _ _)) (below_K (powN_lt _ _)))
         rw [pow_twice] at hM
         have hMx:=Lib.hid (fun w => refMul_any (powN x (2 * preN V D j)) x w (below_K (powN_lt _ _)) hx)
         rw [pow_once] at hMx
         have hX:=(hd m (by omega))
         rw [HDD.out] at hX
         have hcase:Hid ((D / b % 2 = 1 ∧ powN x (preN V D (j + 1)) = powN x (2 * preN V D j + 1)) ∨ (D / b % 2 = 0 ∧ powN x (preN V D (j + 1)) = powN x (2 * preN V D j))):=Lib.hid (by
           rcases Nat.mod_two_eq_zero_or_one (D / b) with h | h
           · right; exact ⟨h,by rw [hst,h,zAZ]⟩
           · left; exact ⟨h,by rw [hst,h]⟩)
         have HBH:=Lib.hid hbh
         clear hst hbh hb
         obtain ⟨yn,hyn⟩:∃ yn,powN x (preN V D (j + 1)) = yn:=⟨_,rfl⟩
         rw [hyn] at hcase
         have HYN:=Lib.hid hyn
         clear hyn
         generalize powN x (2 * preN V D j + 1) = y1 at *
         generalize powN x (2 * preN V D j) = y2 at *
         generalize powN x (preN V D j) = y0 at *
         have hbpi:(0:Int) < (b:Int):=by omega
         have hbne:¬ (b:Int) = 0:=by omega
         have hq1:Int.tdiv (D:Int) (b:Int) = ((D / b:Nat):Int):=by rw [zB3 (by omega)]; exact (zBH _ _).symm
         have hq1':(D:Int) / (b:Int) = ((D / b:Nat):Int):=(zBH _ _).symm
         have hDb:D / b < 65536:=zBB (zB9 _ _) hD
         obtain ⟨b2,hb2⟩:∃ b2,b / 2 = b2:=⟨_,rfl⟩
         have hq2:Int.tdiv (b:Int) 2 = (b2:Int):=by rw [zB3 (by omega)]; omega
         have hq2':(b:Int) / 2 = (b2:Int):=by omega
         have HB2:=Lib.hid hb2
         clear hb2
         obtain ⟨q,hq⟩:∃ q,D / b = q:=⟨_,rfl⟩
         rw [hq] at hq1 hq1' hDb hcase
         clear hq
         go_upto_region 8 with (first
           | ((with_reducible refine wpL_load gy 72 (feA y0) 4 rowFe (feA_size _) hy ?_ ?_); rfl)
           | (go_at_call 122; refine (hM.out _).mono ?_; rintro e w3 ⟨rfl,hb⟩; replace hd:=hd.on hb; replace hz:=hz.on hb; replace hr:=hr.on hb; replace hy:=hy.on hb; replace hB:=below_on hB hb; clear hb hX)
           | ((with_reducible refine wpL_store gy 72 _ (feA y2) 4 rowFe (feA_size _) (feA_size _) (feA_one _) hy ?_ ?_ ?_); rfl; rfl))
         replace hy:=hy.row (feA y2)
         replace hd:=hd.rowFar hgy (feA y2)
         replace hz:=hz.rowFar (show W.heap.size ≠ gy by omega) (feA y2)
         replace hr:=hr.rowFar (show W.heap.size + 1 ≠ gy by omega) (feA y2)
         replace hB:=below_rowSet hB (show W.heap.size ≤ gy by omega) (feA y2)
         generalize World.setRow _ _ _ = w5 at *
         have hX:=hd m (by omega)
         rw [HDD.out] at hX
         clear hM
         rcases hcase.out with ⟨hodd,rfl⟩ | ⟨heven,rfl⟩
         · have hqi:(q:Int) % 2 = 1:=by omega
           clear hcase hodd
           go_upto_region 10 with (first
             | ((with_reducible refine wpL_load gy 72 (feA y2) 4 rowFe (feA_size _) hy ?_ ?_); rfl)
             | ((with_reducible refine wpL_load W.heap.size 72 (feA x) 4 rowFe (feA_size _) hz ?_ ?_); rfl)
             | (go_at_call 122; refine (hMx.out _).mono ?_; rintro e w4 ⟨rfl,hb⟩; replace hd:=hd.on hb; replace hz:=hz.on hb; replace hr:=hr.on hb; replace hy:=hy.on hb; replace hB:=below_on hB hb; clear hb)
             | ((with_reducible refine wpL_store gy 72 _ (feA yn) 4 rowFe (feA_size _) (feA_size _) (feA_one _) hy ?_ ?_ ?_); rfl; rfl))
           replace hy:=hy.row (feA yn)
           replace hd:=hd.rowFar hgy (feA yn)
           replace hz:=hz.rowFar (show W.heap.size ≠ gy by omega) (feA yn)
           replace hr:=hr.rowFar (show W.heap.size + 1 ≠ gy by omega) (feA yn)
           replace hB:=below_rowSet hB (show W.heap.size ≤ gy by omega) (feA yn)
           generalize World.setRow _ _ _ = w6 at *
           clear hX
           go_wp2_with fail
           go_roundw
           case rel => exact ⟨j + 1,b2,by omega,rfl,by rw [← HB2.out,HBH.out],hd,hz,hr,by rw [HYN.out]; exact hy,hB⟩
           case measure => have:=HB2.out; simp [intOf]; omega
         · have hqi:(q:Int) % 2 = 0:=by omega
           clear hcase heven
           go_wp2_with fail
           go_roundw
           case rel => exact ⟨j + 1,b2,by omega,rfl,by rw [← HB2.out,HBH.out],hd,hz,hr,by rw [HYN.out]; exact hy,hB⟩
           case measure => have:=HB2.out; simp [intOf]; omega
end Go.Proofs.YteecbglmohhaeaaGreatDoor.F
namespace Go.Proofs.YteecbglmohhaeaaGreatDoor.F
open Go.RowKit
theorem pK_sub:p25 < K256:=by decide
theorem digits_trim (k:Nat) (g cap:Nat) (hc:16 ≤ cap) (W:World) (hd:Dig W g 0 (dgL k 16)) :
   Calls Tryz.prog 148 #[.slice (some ⟨g,0,none⟩) 16 cap] W fun e W' => e = .returned (.slice (some ⟨g,0,none⟩) (trimL (dgL k 16)).length cap) ∧ W' = W:=by
 have h:=trim_any (dgL k 16) g 0 cap W hd (by rw [dgL_length]; decide) (by rw [dgL_length]; exact hc)
 rw [dgL_length] at h
 exact h
theorem prime_minus (k:Nat) (hk:k < p25) (gp cp gy cy:Nat) (W:World) (hp:Dig W gp 0 primeL) (hy:Dig W gy 0 (trimL (dgL k 16))) :
   Calls Tryz.prog 153 #[.slice (some ⟨gp,0,none⟩) 16 cp,.slice (some ⟨gy,0,none⟩) (trimL (dgL k 16)).length cy] W fun e W' => ∃ r g' cap',e = .returned (.slice (some ⟨g',0,none⟩) r.length cap') ∧ r.length ≤ cap' ∧ r.length ≤ 16 ∧ Dig W' g' 0 r ∧ Dg r ∧ val r = p25 - k ∧ Below W.heap.size W W':=by
 have hv:val (trimL (dgL k 16)) = k:=by rw [val_trim,dgL_full (zCI hk pK_sub)]
 have h:=minus_any primeL (trimL (dgL k 16)) gp 0 cp gy 0 cy W hp hy (by decide) prime_dg (dgL_dg _ _).trim (by rw [hv,prime_val]; exact Nat.le_of_lt hk)
 rw [hv,prime_val] at h
 refine Calls.mono h ?_
 rintro e W' ⟨r,g',cap',rfl,h1,h2,h3,h4,_,h6,h7⟩
 exact ⟨r,g',cap',rfl,h1,h2,h3,h4,h6,h7⟩
theorem digits_more (m k:Nat) (hm:m < K256) (r:List Nat) (hr:r.length ≤ 16) (dr:Dg r) (hv:val r = k) (gx cx gr cr:Nat) (W:World) (hx:Dig W gx 0 (dgL m 16)) (hy:Dig W gr 0 r) :
   Calls Tryz.prog 156 #[.slice (some ⟨gx,0,none⟩) 16 cx,.slice (some ⟨gr,0,none⟩) r.length cr] W fun e W' => ∃ r g' cap',e = .returned (.slice (some ⟨g',0,none⟩) r.length cap') ∧ r.length ≤ cap' ∧ r.length ≤ 100 ∧ Dig W' g' 0 r ∧ Dg r ∧ val r = m + k ∧ Below W.heap.size W W':=by
 have hl:=dgL_length m 16
 have h:=plus_any (dgL m 16) r gx 0 cx gr 0 cr W hx hy (by omega) (by omega) (dgL_dg m 16) dr
 rw [hl,dgL_full hm,hv] at h
 refine h.mono ?_
 rintro e W' ⟨r,g',cap',rfl,h1,h2,h3,h4,h5,h6,h7⟩
 exact ⟨r,g',cap',rfl,h1,by omega,h3,h4,h6,h7⟩
set_option maxHeartbeats 1600000 in
theorem refSub_any (m n:Nat) (W:World) (hm:m < K256) (hn:n < K256) :
   Calls Tryz.prog 116 #[fe m,fe n] W fun e W' => e = .returned (fe ((m + (p25 - n % p25)) % p25)) ∧ Below W.heap.size W W':=by
 have hk:n % p25 < p25:=zAO _ p25_pos
 have HP:=Lib.hid (digits_more m (p25 - n % p25) hm)
 have HM:=Lib.hid (digits_any m)
 have HL:=Lib.hid (fun w => refLeast_any n w hn)
 have HQ:=Lib.hid (prime_minus (n % p25) hk)
 have HT:=Lib.hid (digits_trim (n % p25))
 clear hk
 obtain ⟨k,hk⟩:∃ k,n % p25 = k:=⟨_,rfl⟩
 rw [hk] at HP HQ HL HT ⊢
 have HN:=Lib.hid (digits_any k)
 rw [fe,fe]
 obtain ⟨a0,a1,a2,a3,ha⟩:=fe_four m
 obtain ⟨b0,b1,b2,b3,hb⟩:=fe_four n
 rw [fe,ha] at HM
 rw [fe,hb] at HL
 rw [ha,hb]
 clear ha hb hk
 go_enter Tryz.func116,Tryz.ntmps116
 have hx:=((Lies.new W 72 #[w64 a0,w64 a1,w64 a2,w64 a3]).alloc (.cells #[w64 b0,w64 b1,w64 b2,w64 b3] 72)).alloc (.cells fe0A 72)
 have hy:Lies ((W.alloc (.cells #[w64 a0,w64 a1,w64 a2,w64 a3] 72)).alloc (.cells #[w64 b0,w64 b1,w64 b2,w64 b3] 72)) (W.heap.size + 1) 72 #[w64 b0,w64 b1,w64 b2,w64 b3]:=heap_alloc2_new W _ _
 replace hy:=hy.alloc (.cells fe0A 72)
 have hr:=lies3 W (.cells #[w64 a0,w64 a1,w64 a2,w64 a3] 72) (.cells #[w64 b0,w64 b1,w64 b2,w64 b3] 72) 72 fe0A
 have hB:=(((Below.refl W.heap.size W).alloc (zA3 _) (.cells #[w64 a0,w64 a1,w64 a2,w64 a3] 72)).alloc (by simp) (.cells #[w64 b0,w64 b1,w64 b2,w64 b3] 72)).alloc (by simp; omega) (.cells fe0A 72)
 go_upto_region 1 with fail
 generalize World.alloc (World.alloc (World.alloc W _) _) _ = w0 at *
 obtain ⟨y0,y1,y2,y3⟩:=hy.four
 replace hx:=hx.drew
 replace hy:=hy.drew
 replace hr:=hr.drew
 replace hB:=hB.drew
 go_region_with (first
   | (go_at_call 151; refine (prime_any _).mono ?_; rintro e w1 ⟨gp,cp,rfl,hcp,hp,hb⟩; replace hx:=hx.on hb; replace hy:=hy.on hb; replace hr:=hr.on hb; replace hB:=below_on hB hb; clear hb y0 y1 y2 y3; obtain ⟨y0,y1,y2,y3⟩:=hy.four)
   | (go_at_call 154; refine (HL.out _).mono ?_; rintro e w2 ⟨rfl,hb⟩; replace hx:=hx.on hb; replace hp:=hp.on hb; replace hr:=hr.on hb; replace hB:=below_on hB hb; clear hb)
   | (go_at_call 119; refine (HN.out _).mono ?_; rintro e w3 ⟨gy,cy,rfl,hcy,hdy,hb⟩; replace hx:=hx.on hb; replace hp:=hp.on hb; replace hr:=hr.on hb; replace hB:=below_on hB hb; clear hb)
   | (go_at_call 148; refine (HT.out gy cy hcy _ hdy).mono ?_; rintro e w4 ⟨rfl,rfl⟩)
   | (go_at_call 153; refine (HQ.out gp cp gy cy _ hp (hdy.take _)).mono ?_; rintro e w5 ⟨r,gr,cr,rfl,r1,r2,r3,r4,r5,hb⟩; replace hx:=hx.on hb; replace hr:=hr.on hb; replace hB:=below_on hB hb; clear hb))
 all_goals
   go_wp2_with (first
     | ((with_reducible refine wpL_load W.heap.size 72 #[w64 a0,w64 a1,w64 a2,w64 a3] 4 rowFe rfl hx ?_ ?_); rfl)
     | (go_at_call 119; refine (HM.out _).mono ?_; rintro e w6 ⟨gx,cx,rfl,hcx,hdx,hb⟩; replace hr:=hr.on hb; replace r3:=r3.on hb; replace hB:=below_on hB hb; clear hb)
     | (go_at_call 156; refine (HP.out r r2 r4 r5 gx cx gr cr _ hdx r3).mono ?_; rintro e w7 ⟨q,gq,cq,rfl,q1,q2,q3,q4,q5,hb⟩; replace hr:=hr.on hb; replace hB:=below_on hB hb; clear hb)
     | (go_at_call 155; refine (val_fold q _ _ gq cq q2 q1 q3 q4 q5).mono ?_; rintro e w8 ⟨rfl,hb⟩; replace hr:=hr.on hb; replace hB:=below_on hB hb; clear hb)
     | ((with_reducible refine wpL_store (W.heap.size + 1 + 1) 72 _ (feA ((m + (p25 - k)) % p25)) 4 rowFe rfl (feA_size _) (feA_one _) hr ?_ ?_ ?_); rfl; rfl))
   exact bodyPost_ret (results_row Tryz.results116 rowFe (feA_size _) (hr.row _) rfl) rfl ⟨rfl,below_rowSet hB (by omega) _⟩
end Go.Proofs.YteecbglmohhaeaaGreatDoor.F
