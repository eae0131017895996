import Derived.Test.YteecbglmohhaeaaGreatDoorK19
import Derived.Test.YteecbglmohhaeaaGreatDoorKMOCountsW
import Derived.Test.YteecbglmohhaeaaGreatDoorTie
import Derived.Test.YteecbglmohhaeaaGreatDoorCards
import Derived.ChangeSame
import Derived.OpenShut
set_option maxRecDepth 100000
open List renaming append_nil → zB6
namespace Go.Proofs.YteecbglmohhaeaaGreatDoor
open Go.Proofs.YteecbglmohhaeaaGreatDoor.O
open Go.ChangeShapes Go.WideShapes Go.ChangeAt Go.RowKit
open Go.ChangeMaps (open_string shut_string)
theorem ocounts_lifted (os:Os) (started:os.Started) (H:Type) (enc:TypeId × Value → H) :
   ReturnsInHanded {} Tryz.checked os 3 .any (fun w args => (Rows.roleCountsSpec.pre enc Tryz.prog Tryz.f3 [] false w args ∧ laidMetH Tryz.prog O.laidO w) ∧ sizedMet enc Tryz.prog Tryz.f3 (OpenSpec.ofChange Rows.roleCountsSpec) false w args)
     (Rows.roleCountsSpec.post enc Tryz.prog Tryz.f3 false true false false):=by
 refine returnsInHanded_of_change_and (C:=Tryz.checked) (X:=fun w _ => laidMetH Tryz.prog O.laidO w) (fun _ _ _ hh h => h.of_heap hh) U.rowOwn started (by kernel_rfl) Tryz.func3
   (ChangeSpec.witness_shaped (enc:=enc) (C:=Tryz.checked) (os:=os) (X:=fun w _ => laidMetH Tryz.prog O.laidO w) false (World.doorLaid Tryz.prog 400 os) #[.agg #[.slice none 0 0,.int .i64 0],.slice none 0 0,.string ByteArray.empty,.slice none 0 0] 8 rfl (World.shaped_of_RefB (by kernel_rfl) (by kernel_rfl)) (by kernel_rfl) (by kernel_rfl) (by kernel_rfl) (O.door_metO os _)) ?_
 intro W base args ds gs before hval0 hW _ _ hL0 _
 have hL:=O.tabO_of_laid hL0
 clear hL0
 obtain ⟨A⟩:=E.edPts
 have hval:∀ (j:Nat) t v,Tryz.f3.params[j]? = some t → args[j]? = some v → Value.okWide Tryz.prog W .any base t v:=hval0
 have hW':=hW
 obtain ⟨p,q,hA0,hV,rfl,hfz,hnd⟩:=hW
 have hA:DataW.TrodAll enc Tryz.prog W 0 (fun _ => true) true Tryz.f3.params.toList args.toList ds p:=hA0
 rw [Tryz.params3] at hA hval
 obtain ⟨v0,vs0,d0,ds0,p0,q0,hargs,rfl,rfl,h0,k0⟩:=trodAll_cons hA
 obtain ⟨v1,vs1,d1,ds1,p1,q1,rfl,rfl,rfl,h1,k1⟩:=trodAll_cons k0
 obtain ⟨v2,vs2,d2,ds2,p2,q2,rfl,rfl,rfl,h2,k2⟩:=trodAll_cons k1
 obtain ⟨v3,vs3,d3,ds3,p3,q3,rfl,rfl,rfl,h3,k3⟩:=trodAll_cons k2
 obtain ⟨rfl,rfl,rfl⟩:=trodAll_nil k3
 obtain rfl:args = #[v0,v1,v2,v3]:=by cases args; simp_all
 obtain ⟨rfl,rfl⟩:=trodVars_none hV
 have kk0:=h0
 have lt0:∀ x ∈ p0,x.block < W.heap.size:=by obtain ⟨m,hm⟩:=kk0; exact DataW.trod_lt m _ _ _ hm
 obtain ⟨l0,n0,av0,ac0,rfl,e0⟩:=role_arg (hval 0 24 v0 rfl rfl) h0
 have kk1:=h1
 have lt1:∀ x ∈ p1,x.block < W.heap.size:=by obtain ⟨m,hm⟩:=kk1; exact DataW.trod_lt m _ _ _ hm
 obtain ⟨S1,e1⟩:=keys_arg (hval 1 25 v1 rfl rfl) h1
 obtain ⟨a2,rfl,rfl,rfl,y2⟩:=open_string Tryz.underlying9 (hval 2 9 v2 rfl rfl) h2
 have kk3:=h3
 have lt3:∀ x ∈ p3,x.block < W.heap.size:=by obtain ⟨m,hm⟩:=kk3; exact DataW.trod_lt m _ _ _ hm
 obtain ⟨S3,e3⟩:=sigs_arg (hval 3 26 v3 rfl rfl) h3
 clear hA0 hval0
 simp only [zB6] at hW'
 refine (countsO_walk A av0 ac0 _ _ l0 n0 S1 a2 S3 W e0 e1 e3 ⟨hL.1,hL.2⟩).mono fun e W' ⟨he,bel⟩ => ?_
 subst he
 exact ⟨_,rfl,_,_,_,[],_,[],hW',trodAll_mk1 (shut_bool Tryz.underlying4 _),(trodAll_cons_mk (Below.trod U.rowLaid (by kernel_rfl) (of_decide_eq_true (by kernel_rfl)) kk0 bel lt0) (trodAll_cons_mk (Below.trod U.rowLaid (by kernel_rfl) (of_decide_eq_true (by kernel_rfl)) kk1 bel lt1) (trodAll_cons_mk (shut_string Tryz.underlying9 y2) (trodAll_cons_mk (Below.trod U.rowLaid (by kernel_rfl) (of_decide_eq_true (by kernel_rfl)) kk3 bel lt3) trodAll_mk0)))),rfl,bel.frame _,fun h => by cases h⟩
theorem ocounts_row:Rows.RoleCountsSaid:=
 OpenClaim.holds_of_wide 3 Tryz.f3 rfl rfl rfl rfl rfl rfl rfl ⟨rfl,rfl,rfl,rfl,rfl⟩ rfl rfl rfl rfl rfl (by kernel_rfl) Tryz.func3 (by kernel_rfl)
   (of_decide_eq_true (by kernel_rfl)) (by unfold Func.isWrapper; first | (rw [if_pos (by decide +kernel)]; kernel_rfl) | (rw [if_neg (by decide +kernel)]; exact ⟨rfl,rfl⟩))
   (fun os started H enc _ => ocounts_lifted os started H enc)
theorem ocounts_holds:Rows.RoleCountsCardSaid:=
 Claim7.holds_tied_plain_at .later [] [.data,.data,.data,.data,.data,.data,.data,.data,.data,.data] true Rows.roleCountsCard.stood.harness false
   ocounts_row (fun _ h => by cases h) (by kernel_rfl) (fun _ h => by cases h) roleCounts_row_tie rfl ⟨rfl,rfl⟩ (by kernel_rfl) rfl
   (fun f fn hf hfn => by
     obtain rfl:f = 3:=Option.some.inj ((show Tryz.prog.funcNamed "imprimatur/imprimaturlaw14.RoleCounts" = some 3 by kernel_rfl).symm.trans hf) |>.symm
     obtain rfl:fn = Tryz.f3:=(Option.some.inj (Tryz.func3.symm.trans hfn)).symm
     exact ⟨by kernel_rfl,fun j t ht => by
       rw [Tryz.params3] at ht
       have hm:t ∈ [24,25,9,26]:=by simpa using Array.mem_of_getElem? ht
       have hall:([24,25,9,26].all fun u => !Tryz.prog.wantsStandIn u) = true:=by kernel_rfl
       exact (show Tryz.prog.wantsStandIn t = false by simpa using List.all_eq_true.1 hall t hm)⟩)
   (by kernel_rfl)
end Go.Proofs.YteecbglmohhaeaaGreatDoor
