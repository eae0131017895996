/- What is proved: whatever point and number the statement of which points may be is called with, it answers true. -/
import Derived.Test.YtfleimaoaicolaaDoorLot12
import Derived.Test.YtfleimaoaicolaaDoorMCRight
import Derived.Test.YtfleimaoaicolaaDoorMCAfEq
namespace Go.Proofs.YtfleimaoaicolaaDoor.C
open Go.RowKit Go.Sort Go.Proofs.YtfleimaoaicolaaDoor.F
set_option maxRecDepth 100000
theorem pt_eq_self (u : N4) (hu : u = noneN) (w : World) : (binOp .eql 26 (pt u) (pt u)).run Tryd.prog w = .ok (.bool true) w := by subst hu; kernel_rfl
theorem bool_neq_exec {o : Oper} {a : Act} {p q : Operand} {r : TypeId} (ho : o.op = .binOp .neq 4 p q r) (b : Bool) (hp : a.eval p = .bool b) (hq : a.eval q = .bool b) (w : World) : (execOp a.eval o).run Tryd.prog w = .ok (.value (.bool false)) w := by
  unfold execOp
  simp only [ho, hp, hq]
  simp [go_sem]
attribute [local irreducible] feA ptA afA wpQuiet

set_option maxHeartbeats 3200000 in
theorem may_walk (u : N4) (n : Nat) (hu : u.Lt) (hn : n < K256) (W : World) (hT : PtTab W) :
    Calls Tryd.prog 3 #[pt u, fe n] W fun e w' => e = .returned (.bool true) ∧ Below W.heap.size W w' := by
  have hT0 := Lib.hid hT
  have HZ := Lib.hid (fun w hT => point_ok.zero w hT)
  have HBs := Lib.hid (fun w hT => point_ok.base w hT)
  have HR := Lib.hid (fun w hT => point_ok.right u w hu hT)
  have HRr := Lib.hid (fun w => refRight_any u hu w)
  have HZr := Lib.hid (fun w => refRight_any zeroN zero_pn.lt w)
  have HBr := Lib.hid (fun w => refRight_any baseN base_pn.lt w)
  rw [zero_pn.right] at HZr
  rw [base_pn.right] at HBr
  have HZa := Lib.hid (fun w => refAffine_any zeroN w zero_pn.lt.X zero_pn.lt.Y zero_pn.lt.Z)
  rw [zero_pn.affine.1, zero_pn.affine.2, show Pt.zero.x.val = 0 from rfl, show Pt.zero.y.val = 1 from rfl] at HZa
  have HBa := Lib.hid (fun w => refAffine_any baseN w base_pn.lt.X base_pn.lt.Y base_pn.lt.Z)
  have hbv : Bp.x.val = bxN ∧ Bp.y.val = byN := ⟨by unfold Bp; rw [val_z (by decide)], by unfold Bp; rw [val_z (by decide)]⟩
  rw [base_pn.affine.1, base_pn.affine.2, hbv.1, hbv.2] at HBa
  have HBb := Lib.hid (fun w => refBase_any w)
  have AL := Lib.hid (fun w hT => cAlive_any point_ok w hT)
  have HSa := Lib.hid (fun w hT => point_ok.same u u w hu hu hT)
  have HS1 := Lib.hid (fun w hT => point_ok.same u baseN w hu base_pn.lt hT)
  have HS2 := Lib.hid (fun w hT => point_ok.same baseN u w base_pn.lt hu hT)
  obtain ⟨f, f1, f2⟩ := point_ok.add
  obtain ⟨g, g1, g2⟩ := point_ok.neg
  obtain ⟨m, m1, m2⟩ := point_ok.mul
  have HA1' := Lib.hid (fun w hT => f2 u baseN w hu base_pn.lt hT)
  have HA2 := Lib.hid (fun w hT => f2 baseN u w base_pn.lt hu hT)
  have HN := Lib.hid (fun w hT => g2 u w hu hT)
  have HM := Lib.hid (fun w hT => m2 n u w hn hu hT)
  have HBy := Lib.hid (fun w hT => point_ok.bytes u w hu hT)
  have hsame : u.right = true → u.same u = true := fun h => (right_pn h).same_is (right_pn h)
  have hs1 : u.right = false → u.same baseN = false := fun h => by unfold N4.same; rw [h]; rfl
  have hs2 : u.right = false → baseN.same u = false := fun h => by unfold N4.same; rw [h]; simp
  have HSame := Lib.hid hsame
  have HSn1 := Lib.hid hs1
  have HSn2 := Lib.hid hs2
  have kbx : bxN < K256 := by decide
  have kby : byN < K256 := by decide
  have hne := pt_eq_self noneN rfl
  have ho1 : (.agg #[.int .u64 1, .int .u64 0, .int .u64 0, .int .u64 0] : Value) = fe 1 := fe_small 1 (by decide)
  have HO1 := Lib.hid ho1
  have ha1 : (.agg #[.int .u64 0, .int .u64 0, .int .u64 0, .int .u64 0, .int .u64 1, .int .u64 0, .int .u64 0, .int .u64 0] : Value) = af 0 1 := by kernel_rfl
  have HA1 := Lib.hid ha1
  clear ho1 ha1 hsame hs1 hs2 f1 g1 m1 f2 g2 m2 hbv hu hn
  generalize u.same u = suu at *
  generalize u.same baseN = sub at *
  generalize baseN.same u = sbu at *
  generalize u.right = R at *
  generalize zeroN = zn at *
  generalize baseN = bn at *
  generalize bxN = bx at *
  generalize byN = by0 at *
  generalize f u bn = fr1 at *
  generalize f bn u = fr2 at *
  generalize g u = gr at *
  generalize m n u = mr at *
  generalize textN u.of = tx at *
  go_enter Tryd.func3, Tryd.ntmps3
  have hp := (Lies.new W 26 (ptA u)).alloc (.cells (feA n) 27)
  have hn : Lies ((W.alloc (.cells (ptA u) 26)).alloc (.cells (feA n) 27)) (W.heap.size + 1) 27 (feA n) := heap_alloc2_new W _ _
  have hB := ((Below.refl W.heap.size W).alloc (Nat.le_refl _) (.cells (ptA u) 26)).alloc (by simp) (.cells (feA n) 27)
  clear hT
  go_upto_region 1 with fail
  generalize World.alloc (World.alloc W _) _ = w0 at *
  have hT := hT0.out.on hB
  go_upto_region 2 with (first
    | (go_at_call 10; (with_reducible refine (HZ.out _ hT).mono ?_); rintro e u1 ⟨rfl, hb⟩; replace hp := hp.on hb; replace hn := hn.on hb; replace hT := hT.on hb; replace hB := below_on hB hb; clear hb)
    | (go_at_call 11; (with_reducible refine (HBs.out _ hT).mono ?_); rintro e u2 ⟨rfl, hb⟩; replace hp := hp.on hb; replace hn := hn.on hb; replace hB := below_on hB hb; clear hb)
    | ((with_reducible refine wpL_store u2.heap.size 26 _ (ptA zn) 16 rowPt ?_ (ptA_size _) (ptA_one _) (Lies.alloc (Lies.new u2 _ _) _) ?_ ?_ ?_); rfl; rfl; rfl)
    | ((with_reducible refine wpL_store (u2.heap.size + 1) 26 _ (ptA bn) 16 rowPt ?_ (ptA_size _) (ptA_one _) (lies_snd u2 _ _ _ _) ?_ ?_ ?_); rfl; rfl; rfl))
  have hz : Lies _ u2.heap.size 26 (ptA zn) := (((Lies.new u2 26 z16A).alloc (.cells z16A 26)).row (ptA zn)).rowFar (show u2.heap.size ≠ u2.heap.size + 1 by omega) (ptA bn)
  have hbs : Lies _ (u2.heap.size + 1) 26 (ptA bn) := (lies_snd u2 (.cells z16A 26) 26 z16A (ptA zn)).row (ptA bn)
  have lp := hp.lt
  have ln := hn.lt
  have hsz := hB.size
  replace hp := (((hp.alloc (.cells z16A 26)).alloc (.cells z16A 26)).rowFar (show W.heap.size ≠ u2.heap.size by omega) (ptA zn)).rowFar (show W.heap.size ≠ u2.heap.size + 1 by omega) (ptA bn)
  replace hn := (((hn.alloc (.cells z16A 26)).alloc (.cells z16A 26)).rowFar (show W.heap.size + 1 ≠ u2.heap.size by omega) (ptA zn)).rowFar (show W.heap.size + 1 ≠ u2.heap.size + 1 by omega) (ptA bn)
  replace hB := below_rowSet (below_rowSet ((hB.alloc hB.size (.cells z16A 26)).alloc (by simp; omega) (.cells z16A 26)) (show W.heap.size ≤ u2.heap.size by omega) (ptA zn)) (show W.heap.size ≤ u2.heap.size + 1 by omega) (ptA bn)
  clear hT lp ln hsz
  generalize World.setRow (World.setRow _ _ _) _ _ = w3 at *
  generalize u2.heap.size = gz at *
  have hT := hT0.out.on hB
  refine wp_region_all_g (by kernel_rfl) (by kernel_rfl) ?_
  refine wpQg_pt W.heap.size u hp rfl rfl (qA ?_ (by simp only [Act.put, List.setIfInBounds_toArray, List.set_cons_succ, List.set_cons_zero]; rfl))
  refine wpQg_call 12 #[pt u] (.bool R) rfl rfl (fun _ => by kernel_rfl) (fun w hb => HR.out w (hT.on hb)) (qA ?_ (by simp only [Act.put, List.setIfInBounds_toArray, List.set_cons_succ, List.set_cons_zero]; rfl))
  refine wpQg_pt W.heap.size u hp rfl rfl (qA ?_ (by simp only [Act.put, List.setIfInBounds_toArray, List.set_cons_succ, List.set_cons_zero]; rfl))
  refine wpQg_call 13 #[pt u] (.bool R) rfl rfl (fun _ => by kernel_rfl) (fun w _ => HRr.out w) (qA ?_ (by simp only [Act.put, List.setIfInBounds_toArray, List.set_cons_succ, List.set_cons_zero]; rfl))
  refine wpQg_run (.bool false) rfl (fun w _ => bool_neq_exec rfl R rfl rfl w) (qA ?_ (by simp only [Act.put, List.setIfInBounds_toArray, List.set_cons_succ, List.set_cons_zero]; rfl))
  refine wpQg_run (.bool false) rfl (fun _ _ => rfl) (qA ?_ (by simp only [Act.put, List.setIfInBounds_toArray, List.set_cons_succ, List.set_cons_zero]; rfl))
  refine wpQg_pt gz zn hz rfl rfl (qA ?_ (by simp only [Act.put, List.setIfInBounds_toArray, List.set_cons_succ, List.set_cons_zero]; rfl))
  refine wpQg_call 13 #[pt zn] (.bool true) rfl rfl (fun _ => by kernel_rfl) (fun w _ => HZr.out w) (qA ?_ (by simp only [Act.put, List.setIfInBounds_toArray, List.set_cons_succ, List.set_cons_zero]; rfl))
  refine wpQg_run (.bool false) rfl (fun _ _ => by kernel_rfl) (qA ?_ (by simp only [Act.put, List.setIfInBounds_toArray, List.set_cons_succ, List.set_cons_zero]; rfl))
  refine wpQg_run (.bool false) rfl (fun _ _ => by kernel_rfl) (qA ?_ (by simp only [Act.put, List.setIfInBounds_toArray, List.set_cons_succ, List.set_cons_zero]; rfl))
  refine wpQg_run (.bool false) rfl (fun _ _ => rfl) (qA ?_ (by simp only [Act.put, List.setIfInBounds_toArray, List.set_cons_succ, List.set_cons_zero]; rfl))
  refine wpQg_pt (gz + 1) bn hbs rfl rfl (qA ?_ (by simp only [Act.put, List.setIfInBounds_toArray, List.set_cons_succ, List.set_cons_zero]; rfl))
  refine wpQg_call 13 #[pt bn] (.bool true) rfl rfl (fun _ => by kernel_rfl) (fun w _ => HBr.out w) (qA ?_ (by simp only [Act.put, List.setIfInBounds_toArray, List.set_cons_succ, List.set_cons_zero]; rfl))
  refine wpQg_run (.bool false) rfl (fun _ _ => by kernel_rfl) (qA ?_ (by simp only [Act.put, List.setIfInBounds_toArray, List.set_cons_succ, List.set_cons_zero]; rfl))
  refine wpQg_run (.bool false) rfl (fun _ _ => by kernel_rfl) (qA ?_ (by simp only [Act.put, List.setIfInBounds_toArray, List.set_cons_succ, List.set_cons_zero]; rfl))
  refine wpQg_run (.bool false) rfl (fun _ _ => rfl) (qA ?_ (by simp only [Act.put, List.setIfInBounds_toArray, List.set_cons_succ, List.set_cons_zero]; rfl))
  refine wpQg_pt gz zn hz rfl rfl (qA ?_ (by simp only [Act.put, List.setIfInBounds_toArray, List.set_cons_succ, List.set_cons_zero]; rfl))
  refine wpQg_call 14 #[pt zn] (af 0 1) rfl rfl (fun _ => by kernel_rfl) (fun w _ => HZa.out w) (qA ?_ (by simp only [Act.put, List.setIfInBounds_toArray, List.set_cons_succ, List.set_cons_zero]; rfl))
  refine wpQg_run (fe 1) rfl (fun _ _ => by rw [← HO1.out]; kernel_rfl) (qA ?_ (by simp only [Act.put, List.setIfInBounds_toArray, List.set_cons_succ, List.set_cons_zero]; rfl))
  refine wpQg_run (af 0 1) rfl (fun _ _ => by rw [← HO1.out, ← HA1.out]; kernel_rfl) (qA ?_ (by simp only [Act.put, List.setIfInBounds_toArray, List.set_cons_succ, List.set_cons_zero]; rfl))
  refine wpQg_run (.bool false) rfl (fun w _ => neq_af_exec rfl 0 1 (by decide) (by decide) rfl rfl w) (qA ?_ (by simp only [Act.put, List.setIfInBounds_toArray, List.set_cons_succ, List.set_cons_zero]; rfl))
  refine wpQg_run (.bool false) rfl (fun _ _ => by kernel_rfl) (qA ?_ (by simp only [Act.put, List.setIfInBounds_toArray, List.set_cons_succ, List.set_cons_zero]; rfl))
  refine wpQg_run (.bool false) rfl (fun _ _ => rfl) (qA ?_ (by simp only [Act.put, List.setIfInBounds_toArray, List.set_cons_succ, List.set_cons_zero]; rfl))
  refine wpQg_pt (gz + 1) bn hbs rfl rfl (qA ?_ (by simp only [Act.put, List.setIfInBounds_toArray, List.set_cons_succ, List.set_cons_zero]; rfl))
  refine wpQg_call 14 #[pt bn] (af bx by0) rfl rfl (fun _ => by kernel_rfl) (fun w _ => HBa.out w) (qA ?_ (by simp only [Act.put, List.setIfInBounds_toArray, List.set_cons_succ, List.set_cons_zero]; rfl))
  refine wpQg_call 15 #[] (af bx by0) rfl rfl (fun _ => by kernel_rfl) (fun w _ => HBb.out w) (qA ?_ (by simp only [Act.put, List.setIfInBounds_toArray, List.set_cons_succ, List.set_cons_zero]; rfl))
  refine wpQg_run (.bool false) rfl (fun w _ => neq_af_exec rfl bx by0 kbx kby rfl rfl w) (qA ?_ (by simp only [Act.put, List.setIfInBounds_toArray, List.set_cons_succ, List.set_cons_zero]; rfl))
  refine wpQg_run (.bool false) rfl (fun _ _ => by kernel_rfl) (qA ?_ (by simp only [Act.put, List.setIfInBounds_toArray, List.set_cons_succ, List.set_cons_zero]; rfl))
  refine wpQg_run (.bool false) rfl (fun _ _ => rfl) (qA ?_ (by simp only [Act.put, List.setIfInBounds_toArray, List.set_cons_succ, List.set_cons_zero]; rfl))
  refine wpQg_call 16 #[] (.bool true) rfl rfl (fun _ => by kernel_rfl) (fun w hb => AL.out w (hT.on hb)) (qA ?_ (by simp only [Act.put, List.setIfInBounds_toArray, List.set_cons_succ, List.set_cons_zero]; rfl))
  refine wpQg_run (.bool false) rfl (fun _ _ => by kernel_rfl) (qA ?_ (by simp only [Act.put, List.setIfInBounds_toArray, List.set_cons_succ, List.set_cons_zero]; rfl))
  refine wpQg_run (.bool false) rfl (fun _ _ => by kernel_rfl) (qA ?_ (by simp only [Act.put, List.setIfInBounds_toArray, List.set_cons_succ, List.set_cons_zero]; rfl))
  refine wpQuiet_nil ?_
  intro w4 hb
  replace hp := hp.on hb
  replace hn := hn.on hb
  replace hbs := hbs.on hb
  replace hB := below_on hB hb
  clear hb hz hT HZa HBa HBb HZr HBr HO1 HA1 kbx kby
  have hT := hT0.out.on hB
  cases R
  case true =>
    have hs := HSame.out rfl
    subst hs
    go_wp2_with (first
      | ((with_reducible refine wpL_load W.heap.size 26 (ptA u) 16 rowPt (ptA_size _) hp ?_ ?_); rfl)
      | (go_at_call 13; (with_reducible refine (HRr.out _).mono ?_); rintro e u5 ⟨rfl, hb⟩; replace hp := hp.on hb; replace hT := hT.on hb; replace hB := below_on hB hb; clear hb)
      | (go_at_call 17; (with_reducible refine (HSa.out _ hT).mono ?_); rintro e u6 ⟨rfl, hb⟩; replace hB := below_on hB hb; clear hb))
    go_ret
    exact ⟨rfl, hB⟩
  case false =>
    have hs1 := HSn1.out rfl
    have hs2 := HSn2.out rfl
    subst hs1 hs2
    simp only [Bool.false_and, Bool.and_false, Bool.false_eq_true, if_false] at HA1' HA2 HN HM HBy
    go_upto_region 6 with (first
      | ((with_reducible refine wpL_load W.heap.size 26 (ptA u) 16 rowPt (ptA_size _) hp ?_ ?_); rfl)
      | (go_at_call 13; (with_reducible refine (HRr.out _).mono ?_); rintro e u5 ⟨rfl, hb⟩; replace hp := hp.on hb; replace hn := hn.on hb; replace hbs := hbs.on hb; replace hB := below_on hB hb; clear hb))
    clear hT
    have hT := hT0.out.on hB
    go_upto_region 7 with (first
      | ((with_reducible refine wpL_load (W.heap.size) 26 (ptA u) 16 rowPt (ptA_size _) hp ?_ ?_); rfl)
      | ((with_reducible refine wpL_load (gz + 1) 26 (ptA bn) 16 rowPt (ptA_size _) hbs ?_ ?_); rfl)
      | (go_at_call 18; (with_reducible refine (HA1'.out _ hT).mono ?_); rintro e u7 ⟨rfl, hb⟩; replace hp := hp.on hb; replace hn := hn.on hb; replace hbs := hbs.on hb; replace hB := below_on hB hb; clear hb)
      | ((with_reducible refine wpL_store u7.heap.size 26 _ (ptA noneN) 16 rowPt ?_ (ptA_size _) (ptA_one _) (Lies.new u7 _ _) ?_ ?_ ?_); rfl; rfl; rfl))
    have ha := newly_lies u7 26 z16A (ptA noneN)
    have hnw := newly u7 (.cells z16A 26) (ptA noneN)
    replace hp := hp.on hnw
    replace hn := hn.on hnw
    replace hbs := hbs.on hnw
    replace hB := below_on hB hnw
    clear hnw hT
    generalize World.setRow _ _ _ = w7 at *
    generalize u7.heap.size = gha at *
    have hT := hT0.out.on hB
    go_upto_region 8 with (first
      | ((with_reducible refine wpL_load (gz + 1) 26 (ptA bn) 16 rowPt (ptA_size _) hbs ?_ ?_); rfl)
      | ((with_reducible refine wpL_load (W.heap.size) 26 (ptA u) 16 rowPt (ptA_size _) hp ?_ ?_); rfl)
      | (go_at_call 18; (with_reducible refine (HA2.out _ hT).mono ?_); rintro e u8 ⟨rfl, hb⟩; replace hp := hp.on hb; replace hn := hn.on hb; replace hbs := hbs.on hb; replace ha := ha.on hb; replace hB := below_on hB hb; clear hb)
      | ((with_reducible refine wpL_store u8.heap.size 26 _ (ptA noneN) 16 rowPt ?_ (ptA_size _) (ptA_one _) (Lies.new u8 _ _) ?_ ?_ ?_); rfl; rfl; rfl))
    have hb1 := newly_lies u8 26 z16A (ptA noneN)
    have hnw := newly u8 (.cells z16A 26) (ptA noneN)
    replace hp := hp.on hnw
    replace hn := hn.on hnw
    replace hbs := hbs.on hnw
    replace ha := ha.on hnw
    replace hB := below_on hB hnw
    clear hnw hT
    generalize World.setRow _ _ _ = w8 at *
    generalize u8.heap.size = ghb1 at *
    have hT := hT0.out.on hB
    go_upto_region 9 with (first
      | ((with_reducible refine wpL_load (W.heap.size) 26 (ptA u) 16 rowPt (ptA_size _) hp ?_ ?_); rfl)
      | (go_at_call 19; (with_reducible refine (HN.out _ hT).mono ?_); rintro e u9 ⟨rfl, hb⟩; replace hp := hp.on hb; replace hn := hn.on hb; replace hbs := hbs.on hb; replace ha := ha.on hb; replace hb1 := hb1.on hb; replace hB := below_on hB hb; clear hb)
      | ((with_reducible refine wpL_store u9.heap.size 26 _ (ptA noneN) 16 rowPt ?_ (ptA_size _) (ptA_one _) (Lies.new u9 _ _) ?_ ?_ ?_); rfl; rfl; rfl))
    have hc := newly_lies u9 26 z16A (ptA noneN)
    have hnw := newly u9 (.cells z16A 26) (ptA noneN)
    replace hp := hp.on hnw
    replace hn := hn.on hnw
    replace hbs := hbs.on hnw
    replace ha := ha.on hnw
    replace hb1 := hb1.on hnw
    replace hB := below_on hB hnw
    clear hnw hT
    generalize World.setRow _ _ _ = w9 at *
    generalize u9.heap.size = ghc at *
    have hT := hT0.out.on hB
    go_upto_region 10 with (first
      | ((with_reducible refine wpL_load (W.heap.size + 1) 27 (feA n) 4 rowSc (feA_size _) hn ?_ ?_); rfl)
      | ((with_reducible refine wpL_load (W.heap.size) 26 (ptA u) 16 rowPt (ptA_size _) hp ?_ ?_); rfl)
      | (go_at_call 20; (with_reducible refine (HM.out _ hT).mono ?_); rintro e u10 ⟨rfl, hb⟩; replace hp := hp.on hb; replace hn := hn.on hb; replace hbs := hbs.on hb; replace ha := ha.on hb; replace hb1 := hb1.on hb; replace hc := hc.on hb; replace hB := below_on hB hb; clear hb)
      | ((with_reducible refine wpL_store u10.heap.size 26 _ (ptA noneN) 16 rowPt ?_ (ptA_size _) (ptA_one _) (Lies.new u10 _ _) ?_ ?_ ?_); rfl; rfl; rfl))
    have hd := newly_lies u10 26 z16A (ptA noneN)
    have hnw := newly u10 (.cells z16A 26) (ptA noneN)
    replace hp := hp.on hnw
    replace hn := hn.on hnw
    replace hbs := hbs.on hnw
    replace ha := ha.on hnw
    replace hb1 := hb1.on hnw
    replace hc := hc.on hnw
    replace hB := below_on hB hnw
    clear hnw hT
    generalize World.setRow _ _ _ = w10 at *
    generalize u10.heap.size = ghd at *
    have hT := hT0.out.on hB
    go_upto_region 11 with (first
      | ((with_reducible refine wpL_load (W.heap.size) 26 (ptA u) 16 rowPt (ptA_size _) hp ?_ ?_); rfl)
      | (go_at_call 21; (with_reducible refine (HBy.out _ hT).mono ?_); rintro e u11 ⟨rfl, hb⟩; replace hp := hp.on hb; replace hbs := hbs.on hb; replace ha := ha.on hb; replace hb1 := hb1.on hb; replace hc := hc.on hb; replace hd := hd.on hb; replace hB := below_on hB hb; clear hb))
    clear hT
    go_upto_region 12 with (first
      | ((with_reducible refine wpL_bld (pt noneN) ?_ ?_); kernel_rfl)
      | ((with_reducible refine wpL_store u11.heap.size 26 _ (ptA noneN) 16 rowPt ?_ (ptA_size _) (ptA_one _) (Lies.new u11 _ _) ?_ ?_ ?_); rfl; rfl; rfl))
    have ho := newly_lies u11 26 z16A (ptA noneN)
    have hnw := newly u11 (.cells z16A 26) (ptA noneN)
    replace hp := hp.on hnw
    replace hbs := hbs.on hnw
    replace ha := ha.on hnw
    replace hb1 := hb1.on hnw
    replace hc := hc.on hnw
    replace hd := hd.on hnw
    replace hB := below_on hB hnw
    clear hnw
    generalize World.setRow _ _ _ = w12 at *
    generalize u11.heap.size = gho at *
    have hT := hT0.out.on hB
    go_wp2_with (first
      | ((with_reducible refine wpL_load_g W.heap.size 26 (ptA u) 16 rowPt (ptA_size _) hp ?_ ?_ ?_); rfl; rfl)
      | ((with_reducible refine wpL_load_g (gz + 1) 26 (ptA bn) 16 rowPt (ptA_size _) hbs ?_ ?_ ?_); rfl; rfl)
      | ((with_reducible refine wpL_load_g gha 26 (ptA noneN) 16 rowPt (ptA_size _) ha ?_ ?_ ?_); rfl; rfl)
      | ((with_reducible refine wpL_load_g ghb1 26 (ptA noneN) 16 rowPt (ptA_size _) hb1 ?_ ?_ ?_); rfl; rfl)
      | ((with_reducible refine wpL_load_g ghc 26 (ptA noneN) 16 rowPt (ptA_size _) hc ?_ ?_ ?_); rfl; rfl)
      | ((with_reducible refine wpL_load_g ghd 26 (ptA noneN) 16 rowPt (ptA_size _) hd ?_ ?_ ?_); rfl; rfl)
      | ((with_reducible refine wpL_load_g gho 26 (ptA noneN) 16 rowPt (ptA_size _) ho ?_ ?_ ?_); rfl; rfl)
      | (go_at_call 17; (with_reducible refine (HS1.out _ hT).mono ?_); rintro e u13 ⟨rfl, hb⟩; replace hp := hp.on hb; replace hbs := hbs.on hb; replace hT := hT.on hb; replace hB := below_on hB hb; clear hb)
      | (go_at_call 17; (with_reducible refine (HS2.out _ hT).mono ?_); rintro e u14 ⟨rfl, hb⟩; replace hp := hp.on hb; replace hbs := hbs.on hb; replace hT := hT.on hb; replace hB := below_on hB hb; clear hb))
    go_ret
    exact ⟨rfl, hB⟩
end Go.Proofs.YtfleimaoaicolaaDoor.C
