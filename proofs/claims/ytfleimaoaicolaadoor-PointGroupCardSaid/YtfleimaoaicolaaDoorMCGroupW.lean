/- What is proved: whatever three numbers and way of being told the statement of the group is called with, it answers true, if the points' functions keep their contracts. -/
import Derived.Test.YtfleimaoaicolaaDoorLot12
namespace Go.Proofs.YtfleimaoaicolaaDoor.C
open Go.RowKit Go.Sort Go.Proofs.YtfleimaoaicolaaDoor.F
set_option maxRecDepth 100000
attribute [local irreducible] feA ptA

set_option maxHeartbeats 3200000 in
theorem group_walk (A : Pts PtTab) (n m k zz : Nat) (hn : n < K256) (hm : m < K256) (hk : k < K256) (hz : zz < 18446744073709551616) (W : World) (hT : PtTab W) :
    Calls Tryd.prog 6 #[fe n, fe m, fe k, w64 zz] W fun e w' => e = .returned (.bool true) ∧ Below W.heap.size W w' := by
  have hT0 := Lib.hid hT
  have kp : Pn (A.s n zz) (Bp.smul n) := A.some_pn hn hz
  have kq : Pn (A.s m (zz / 512)) (Bp.smul m) := A.some_pn hm (by omega)
  have kr : Pn (A.s k (zz / 1048576)) (Bp.smul k) := A.some_pn hk (by omega)
  have C1 := Lib.hid (fun w hT => A.some (n := n) (k := zz) w hn hz hT)
  have C2 := Lib.hid (fun w hT => A.some (n := m) (k := zz / 512) w hm (by omega) hT)
  have C3 := Lib.hid (fun w hT => A.some (n := k) (k := zz / 1048576) w hk (by omega) hT)
  rw [show w64 (zz / 512) = .int .u64 ((zz : Int) / 512) from w64_div zz 512] at C2
  rw [show w64 (zz / 1048576) = .int .u64 ((zz : Int) / 1048576) from w64_div zz 1048576] at C3
  generalize A.s n zz = p at *
  generalize A.s m (zz / 512) = q at *
  generalize A.s k (zz / 1048576) = r at *
  have op := kp.on
  have oq := kq.on
  have o_r := kr.on
  generalize Bp.smul n = P at *
  generalize Bp.smul m = Q at *
  generalize Bp.smul k = R at *
  have kpq := A.add_pn kp kq
  have Dpq := Lib.hid (fun w hT => A.add w kp kq hT)
  generalize A.f p q = pq at *
  have kqp := A.add_pn kq kp
  have Dqp := Lib.hid (fun w hT => A.add w kq kp hT)
  generalize A.f q p = qp at *
  have kqr := A.add_pn kq kr
  have Dqr := Lib.hid (fun w hT => A.add w kq kr hT)
  generalize A.f q r = qr at *
  have kx := A.add_pn kpq kr
  have Dx := Lib.hid (fun w hT => A.add w kpq kr hT)
  generalize A.f pq r = x at *
  have ky := A.add_pn kp kqr
  have Dy := Lib.hid (fun w hT => A.add w kp kqr hT)
  generalize A.f p qr = y at *
  have kt := A.neg_pn kp
  have Dt := Lib.hid (fun w hT => A.neg w kp hT)
  generalize A.g p = t at *
  have kno := A.add_pn kp kt
  have Dno := Lib.hid (fun w hT => A.add w kp kt hT)
  generalize A.f p t = no at *
  have ksa := A.add_pn kp zero_pn
  have Dsa := Lib.hid (fun w hT => A.add w kp zero_pn hT)
  generalize A.f p zeroN = sa at *
  have E1 := Lib.hid (fun w hT => A.same w kpq kqp hT)
  rw [Pt.add_comm Q P, ptEq_self] at E1
  have E2 := Lib.hid (fun w hT => A.same w kx ky hT)
  rw [Pt.add_assoc op oq o_r, ptEq_self] at E2
  have E3 := Lib.hid (fun w hT => A.same w kno zero_pn hT)
  rw [Pt.add_neg op, ptEq_self] at E3
  have E4 := Lib.hid (fun w hT => A.same w ksa kp hT)
  rw [Pt.add_zero op, ptEq_self] at E4
  have Z := Lib.hid (fun w hT => A.zero w hT)
  have AL := Lib.hid (fun w hT => A.alive w hT)
  clear kp kq kr kpq kqp kqr kx ky kt kno ksa op oq o_r hn hm hk hz
  clear A
  go_enter Tryd.func6, Tryd.ntmps6
  have h1 := ((Lies.new W 27 (feA n)).alloc (.cells (feA m) 27)).alloc (.cells (feA k) 27)
  have h2 : Lies ((W.alloc (.cells (feA n) 27)).alloc (.cells (feA m) 27)) (W.heap.size + 1) 27 (feA m) := heap_alloc2_new W _ _
  replace h2 := h2.alloc (.cells (feA k) 27)
  have h3 := lies3 W (.cells (feA n) 27) (.cells (feA m) 27) 27 (feA k)
  have hB := (((Below.refl W.heap.size W).alloc (Nat.le_refl _) (.cells (feA n) 27)).alloc (by simp) (.cells (feA m) 27)).alloc (by simp; omega) (.cells (feA k) 27)
  clear hT
  go_upto_region 1 with fail
  generalize World.alloc (World.alloc (World.alloc W _) _) _ = w0 at *
  have hT := hT0.out.on hB
  go_upto_region 2 with (first
    | ((with_reducible refine wpL_load (W.heap.size) 27 (feA n) 4 rowSc (feA_size _) h1 ?_ ?_); rfl)
    | (go_at_call 22; (with_reducible refine (C1.out _ hT).mono ?_); rintro e uw1 ⟨rfl, hb⟩; replace h1 := h1.on hb; replace h2 := h2.on hb; replace h3 := h3.on hb; replace hB := below_on hB hb; clear hb)
    | ((with_reducible refine wpL_store uw1.heap.size 26 _ (ptA p) 16 rowPt ?_ (ptA_size _) (ptA_one _) (Lies.new uw1 _ _) ?_ ?_ ?_); rfl; rfl; rfl))
  have hp := newly_lies uw1 26 z16A (ptA p)
  have hnw := newly uw1 (.cells z16A 26) (ptA p)
  replace h1 := h1.on hnw
  replace h2 := h2.on hnw
  replace h3 := h3.on hnw
  replace hB := below_on hB hnw
  clear hnw hT
  generalize World.setRow _ _ _ = w1 at *
  generalize uw1.heap.size = gp at *
  clear h1
  have hT := hT0.out.on hB
  go_upto_region 3 with (first
    | ((with_reducible refine wpL_load (W.heap.size + 1) 27 (feA m) 4 rowSc (feA_size _) h2 ?_ ?_); rfl)
    | (go_at_call 22; (with_reducible refine (C2.out _ hT).mono ?_); rintro e uw2 ⟨rfl, hb⟩; replace h2 := h2.on hb; replace h3 := h3.on hb; replace hp := hp.on hb; replace hB := below_on hB hb; clear hb)
    | ((with_reducible refine wpL_store uw2.heap.size 26 _ (ptA q) 16 rowPt ?_ (ptA_size _) (ptA_one _) (Lies.new uw2 _ _) ?_ ?_ ?_); rfl; rfl; rfl))
  have hq := newly_lies uw2 26 z16A (ptA q)
  have hnw := newly uw2 (.cells z16A 26) (ptA q)
  replace h2 := h2.on hnw
  replace h3 := h3.on hnw
  replace hp := hp.on hnw
  replace hB := below_on hB hnw
  clear hnw hT
  generalize World.setRow _ _ _ = w2 at *
  generalize uw2.heap.size = gq at *
  clear h2
  have hT := hT0.out.on hB
  go_upto_region 4 with (first
    | ((with_reducible refine wpL_load (W.heap.size + 2) 27 (feA k) 4 rowSc (feA_size _) h3 ?_ ?_); rfl)
    | (go_at_call 22; (with_reducible refine (C3.out _ hT).mono ?_); rintro e uw3 ⟨rfl, hb⟩; replace h3 := h3.on hb; replace hp := hp.on hb; replace hq := hq.on hb; replace hB := below_on hB hb; clear hb)
    | ((with_reducible refine wpL_store uw3.heap.size 26 _ (ptA r) 16 rowPt ?_ (ptA_size _) (ptA_one _) (Lies.new uw3 _ _) ?_ ?_ ?_); rfl; rfl; rfl))
  have hr := newly_lies uw3 26 z16A (ptA r)
  have hnw := newly uw3 (.cells z16A 26) (ptA r)
  replace h3 := h3.on hnw
  replace hp := hp.on hnw
  replace hq := hq.on hnw
  replace hB := below_on hB hnw
  clear hnw hT
  generalize World.setRow _ _ _ = w3 at *
  generalize uw3.heap.size = gr at *
  clear h3
  have hT := hT0.out.on hB
  go_upto_region 5 with (first
    | ((with_reducible refine wpL_load (gp) 26 (ptA p) 16 rowPt (ptA_size _) hp ?_ ?_); rfl)
    | ((with_reducible refine wpL_load (gq) 26 (ptA q) 16 rowPt (ptA_size _) hq ?_ ?_); rfl)
    | (go_at_call 18; (with_reducible refine (Dpq.out _ hT).mono ?_); rintro e uw4 ⟨rfl, hb⟩; replace hp := hp.on hb; replace hq := hq.on hb; replace hr := hr.on hb; replace hB := below_on hB hb; clear hb)
    | ((with_reducible refine wpL_store uw4.heap.size 26 _ (ptA pq) 16 rowPt ?_ (ptA_size _) (ptA_one _) (Lies.new uw4 _ _) ?_ ?_ ?_); rfl; rfl; rfl))
  have hpq := newly_lies uw4 26 z16A (ptA pq)
  have hnw := newly uw4 (.cells z16A 26) (ptA pq)
  replace hp := hp.on hnw
  replace hq := hq.on hnw
  replace hr := hr.on hnw
  replace hB := below_on hB hnw
  clear hnw hT
  generalize World.setRow _ _ _ = w4 at *
  generalize uw4.heap.size = gpq at *
  have hT := hT0.out.on hB
  go_upto_region 6 with (first
    | ((with_reducible refine wpL_load (gq) 26 (ptA q) 16 rowPt (ptA_size _) hq ?_ ?_); rfl)
    | ((with_reducible refine wpL_load (gp) 26 (ptA p) 16 rowPt (ptA_size _) hp ?_ ?_); rfl)
    | (go_at_call 18; (with_reducible refine (Dqp.out _ hT).mono ?_); rintro e uw5 ⟨rfl, hb⟩; replace hp := hp.on hb; replace hq := hq.on hb; replace hr := hr.on hb; replace hpq := hpq.on hb; replace hB := below_on hB hb; clear hb)
    | ((with_reducible refine wpL_store uw5.heap.size 26 _ (ptA qp) 16 rowPt ?_ (ptA_size _) (ptA_one _) (Lies.new uw5 _ _) ?_ ?_ ?_); rfl; rfl; rfl))
  have hqp := newly_lies uw5 26 z16A (ptA qp)
  have hnw := newly uw5 (.cells z16A 26) (ptA qp)
  replace hp := hp.on hnw
  replace hq := hq.on hnw
  replace hr := hr.on hnw
  replace hpq := hpq.on hnw
  replace hB := below_on hB hnw
  clear hnw hT
  generalize World.setRow _ _ _ = w5 at *
  generalize uw5.heap.size = gqp at *
  have hT := hT0.out.on hB
  go_upto_region 7 with (first
    | ((with_reducible refine wpL_load (gq) 26 (ptA q) 16 rowPt (ptA_size _) hq ?_ ?_); rfl)
    | ((with_reducible refine wpL_load (gr) 26 (ptA r) 16 rowPt (ptA_size _) hr ?_ ?_); rfl)
    | (go_at_call 18; (with_reducible refine (Dqr.out _ hT).mono ?_); rintro e uw6 ⟨rfl, hb⟩; replace hp := hp.on hb; replace hq := hq.on hb; replace hr := hr.on hb; replace hpq := hpq.on hb; replace hqp := hqp.on hb; replace hB := below_on hB hb; clear hb)
    | ((with_reducible refine wpL_store uw6.heap.size 26 _ (ptA qr) 16 rowPt ?_ (ptA_size _) (ptA_one _) (Lies.new uw6 _ _) ?_ ?_ ?_); rfl; rfl; rfl))
  have hqr := newly_lies uw6 26 z16A (ptA qr)
  have hnw := newly uw6 (.cells z16A 26) (ptA qr)
  replace hp := hp.on hnw
  replace hq := hq.on hnw
  replace hr := hr.on hnw
  replace hpq := hpq.on hnw
  replace hqp := hqp.on hnw
  replace hB := below_on hB hnw
  clear hnw hT
  generalize World.setRow _ _ _ = w6 at *
  generalize uw6.heap.size = gqr at *
  have hT := hT0.out.on hB
  go_upto_region 8 with (first
    | ((with_reducible refine wpL_load (gpq) 26 (ptA pq) 16 rowPt (ptA_size _) hpq ?_ ?_); rfl)
    | ((with_reducible refine wpL_load (gr) 26 (ptA r) 16 rowPt (ptA_size _) hr ?_ ?_); rfl)
    | (go_at_call 18; (with_reducible refine (Dx.out _ hT).mono ?_); rintro e uw7 ⟨rfl, hb⟩; replace hp := hp.on hb; replace hq := hq.on hb; replace hr := hr.on hb; replace hpq := hpq.on hb; replace hqp := hqp.on hb; replace hqr := hqr.on hb; replace hB := below_on hB hb; clear hb)
    | ((with_reducible refine wpL_store uw7.heap.size 26 _ (ptA x) 16 rowPt ?_ (ptA_size _) (ptA_one _) (Lies.new uw7 _ _) ?_ ?_ ?_); rfl; rfl; rfl))
  have hx := newly_lies uw7 26 z16A (ptA x)
  have hnw := newly uw7 (.cells z16A 26) (ptA x)
  replace hp := hp.on hnw
  replace hq := hq.on hnw
  replace hr := hr.on hnw
  replace hpq := hpq.on hnw
  replace hqp := hqp.on hnw
  replace hqr := hqr.on hnw
  replace hB := below_on hB hnw
  clear hnw hT
  generalize World.setRow _ _ _ = w7 at *
  generalize uw7.heap.size = gx at *
  have hT := hT0.out.on hB
  go_upto_region 9 with (first
    | ((with_reducible refine wpL_load (gp) 26 (ptA p) 16 rowPt (ptA_size _) hp ?_ ?_); rfl)
    | ((with_reducible refine wpL_load (gqr) 26 (ptA qr) 16 rowPt (ptA_size _) hqr ?_ ?_); rfl)
    | (go_at_call 18; (with_reducible refine (Dy.out _ hT).mono ?_); rintro e uw8 ⟨rfl, hb⟩; replace hp := hp.on hb; replace hq := hq.on hb; replace hr := hr.on hb; replace hpq := hpq.on hb; replace hqp := hqp.on hb; replace hqr := hqr.on hb; replace hx := hx.on hb; replace hB := below_on hB hb; clear hb)
    | ((with_reducible refine wpL_store uw8.heap.size 26 _ (ptA y) 16 rowPt ?_ (ptA_size _) (ptA_one _) (Lies.new uw8 _ _) ?_ ?_ ?_); rfl; rfl; rfl))
  have hy := newly_lies uw8 26 z16A (ptA y)
  have hnw := newly uw8 (.cells z16A 26) (ptA y)
  replace hp := hp.on hnw
  replace hq := hq.on hnw
  replace hr := hr.on hnw
  replace hpq := hpq.on hnw
  replace hqp := hqp.on hnw
  replace hqr := hqr.on hnw
  replace hx := hx.on hnw
  replace hB := below_on hB hnw
  clear hnw hT
  generalize World.setRow _ _ _ = w8 at *
  generalize uw8.heap.size = gy at *
  clear hq
  clear hr
  clear hqr
  have hT := hT0.out.on hB
  go_upto_region 10 with (first
    | ((with_reducible refine wpL_load (gp) 26 (ptA p) 16 rowPt (ptA_size _) hp ?_ ?_); rfl)
    | (go_at_call 19; (with_reducible refine (Dt.out _ hT).mono ?_); rintro e uw9 ⟨rfl, hb⟩; replace hp := hp.on hb; replace hpq := hpq.on hb; replace hqp := hqp.on hb; replace hx := hx.on hb; replace hy := hy.on hb; replace hB := below_on hB hb; clear hb)
    | ((with_reducible refine wpL_store uw9.heap.size 26 _ (ptA t) 16 rowPt ?_ (ptA_size _) (ptA_one _) (Lies.new uw9 _ _) ?_ ?_ ?_); rfl; rfl; rfl))
  have ht := newly_lies uw9 26 z16A (ptA t)
  have hnw := newly uw9 (.cells z16A 26) (ptA t)
  replace hp := hp.on hnw
  replace hpq := hpq.on hnw
  replace hqp := hqp.on hnw
  replace hx := hx.on hnw
  replace hy := hy.on hnw
  replace hB := below_on hB hnw
  clear hnw hT
  generalize World.setRow _ _ _ = w9 at *
  generalize uw9.heap.size = gt at *
  have hT := hT0.out.on hB
  go_upto_region 11 with (first
    | ((with_reducible refine wpL_load (gp) 26 (ptA p) 16 rowPt (ptA_size _) hp ?_ ?_); rfl)
    | ((with_reducible refine wpL_load (gt) 26 (ptA t) 16 rowPt (ptA_size _) ht ?_ ?_); rfl)
    | (go_at_call 18; (with_reducible refine (Dno.out _ hT).mono ?_); rintro e uw10 ⟨rfl, hb⟩; replace hp := hp.on hb; replace hpq := hpq.on hb; replace hqp := hqp.on hb; replace hx := hx.on hb; replace hy := hy.on hb; replace ht := ht.on hb; replace hB := below_on hB hb; clear hb)
    | ((with_reducible refine wpL_store uw10.heap.size 26 _ (ptA no) 16 rowPt ?_ (ptA_size _) (ptA_one _) (Lies.new uw10 _ _) ?_ ?_ ?_); rfl; rfl; rfl))
  have hno := newly_lies uw10 26 z16A (ptA no)
  have hnw := newly uw10 (.cells z16A 26) (ptA no)
  replace hp := hp.on hnw
  replace hpq := hpq.on hnw
  replace hqp := hqp.on hnw
  replace hx := hx.on hnw
  replace hy := hy.on hnw
  replace ht := ht.on hnw
  replace hB := below_on hB hnw
  clear hnw hT
  generalize World.setRow _ _ _ = w10 at *
  generalize uw10.heap.size = gno at *
  clear ht
  have hT := hT0.out.on hB
  refine wp_region_made_late 5 7 6 29 _ 26 z16A rfl rfl (by kernel_rfl) (by kernel_rfl) (by kernel_rfl) (alloc_pt rfl) ?_
  simp only [addEdge, List.take_succ_cons, List.take_zero, List.drop_succ_cons, List.drop_zero]
  refine wpQB_pt (gp) (p) hp rfl ?_
  simp only [Act.put, List.setIfInBounds_toArray, List.set_cons_succ, List.set_cons_zero]
  refine wpQB_call 10 #[] (pt zeroN) rfl rfl (fun _ => by kernel_rfl) (fun w hb => Z.out w (hT.on hb)) ?_
  simp only [Act.put, List.setIfInBounds_toArray, List.set_cons_succ, List.set_cons_zero]
  refine wpQB_call 18 #[pt p, pt zeroN] (.tuple #[pt sa, .int .i64 0]) rfl rfl (fun _ => by kernel_rfl) (fun w hb => Dsa.out w (hT.on hb)) ?_
  simp only [Act.put, List.setIfInBounds_toArray, List.set_cons_succ, List.set_cons_zero]
  refine wpQB_move ?_
  simp only [Act.put, List.setIfInBounds_toArray, List.set_cons_succ, List.set_cons_zero]
  refine wpQB_run (pt sa) rfl (fun _ _ => by kernel_rfl) ?_
  simp only [Act.put, List.setIfInBounds_toArray, List.set_cons_succ, List.set_cons_zero]
  refine wpQB_run (.int .i64 0) rfl (fun _ _ => by kernel_rfl) ?_
  simp only [Act.put, List.setIfInBounds_toArray, List.set_cons_succ, List.set_cons_zero]
  refine wpQB_nil ?_
  intro gsa w11 hb hksa hfresh
  simp only [List.setIfInBounds_toArray, List.set_cons_succ, List.set_cons_zero]
  replace hfresh : Lies w11 gsa 26 z16A := hfresh
  have hl := hp.lt
  replace hp := (hp.on hb).rowFar (show gp ≠ gsa by omega) (ptA (sa))
  clear hl
  have hl := hpq.lt
  replace hpq := (hpq.on hb).rowFar (show gpq ≠ gsa by omega) (ptA (sa))
  clear hl
  have hl := hqp.lt
  replace hqp := (hqp.on hb).rowFar (show gqp ≠ gsa by omega) (ptA (sa))
  clear hl
  have hl := hx.lt
  replace hx := (hx.on hb).rowFar (show gx ≠ gsa by omega) (ptA (sa))
  clear hl
  have hl := hy.lt
  replace hy := (hy.on hb).rowFar (show gy ≠ gsa by omega) (ptA (sa))
  clear hl
  have hl := hno.lt
  replace hno := (hno.on hb).rowFar (show gno ≠ gsa by omega) (ptA (sa))
  clear hl
  have hsz := hB.size
  replace hB := below_rowSet (below_on hB hb) (show W.heap.size ≤ gsa by omega) (ptA (sa))
  have hsa := hfresh.row (ptA (sa))
  clear hb hT hksa hsz
  go_upto_region 12 with ((with_reducible refine wpL_store gsa 26 _ (ptA (sa)) 16 rowPt rfl (ptA_size _) (ptA_one _) hfresh ?_ ?_ ?_); rfl; rfl)
  clear hfresh
  generalize World.setRow _ _ _ = w11b at *
  have hT := hT0.out.on hB
  go_upto_region 14 with (first
    | (go_at_call 16; (with_reducible refine (AL.out _ hT).mono ?_); rintro e uw11 ⟨rfl, hb⟩; replace hp := hp.on hb; replace hpq := hpq.on hb; replace hqp := hqp.on hb; replace hx := hx.on hb; replace hy := hy.on hb; replace hno := hno.on hb; replace hsa := hsa.on hb; replace hB := below_on hB hb; clear hb))
  have hT := hT0.out.on hB
  refine wp_region_all_g (by kernel_rfl) (by kernel_rfl) ?_
  refine wpQg_pt (gpq) (pq) hpq rfl rfl ?_
  simp only [Act.put, List.setIfInBounds_toArray, List.set_cons_succ, List.set_cons_zero]
  refine wpQg_pt (gqp) (qp) hqp rfl rfl ?_
  simp only [Act.put, List.setIfInBounds_toArray, List.set_cons_succ, List.set_cons_zero]
  refine wpQg_call 17 #[pt pq, pt qp] (.bool true) rfl rfl (fun _ => by kernel_rfl) (fun w hb => E1.out w (hT.on hb)) ?_
  simp only [Act.put, List.setIfInBounds_toArray, List.set_cons_succ, List.set_cons_zero]
  refine wpQg_move rfl ?_
  simp only [Act.put, List.setIfInBounds_toArray, List.set_cons_succ, List.set_cons_zero]
  refine wpQg_pt (gx) (x) hx rfl rfl ?_
  simp only [Act.put, List.setIfInBounds_toArray, List.set_cons_succ, List.set_cons_zero]
  refine wpQg_pt (gy) (y) hy rfl rfl ?_
  simp only [Act.put, List.setIfInBounds_toArray, List.set_cons_succ, List.set_cons_zero]
  refine wpQg_call 17 #[pt x, pt y] (.bool true) rfl rfl (fun _ => by kernel_rfl) (fun w hb => E2.out w (hT.on hb)) ?_
  simp only [Act.put, List.setIfInBounds_toArray, List.set_cons_succ, List.set_cons_zero]
  refine wpQg_run (.bool true) rfl (fun _ _ => by kernel_rfl) ?_
  simp only [Act.put, List.setIfInBounds_toArray, List.set_cons_succ, List.set_cons_zero]
  refine wpQg_move rfl ?_
  simp only [Act.put, List.setIfInBounds_toArray, List.set_cons_succ, List.set_cons_zero]
  refine wpQg_pt (gno) (no) hno rfl rfl ?_
  simp only [Act.put, List.setIfInBounds_toArray, List.set_cons_succ, List.set_cons_zero]
  refine wpQg_call 10 #[] (pt zeroN) rfl rfl (fun _ => by kernel_rfl) (fun w hb => Z.out w (hT.on hb)) ?_
  simp only [Act.put, List.setIfInBounds_toArray, List.set_cons_succ, List.set_cons_zero]
  refine wpQg_call 17 #[pt no, pt zeroN] (.bool true) rfl rfl (fun _ => by kernel_rfl) (fun w hb => E3.out w (hT.on hb)) ?_
  simp only [Act.put, List.setIfInBounds_toArray, List.set_cons_succ, List.set_cons_zero]
  refine wpQg_run (.bool true) rfl (fun _ _ => by kernel_rfl) ?_
  simp only [Act.put, List.setIfInBounds_toArray, List.set_cons_succ, List.set_cons_zero]
  refine wpQg_move rfl ?_
  simp only [Act.put, List.setIfInBounds_toArray, List.set_cons_succ, List.set_cons_zero]
  refine wpQg_pt (gsa) (sa) hsa rfl rfl ?_
  simp only [Act.put, List.setIfInBounds_toArray, List.set_cons_succ, List.set_cons_zero]
  refine wpQg_pt (gp) (p) hp rfl rfl ?_
  simp only [Act.put, List.setIfInBounds_toArray, List.set_cons_succ, List.set_cons_zero]
  refine wpQg_call 17 #[pt sa, pt p] (.bool true) rfl rfl (fun _ => by kernel_rfl) (fun w hb => E4.out w (hT.on hb)) ?_
  simp only [Act.put, List.setIfInBounds_toArray, List.set_cons_succ, List.set_cons_zero]
  refine wpQg_run (.bool true) rfl (fun _ _ => by kernel_rfl) ?_
  simp only [Act.put, List.setIfInBounds_toArray, List.set_cons_succ, List.set_cons_zero]
  refine wpQg_run (.bool true) rfl (fun _ _ => rfl) ?_
  simp only [Act.put, List.setIfInBounds_toArray, List.set_cons_succ, List.set_cons_zero]
  refine wpQuiet_nil ?_
  intro wz hb
  replace hB := below_on hB hb
  go_wp2_with fail
  go_ret
  exact ⟨rfl, hB⟩
end Go.Proofs.YtfleimaoaicolaaDoor.C
