/- What is proved: whatever two numbers the statement of so many times is called with, it answers true, if the points' functions keep their contracts. -/
import Derived.Test.YtfleimaoaicolaaDoorLot12
namespace Go.Proofs.YtfleimaoaicolaaDoor.C
open Go.RowKit Go.Sort Go.Proofs.YtfleimaoaicolaaDoor.F
set_option maxRecDepth 100000
attribute [local irreducible] feA ptA

set_option maxHeartbeats 3200000 in
theorem linear_walk (A : Pts PtTab) (n m : Nat) (hn : n < K256) (hm : m < K256) (W : World) (hT : PtTab W) (hG : G.Tab W) :
    Calls Tryd.prog 9 #[fe n, fe m] W fun e w' => e = .returned (.bool true) ∧ Below W.heap.size W w' := by
  have hT0 := Lib.hid hT
  have hG0 := Lib.hid hG
  have kp := A.mul_pn hn base_pn
  have kq := A.mul_pn hm base_pn
  have Dp := Lib.hid (fun w hT => A.mul w hn base_pn hT)
  have Dq := Lib.hid (fun w hT => A.mul w hm base_pn hT)
  generalize A.m n baseN = p at *
  generalize A.m m baseN = q at *
  have kpq := A.add_pn kp kq
  have Dpq := Lib.hid (fun w hT => A.add w kp kq hT)
  generalize A.f p q = pq at *
  have SA := Lib.hid (fun w hG => G.sAdd_any n m w hn hm hG)
  have SM := Lib.hid (fun w hG => G.sMul_any n m w hn hm hG)
  have ks := G.modL_K (n + m)
  have km := G.modL_K (n * m)
  have hs : Bp.smul ((n + m) % G.l25) = (Bp.smul n).add (Bp.smul m) := by
    rw [show G.l25 = l25' from rfl, Pt.smul_mod Bp_on Bp_order, Pt.smul_add Bp_on]
  have hmu : Bp.smul (n * m % G.l25) = (Bp.smul n).smul m := by
    rw [show G.l25 = l25' from rfl, Pt.smul_mod Bp_on Bp_order, Pt.smul_mul Bp_on]
  generalize (n + m) % G.l25 = sn at *
  generalize n * m % G.l25 = mn at *
  have kbo := A.mul_pn ks base_pn
  have Dbo := Lib.hid (fun w hT => A.mul w ks base_pn hT)
  generalize A.m sn baseN = bo at *
  have kr := A.mul_pn hm kp
  have Dr := Lib.hid (fun w hT => A.mul w hm kp hT)
  generalize A.m m p = r at *
  have kal := A.mul_pn km base_pn
  have Dal := Lib.hid (fun w hT => A.mul w km base_pn hT)
  generalize A.m mn baseN = al at *
  have E1 := Lib.hid (fun w hT => A.same w kpq kbo hT)
  rw [hs, ptEq_self] at E1
  have E2 := Lib.hid (fun w hT => A.same w kr kal hT)
  rw [hmu, ptEq_self] at E2
  have B := Lib.hid (fun w hT => A.base w hT)
  have AL := Lib.hid (fun w hT => A.alive w hT)
  clear kp kq kpq ks km hs hmu kbo kr kal hn hm A
  go_enter Tryd.func9, Tryd.ntmps9
  have h1 := (Lies.new W 27 (feA n)).alloc (.cells (feA m) 27)
  have h2 : Lies ((W.alloc (.cells (feA n) 27)).alloc (.cells (feA m) 27)) (W.heap.size + 1) 27 (feA m) := heap_alloc2_new W _ _
  have hB := ((Below.refl W.heap.size W).alloc (Nat.le_refl _) (.cells (feA n) 27)).alloc (by simp) (.cells (feA m) 27)
  clear hT hG
  go_upto_region 1 with fail
  generalize World.alloc (World.alloc W _) _ = w0 at *
  have hT := hT0.out.on hB
  go_upto_region 2 with (first
    | (go_at_call 11; (with_reducible refine (B.out _ hT).mono ?_); rintro e uw1 ⟨rfl, hb⟩; replace h1 := h1.on hb; replace h2 := h2.on hb; replace hB := below_on hB hb; clear hb)
    | ((with_reducible refine wpL_store uw1.heap.size 26 _ (ptA baseN) 16 rowPt ?_ (ptA_size _) (ptA_one _) (Lies.new uw1 _ _) ?_ ?_ ?_); rfl; rfl; rfl))
  have hba := newly_lies uw1 26 z16A (ptA baseN)
  have hnw := newly uw1 (.cells z16A 26) (ptA baseN)
  replace h1 := h1.on hnw
  replace h2 := h2.on hnw
  replace hB := below_on hB hnw
  clear hnw hT
  generalize World.setRow _ _ _ = w1 at *
  generalize uw1.heap.size = gba at *
  have hT := hT0.out.on hB
  go_upto_region 3 with (first
    | ((with_reducible refine wpL_load (W.heap.size) 27 (feA n) 4 rowSc (feA_size _) h1 ?_ ?_); rfl)
    | ((with_reducible refine wpL_load (gba) 26 (ptA baseN) 16 rowPt (ptA_size _) hba ?_ ?_); rfl)
    | (go_at_call 20; (with_reducible refine (Dp.out _ hT).mono ?_); rintro e uw2 ⟨rfl, hb⟩; replace h1 := h1.on hb; replace h2 := h2.on hb; replace hba := hba.on hb; replace hB := below_on hB hb; clear hb)
    | ((with_reducible refine wpL_store uw2.heap.size 26 _ (ptA p) 16 rowPt ?_ (ptA_size _) (ptA_one _) (Lies.new uw2 _ _) ?_ ?_ ?_); rfl; rfl; rfl))
  have hp := newly_lies uw2 26 z16A (ptA p)
  have hnw := newly uw2 (.cells z16A 26) (ptA p)
  replace h1 := h1.on hnw
  replace h2 := h2.on hnw
  replace hba := hba.on hnw
  replace hB := below_on hB hnw
  clear hnw hT
  generalize World.setRow _ _ _ = w2 at *
  generalize uw2.heap.size = gp at *
  have hT := hT0.out.on hB
  go_upto_region 4 with (first
    | ((with_reducible refine wpL_load (W.heap.size + 1) 27 (feA m) 4 rowSc (feA_size _) h2 ?_ ?_); rfl)
    | ((with_reducible refine wpL_load (gba) 26 (ptA baseN) 16 rowPt (ptA_size _) hba ?_ ?_); rfl)
    | (go_at_call 20; (with_reducible refine (Dq.out _ hT).mono ?_); rintro e uw3 ⟨rfl, hb⟩; replace h1 := h1.on hb; replace h2 := h2.on hb; replace hba := hba.on hb; replace hp := hp.on hb; replace hB := below_on hB hb; clear hb)
    | ((with_reducible refine wpL_store uw3.heap.size 26 _ (ptA q) 16 rowPt ?_ (ptA_size _) (ptA_one _) (Lies.new uw3 _ _) ?_ ?_ ?_); rfl; rfl; rfl))
  have hq := newly_lies uw3 26 z16A (ptA q)
  have hnw := newly uw3 (.cells z16A 26) (ptA q)
  replace h1 := h1.on hnw
  replace h2 := h2.on hnw
  replace hba := hba.on hnw
  replace hp := hp.on hnw
  replace hB := below_on hB hnw
  clear hnw hT
  generalize World.setRow _ _ _ = w3 at *
  generalize uw3.heap.size = gq at *
  have hT := hT0.out.on hB
  go_upto_region 5 with (first
    | ((with_reducible refine wpL_load (gp) 26 (ptA p) 16 rowPt (ptA_size _) hp ?_ ?_); rfl)
    | ((with_reducible refine wpL_load (gq) 26 (ptA q) 16 rowPt (ptA_size _) hq ?_ ?_); rfl)
    | (go_at_call 18; (with_reducible refine (Dpq.out _ hT).mono ?_); rintro e uw4 ⟨rfl, hb⟩; replace h1 := h1.on hb; replace h2 := h2.on hb; replace hba := hba.on hb; replace hp := hp.on hb; replace hq := hq.on hb; replace hB := below_on hB hb; clear hb)
    | ((with_reducible refine wpL_store uw4.heap.size 26 _ (ptA pq) 16 rowPt ?_ (ptA_size _) (ptA_one _) (Lies.new uw4 _ _) ?_ ?_ ?_); rfl; rfl; rfl))
  have hpq := newly_lies uw4 26 z16A (ptA pq)
  have hnw := newly uw4 (.cells z16A 26) (ptA pq)
  replace h1 := h1.on hnw
  replace h2 := h2.on hnw
  replace hba := hba.on hnw
  replace hp := hp.on hnw
  replace hq := hq.on hnw
  replace hB := below_on hB hnw
  clear hnw hT
  generalize World.setRow _ _ _ = w4 at *
  generalize uw4.heap.size = gpq at *
  clear hq
  have hG := hG0.out.on hB
  have hT := hT0.out.on hB
  refine wp_region_made_late 7 9 8 12 _ 26 z16A rfl rfl (by kernel_rfl) (by kernel_rfl) (by kernel_rfl) (alloc_pt rfl) ?_
  simp only [addEdge, List.take_succ_cons, List.take_zero, List.drop_succ_cons, List.drop_zero]
  refine wpQB_sc (W.heap.size) n h1 rfl ?_
  simp only [Act.put, List.setIfInBounds_toArray, List.set_cons_succ, List.set_cons_zero]
  refine wpQB_sc (W.heap.size + 1) m h2 rfl ?_
  simp only [Act.put, List.setIfInBounds_toArray, List.set_cons_succ, List.set_cons_zero]
  refine wpQB_call 28 #[fe n, fe m] (fe sn) rfl rfl (fun _ => by kernel_rfl) (fun w hb => SA.out w (hG.on hb)) ?_
  simp only [Act.put, List.setIfInBounds_toArray, List.set_cons_succ, List.set_cons_zero]
  refine wpQB_pt (gba) (baseN) hba rfl ?_
  simp only [Act.put, List.setIfInBounds_toArray, List.set_cons_succ, List.set_cons_zero]
  refine wpQB_call 20 #[fe sn, pt baseN] (.tuple #[pt bo, .int .i64 0]) rfl rfl (fun _ => by kernel_rfl) (fun w hb => Dbo.out w (hT.on hb)) ?_
  simp only [Act.put, List.setIfInBounds_toArray, List.set_cons_succ, List.set_cons_zero]
  refine wpQB_move ?_
  simp only [Act.put, List.setIfInBounds_toArray, List.set_cons_succ, List.set_cons_zero]
  refine wpQB_run (pt bo) rfl (fun _ _ => by kernel_rfl) ?_
  simp only [Act.put, List.setIfInBounds_toArray, List.set_cons_succ, List.set_cons_zero]
  refine wpQB_run (.int .i64 0) rfl (fun _ _ => by kernel_rfl) ?_
  simp only [Act.put, List.setIfInBounds_toArray, List.set_cons_succ, List.set_cons_zero]
  refine wpQB_nil ?_
  intro gbo w5 hb hkbo hfresh
  simp only [List.setIfInBounds_toArray, List.set_cons_succ, List.set_cons_zero]
  replace hfresh : Lies w5 gbo 26 z16A := hfresh
  have hl := h1.lt
  replace h1 := (h1.on hb).rowFar (show W.heap.size ≠ gbo by omega) (ptA (bo))
  clear hl
  have hl := h2.lt
  replace h2 := (h2.on hb).rowFar (show W.heap.size + 1 ≠ gbo by omega) (ptA (bo))
  clear hl
  have hl := hba.lt
  replace hba := (hba.on hb).rowFar (show gba ≠ gbo by omega) (ptA (bo))
  clear hl
  have hl := hp.lt
  replace hp := (hp.on hb).rowFar (show gp ≠ gbo by omega) (ptA (bo))
  clear hl
  have hl := hpq.lt
  replace hpq := (hpq.on hb).rowFar (show gpq ≠ gbo by omega) (ptA (bo))
  clear hl
  have hsz := hB.size
  replace hB := below_rowSet (below_on hB hb) (show W.heap.size ≤ gbo by omega) (ptA (bo))
  have hbo := hfresh.row (ptA (bo))
  clear hb hT hkbo hsz
  go_upto_region 6 with ((with_reducible refine wpL_store gbo 26 _ (ptA (bo)) 16 rowPt rfl (ptA_size _) (ptA_one _) hfresh ?_ ?_ ?_); rfl; rfl)
  clear hfresh
  generalize World.setRow _ _ _ = w5b at *
  clear hG
  have hT := hT0.out.on hB
  go_upto_region 7 with (first
    | ((with_reducible refine wpL_load (W.heap.size + 1) 27 (feA m) 4 rowSc (feA_size _) h2 ?_ ?_); rfl)
    | ((with_reducible refine wpL_load (gp) 26 (ptA p) 16 rowPt (ptA_size _) hp ?_ ?_); rfl)
    | (go_at_call 20; (with_reducible refine (Dr.out _ hT).mono ?_); rintro e uw6 ⟨rfl, hb⟩; replace h1 := h1.on hb; replace h2 := h2.on hb; replace hba := hba.on hb; replace hp := hp.on hb; replace hpq := hpq.on hb; replace hbo := hbo.on hb; replace hB := below_on hB hb; clear hb)
    | ((with_reducible refine wpL_store uw6.heap.size 26 _ (ptA r) 16 rowPt ?_ (ptA_size _) (ptA_one _) (Lies.new uw6 _ _) ?_ ?_ ?_); rfl; rfl; rfl))
  have hr := newly_lies uw6 26 z16A (ptA r)
  have hnw := newly uw6 (.cells z16A 26) (ptA r)
  replace h1 := h1.on hnw
  replace h2 := h2.on hnw
  replace hba := hba.on hnw
  replace hp := hp.on hnw
  replace hpq := hpq.on hnw
  replace hbo := hbo.on hnw
  replace hB := below_on hB hnw
  clear hnw hT
  generalize World.setRow _ _ _ = w6 at *
  generalize uw6.heap.size = gr at *
  clear hp
  have hG := hG0.out.on hB
  have hT := hT0.out.on hB
  refine wp_region_made_late 7 9 8 16 _ 26 z16A rfl rfl (by kernel_rfl) (by kernel_rfl) (by kernel_rfl) (alloc_pt rfl) ?_
  simp only [addEdge, List.take_succ_cons, List.take_zero, List.drop_succ_cons, List.drop_zero]
  refine wpQB_sc (W.heap.size) n h1 rfl ?_
  simp only [Act.put, List.setIfInBounds_toArray, List.set_cons_succ, List.set_cons_zero]
  refine wpQB_sc (W.heap.size + 1) m h2 rfl ?_
  simp only [Act.put, List.setIfInBounds_toArray, List.set_cons_succ, List.set_cons_zero]
  refine wpQB_call 29 #[fe n, fe m] (fe mn) rfl rfl (fun _ => by kernel_rfl) (fun w hb => SM.out w (hG.on hb)) ?_
  simp only [Act.put, List.setIfInBounds_toArray, List.set_cons_succ, List.set_cons_zero]
  refine wpQB_pt (gba) (baseN) hba rfl ?_
  simp only [Act.put, List.setIfInBounds_toArray, List.set_cons_succ, List.set_cons_zero]
  refine wpQB_call 20 #[fe mn, pt baseN] (.tuple #[pt al, .int .i64 0]) rfl rfl (fun _ => by kernel_rfl) (fun w hb => Dal.out w (hT.on hb)) ?_
  simp only [Act.put, List.setIfInBounds_toArray, List.set_cons_succ, List.set_cons_zero]
  refine wpQB_move ?_
  simp only [Act.put, List.setIfInBounds_toArray, List.set_cons_succ, List.set_cons_zero]
  refine wpQB_run (pt al) rfl (fun _ _ => by kernel_rfl) ?_
  simp only [Act.put, List.setIfInBounds_toArray, List.set_cons_succ, List.set_cons_zero]
  refine wpQB_run (.int .i64 0) rfl (fun _ _ => by kernel_rfl) ?_
  simp only [Act.put, List.setIfInBounds_toArray, List.set_cons_succ, List.set_cons_zero]
  refine wpQB_nil ?_
  intro gal w7 hb hkal hfresh
  simp only [List.setIfInBounds_toArray, List.set_cons_succ, List.set_cons_zero]
  replace hfresh : Lies w7 gal 26 z16A := hfresh
  have hl := h1.lt
  replace h1 := (h1.on hb).rowFar (show W.heap.size ≠ gal by omega) (ptA (al))
  clear hl
  have hl := h2.lt
  replace h2 := (h2.on hb).rowFar (show W.heap.size + 1 ≠ gal by omega) (ptA (al))
  clear hl
  have hl := hba.lt
  replace hba := (hba.on hb).rowFar (show gba ≠ gal by omega) (ptA (al))
  clear hl
  have hl := hpq.lt
  replace hpq := (hpq.on hb).rowFar (show gpq ≠ gal by omega) (ptA (al))
  clear hl
  have hl := hbo.lt
  replace hbo := (hbo.on hb).rowFar (show gbo ≠ gal by omega) (ptA (al))
  clear hl
  have hl := hr.lt
  replace hr := (hr.on hb).rowFar (show gr ≠ gal by omega) (ptA (al))
  clear hl
  have hsz := hB.size
  replace hB := below_rowSet (below_on hB hb) (show W.heap.size ≤ gal by omega) (ptA (al))
  have hal := hfresh.row (ptA (al))
  clear hb hT hkal hsz
  go_upto_region 8 with ((with_reducible refine wpL_store gal 26 _ (ptA (al)) 16 rowPt rfl (ptA_size _) (ptA_one _) hfresh ?_ ?_ ?_); rfl; rfl)
  clear hfresh
  generalize World.setRow _ _ _ = w7b at *
  clear hG
  clear h1
  clear h2
  clear hba
  have hT := hT0.out.on hB
  go_wp2_with (first
    | (go_at_call 16; (with_reducible refine (AL.out _ hT).mono ?_); rintro e uw8 ⟨rfl, hb⟩; replace hpq := hpq.on hb; replace hbo := hbo.on hb; replace hr := hr.on hb; replace hal := hal.on hb; replace hB := below_on hB hb; replace hT := hT.on hb; clear hb)
    | ((with_reducible refine wpL_load_g (gpq) 26 (ptA pq) 16 rowPt (ptA_size _) hpq ?_ ?_ ?_); rfl; rfl)
    | ((with_reducible refine wpL_load_g (gbo) 26 (ptA bo) 16 rowPt (ptA_size _) hbo ?_ ?_ ?_); rfl; rfl)
    | ((with_reducible refine wpL_load_g (gr) 26 (ptA r) 16 rowPt (ptA_size _) hr ?_ ?_ ?_); rfl; rfl)
    | ((with_reducible refine wpL_load_g (gal) 26 (ptA al) 16 rowPt (ptA_size _) hal ?_ ?_ ?_); rfl; rfl)
    | (go_at_call 17; (first | (with_reducible refine (E1.out _ hT).mono ?_) | (with_reducible refine (E2.out _ hT).mono ?_)); rintro e uw8 ⟨rfl, hb⟩; replace hpq := hpq.on hb; replace hbo := hbo.on hb; replace hr := hr.on hb; replace hal := hal.on hb; replace hB := below_on hB hb; replace hT := hT.on hb; clear hb))
  go_ret
  exact ⟨rfl, hB⟩
end Go.Proofs.YtfleimaoaicolaaDoor.C
