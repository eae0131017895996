/- Texts that stand on one another, put together: PPlus, PTimes, PShow, PWithY, CEighth, CRoot, CAff, CX, CSignMath, CText. -/
import Derived.Test.YtgefhfcmiefocaaDoorLot7
/- The contract of plus. -/
namespace Go.Proofs.YtgefhfcmiefocaaDoor.C
open Go.RowKit Go.Sort Go.Proofs.YtgefhfcmiefocaaDoor.F
set_option maxRecDepth 100000
attribute [local irreducible] feA ptA

set_option maxHeartbeats 3200000 in
theorem wplus_any (F : FieldOk) (u v : N4) (hu : u.Lt) (hv : v.Lt) (W : World) (hT : PtTab W) :
    Calls Tryd.prog 70 #[pt u, pt v] W fun e w' => e = .returned (pt (plusN u v)) ∧ Below W.heap.size W w' := by
  have hT0 := Lib.hid hT
  have hres : plusN u v = ⟨pxN u v * puyN u v % p25, pyN u v * puxN u v % p25, puxN u v * puyN u v % p25, pxN u v * pyN u v % p25⟩ := rfl
  unfold pxN pyN puxN puyN poN prN at hres
  have HD : Hid (∀ w, PtTab w → w.rangeAt 0 0 (feA dN).toList) := Lib.hid (fun w h => h.2.1.root)
  have kD : dN < K256 := by decide
  generalize dN = D at *
  have Hxa := Lib.hid (fun w hT => F.mul u.X v.Y w hu.X hv.Y hT)
  have kxa := mod_K (u.X * v.Y)
  generalize u.X * v.Y % p25 = xa at *
  have Hxb := Lib.hid (fun w hT => F.mul v.X u.Y w hv.X hu.Y hT)
  have kxb := mod_K (v.X * u.Y)
  generalize v.X * u.Y % p25 = xb at *
  have Hex := Lib.hid (fun w hT => F.add xa xb w kxa kxb hT)
  have kex := mod_K (xa + xb)
  generalize (xa + xb) % p25 = ex at *
  have Hya := Lib.hid (fun w hT => F.mul u.Y v.Y w hu.Y hv.Y hT)
  have kya := mod_K (u.Y * v.Y)
  generalize u.Y * v.Y % p25 = ya at *
  have Hyb := Lib.hid (fun w hT => F.mul u.X v.X w hu.X hv.X hT)
  have kyb := mod_K (u.X * v.X)
  generalize u.X * v.X % p25 = yb at *
  have Hey := Lib.hid (fun w hT => F.add ya yb w kya kyb hT)
  have key := mod_K (ya + yb)
  generalize (ya + yb) % p25 = ey at *
  have Hon := Lib.hid (fun w hT => F.mul u.Z v.Z w hu.Z hv.Z hT)
  have kon := mod_K (u.Z * v.Z)
  generalize u.Z * v.Z % p25 = on at *
  have Htt := Lib.hid (fun w hT => F.mul u.T v.T w hu.T hv.T hT)
  have ktt := mod_K (u.T * v.T)
  generalize u.T * v.T % p25 = tt at *
  have Hre := Lib.hid (fun w hT => F.mul D tt w kD ktt hT)
  have kre := mod_K (D * tt)
  generalize D * tt % p25 = re at *
  have Hux := Lib.hid (fun w hT => F.add on re w kon kre hT)
  have kux := mod_K (on + re)
  generalize (on + re) % p25 = ux at *
  have Huy := Lib.hid (fun w hT => F.sub on re w kon kre hT)
  have kuy := mod_K (on + (p25 - re % p25))
  generalize (on + (p25 - re % p25)) % p25 = uy at *
  have HrX := Lib.hid (fun w hT => F.mul ex uy w kex kuy hT)
  have krX := mod_K (ex * uy)
  generalize ex * uy % p25 = rX at *
  have HrY := Lib.hid (fun w hT => F.mul ey ux w key kux hT)
  have krY := mod_K (ey * ux)
  generalize ey * ux % p25 = rY at *
  have HrZ := Lib.hid (fun w hT => F.mul ux uy w kux kuy hT)
  have krZ := mod_K (ux * uy)
  generalize ux * uy % p25 = rZ at *
  have HrT := Lib.hid (fun w hT => F.mul ex ey w kex key hT)
  have krT := mod_K (ex * ey)
  generalize ex * ey % p25 = rT at *
  rw [hres]
  generalize hvv : (⟨rX, rY, rZ, rT⟩ : N4) = r at *
  have hb1 : pt r = .agg (feA rX ++ feA rY ++ feA rZ ++ feA rT) := by rw [← hvv]; exact ptIs _
  clear hres hvv hT hu hv kD kxa kxb kex kya kyb key kon ktt kre kux kuy krX krY krZ krT
  go_enter Tryd.func70, Tryd.ntmps70
  have hp := ((Lies.new W 107 (ptA u)).alloc (.cells (ptA v) 107)).alloc (.cells z16P 107)
  have hq : Lies ((W.alloc (.cells (ptA u) 107)).alloc (.cells (ptA v) 107)) (W.heap.size + 1) 107 (ptA v) := heap_alloc2_new W _ _
  replace hq := hq.alloc (.cells z16P 107)
  have hr := lies3 W (.cells (ptA u) 107) (.cells (ptA v) 107) 107 z16P
  have hB := (((Below.refl W.heap.size W).alloc (Nat.le_refl _) (.cells (ptA u) 107)).alloc (by simp) (.cells (ptA v) 107)).alloc (by simp; omega) (.cells z16P 107)
  go_upto_region 1 with fail
  generalize World.alloc (World.alloc (World.alloc W _) _) _ = w0 at *
  have hT := (hT0.out.on hB).f
  have hpX := pt_X hp
  have hpY := pt_Y hp
  have hpZ := pt_Z hp
  have hpT := pt_T hp
  have hqX := pt_X hq
  have hqY := pt_Y hq
  have hqZ := pt_Z hq
  have hqT := pt_T hq
  refine wp_region_made 15 5 _ 40 fe0A rfl rfl (by kernel_rfl) (by kernel_rfl) (alloc_fe rfl) ?_
  simp only [List.take_succ_cons, List.take_zero, List.drop_succ_cons, List.drop_zero]
  refine wpQB_run (.pointer (some ⟨W.heap.size, 0, none⟩)) rfl (fun _ _ => by kernel_rfl) ?_
  simp only [Act.put, List.setIfInBounds_toArray, List.set_cons_succ, List.set_cons_zero]
  refine wpQB_run (.pointer (some ⟨W.heap.size, 0, none⟩)) rfl (fun _ _ => by kernel_rfl) ?_
  simp only [Act.put, List.setIfInBounds_toArray, List.set_cons_succ, List.set_cons_zero]
  refine wpQB_mid (W.heap.size) 0 u.X hpX rfl ?_
  simp only [Act.put, List.setIfInBounds_toArray, List.set_cons_succ, List.set_cons_zero]
  refine wpQB_run (.pointer (some ⟨W.heap.size + 1, 0, none⟩)) rfl (fun _ _ => by kernel_rfl) ?_
  simp only [Act.put, List.setIfInBounds_toArray, List.set_cons_succ, List.set_cons_zero]
  refine wpQB_run (.pointer (some ⟨W.heap.size + 1, 4, none⟩)) rfl (fun _ _ => by kernel_rfl) ?_
  simp only [Act.put, List.setIfInBounds_toArray, List.set_cons_succ, List.set_cons_zero]
  refine wpQB_mid (W.heap.size + 1) 4 v.Y hqY rfl ?_
  simp only [Act.put, List.setIfInBounds_toArray, List.set_cons_succ, List.set_cons_zero]
  refine wpQB_call 58 #[fe u.X, fe v.Y] (fe xa) rfl rfl (fun _ => by kernel_rfl) (fun w hb => Hxa.out w (hT.on hb)) ?_
  simp only [Act.put, List.setIfInBounds_toArray, List.set_cons_succ, List.set_cons_zero]
  refine wpQB_run (.pointer (some ⟨W.heap.size + 1, 0, none⟩)) rfl (fun _ _ => by kernel_rfl) ?_
  simp only [Act.put, List.setIfInBounds_toArray, List.set_cons_succ, List.set_cons_zero]
  refine wpQB_run (.pointer (some ⟨W.heap.size + 1, 0, none⟩)) rfl (fun _ _ => by kernel_rfl) ?_
  simp only [Act.put, List.setIfInBounds_toArray, List.set_cons_succ, List.set_cons_zero]
  refine wpQB_mid (W.heap.size + 1) 0 v.X hqX rfl ?_
  simp only [Act.put, List.setIfInBounds_toArray, List.set_cons_succ, List.set_cons_zero]
  refine wpQB_run (.pointer (some ⟨W.heap.size, 0, none⟩)) rfl (fun _ _ => by kernel_rfl) ?_
  simp only [Act.put, List.setIfInBounds_toArray, List.set_cons_succ, List.set_cons_zero]
  refine wpQB_run (.pointer (some ⟨W.heap.size, 4, none⟩)) rfl (fun _ _ => by kernel_rfl) ?_
  simp only [Act.put, List.setIfInBounds_toArray, List.set_cons_succ, List.set_cons_zero]
  refine wpQB_mid (W.heap.size) 4 u.Y hpY rfl ?_
  simp only [Act.put, List.setIfInBounds_toArray, List.set_cons_succ, List.set_cons_zero]
  refine wpQB_call 58 #[fe v.X, fe u.Y] (fe xb) rfl rfl (fun _ => by kernel_rfl) (fun w hb => Hxb.out w (hT.on hb)) ?_
  simp only [Act.put, List.setIfInBounds_toArray, List.set_cons_succ, List.set_cons_zero]
  refine wpQB_call 61 #[fe xa, fe xb] (fe ex) rfl rfl (fun _ => by kernel_rfl) (fun w hb => Hex.out w (hT.on hb)) ?_
  simp only [Act.put, List.setIfInBounds_toArray, List.set_cons_succ, List.set_cons_zero]
  refine wpQB_nil ?_
  intro gex w1 hb hk hy
  simp only [List.setIfInBounds_toArray, List.set_cons_succ, List.set_cons_zero]
  replace hy : Lies w1 gex 40 fe0A := hy
  have hl := hp.lt
  replace hp := (hp.on hb).rowFar (show W.heap.size ≠ gex by omega) (feA ex)
  clear hl
  have hl := hq.lt
  replace hq := (hq.on hb).rowFar (show W.heap.size + 1 ≠ gex by omega) (feA ex)
  clear hl
  have hl := hr.lt
  replace hr := (hr.on hb).rowFar (show W.heap.size + 2 ≠ gex by omega) (feA ex)
  clear hl
  have hsz := hB.size
  replace hB := below_rowSet (below_on hB hb) (show W.heap.size ≤ gex by omega) (feA ex)
  clear hb hsz
  have hex := hy.row (feA ex)
  clear hk
  go_upto_region 2 with ((with_reducible refine wpL_store gex 40 _ (feA ex) 4 rowFe rfl (feA_size _) (feA_one _) hy ?_ ?_ ?_); rfl; rfl)
  clear hy
  generalize World.setRow _ _ _ = w1b at *
  clear hpX hpY hpZ hpT hqX hqY hqZ hqT
  clear hT Hxa Hxb Hex
  have hT := (hT0.out.on hB).f
  have hpX := pt_X hp
  have hpY := pt_Y hp
  have hpZ := pt_Z hp
  have hpT := pt_T hp
  have hqX := pt_X hq
  have hqY := pt_Y hq
  have hqZ := pt_Z hq
  have hqT := pt_T hq
  refine wp_region_made 15 6 _ 40 fe0A rfl rfl (by kernel_rfl) (by kernel_rfl) (alloc_fe rfl) ?_
  simp only [List.take_succ_cons, List.take_zero, List.drop_succ_cons, List.drop_zero]
  refine wpQB_run (.pointer (some ⟨W.heap.size, 0, none⟩)) rfl (fun _ _ => by kernel_rfl) ?_
  simp only [Act.put, List.setIfInBounds_toArray, List.set_cons_succ, List.set_cons_zero]
  refine wpQB_run (.pointer (some ⟨W.heap.size, 4, none⟩)) rfl (fun _ _ => by kernel_rfl) ?_
  simp only [Act.put, List.setIfInBounds_toArray, List.set_cons_succ, List.set_cons_zero]
  refine wpQB_mid (W.heap.size) 4 u.Y hpY rfl ?_
  simp only [Act.put, List.setIfInBounds_toArray, List.set_cons_succ, List.set_cons_zero]
  refine wpQB_run (.pointer (some ⟨W.heap.size + 1, 0, none⟩)) rfl (fun _ _ => by kernel_rfl) ?_
  simp only [Act.put, List.setIfInBounds_toArray, List.set_cons_succ, List.set_cons_zero]
  refine wpQB_run (.pointer (some ⟨W.heap.size + 1, 4, none⟩)) rfl (fun _ _ => by kernel_rfl) ?_
  simp only [Act.put, List.setIfInBounds_toArray, List.set_cons_succ, List.set_cons_zero]
  refine wpQB_mid (W.heap.size + 1) 4 v.Y hqY rfl ?_
  simp only [Act.put, List.setIfInBounds_toArray, List.set_cons_succ, List.set_cons_zero]
  refine wpQB_call 58 #[fe u.Y, fe v.Y] (fe ya) rfl rfl (fun _ => by kernel_rfl) (fun w hb => Hya.out w (hT.on hb)) ?_
  simp only [Act.put, List.setIfInBounds_toArray, List.set_cons_succ, List.set_cons_zero]
  refine wpQB_run (.pointer (some ⟨W.heap.size, 0, none⟩)) rfl (fun _ _ => by kernel_rfl) ?_
  simp only [Act.put, List.setIfInBounds_toArray, List.set_cons_succ, List.set_cons_zero]
  refine wpQB_run (.pointer (some ⟨W.heap.size, 0, none⟩)) rfl (fun _ _ => by kernel_rfl) ?_
  simp only [Act.put, List.setIfInBounds_toArray, List.set_cons_succ, List.set_cons_zero]
  refine wpQB_mid (W.heap.size) 0 u.X hpX rfl ?_
  simp only [Act.put, List.setIfInBounds_toArray, List.set_cons_succ, List.set_cons_zero]
  refine wpQB_run (.pointer (some ⟨W.heap.size + 1, 0, none⟩)) rfl (fun _ _ => by kernel_rfl) ?_
  simp only [Act.put, List.setIfInBounds_toArray, List.set_cons_succ, List.set_cons_zero]
  refine wpQB_run (.pointer (some ⟨W.heap.size + 1, 0, none⟩)) rfl (fun _ _ => by kernel_rfl) ?_
  simp only [Act.put, List.setIfInBounds_toArray, List.set_cons_succ, List.set_cons_zero]
  refine wpQB_mid (W.heap.size + 1) 0 v.X hqX rfl ?_
  simp only [Act.put, List.setIfInBounds_toArray, List.set_cons_succ, List.set_cons_zero]
  refine wpQB_call 58 #[fe u.X, fe v.X] (fe yb) rfl rfl (fun _ => by kernel_rfl) (fun w hb => Hyb.out w (hT.on hb)) ?_
  simp only [Act.put, List.setIfInBounds_toArray, List.set_cons_succ, List.set_cons_zero]
  refine wpQB_call 61 #[fe ya, fe yb] (fe ey) rfl rfl (fun _ => by kernel_rfl) (fun w hb => Hey.out w (hT.on hb)) ?_
  simp only [Act.put, List.setIfInBounds_toArray, List.set_cons_succ, List.set_cons_zero]
  refine wpQB_nil ?_
  intro gey w2 hb hk hy
  simp only [List.setIfInBounds_toArray, List.set_cons_succ, List.set_cons_zero]
  replace hy : Lies w2 gey 40 fe0A := hy
  have hl := hp.lt
  replace hp := (hp.on hb).rowFar (show W.heap.size ≠ gey by omega) (feA ey)
  clear hl
  have hl := hq.lt
  replace hq := (hq.on hb).rowFar (show W.heap.size + 1 ≠ gey by omega) (feA ey)
  clear hl
  have hl := hr.lt
  replace hr := (hr.on hb).rowFar (show W.heap.size + 2 ≠ gey by omega) (feA ey)
  clear hl
  have hl := hex.lt
  replace hex := (hex.on hb).rowFar (show gex ≠ gey by omega) (feA ey)
  clear hl
  have hsz := hB.size
  replace hB := below_rowSet (below_on hB hb) (show W.heap.size ≤ gey by omega) (feA ey)
  clear hb hsz
  have hey := hy.row (feA ey)
  clear hk
  go_upto_region 3 with ((with_reducible refine wpL_store gey 40 _ (feA ey) 4 rowFe rfl (feA_size _) (feA_one _) hy ?_ ?_ ?_); rfl; rfl)
  clear hy
  generalize World.setRow _ _ _ = w2b at *
  clear hpX hpY hpZ hpT hqX hqY hqZ hqT
  clear hT Hya Hyb Hey
  have hT := (hT0.out.on hB).f
  have hpZ := pt_Z hp
  have hqZ := pt_Z hq
  go_upto_region 4 with (first
    | ((with_reducible refine wpL_loadMid (W.heap.size) 8 (feA u.Z).toList 4 rowFe (by rw [Array.length_toList]; exact feA_size _) hpZ ?_ ?_); rfl; rw [Array.toArray_toList])
    | ((with_reducible refine wpL_loadMid (W.heap.size + 1) 8 (feA v.Z).toList 4 rowFe (by rw [Array.length_toList]; exact feA_size _) hqZ ?_ ?_); rfl; rw [Array.toArray_toList])
    | (go_at_call 58; (with_reducible refine (Hon.out _ hT).mono ?_); rintro e u3 ⟨rfl, hb⟩; replace hp := hp.on hb; replace hq := hq.on hb; replace hr := hr.on hb; replace hex := hex.on hb; replace hey := hey.on hb; replace hT := hT.on hb; replace hB := below_on hB hb; clear hb)
    | ((with_reducible refine wpL_store u3.heap.size 40 _ (feA on) 4 rowFe ?_ (feA_size _) (feA_one _) (Lies.new u3 _ _) ?_ ?_ ?_); rfl; rfl; rfl))
  have hon := newly_lies u3 40 fe0A (feA on)
  have hnw := newly u3 (.cells fe0A 40) (feA on)
  replace hp := hp.on hnw
  replace hq := hq.on hnw
  replace hr := hr.on hnw
  replace hex := hex.on hnw
  replace hey := hey.on hnw
  replace hB := below_on hB hnw
  clear hnw hT
  generalize World.setRow _ _ _ = w3 at *
  generalize u3.heap.size = gon at *
  clear hpZ hqZ Hon
  have hT := (hT0.out.on hB).f
  have hD := HD.out _ (hT0.out.on hB)
  have hpX := pt_X hp
  have hpY := pt_Y hp
  have hpZ := pt_Z hp
  have hpT := pt_T hp
  have hqX := pt_X hq
  have hqY := pt_Y hq
  have hqZ := pt_Z hq
  have hqT := pt_T hq
  refine wp_region_made 9 8 _ 40 fe0A rfl rfl (by kernel_rfl) (by kernel_rfl) (alloc_fe rfl) ?_
  simp only [List.take_succ_cons, List.take_zero, List.drop_succ_cons, List.drop_zero]
  refine wpQB_mid 0 0 D hD rfl ?_
  simp only [Act.put, List.setIfInBounds_toArray, List.set_cons_succ, List.set_cons_zero]
  refine wpQB_run (.pointer (some ⟨W.heap.size, 0, none⟩)) rfl (fun _ _ => by kernel_rfl) ?_
  simp only [Act.put, List.setIfInBounds_toArray, List.set_cons_succ, List.set_cons_zero]
  refine wpQB_run (.pointer (some ⟨W.heap.size, 12, none⟩)) rfl (fun _ _ => by kernel_rfl) ?_
  simp only [Act.put, List.setIfInBounds_toArray, List.set_cons_succ, List.set_cons_zero]
  refine wpQB_mid (W.heap.size) 12 u.T hpT rfl ?_
  simp only [Act.put, List.setIfInBounds_toArray, List.set_cons_succ, List.set_cons_zero]
  refine wpQB_run (.pointer (some ⟨W.heap.size + 1, 0, none⟩)) rfl (fun _ _ => by kernel_rfl) ?_
  simp only [Act.put, List.setIfInBounds_toArray, List.set_cons_succ, List.set_cons_zero]
  refine wpQB_run (.pointer (some ⟨W.heap.size + 1, 12, none⟩)) rfl (fun _ _ => by kernel_rfl) ?_
  simp only [Act.put, List.setIfInBounds_toArray, List.set_cons_succ, List.set_cons_zero]
  refine wpQB_mid (W.heap.size + 1) 12 v.T hqT rfl ?_
  simp only [Act.put, List.setIfInBounds_toArray, List.set_cons_succ, List.set_cons_zero]
  refine wpQB_call 58 #[fe u.T, fe v.T] (fe tt) rfl rfl (fun _ => by kernel_rfl) (fun w hb => Htt.out w (hT.on hb)) ?_
  simp only [Act.put, List.setIfInBounds_toArray, List.set_cons_succ, List.set_cons_zero]
  refine wpQB_call 58 #[fe D, fe tt] (fe re) rfl rfl (fun _ => by kernel_rfl) (fun w hb => Hre.out w (hT.on hb)) ?_
  simp only [Act.put, List.setIfInBounds_toArray, List.set_cons_succ, List.set_cons_zero]
  refine wpQB_nil ?_
  intro gre w4 hb hk hy
  simp only [List.setIfInBounds_toArray, List.set_cons_succ, List.set_cons_zero]
  replace hy : Lies w4 gre 40 fe0A := hy
  have hl := hp.lt
  replace hp := (hp.on hb).rowFar (show W.heap.size ≠ gre by omega) (feA re)
  clear hl
  have hl := hq.lt
  replace hq := (hq.on hb).rowFar (show W.heap.size + 1 ≠ gre by omega) (feA re)
  clear hl
  have hl := hr.lt
  replace hr := (hr.on hb).rowFar (show W.heap.size + 2 ≠ gre by omega) (feA re)
  clear hl
  have hl := hex.lt
  replace hex := (hex.on hb).rowFar (show gex ≠ gre by omega) (feA re)
  clear hl
  have hl := hey.lt
  replace hey := (hey.on hb).rowFar (show gey ≠ gre by omega) (feA re)
  clear hl
  have hl := hon.lt
  replace hon := (hon.on hb).rowFar (show gon ≠ gre by omega) (feA re)
  clear hl
  have hsz := hB.size
  replace hB := below_rowSet (below_on hB hb) (show W.heap.size ≤ gre by omega) (feA re)
  clear hb hsz
  have hre := hy.row (feA re)
  clear hk
  go_upto_region 5 with ((with_reducible refine wpL_store gre 40 _ (feA re) 4 rowFe rfl (feA_size _) (feA_one _) hy ?_ ?_ ?_); rfl; rfl)
  clear hy
  generalize World.setRow _ _ _ = w4b at *
  clear hpX hpY hpZ hpT hqX hqY hqZ hqT
  clear hT hD Htt Hre
  clear hp hq
  have hT := (hT0.out.on hB).f
  refine wp_region_rel2 8 77 [sayFix (fe on), sayFix (fe re), sayFix (fe ux), sayFix (fe on), sayFix (fe re), sayFix (fe uy), sayVar w4b.heap.size 40 fe0A, sayVar w4b.heap.size 40 fe0A] rfl rfl (by kernel_rfl) (by kernel_rfl) (fun r hr => by
      simp only [List.mem_cons, List.not_mem_nil, or_false] at hr
      rcases hr with rfl | rfl | rfl | rfl | rfl | rfl | rfl | rfl <;> first | exact sayFix_mono _ | exact sayVar_mono _ _ _)
    6 7 _ _ 9 10 _ _ (by decide) (by decide) (by decide) rfl rfl rfl rfl (fun a w => ⟨_, alloc_fe rfl a w⟩) (fun a w => ⟨_, alloc_fe rfl a w⟩) rfl rfl sayVar_lt sayVar_lt ?_
  simp only [List.take_succ_cons, List.take_zero, List.drop_succ_cons, List.drop_zero, List.zip_cons_cons, List.zip_nil_right]
  refine wpRel_step (fun w hb hG => does_run (.agg (feA on)) (run_load_row rowFe (feA_size _) (gon) hon hb rfl) rfl) (fun v0 => ?_)
  simp only [Act.put, List.setIfInBounds_toArray, List.set_cons_succ, List.set_cons_zero, Option.getD_some]
  refine wpRel_step (fun w hb hG => does_run (.agg (feA re)) (run_load_row rowFe (feA_size _) (gre) hre hb rfl) rfl) (fun v1 => ?_)
  simp only [Act.put, List.setIfInBounds_toArray, List.set_cons_succ, List.set_cons_zero, Option.getD_some]
  refine wpRel_step (fun w hb hG => ?_) (fun v2 => ?_)
  · obtain rfl := laid_at 1 hG rfl (by decide)
    obtain rfl := laid_at 0 hG rfl (by decide)
    refine does_call 61 #[fe on, fe re] (by kernel_rfl) ((Hux.out w (hT.on hb)).mono ?_)
    rintro e w2 ⟨rfl, hb2⟩
    exact ⟨_, rfl, hb2, rfl⟩
  simp only [Act.put, List.setIfInBounds_toArray, List.set_cons_succ, List.set_cons_zero, Option.getD_some]
  refine wpRel_step (fun w hb hG => does_run (.agg (feA on)) (run_load_row rowFe (feA_size _) (gon) hon hb rfl) rfl) (fun v3 => ?_)
  simp only [Act.put, List.setIfInBounds_toArray, List.set_cons_succ, List.set_cons_zero, Option.getD_some]
  refine wpRel_step (fun w hb hG => does_run (.agg (feA re)) (run_load_row rowFe (feA_size _) (gre) hre hb rfl) rfl) (fun v4 => ?_)
  simp only [Act.put, List.setIfInBounds_toArray, List.set_cons_succ, List.set_cons_zero, Option.getD_some]
  refine wpRel_step (fun w hb hG => ?_) (fun v5 => ?_)
  · obtain rfl := laid_at 1 hG rfl (by decide)
    obtain rfl := laid_at 0 hG rfl (by decide)
    refine does_call 59 #[fe on, fe re] (by kernel_rfl) ((Huy.out w (hT.on hb)).mono ?_)
    rintro e w2 ⟨rfl, hb2⟩
    exact ⟨_, rfl, hb2, rfl⟩
  simp only [Act.put, List.setIfInBounds_toArray, List.set_cons_succ, List.set_cons_zero, Option.getD_some]
  refine wpRel_step (fun w hb hG => does_new hb (alloc_fe rfl _ _)) (fun v6 => ?_)
  simp only [Act.put, List.setIfInBounds_toArray, List.set_cons_succ, List.set_cons_zero, Option.getD_some]
  refine wpRel_step (fun w hb hG => does_new hb (alloc_fe rfl _ _)) (fun v7 => ?_)
  simp only [Act.put, List.setIfInBounds_toArray, List.set_cons_succ, List.set_cons_zero, Option.getD_some]
  refine wpRel_nil (fun w hb hG hap => ?_)
  obtain rfl := hG _ (List.mem_of_getElem? (i := 2) rfl)
  obtain rfl := hG _ (List.mem_of_getElem? (i := 5) rfl)
  obtain ⟨gux, rfl, hlux, hux⟩ := hG _ (List.mem_of_getElem? (i := 1) rfl)
  obtain ⟨guy, rfl, hluy, huy⟩ := hG _ (List.mem_of_getElem? (i := 0) rfl)
  have hne : gux ≠ guy := fun e => hap (by subst e; rfl)
  clear hG hap
  have hwb := hB.size
  have hltr := hr.lt
  have hltex := hex.lt
  have hltey := hey.lt
  have hlton := hon.lt
  have hltre := hre.lt
  replace hr := hr.on hb
  replace hex := hex.on hb
  replace hey := hey.on hb
  replace hon := hon.on hb
  replace hre := hre.on hb
  replace hB := below_on hB hb
  clear hb
  clear hT Hux Huy
  go_upto_region 6 with (first | ((with_reducible refine wpL_store (gux) 40 _ (feA ux) 4 rowFe rfl (feA_size _) (feA_one _) hux ?_ ?_ ?_); rfl; rfl) | ((with_reducible refine wpL_store (guy) 40 _ (feA uy) 4 rowFe rfl (feA_size _) (feA_one _) (huy.rowFar (Ne.symm hne) _) ?_ ?_ ?_); rfl; rfl))
  replace huy := (huy.rowFar (Ne.symm hne) (feA ux)).row (feA uy)
  replace hux := (hux.row (feA ux)).rowFar hne (feA uy)
  replace hr := (hr.rowFar (show W.heap.size + 2 ≠ gux by omega) (feA ux)).rowFar (show W.heap.size + 2 ≠ guy by omega) (feA uy)
  replace hex := (hex.rowFar (show gex ≠ gux by omega) (feA ux)).rowFar (show gex ≠ guy by omega) (feA uy)
  replace hey := (hey.rowFar (show gey ≠ gux by omega) (feA ux)).rowFar (show gey ≠ guy by omega) (feA uy)
  replace hon := (hon.rowFar (show gon ≠ gux by omega) (feA ux)).rowFar (show gon ≠ guy by omega) (feA uy)
  replace hre := (hre.rowFar (show gre ≠ gux by omega) (feA ux)).rowFar (show gre ≠ guy by omega) (feA uy)
  replace hB := below_rowSet (below_rowSet hB (show W.heap.size ≤ gux by omega) (feA ux)) (show W.heap.size ≤ guy by omega) (feA uy)
  clear hwb hlux hluy hltr hltex hltey hlton hltre
  generalize World.setRow (World.setRow _ _ _) _ _ = w7 at *
  have hT := (hT0.out.on hB).f
  refine wp_region_plain 14 (by kernel_rfl) (by kernel_rfl) ?_
  simp only [List.take_succ_cons, List.take_zero, List.drop_succ_cons, List.drop_zero]
  refine wpQB_fe (gex) ex hex rfl ?_
  simp only [Act.put, List.setIfInBounds_toArray, List.set_cons_succ, List.set_cons_zero]
  refine wpQB_fe (guy) uy huy rfl ?_
  simp only [Act.put, List.setIfInBounds_toArray, List.set_cons_succ, List.set_cons_zero]
  refine wpQB_call 58 #[fe ex, fe uy] (fe rX) rfl rfl (fun _ => by kernel_rfl) (fun w hb => HrX.out w (hT.on hb)) ?_
  simp only [Act.put, List.setIfInBounds_toArray, List.set_cons_succ, List.set_cons_zero]
  refine wpQB_fe (gey) ey hey rfl ?_
  simp only [Act.put, List.setIfInBounds_toArray, List.set_cons_succ, List.set_cons_zero]
  refine wpQB_fe (gux) ux hux rfl ?_
  simp only [Act.put, List.setIfInBounds_toArray, List.set_cons_succ, List.set_cons_zero]
  refine wpQB_call 58 #[fe ey, fe ux] (fe rY) rfl rfl (fun _ => by kernel_rfl) (fun w hb => HrY.out w (hT.on hb)) ?_
  simp only [Act.put, List.setIfInBounds_toArray, List.set_cons_succ, List.set_cons_zero]
  refine wpQB_fe (gux) ux hux rfl ?_
  simp only [Act.put, List.setIfInBounds_toArray, List.set_cons_succ, List.set_cons_zero]
  refine wpQB_fe (guy) uy huy rfl ?_
  simp only [Act.put, List.setIfInBounds_toArray, List.set_cons_succ, List.set_cons_zero]
  refine wpQB_call 58 #[fe ux, fe uy] (fe rZ) rfl rfl (fun _ => by kernel_rfl) (fun w hb => HrZ.out w (hT.on hb)) ?_
  simp only [Act.put, List.setIfInBounds_toArray, List.set_cons_succ, List.set_cons_zero]
  refine wpQB_fe (gex) ex hex rfl ?_
  simp only [Act.put, List.setIfInBounds_toArray, List.set_cons_succ, List.set_cons_zero]
  refine wpQB_fe (gey) ey hey rfl ?_
  simp only [Act.put, List.setIfInBounds_toArray, List.set_cons_succ, List.set_cons_zero]
  refine wpQB_call 58 #[fe ex, fe ey] (fe rT) rfl rfl (fun _ => by kernel_rfl) (fun w hb => HrT.out w (hT.on hb)) ?_
  simp only [Act.put, List.setIfInBounds_toArray, List.set_cons_succ, List.set_cons_zero]
  refine wpQB_run (.agg (feA rX ++ feA rY ++ feA rZ ++ feA rT)) rfl (fun _ _ => by kernel_rfl) ?_
  simp only [Act.put, List.setIfInBounds_toArray, List.set_cons_succ, List.set_cons_zero]
  refine wpQB_run (.agg (feA rX ++ feA rY ++ feA rZ ++ feA rT)) rfl (fun _ _ => by kernel_rfl) ?_
  simp only [Act.put, List.setIfInBounds_toArray, List.set_cons_succ, List.set_cons_zero]
  refine wpQB_nil ?_
  intro wz hb
  rw [← hb1]
  replace hr := hr.on hb
  replace hex := hex.on hb
  replace hey := hey.on hb
  replace hon := hon.on hb
  replace hre := hre.on hb
  replace hux := hux.on hb
  replace huy := huy.on hb
  replace hB := below_on hB hb
  clear hb
  go_wp2_with ((with_reducible refine wpL_store (W.heap.size + 2) 107 _ (ptA r) 16 rowWk rfl (ptA_size _) (ptA_one _) hr ?_ ?_ ?_); rfl; rfl)
  exact bodyPost_ret (results_row Tryd.results70 rowWk (ptA_size _) (hr.row _) rfl) rfl ⟨rfl, below_rowSet hB (by omega) _⟩

end Go.Proofs.YtgefhfcmiefocaaDoor.C

/- The contract of times. -/
namespace Go.Proofs.YtgefhfcmiefocaaDoor.C
open Go.RowKit Go.Sort Go.Proofs.YtgefhfcmiefocaaDoor.F
set_option maxRecDepth 100000
theorem rowScP : RowT Tryd.prog 36 4 := ⟨⟨_, Tryd.underlying36, rfl⟩, by kernel_rfl⟩
theorem word_bit (n j r : Nat) (hr : r < 64) : wordN n j / 2 ^ r % 2 = n / 2 ^ (64 * j + r) % 2 := by
  unfold wordN
  have e : (18446744073709551616 : Nat) ^ j = 2 ^ (64 * j) := by rw [Nat.pow_mul]
  have e2 : (18446744073709551616 : Nat) = 2 ^ (64 - r) * 2 ^ r := by rw [← Nat.pow_add, show 64 - r + r = 64 by omega]
  rw [e, Nat.pow_add, ← Nat.div_div_eq_div_mul, e2, Nat.mul_comm (2 ^ (64 - r)), Nat.mod_mul_right_div_self]
  generalize n / 2 ^ (64 * j) / 2 ^ r = x
  have e3 : (2 : Nat) ^ (64 - r) = 2 * 2 ^ (63 - r) := by rw [← Nat.pow_succ', show (63 - r).succ = 64 - r by omega]
  rw [e3, Nat.mod_mul_right_mod]
theorem and_one (q r : Nat) (hq : q < 18446744073709551616) : bits BinOp.and IntKind.u64 ((q : Int) / 2 ^ r) 1 = ((q / 2 ^ r % 2 : Nat) : Int) := by
  have h1 : ((q : Int) / 2 ^ r) = ((q / 2 ^ r : Nat) : Int) := by rw [Int.natCast_ediv, Int.natCast_pow]; rfl
  have h2 : q / 2 ^ r < 18446744073709551616 := Nat.lt_of_le_of_lt (Nat.div_le_self _ _) hq
  rw [h1]
  have h3 := u64_and_nat (q / 2 ^ r) 1 h2 (by decide)
  rw [Nat.and_one_is_mod] at h3
  exact h3
theorem feA_at (n j : Nat) (h : j < 4) : (feA n)[j]? = some (w64 (wordN n j)) := by
  rw [feA_words]
  match j, h with
  | 0, _ | 1, _ | 2, _ | 3, _ => rfl
attribute [local irreducible] feA ptA

set_option maxHeartbeats 1600000 in
theorem wtimes_any (F : FieldOk) (u : N4) (n : Nat) (hu : u.Lt) (W : World) (hT : PtTab W) :
    Calls Tryd.prog 68 #[pt u, fe n] W fun e w' => e = .returned (pt (tN n u 256)) ∧ Below W.heap.size W w' := by
  have hT0 := Lib.hid hT
  have HZ := Lib.hid (fun w hT => wzero_any F w hT)
  have HP := Lib.hid (fun (a b : N4) (ha : a.Lt) (hb : b.Lt) w hT => wplus_any F a b ha hb w hT)
  have HU := Lib.hid hu
  have H0 : tN n u 0 = zeroN := rfl
  have HS : Hid (∀ k, tN n u (k + 1) = stepN u (tN n u k) (n / 2 ^ (255 - k) % 2)) := Lib.hid (fun k => rfl)
  have HL := Lib.hid (tN_lt n u)
  rw [← H0] at HZ
  generalize tN n u = t at *
  clear H0 hT hu
  go_enter Tryd.func68, Tryd.ntmps68
  have hp := ((Lies.new W 107 (ptA u)).alloc (.cells (feA n) 36)).alloc (.cells z16P 107)
  have hn : Lies ((W.alloc (.cells (ptA u) 107)).alloc (.cells (feA n) 36)) (W.heap.size + 1) 36 (feA n) := heap_alloc2_new W _ _
  replace hn := hn.alloc (.cells z16P 107)
  have hr := lies3 W (.cells (ptA u) 107) (.cells (feA n) 36) 107 z16P
  have hB := (((Below.refl W.heap.size W).alloc (Nat.le_refl _) (.cells (ptA u) 107)).alloc (by simp) (.cells (feA n) 36)).alloc (by simp; omega) (.cells z16P 107)
  go_upto_region 1 with fail
  generalize World.alloc (World.alloc (World.alloc W _) _) _ = w0 at *
  have hT := hT0.out.on hB
  go_upto_region 2 with (first
    | (go_at_call 90; (with_reducible refine (HZ.out _ hT).mono ?_); rintro e u1 ⟨rfl, hb⟩; replace hp := hp.on hb; replace hn := hn.on hb; replace hr := hr.on hb; replace hB := below_on hB hb; clear hb)
    | ((with_reducible refine wpL_bld (pt (t 0)) ?_ ?_); kernel_rfl)
    | ((with_reducible refine wpL_store u1.heap.size 107 _ (ptA (t 0)) 16 rowWk ?_ (ptA_size _) (ptA_one _) (Lies.new u1 _ _) ?_ ?_ ?_); rfl; rfl; rfl))
  have osu := hr.lt
  have hsu := newly_lies u1 107 z16P (ptA (t 0))
  have hnw := newly u1 (.cells z16P 107) (ptA (t 0))
  replace hp := hp.on hnw
  replace hn := hn.on hnw
  replace hr := hr.on hnw
  replace hB := below_on hB hnw
  clear hnw hT
  generalize World.setRow _ _ _ = w1 at *
  generalize u1.heap.size = gsu at *
  go_wp2_with fail
  go_loopw [6] (fun ix wr => ∃ k : Nat, k ≤ 256 ∧ ix = .int .i64 (255 - (k : Int)) ∧ Lies wr gsu 107 (ptA (t k)) ∧ Lies wr W.heap.size 107 (ptA u) ∧ Lies wr (W.heap.size + 1) 36 (feA n) ∧ Lies wr (W.heap.size + 2) 107 z16P ∧ Hid (W.heap.size + 3 ≤ gsu) ∧ Below W.heap.size W wr) (fun ix _ => (intOf ix + 1).toNat)
  case atStart => exact ⟨0, by omega, rfl, hsu, hp, hn, hr, Lib.hid osu, hB⟩
  case round =>
    clear hsu hp hn hr hB osu
    obtain ⟨k, hk, rfl, hsu, hp, hn, hr, HG, hB⟩ := hrel
    have og := HG.out
    by_cases hlt : k < 256
    · obtain ⟨i, hik⟩ : ∃ i : Nat, i + k = 255 := ⟨255 - k, by omega⟩
      have hix : (255 - (k : Int)) = (i : Int) := by omega
      rw [hix]
      have hT := hT0.out.on hB
      go_upto_region 6 with (first
        | ((with_reducible refine wpL_load gsu 107 (ptA (t k)) 16 rowWk (ptA_size _) hsu ?_ ?_); rfl)
        | (go_at_call 70; (with_reducible refine (HP.out (t k) (t k) (HL.out k) (HL.out k) _ hT).mono ?_); rintro e w1 ⟨rfl, hb⟩; replace hsu := hsu.on hb; replace hp := hp.on hb; replace hn := hn.on hb; replace hr := hr.on hb; replace hB := below_on hB hb; clear hb)
        | ((with_reducible refine wpL_store gsu 107 (ptA (t k)) (ptA (plusN (t k) (t k))) 16 rowWk (ptA_size _) (ptA_size _) (ptA_one _) hsu ?_ ?_ ?_); rfl; rfl))
      clear hT
      replace hsu := hsu.row (ptA (plusN (t k) (t k)))
      replace hp := hp.rowFar (show W.heap.size ≠ gsu by omega) (ptA (plusN (t k) (t k)))
      replace hn := hn.rowFar (show W.heap.size + 1 ≠ gsu by omega) (ptA (plusN (t k) (t k)))
      replace hr := hr.rowFar (show W.heap.size + 2 ≠ gsu by omega) (ptA (plusN (t k) (t k)))
      replace hB := below_rowSet hB (show W.heap.size ≤ gsu by omega) (ptA (plusN (t k) (t k)))
      generalize World.setRow _ _ _ = w2 at *
      have hstep := HS.out k
      rw [show 255 - k = i by omega] at hstep
      obtain ⟨j, r, hij, hr64, hj4⟩ : ∃ j r : Nat, i = 64 * j + r ∧ r < 64 ∧ j < 4 := ⟨i / 64, i % 64, by omega, by omega, by omega⟩
      have hq : Int.tdiv (i : Int) 64 = (j : Int) := by rw [Int.tdiv_eq_ediv_of_nonneg (by omega)]; omega
      have hm : Int.tmod (i : Int) 64 = (r : Int) := by rw [Int.tmod_eq_emod_of_nonneg (by omega)]; omega
      have c := (hn.cell j).trans (feA_at n j hj4)
      have hand := and_one (wordN n j) r (wordN_lt n j)
      rw [word_bit n j r hr64, ← hij] at hand
      have hqb := wordN_lt n j
      generalize wordN n j = q at *
      by_cases hb1 : n / 2 ^ i % 2 = 1
      · rw [hb1] at hand
        rw [stepN, if_pos hb1] at hstep
        have HST := Lib.hid hstep
        clear hstep hb1 hij
        have hT := hT0.out.on hB
        go_upto_region 7 with fail
        clear c hand hqb hq hm
        go_wp2_with (first
          | ((with_reducible refine wpL_load gsu 107 (ptA (plusN (t k) (t k))) 16 rowWk (ptA_size _) hsu ?_ ?_); rfl)
          | ((with_reducible refine wpL_load (W.heap.size) 107 (ptA u) 16 rowWk (ptA_size _) hp ?_ ?_); rfl)
          | (go_at_call 70; (with_reducible refine (HP.out (plusN (t k) (t k)) u (plusN_lt _ _) HU.out _ hT).mono ?_); rintro e w3 ⟨rfl, hb⟩; replace hsu := hsu.on hb; replace hp := hp.on hb; replace hn := hn.on hb; replace hr := hr.on hb; replace hB := below_on hB hb; clear hb)
          | ((with_reducible refine wpL_store gsu 107 (ptA (plusN (t k) (t k))) (ptA (plusN (plusN (t k) (t k)) u)) 16 rowWk (ptA_size _) (ptA_size _) (ptA_one _) hsu ?_ ?_ ?_); rfl; rfl))
        go_roundw
        case rel => exact ⟨k + 1, by omega, by congr 1; omega, by rw [HST.out]; exact hsu.row _, hp.rowFar (by omega) _, hn.rowFar (by omega) _, hr.rowFar (by omega) _, HG, below_rowSet hB (by omega) _⟩
        case measure => simp [intOf]
      · have hb0 : n / 2 ^ i % 2 = 0 := by omega
        rw [hb0] at hand
        rw [stepN, if_neg hb1] at hstep
        have HST := Lib.hid hstep
        clear hstep hb1 hb0 hij
        go_wp2_with fail
        go_roundw
        case rel => exact ⟨k + 1, by omega, by congr 1; omega, by rw [HST.out]; exact hsu, hp, hn, hr, HG, hB⟩
        case measure => simp [intOf]
    · obtain rfl : k = 256 := by omega
      go_wp2_with (first | ((with_reducible refine wpL_load gsu 107 (ptA (t 256)) 16 rowWk (ptA_size _) hsu ?_ ?_); rfl) | ((with_reducible refine wpL_store (W.heap.size + 2) 107 _ (ptA (t 256)) 16 rowWk rfl (ptA_size _) (ptA_one _) hr ?_ ?_ ?_); rfl; rfl))
      exact bodyPost_ret (results_row Tryd.results68 rowWk (ptA_size _) (hr.row _) rfl) rfl ⟨rfl, below_rowSet hB (by omega) _⟩
end Go.Proofs.YtgefhfcmiefocaaDoor.C

/- The contracts of Right, Same, Add, Neg and Mul. -/
namespace Go.Proofs.YtgefhfcmiefocaaDoor.C
open Go.RowKit Go.Sort Go.Proofs.YtgefhfcmiefocaaDoor.F
set_option maxRecDepth 100000

/-- a variable that is a whole block is read under a guard -/
theorem wpL_load_gP {P : Program} {ops : Array Oper} {rest : List Oper} {a : Act} {w : World} {Q : Exit → Act → World → Prop} {t' : TypeId} {pos : String} {after : Array Edge} {gd : Option (Nat × Bool)} {d : Option Tmp} {x : Tmp} {ty : TypeId} (g : Nat) (t : TypeId) (cs : Array Value) (n : Nat) (hT : RowT P ty n) (hn : cs.size = n) (hg : Lies w g t cs)
    (hw : Region.wanted ⟨d, .load ty (.tmp x), t', pos, after, gd⟩ (yielded ops a.tmps) = true) (hx : a.eval (.tmp x) = .pointer (some ⟨g, 0, none⟩)) (h : wpList P ops Q rest (a.put d (.agg cs)) w) : wpList P ops Q (⟨d, .load ty (.tmp x), t', pos, after, gd⟩ :: rest) a w := by
  obtain ⟨⟨ds, hu, hd⟩, hi⟩ := hT
  unfold wpList
  rw [if_pos hw]
  exact .inl (wp_load_row ty (.tmp x) rfl g hx t cs (0, 0) ds hg hu (by cases ds <;> first | rfl | simp [TypeDesc.isRow] at hd) (by rw [hi, hn]) h)

/-! ### operations of a region that draws its order, taken one by one -/
section
variable {P : Program} {md : Region.Mode} {ops : Array Oper} {Q : Exit → Act → World → Prop} {S : World → Prop} {a : Act} {w w' : World}
theorem wpOp_val {i : Nat} {o : Oper} {v : Value} {K : Act → World → Prop} (hi : ops[i]? = some o) (hw : Region.wanted o (yielded ops a.tmps) = true) (hr : (execOp a.eval o).run P w = .ok (.value v) w') (h : K (a.put o.dst v) w') : wpOp P ops Q i K a w := by
  unfold Go.wpOp
  simp only [hi]
  simp only [hw, if_true, Oper.wp, hr, Oper.upon]
  exact .inl h
theorem wpOp_skp {i : Nat} {o : Oper} {K : Act → World → Prop} (hi : ops[i]? = some o) (hw : Region.wanted o (yielded ops a.tmps) = true) (hr : (execOp a.eval o).run P w = .ok .skip w') (h : K (a.put o.dst undef) w') : wpOp P ops Q i K a w := by
  unfold Go.wpOp
  simp only [hi]
  simp only [hw, if_true, Oper.wp, hr, Oper.upon]
  exact .inl h
theorem wp_held_calm {id : Nat} {K : Act → World → Prop} {Q : Exit → Act → World → Prop} (n : Nat) (hn : ops.size = n) (hm : P.follows .mixedOrders = true)
    (h : wpAnyH P .any ops (Exit.then K (Calm Q)) S n (Array.replicate n false) a { w with drawn := w.drawn + 1 }) : (Code.region id ops true).wp P (Exit.then K Q) a w := by
  subst hn
  exact Code.wp_mono (Q := Exit.then K (Calm Q)) calm_then (wp_region_held hm h)
theorem held_done {K : Act → World → Prop} {Q : Exit → Act → World → Prop} {listed : Array Bool} {fuel : Nat} (hr : Region.ready md ops listed = []) (h : Exit.then K Q .normal a w) : wpAnyH P md ops (Exit.then K (Calm Q)) S fuel listed a w := wpAnyH_done hr (show Exit.then K (Calm Q) .normal a w from h) fuel
theorem held_take {K : Act → World → Prop} {Q : Exit → Act → World → Prop} {fuel : Nat} {listed : Array Bool} (i : Nat) (v : Value) {oi : Oper} (hi : ops[i]? = some oi) (hs : Region.noSelect ops = true) (hf : Region.free md ops listed i = true) (hr : (Region.ready md ops listed).contains i = true)
    (hw : Region.wanted oi (yielded ops a.tmps) = true) (hy : ∀ w, S w → (execOp a.eval oi).run P w = .ok (.value v) w) (hS : S w) (h : wpAnyH P md ops (Exit.then K (Calm Q)) S fuel (listed.setIfInBounds i true) (a.put oi.dst v) w) : wpAnyH P md ops (Exit.then K (Calm Q)) S (fuel + 1) listed a w :=
  wpAnyH_take hi hs hf hr (fun c a w h => calm_panic c _ _ a w h) (.inl ⟨hw, hy⟩) hS h
theorem held_one {fuel : Nat} {listed : Array Bool} (i : Nat) (hr : Region.ready md ops listed = [i]) (h : wpOp P ops Q i (fun a' w' => S w' ∧ wpAnyH P md ops Q S fuel (listed.setIfInBounds i true) a' w') a w) : wpAnyH P md ops Q S (fuel + 1) listed a w :=
  wpAnyH_all hr (by simp) (fun j hj => by rw [List.mem_singleton.1 hj]; exact h)
theorem held_two {fuel : Nat} {listed : Array Bool} (i j : Nat) (hr : Region.ready md ops listed = [i, j]) (h : wpOp P ops Q i (fun a' w' => S w' ∧ wpAnyH P md ops Q S fuel (listed.setIfInBounds i true) a' w') a w) (k : wpOp P ops Q j (fun a' w' => S w' ∧ wpAnyH P md ops Q S fuel (listed.setIfInBounds j true) a' w') a w) : wpAnyH P md ops Q S (fuel + 1) listed a w :=
  wpAnyH_all hr (by simp) (fun l hl => by
    simp only [List.mem_cons, List.not_mem_nil, or_false] at hl
    rcases hl with rfl | rfl
    · exact h
    · exact k)
theorem exec_store {o : Oper} {x y : Operand} {ty : TypeId} (ho : o.op = .store ty x y) (g t : Nat) (old cs : Array Value) (n : Nat) (hT : RowT P ty n) (hold : old.size = n) (hn : cs.size = n) (h1 : Ones cs) (hg : Lies w g t old) (hx : a.eval x = .pointer (some ⟨g, 0, none⟩)) (hy : a.eval y = .agg cs) : (execOp a.eval o).run P w = .ok .skip (w.setRow g cs) := by
  unfold execOp
  simp only [ho, hx, hy, Instr.storeAt, Instr.sureAddr, Sem.run_bind, Sem.run_pure, Result.andThen_ok, run_storeVar_row w g t ty old cs hg (by rw [hT.2, hn]) (by rw [hold, hn]) h1]
end
attribute [local irreducible] feA ptA

set_option maxHeartbeats 1600000 in
theorem showAdd (F : FieldOk) (u v : N4) (W : World) (hu : u.Lt) (hv : v.Lt) (hT : PtTab W) :
    Calls Tryd.prog 40 #[pt u, pt v] W fun e w' => e = .returned (if (u.right && v.right) = true then .tuple #[pt (plusN u v), .int .i64 0] else .tuple #[pt noneN, .int .i64 1]) ∧ Below W.heap.size W w' := by
  have hT0 := Lib.hid hT
  have HR := Lib.hid (fun w hT => wright_any F u hu w hT)
  have HQ := Lib.hid (fun w hT => wright_any F v hv w hT)
  have HS := Lib.hid (fun w hT => wplus_any F u v hu hv w hT)
  generalize u.right = R1 at *
  generalize v.right = R2 at *
  generalize plusN u v = r at *
  obtain ⟨res, hres⟩ : ∃ res, (if (R1 && R2) = true then Value.tuple #[pt r, .int .i64 0] else .tuple #[pt noneN, .int .i64 1]) = res := ⟨_, rfl⟩
  rw [hres]
  have HC : Hid ((R1 = true ∧ R2 = true ∧ res = .tuple #[pt r, .int .i64 0]) ∨ (R1 = true ∧ R2 = false ∧ res = .tuple #[pt noneN, .int .i64 1]) ∨ (R1 = false ∧ res = .tuple #[pt noneN, .int .i64 1])) := Lib.hid (by rw [← hres]; cases R1 <;> cases R2 <;> simp)
  clear hT hu hv hres
  go_enter Tryd.func40, Tryd.ntmps40
  have hp := ((Lies.new W 42 (ptA u)).alloc (.cells (ptA v) 42)).alloc (.cells z16P 42)
  have hq : Lies ((W.alloc (.cells (ptA u) 42)).alloc (.cells (ptA v) 42)) (W.heap.size + 1) 42 (ptA v) := heap_alloc2_new W _ _
  replace hq := hq.alloc (.cells z16P 42)
  have hr := lies3 W (.cells (ptA u) 42) (.cells (ptA v) 42) 42 z16P
  have hB := (((Below.refl W.heap.size W).alloc (Nat.le_refl _) (.cells (ptA u) 42)).alloc (by simp) (.cells (ptA v) 42)).alloc (by simp; omega) (.cells z16P 42)
  go_upto_region 1 with fail
  generalize World.alloc (World.alloc (World.alloc W _) _) _ = w0 at *
  refine wp_held_calm (S := fun w' => Lies w' (W.heap.size) 42 (ptA u) ∧ Lies w' (W.heap.size + 1) 42 (ptA v)) 8 rfl (by kernel_rfl) ?_
  have hpd : Lies { w0 with drawn := w0.drawn + 1 } _ _ _ := hp.drew
  have hqd : Lies { w0 with drawn := w0.drawn + 1 } _ _ _ := hq.drew
  have hrd : Lies { w0 with drawn := w0.drawn + 1 } _ _ _ := hr.drew
  have hBd : Below W.heap.size W { w0 with drawn := w0.drawn + 1 } := hB.drew
  clear hp hq hr hB
  generalize ({ w0 with drawn := w0.drawn + 1 } : World) = wd at *
  refine held_take 0 (pt u) rfl (by kernel_rfl) (by kernel_rfl) (by kernel_rfl) rfl (fun w hS => run_load_row rowPt (ptA_size _) _ hS.1 (Below.refl _ _) rfl) ⟨hpd, hqd⟩ ?_
  refine held_take 1 (pt u) rfl (by kernel_rfl) (by kernel_rfl) (by kernel_rfl) rfl (fun w hS => by kernel_rfl) ⟨hpd, hqd⟩ ?_
  refine held_take 2 (pt v) rfl (by kernel_rfl) (by kernel_rfl) (by kernel_rfl) rfl (fun w hS => run_load_row rowPt (ptA_size _) _ hS.2 (Below.refl _ _) rfl) ⟨hpd, hqd⟩ ?_
  refine held_take 3 (pt v) rfl (by kernel_rfl) (by kernel_rfl) (by kernel_rfl) rfl (fun w hS => by kernel_rfl) ⟨hpd, hqd⟩ ?_
  have ltp := hpd.lt
  have ltq := hqd.lt
  have ltr := hrd.lt
  have hsz := hBd.size
  refine held_two 4 5 (by kernel_rfl) ?_ ?_
  · refine wpOp_val rfl rfl (allocWk rfl _ _) ⟨⟨hpd.alloc _, hqd.alloc _⟩, ?_⟩
    have hwa := Lies.new wd 107 z16P
    have hp := hpd.alloc (.cells z16P 107)
    have hq := hqd.alloc (.cells z16P 107)
    have hr := hrd.alloc (.cells z16P 107)
    have hB := hBd.alloc hBd.size (.cells z16P 107)
    have ltwa := hwa.lt
    generalize World.alloc wd _ = w1 at *
    generalize wd.heap.size = gwa at *
    refine held_one 5 (by kernel_rfl) (wpOp_val rfl rfl (allocWk rfl _ _) ⟨⟨hp.alloc _, hq.alloc _⟩, ?_⟩)
    have hwq := Lies.new w1 107 z16P
    replace hp := hp.alloc (.cells z16P 107)
    replace hq := hq.alloc (.cells z16P 107)
    replace hr := hr.alloc (.cells z16P 107)
    replace hwa := hwa.alloc (.cells z16P 107)
    replace hB := hB.alloc hB.size (.cells z16P 107)
    generalize World.alloc w1 _ = w2 at *
    generalize w1.heap.size = gwq at *
    have hne : gwa ≠ gwq := by omega
    refine held_one 6 (by kernel_rfl) (wpOp_skp rfl rfl (exec_store rfl gwa 107 z16P (ptA u) 16 rowWk rfl (ptA_size _) (ptA_one _) hwa rfl rfl) ⟨⟨hp.rowFar (by omega) _, hq.rowFar (by omega) _⟩, ?_⟩)
    replace hp := hp.rowFar (show W.heap.size ≠ gwa by omega) (ptA u)
    replace hq := hq.rowFar (show W.heap.size + 1 ≠ gwa by omega) (ptA u)
    replace hr := hr.rowFar (show W.heap.size + 2 ≠ gwa by omega) (ptA u)
    replace hwq := hwq.rowFar (show gwq ≠ gwa by omega) (ptA u)
    replace hwa := hwa.row (ptA u)
    replace hB := below_rowSet hB (show W.heap.size ≤ gwa by omega) (ptA u)
    generalize World.setRow _ _ _ = w3 at *
    refine held_one 7 (by kernel_rfl) (wpOp_skp rfl rfl (exec_store rfl gwq 107 z16P (ptA v) 16 rowWk rfl (ptA_size _) (ptA_one _) hwq rfl rfl) ⟨⟨hp.rowFar (by omega) _, hq.rowFar (by omega) _⟩, ?_⟩)
    replace hp := hp.rowFar (show W.heap.size ≠ gwq by omega) (ptA v)
    replace hq := hq.rowFar (show W.heap.size + 1 ≠ gwq by omega) (ptA v)
    replace hr := hr.rowFar (show W.heap.size + 2 ≠ gwq by omega) (ptA v)
    replace hwa := hwa.rowFar (show gwa ≠ gwq by omega) (ptA v)
    replace hwq := hwq.row (ptA v)
    replace hB := below_rowSet hB (show W.heap.size ≤ gwq by omega) (ptA v)
    generalize World.setRow _ _ _ = w4 at *
    refine held_done (by kernel_rfl) ?_
    simp only [Act.put, List.setIfInBounds_toArray]
    clear hpd ltp hqd ltq hrd ltr hBd ltwa hsz
    have hT := hT0.out.on hB
    rcases HC.out with ⟨rfl, rfl, rfl⟩ | ⟨rfl, rfl, rfl⟩ | ⟨rfl, rfl⟩
    · go_wp2_with (first
      | ((with_reducible refine wpL_load (gwa) 107 (ptA u) 16 rowWk (ptA_size _) hwa ?_ ?_); rfl)
      | ((with_reducible refine wpL_load_gP (gwq) 107 (ptA v) 16 rowWk (ptA_size _) hwq ?_ ?_ ?_); rfl; rfl)
      | ((with_reducible refine wpL_load (gwq) 107 (ptA v) 16 rowWk (ptA_size _) hwq ?_ ?_); rfl)
      | (go_at_call 67; (with_reducible refine (HR.out _ hT).mono ?_); rintro e u1 ⟨rfl, hb⟩; replace hp := hp.on hb; replace hq := hq.on hb; replace hr := hr.on hb; replace hwa := hwa.on hb; replace hwq := hwq.on hb; replace hT := hT.on hb; replace hB := below_on hB hb; clear hb)
      | (go_at_call 67; (with_reducible refine (HQ.out _ hT).mono ?_); rintro e u2 ⟨rfl, hb⟩; replace hp := hp.on hb; replace hq := hq.on hb; replace hr := hr.on hb; replace hwa := hwa.on hb; replace hwq := hwq.on hb; replace hT := hT.on hb; replace hB := below_on hB hb; clear hb)
      | (go_at_call 70; (with_reducible refine (HS.out _ hT).mono ?_); rintro e u3 ⟨rfl, hb⟩; replace hp := hp.on hb; replace hq := hq.on hb; replace hr := hr.on hb; replace hwa := hwa.on hb; replace hwq := hwq.on hb; replace hT := hT.on hb; replace hB := below_on hB hb; clear hb)
      | ((with_reducible refine wpL_bld (pt noneN) ?_ ?_); kernel_rfl)
      | ((with_reducible refine wpL_fld (pt r) ?_ ?_); kernel_rfl)
      | ((with_reducible refine wpL_store (W.heap.size + 2) 42 _ (ptA noneN) 16 rowPt rfl (ptA_size _) (ptA_one _) hr ?_ ?_ ?_); rfl; rfl)
      | ((with_reducible refine wpL_store (W.heap.size + 2) 42 _ (ptA r) 16 rowPt rfl (ptA_size _) (ptA_one _) hr ?_ ?_ ?_); rfl; rfl))
      exact bodyPost_ret (results_row_tmp Tryd.results40 rowPt (ptA_size _) (hr.row _) rfl rfl) rfl ⟨rfl, below_rowSet hB (by omega) _⟩
    · go_wp2_with (first
      | ((with_reducible refine wpL_load (gwa) 107 (ptA u) 16 rowWk (ptA_size _) hwa ?_ ?_); rfl)
      | ((with_reducible refine wpL_load_gP (gwq) 107 (ptA v) 16 rowWk (ptA_size _) hwq ?_ ?_ ?_); rfl; rfl)
      | ((with_reducible refine wpL_load (gwq) 107 (ptA v) 16 rowWk (ptA_size _) hwq ?_ ?_); rfl)
      | (go_at_call 67; (with_reducible refine (HR.out _ hT).mono ?_); rintro e u1 ⟨rfl, hb⟩; replace hp := hp.on hb; replace hq := hq.on hb; replace hr := hr.on hb; replace hwa := hwa.on hb; replace hwq := hwq.on hb; replace hT := hT.on hb; replace hB := below_on hB hb; clear hb)
      | (go_at_call 67; (with_reducible refine (HQ.out _ hT).mono ?_); rintro e u2 ⟨rfl, hb⟩; replace hp := hp.on hb; replace hq := hq.on hb; replace hr := hr.on hb; replace hwa := hwa.on hb; replace hwq := hwq.on hb; replace hT := hT.on hb; replace hB := below_on hB hb; clear hb)
      | (go_at_call 70; (with_reducible refine (HS.out _ hT).mono ?_); rintro e u3 ⟨rfl, hb⟩; replace hp := hp.on hb; replace hq := hq.on hb; replace hr := hr.on hb; replace hwa := hwa.on hb; replace hwq := hwq.on hb; replace hT := hT.on hb; replace hB := below_on hB hb; clear hb)
      | ((with_reducible refine wpL_bld (pt noneN) ?_ ?_); kernel_rfl)
      | ((with_reducible refine wpL_fld (pt r) ?_ ?_); kernel_rfl)
      | ((with_reducible refine wpL_store (W.heap.size + 2) 42 _ (ptA noneN) 16 rowPt rfl (ptA_size _) (ptA_one _) hr ?_ ?_ ?_); rfl; rfl)
      | ((with_reducible refine wpL_store (W.heap.size + 2) 42 _ (ptA r) 16 rowPt rfl (ptA_size _) (ptA_one _) hr ?_ ?_ ?_); rfl; rfl))
      exact bodyPost_ret (results_row_tmp Tryd.results40 rowPt (ptA_size _) (hr.row _) rfl rfl) rfl ⟨rfl, below_rowSet hB (by omega) _⟩
    · go_wp2_with (first
      | ((with_reducible refine wpL_load (gwa) 107 (ptA u) 16 rowWk (ptA_size _) hwa ?_ ?_); rfl)
      | ((with_reducible refine wpL_load_gP (gwq) 107 (ptA v) 16 rowWk (ptA_size _) hwq ?_ ?_ ?_); rfl; rfl)
      | ((with_reducible refine wpL_load (gwq) 107 (ptA v) 16 rowWk (ptA_size _) hwq ?_ ?_); rfl)
      | (go_at_call 67; (with_reducible refine (HR.out _ hT).mono ?_); rintro e u1 ⟨rfl, hb⟩; replace hp := hp.on hb; replace hq := hq.on hb; replace hr := hr.on hb; replace hwa := hwa.on hb; replace hwq := hwq.on hb; replace hT := hT.on hb; replace hB := below_on hB hb; clear hb)
      | (go_at_call 67; (with_reducible refine (HQ.out _ hT).mono ?_); rintro e u2 ⟨rfl, hb⟩; replace hp := hp.on hb; replace hq := hq.on hb; replace hr := hr.on hb; replace hwa := hwa.on hb; replace hwq := hwq.on hb; replace hT := hT.on hb; replace hB := below_on hB hb; clear hb)
      | (go_at_call 70; (with_reducible refine (HS.out _ hT).mono ?_); rintro e u3 ⟨rfl, hb⟩; replace hp := hp.on hb; replace hq := hq.on hb; replace hr := hr.on hb; replace hwa := hwa.on hb; replace hwq := hwq.on hb; replace hT := hT.on hb; replace hB := below_on hB hb; clear hb)
      | ((with_reducible refine wpL_bld (pt noneN) ?_ ?_); kernel_rfl)
      | ((with_reducible refine wpL_fld (pt r) ?_ ?_); kernel_rfl)
      | ((with_reducible refine wpL_store (W.heap.size + 2) 42 _ (ptA noneN) 16 rowPt rfl (ptA_size _) (ptA_one _) hr ?_ ?_ ?_); rfl; rfl)
      | ((with_reducible refine wpL_store (W.heap.size + 2) 42 _ (ptA r) 16 rowPt rfl (ptA_size _) (ptA_one _) hr ?_ ?_ ?_); rfl; rfl))
      exact bodyPost_ret (results_row_tmp Tryd.results40 rowPt (ptA_size _) (hr.row _) rfl rfl) rfl ⟨rfl, below_rowSet hB (by omega) _⟩
  · refine wpOp_val rfl rfl (allocWk rfl _ _) ⟨⟨hpd.alloc _, hqd.alloc _⟩, ?_⟩
    have hwq := Lies.new wd 107 z16P
    have hp := hpd.alloc (.cells z16P 107)
    have hq := hqd.alloc (.cells z16P 107)
    have hr := hrd.alloc (.cells z16P 107)
    have hB := hBd.alloc hBd.size (.cells z16P 107)
    have ltwq := hwq.lt
    generalize World.alloc wd _ = w1 at *
    generalize wd.heap.size = gwq at *
    refine held_one 4 (by kernel_rfl) (wpOp_val rfl rfl (allocWk rfl _ _) ⟨⟨hp.alloc _, hq.alloc _⟩, ?_⟩)
    have hwa := Lies.new w1 107 z16P
    replace hp := hp.alloc (.cells z16P 107)
    replace hq := hq.alloc (.cells z16P 107)
    replace hr := hr.alloc (.cells z16P 107)
    replace hwq := hwq.alloc (.cells z16P 107)
    replace hB := hB.alloc hB.size (.cells z16P 107)
    generalize World.alloc w1 _ = w2 at *
    generalize w1.heap.size = gwa at *
    have hne : gwa ≠ gwq := by omega
    refine held_one 6 (by kernel_rfl) (wpOp_skp rfl rfl (exec_store rfl gwa 107 z16P (ptA u) 16 rowWk rfl (ptA_size _) (ptA_one _) hwa rfl rfl) ⟨⟨hp.rowFar (by omega) _, hq.rowFar (by omega) _⟩, ?_⟩)
    replace hp := hp.rowFar (show W.heap.size ≠ gwa by omega) (ptA u)
    replace hq := hq.rowFar (show W.heap.size + 1 ≠ gwa by omega) (ptA u)
    replace hr := hr.rowFar (show W.heap.size + 2 ≠ gwa by omega) (ptA u)
    replace hwq := hwq.rowFar (show gwq ≠ gwa by omega) (ptA u)
    replace hwa := hwa.row (ptA u)
    replace hB := below_rowSet hB (show W.heap.size ≤ gwa by omega) (ptA u)
    generalize World.setRow _ _ _ = w3 at *
    refine held_one 7 (by kernel_rfl) (wpOp_skp rfl rfl (exec_store rfl gwq 107 z16P (ptA v) 16 rowWk rfl (ptA_size _) (ptA_one _) hwq rfl rfl) ⟨⟨hp.rowFar (by omega) _, hq.rowFar (by omega) _⟩, ?_⟩)
    replace hp := hp.rowFar (show W.heap.size ≠ gwq by omega) (ptA v)
    replace hq := hq.rowFar (show W.heap.size + 1 ≠ gwq by omega) (ptA v)
    replace hr := hr.rowFar (show W.heap.size + 2 ≠ gwq by omega) (ptA v)
    replace hwa := hwa.rowFar (show gwa ≠ gwq by omega) (ptA v)
    replace hwq := hwq.row (ptA v)
    replace hB := below_rowSet hB (show W.heap.size ≤ gwq by omega) (ptA v)
    generalize World.setRow _ _ _ = w4 at *
    refine held_done (by kernel_rfl) ?_
    simp only [Act.put, List.setIfInBounds_toArray]
    clear hpd ltp hqd ltq hrd ltr hBd ltwq hsz
    have hT := hT0.out.on hB
    rcases HC.out with ⟨rfl, rfl, rfl⟩ | ⟨rfl, rfl, rfl⟩ | ⟨rfl, rfl⟩
    · go_wp2_with (first
      | ((with_reducible refine wpL_load (gwa) 107 (ptA u) 16 rowWk (ptA_size _) hwa ?_ ?_); rfl)
      | ((with_reducible refine wpL_load_gP (gwq) 107 (ptA v) 16 rowWk (ptA_size _) hwq ?_ ?_ ?_); rfl; rfl)
      | ((with_reducible refine wpL_load (gwq) 107 (ptA v) 16 rowWk (ptA_size _) hwq ?_ ?_); rfl)
      | (go_at_call 67; (with_reducible refine (HR.out _ hT).mono ?_); rintro e u1 ⟨rfl, hb⟩; replace hp := hp.on hb; replace hq := hq.on hb; replace hr := hr.on hb; replace hwa := hwa.on hb; replace hwq := hwq.on hb; replace hT := hT.on hb; replace hB := below_on hB hb; clear hb)
      | (go_at_call 67; (with_reducible refine (HQ.out _ hT).mono ?_); rintro e u2 ⟨rfl, hb⟩; replace hp := hp.on hb; replace hq := hq.on hb; replace hr := hr.on hb; replace hwa := hwa.on hb; replace hwq := hwq.on hb; replace hT := hT.on hb; replace hB := below_on hB hb; clear hb)
      | (go_at_call 70; (with_reducible refine (HS.out _ hT).mono ?_); rintro e u3 ⟨rfl, hb⟩; replace hp := hp.on hb; replace hq := hq.on hb; replace hr := hr.on hb; replace hwa := hwa.on hb; replace hwq := hwq.on hb; replace hT := hT.on hb; replace hB := below_on hB hb; clear hb)
      | ((with_reducible refine wpL_bld (pt noneN) ?_ ?_); kernel_rfl)
      | ((with_reducible refine wpL_fld (pt r) ?_ ?_); kernel_rfl)
      | ((with_reducible refine wpL_store (W.heap.size + 2) 42 _ (ptA noneN) 16 rowPt rfl (ptA_size _) (ptA_one _) hr ?_ ?_ ?_); rfl; rfl)
      | ((with_reducible refine wpL_store (W.heap.size + 2) 42 _ (ptA r) 16 rowPt rfl (ptA_size _) (ptA_one _) hr ?_ ?_ ?_); rfl; rfl))
      exact bodyPost_ret (results_row_tmp Tryd.results40 rowPt (ptA_size _) (hr.row _) rfl rfl) rfl ⟨rfl, below_rowSet hB (by omega) _⟩
    · go_wp2_with (first
      | ((with_reducible refine wpL_load (gwa) 107 (ptA u) 16 rowWk (ptA_size _) hwa ?_ ?_); rfl)
      | ((with_reducible refine wpL_load_gP (gwq) 107 (ptA v) 16 rowWk (ptA_size _) hwq ?_ ?_ ?_); rfl; rfl)
      | ((with_reducible refine wpL_load (gwq) 107 (ptA v) 16 rowWk (ptA_size _) hwq ?_ ?_); rfl)
      | (go_at_call 67; (with_reducible refine (HR.out _ hT).mono ?_); rintro e u1 ⟨rfl, hb⟩; replace hp := hp.on hb; replace hq := hq.on hb; replace hr := hr.on hb; replace hwa := hwa.on hb; replace hwq := hwq.on hb; replace hT := hT.on hb; replace hB := below_on hB hb; clear hb)
      | (go_at_call 67; (with_reducible refine (HQ.out _ hT).mono ?_); rintro e u2 ⟨rfl, hb⟩; replace hp := hp.on hb; replace hq := hq.on hb; replace hr := hr.on hb; replace hwa := hwa.on hb; replace hwq := hwq.on hb; replace hT := hT.on hb; replace hB := below_on hB hb; clear hb)
      | (go_at_call 70; (with_reducible refine (HS.out _ hT).mono ?_); rintro e u3 ⟨rfl, hb⟩; replace hp := hp.on hb; replace hq := hq.on hb; replace hr := hr.on hb; replace hwa := hwa.on hb; replace hwq := hwq.on hb; replace hT := hT.on hb; replace hB := below_on hB hb; clear hb)
      | ((with_reducible refine wpL_bld (pt noneN) ?_ ?_); kernel_rfl)
      | ((with_reducible refine wpL_fld (pt r) ?_ ?_); kernel_rfl)
      | ((with_reducible refine wpL_store (W.heap.size + 2) 42 _ (ptA noneN) 16 rowPt rfl (ptA_size _) (ptA_one _) hr ?_ ?_ ?_); rfl; rfl)
      | ((with_reducible refine wpL_store (W.heap.size + 2) 42 _ (ptA r) 16 rowPt rfl (ptA_size _) (ptA_one _) hr ?_ ?_ ?_); rfl; rfl))
      exact bodyPost_ret (results_row_tmp Tryd.results40 rowPt (ptA_size _) (hr.row _) rfl rfl) rfl ⟨rfl, below_rowSet hB (by omega) _⟩
    · go_wp2_with (first
      | ((with_reducible refine wpL_load (gwa) 107 (ptA u) 16 rowWk (ptA_size _) hwa ?_ ?_); rfl)
      | ((with_reducible refine wpL_load_gP (gwq) 107 (ptA v) 16 rowWk (ptA_size _) hwq ?_ ?_ ?_); rfl; rfl)
      | ((with_reducible refine wpL_load (gwq) 107 (ptA v) 16 rowWk (ptA_size _) hwq ?_ ?_); rfl)
      | (go_at_call 67; (with_reducible refine (HR.out _ hT).mono ?_); rintro e u1 ⟨rfl, hb⟩; replace hp := hp.on hb; replace hq := hq.on hb; replace hr := hr.on hb; replace hwa := hwa.on hb; replace hwq := hwq.on hb; replace hT := hT.on hb; replace hB := below_on hB hb; clear hb)
      | (go_at_call 67; (with_reducible refine (HQ.out _ hT).mono ?_); rintro e u2 ⟨rfl, hb⟩; replace hp := hp.on hb; replace hq := hq.on hb; replace hr := hr.on hb; replace hwa := hwa.on hb; replace hwq := hwq.on hb; replace hT := hT.on hb; replace hB := below_on hB hb; clear hb)
      | (go_at_call 70; (with_reducible refine (HS.out _ hT).mono ?_); rintro e u3 ⟨rfl, hb⟩; replace hp := hp.on hb; replace hq := hq.on hb; replace hr := hr.on hb; replace hwa := hwa.on hb; replace hwq := hwq.on hb; replace hT := hT.on hb; replace hB := below_on hB hb; clear hb)
      | ((with_reducible refine wpL_bld (pt noneN) ?_ ?_); kernel_rfl)
      | ((with_reducible refine wpL_fld (pt r) ?_ ?_); kernel_rfl)
      | ((with_reducible refine wpL_store (W.heap.size + 2) 42 _ (ptA noneN) 16 rowPt rfl (ptA_size _) (ptA_one _) hr ?_ ?_ ?_); rfl; rfl)
      | ((with_reducible refine wpL_store (W.heap.size + 2) 42 _ (ptA r) 16 rowPt rfl (ptA_size _) (ptA_one _) hr ?_ ?_ ?_); rfl; rfl))
      exact bodyPost_ret (results_row_tmp Tryd.results40 rowPt (ptA_size _) (hr.row _) rfl rfl) rfl ⟨rfl, below_rowSet hB (by omega) _⟩

set_option maxHeartbeats 1600000 in
theorem showNeg (F : FieldOk)  (u : N4) (W : World) (hu : u.Lt) (hT : PtTab W) :
    Calls Tryd.prog 39 #[pt u] W fun e w' => e = .returned (if u.right = true then .tuple #[pt (negN u), .int .i64 0] else .tuple #[pt noneN, .int .i64 1]) ∧ Below W.heap.size W w' := by
  have hT0 := Lib.hid hT
  have HR := Lib.hid (fun w hT => wright_any F u hu w hT)
  have HS := Lib.hid (fun w hT => wcontrary_any F u hu w hT)
  generalize u.right = R1 at *
  generalize (negN u) = r at *
  clear hT hu
  go_enter Tryd.func39, Tryd.ntmps39
  have hp := (Lies.new W 42 (ptA u)).alloc (.cells z16P 42)
  have hr : Lies ((W.alloc (.cells (ptA u) 42)).alloc (.cells z16P 42)) (W.heap.size + 1) 42 z16P := heap_alloc2_new W _ _
  have hB := ((Below.refl W.heap.size W).alloc (Nat.le_refl _) (.cells (ptA u) 42)).alloc (by simp) (.cells z16P 42)
  go_upto_region 1 with fail
  generalize World.alloc (World.alloc W _) _ = w0 at *
  have hT := hT0.out.on hB
  go_upto_region 2 with (first
    | ((with_reducible refine wpL_load (W.heap.size) 42 (ptA u) 16 rowPt (ptA_size _) hp ?_ ?_); rfl)
    | ((with_reducible refine wpL_bld (pt u) ?_ ?_); kernel_rfl)
    | ((with_reducible refine wpL_store w0.heap.size 107 _ (ptA u) 16 rowWk ?_ (ptA_size _) (ptA_one _) (Lies.new w0 _ _) ?_ ?_ ?_); rfl; rfl; rfl))
  have hwa := newly_lies w0 107 z16P (ptA u)
  have hnw := newly w0 (.cells z16P 107) (ptA u)
  replace hp := hp.on hnw
  replace hr := hr.on hnw
  replace hB := below_on hB hnw
  clear hnw hT
  generalize World.setRow _ _ _ = w1 at *
  generalize w0.heap.size = gwa at *
  have hT := hT0.out.on hB
  cases R1
  · go_wp2_with (first
    | ((with_reducible refine wpL_load (gwa) 107 (ptA u) 16 rowWk (ptA_size _) hwa ?_ ?_); rfl)
    | (go_at_call 67; (with_reducible refine (HR.out _ hT).mono ?_); rintro e u2 ⟨rfl, hb⟩; replace hp := hp.on hb; replace hr := hr.on hb; replace hwa := hwa.on hb; replace hT := hT.on hb; replace hB := below_on hB hb; clear hb)
    | (go_at_call 69; (with_reducible refine (HS.out _ hT).mono ?_); rintro e u3 ⟨rfl, hb⟩; replace hp := hp.on hb; replace hr := hr.on hb; replace hwa := hwa.on hb; replace hT := hT.on hb; replace hB := below_on hB hb; clear hb)
    | ((with_reducible refine wpL_bld (pt noneN) ?_ ?_); kernel_rfl)
    | ((with_reducible refine wpL_fld (pt r) ?_ ?_); kernel_rfl)
    | ((with_reducible refine wpL_store (W.heap.size + 1) 42 _ (ptA noneN) 16 rowPt rfl (ptA_size _) (ptA_one _) hr ?_ ?_ ?_); rfl; rfl)
    | ((with_reducible refine wpL_store (W.heap.size + 1) 42 _ (ptA r) 16 rowPt rfl (ptA_size _) (ptA_one _) hr ?_ ?_ ?_); rfl; rfl))
    exact bodyPost_ret (results_row_tmp Tryd.results39 rowPt (ptA_size _) (hr.row _) rfl rfl) rfl ⟨rfl, below_rowSet hB (by omega) _⟩
  · go_wp2_with (first
    | ((with_reducible refine wpL_load (gwa) 107 (ptA u) 16 rowWk (ptA_size _) hwa ?_ ?_); rfl)
    | (go_at_call 67; (with_reducible refine (HR.out _ hT).mono ?_); rintro e u2 ⟨rfl, hb⟩; replace hp := hp.on hb; replace hr := hr.on hb; replace hwa := hwa.on hb; replace hT := hT.on hb; replace hB := below_on hB hb; clear hb)
    | (go_at_call 69; (with_reducible refine (HS.out _ hT).mono ?_); rintro e u3 ⟨rfl, hb⟩; replace hp := hp.on hb; replace hr := hr.on hb; replace hwa := hwa.on hb; replace hT := hT.on hb; replace hB := below_on hB hb; clear hb)
    | ((with_reducible refine wpL_bld (pt noneN) ?_ ?_); kernel_rfl)
    | ((with_reducible refine wpL_fld (pt r) ?_ ?_); kernel_rfl)
    | ((with_reducible refine wpL_store (W.heap.size + 1) 42 _ (ptA noneN) 16 rowPt rfl (ptA_size _) (ptA_one _) hr ?_ ?_ ?_); rfl; rfl)
    | ((with_reducible refine wpL_store (W.heap.size + 1) 42 _ (ptA r) 16 rowPt rfl (ptA_size _) (ptA_one _) hr ?_ ?_ ?_); rfl; rfl))
    exact bodyPost_ret (results_row_tmp Tryd.results39 rowPt (ptA_size _) (hr.row _) rfl rfl) rfl ⟨rfl, below_rowSet hB (by omega) _⟩

set_option maxHeartbeats 1600000 in
theorem showMul (F : FieldOk) (n : Nat) (u : N4) (W : World) (hu : u.Lt) (hT : PtTab W) :
    Calls Tryd.prog 38 #[fe n, pt u] W fun e w' => e = .returned (if u.right = true then .tuple #[pt (tN n u 256), .int .i64 0] else .tuple #[pt noneN, .int .i64 1]) ∧ Below W.heap.size W w' := by
  have hT0 := Lib.hid hT
  have HR := Lib.hid (fun w hT => wright_any F u hu w hT)
  have HS := Lib.hid (fun w hT => wtimes_any F u n hu w hT)
  generalize u.right = R1 at *
  generalize (tN n u 256) = r at *
  clear hT hu
  go_enter Tryd.func38, Tryd.ntmps38
  have hn := ((Lies.new W 36 (feA n)).alloc (.cells (ptA u) 42)).alloc (.cells z16P 42)
  have hp : Lies ((W.alloc (.cells (feA n) 36)).alloc (.cells (ptA u) 42)) (W.heap.size + 1) 42 (ptA u) := heap_alloc2_new W _ _
  replace hp := hp.alloc (.cells z16P 42)
  have hr := lies3 W (.cells (feA n) 36) (.cells (ptA u) 42) 42 z16P
  have hB := (((Below.refl W.heap.size W).alloc (Nat.le_refl _) (.cells (feA n) 36)).alloc (by simp) (.cells (ptA u) 42)).alloc (by simp; omega) (.cells z16P 42)
  go_upto_region 1 with fail
  generalize World.alloc (World.alloc (World.alloc W _) _) _ = w0 at *
  have hT := hT0.out.on hB
  go_upto_region 2 with (first
    | ((with_reducible refine wpL_load (W.heap.size + 1) 42 (ptA u) 16 rowPt (ptA_size _) hp ?_ ?_); rfl)
    | ((with_reducible refine wpL_bld (pt u) ?_ ?_); kernel_rfl)
    | ((with_reducible refine wpL_store w0.heap.size 107 _ (ptA u) 16 rowWk ?_ (ptA_size _) (ptA_one _) (Lies.new w0 _ _) ?_ ?_ ?_); rfl; rfl; rfl))
  have hwa := newly_lies w0 107 z16P (ptA u)
  have hnw := newly w0 (.cells z16P 107) (ptA u)
  replace hn := hn.on hnw
  replace hp := hp.on hnw
  replace hr := hr.on hnw
  replace hB := below_on hB hnw
  clear hnw hT
  generalize World.setRow _ _ _ = w1 at *
  generalize w0.heap.size = gwa at *
  have hT := hT0.out.on hB
  cases R1
  · go_wp2_with (first
    | ((with_reducible refine wpL_load (gwa) 107 (ptA u) 16 rowWk (ptA_size _) hwa ?_ ?_); rfl)
    | ((with_reducible refine wpL_load (W.heap.size) 36 (feA n) 4 rowScP (feA_size _) hn ?_ ?_); rfl)
    | (go_at_call 67; (with_reducible refine (HR.out _ hT).mono ?_); rintro e u2 ⟨rfl, hb⟩; replace hn := hn.on hb; replace hp := hp.on hb; replace hr := hr.on hb; replace hwa := hwa.on hb; replace hT := hT.on hb; replace hB := below_on hB hb; clear hb)
    | (go_at_call 68; (with_reducible refine (HS.out _ hT).mono ?_); rintro e u3 ⟨rfl, hb⟩; replace hn := hn.on hb; replace hp := hp.on hb; replace hr := hr.on hb; replace hwa := hwa.on hb; replace hT := hT.on hb; replace hB := below_on hB hb; clear hb)
    | ((with_reducible refine wpL_bld (pt noneN) ?_ ?_); kernel_rfl)
    | ((with_reducible refine wpL_fld (pt r) ?_ ?_); kernel_rfl)
    | ((with_reducible refine wpL_store (W.heap.size + 2) 42 _ (ptA noneN) 16 rowPt rfl (ptA_size _) (ptA_one _) hr ?_ ?_ ?_); rfl; rfl)
    | ((with_reducible refine wpL_store (W.heap.size + 2) 42 _ (ptA r) 16 rowPt rfl (ptA_size _) (ptA_one _) hr ?_ ?_ ?_); rfl; rfl))
    exact bodyPost_ret (results_row_tmp Tryd.results38 rowPt (ptA_size _) (hr.row _) rfl rfl) rfl ⟨rfl, below_rowSet hB (by omega) _⟩
  · go_wp2_with (first
    | ((with_reducible refine wpL_load (gwa) 107 (ptA u) 16 rowWk (ptA_size _) hwa ?_ ?_); rfl)
    | ((with_reducible refine wpL_load (W.heap.size) 36 (feA n) 4 rowScP (feA_size _) hn ?_ ?_); rfl)
    | (go_at_call 67; (with_reducible refine (HR.out _ hT).mono ?_); rintro e u2 ⟨rfl, hb⟩; replace hn := hn.on hb; replace hp := hp.on hb; replace hr := hr.on hb; replace hwa := hwa.on hb; replace hT := hT.on hb; replace hB := below_on hB hb; clear hb)
    | (go_at_call 68; (with_reducible refine (HS.out _ hT).mono ?_); rintro e u3 ⟨rfl, hb⟩; replace hn := hn.on hb; replace hp := hp.on hb; replace hr := hr.on hb; replace hwa := hwa.on hb; replace hT := hT.on hb; replace hB := below_on hB hb; clear hb)
    | ((with_reducible refine wpL_bld (pt noneN) ?_ ?_); kernel_rfl)
    | ((with_reducible refine wpL_fld (pt r) ?_ ?_); kernel_rfl)
    | ((with_reducible refine wpL_store (W.heap.size + 2) 42 _ (ptA noneN) 16 rowPt rfl (ptA_size _) (ptA_one _) hr ?_ ?_ ?_); rfl; rfl)
    | ((with_reducible refine wpL_store (W.heap.size + 2) 42 _ (ptA r) 16 rowPt rfl (ptA_size _) (ptA_one _) hr ?_ ?_ ?_); rfl; rfl))
    exact bodyPost_ret (results_row_tmp Tryd.results38 rowPt (ptA_size _) (hr.row _) rfl rfl) rfl ⟨rfl, below_rowSet hB (by omega) _⟩

end Go.Proofs.YtgefhfcmiefocaaDoor.C

/- The contract of withY. -/
namespace Go.Proofs.YtgefhfcmiefocaaDoor.C
open Go.RowKit Go.Sort Go.Proofs.YtgefhfcmiefocaaDoor.F
set_option maxRecDepth 100000

theorem xOf_minus (y : Nat) : xOf y true = minusN (xE y) := by unfold xOf minusN; rw [if_pos rfl]
theorem xOf_plain (y : Nat) : xOf y false = xE y := by unfold xOf; rw [if_neg (by decide)]
theorem xE_def (y : Nat) : sqrtR (wN y) = xE y := by unfold xE; exact Eq.refl _
theorem xB_def (y : Nat) : sqrtB (wN y) = xB y := by unfold xB; exact Eq.refl _
theorem wN_def (y : Nat) : wN y = (y * y % p25 + (p25 - 1 % p25)) % p25 * invN ((dN * (y * y % p25) % p25 + 1) % p25) % p25 := by unfold wN; exact Eq.refl _
theorem parseN_def (y : Nat) (odd : Bool) : parseN y odd = ⟨xOf y odd, y, 1, xOf y odd * y % p25⟩ := by unfold parseN; exact Eq.refl _
/-- do these numbers tell a point, as the program says it? -/
def wyB (y : Nat) (odd : Bool) : Bool := xB y && (decide (xOf y odd % 2 = 1) == odd)
theorem wyB_def (y : Nat) (odd : Bool) : wyB y odd = (xB y && (decide (xOf y odd % 2 = 1) == odd)) := by unfold wyB; exact Eq.refl _
theorem wyB_is {y : Nat} (hy : y < p25) (odd : Bool) : parseB y odd = wyB y odd := by
  unfold parseB wyB
  rw [decide_eq_true hy, Bool.true_and]
  congr 1
  cases odd with
  | false => rw [xOf_odd y false (.inr rfl)]; rfl
  | true =>
    by_cases h : xE y = 0
    · rw [decide_eq_true h]
      have : xOf y true = 0 := by unfold xOf; rw [if_pos rfl, h]; decide
      rw [this]
      decide
    · rw [decide_eq_false h, xOf_odd y true (.inl h)]
      rfl
attribute [local irreducible] feA ptA wpQuiet

set_option maxHeartbeats 3200000 in
theorem wwithY_any (F : FieldOk) (y : Nat) (odd : Bool) (W : World) (hy : y < K256) (hT : PtTab2 W) :
    Calls Tryd.prog 35 #[fe y, .bool odd] W fun e w' => e = .returned (.tuple #[pt (parseN y odd), .bool (wyB y odd)]) ∧ Below W.heap.size W w' := by
  have hT0 := Lib.hid hT
  have HO1 : Hid (∀ w, Tab w → Calls Tryd.prog 60 #[.int .u64 1] w fun e w' => e = .returned (fe 1) ∧ Below w.heap.size w w') := Lib.hid (fun w hT => F.of 1 w (by decide) hT)
  have HD : Hid (∀ w, PtTab w → w.rangeAt 0 0 (feA dN).toList) := Lib.hid (fun w h => h.2.1.root)
  have kD : dN < K256 := by decide
  have hw := wN_def y
  have HSq := Lib.hid (fun w hT => sqrt_any (wN y) w (below_K (wN_lt y)) hT)
  rw [xE_def, xB_def] at HSq
  have hx : xOf y odd < K256 := below_K (xOf_lt y odd)
  have HAt := Lib.hid (fun w hT => wat_any F (xOf y odd) y w hx hy hT)
  have HOd := Lib.hid (fun w => wodd_any (xOf y odd) w)
  have HMi := Lib.hid (fun w hT => wminus_any F (xE y) w (below_K (xE_lt y)) hT)
  rw [← xOf_minus] at HMi
  have hfe := xOf_plain y
  have HFe := Lib.hid hfe
  have hres := parseN_def y odd
  rw [← hres] at HAt
  generalize parseN y odd = res at *
  have hwy := wyB_def y odd
  rw [hwy]
  generalize xB y = B at *
  generalize decide (xOf y odd % 2 = 1) = O at *
  clear hres hwy hx hfe
  generalize dN = D at *
  have Hsq := Lib.hid (fun w hT => F.mul y y w hy hy hT)
  have ksq := mod_K (y * y)
  generalize y * y % p25 = sq at *
  have Hov := Lib.hid (fun w hT => F.sub sq 1 w ksq (by decide) hT)
  have kov := mod_K (sq + (p25 - 1 % p25))
  generalize (sq + (p25 - 1 % p25)) % p25 = ov at *
  have Hds := Lib.hid (fun w hT => F.mul D sq w kD ksq hT)
  have kds := mod_K (D * sq)
  generalize D * sq % p25 = ds at *
  have Hun := Lib.hid (fun w hT => F.add ds 1 w kds (by decide) hT)
  have kun := mod_K (ds + 1)
  generalize (ds + 1) % p25 = un at *
  have Hiu := Lib.hid (fun w hT => F.inv un w kun hT)
  have kiu : invN un < K256 := below_K (invN_lt _)
  generalize invN un = iu at *
  have Hwn := Lib.hid (fun w hT => F.mul ov iu w kov kiu hT)
  have kwn := mod_K (ov * iu)
  rw [← hw] at Hwn
  clear hw kwn
  generalize wN y = wn at *
  clear ksq kov kds kun kiu kD hT hy
  go_enter Tryd.func35, Tryd.ntmps35
  have hpy := (Lies.new W 40 (feA y)).alloc (.cells z16P 42)
  have hr : Lies ((W.alloc (.cells (feA y) 40)).alloc (.cells z16P 42)) (W.heap.size + 1) 42 z16P := heap_alloc2_new W _ _
  have hB := ((Below.refl W.heap.size W).alloc (Nat.le_refl _) (.cells (feA y) 40)).alloc (by simp) (.cells z16P 42)
  go_upto_region 1 with fail
  generalize World.alloc (World.alloc W _) _ = w0 at *
  have hT := (hT0.out.on hB).1.f
  go_upto_region 2 with (first
    | ((with_reducible refine wpL_load (W.heap.size) 40 (feA y) 4 rowFe (feA_size _) hpy ?_ ?_); rfl)
    | (go_at_call 58; (with_reducible refine (Hsq.out _ hT).mono ?_); rintro e u1 ⟨rfl, hb⟩; replace hpy := hpy.on hb; replace hr := hr.on hb; replace hT := hT.on hb; replace hB := below_on hB hb; clear hb)
    | ((with_reducible refine wpL_store u1.heap.size 40 _ (feA sq) 4 rowFe ?_ (feA_size _) (feA_one _) (Lies.new u1 _ _) ?_ ?_ ?_); rfl; rfl; rfl))
  have hsq := newly_lies u1 40 fe0A (feA sq)
  have hnw := newly u1 (.cells fe0A 40) (feA sq)
  replace hpy := hpy.on hnw
  replace hr := hr.on hnw
  replace hB := below_on hB hnw
  clear hnw hT
  generalize World.setRow _ _ _ = w1 at *
  generalize u1.heap.size = gsq at *
  have hT := (hT0.out.on hB).1.f
  refine wp_region_made 3 7 _ 40 fe0A rfl rfl (by kernel_rfl) (by kernel_rfl) (alloc_fe rfl) ?_
  simp only [List.take_succ_cons, List.take_zero, List.drop_succ_cons, List.drop_zero]
  refine wpQB_fe (gsq) sq hsq rfl ?_
  simp only [Act.put, List.setIfInBounds_toArray, List.set_cons_succ, List.set_cons_zero]
  refine wpQB_call 60 #[.int .u64 1] (fe 1) rfl rfl (fun _ => by kernel_rfl) (fun w hb => HO1.out w (hT.on hb)) ?_
  simp only [Act.put, List.setIfInBounds_toArray, List.set_cons_succ, List.set_cons_zero]
  refine wpQB_call 59 #[fe sq, fe 1] (fe ov) rfl rfl (fun _ => by kernel_rfl) (fun w hb => Hov.out w (hT.on hb)) ?_
  simp only [Act.put, List.setIfInBounds_toArray, List.set_cons_succ, List.set_cons_zero]
  refine wpQB_nil ?_
  intro gov w2 hb hk hy
  simp only [List.setIfInBounds_toArray, List.set_cons_succ, List.set_cons_zero]
  replace hy : Lies w2 gov 40 fe0A := hy
  have hl := hpy.lt
  replace hpy := (hpy.on hb).rowFar (show W.heap.size ≠ gov by omega) (feA ov)
  clear hl
  have hl := hr.lt
  replace hr := (hr.on hb).rowFar (show W.heap.size + 1 ≠ gov by omega) (feA ov)
  clear hl
  have hl := hsq.lt
  replace hsq := (hsq.on hb).rowFar (show gsq ≠ gov by omega) (feA ov)
  clear hl
  have hsz := hB.size
  replace hB := below_rowSet (below_on hB hb) (show W.heap.size ≤ gov by omega) (feA ov)
  clear hb hsz
  have hov := hy.row (feA ov)
  clear hk
  go_upto_region 3 with ((with_reducible refine wpL_store gov 40 _ (feA ov) 4 rowFe rfl (feA_size _) (feA_one _) hy ?_ ?_ ?_); rfl; rfl)
  clear hy
  generalize World.setRow _ _ _ = w2b at *
  clear hT
  have hT := (hT0.out.on hB).1.f
  have hD := HD.out _ (hT0.out.on hB).1
  go_upto_region 4 with (first
    | ((with_reducible refine wpL_loadGlobal 0 0 (feA D).toList 4 rowFe (by rw [Array.length_toList]; exact feA_size _) hD ?_ ?_); rfl; rw [Array.toArray_toList])
    | ((with_reducible refine wpL_load (gsq) 40 (feA sq) 4 rowFe (feA_size _) hsq ?_ ?_); rfl)
    | (go_at_call 58; (with_reducible refine (Hds.out _ hT).mono ?_); rintro e u3a ⟨rfl, hb⟩; replace hpy := hpy.on hb; replace hr := hr.on hb; replace hsq := hsq.on hb; replace hov := hov.on hb; replace hT := hT.on hb; replace hB := below_on hB hb; clear hb)
    | (go_at_call 60; (with_reducible refine (HO1.out _ hT).mono ?_); rintro e u3b ⟨rfl, hb⟩; replace hpy := hpy.on hb; replace hr := hr.on hb; replace hsq := hsq.on hb; replace hov := hov.on hb; replace hT := hT.on hb; replace hB := below_on hB hb; clear hb)
    | (go_at_call 61; (with_reducible refine (Hun.out _ hT).mono ?_); rintro e u3 ⟨rfl, hb⟩; replace hpy := hpy.on hb; replace hr := hr.on hb; replace hsq := hsq.on hb; replace hov := hov.on hb; replace hT := hT.on hb; replace hB := below_on hB hb; clear hb)
    | ((with_reducible refine wpL_store u3.heap.size 40 _ (feA un) 4 rowFe ?_ (feA_size _) (feA_one _) (Lies.new u3 _ _) ?_ ?_ ?_); rfl; rfl; rfl))
  have hun := newly_lies u3 40 fe0A (feA un)
  have hnw := newly u3 (.cells fe0A 40) (feA un)
  replace hpy := hpy.on hnw
  replace hr := hr.on hnw
  replace hsq := hsq.on hnw
  replace hov := hov.on hnw
  replace hB := below_on hB hnw
  clear hnw hT
  generalize World.setRow _ _ _ = w3 at *
  generalize u3.heap.size = gun at *
  clear hD
  have hT := (hT0.out.on hB).1.f
  have hS := (hT0.out.on hB).f2
  refine wp_region_made_late 7 9 8 9 _ 40 fe0A rfl rfl (by kernel_rfl) (by kernel_rfl) (by kernel_rfl) (alloc_fe rfl) ?_
  simp only [addEdge, List.take_succ_cons, List.take_zero, List.drop_succ_cons, List.drop_zero]
  refine wpQB_fe (gov) ov hov rfl ?_
  simp only [Act.put, List.setIfInBounds_toArray, List.set_cons_succ, List.set_cons_zero]
  refine wpQB_fe (gun) un hun rfl ?_
  simp only [Act.put, List.setIfInBounds_toArray, List.set_cons_succ, List.set_cons_zero]
  refine wpQB_call 63 #[fe un] (fe iu) rfl rfl (fun _ => by kernel_rfl) (fun w hb => Hiu.out w (hT.on hb)) ?_
  simp only [Act.put, List.setIfInBounds_toArray, List.set_cons_succ, List.set_cons_zero]
  refine wpQB_call 58 #[fe ov, fe iu] (fe wn) rfl rfl (fun _ => by kernel_rfl) (fun w hb => Hwn.out w (hT.on hb)) ?_
  simp only [Act.put, List.setIfInBounds_toArray, List.set_cons_succ, List.set_cons_zero]
  refine wpQB_call 62 #[fe wn] (.tuple #[fe (xE y), .bool B]) rfl rfl (fun _ => by kernel_rfl) (fun w hb => HSq.out w (hS.on hb)) ?_
  simp only [Act.put, List.setIfInBounds_toArray, List.set_cons_succ, List.set_cons_zero]
  refine wpQB_move ?_
  simp only [Act.put, List.setIfInBounds_toArray, List.set_cons_succ, List.set_cons_zero]
  refine wpQB_run (fe (xE y)) rfl (fun _ _ => by kernel_rfl) ?_
  simp only [Act.put, List.setIfInBounds_toArray, List.set_cons_succ, List.set_cons_zero]
  refine wpQB_run (.bool B) rfl (fun _ _ => by kernel_rfl) ?_
  simp only [Act.put, List.setIfInBounds_toArray, List.set_cons_succ, List.set_cons_zero]
  refine wpQB_nil ?_
  intro gx w4 hb hk hy
  simp only [List.setIfInBounds_toArray, List.set_cons_succ, List.set_cons_zero]
  replace hy : Lies w4 gx 40 fe0A := hy
  have hl := hr.lt
  have ox : W.heap.size + 1 < gx := by omega
  clear hl
  have hl := hpy.lt
  replace hpy := (hpy.on hb).rowFar (show W.heap.size ≠ gx by omega) (feA (xE y))
  clear hl
  have hl := hr.lt
  replace hr := (hr.on hb).rowFar (show W.heap.size + 1 ≠ gx by omega) (feA (xE y))
  clear hl
  have hl := hsq.lt
  replace hsq := (hsq.on hb).rowFar (show gsq ≠ gx by omega) (feA (xE y))
  clear hl
  have hl := hov.lt
  replace hov := (hov.on hb).rowFar (show gov ≠ gx by omega) (feA (xE y))
  clear hl
  have hl := hun.lt
  replace hun := (hun.on hb).rowFar (show gun ≠ gx by omega) (feA (xE y))
  clear hl
  have hsz := hB.size
  replace hB := below_rowSet (below_on hB hb) (show W.heap.size ≤ gx by omega) (feA (xE y))
  clear hb hsz
  have hx := hy.row (feA (xE y))
  clear hk
  go_upto_region 5 with ((with_reducible refine wpL_store gx 40 _ (feA (xE y)) 4 rowFe rfl (feA_size _) (feA_one _) hy ?_ ?_ ?_); rfl; rfl)
  clear hy
  generalize World.setRow _ _ _ = w4b at *
  clear hT hS
  clear hsq hov hun
  have hP := (hT0.out.on hB).1
  cases odd
  case false =>
    rw [← HFe.out] at hx
    go_upto_region 7 with fail
    cases B
    · go_wp2_with (first
    | ((with_reducible refine wpL_load (gx) 40 (feA (xOf y false)) 4 rowFe (feA_size _) hx ?_ ?_); rfl)
    | ((with_reducible refine wpL_load (W.heap.size) 40 (feA y) 4 rowFe (feA_size _) hpy ?_ ?_); rfl)
    | (go_at_call 65; (with_reducible refine (HAt.out _ hP).mono ?_); rintro e w9 ⟨rfl, hb⟩; replace hx := hx.on hb; replace hpy := hpy.on hb; replace hr := hr.on hb; replace hB := below_on hB hb; clear hb)
    | (go_at_call 66; (with_reducible refine (HOd.out _).mono ?_); rintro e w10 ⟨rfl, hb⟩; replace hx := hx.on hb; replace hpy := hpy.on hb; replace hr := hr.on hb; replace hB := below_on hB hb; clear hb)
    | ((with_reducible refine wpL_load_gP (gx) 40 (feA (xOf y false)) 4 rowFe (feA_size _) hx ?_ ?_ ?_); rfl; rfl)
    | ((with_reducible refine wpL_store (W.heap.size + 1) 42 _ (ptA res) 16 rowPt rfl (ptA_size _) (ptA_one _) hr ?_ ?_ ?_); rfl; rfl))
      exact bodyPost_ret (results_row_tmp Tryd.results35 rowPt (ptA_size _) (hr.row _) rfl rfl) rfl ⟨rfl, below_rowSet hB (by omega) _⟩
    · cases O
      · go_wp2_with (first
    | ((with_reducible refine wpL_load (gx) 40 (feA (xOf y false)) 4 rowFe (feA_size _) hx ?_ ?_); rfl)
    | ((with_reducible refine wpL_load (W.heap.size) 40 (feA y) 4 rowFe (feA_size _) hpy ?_ ?_); rfl)
    | (go_at_call 65; (with_reducible refine (HAt.out _ hP).mono ?_); rintro e w9 ⟨rfl, hb⟩; replace hx := hx.on hb; replace hpy := hpy.on hb; replace hr := hr.on hb; replace hB := below_on hB hb; clear hb)
    | (go_at_call 66; (with_reducible refine (HOd.out _).mono ?_); rintro e w10 ⟨rfl, hb⟩; replace hx := hx.on hb; replace hpy := hpy.on hb; replace hr := hr.on hb; replace hB := below_on hB hb; clear hb)
    | ((with_reducible refine wpL_load_gP (gx) 40 (feA (xOf y false)) 4 rowFe (feA_size _) hx ?_ ?_ ?_); rfl; rfl)
    | ((with_reducible refine wpL_store (W.heap.size + 1) 42 _ (ptA res) 16 rowPt rfl (ptA_size _) (ptA_one _) hr ?_ ?_ ?_); rfl; rfl))
        exact bodyPost_ret (results_row_tmp Tryd.results35 rowPt (ptA_size _) (hr.row _) rfl rfl) rfl ⟨rfl, below_rowSet hB (by omega) _⟩
      · go_wp2_with (first
    | ((with_reducible refine wpL_load (gx) 40 (feA (xOf y false)) 4 rowFe (feA_size _) hx ?_ ?_); rfl)
    | ((with_reducible refine wpL_load (W.heap.size) 40 (feA y) 4 rowFe (feA_size _) hpy ?_ ?_); rfl)
    | (go_at_call 65; (with_reducible refine (HAt.out _ hP).mono ?_); rintro e w9 ⟨rfl, hb⟩; replace hx := hx.on hb; replace hpy := hpy.on hb; replace hr := hr.on hb; replace hB := below_on hB hb; clear hb)
    | (go_at_call 66; (with_reducible refine (HOd.out _).mono ?_); rintro e w10 ⟨rfl, hb⟩; replace hx := hx.on hb; replace hpy := hpy.on hb; replace hr := hr.on hb; replace hB := below_on hB hb; clear hb)
    | ((with_reducible refine wpL_load_gP (gx) 40 (feA (xOf y false)) 4 rowFe (feA_size _) hx ?_ ?_ ?_); rfl; rfl)
    | ((with_reducible refine wpL_store (W.heap.size + 1) 42 _ (ptA res) 16 rowPt rfl (ptA_size _) (ptA_one _) hr ?_ ?_ ?_); rfl; rfl))
        exact bodyPost_ret (results_row_tmp Tryd.results35 rowPt (ptA_size _) (hr.row _) rfl rfl) rfl ⟨rfl, below_rowSet hB (by omega) _⟩
  case true =>
    go_upto_region 7 with (first
      | ((with_reducible refine wpL_load (gx) 40 (feA (xE y)) 4 rowFe (feA_size _) hx ?_ ?_); rfl)
      | (go_at_call 64; (with_reducible refine (HMi.out _ hP).mono ?_); rintro e w7 ⟨rfl, hb⟩; replace hx := hx.on hb; replace hpy := hpy.on hb; replace hr := hr.on hb; replace hP := hP.on hb; replace hB := below_on hB hb; clear hb)
      | ((with_reducible refine wpL_store (gx) 40 (feA (xE y)) (feA (xOf y true)) 4 rowFe (feA_size _) (feA_size _) (feA_one _) hx ?_ ?_ ?_); rfl; rfl))
    clear hP
    replace hpy := hpy.rowFar (show W.heap.size ≠ gx by omega) (feA (xOf y true))
    replace hr := hr.rowFar (show W.heap.size + 1 ≠ gx by omega) (feA (xOf y true))
    replace hB := below_rowSet hB (show W.heap.size ≤ gx by omega) (feA (xOf y true))
    replace hx := hx.row (feA (xOf y true))
    generalize World.setRow _ _ _ = w8 at *
    have hP := (hT0.out.on hB).1
    cases B
    · go_wp2_with (first
    | ((with_reducible refine wpL_load (gx) 40 (feA (xOf y true)) 4 rowFe (feA_size _) hx ?_ ?_); rfl)
    | ((with_reducible refine wpL_load (W.heap.size) 40 (feA y) 4 rowFe (feA_size _) hpy ?_ ?_); rfl)
    | (go_at_call 65; (with_reducible refine (HAt.out _ hP).mono ?_); rintro e w9 ⟨rfl, hb⟩; replace hx := hx.on hb; replace hpy := hpy.on hb; replace hr := hr.on hb; replace hB := below_on hB hb; clear hb)
    | (go_at_call 66; (with_reducible refine (HOd.out _).mono ?_); rintro e w10 ⟨rfl, hb⟩; replace hx := hx.on hb; replace hpy := hpy.on hb; replace hr := hr.on hb; replace hB := below_on hB hb; clear hb)
    | ((with_reducible refine wpL_load_gP (gx) 40 (feA (xOf y true)) 4 rowFe (feA_size _) hx ?_ ?_ ?_); rfl; rfl)
    | ((with_reducible refine wpL_store (W.heap.size + 1) 42 _ (ptA res) 16 rowPt rfl (ptA_size _) (ptA_one _) hr ?_ ?_ ?_); rfl; rfl))
      exact bodyPost_ret (results_row_tmp Tryd.results35 rowPt (ptA_size _) (hr.row _) rfl rfl) rfl ⟨rfl, below_rowSet hB (by omega) _⟩
    · cases O
      · go_wp2_with (first
    | ((with_reducible refine wpL_load (gx) 40 (feA (xOf y true)) 4 rowFe (feA_size _) hx ?_ ?_); rfl)
    | ((with_reducible refine wpL_load (W.heap.size) 40 (feA y) 4 rowFe (feA_size _) hpy ?_ ?_); rfl)
    | (go_at_call 65; (with_reducible refine (HAt.out _ hP).mono ?_); rintro e w9 ⟨rfl, hb⟩; replace hx := hx.on hb; replace hpy := hpy.on hb; replace hr := hr.on hb; replace hB := below_on hB hb; clear hb)
    | (go_at_call 66; (with_reducible refine (HOd.out _).mono ?_); rintro e w10 ⟨rfl, hb⟩; replace hx := hx.on hb; replace hpy := hpy.on hb; replace hr := hr.on hb; replace hB := below_on hB hb; clear hb)
    | ((with_reducible refine wpL_load_gP (gx) 40 (feA (xOf y true)) 4 rowFe (feA_size _) hx ?_ ?_ ?_); rfl; rfl)
    | ((with_reducible refine wpL_store (W.heap.size + 1) 42 _ (ptA res) 16 rowPt rfl (ptA_size _) (ptA_one _) hr ?_ ?_ ?_); rfl; rfl))
        exact bodyPost_ret (results_row_tmp Tryd.results35 rowPt (ptA_size _) (hr.row _) rfl rfl) rfl ⟨rfl, below_rowSet hB (by omega) _⟩
      · go_wp2_with (first
    | ((with_reducible refine wpL_load (gx) 40 (feA (xOf y true)) 4 rowFe (feA_size _) hx ?_ ?_); rfl)
    | ((with_reducible refine wpL_load (W.heap.size) 40 (feA y) 4 rowFe (feA_size _) hpy ?_ ?_); rfl)
    | (go_at_call 65; (with_reducible refine (HAt.out _ hP).mono ?_); rintro e w9 ⟨rfl, hb⟩; replace hx := hx.on hb; replace hpy := hpy.on hb; replace hr := hr.on hb; replace hB := below_on hB hb; clear hb)
    | (go_at_call 66; (with_reducible refine (HOd.out _).mono ?_); rintro e w10 ⟨rfl, hb⟩; replace hx := hx.on hb; replace hpy := hpy.on hb; replace hr := hr.on hb; replace hB := below_on hB hb; clear hb)
    | ((with_reducible refine wpL_load_gP (gx) 40 (feA (xOf y true)) 4 rowFe (feA_size _) hx ?_ ?_ ?_); rfl; rfl)
    | ((with_reducible refine wpL_store (W.heap.size + 1) 42 _ (ptA res) 16 rowPt rfl (ptA_size _) (ptA_one _) hr ?_ ?_ ?_); rfl; rfl))
        exact bodyPost_ret (results_row_tmp Tryd.results35 rowPt (ptA_size _) (hr.row _) rfl rfl) rfl ⟨rfl, below_rowSet hB (by omega) _⟩
end Go.Proofs.YtgefhfcmiefocaaDoor.C

/- The contract of the reference's eighth: digits divided by 8. -/
namespace Go.Proofs.YtgefhfcmiefocaaDoor.C
open Go.RowKit Go.Sort Go.Proofs.YtgefhfcmiefocaaDoor.F
set_option maxRecDepth 100000

theorem eighth_step (q : List Nat) (r d : Nat) (V : Nat) (h : val q * 8 + r = V) : val ((65536 * r + d) / 8 :: q) * 8 + (65536 * r + d) % 8 = d + 65536 * V := by
  show ((65536 * r + d) / 8 + 65536 * val q) * 8 + (65536 * r + d) % 8 = d + 65536 * V
  omega
theorem put_front (m x : Nat) (q : List Nat) : (List.replicate (m + 1) 0 ++ q).set m x = List.replicate m 0 ++ (x :: q) := by
  rw [List.replicate_succ', List.append_assoc, List.set_append_right _ _ (by simp)]
  simp

theorem dig_far {w : World} {g o : Nat} {l : List Nat} (h : Dig w g o l) {p : Addr} (hne : g ≠ p.block) (v : Value) : Dig (w.setCell p v) g o l := fun i hi => by
  have h1 := h i hi
  unfold World.cell? at *
  rw [heap_setCell_other w p g v hne]
  exact h1

end Go.Proofs.YtgefhfcmiefocaaDoor.C

/- The contract of the reference's Root: the even root of a number, if there is one. -/
namespace Go.Proofs.YtgefhfcmiefocaaDoor.C
open Go.RowKit Go.Sort Go.Proofs.YtgefhfcmiefocaaDoor.F
set_option maxRecDepth 100000

theorem three_dig (w : World) : Dig (w.alloc (.cells #[.int .i64 3] 3)) w.heap.size 0 [3] := fun i hi => by
  obtain rfl : i = 0 := by simpa using hi
  exact (Lies.new w 3 #[.int .i64 3]).cell 0
theorem one_dig (w : World) : Dig (w.alloc (.cells #[.int .i64 1] 3)) w.heap.size 0 [1] := fun i hi => by
  obtain rfl : i = 0 := by simpa using hi
  exact (Lies.new w 3 #[.int .i64 1]).cell 0
theorem two_one (w : World) : Dig (w.alloc (.cells #[.int .i64 2] 3)) w.heap.size 0 [2] := fun i hi => by
  obtain rfl : i = 0 := by simpa using hi
  exact (Lies.new w 3 #[.int .i64 2]).cell 0
theorem grown_one (w : World) (o : Obj) : Below w.heap.size w (w.alloc o) := (Below.refl _ w).alloc (Nat.le_refl _) o
theorem grown_drew (w : World) (o : Obj) : Below w.drew.heap.size w.drew (w.alloc o).drew := grown_one w.drew o
theorem dg_one (n : Nat) (h : n < 65536) : Dg [n] := by unfold Dg; simpa using h
theorem two_quarter : powN 2 q25 = i25 := by
  have h : pm p25 255 2 q25 = i25 := by decide +kernel
  rw [pm_eq _ _ _ _ (by decide)] at h
  rw [powN_eq, h]
/-- a row of digits, a row of one digit -/
abbrev sayDig (p : List Nat → Prop) : Said := fun v w => ∃ r g cap, v = .slice (some ⟨g, 0, none⟩) r.length cap ∧ r.length ≤ cap ∧ Dig w g 0 r ∧ p r
theorem sayDig_mono (p : List Nat → Prop) : ∀ v w w', sayDig p v w → Below w.heap.size w w' → sayDig p v w' := fun _ _ _ ⟨r, g, cap, h1, h2, h3, h4⟩ hb => ⟨r, g, cap, h1, h2, h3.on hb, h4⟩
abbrev sayOne (x : Nat) : Said := fun v w => ∃ g, v = .slice (some ⟨g, 0, none⟩) 1 1 ∧ Dig w g 0 [x]
theorem sayOne_mono (x : Nat) : ∀ v w w', sayOne x v w → Below w.heap.size w w' → sayOne x v w' := fun _ _ _ ⟨g, h1, h2⟩ hb => ⟨g, h1, h2.on hb⟩
theorem run_load_fe {w0 w : World} {a : Act} {d : Option Tmp} {x : Operand} {t' : TypeId} {pos : String} {after : Array Edge} {gd : Option (Nat × Bool)} (g n : Nat) (hz : Lies w0 g 40 (feA n)) (hb : Below w0.heap.size w0 w) (hx : a.eval x = .pointer (some ⟨g, 0, none⟩)) :
    (execOp a.eval ⟨d, .load 40 x, t', pos, after, gd⟩).run Tryd.prog w = .ok (.value (fe n)) w := by
  have hg' := hz.on hb
  unfold execOp
  simp only [hx, Instr.loadAt, Instr.sureAddr, Sem.run_bind, Sem.run_pure, Result.andThen_ok, run_loadVar_row w g 40 40 (feA n) (0, 0) _ hg' Tryd.underlying40 rfl (by rw [feA_size]; exact rowFe.2)]
attribute [local irreducible] feA

end Go.Proofs.YtgefhfcmiefocaaDoor.C

/- The contracts of the reference's Affine and Sum. -/
namespace Go.Proofs.YtgefhfcmiefocaaDoor.C
open Go.RowKit Go.Sort Go.Proofs.YtgefhfcmiefocaaDoor.F
set_option maxRecDepth 100000
abbrev af0A : Array Value := #[.int .u64 0, .int .u64 0, .int .u64 0, .int .u64 0, .int .u64 0, .int .u64 0, .int .u64 0, .int .u64 0]
attribute [local irreducible] feA

end Go.Proofs.YtgefhfcmiefocaaDoor.C

/- The contracts of the reference's X and Base. -/
namespace Go.Proofs.YtgefhfcmiefocaaDoor.C
open Go.RowKit Go.Sort Go.Proofs.YtgefhfcmiefocaaDoor.F
set_option maxRecDepth 100000
attribute [local irreducible] feA

theorem wpQg_fe {w0 : World} {ops : Array Oper} {Q : Act → Prop} {a : Act} {rest : List Oper} {t' : TypeId} {pos : String} {after : Array Edge} {gd : Option (Nat × Bool)} {d : Option Tmp} {x : Operand} (g n : Nat) (hz : Lies w0 g 40 (feA n)) (hx : a.eval x = .pointer (some ⟨g, 0, none⟩)) (hw : Region.wanted ⟨d, .load 40 x, t', pos, after, gd⟩ (yielded ops a.tmps) = true)
    (h : wpQuiet Tryd.prog ops (Gr w0) Q rest (a.put d (fe n))) : wpQuiet Tryd.prog ops (Gr w0) Q (⟨d, .load 40 x, t', pos, after, gd⟩ :: rest) a :=
  wpQg_load g 40 (feA n) _ Tryd.underlying40 rfl (by rw [feA_size]; exact rowFe.2) hz hx hw h

/-! ### the base point -/
theorem by_val : 4 * invN 5 % p25 = byN := by
  refine z_inj (Nat.mod_lt _ p25_pos) (by decide) ?_
  have hne : z 5 ≠ 0 := z_ne (by decide) (by decide)
  have hi := zinv_mul hne
  have hd : z byN * z 5 = z 4 := by
    rw [← z_mul]
    exact z_iff.2 by_is
  rw [z_mod, z_mul, z_inv, ← hd]
  grind
theorem bx_val : xE byN = bxN ∧ xB byN = true := by
  have hon : On (z bxN) (z byN) := Bp_on
  have hb : xB byN = true := (xB_iff byN).2 ⟨_, hon⟩
  have h := xOf_is hon
  rw [val_z (by decide), decide_eq_false (by decide)] at h
  refine ⟨?_, hb⟩
  rw [h]
  unfold xOf
  rw [if_neg (by decide)]

end Go.Proofs.YtgefhfcmiefocaaDoor.C

/- The bytes of a point and of its contrary. -/
namespace Go.Proofs.YtgefhfcmiefocaaDoor.C
open Go.RowKit Go.Proofs.YtgefhfcmiefocaaDoor.F
set_option maxRecDepth 100000

theorem leL_same (y b : Nat) : ∀ k, k ≤ 31 → leL (y + two255 * b) k = leL y k
  | 0, _ => rfl
  | k + 1, h => by
    rw [leL_succ, leL_succ, leL_same y b k (by omega)]
    congr 2
    have e : two255 * b = 256 ^ k * (256 * (2 ^ (255 - 8 * (k + 1)) * b)) := by
      have h1 : two255 = 256 ^ k * (256 * 2 ^ (255 - 8 * (k + 1))) := by
        rw [show two255 = 2 ^ 255 by decide, show (256 : Nat) = 2 ^ 8 by decide, ← Nat.pow_mul, ← Nat.pow_add, ← Nat.pow_add]
        congr 1
        omega
      rw [h1, Nat.mul_assoc, Nat.mul_assoc]
    rw [e, Nat.add_mul_div_left _ _ (Nat.pow_pos (by decide)), Nat.add_mul_mod_self_left]
/-- y's highest seven bits -/
def topN (P : Pt) : Nat := P.y.val / 256 ^ 31
theorem topN_lt (P : Pt) : topN P < 128 := by
  have h : P.y.val < p25 := P.y.isLt
  unfold topN p25 at *
  omega
theorem text_list (P : Pt) : textN P = ⟨(leL P.y.val 31 ++ [(topN P + 128 * (P.x.val % 2)).toUInt8]).toArray⟩ := by
  have ht := topN_lt P
  have hb : P.x.val % 2 < 2 := Nat.mod_lt _ (by decide)
  unfold textN
  rw [show (32 : Nat) = 31 + 1 from rfl, leL_succ, leL_same _ _ 31 (Nat.le_refl _)]
  have e : (P.y.val + two255 * (P.x.val % 2)) / 256 ^ 31 % 256 = topN P + 128 * (P.x.val % 2) := by
    unfold topN at *
    rw [show two255 = 256 ^ 31 * 128 by decide, Nat.mul_assoc, Nat.add_mul_div_left _ _ (Nat.pow_pos (by decide))]
    omega
  rw [e]
theorem neg_parity (P : Pt) : (P.x.val = 0 ∧ P.neg.x.val = 0) ∨ (P.x.val ≠ 0 ∧ P.neg.x.val % 2 = 1 - P.x.val % 2) := by
  have hx : P.x.val < p25 := P.x.isLt
  have hn : P.neg.x.val = (p25 - P.x.val) % p25 := by
    have h := val_mod (p25 - P.x.val % p25)
    rw [z_neg, z_back, Nat.mod_eq_of_lt hx] at h
    exact h
  have hp : p25 % 2 = 1 := by decide
  by_cases h0 : P.x.val = 0
  · refine .inl ⟨h0, ?_⟩
    rw [hn, h0, Nat.sub_zero, Nat.mod_self]
  · refine .inr ⟨h0, ?_⟩
    have h3 : (p25 - P.x.val) % p25 = p25 - P.x.val := Nat.mod_eq_of_lt (by omega)
    rw [hn, h3]
    omega
theorem xor_same : ∀ n : Fin 256, bits BinOp.xor IntKind.u8 ((n.val : Nat) : Int) ((n.val : Nat) : Int) = 0 := by decide +kernel
theorem xor_top : ∀ n : Fin 128, bits BinOp.xor IntKind.u8 ((n.val : Nat) : Int) ((n.val + 128 : Nat) : Int) = 128 ∧ bits BinOp.xor IntKind.u8 ((n.val + 128 : Nat) : Int) ((n.val : Nat) : Int) = 128 := by decide +kernel
theorem last_byte {A : List UInt8} {x : Nat} {s : ByteArray} (hl : A.length = 31) (hx : x < 256) (es : s = ⟨(A ++ [x.toUInt8]).toArray⟩) (h : 31 < s.size) : (s[31]'h).toNat = x := by
  subst es
  show ((A ++ [x.toUInt8]).toArray[31]'_).toNat = x
  rw [List.getElem_toArray, List.getElem_append_right (by omega)]
  simp only [hl, Nat.sub_self, List.getElem_cons_zero]
  rw [Nat.toUInt8, UInt8.toNat_ofNat']
  omega
theorem sign_bytes {A : List UInt8} {h b c : Nat} {s t : ByteArray} (hl : A.length = 31) (hh : h < 128) (hb : b < 2) (hc : c < 2) (es : s = ⟨(A ++ [(h + 128 * b).toUInt8]).toArray⟩) (et : t = ⟨(A ++ [(h + 128 * c).toUInt8]).toArray⟩) (ps : 31 < s.size) (pt : 31 < t.size) (z : Bool)
    (hz : (z = true ∧ b = c) ∨ (z = false ∧ c = 1 - b)) :
    (bits BinOp.xor IntKind.u8 (((s[31]'ps).toNat : Nat) : Int) (((t[31]'pt).toNat : Nat) : Int) == 128) = !z ∧ (s.toList == t.toList) = z := by
  rw [last_byte hl (by omega) es ps, last_byte hl (by omega) et pt]
  rcases hz with ⟨rfl, rfl⟩ | ⟨rfl, hbc⟩
  · rw [xor_same ⟨h + 128 * b, by omega⟩]
    refine ⟨rfl, ?_⟩
    rw [es, et]
    exact beq_self_eq_true _
  · have hx : bits BinOp.xor IntKind.u8 ((h + 128 * b : Nat) : Int) ((h + 128 * c : Nat) : Int) = 128 := by
      have h2 := xor_top ⟨h, hh⟩
      have : b = 0 ∨ b = 1 := by omega
      rcases this with rfl | rfl
      · obtain rfl : c = 1 := by omega
        exact h2.1
      · obtain rfl : c = 0 := by omega
        exact h2.2
    rw [hx]
    refine ⟨rfl, ?_⟩
    rw [beq_eq_false_iff_ne]
    intro e
    rw [ByteArray.toList_eq, ByteArray.toList_eq, es, et] at e
    have e2 : A ++ [(h + 128 * b).toUInt8] = A ++ [(h + 128 * c).toUInt8] := e
    have e3 := List.append_cancel_left e2
    injection e3 with e4 _
    have e5 := congrArg UInt8.toNat e4
    simp only [Nat.toUInt8, UInt8.toNat_ofNat'] at e5
    omega
/-- two texts: the same but for the last byte -/
theorem sign_texts (P : Pt) : ∃ (A : List UInt8) (h : Nat) (b c : Nat), A.length = 31 ∧ h < 128 ∧ b < 2 ∧ c < 2 ∧ textN P = ⟨(A ++ [(h + 128 * b).toUInt8]).toArray⟩ ∧ textN P.neg = ⟨(A ++ [(h + 128 * c).toUInt8]).toArray⟩ ∧
    ((P.x.val = 0 ∧ b = c) ∨ (P.x.val ≠ 0 ∧ c = 1 - b)) := by
  refine ⟨leL P.y.val 31, topN P, P.x.val % 2, P.neg.x.val % 2, leL_length _ _, topN_lt P, Nat.mod_lt _ (by decide), Nat.mod_lt _ (by decide), text_list P, text_list P.neg, ?_⟩
  rcases neg_parity P with ⟨h1, h2⟩ | ⟨h1, h2⟩
  · exact .inl ⟨h1, by rw [h1, h2]⟩
  · exact .inr ⟨h1, h2⟩
end Go.Proofs.YtgefhfcmiefocaaDoor.C

/- The contract of the reference's Text. -/
namespace Go.Proofs.YtgefhfcmiefocaaDoor.C
open Go.RowKit Go.Sort Go.Proofs.YtgefhfcmiefocaaDoor.F
set_option maxRecDepth 100000

theorem text_even (P : Pt) (h : P.x.val % 2 = 0) : textN P = ⟨(leL P.y.val 32).toArray⟩ := by
  unfold textN
  rw [h, Nat.mul_zero, Nat.add_zero]
theorem y_list (P : Pt) : (⟨(leL P.y.val 32).toArray⟩ : ByteArray) = ⟨(leL P.y.val 31 ++ [(topN P).toUInt8]).toArray⟩ := by
  have ht := topN_lt P
  rw [show (32 : Nat) = 31 + 1 from rfl, leL_succ]
  unfold topN at *
  rw [Nat.mod_eq_of_lt (show P.y.val / 256 ^ 31 < 256 by omega)]
attribute [local irreducible] feA

end Go.Proofs.YtgefhfcmiefocaaDoor.C

