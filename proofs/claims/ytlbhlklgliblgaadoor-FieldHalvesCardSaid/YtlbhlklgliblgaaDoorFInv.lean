/- The contracts of the program's power and Inv. -/
import Derived.Test.YtlbhlklgliblgaaDoorFOnes
namespace Go.Proofs.YtlbhlklgliblgaaDoor.F
open Go.RowKit Go.Sort
attribute [local irreducible] feA

set_option maxRecDepth 100000 in
set_option maxHeartbeats 800000 in
theorem power_any (x : Nat) (W : World) (hx : x < K256) (hT : Tab W) :
    Calls Tryd.prog 41 #[fe x] W fun e w' => e = .returned (fe (powN x eP)) ∧ Below W.heap.size W w' := by
  have HO : Hid (∀ w, Tab w → Calls Tryd.prog 47 #[fe x, .int .i64 250] w fun e w' => e = .returned (fe (onesN x 250)) ∧ Below w.heap.size w w') := Lib.hid (fun w hT => ones_any 250 x w (by decide) (by decide) hx hT)
  have hH := onesN_lt x 250 hx
  have HS : Hid (∀ w, Tab w → Calls Tryd.prog 40 #[fe (onesN x 250), .int .i64 2] w fun e w' => e = .returned (fe (sqL (onesN x 250) 2)) ∧ Below w.heap.size w w') := Lib.hid (fun w hT => squared_any (onesN x 250) 2 w hH (by decide) hT)
  have HM := Lib.hid (fun w hT => mul_any (sqL (onesN x 250) 2) x w (sqL_lt _ 2 hH) hx hT)
  rw [power_eq] at HM
  generalize powN x eP = v at *
  generalize sqL (onesN x 250) 2 = s at *
  generalize onesN x 250 = u at *
  go_enter Tryd.func41, Tryd.ntmps41
  have hz := (Lies.new W 24 (feA x)).alloc (.cells fe0A 24)
  have hr : Lies ((W.alloc (.cells (feA x) 24)).alloc (.cells fe0A 24)) (W.heap.size + 1) 24 fe0A := heap_alloc2_new W _ _
  have hB := ((Below.refl W.heap.size W).alloc (Nat.le_refl _) (.cells (feA x) 24)).alloc (by simp) (.cells fe0A 24)
  go_upto_region 1 with fail
  generalize World.alloc (World.alloc W _) _ = w0 at *
  replace hT := hT.on hB
  refine wp_region_plain 5 (by kernel_rfl) (by kernel_rfl) ?_
  simp only [List.take_succ_cons, List.take_zero, List.drop_succ_cons, List.drop_zero]
  refine wpQB_fe W.heap.size x hz rfl ?_
  simp only [Act.put, List.setIfInBounds_toArray, List.set_cons_succ, List.set_cons_zero]
  refine wpQB_call 47 #[fe x, .int .i64 250] (fe u) rfl rfl (fun _ => by kernel_rfl) (fun w hb => HO.out w (hT.on hb)) ?_
  simp only [Act.put, List.setIfInBounds_toArray, List.set_cons_succ, List.set_cons_zero]
  refine wpQB_call 40 #[fe u, .int .i64 2] (fe s) rfl rfl (fun _ => by kernel_rfl) (fun w hb => HS.out w (hT.on hb)) ?_
  simp only [Act.put, List.setIfInBounds_toArray, List.set_cons_succ, List.set_cons_zero]
  refine wpQB_fe W.heap.size x hz rfl ?_
  simp only [Act.put, List.setIfInBounds_toArray, List.set_cons_succ, List.set_cons_zero]
  refine wpQB_call 17 #[fe s, fe x] (fe v) rfl rfl (fun _ => by kernel_rfl) (fun w hb => HM.out w (hT.on hb)) ?_
  simp only [Act.put, List.setIfInBounds_toArray, List.set_cons_succ, List.set_cons_zero]
  refine wpQB_nil ?_
  intro w1 hb
  replace hr := hr.on hb
  replace hB := below_on hB hb
  clear hb hT
  go_wp2_with ((with_reducible refine wpL_store (W.heap.size + 1) 24 _ (feA v) 4 rowFe rfl (feA_size _) (feA_one _) hr ?_ ?_ ?_); rfl; rfl)
  exact bodyPost_ret (results_row Tryd.results41 rowFe (feA_size _) (hr.row _) rfl) rfl ⟨rfl, below_rowSet hB (Nat.le_succ _) _⟩

set_option maxRecDepth 100000 in
set_option maxHeartbeats 800000 in
theorem inv_any (x : Nat) (W : World) (hx : x < K256) (hT : Tab W) :
    Calls Tryd.prog 23 #[fe x] W fun e w' => e = .returned (fe (invN x)) ∧ Below W.heap.size W w' := by
  have HP := Lib.hid (fun w hT => power_any x w hx hT)
  have hP := below_K (powN_lt x eP)
  have HS3 : Hid (∀ w, Tab w → Calls Tryd.prog 40 #[fe (powN x eP), .int .i64 3] w fun e w' => e = .returned (fe (sqL (powN x eP) 3)) ∧ Below w.heap.size w w') := Lib.hid (fun w hT => squared_any (powN x eP) 3 w hP (by decide) hT)
  have HS1 : Hid (∀ w, Tab w → Calls Tryd.prog 40 #[fe x, .int .i64 1] w fun e w' => e = .returned (fe (sqL x 1)) ∧ Below w.heap.size w w') := Lib.hid (fun w hT => squared_any x 1 w hx (by decide) hT)
  have HM1 := Lib.hid (fun w hT => mul_any x (sqL x 1) w hx (sqL_lt x 1 hx) hT)
  have HM2 := Lib.hid (fun w hT => mul_any (sqL (powN x eP) 3) (x * sqL x 1 % p25) w (sqL_lt _ 3 hP) (mod_K _) hT)
  rw [inv_eq] at HM2
  generalize invN x = v at *
  generalize x * sqL x 1 % p25 = m at *
  generalize sqL (powN x eP) 3 = s3 at *
  generalize sqL x 1 = s1 at *
  generalize powN x eP = p at *
  go_enter Tryd.func23, Tryd.ntmps23
  have hz := (Lies.new W 24 (feA x)).alloc (.cells fe0A 24)
  have hr : Lies ((W.alloc (.cells (feA x) 24)).alloc (.cells fe0A 24)) (W.heap.size + 1) 24 fe0A := heap_alloc2_new W _ _
  have hB := ((Below.refl W.heap.size W).alloc (Nat.le_refl _) (.cells (feA x) 24)).alloc (by simp) (.cells fe0A 24)
  go_upto_region 1 with fail
  generalize World.alloc (World.alloc W _) _ = w0 at *
  replace hT := hT.on hB
  refine wp_region_plain 8 (by kernel_rfl) (by kernel_rfl) ?_
  simp only [List.take_succ_cons, List.take_zero, List.drop_succ_cons, List.drop_zero]
  refine wpQB_fe W.heap.size x hz rfl ?_
  simp only [Act.put, List.setIfInBounds_toArray, List.set_cons_succ, List.set_cons_zero]
  refine wpQB_call 41 #[fe x] (fe p) rfl rfl (fun _ => by kernel_rfl) (fun w hb => HP.out w (hT.on hb)) ?_
  simp only [Act.put, List.setIfInBounds_toArray, List.set_cons_succ, List.set_cons_zero]
  refine wpQB_call 40 #[fe p, .int .i64 3] (fe s3) rfl rfl (fun _ => by kernel_rfl) (fun w hb => HS3.out w (hT.on hb)) ?_
  simp only [Act.put, List.setIfInBounds_toArray, List.set_cons_succ, List.set_cons_zero]
  refine wpQB_fe W.heap.size x hz rfl ?_
  simp only [Act.put, List.setIfInBounds_toArray, List.set_cons_succ, List.set_cons_zero]
  refine wpQB_fe W.heap.size x hz rfl ?_
  simp only [Act.put, List.setIfInBounds_toArray, List.set_cons_succ, List.set_cons_zero]
  refine wpQB_call 40 #[fe x, .int .i64 1] (fe s1) rfl rfl (fun _ => by kernel_rfl) (fun w hb => HS1.out w (hT.on hb)) ?_
  simp only [Act.put, List.setIfInBounds_toArray, List.set_cons_succ, List.set_cons_zero]
  refine wpQB_call 17 #[fe x, fe s1] (fe m) rfl rfl (fun _ => by kernel_rfl) (fun w hb => HM1.out w (hT.on hb)) ?_
  simp only [Act.put, List.setIfInBounds_toArray, List.set_cons_succ, List.set_cons_zero]
  refine wpQB_call 17 #[fe s3, fe m] (fe v) rfl rfl (fun _ => by kernel_rfl) (fun w hb => HM2.out w (hT.on hb)) ?_
  simp only [Act.put, List.setIfInBounds_toArray, List.set_cons_succ, List.set_cons_zero]
  refine wpQB_nil ?_
  intro w1 hb
  replace hr := hr.on hb
  replace hB := below_on hB hb
  clear hb hT
  go_wp2_with ((with_reducible refine wpL_store (W.heap.size + 1) 24 _ (feA v) 4 rowFe rfl (feA_size _) (feA_one _) hr ?_ ?_ ?_); rfl; rfl)
  exact bodyPost_ret (results_row Tryd.results23 rowFe (feA_size _) (hr.row _) rfl) rfl ⟨rfl, below_rowSet hB (Nat.le_succ _) _⟩
end Go.Proofs.YtlbhlklgliblgaaDoor.F
