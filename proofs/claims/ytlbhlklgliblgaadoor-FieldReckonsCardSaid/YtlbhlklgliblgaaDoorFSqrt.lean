/- The contract of the program's Sqrt. -/
import Derived.Test.YtlbhlklgliblgaaDoorFInv
namespace Go.Proofs.YtlbhlklgliblgaaDoor.F
open Go.RowKit Go.Sort
attribute [local irreducible] feA

theorem fe0A_one : Ones fe0A := by unfold Ones; simp [Value.oneCell']
/-- two numbers are compared, as an operation -/
theorem neq_exec {o : Oper} {a : Act} {x y : Operand} {r : TypeId} (ho : o.op = .binOp .neq 24 x y r) (m n : Nat) (hm : m < K256) (hn : n < K256) (hx : a.eval x = fe m) (hy : a.eval y = fe n) (w : World) :
    (execOp a.eval o).run Tryd.prog w = .ok (.value (.bool (!decide (m = n)))) w := by
  unfold execOp
  simp only [ho, hx, hy, Sem.run_bind, run_eqGuard_agg (hm := Tryd.eqGuardType24), Result.andThen_ok, neq_fe m n hm hn, Sem.run_pure]
theorem sqrt_cases (x : Nat) :
    (rootC x * rootC x % p25 = x % p25 ∧ sqrtR x = evN (rootC x) ∧ sqrtB x = true) ∨
    (rootC x * rootC x % p25 ≠ x % p25 ∧ rootD x * rootD x % p25 = x % p25 ∧ sqrtR x = evN (rootD x) ∧ sqrtB x = true) ∨
    (rootC x * rootC x % p25 ≠ x % p25 ∧ rootD x * rootD x % p25 ≠ x % p25 ∧ sqrtR x = 0 ∧ sqrtB x = false) := by
  unfold sqrtR sqrtB
  by_cases h1 : rootC x * rootC x % p25 = x % p25
  · left
    rw [if_pos h1, decide_eq_true h1]
    exact ⟨h1, rfl, rfl⟩
  · by_cases h2 : rootD x * rootD x % p25 = x % p25
    · right; left
      rw [if_neg h1, if_pos h2, decide_eq_true h2, Bool.or_true]
      exact ⟨h1, h2, rfl, rfl⟩
    · right; right
      rw [if_neg h1, if_neg h2, decide_eq_false h1, decide_eq_false h2]
      exact ⟨h1, h2, rfl, rfl⟩

set_option maxRecDepth 100000 in
set_option maxHeartbeats 1600000 in
theorem sqrt_any (x : Nat) (W : World) (hx : x < K256) (hT : Tab2 W) :
    Calls Tryd.prog 24 #[fe x] W fun e w' => e = .returned (.tuple #[fe (sqrtR x), .bool (sqrtB x)]) ∧ Below W.heap.size W w' := by
  have hT0 := Lib.hid hT
  have HP := Lib.hid (fun w hT => power_any x w hx hT)
  have HMC : Hid (∀ w, Tab w → Calls Tryd.prog 17 #[fe x, fe (powN x eP)] w fun e w' => e = .returned (fe (rootC x)) ∧ Below w.heap.size w w') := Lib.hid (fun w hT => mul_any x (powN x eP) w hx (below_K (powN_lt _ _)) hT)
  have HSC : Hid (∀ w, Tab w → Calls Tryd.prog 40 #[fe (rootC x), .int .i64 1] w fun e w' => e = .returned (fe (rootC x * rootC x % p25)) ∧ Below w.heap.size w w') := Lib.hid (fun w hT => by rw [← sqL_one]; exact squared_any (rootC x) 1 w (below_K (rootC_lt x)) (by decide) hT)
  have HL := Lib.hid (fun w hT => least_any x w hx hT)
  have HMD : Hid (∀ w, Tab w → Calls Tryd.prog 17 #[fe (rootC x), fe i25] w fun e w' => e = .returned (fe (rootD x)) ∧ Below w.heap.size w w') := Lib.hid (fun w hT => mul_any (rootC x) i25 w (below_K (rootC_lt x)) (by decide) hT)
  have HSD : Hid (∀ w, Tab w → Calls Tryd.prog 40 #[fe (rootD x), .int .i64 1] w fun e w' => e = .returned (fe (rootD x * rootD x % p25)) ∧ Below w.heap.size w w') := Lib.hid (fun w hT => by rw [← sqL_one]; exact squared_any (rootD x) 1 w (below_K (rootD_lt x)) (by decide) hT)
  have HEC := Lib.hid (fun w hT => even_any (rootC x) w (rootC_lt x) hT)
  have HED := Lib.hid (fun w hT => even_any (rootD x) w (rootD_lt x) hT)
  have hcase := sqrt_cases x
  have hCC := mod_K (rootC x * rootC x)
  have hDD := mod_K (rootD x * rootD x)
  have hE := mod_K x
  obtain ⟨vi, hvi⟩ : ∃ vi, i25 = vi := ⟨_, rfl⟩
  have hTR : Hid (∀ w, Tab2 w → w.rangeAt 1 0 (feA vi).toList) := Lib.hid (fun w h => by rw [← hvi]; exact h.2.root)
  rw [hvi] at HMD
  clear hvi hT hx
  generalize sqrtR x = R at *
  generalize sqrtB x = B at *
  generalize rootD x * rootD x % p25 = DD at *
  generalize rootC x * rootC x % p25 = CC at *
  generalize evN (rootC x) = eC at *
  generalize evN (rootD x) = eD at *
  generalize x % p25 = E at *
  generalize powN x eP = p at *
  generalize rootC x = C at *
  generalize rootD x = D at *
  go_enter Tryd.func24, Tryd.ntmps24
  have hz := (Lies.new W 24 (feA x)).alloc (.cells fe0A 24)
  have hr : Lies ((W.alloc (.cells (feA x) 24)).alloc (.cells fe0A 24)) (W.heap.size + 1) 24 fe0A := heap_alloc2_new W _ _
  have hB := ((Below.refl W.heap.size W).alloc (Nat.le_refl _) (.cells (feA x) 24)).alloc (by simp) (.cells fe0A 24)
  go_upto_region 1 with fail
  generalize World.alloc (World.alloc W _) _ = w0 at *
  have hT := (hT0.out.on hB).1
  refine wp_region_made 4 4 _ 24 fe0A rfl rfl (by kernel_rfl) (by kernel_rfl) (alloc_fe rfl) ?_
  simp only [List.take_succ_cons, List.take_zero, List.drop_succ_cons, List.drop_zero]
  refine wpQB_fe W.heap.size x hz rfl ?_
  simp only [Act.put, List.setIfInBounds_toArray, List.set_cons_succ, List.set_cons_zero]
  refine wpQB_fe W.heap.size x hz rfl ?_
  simp only [Act.put, List.setIfInBounds_toArray, List.set_cons_succ, List.set_cons_zero]
  refine wpQB_call 41 #[fe x] (fe p) rfl rfl (fun _ => by kernel_rfl) (fun w hb => HP.out w (hT.on hb)) ?_
  simp only [Act.put, List.setIfInBounds_toArray, List.set_cons_succ, List.set_cons_zero]
  refine wpQB_call 17 #[fe x, fe p] (fe C) rfl rfl (fun _ => by kernel_rfl) (fun w hb => HMC.out w (hT.on hb)) ?_
  simp only [Act.put, List.setIfInBounds_toArray, List.set_cons_succ, List.set_cons_zero]
  refine wpQB_nil ?_
  intro k w3 hb hk hy3
  simp only [List.setIfInBounds_toArray, List.set_cons_succ, List.set_cons_zero]
  replace hy3 : Lies w3 k 24 fe0A := hy3
  have hzl := hz.lt
  have hrl := hr.lt
  replace hz := (hz.on hb).rowFar (show W.heap.size ≠ k by omega) (feA C)
  replace hr := (hr.on hb).rowFar (show W.heap.size + 1 ≠ k by omega) (feA C)
  replace hB := below_rowSet (below_on hB hb) (show W.heap.size ≤ k by omega) (feA C)
  have hv := hy3.row (feA C)
  clear hb HP HMC hT
  go_upto_region 2 with ((with_reducible refine wpL_store k 24 _ (feA C) 4 rowFe rfl (feA_size _) (feA_one _) hy3 ?_ ?_ ?_); rfl; rfl)
  clear hy3
  generalize World.setRow _ _ _ = w4 at *
  have hT := (hT0.out.on hB).1
  refine wp_region_all (by kernel_rfl) (by kernel_rfl) ?_
  refine wpQB_fe k C hv rfl ?_
  simp only [Act.put, List.setIfInBounds_toArray, List.set_cons_succ, List.set_cons_zero]
  refine wpQB_call 40 #[fe C, .int .i64 1] (fe CC) rfl rfl (fun _ => by kernel_rfl) (fun w hb => HSC.out w (hT.on hb)) ?_
  simp only [Act.put, List.setIfInBounds_toArray, List.set_cons_succ, List.set_cons_zero]
  refine wpQB_fe W.heap.size x hz rfl ?_
  simp only [Act.put, List.setIfInBounds_toArray, List.set_cons_succ, List.set_cons_zero]
  refine wpQB_call 11 #[fe x] (fe E) rfl rfl (fun _ => by kernel_rfl) (fun w hb => HL.out w (hT.on hb)) ?_
  simp only [Act.put, List.setIfInBounds_toArray, List.set_cons_succ, List.set_cons_zero]
  refine wpQB_run (.bool (!decide (CC = E))) rfl (fun w _ => neq_exec rfl CC E hCC hE rfl rfl w) ?_
  simp only [Act.put, List.setIfInBounds_toArray, List.set_cons_succ, List.set_cons_zero]
  refine wpQB_nil ?_
  intro w5 hb
  replace hv := hv.on hb
  replace hz := hz.on hb
  replace hr := hr.on hb
  replace hB := below_on hB hb
  clear hb hT
  rcases hcase with ⟨hC, rfl, rfl⟩ | hcase
  · rw [decide_eq_true hC]
    subst hC
    have hT := (hT0.out.on hB).1
    go_upto_region 4 with fail
    refine wp_region_all (by kernel_rfl) (by kernel_rfl) ?_
    refine wpQB_fe k C hv rfl ?_
    simp only [Act.put, List.setIfInBounds_toArray, List.set_cons_succ, List.set_cons_zero]
    refine wpQB_call 40 #[fe C, .int .i64 1] (fe CC) rfl rfl (fun _ => by kernel_rfl) (fun w hb => HSC.out w (hT.on hb)) ?_
    simp only [Act.put, List.setIfInBounds_toArray, List.set_cons_succ, List.set_cons_zero]
    refine wpQB_fe W.heap.size x hz rfl ?_
    simp only [Act.put, List.setIfInBounds_toArray, List.set_cons_succ, List.set_cons_zero]
    refine wpQB_call 11 #[fe x] (fe CC) rfl rfl (fun _ => by kernel_rfl) (fun w hb => HL.out w (hT.on hb)) ?_
    simp only [Act.put, List.setIfInBounds_toArray, List.set_cons_succ, List.set_cons_zero]
    refine wpQB_run (.bool false) rfl (fun w _ => (neq_exec rfl CC CC hCC hCC rfl rfl w).trans (by rw [decide_eq_true rfl]; rfl)) ?_
    simp only [Act.put, List.setIfInBounds_toArray, List.set_cons_succ, List.set_cons_zero]
    refine wpQB_nil ?_
    intro w6 hb
    replace hv := hv.on hb
    replace hr := hr.on hb
    replace hT := hT.on hb
    replace hB := below_on hB hb
    clear hb
    go_wp2_with (first
      | ((with_reducible refine wpL_load k 24 (feA C) 4 rowFe (feA_size _) hv ?_ ?_); rfl)
      | (go_at_call 42; refine (HEC.out _ hT).mono ?_; rintro e w7 ⟨rfl, hb⟩; replace hr := hr.on hb; replace hB := below_on hB hb; clear hb)
      | ((with_reducible refine wpL_store (W.heap.size + 1) 24 _ (feA R) 4 rowFe rfl (feA_size _) (feA_one _) hr ?_ ?_ ?_); rfl; rfl))
    exact bodyPost_ret (results_row_tmp Tryd.results24 rowFe (feA_size _) (hr.row _) rfl rfl) rfl ⟨rfl, below_rowSet hB (Nat.le_succ _) _⟩
  · have hC : CC ≠ E := by rcases hcase with h | h <;> exact h.1
    have HCase : Hid ((DD = E ∧ R = eD ∧ B = true) ∨ (DD ≠ E ∧ R = 0 ∧ B = false)) := Lib.hid (by rcases hcase with h | h; exact .inl h.2; exact .inr h.2)
    rw [decide_eq_false hC]
    clear hcase hC HSC HEC
    have hT := (hT0.out.on hB).1
    have hG := hTR.out _ (hT0.out.on hB)
    go_upto_region 4 with (first
      | ((with_reducible refine wpL_load k 24 (feA C) 4 rowFe (feA_size _) hv ?_ ?_); rfl)
      | ((with_reducible refine wpL_loadGlobal 1 0 (feA vi).toList 4 rowFe (by rw [Array.length_toList]; exact feA_size _) hG ?_ ?_); rfl; rw [Array.toArray_toList])
      | (go_at_call 17; refine (HMD.out _ hT).mono ?_; rintro e w6 ⟨rfl, hb⟩; replace hv := hv.on hb; replace hz := hz.on hb; replace hr := hr.on hb; replace hB := below_on hB hb; clear hb)
      | ((with_reducible refine wpL_store k 24 _ (feA D) 4 rowFe (feA_size _) (feA_size _) (feA_one _) hv ?_ ?_ ?_); rfl; rfl))
    clear hT hG
    replace hv := hv.row (feA D)
    replace hz := hz.rowFar (show W.heap.size ≠ k by omega) (feA D)
    replace hr := hr.rowFar (show W.heap.size + 1 ≠ k by omega) (feA D)
    replace hB := below_rowSet hB (show W.heap.size ≤ k by omega) (feA D)
    generalize World.setRow _ _ _ = w7 at *
    have hT := (hT0.out.on hB).1
    refine wp_region_all (by kernel_rfl) (by kernel_rfl) ?_
    refine wpQB_fe k D hv rfl ?_
    simp only [Act.put, List.setIfInBounds_toArray, List.set_cons_succ, List.set_cons_zero]
    refine wpQB_call 40 #[fe D, .int .i64 1] (fe DD) rfl rfl (fun _ => by kernel_rfl) (fun w hb => HSD.out w (hT.on hb)) ?_
    simp only [Act.put, List.setIfInBounds_toArray, List.set_cons_succ, List.set_cons_zero]
    refine wpQB_fe W.heap.size x hz rfl ?_
    simp only [Act.put, List.setIfInBounds_toArray, List.set_cons_succ, List.set_cons_zero]
    refine wpQB_call 11 #[fe x] (fe E) rfl rfl (fun _ => by kernel_rfl) (fun w hb => HL.out w (hT.on hb)) ?_
    simp only [Act.put, List.setIfInBounds_toArray, List.set_cons_succ, List.set_cons_zero]
    refine wpQB_run (.bool (!decide (DD = E))) rfl (fun w _ => neq_exec rfl DD E hDD hE rfl rfl w) ?_
    simp only [Act.put, List.setIfInBounds_toArray, List.set_cons_succ, List.set_cons_zero]
    refine wpQB_nil ?_
    intro w8 hb
    replace hv := hv.on hb
    replace hr := hr.on hb
    replace hT := hT.on hb
    replace hB := below_on hB hb
    clear hb
    rcases HCase.out with ⟨hD, rfl, rfl⟩ | ⟨hD, rfl, rfl⟩
    · rw [decide_eq_true hD]
      clear hD
      go_wp2_with (first
        | ((with_reducible refine wpL_load k 24 (feA D) 4 rowFe (feA_size _) hv ?_ ?_); rfl)
        | (go_at_call 42; refine (HED.out _ hT).mono ?_; rintro e w9 ⟨rfl, hb⟩; replace hr := hr.on hb; replace hB := below_on hB hb; clear hb)
        | ((with_reducible refine wpL_store (W.heap.size + 1) 24 _ (feA R) 4 rowFe rfl (feA_size _) (feA_one _) hr ?_ ?_ ?_); rfl; rfl))
      exact bodyPost_ret (results_row_tmp Tryd.results24 rowFe (feA_size _) (hr.row _) rfl rfl) rfl ⟨rfl, below_rowSet hB (Nat.le_succ _) _⟩
    · rw [decide_eq_false hD]
      clear hD
      go_wp2_with ((with_reducible refine wpL_store (W.heap.size + 1) 24 _ fe0A 4 rowFe rfl rfl fe0A_one hr ?_ ?_ ?_); rfl; rfl)
      exact bodyPost_ret (results_row_tmp Tryd.results24 rowFe rfl (hr.row fe0A) rfl rfl) rfl ⟨by rw [fe_word 0 (by decide)]; rfl, below_rowSet hB (Nat.le_succ _) _⟩
end Go.Proofs.YtlbhlklgliblgaaDoor.F
