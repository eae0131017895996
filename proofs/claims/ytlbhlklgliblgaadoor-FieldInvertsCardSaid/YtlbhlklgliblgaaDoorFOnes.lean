/- The contract of the program's ones. -/
import Derived.Test.YtlbhlklgliblgaaDoorFSquared
namespace Go.Proofs.YtlbhlklgliblgaaDoor.F
open Go.RowKit Go.Sort
attribute [local irreducible] feA

theorem alloc_fe {o : Oper} (h : o.op = .alloc 24) (a : Act) (w : World) : (execOp a.eval o).run Tryd.prog w = .ok (.value (.pointer (some ⟨w.heap.size, 0, none⟩))) (w.alloc (.cells fe0A 24)) := by
  unfold execOp
  rw [h]
  kernel_rfl
theorem half_i64 (n : Nat) : Int.tdiv (n : Int) 2 = ((n / 2 : Nat) : Int) := by
  rw [Int.tdiv_eq_ediv_of_nonneg (by omega)]
  omega

set_option maxRecDepth 100000 in
set_option maxHeartbeats 1600000 in
theorem ones_any (n : Nat) : ∀ (x : Nat) (W : World), 1 ≤ n → n ≤ 1000 → x < K256 → Tab W →
    Calls Tryd.prog 47 #[fe x, .int .i64 (n : Int)] W fun e w' => e = .returned (fe (onesN x n)) ∧ Below W.heap.size W w' := by
  induction n using Nat.strongRecOn with
  | _ n ih =>
    intro x W h1 hn hx hT
    have hT0 := Lib.hid hT
    clear hT
    by_cases hone : n = 1
    · subst hone
      clear ih
      go_enter Tryd.func47, Tryd.ntmps47
      have hz := (Lies.new W 24 (feA x)).alloc (.cells fe0A 24)
      have hr : Lies ((W.alloc (.cells (feA x) 24)).alloc (.cells fe0A 24)) (W.heap.size + 1) 24 fe0A := heap_alloc2_new W _ _
      have hB := ((Below.refl W.heap.size W).alloc (Nat.le_refl _) (.cells (feA x) 24)).alloc (by simp) (.cells fe0A 24)
      go_upto_region 1 with fail
      generalize World.alloc (World.alloc W _) _ = w0 at *
      go_wp2_with (first
        | ((with_reducible refine wpL_load W.heap.size 24 (feA x) 4 rowFe (feA_size _) hz ?_ ?_); rfl)
        | ((with_reducible refine wpL_store (W.heap.size + 1) 24 _ (feA x) 4 rowFe rfl (feA_size _) (feA_one _) hr ?_ ?_ ?_); rfl; rfl))
      exact bodyPost_ret (results_row Tryd.results47 rowFe (feA_size _) (hr.row _) rfl) rfl ⟨rfl, below_rowSet hB (Nat.le_succ _) _⟩
    · obtain ⟨h, hh⟩ : ∃ h, n / 2 = h := ⟨_, rfl⟩
      have hq := half_i64 n
      have hq2 : (n : Int) / 2 = (h : Int) := by omega
      rw [hh] at hq
      have hq3 : IntKind.i64.wrap (h : Int) = (h : Int) := by rw [IntWalk.i64_in _ (by omega)]
      have hh1 : 1 ≤ h := by omega
      have hH := onesN_lt x h hx
      have HO := Lib.hid (fun w hT => ih h (by omega) x w hh1 (by omega) hx hT)
      have HS := Lib.hid (fun w hT => squared_any (onesN x h) h w hH (by omega) hT)
      have hS := sqL_lt (onesN x h) h hH
      have HM := Lib.hid (fun w hT => mul_any (sqL (onesN x h) h) (onesN x h) w hS hH hT)
      rw [onesN_even x h hh1] at HM
      have hE := onesN_lt x (2 * h) hx
      have HSt := Lib.hid (fun w hT => squared_any (onesN x (2 * h)) 1 w hE (by decide) hT)
      have hQ := sqL_lt (onesN x (2 * h)) 1 hE
      have HMo := Lib.hid (fun w hT => mul_any (sqL (onesN x (2 * h)) 1) x w hQ hx hT)
      rw [onesN_odd x h hh1] at HMo
      have hpar : (n % 2 = 1 ∧ n = 2 * h + 1) ∨ (n % 2 = 0 ∧ n = 2 * h) := by omega
      have HP : Hid ((n % 2 = 1 ∧ onesN x n = onesN x (2 * h + 1)) ∨ (n % 2 = 0 ∧ onesN x n = onesN x (2 * h))) := Lib.hid (by
        rcases hpar with ⟨a, b⟩ | ⟨a, b⟩
        · exact .inl ⟨a, by rw [← b]⟩
        · exact .inr ⟨a, by rw [← b]⟩)
      clear ih hpar hS hH hE hQ hh
      generalize onesN x (2 * h + 1) = vo at *
      generalize sqL (onesN x (2 * h)) 1 = q at *
      generalize onesN x (2 * h) = ve at *
      generalize sqL (onesN x h) h = s at *
      generalize onesN x h = vh at *
      generalize onesN x n = vn at *
      have hone' : ¬ (n : Int) = 1 := by omega
      go_enter Tryd.func47, Tryd.ntmps47
      have hz := (Lies.new W 24 (feA x)).alloc (.cells fe0A 24)
      have hr : Lies ((W.alloc (.cells (feA x) 24)).alloc (.cells fe0A 24)) (W.heap.size + 1) 24 fe0A := heap_alloc2_new W _ _
      have hB := ((Below.refl W.heap.size W).alloc (Nat.le_refl _) (.cells (feA x) 24)).alloc (by simp) (.cells fe0A 24)
      go_upto_region 1 with fail
      generalize World.alloc (World.alloc W _) _ = w0 at *
      have hT := hT0.out.on hB
      go_upto_region 4 with (first
        | ((with_reducible refine wpL_load W.heap.size 24 (feA x) 4 rowFe (feA_size _) hz ?_ ?_); rfl)
        | (go_at_call 47; refine (HO.out _ hT).mono ?_; rintro e w1 ⟨rfl, hb⟩; replace hz := hz.on hb; replace hr := hr.on hb; replace hT := hT.on hb; replace hB := below_on hB hb; clear hb)
        | ((with_reducible refine wpL_store w1.heap.size 24 _ (feA vh) 4 rowFe ?_ (feA_size _) (feA_one _) (Lies.new w1 _ _) ?_ ?_ ?_); rfl; rfl; rfl))
      have hy := newly_lies w1 24 fe0A (feA vh)
      have hnw := newly w1 (.cells fe0A 24) (feA vh)
      replace hz := hz.on hnw
      replace hr := hr.on hnw
      replace hT := hT.on hnw
      replace hB := below_on hB hnw
      clear hnw HO
      generalize World.setRow _ _ _ = w2 at *
      generalize w1.heap.size = gh at *
      refine wp_region_made 6 6 _ 24 fe0A rfl rfl (by kernel_rfl) (by kernel_rfl) (alloc_fe rfl) ?_
      simp only [List.take_succ_cons, List.take_zero, List.drop_succ_cons, List.drop_zero]
      refine wpQB_fe gh vh hy rfl ?_
      simp only [Act.put, List.setIfInBounds_toArray, List.set_cons_succ, List.set_cons_zero]
      refine wpQB_move ?_
      simp only [Act.put, List.setIfInBounds_toArray, List.set_cons_succ, List.set_cons_zero]
      refine wpQB_run (.int .i64 (h : Int)) rfl (fun w _ => ?_) ?_
      · simp [go_sem, hq, hq3]
      simp only [Act.put, List.setIfInBounds_toArray, List.set_cons_succ, List.set_cons_zero]
      refine wpQB_call 40 #[fe vh, .int .i64 (h : Int)] (fe s) rfl rfl (fun _ => by kernel_rfl) (fun w hb => HS.out w (hT.on hb)) ?_
      simp only [Act.put, List.setIfInBounds_toArray, List.set_cons_succ, List.set_cons_zero]
      refine wpQB_fe gh vh hy rfl ?_
      simp only [Act.put, List.setIfInBounds_toArray, List.set_cons_succ, List.set_cons_zero]
      refine wpQB_call 17 #[fe s, fe vh] (fe ve) rfl rfl (fun _ => by kernel_rfl) (fun w hb => HM.out w (hT.on hb)) ?_
      simp only [Act.put, List.setIfInBounds_toArray, List.set_cons_succ, List.set_cons_zero]
      refine wpQB_nil ?_
      intro k w3 hb hk hy3
      simp only [List.setIfInBounds_toArray, List.set_cons_succ, List.set_cons_zero]
      replace hy3 : Lies w3 k 24 fe0A := hy3
      have hzl := hz.lt
      have hrl := hr.lt
      replace hz := (hz.on hb).rowFar (show W.heap.size ≠ k by omega) (feA ve)
      replace hr := (hr.on hb).rowFar (show W.heap.size + 1 ≠ k by omega) (feA ve)
      replace hB := below_rowSet (below_on hB hb) (show W.heap.size ≤ k by omega) (feA ve)
      replace hT := hT0.out.on hB
      have hv := hy3.row (feA ve)
      clear hb HS HM hy
      go_upto_region 5 with ((with_reducible refine wpL_store k 24 _ (feA ve) 4 rowFe rfl (feA_size _) (feA_one _) hy3 ?_ ?_ ?_); rfl; rfl)
      clear hy3
      generalize World.setRow _ _ _ = w4 at *
      rcases HP.out with ⟨hodd, rfl⟩ | ⟨heven, rfl⟩
      · have ho2 : (n : Int) % 2 = 1 := by omega
        go_upto_region 6 with fail
        refine wp_region_plain 4 (by kernel_rfl) (by kernel_rfl) ?_
        simp only [List.take_succ_cons, List.take_zero, List.drop_succ_cons, List.drop_zero]
        refine wpQB_fe k ve hv rfl ?_
        simp only [Act.put, List.setIfInBounds_toArray, List.set_cons_succ, List.set_cons_zero]
        refine wpQB_call 40 #[fe ve, .int .i64 1] (fe q) rfl rfl (fun _ => by kernel_rfl) (fun w hb => HSt.out w (hT.on hb)) ?_
        simp only [Act.put, List.setIfInBounds_toArray, List.set_cons_succ, List.set_cons_zero]
        refine wpQB_fe W.heap.size x hz rfl ?_
        simp only [Act.put, List.setIfInBounds_toArray, List.set_cons_succ, List.set_cons_zero]
        refine wpQB_call 17 #[fe q, fe x] (fe vn) rfl rfl (fun _ => by kernel_rfl) (fun w hb => HMo.out w (hT.on hb)) ?_
        simp only [Act.put, List.setIfInBounds_toArray, List.set_cons_succ, List.set_cons_zero]
        refine wpQB_nil ?_
        intro w5 hb
        replace hv := hv.on hb
        replace hr := hr.on hb
        replace hB := below_on hB hb
        clear hb
        go_upto_region 7 with ((with_reducible refine wpL_store k 24 _ (feA vn) 4 rowFe (feA_size _) (feA_size _) (feA_one _) hv ?_ ?_ ?_); rfl; rfl)
        replace hv := hv.row (feA vn)
        replace hr := hr.rowFar (show W.heap.size + 1 ≠ k by omega) (feA vn)
        replace hB := below_rowSet hB (show W.heap.size ≤ k by omega) (feA vn)
        generalize World.setRow _ _ _ = w6 at *
        go_wp2_with (first
          | ((with_reducible refine wpL_load k 24 (feA vn) 4 rowFe (feA_size _) hv ?_ ?_); rfl)
          | ((with_reducible refine wpL_store (W.heap.size + 1) 24 _ (feA vn) 4 rowFe rfl (feA_size _) (feA_one _) hr ?_ ?_ ?_); rfl; rfl))
        exact bodyPost_ret (results_row Tryd.results47 rowFe (feA_size _) (hr.row _) rfl) rfl ⟨rfl, below_rowSet hB (Nat.le_succ _) _⟩
      · have ho2 : (n : Int) % 2 = 0 := by omega
        go_wp2_with (first
          | ((with_reducible refine wpL_load k 24 (feA vn) 4 rowFe (feA_size _) hv ?_ ?_); rfl)
          | ((with_reducible refine wpL_store (W.heap.size + 1) 24 _ (feA vn) 4 rowFe rfl (feA_size _) (feA_one _) hr ?_ ?_ ?_); rfl; rfl))
        exact bodyPost_ret (results_row Tryd.results47 rowFe (feA_size _) (hr.row _) rfl) rfl ⟨rfl, below_rowSet hB (Nat.le_succ _) _⟩

end Go.Proofs.YtlbhlklgliblgaaDoor.F
