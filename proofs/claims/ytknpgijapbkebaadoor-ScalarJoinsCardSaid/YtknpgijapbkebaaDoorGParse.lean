/- The contract of the scalars' Parse. -/
import Derived.Test.YtknpgijapbkebaaDoorGText
import Derived.Test.YtknpgijapbkebaaDoorFByteMath
namespace Go.Proofs.YtknpgijapbkebaaDoor.F
set_option maxRecDepth 100000
open Go.RowKit Go.Sort
attribute [local irreducible] feA

theorem neq_exec {o : Oper} {a : Act} {x y : Operand} {r : TypeId} (ho : o.op = .binOp .neq 24 x y r) (m n : Nat) (hm : m < K256) (hn : n < K256) (hx : a.eval x = fe m) (hy : a.eval y = fe n) (w : World) :
    (execOp a.eval o).run Tryd.prog w = .ok (.value (.bool (!decide (m = n)))) w := by
  unfold execOp
  simp only [ho, hx, hy, Sem.run_bind, run_eqGuard_agg (hm := Tryd.eqGuardType24), Result.andThen_ok, neq_fe m n hm hn, Sem.run_pure]

set_option maxRecDepth 100000 in
set_option maxHeartbeats 1600000 in
theorem sParse_any (s : ByteArray) (W : World) (hT : Tab W) :
    Calls Tryd.prog 16 #[.string s] W fun e w' =>
      e = .returned (if s.size = 32 then if numLE s.data.toList < l25 then .tuple #[fe (numLE s.data.toList), .int .i64 0] else .tuple #[fe 0, .int .i64 11] else .tuple #[fe 0, .int .i64 1]) ∧ Below W.heap.size W w' := by
  have hT0 := Lib.hid hT
  clear hT
  have hf0 : fe 0 = .agg fe0A := fe_word 0 (by decide)
  by_cases h32 : s.size = 32
  · rw [if_pos h32]
    have HR := Lib.hid (fun w => read_any s w (by omega))
    have hNK : numLE s.data.toList < K256 := by
      have h := numLE_lt s.data.toList
      rw [show s.data.toList.length = 32 by rw [← Lib.size_eq]; exact h32] at h
      exact h
    obtain ⟨V, hVV⟩ : ∃ V, (if numLE s.data.toList < l25 then Value.tuple #[fe (numLE s.data.toList), .int .i64 0] else .tuple #[fe 0, .int .i64 11]) = V := ⟨_, rfl⟩
    rw [hVV]
    have HVV := Lib.hid hVV
    clear hVV
    generalize numLE s.data.toList = N at *
    have hi32 : (s.size : Int) = 32 := by omega
    go_enter Tryd.func16, Tryd.ntmps16
    have hr := Lies.new W 24 fe0A
    have hB := (Below.refl W.heap.size W).alloc (Nat.le_refl _) (.cells fe0A 24)
    go_upto_region 1 with fail
    generalize World.alloc W _ = w0 at *
    go_upto_region 4 with (first
      | (go_at_call 28; refine (HR.out _).mono ?_; rintro e w1 ⟨l, rfl, hl8, hlw, hlv, hb⟩; replace hr := hr.on hb; replace hB := below_on hB hb; clear hb)
      | ((with_reducible refine wpL_store w1.heap.size 46 _ ((l.map w64).toArray) 8 row8 ?_ (by simp [hl8]) (words_one _) (Lies.new w1 _ _) ?_ ?_ ?_); rfl; rfl; rfl))
    have hz := newly_lies w1 46 z8A ((l.map w64).toArray)
    have hnw := newly w1 (.cells z8A 46) ((l.map w64).toArray)
    replace hr := hr.on hnw
    replace hB := below_on hB hnw
    clear hnw
    generalize World.setRow _ _ _ = w2 at *
    generalize w1.heap.size = gz at *
    have hN4 : valK (l.take 4) = N := by
      have h := valK_append (l.take 4) (l.drop 4)
      rw [List.take_append_drop, hlv, List.length_take, hl8, show min 4 8 = 4 by decide, show (18446744073709551616 : Nat) ^ 4 = K256 by decide] at h
      generalize valK (l.take 4) = A at h
      generalize valK (l.drop 4) = B at h
      unfold K256 at *
      omega
    obtain ⟨h4e, h4K⟩ := words_feA (l.take 4) (by rw [List.length_take, hl8]; rfl) (fun d hd => hlw d (List.mem_of_mem_take hd))
    rw [hN4] at h4e
    have hrg : w2.rangeAt gz 0 (feA N).toList := fun j v hv => by
      rw [Nat.zero_add, hz.cell j]
      rw [← h4e] at hv
      rw [List.getElem?_toArray]
      change ((l.take 4).map w64)[j]? = some v at hv
      rw [List.map_take] at hv
      rw [List.getElem?_take] at hv
      split at hv
      · exact hv
      · cases hv
    clear h4e h4K hN4 hlv hlw hz hl8
    have hAA : ∀ w, (Instr.arrayAt 24 (.slice (some ⟨gz, 0, none⟩) 4 8)).run Tryd.prog w = .ok (.pointer (some ⟨gz, 0, none⟩)) w := fun w => by
      simp [Instr.arrayAt, run_underlying Tryd.underlying24]
    go_upto_region 5 with (first
      | ((with_reducible refine wpL_loadMid gz 0 (feA N).toList 4 rowFe (by rw [Array.length_toList]; exact feA_size _) hrg ?_ ?_); rfl; rw [Array.toArray_toList])
      | ((with_reducible refine wpL_store w2.heap.size 24 _ (feA N) 4 rowFe ?_ (feA_size _) (feA_one _) (Lies.new w2 _ _) ?_ ?_ ?_); rfl; rfl; rfl))
    have hz := newly_lies w2 24 fe0A (feA N)
    have hnw := newly w2 (.cells fe0A 24) (feA N)
    replace hr := hr.on hnw
    replace hB := below_on hB hnw
    clear hnw hrg hAA
    generalize World.setRow _ _ _ = w4 at *
    generalize w2.heap.size = gx at *
    have HL := Lib.hid (fun w hT => sLeast_any N w hNK hT)
    have hcase : Hid ((N < l25 ∧ N % l25 = N) ∨ (¬ N < l25 ∧ N % l25 ≠ N)) := Lib.hid (by
      by_cases h : N < l25
      · exact .inl ⟨h, Nat.mod_eq_of_lt h⟩
      · refine .inr ⟨h, fun e => h ?_⟩
        rw [← e]
        exact Nat.mod_lt _ l25_pos)
    have hmK := modL_K N
    generalize N % l25 = M at *
    have hT := hT0.out.on hB
    refine wp_region_all (by kernel_rfl) (by kernel_rfl) ?_
    refine wpQB_sc gx N hz rfl ?_
    simp only [Act.put, List.setIfInBounds_toArray, List.set_cons_succ, List.set_cons_zero]
    refine wpQB_call 9 #[fe N] (fe M) rfl rfl (fun _ => by kernel_rfl) (fun w hb => HL.out w (hT.on hb)) ?_
    simp only [Act.put, List.setIfInBounds_toArray, List.set_cons_succ, List.set_cons_zero]
    refine wpQB_sc gx N hz rfl ?_
    simp only [Act.put, List.setIfInBounds_toArray, List.set_cons_succ, List.set_cons_zero]
    refine wpQB_run (.bool (!decide (M = N))) rfl (fun w _ => neq_exec rfl M N hmK hNK rfl rfl w) ?_
    simp only [Act.put, List.setIfInBounds_toArray, List.set_cons_succ, List.set_cons_zero]
    refine wpQB_nil ?_
    intro w5 hb
    replace hz := hz.on hb
    replace hr := hr.on hb
    replace hB := below_on hB hb
    clear hb hT HL
    rcases hcase.out with ⟨h1, h2⟩ | ⟨h1, h2⟩
    · rw [decide_eq_true h2]
      have HR : Hid (V = .tuple #[fe N, .int .i64 0]) := Lib.hid (by rw [← HVV.out, if_pos h1])
      clear h1 h2 hcase
      go_wp2_with (first
        | ((with_reducible refine wpL_load gx 24 (feA N) 4 rowFe (feA_size _) hz ?_ ?_); rfl)
        | ((with_reducible refine wpL_store W.heap.size 24 _ (feA N) 4 rowFe rfl (feA_size _) (feA_one _) hr ?_ ?_ ?_); rfl; rfl))
      exact bodyPost_ret (results_row_tmp Tryd.results16 rowFe (feA_size _) (hr.row (feA N)) rfl rfl) rfl ⟨by rw [HR.out]; rfl, below_rowSet hB (Nat.le_refl _) _⟩
    · rw [decide_eq_false h2]
      have HR : Hid (V = .tuple #[fe 0, .int .i64 11]) := Lib.hid (by rw [← HVV.out, if_neg h1])
      clear h1 h2 hcase
      go_wp2_with ((with_reducible refine wpL_store W.heap.size 24 _ fe0A 4 rowFe rfl rfl fe0A_one hr ?_ ?_ ?_); rfl; rfl)
      exact bodyPost_ret (results_row_tmp Tryd.results16 rowFe rfl (hr.row fe0A) rfl rfl) rfl ⟨by rw [HR.out, hf0]; rfl, below_rowSet hB (Nat.le_refl _) _⟩
  · rw [if_neg h32]
    have hi32 : ¬ (s.size : Int) = 32 := by omega
    go_enter Tryd.func16, Tryd.ntmps16
    have hr := Lies.new W 24 fe0A
    have hB := (Below.refl W.heap.size W).alloc (Nat.le_refl _) (.cells fe0A 24)
    go_upto_region 1 with fail
    generalize World.alloc W _ = w0 at *
    go_wp2_with ((with_reducible refine wpL_store W.heap.size 24 _ fe0A 4 rowFe rfl rfl fe0A_one hr ?_ ?_ ?_); rfl; rfl)
    exact bodyPost_ret (results_row_tmp Tryd.results16 rowFe rfl (hr.row fe0A) rfl rfl) rfl ⟨by rw [hf0]; rfl, below_rowSet hB (Nat.le_refl _) _⟩
end Go.Proofs.YtknpgijapbkebaaDoor.F
