/- What is proved: whatever number the statement of signs is called with, it answers true, if the points' functions keep their contracts. -/
import Derived.Test.YtfleimaoaicolaaDoorLot12
namespace Go.Proofs.YtfleimaoaicolaaDoor.C
open Go.RowKit Go.Sort Go.Proofs.YtfleimaoaicolaaDoor.F
set_option maxRecDepth 100000
attribute [local irreducible] feA ptA

set_option maxHeartbeats 3200000 in
theorem signs_walk (A : Pts PtTab2) (n : Nat) (hn : n < K256) (W : World) (hT : PtTab2 W) :
    Calls Tryd.prog 8 #[fe n] W fun e w' => e = .returned (.bool true) ∧ Below W.heap.size W w' := by
  have hT0 := Lib.hid hT
  have kp := A.mul_pn hn base_pn
  have Dp := Lib.hid (fun w hT => A.mul w hn base_pn hT)
  generalize A.m n baseN = p at *
  have kq := A.neg_pn kp
  have Dq := Lib.hid (fun w hT => A.neg w kp hT)
  generalize A.g p = q at *
  have Bs := Lib.hid (fun w hT => A.bytes w kp hT)
  have Bt := Lib.hid (fun w hT => A.bytes w kq hT)
  have Pa := Lib.hid (fun w hT => A.parse w kp.on hT hT.2)
  have Pb := Lib.hid (fun w hT => A.parse w kq.on hT hT.2)
  have ka := parseT_pn kp.on
  have kb := parseT_pn kq.on
  generalize parseT (Bp.smul n) = a at *
  generalize parseT (Bp.smul n).neg = b at *
  have E1 := Lib.hid (fun w hT => A.same w ka kp hT)
  rw [ptEq_self] at E1
  have E2 := Lib.hid (fun w hT => A.same w kb kq hT)
  rw [ptEq_self] at E2
  have B := Lib.hid (fun w hT => A.base w hT)
  have AL := Lib.hid (fun w hT => A.alive w hT)
  have hs32 := text_size (Bp.smul n)
  have ht32 := text_size (Bp.smul n).neg
  have hX : decide (p.X = 0) = decide ((Bp.smul n).x.val = 0) := by
    obtain ⟨h1, h2, _⟩ := kp.rep
    by_cases h0 : (Bp.smul n).x.val = 0
    · have hz : (Bp.smul n).x = 0 := Fin.ext h0
      rw [decide_eq_true h0, decide_eq_true]
      rw [hz, show (0 : Z) * z p.Z = 0 by grind, z_is_zero, Nat.mod_eq_of_lt kp.lX] at h2
      exact h2
    · rw [decide_eq_false h0, decide_eq_false]
      intro hpx
      rw [hpx, z_zero] at h2
      rcases zmul_zero h2.symm with h3 | h3
      · exact h0 (congrArg Fin.val h3)
      · exact h1 h3
  have hpx := zero_four p.X kp.lt.X
  rw [hX] at hpx
  obtain ⟨LA, hh, b1, c1, hl, hh1, hb1, hc1, es, et, hcase⟩ := sign_texts (Bp.smul n)
  generalize textN (Bp.smul n) = s at *
  generalize textN (Bp.smul n).neg = t at *
  generalize (Bp.smul n).x.val = xv at *
  clear hX kp kq ka kb hn A
  have hs32i : (s.size : Int) = 32 := by omega
  have ht32i : (t.size : Int) = 32 := by omega
  obtain ⟨X, hsl⟩ : ∃ X, s.extract 0 31 = X := ⟨_, rfl⟩
  have htl : t.extract 0 31 = X := by
    rw [← hsl, es, et]
    apply ByteArray.ext
    apply Array.ext'
    simp only [ByteArray.data_extract, Array.toList_extract, List.extract_eq_take_drop, List.drop_zero]
    rw [List.take_append_of_le_length (by omega), List.take_append_of_le_length (by omega)]
  obtain ⟨zb, hzb⟩ : ∃ zb, decide (xv = 0) = zb := ⟨_, rfl⟩
  rw [hzb] at hpx
  obtain ⟨hxor, hst⟩ := sign_bytes hl hh1 hb1 hc1 es et (by omega) (by omega) zb (by
    rcases hcase with ⟨h0, h1⟩ | ⟨h0, h1⟩
    · exact .inl ⟨by rw [← hzb, decide_eq_true h0], h1⟩
    · exact .inr ⟨by rw [← hzb, decide_eq_false h0], h1⟩)
  clear es et hcase hzb hl hh1 hb1 hc1
  go_enter Tryd.func8, Tryd.ntmps8
  have hn0 := Lies.new W 27 (feA n)
  have hB := (Below.refl W.heap.size W).alloc (Nat.le_refl _) (.cells (feA n) 27)
  clear hT
  go_upto_region 1 with fail
  generalize World.alloc W _ = w0 at *
  have hT := hT0.out.on hB
  refine wp_region_made_late 5 7 6 3 _ 26 z16A rfl rfl (by kernel_rfl) (by kernel_rfl) (by kernel_rfl) (alloc_pt rfl) ?_
  simp only [addEdge, List.take_succ_cons, List.take_zero, List.drop_succ_cons, List.drop_zero]
  refine wpQB_sc W.heap.size n hn0 rfl ?_
  simp only [Act.put, List.setIfInBounds_toArray, List.set_cons_succ, List.set_cons_zero]
  refine wpQB_call 11 #[] (pt baseN) rfl rfl (fun _ => by kernel_rfl) (fun w hb => B.out w (hT.on hb)) ?_
  simp only [Act.put, List.setIfInBounds_toArray, List.set_cons_succ, List.set_cons_zero]
  refine wpQB_call 20 #[fe n, pt baseN] (.tuple #[pt p, .int .i64 0]) rfl rfl (fun _ => by kernel_rfl) (fun w hb => Dp.out w (hT.on hb)) ?_
  simp only [Act.put, List.setIfInBounds_toArray, List.set_cons_succ, List.set_cons_zero]
  refine wpQB_move ?_
  simp only [Act.put, List.setIfInBounds_toArray, List.set_cons_succ, List.set_cons_zero]
  refine wpQB_run (pt p) rfl (fun _ _ => by kernel_rfl) ?_
  simp only [Act.put, List.setIfInBounds_toArray, List.set_cons_succ, List.set_cons_zero]
  refine wpQB_run (.int .i64 0) rfl (fun _ _ => by kernel_rfl) ?_
  simp only [Act.put, List.setIfInBounds_toArray, List.set_cons_succ, List.set_cons_zero]
  refine wpQB_nil ?_
  intro gp w1 hb hkp hfresh
  simp only [List.setIfInBounds_toArray, List.set_cons_succ, List.set_cons_zero]
  replace hfresh : Lies w1 gp 26 z16A := hfresh
  have hl := hn0.lt
  replace hn0 := (hn0.on hb).rowFar (show W.heap.size ≠ gp by omega) (ptA (p))
  clear hl
  have hsz := hB.size
  replace hB := below_rowSet (below_on hB hb) (show W.heap.size ≤ gp by omega) (ptA (p))
  have hp := hfresh.row (ptA (p))
  clear hb hT hkp hsz
  go_upto_region 2 with ((with_reducible refine wpL_store gp 26 _ (ptA (p)) 16 rowPt rfl (ptA_size _) (ptA_one _) hfresh ?_ ?_ ?_); rfl; rfl)
  clear hfresh
  generalize World.setRow _ _ _ = w1b at *
  clear hn0
  have hT := hT0.out.on hB
  go_upto_region 3 with (first
    | ((with_reducible refine wpL_load (gp) 26 (ptA p) 16 rowPt (ptA_size _) hp ?_ ?_); rfl)
    | (go_at_call 19; (with_reducible refine (Dq.out _ hT).mono ?_); rintro e uw2 ⟨rfl, hb⟩; replace hp := hp.on hb; replace hB := below_on hB hb; clear hb)
    | ((with_reducible refine wpL_store uw2.heap.size 26 _ (ptA q) 16 rowPt ?_ (ptA_size _) (ptA_one _) (Lies.new uw2 _ _) ?_ ?_ ?_); rfl; rfl; rfl))
  have hq := newly_lies uw2 26 z16A (ptA q)
  have hnw := newly uw2 (.cells z16A 26) (ptA q)
  replace hp := hp.on hnw
  replace hB := below_on hB hnw
  clear hnw hT
  generalize World.setRow _ _ _ = w2 at *
  generalize uw2.heap.size = gq at *
  have hT := hT0.out.on hB
  go_upto_region 4 with (first
    | ((with_reducible refine wpL_load (gp) 26 (ptA p) 16 rowPt (ptA_size _) hp ?_ ?_); rfl)
    | (go_at_call 21; (with_reducible refine (Bs.out _ hT).mono ?_); rintro e uw3 ⟨rfl, hb⟩; replace hp := hp.on hb; replace hq := hq.on hb; replace hB := below_on hB hb; clear hb))
  clear hT
  have hT := hT0.out.on hB
  go_upto_region 5 with (first
    | ((with_reducible refine wpL_load (gq) 26 (ptA q) 16 rowPt (ptA_size _) hq ?_ ?_); rfl)
    | (go_at_call 21; (with_reducible refine (Bt.out _ hT).mono ?_); rintro e uw4 ⟨rfl, hb⟩; replace hp := hp.on hb; replace hq := hq.on hb; replace hB := below_on hB hb; clear hb))
  clear hT
  have hT := hT0.out.on hB
  go_upto_region 6 with (first
    | (go_at_call 26; (with_reducible refine (Pa.out _ hT).mono ?_); rintro e uw5 ⟨rfl, hb⟩; replace hp := hp.on hb; replace hq := hq.on hb; replace hB := below_on hB hb; clear hb)
    | ((with_reducible refine wpL_store uw5.heap.size 26 _ (ptA a) 16 rowPt ?_ (ptA_size _) (ptA_one _) (Lies.new uw5 _ _) ?_ ?_ ?_); rfl; rfl; rfl))
  have ha := newly_lies uw5 26 z16A (ptA a)
  have hnw := newly uw5 (.cells z16A 26) (ptA a)
  replace hp := hp.on hnw
  replace hq := hq.on hnw
  replace hB := below_on hB hnw
  clear hnw hT
  generalize World.setRow _ _ _ = w5 at *
  generalize uw5.heap.size = ga at *
  have hT := hT0.out.on hB
  go_upto_region 7 with (first
    | (go_at_call 26; (with_reducible refine (Pb.out _ hT).mono ?_); rintro e uw6 ⟨rfl, hb⟩; replace hp := hp.on hb; replace hq := hq.on hb; replace ha := ha.on hb; replace hB := below_on hB hb; clear hb)
    | ((with_reducible refine wpL_store uw6.heap.size 26 _ (ptA b) 16 rowPt ?_ (ptA_size _) (ptA_one _) (Lies.new uw6 _ _) ?_ ?_ ?_); rfl; rfl; rfl))
  have hbb := newly_lies uw6 26 z16A (ptA b)
  have hnw := newly uw6 (.cells z16A 26) (ptA b)
  replace hp := hp.on hnw
  replace hq := hq.on hnw
  replace ha := ha.on hnw
  replace hB := below_on hB hnw
  clear hnw hT
  generalize World.setRow _ _ _ = w6 at *
  generalize uw6.heap.size = gbb at *
  have hT := hT0.out.on hB
  go_upto_region 9 with (first
    | (go_at_call 16; (with_reducible refine (AL.out _ hT).mono ?_); rintro e uw7 ⟨rfl, hb⟩; replace hp := hp.on hb; replace hq := hq.on hb; replace ha := ha.on hb; replace hbb := hbb.on hb; replace hB := below_on hB hb; clear hb))
  clear hT
  have hpX := pt_X hp
  go_upto_region 10 with ((with_reducible refine wpL_loadMid (gp) 0 (feA p.X).toList 4 rowFe (by rw [Array.length_toList]; exact feA_size _) hpX ?_ ?_); rfl; rw [Array.toArray_toList])
  clear hpX hpx
  have hT := hT0.out.on hB
  refine wp_region_quiet_below (by kernel_rfl) (by kernel_rfl) ?_
  repeat (go_big_quiet_step (fail))
  refine wpQr_pt ga a ha rfl rfl ?_
  simp only [Act.put, List.setIfInBounds_toArray, List.set_cons_succ, List.set_cons_zero]
  refine wpQr_pt gp p hp rfl rfl ?_
  simp only [Act.put, List.setIfInBounds_toArray, List.set_cons_succ, List.set_cons_zero]
  refine wpQr_call 17 #[pt a, pt p] (.bool true) rfl rfl (fun _ => by kernel_rfl) (fun w hb => E1.out w (hT.on hb)) ?_
  simp only [Act.put, List.setIfInBounds_toArray, List.set_cons_succ, List.set_cons_zero]
  refine wpQr_run (.bool true) rfl (fun _ _ => by kernel_rfl) ?_
  simp only [Act.put, List.setIfInBounds_toArray, List.set_cons_succ, List.set_cons_zero]
  refine wpQr_run (.bool true) rfl (fun _ _ => rfl) ?_
  simp only [Act.put, List.setIfInBounds_toArray, List.set_cons_succ, List.set_cons_zero]
  refine wpQr_pt gbb b hbb rfl rfl ?_
  simp only [Act.put, List.setIfInBounds_toArray, List.set_cons_succ, List.set_cons_zero]
  refine wpQr_pt gq q hq rfl rfl ?_
  simp only [Act.put, List.setIfInBounds_toArray, List.set_cons_succ, List.set_cons_zero]
  refine wpQr_call 17 #[pt b, pt q] (.bool true) rfl rfl (fun _ => by kernel_rfl) (fun w hb => E2.out w (hT.on hb)) ?_
  simp only [Act.put, List.setIfInBounds_toArray, List.set_cons_succ, List.set_cons_zero]
  refine wpQr_run (.bool true) rfl (fun _ _ => by kernel_rfl) ?_
  simp only [Act.put, List.setIfInBounds_toArray, List.set_cons_succ, List.set_cons_zero]
  refine wpQr_run (.bool true) rfl (fun _ _ => rfl) ?_
  simp only [Act.put, List.setIfInBounds_toArray, List.set_cons_succ, List.set_cons_zero]
  refine wpQuiet_nil ?_
  intro wz hw
  replace hB := below_on hB (Rg.below hw)
  go_wp2_with fail
  go_ret
  exact ⟨rfl, hB⟩
end Go.Proofs.YtfleimaoaicolaaDoor.C
