/- The walk of the statement of roots: whatever row and data, it answers true. -/
import Derived.Test.YtakmlmgffgoecaaDoorK7
namespace Go.Proofs.YtakmlmgffgoecaaDoor.R
open Go.RowKit Go.Sort Go.Proofs.YtakmlmgffgoecaaDoor.U
set_option maxRecDepth 100000

theorem fewL_max (l : List (List UInt8)) : ∀ x ∈ fewL l, x.length ≤ maxLen := fun x hx => by have := fewL_part hx; unfold maxLen; omega
theorem rootA_yes {l : List (List UInt8)} (h : rowB l = true) : rootA l = #[.string (bytesOf (rt l)), .int .i64 0] := by unfold rootA; rw [if_pos h]
theorem rootA_no {l : List (List UInt8)} (h : rowB l = false) : rootA l = #[.string { data := #[] }, .int .i64 1] := by unfold rootA; rw [h]; rfl

set_option maxHeartbeats 3200000 in
theorem roots_walk (v : Value) (l : List (List UInt8)) (data : List UInt8) (W : World) (hs : Strs W v l) (hx : ∀ x ∈ l, x.length ≤ maxLen) (hd : data.length ≤ maxLen) (hT : Tab W) :
    Calls Tryd.prog 3 #[v, .string (bytesOf data)] W fun e w' => e = .returned (.bool true) ∧ Below W.heap.size W w' := by
  have HF := Lib.hid (fun w (hb : Below W.heap.size W w) => few_any w v l (hs.below hb) hx)
  have HT := Lib.hid hT
  unfold maxLen at hd
  obtain ⟨ao, c, hv, _⟩ := hs
  subst hv
  clear hx hT
  go_enter Tryd.func3, Tryd.ntmps3
  go_upto_region 1 with fail
  refine wp_held_calm (S := fun w' => Below W.heap.size W w') 9 rfl (by kernel_rfl) ?_
  have hBd : Below W.heap.size W { W with drawn := W.drawn + 1 } := (Below.refl _ _).drew
  generalize ({ W with drawn := W.drawn + 1 } : World) = wd at *
  refine held_put 0 7 (.slice ao l.length c) rfl rfl (by kernel_rfl) (by kernel_rfl) (by kernel_rfl) rfl (fun w hS => rfl) hBd ?_
  simp only [List.setIfInBounds_toArray, List.set_cons_succ, List.set_cons_zero]
  refine held_put 2 9 (.string (bytesOf data)) rfl rfl (by kernel_rfl) (by kernel_rfl) (by kernel_rfl) rfl (fun w hS => rfl) hBd ?_
  simp only [List.setIfInBounds_toArray, List.set_cons_succ, List.set_cons_zero]
  refine held_put 3 10 (.string (bytesOf data)) rfl rfl (by kernel_rfl) (by kernel_rfl) (by kernel_rfl) rfl (fun w hS => rfl) hBd ?_
  simp only [List.setIfInBounds_toArray, List.set_cons_succ, List.set_cons_zero]
  refine held_put 4 11 (.int .i64 (data.length : Int)) rfl rfl (by kernel_rfl) (by kernel_rfl) (by kernel_rfl) rfl (fun w hS => run_lenS data rfl w) hBd ?_
  simp only [List.setIfInBounds_toArray, List.set_cons_succ, List.set_cons_zero]
  refine held_put 5 12 (.int .i64 (min (data.length : Int) 200)) rfl rfl (by kernel_rfl) (by kernel_rfl) (by kernel_rfl) rfl (fun w hS => run_minI _ _ rfl w) hBd ?_
  simp only [List.setIfInBounds_toArray, List.set_cons_succ, List.set_cons_zero]
  refine held_put 6 13 (.string (bytesOf (data.take 200))) rfl rfl (by kernel_rfl) (by kernel_rfl) (by kernel_rfl) rfl (fun w hS => run_cutS data 200 rfl rfl w) hBd ?_
  simp only [List.setIfInBounds_toArray, List.set_cons_succ, List.set_cons_zero]
  refine held_one 1 (by kernel_rfl) (wpOp_call 8 rfl rfl rfl (by kernel_rfl) ((HF.out _ hBd).mono ?_))
  rintro e w1 ⟨v1, rfl, hs1, hb1⟩
  have hB := below_on hBd hb1
  refine ⟨v1, rfl, hB, ?_⟩
  simp only [List.setIfInBounds_toArray, List.set_cons_succ, List.set_cons_zero]
  refine held_one 7 (by kernel_rfl) (wpOp_put 0 (v := v1) rfl rfl rfl rfl ⟨hB, ?_⟩)
  simp only [List.setIfInBounds_toArray, List.set_cons_zero]
  refine held_one 8 (by kernel_rfl) (wpOp_put 1 (v := .string (bytesOf (data.take 200))) rfl rfl rfl rfl ⟨hB, ?_⟩)
  simp only [List.setIfInBounds_toArray, List.set_cons_succ, List.set_cons_zero]
  refine held_done (by kernel_rfl) ?_
  have hM := fewL_max l
  have hD : (data.take 200).length ≤ 200 := by rw [List.length_take]; omega
  obtain ⟨a1, c1, hv1, _⟩ := id hs1
  subst hv1
  generalize fewL l = M at *
  generalize data.take 200 = D at *
  have HRo := Lib.hid (fun w (hb : Below w1.heap.size w1 w) => root_any M w _ hM (hs1.below hb) ((HT.out.below hB).below hb))
  have HLe := Lib.hid (fun w (hb : Below w1.heap.size w1 w) => leaf_any D w (by omega) ((HT.out.below hB).below hb))
  have HRl := Lib.hid (fun w => refLeaf_any D w (by omega))
  have HNo := Lib.hid (fun w (hb : Below w1.heap.size w1 w) => node_any D [120] w (by omega) (by decide) ((HT.out.below hB).below hb))
  have HRn := Lib.hid (fun w => refNode_any D [120] w (by omega) (by decide))
  have HRi := Lib.hid (fun w (hb : Below w1.heap.size w1 w) => right_any w _ M (hs1.below hb) hM)
  have HRr := Lib.hid (fun w (hb : Below w1.heap.size w1 w) => refRight_any w _ M (hs1.below hb) hM)
  have HAl := Lib.hid (fun w (hb : Below w1.heap.size w1 w) => alive_any w ((HT.out.below hB).below hb))
  have hb := Below.refl w1.heap.size w1
  cases hr : rowB M with
  | true =>
    have HRt := Lib.hid (fun w (hb : Below w1.heap.size w1 w) => refRoot_any M w _ hr (hs1.below hb))
    rw [rootA_yes hr] at HRo
    rw [hr] at HRi HRr
    generalize rt M = R at *
    clear hr hM
    go_wp2_with (first
      | (go_at_call 10; refine (HRo.out _ hb).mono ?_; rintro e w2 ⟨rfl, hb2⟩; replace hb := below_on hb hb2)
      | (go_at_call 11; refine (HLe.out _ hb).mono ?_; rintro e w2 ⟨rfl, hb2⟩; replace hb := below_on hb hb2)
      | (go_at_call 12; refine (HRl.out _).mono ?_; rintro e w2 ⟨rfl, hb2⟩; replace hb := below_on hb hb2)
      | (go_at_call 13; refine (HNo.out _ hb).mono ?_; rintro e w2 ⟨rfl, hb2⟩; replace hb := below_on hb hb2)
      | (go_at_call 14; refine (HRn.out _).mono ?_; rintro e w2 ⟨rfl, hb2⟩; replace hb := below_on hb hb2)
      | (go_at_call 15; refine (HRi.out _ hb).mono ?_; rintro e w2 ⟨rfl, rfl⟩)
      | (go_at_call 16; refine (HRr.out _ hb).mono ?_; rintro e w2 ⟨rfl, rfl⟩)
      | (go_at_call 17; refine (HAl.out _ hb).mono ?_; rintro e w2 ⟨rfl, hb2⟩; replace hb := below_on hb hb2)
      | (go_at_call 18; refine (HRt.out _ hb).mono ?_; rintro e w2 ⟨rfl, hb2⟩; replace hb := below_on hb hb2))
    go_ret
    exact ⟨rfl, below_on hB hb⟩
  | false =>
    rw [rootA_no hr] at HRo
    rw [hr] at HRi HRr
    clear hr hM
    go_wp2_with (first
      | (go_at_call 10; refine (HRo.out _ hb).mono ?_; rintro e w2 ⟨rfl, hb2⟩; replace hb := below_on hb hb2)
      | (go_at_call 11; refine (HLe.out _ hb).mono ?_; rintro e w2 ⟨rfl, hb2⟩; replace hb := below_on hb hb2)
      | (go_at_call 12; refine (HRl.out _).mono ?_; rintro e w2 ⟨rfl, hb2⟩; replace hb := below_on hb hb2)
      | (go_at_call 13; refine (HNo.out _ hb).mono ?_; rintro e w2 ⟨rfl, hb2⟩; replace hb := below_on hb hb2)
      | (go_at_call 14; refine (HRn.out _).mono ?_; rintro e w2 ⟨rfl, hb2⟩; replace hb := below_on hb hb2)
      | (go_at_call 15; refine (HRi.out _ hb).mono ?_; rintro e w2 ⟨rfl, rfl⟩)
      | (go_at_call 16; refine (HRr.out _ hb).mono ?_; rintro e w2 ⟨rfl, rfl⟩)
      | (go_at_call 17; refine (HAl.out _ hb).mono ?_; rintro e w2 ⟨rfl, hb2⟩; replace hb := below_on hb hb2))
    go_ret
    exact ⟨rfl, below_on hB hb⟩
end Go.Proofs.YtakmlmgffgoecaaDoor.R
