/- The walk of the statement of whether a path shows a leaf's sum: whatever comes, it answers true. -/
import Derived.Test.YtpcckanhmdlahaaDoorK8
namespace Go.Proofs.YtpcckanhmdlahaaDoor.Q
open Go.RowKit Go.Sort Go.Proofs.YtpcckanhmdlahaaDoor.U Go.Proofs.YtpcckanhmdlahaaDoor.R
set_option maxRecDepth 100000

set_option maxHeartbeats 6400000 in
theorem holdsQ_walk (ok : ProofOk) (leaf : List UInt8) (i n : Int) (v : Value) (l : List (List UInt8)) (root : List UInt8) (W : World) (hlf : leaf.length ≤ maxLen) (hi : (Lit.int .i64 i).wf = true) (hn : (Lit.int .i64 n).wf = true) (hs : Strs W v l) (hx : ∀ x ∈ l, x.length ≤ maxLen) (hrt : root.length ≤ maxLen) (hT : Tab W) :
    Calls Tryd.prog 4 #[.string (bytesOf leaf), .int .i64 i, .int .i64 n, v, .string (bytesOf root)] W fun e w' => e = .returned (.bool true) ∧ Below W.heap.size W w' := by
  obtain ⟨hi1, hi2⟩ := wf_range hi
  obtain ⟨hn1, hn2⟩ := wf_range hn
  have HF := Lib.hid (fewQ_any W v l hs hx)
  have HT := Lib.hid hT
  have h50 := fewQ_length l
  have h40 : Hid (∀ x ∈ fewQ l, x.length ≤ 100) := Lib.hid (fun x hx => by have := fewQ_part hx; omega)
  have hmx := Lib.hid (fewQ_max l)
  have HOk := Lib.hid ok
  obtain ⟨ao, c0, hv, _⟩ := id hs
  subst hv
  unfold maxLen at hlf hrt
  clear hx hT hi hn hs ok
  go_enter Tryd.func4, Tryd.ntmps4
  go_upto_region 2 with (go_at_call 9; refine HF.out.mono ?_; rintro e w1 ⟨v1, rfl, hs1, hB⟩; obtain ⟨a1, c1, hv1, _⟩ := id hs1; subst hv1)
  generalize fewQ l = L at *
  refine wp_held_calm (S := fun w' => Below w1.heap.size w1 w') 12 rfl (by kernel_rfl) ?_
  have hBd : Below w1.heap.size w1 { w1 with drawn := w1.drawn + 1 } := (Below.refl _ _).drew
  generalize ({ w1 with drawn := w1.drawn + 1 } : World) = wd at *
  refine held_put 0 14 (.string (bytesOf leaf)) rfl rfl (by kernel_rfl) (by kernel_rfl) (by kernel_rfl) (by kernel_rfl) (fun w hS => rfl) hBd ?_
  simp only [List.setIfInBounds_toArray, List.set_cons_succ, List.set_cons_zero]
  refine held_put 1 15 (.string (bytesOf leaf)) rfl rfl (by kernel_rfl) (by kernel_rfl) (by kernel_rfl) (by kernel_rfl) (fun w hS => rfl) hBd ?_
  simp only [List.setIfInBounds_toArray, List.set_cons_succ, List.set_cons_zero]
  refine held_put 2 16 (.int .i64 (leaf.length : Int)) rfl rfl (by kernel_rfl) (by kernel_rfl) (by kernel_rfl) (by kernel_rfl) (fun w hS => run_lenS leaf rfl w) hBd ?_
  simp only [List.setIfInBounds_toArray, List.set_cons_succ, List.set_cons_zero]
  refine held_put 3 17 (.int .i64 (min (leaf.length : Int) 40)) rfl rfl (by kernel_rfl) (by kernel_rfl) (by kernel_rfl) (by kernel_rfl) (fun w hS => run_minI _ _ rfl w) hBd ?_
  simp only [List.setIfInBounds_toArray, List.set_cons_succ, List.set_cons_zero]
  refine held_put 4 18 (.string (bytesOf (leaf.take 40))) rfl rfl (by kernel_rfl) (by kernel_rfl) (by kernel_rfl) (by kernel_rfl) (fun w hS => run_cutS leaf 40 rfl rfl w) hBd ?_
  simp only [List.setIfInBounds_toArray, List.set_cons_succ, List.set_cons_zero]
  refine held_put 5 19 (.string (bytesOf root)) rfl rfl (by kernel_rfl) (by kernel_rfl) (by kernel_rfl) (by kernel_rfl) (fun w hS => rfl) hBd ?_
  simp only [List.setIfInBounds_toArray, List.set_cons_succ, List.set_cons_zero]
  refine held_put 6 20 (.string (bytesOf root)) rfl rfl (by kernel_rfl) (by kernel_rfl) (by kernel_rfl) (by kernel_rfl) (fun w hS => rfl) hBd ?_
  simp only [List.setIfInBounds_toArray, List.set_cons_succ, List.set_cons_zero]
  refine held_put 7 21 (.int .i64 (root.length : Int)) rfl rfl (by kernel_rfl) (by kernel_rfl) (by kernel_rfl) (by kernel_rfl) (fun w hS => run_lenS root rfl w) hBd ?_
  simp only [List.setIfInBounds_toArray, List.set_cons_succ, List.set_cons_zero]
  refine held_put 8 22 (.int .i64 (min (root.length : Int) 40)) rfl rfl (by kernel_rfl) (by kernel_rfl) (by kernel_rfl) (by kernel_rfl) (fun w hS => run_minI _ _ rfl w) hBd ?_
  simp only [List.setIfInBounds_toArray, List.set_cons_succ, List.set_cons_zero]
  refine held_put 9 23 (.string (bytesOf (root.take 40))) rfl rfl (by kernel_rfl) (by kernel_rfl) (by kernel_rfl) (by kernel_rfl) (fun w hS => run_cutS root 40 rfl rfl w) hBd ?_
  simp only [List.setIfInBounds_toArray, List.set_cons_succ, List.set_cons_zero]
  refine held_one 10 (by kernel_rfl) (wpOp_put 0 (v := .string (bytesOf (leaf.take 40))) rfl rfl (by kernel_rfl) rfl ⟨hBd, ?_⟩)
  simp only [List.setIfInBounds_toArray, List.set_cons_zero]
  refine held_one 11 (by kernel_rfl) (wpOp_put 4 (v := .string (bytesOf (root.take 40))) rfl rfl (by kernel_rfl) rfl ⟨hBd, ?_⟩)
  simp only [List.setIfInBounds_toArray, List.set_cons_succ, List.set_cons_zero]
  refine held_done (by kernel_rfl) ?_
  have hX40 : (leaf.take 40).length ≤ 100 := by rw [List.length_take]; omega
  have hR40 : (root.take 40).length ≤ 100 := by rw [List.length_take]; omega
  generalize leaf.take 40 = X at *
  generalize root.take 40 = R at *
  have HHo := Lib.hid (HOk.out.holds wd _ X R i n L hi1 hi2 hn1 hn2 hX40 hR40 (hs1.below hBd) (by omega) h40.out ((HT.out.below hB).below hBd))
  obtain ⟨E, hE⟩ : ∃ E, holdsE X i n L R = E := ⟨_, rfl⟩
  rw [hE] at HHo
  have HE := Lib.hid hE
  clear hE HF
  go_upto_region 4 with (go_at_call 17; refine HHo.out.mono ?_; rintro e w2 ⟨rfl, hb2⟩)
  have hb12 := below_on hBd hb2
  have HS1 := Lib.hid (hs1.below hb12)
  have hB2 := below_on hB hb12
  have HAl := Lib.hid (fun w (hb : Below w2.heap.size w2 w) => aliveQ_any HOk.out w ((HT.out.below hB2).below hb))
  have HAll := Lib.hid (fun w (hb : Below w2.heap.size w2 w) => refAll_any w _ L (HS1.out.below hb) hmx.out)
  clear hs1 hB hb2 hBd HHo hb12
  have hb := Below.refl w2.heap.size w2
  have hzX : ((bytesOf X).size : Int) = (X.length : Int) := by rw [bytes_size]
  have hzR : ((bytesOf R).size : Int) = (R.length : Int) := by rw [bytes_size]
  rcases Int.lt_or_le i 0 with hi0 | hi0
  · obtain rfl : E = 1 := by rw [← HE.out]; exact holdsE_no (by unfold holdsOkB; rw [decide_eq_false (show ¬ (0 ≤ i) by omega)]; simp)
    clear HE HAll HS1
    go_wp2_with (first
      | (go_at_call 13; with_reducible refine (HAl.out _ hb).mono ?_; rintro e w4 ⟨rfl, hb4⟩; replace hb := below_on hb hb4))
    go_ret
    exact ⟨rfl, below_on hB2 hb⟩
  rcases Int.lt_or_le i n with hin | hin
  case inr =>
    obtain rfl : E = 1 := by rw [← HE.out]; exact holdsE_no (by unfold holdsOkB; rw [decide_eq_false (show ¬ (i < n) by omega)]; simp)
    clear HE HAll HS1
    go_wp2_with (first
      | (go_at_call 13; with_reducible refine (HAl.out _ hb).mono ?_; rintro e w4 ⟨rfl, hb4⟩; replace hb := below_on hb hb4))
    go_ret
    exact ⟨rfl, below_on hB2 hb⟩
  rcases Int.lt_or_le 4096 n with hn4 | hn4
  · obtain rfl : E = 1 := by rw [← HE.out]; exact holdsE_no (by unfold holdsOkB; rw [decide_eq_false (show ¬ (n ≤ 4096) by omega)]; simp)
    clear HE HAll HS1
    go_wp2_with (first
      | (go_at_call 13; with_reducible refine (HAl.out _ hb).mono ?_; rintro e w4 ⟨rfl, hb4⟩; replace hb := below_on hb hb4))
    go_ret
    exact ⟨rfl, below_on hB2 hb⟩
  by_cases hX : X.length = 32
  case neg =>
    have hX2 : ((X.length : Int) != 32) = true := by simp; omega
    obtain rfl : E = 1 := by rw [← HE.out]; exact holdsE_no (by unfold holdsOkB; rw [decide_eq_false hX]; simp)
    clear HE HAll HS1
    go_wp2_with (first
      | (go_at_call 13; with_reducible refine (HAl.out _ hb).mono ?_; rintro e w4 ⟨rfl, hb4⟩; replace hb := below_on hb hb4))
    go_ret
    exact ⟨rfl, below_on hB2 hb⟩
  have hX2 : ((X.length : Int) != 32) = false := by simp; omega
  by_cases hR : R.length = 32
  case neg =>
    have hR2 : ((R.length : Int) != 32) = true := by simp; omega
    obtain rfl : E = 1 := by rw [← HE.out]; exact holdsE_no (by unfold holdsOkB; rw [decide_eq_false hR]; simp)
    clear HE HAll HS1
    go_wp2_with (first
      | (go_at_call 13; with_reducible refine (HAl.out _ hb).mono ?_; rintro e w4 ⟨rfl, hb4⟩; replace hb := below_on hb hb4))
    go_ret
    exact ⟨rfl, below_on hB2 hb⟩
  have hR2 : ((R.length : Int) != 32) = false := by simp; omega
  cases hall : allB L with
  | false =>
    rw [hall] at HAll
    obtain rfl : E = 1 := by rw [← HE.out]; exact holdsE_no (by unfold holdsOkB; rw [hall]; simp)
    clear HE hall HS1
    go_wp2_with (first
      | (go_at_call 13; with_reducible refine (HAl.out _ hb).mono ?_; rintro e w4 ⟨rfl, hb4⟩; replace hb := below_on hb hb4)
      | (go_at_call 18; with_reducible refine (HAll.out _ hb).mono ?_; rintro e w4 ⟨rfl, rfl⟩))
    go_ret
    exact ⟨rfl, below_on hB2 hb⟩
  | true =>
    rw [hall] at HAll
    obtain ⟨k, rfl⟩ : ∃ k : Nat, i = (k : Int) := ⟨i.toNat, (Int.toNat_of_nonneg hi0).symm⟩
    obtain ⟨q, rfl⟩ : ∃ q : Nat, n = (q : Int) := ⟨n.toNat, (Int.toNat_of_nonneg (by omega)).symm⟩
    have hEE := HE.out
    rw [holdsE_yes (by omega) (by omega) hX hR hall] at hEE
    have hne := bytes_ne hR
    have HMk := Lib.hid (fun w (hb : Below w2.heap.size w2 w) => refMakes_any L.reverse X k q w _ (by omega) (by omega) hX (fun y hy => allB_mem hall (List.mem_reverse.1 hy)) (by rw [List.length_reverse]; omega) (by rw [List.reverse_reverse]; exact HS1.out.below hb))
    cases hmk : mkP nd X L.reverse k q with
    | none =>
      rw [hmk] at HMk hEE
      rw [if_neg (by simp)] at hEE
      subst hEE
      unfold optB at HMk
      clear HE hall HS1 hmk
      go_wp2_with (first
        | (go_at_call 13; with_reducible refine (HAl.out _ hb).mono ?_; rintro e w4 ⟨rfl, hb4⟩; replace hb := below_on hb hb4)
        | (go_at_call 18; with_reducible refine (HAll.out _ hb).mono ?_; rintro e w4 ⟨rfl, rfl⟩)
        | (go_at_call 19; with_reducible refine (HMk.out _ hb).mono ?_; rintro e w4 ⟨rfl, hb4⟩; replace hb := below_on hb hb4))
      go_ret
      exact ⟨rfl, below_on hB2 hb⟩
    | some s =>
      rw [hmk] at HMk hEE
      unfold optB at HMk
      by_cases hsr : s = R
      · subst hsr
        rw [if_pos rfl] at hEE
        subst hEE
        clear HE hall HS1 hmk
        go_wp2_with (first
          | (go_at_call 13; with_reducible refine (HAl.out _ hb).mono ?_; rintro e w4 ⟨rfl, hb4⟩; replace hb := below_on hb hb4)
          | (go_at_call 18; with_reducible refine (HAll.out _ hb).mono ?_; rintro e w4 ⟨rfl, rfl⟩)
          | (go_at_call 19; with_reducible refine (HMk.out _ hb).mono ?_; rintro e w4 ⟨rfl, hb4⟩; replace hb := below_on hb hb4))
        go_ret
        exact ⟨rfl, below_on hB2 hb⟩
      · rw [if_neg (by simpa using hsr)] at hEE
        subst hEE
        have hsne := toList_ne hsr
        clear HE hall HS1 hmk
        go_wp2_with (first
          | (go_at_call 13; with_reducible refine (HAl.out _ hb).mono ?_; rintro e w4 ⟨rfl, hb4⟩; replace hb := below_on hb hb4)
          | (go_at_call 18; with_reducible refine (HAll.out _ hb).mono ?_; rintro e w4 ⟨rfl, rfl⟩)
          | (go_at_call 19; with_reducible refine (HMk.out _ hb).mono ?_; rintro e w4 ⟨rfl, hb4⟩; replace hb := below_on hb hb4))
        go_ret
        exact ⟨rfl, below_on hB2 hb⟩
end Go.Proofs.YtpcckanhmdlahaaDoor.Q
