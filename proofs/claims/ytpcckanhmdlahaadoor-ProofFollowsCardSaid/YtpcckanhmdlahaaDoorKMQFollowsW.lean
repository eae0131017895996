/- The walk of the statement of whether a step shows that a tree goes on: whatever comes, it answers true. -/
import Derived.Test.YtpcckanhmdlahaaDoorK8
namespace Go.Proofs.YtpcckanhmdlahaaDoor.Q
open Go.RowKit Go.Sort Go.Proofs.YtpcckanhmdlahaaDoor.U Go.Proofs.YtpcckanhmdlahaaDoor.R
set_option maxRecDepth 100000

set_option maxHeartbeats 6400000 in
theorem followsQ_walk (ok : ProofOk) (m n : Int) (old root : List UInt8) (v : Value) (l : List (List UInt8)) (W : World) (hm : (Lit.int .i64 m).wf = true) (hn : (Lit.int .i64 n).wf = true) (hlo : old.length ≤ maxLen) (hrt : root.length ≤ maxLen) (hs : Strs W v l) (hx : ∀ x ∈ l, x.length ≤ maxLen) (hT : Tab W) (hZ : Tz W) :
    Calls Tryd.prog 5 #[.int .i64 m, .int .i64 n, .string (bytesOf old), .string (bytesOf root), v] W fun e w' => e = .returned (.bool true) ∧ Below W.heap.size W w' := by
  obtain ⟨hm1, hm2⟩ := wf_range hm
  obtain ⟨hn1, hn2⟩ := wf_range hn
  have HF := Lib.hid (fewQ_any W v l hs hx)
  have HT := Lib.hid hT
  have HZ := Lib.hid hZ
  clear hZ
  have h50 := fewQ_length l
  have h40 : Hid (∀ x ∈ fewQ l, x.length ≤ 100) := Lib.hid (fun x hx => by have := fewQ_part hx; omega)
  have hmx := Lib.hid (fewQ_max l)
  have HOk := Lib.hid ok
  obtain ⟨ao, c0, hv, _⟩ := id hs
  subst hv
  unfold maxLen at hlo hrt
  clear hx hT hm hn hs ok
  go_enter Tryd.func5, Tryd.ntmps5
  go_upto_region 2 with (go_at_call 9; refine HF.out.mono ?_; rintro e w1 ⟨v1, rfl, hs1, hB⟩; obtain ⟨a1, c1, hv1, _⟩ := id hs1; subst hv1)
  generalize fewQ l = L at *
  refine wp_held_calm (S := fun w' => Below w1.heap.size w1 w') 12 rfl (by kernel_rfl) ?_
  have hBd : Below w1.heap.size w1 { w1 with drawn := w1.drawn + 1 } := (Below.refl _ _).drew
  generalize ({ w1 with drawn := w1.drawn + 1 } : World) = wd at *
  refine held_put 0 15 (.string (bytesOf old)) rfl rfl (by kernel_rfl) (by kernel_rfl) (by kernel_rfl) (by kernel_rfl) (fun w hS => rfl) hBd ?_
  simp only [List.setIfInBounds_toArray, List.set_cons_succ, List.set_cons_zero]
  refine held_put 1 16 (.string (bytesOf old)) rfl rfl (by kernel_rfl) (by kernel_rfl) (by kernel_rfl) (by kernel_rfl) (fun w hS => rfl) hBd ?_
  simp only [List.setIfInBounds_toArray, List.set_cons_succ, List.set_cons_zero]
  refine held_put 2 17 (.int .i64 (old.length : Int)) rfl rfl (by kernel_rfl) (by kernel_rfl) (by kernel_rfl) (by kernel_rfl) (fun w hS => run_lenS old rfl w) hBd ?_
  simp only [List.setIfInBounds_toArray, List.set_cons_succ, List.set_cons_zero]
  refine held_put 3 18 (.int .i64 (min (old.length : Int) 40)) rfl rfl (by kernel_rfl) (by kernel_rfl) (by kernel_rfl) (by kernel_rfl) (fun w hS => run_minI _ _ rfl w) hBd ?_
  simp only [List.setIfInBounds_toArray, List.set_cons_succ, List.set_cons_zero]
  refine held_put 4 19 (.string (bytesOf (old.take 40))) rfl rfl (by kernel_rfl) (by kernel_rfl) (by kernel_rfl) (by kernel_rfl) (fun w hS => run_cutS old 40 rfl rfl w) hBd ?_
  simp only [List.setIfInBounds_toArray, List.set_cons_succ, List.set_cons_zero]
  refine held_put 5 20 (.string (bytesOf root)) rfl rfl (by kernel_rfl) (by kernel_rfl) (by kernel_rfl) (by kernel_rfl) (fun w hS => rfl) hBd ?_
  simp only [List.setIfInBounds_toArray, List.set_cons_succ, List.set_cons_zero]
  refine held_put 6 21 (.string (bytesOf root)) rfl rfl (by kernel_rfl) (by kernel_rfl) (by kernel_rfl) (by kernel_rfl) (fun w hS => rfl) hBd ?_
  simp only [List.setIfInBounds_toArray, List.set_cons_succ, List.set_cons_zero]
  refine held_put 7 22 (.int .i64 (root.length : Int)) rfl rfl (by kernel_rfl) (by kernel_rfl) (by kernel_rfl) (by kernel_rfl) (fun w hS => run_lenS root rfl w) hBd ?_
  simp only [List.setIfInBounds_toArray, List.set_cons_succ, List.set_cons_zero]
  refine held_put 8 23 (.int .i64 (min (root.length : Int) 40)) rfl rfl (by kernel_rfl) (by kernel_rfl) (by kernel_rfl) (by kernel_rfl) (fun w hS => run_minI _ _ rfl w) hBd ?_
  simp only [List.setIfInBounds_toArray, List.set_cons_succ, List.set_cons_zero]
  refine held_put 9 24 (.string (bytesOf (root.take 40))) rfl rfl (by kernel_rfl) (by kernel_rfl) (by kernel_rfl) (by kernel_rfl) (fun w hS => run_cutS root 40 rfl rfl w) hBd ?_
  simp only [List.setIfInBounds_toArray, List.set_cons_succ, List.set_cons_zero]
  refine held_one 10 (by kernel_rfl) (wpOp_put 2 (v := .string (bytesOf (old.take 40))) rfl rfl (by kernel_rfl) rfl ⟨hBd, ?_⟩)
  simp only [List.setIfInBounds_toArray, List.set_cons_succ, List.set_cons_zero]
  refine held_one 11 (by kernel_rfl) (wpOp_put 3 (v := .string (bytesOf (root.take 40))) rfl rfl (by kernel_rfl) rfl ⟨hBd, ?_⟩)
  simp only [List.setIfInBounds_toArray, List.set_cons_succ, List.set_cons_zero]
  refine held_done (by kernel_rfl) ?_
  have hX40 : (old.take 40).length ≤ 100 := by rw [List.length_take]; omega
  have hR40 : (root.take 40).length ≤ 100 := by rw [List.length_take]; omega
  generalize old.take 40 = X at *
  generalize root.take 40 = R at *
  have HFo := Lib.hid (HOk.out.follows wd _ X R m n L hm1 hm2 hn1 hn2 hX40 hR40 (hs1.below hBd) (by omega) h40.out ((HT.out.below hB).below hBd) ((HZ.out.below hB).below hBd))
  obtain ⟨E, hE⟩ : ∃ E, followsE m n X R L = E := ⟨_, rfl⟩
  rw [hE] at HFo
  have HE := Lib.hid hE
  clear hE HF
  go_upto_region 4 with (go_at_call 20; refine HFo.out.mono ?_; rintro e w2 ⟨rfl, hb2⟩)
  have hb12 := below_on hBd hb2
  have HS1 := Lib.hid (hs1.below hb12)
  have hB2 := below_on hB hb12
  have HAl := Lib.hid (fun w (hb : Below w2.heap.size w2 w) => aliveQ_any HOk.out w ((HT.out.below hB2).below hb))
  have HAll := Lib.hid (fun w (hb : Below w2.heap.size w2 w) => refAll_any w _ L (HS1.out.below hb) hmx.out)
  have HNo := Lib.hid (fun w => refRoot_small 0 [] w (.slice none 0 0) (Nat.le_refl _) (Nat.zero_le _) (fun x hx => by cases hx) (Strs.nil w))
  clear hs1 hB hb2 hBd HFo hb12
  have hb := Below.refl w2.heap.size w2
  have hzX : ((bytesOf X).size : Int) = (X.length : Int) := by rw [bytes_size]
  have hzR : ((bytesOf R).size : Int) = (R.length : Int) := by rw [bytes_size]
  rcases Int.lt_or_le m 0 with hi0 | hi0
  · obtain rfl : E = 1 := by rw [← HE.out]; exact followsE_no (by unfold followsOkB; rw [decide_eq_false (show ¬ (0 ≤ m) by omega)]; simp)
    clear HE HAll HS1 HNo
    go_wp2_with (first
      | (go_at_call 13; with_reducible refine (HAl.out _ hb).mono ?_; rintro e w4 ⟨rfl, hb4⟩; replace hb := below_on hb hb4))
    go_ret
    exact ⟨rfl, below_on hB2 hb⟩
  rcases Int.lt_or_le n m with hin | hin
  · obtain rfl : E = 1 := by rw [← HE.out]; exact followsE_no (by unfold followsOkB; rw [decide_eq_false (show ¬ (m ≤ n) by omega)]; simp)
    clear HE HAll HS1 HNo
    go_wp2_with (first
      | (go_at_call 13; with_reducible refine (HAl.out _ hb).mono ?_; rintro e w4 ⟨rfl, hb4⟩; replace hb := below_on hb hb4))
    go_ret
    exact ⟨rfl, below_on hB2 hb⟩
  rcases Int.lt_or_le 4096 n with hn4 | hn4
  · obtain rfl : E = 1 := by rw [← HE.out]; exact followsE_no (by unfold followsOkB; rw [decide_eq_false (show ¬ (n ≤ 4096) by omega)]; simp)
    clear HE HAll HS1 HNo
    go_wp2_with (first
      | (go_at_call 13; with_reducible refine (HAl.out _ hb).mono ?_; rintro e w4 ⟨rfl, hb4⟩; replace hb := below_on hb hb4))
    go_ret
    exact ⟨rfl, below_on hB2 hb⟩
  by_cases hX : X.length = 32
  case neg =>
    have hX2 : ((X.length : Int) != 32) = true := by simp; omega
    obtain rfl : E = 1 := by rw [← HE.out]; exact followsE_no (by unfold followsOkB; rw [decide_eq_false hX]; simp)
    clear HE HAll HS1 HNo
    go_wp2_with (first
      | (go_at_call 13; with_reducible refine (HAl.out _ hb).mono ?_; rintro e w4 ⟨rfl, hb4⟩; replace hb := below_on hb hb4))
    go_ret
    exact ⟨rfl, below_on hB2 hb⟩
  have hX2 : ((X.length : Int) != 32) = false := by simp; omega
  by_cases hR : R.length = 32
  case neg =>
    have hR2 : ((R.length : Int) != 32) = true := by simp; omega
    obtain rfl : E = 1 := by rw [← HE.out]; exact followsE_no (by unfold followsOkB; rw [decide_eq_false hR]; simp)
    clear HE HAll HS1 HNo
    go_wp2_with (first
      | (go_at_call 13; with_reducible refine (HAl.out _ hb).mono ?_; rintro e w4 ⟨rfl, hb4⟩; replace hb := below_on hb hb4))
    go_ret
    exact ⟨rfl, below_on hB2 hb⟩
  have hR2 : ((R.length : Int) != 32) = false := by simp; omega
  cases hall : allB L with
  | false =>
    rw [hall] at HAll
    obtain rfl : E = 1 := by rw [← HE.out]; exact followsE_no (by unfold followsOkB; rw [hall]; simp)
    clear HE hall HS1
    go_wp2_with (first
      | (go_at_call 13; with_reducible refine (HAl.out _ hb).mono ?_; rintro e w4 ⟨rfl, hb4⟩; replace hb := below_on hb hb4)
      | (go_at_call 18; refine (HAll.out _ hb).mono ?_; rintro e w4 ⟨rfl, rfl⟩))
    go_ret
    exact ⟨rfl, below_on hB2 hb⟩
  | true =>
    rw [hall] at HAll
    obtain ⟨k, rfl⟩ : ∃ k : Nat, m = (k : Int) := ⟨m.toNat, (Int.toNat_of_nonneg hi0).symm⟩
    obtain ⟨q, rfl⟩ : ∃ q : Nat, n = (q : Int) := ⟨n.toNat, (Int.toNat_of_nonneg (by omega)).symm⟩
    have hEE := HE.out
    have hne := bytes_ne hX
    have hneR := bytes_ne hR
    clear HE
    rw [show rt ([] : List (List UInt8)) = e0 from rootL_nil nd e0] at HNo
    rcases Nat.eq_zero_or_pos k with hk | hk
    · subst hk
      rw [followsE_zero (by omega) hX hR hall] at hEE
      by_cases hL : L = []
      · by_cases ho : X = e0
        · rw [if_pos ⟨hL, ho⟩] at hEE
          subst hEE hL ho
          clear hall HS1
          go_wp2_with (first
            | (go_at_call 13; with_reducible refine (HAl.out _ hb).mono ?_; rintro e w4 ⟨rfl, hb4⟩; replace hb := below_on hb hb4)
            | (go_at_call 18; refine (HAll.out _ hb).mono ?_; rintro e w4 ⟨rfl, rfl⟩)
            | (go_at_call 21; with_reducible refine (HNo.out _).mono ?_; rintro e w4 ⟨rfl, hb4⟩; replace hb := below_on hb hb4))
          go_ret
          exact ⟨rfl, below_on hB2 hb⟩
        · rw [if_neg (fun h => ho h.2)] at hEE
          have hsne := toList_ne ho
          subst hEE hL
          clear hall HS1
          go_wp2_with (first
            | (go_at_call 13; with_reducible refine (HAl.out _ hb).mono ?_; rintro e w4 ⟨rfl, hb4⟩; replace hb := below_on hb hb4)
            | (go_at_call 18; refine (HAll.out _ hb).mono ?_; rintro e w4 ⟨rfl, rfl⟩)
            | (go_at_call 21; with_reducible refine (HNo.out _).mono ?_; rintro e w4 ⟨rfl, hb4⟩; replace hb := below_on hb hb4))
          go_ret
          exact ⟨rfl, below_on hB2 hb⟩
      · rw [if_neg (fun h => hL h.1)] at hEE
        have hL0 : ((L.length : Int) == 0) = false := by have := List.length_pos_iff.2 hL; simp; omega
        subst hEE
        clear hall HS1
        go_wp2_with (first
          | (go_at_call 13; with_reducible refine (HAl.out _ hb).mono ?_; rintro e w4 ⟨rfl, hb4⟩; replace hb := below_on hb hb4)
          | (go_at_call 18; refine (HAll.out _ hb).mono ?_; rintro e w4 ⟨rfl, rfl⟩)
          | (go_at_call 21; with_reducible refine (HNo.out _).mono ?_; rintro e w4 ⟨rfl, hb4⟩; replace hb := below_on hb hb4))
        go_ret
        exact ⟨rfl, below_on hB2 hb⟩
    · rw [followsE_yes hk (by omega) (by omega) hX hR hall] at hEE
      have HOl := Lib.hid (fun w (hb : Below w2.heap.size w2 w) => refOld_any L.reverse X k q true w _ hk (by omega) (by omega) hX (fun y hy => allB_mem hall (List.mem_reverse.1 hy)) (by rw [List.length_reverse]; omega) (by rw [List.reverse_reverse]; exact HS1.out.below hb))
      have HNe := Lib.hid (fun w (hb : Below w2.heap.size w2 w) => refNew_any L.reverse X k q true w _ hk (by omega) (by omega) hX (fun y hy => allB_mem hall (List.mem_reverse.1 hy)) (by rw [List.length_reverse]; omega) (by rw [List.reverse_reverse]; exact HS1.out.below hb))
      have hk0 : (0 : Int) < (k : Int) := by omega
      have hLL : L = [] ∨ ((L.length : Int) == 0) = false := by
        by_cases hL : L = []
        · exact .inl hL
        · exact .inr (by have := List.length_pos_iff.2 hL; simp; omega)
      have hXX : X = e0 ∨ ((bytesOf X).toList == (bytesOf e0).toList) = false := by
        by_cases ho : X = e0
        · exact .inl ho
        · exact .inr (toList_ne ho)
      have HP2 : Hid (L = [] ∨ ((L.length : Int) == 0) = false) := Lib.hid hLL
      have HP3 : Hid (X = e0 ∨ ((bytesOf X).toList == (bytesOf e0).toList) = false) := Lib.hid hXX
      clear hLL hXX
      -- what the old root and the new one are
      have hcase : (oldS nd X L.reverse k q true = some X ∧ newS nd X L.reverse k q true = some R ∧ E = 0) ∨ (E = 13 ∧ ∃ s : ByteArray, optB (oldS nd X L.reverse k q true) = s ∧ (s.toList == (bytesOf X).toList) = false) ∨ (E = 13 ∧ oldS nd X L.reverse k q true = some X ∧ ∃ s : ByteArray, optB (newS nd X L.reverse k q true) = s ∧ (s.toList == (bytesOf R).toList) = false) := by
        have hnil : ∀ {Y : List UInt8}, Y.length = 32 → ((optB none).toList == (bytesOf Y).toList) = false := fun {Y} hY => by
          rw [show optB none = bytesOf [] from rfl, toList_of, toList_of]
          cases Y with
          | nil => cases hY
          | cons y Y => rfl
        cases ho : oldS nd X L.reverse k q true with
        | none =>
          rw [ho, if_neg (by simp)] at hEE
          exact .inr (.inl ⟨hEE.symm, _, rfl, hnil hX⟩)
        | some s =>
          by_cases hsX : s = X
          · subst hsX
            cases hn : newS nd s L.reverse k q true with
            | none =>
              rw [ho, hn, if_neg (by simp)] at hEE
              exact .inr (.inr ⟨hEE.symm, rfl, _, rfl, hnil hR⟩)
            | some r =>
              by_cases hrR : r = R
              · subst hrR
                rw [ho, hn, if_pos ⟨rfl, rfl⟩] at hEE
                exact .inl ⟨rfl, rfl, hEE.symm⟩
              · rw [ho, hn, if_neg (by simp [hrR])] at hEE
                exact .inr (.inr ⟨hEE.symm, rfl, _, rfl, toList_ne hrR⟩)
          · rw [ho, if_neg (by simp [hsX])] at hEE
            exact .inr (.inl ⟨hEE.symm, _, rfl, toList_ne hsX⟩)
      clear hEE hall HS1
      rcases hcase with ⟨h1, h2, rfl⟩ | ⟨rfl, s, hs, hsne⟩ | ⟨rfl, h1, s, hs, hsne⟩
      · rw [h1] at HOl
        rw [h2] at HNe
        unfold optB at HOl HNe
        clear h1 h2
        rcases HP2.out with hL | hL0
        · subst hL
          rcases HP3.out with ho | ho
          · subst ho
            clear HP2 HP3
            go_wp2_with (first
              | (go_at_call 13; with_reducible refine (HAl.out _ hb).mono ?_; rintro e w4 ⟨rfl, hb4⟩; replace hb := below_on hb hb4)
              | (go_at_call 18; refine (HAll.out _ hb).mono ?_; rintro e w4 ⟨rfl, rfl⟩)
              | (go_at_call 21; with_reducible refine (HNo.out _).mono ?_; rintro e w4 ⟨rfl, hb4⟩; replace hb := below_on hb hb4)
              | (go_at_call 22; refine (HOl.out _ hb).mono ?_; rintro e w4 ⟨rfl, hb4⟩; replace hb := below_on hb hb4)
              | (go_at_call 23; refine (HNe.out _ hb).mono ?_; rintro e w4 ⟨rfl, hb4⟩; replace hb := below_on hb hb4))
            go_ret
            exact ⟨rfl, below_on hB2 hb⟩
          · clear HP2 HP3
            go_wp2_with (first
              | (go_at_call 13; with_reducible refine (HAl.out _ hb).mono ?_; rintro e w4 ⟨rfl, hb4⟩; replace hb := below_on hb hb4)
              | (go_at_call 18; refine (HAll.out _ hb).mono ?_; rintro e w4 ⟨rfl, rfl⟩)
              | (go_at_call 21; with_reducible refine (HNo.out _).mono ?_; rintro e w4 ⟨rfl, hb4⟩; replace hb := below_on hb hb4)
              | (go_at_call 22; refine (HOl.out _ hb).mono ?_; rintro e w4 ⟨rfl, hb4⟩; replace hb := below_on hb hb4)
              | (go_at_call 23; refine (HNe.out _ hb).mono ?_; rintro e w4 ⟨rfl, hb4⟩; replace hb := below_on hb hb4))
            go_ret
            exact ⟨rfl, below_on hB2 hb⟩
        · clear HP2 HP3
          go_wp2_with (first
            | (go_at_call 13; with_reducible refine (HAl.out _ hb).mono ?_; rintro e w4 ⟨rfl, hb4⟩; replace hb := below_on hb hb4)
            | (go_at_call 18; refine (HAll.out _ hb).mono ?_; rintro e w4 ⟨rfl, rfl⟩)
            | (go_at_call 21; with_reducible refine (HNo.out _).mono ?_; rintro e w4 ⟨rfl, hb4⟩; replace hb := below_on hb hb4)
            | (go_at_call 22; refine (HOl.out _ hb).mono ?_; rintro e w4 ⟨rfl, hb4⟩; replace hb := below_on hb hb4)
            | (go_at_call 23; refine (HNe.out _ hb).mono ?_; rintro e w4 ⟨rfl, hb4⟩; replace hb := below_on hb hb4))
          go_ret
          exact ⟨rfl, below_on hB2 hb⟩
      · rw [hs] at HOl
        clear hs HNe
        rcases HP2.out with hL | hL0
        · subst hL
          rcases HP3.out with ho | ho
          · subst ho
            clear HP2 HP3
            go_wp2_with (first
              | (go_at_call 13; with_reducible refine (HAl.out _ hb).mono ?_; rintro e w4 ⟨rfl, hb4⟩; replace hb := below_on hb hb4)
              | (go_at_call 18; refine (HAll.out _ hb).mono ?_; rintro e w4 ⟨rfl, rfl⟩)
              | (go_at_call 21; with_reducible refine (HNo.out _).mono ?_; rintro e w4 ⟨rfl, hb4⟩; replace hb := below_on hb hb4)
              | (go_at_call 22; refine (HOl.out _ hb).mono ?_; rintro e w4 ⟨rfl, hb4⟩; replace hb := below_on hb hb4))
            go_ret
            exact ⟨rfl, below_on hB2 hb⟩
          · clear HP2 HP3
            go_wp2_with (first
              | (go_at_call 13; with_reducible refine (HAl.out _ hb).mono ?_; rintro e w4 ⟨rfl, hb4⟩; replace hb := below_on hb hb4)
              | (go_at_call 18; refine (HAll.out _ hb).mono ?_; rintro e w4 ⟨rfl, rfl⟩)
              | (go_at_call 21; with_reducible refine (HNo.out _).mono ?_; rintro e w4 ⟨rfl, hb4⟩; replace hb := below_on hb hb4)
              | (go_at_call 22; refine (HOl.out _ hb).mono ?_; rintro e w4 ⟨rfl, hb4⟩; replace hb := below_on hb hb4))
            go_ret
            exact ⟨rfl, below_on hB2 hb⟩
        · clear HP2 HP3
          go_wp2_with (first
            | (go_at_call 13; with_reducible refine (HAl.out _ hb).mono ?_; rintro e w4 ⟨rfl, hb4⟩; replace hb := below_on hb hb4)
            | (go_at_call 18; refine (HAll.out _ hb).mono ?_; rintro e w4 ⟨rfl, rfl⟩)
            | (go_at_call 21; with_reducible refine (HNo.out _).mono ?_; rintro e w4 ⟨rfl, hb4⟩; replace hb := below_on hb hb4)
            | (go_at_call 22; refine (HOl.out _ hb).mono ?_; rintro e w4 ⟨rfl, hb4⟩; replace hb := below_on hb hb4))
          go_ret
          exact ⟨rfl, below_on hB2 hb⟩
      · rw [h1] at HOl
        rw [hs] at HNe
        unfold optB at HOl
        clear h1 hs
        rcases HP2.out with hL | hL0
        · subst hL
          rcases HP3.out with ho | ho
          · subst ho
            clear HP2 HP3
            go_wp2_with (first
              | (go_at_call 13; with_reducible refine (HAl.out _ hb).mono ?_; rintro e w4 ⟨rfl, hb4⟩; replace hb := below_on hb hb4)
              | (go_at_call 18; refine (HAll.out _ hb).mono ?_; rintro e w4 ⟨rfl, rfl⟩)
              | (go_at_call 21; with_reducible refine (HNo.out _).mono ?_; rintro e w4 ⟨rfl, hb4⟩; replace hb := below_on hb hb4)
              | (go_at_call 22; refine (HOl.out _ hb).mono ?_; rintro e w4 ⟨rfl, hb4⟩; replace hb := below_on hb hb4)
              | (go_at_call 23; refine (HNe.out _ hb).mono ?_; rintro e w4 ⟨rfl, hb4⟩; replace hb := below_on hb hb4))
            go_ret
            exact ⟨rfl, below_on hB2 hb⟩
          · clear HP2 HP3
            go_wp2_with (first
              | (go_at_call 13; with_reducible refine (HAl.out _ hb).mono ?_; rintro e w4 ⟨rfl, hb4⟩; replace hb := below_on hb hb4)
              | (go_at_call 18; refine (HAll.out _ hb).mono ?_; rintro e w4 ⟨rfl, rfl⟩)
              | (go_at_call 21; with_reducible refine (HNo.out _).mono ?_; rintro e w4 ⟨rfl, hb4⟩; replace hb := below_on hb hb4)
              | (go_at_call 22; refine (HOl.out _ hb).mono ?_; rintro e w4 ⟨rfl, hb4⟩; replace hb := below_on hb hb4)
              | (go_at_call 23; refine (HNe.out _ hb).mono ?_; rintro e w4 ⟨rfl, hb4⟩; replace hb := below_on hb hb4))
            go_ret
            exact ⟨rfl, below_on hB2 hb⟩
        · clear HP2 HP3
          go_wp2_with (first
            | (go_at_call 13; with_reducible refine (HAl.out _ hb).mono ?_; rintro e w4 ⟨rfl, hb4⟩; replace hb := below_on hb hb4)
            | (go_at_call 18; refine (HAll.out _ hb).mono ?_; rintro e w4 ⟨rfl, rfl⟩)
            | (go_at_call 21; with_reducible refine (HNo.out _).mono ?_; rintro e w4 ⟨rfl, hb4⟩; replace hb := below_on hb hb4)
            | (go_at_call 22; refine (HOl.out _ hb).mono ?_; rintro e w4 ⟨rfl, hb4⟩; replace hb := below_on hb hb4)
            | (go_at_call 23; refine (HNe.out _ hb).mono ?_; rintro e w4 ⟨rfl, hb4⟩; replace hb := below_on hb hb4))
          go_ret
          exact ⟨rfl, below_on hB2 hb⟩
end Go.Proofs.YtpcckanhmdlahaaDoor.Q
