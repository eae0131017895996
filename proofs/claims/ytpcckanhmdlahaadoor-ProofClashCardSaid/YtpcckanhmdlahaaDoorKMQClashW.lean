/- The walk of the statement of two unlike texts of one sum: whatever comes, it answers true. -/
import Derived.Test.YtpcckanhmdlahaaDoorK8
namespace Go.Proofs.YtpcckanhmdlahaaDoor.Q
open Go.RowKit Go.Sort Go.Proofs.YtpcckanhmdlahaaDoor.U Go.Proofs.YtpcckanhmdlahaaDoor.R
set_option maxRecDepth 100000

set_option maxHeartbeats 6400000 in
theorem clashQ_walk (ok : ProofOk) (a b : List UInt8) (i n : Int) (v : Value) (l1 : List (List UInt8)) (u : Value) (l2 : List (List UInt8)) (W : World) (hla : a.length ≤ maxLen) (hlb : b.length ≤ maxLen) (hi : (Lit.int .i64 i).wf = true) (hn : (Lit.int .i64 n).wf = true) (hs : Strs W v l1) (hx : ∀ x ∈ l1, x.length ≤ maxLen) (ht : Strs W u l2) (hy : ∀ x ∈ l2, x.length ≤ maxLen) (hT : Tab W) :
    Calls Tryd.prog 7 #[.string (bytesOf a), .string (bytesOf b), .int .i64 i, .int .i64 n, v, u] W fun e w' => e = .returned (.bool true) ∧ Below W.heap.size W w' := by
  obtain ⟨hi1, hi2⟩ := wf_range hi
  obtain ⟨hn1, hn2⟩ := wf_range hn
  have HF1 := Lib.hid (fewQ_any W v l1 hs hx)
  have HF2 := Lib.hid (fun w (hb : Below W.heap.size W w) => fewQ_any w u l2 (ht.below hb) hy)
  have HT := Lib.hid hT
  have h50 := fewQ_length l1
  have k50 := fewQ_length l2
  have h40 : Hid (∀ x ∈ fewQ l1, x.length ≤ 100) := Lib.hid (fun x hx => by have := fewQ_part hx; omega)
  have k40 : Hid (∀ x ∈ fewQ l2, x.length ≤ 100) := Lib.hid (fun x hx => by have := fewQ_part hx; omega)
  have hmx := Lib.hid (fewQ_max l1)
  have kmx := Lib.hid (fewQ_max l2)
  have HOk := Lib.hid ok
  obtain ⟨ao, c0, hv, _⟩ := id hs
  subst hv
  obtain ⟨bo, d0, hv, _⟩ := id ht
  subst hv
  unfold maxLen at hla hlb
  clear hx hy hT hi hn hs ht ok
  go_enter Tryd.func7, Tryd.ntmps7
  go_upto_region 2 with (first
    | (go_at_call 9; refine (HF2.out _ hB0).mono ?_; rintro e w1 ⟨v2, rfl, ht1, hb1⟩; obtain ⟨a2, c2, hv2, _⟩ := id ht1; subst hv2; replace hs1 := hs1.below hb1; have hB := below_on hB0 hb1)
    | (go_at_call 9; refine HF1.out.mono ?_; rintro e w0 ⟨v1, rfl, hs1, hB0⟩; obtain ⟨a1, c1, hv1, _⟩ := id hs1; subst hv1))
  generalize fewQ l1 = L at *
  generalize fewQ l2 = M at *
  refine wp_held_calm (S := fun w' => Below w1.heap.size w1 w') 12 rfl (by kernel_rfl) ?_
  have hBd : Below w1.heap.size w1 { w1 with drawn := w1.drawn + 1 } := (Below.refl _ _).drew
  generalize ({ w1 with drawn := w1.drawn + 1 } : World) = wd at *
  refine held_put 0 25 (.string (bytesOf a)) rfl rfl (by kernel_rfl) (by kernel_rfl) (by kernel_rfl) (by kernel_rfl) (fun w hS => rfl) hBd ?_
  simp only [List.setIfInBounds_toArray, List.set_cons_succ, List.set_cons_zero]
  refine held_put 1 26 (.string (bytesOf a)) rfl rfl (by kernel_rfl) (by kernel_rfl) (by kernel_rfl) (by kernel_rfl) (fun w hS => rfl) hBd ?_
  simp only [List.setIfInBounds_toArray, List.set_cons_succ, List.set_cons_zero]
  refine held_put 2 27 (.int .i64 (a.length : Int)) rfl rfl (by kernel_rfl) (by kernel_rfl) (by kernel_rfl) (by kernel_rfl) (fun w hS => run_lenS a rfl w) hBd ?_
  simp only [List.setIfInBounds_toArray, List.set_cons_succ, List.set_cons_zero]
  refine held_put 3 28 (.int .i64 (min (a.length : Int) 40)) rfl rfl (by kernel_rfl) (by kernel_rfl) (by kernel_rfl) (by kernel_rfl) (fun w hS => run_minI _ _ rfl w) hBd ?_
  simp only [List.setIfInBounds_toArray, List.set_cons_succ, List.set_cons_zero]
  refine held_put 4 29 (.string (bytesOf (a.take 40))) rfl rfl (by kernel_rfl) (by kernel_rfl) (by kernel_rfl) (by kernel_rfl) (fun w hS => run_cutS a 40 rfl rfl w) hBd ?_
  simp only [List.setIfInBounds_toArray, List.set_cons_succ, List.set_cons_zero]
  refine held_put 5 30 (.string (bytesOf b)) rfl rfl (by kernel_rfl) (by kernel_rfl) (by kernel_rfl) (by kernel_rfl) (fun w hS => rfl) hBd ?_
  simp only [List.setIfInBounds_toArray, List.set_cons_succ, List.set_cons_zero]
  refine held_put 6 31 (.string (bytesOf b)) rfl rfl (by kernel_rfl) (by kernel_rfl) (by kernel_rfl) (by kernel_rfl) (fun w hS => rfl) hBd ?_
  simp only [List.setIfInBounds_toArray, List.set_cons_succ, List.set_cons_zero]
  refine held_put 7 32 (.int .i64 (b.length : Int)) rfl rfl (by kernel_rfl) (by kernel_rfl) (by kernel_rfl) (by kernel_rfl) (fun w hS => run_lenS b rfl w) hBd ?_
  simp only [List.setIfInBounds_toArray, List.set_cons_succ, List.set_cons_zero]
  refine held_put 8 33 (.int .i64 (min (b.length : Int) 40)) rfl rfl (by kernel_rfl) (by kernel_rfl) (by kernel_rfl) (by kernel_rfl) (fun w hS => run_minI _ _ rfl w) hBd ?_
  simp only [List.setIfInBounds_toArray, List.set_cons_succ, List.set_cons_zero]
  refine held_put 9 34 (.string (bytesOf (b.take 40))) rfl rfl (by kernel_rfl) (by kernel_rfl) (by kernel_rfl) (by kernel_rfl) (fun w hS => run_cutS b 40 rfl rfl w) hBd ?_
  simp only [List.setIfInBounds_toArray, List.set_cons_succ, List.set_cons_zero]
  refine held_one 10 (by kernel_rfl) (wpOp_put 0 (v := .string (bytesOf (a.take 40))) rfl rfl (by kernel_rfl) rfl ⟨hBd, ?_⟩)
  simp only [List.setIfInBounds_toArray, List.set_cons_zero]
  refine held_one 11 (by kernel_rfl) (wpOp_put 1 (v := .string (bytesOf (b.take 40))) rfl rfl (by kernel_rfl) rfl ⟨hBd, ?_⟩)
  simp only [List.setIfInBounds_toArray, List.set_cons_succ, List.set_cons_zero]
  refine held_done (by kernel_rfl) ?_
  have hX40 : (a.take 40).length ≤ 100 := by rw [List.length_take]; omega
  have hR40 : (b.take 40).length ≤ 100 := by rw [List.length_take]; omega
  generalize a.take 40 = X at *
  generalize b.take 40 = R at *
  have HCl0 := HOk.out.clash wd _ _ X R i n L M hi1 hi2 hn1 hn2 hX40 hR40 (hs1.below hBd) (by omega) h40.out (ht1.below hBd) (by omega) k40.out ((HT.out.below hB).below hBd)
  obtain ⟨SX, SY, CE, hC1, hC2, hC3⟩ : ∃ (SX SY : ByteArray) (CE : Int), bytesOf (clashR X R i n L M).1 = SX ∧ bytesOf (clashR X R i n L M).2.1 = SY ∧ (clashR X R i n L M).2.2 = CE := ⟨_, _, _, rfl, rfl, rfl⟩
  rw [hC1, hC2, hC3] at HCl0
  have HCl := Lib.hid HCl0
  have HC : Hid (∀ t, clashR X R i n L M = t → SX = bytesOf t.1 ∧ SY = bytesOf t.2.1 ∧ CE = t.2.2) := Lib.hid (fun t ht => by subst ht; exact ⟨hC1.symm, hC2.symm, hC3.symm⟩)
  clear hC1 hC2 hC3 HCl0 HF1 HF2
  go_upto_region 4 with (go_at_call 25; refine HCl.out.mono ?_; rintro e w2 ⟨rfl, hb2⟩)
  have hb12 := below_on hBd hb2
  have HS1 := Lib.hid (hs1.below hb12)
  have HT1 := Lib.hid (ht1.below hb12)
  have hB2 := below_on hB hb12
  have HAl := Lib.hid (fun w (hb : Below w2.heap.size w2 w) => aliveQ_any HOk.out w ((HT.out.below hB2).below hb))
  have HAll := Lib.hid (fun w (hb : Below w2.heap.size w2 w) => refAll_any w _ L (HS1.out.below hb) hmx.out)
  have HAlm := Lib.hid (fun w (hb : Below w2.heap.size w2 w) => refAll_any w _ M (HT1.out.below hb) kmx.out)
  clear hs1 ht1 hB hb2 hBd HCl hb12 hB0 hb1
  have hb := Below.refl w2.heap.size w2
  have hzX : ((bytesOf X).size : Int) = (X.length : Int) := by rw [bytes_size]
  have hzR : ((bytesOf R).size : Int) = (R.length : Int) := by rw [bytes_size]
  rcases Int.lt_or_le i 0 with hi0 | hi0
  · obtain ⟨rfl, rfl, rfl⟩ := HC.out _ (clashR_no (by unfold clashOkB; rw [decide_eq_false (show ¬ (0 ≤ i) by omega)]; simp))
    clear HC HAll HAlm HS1 HT1
    simp only [bytes_nil]
    go_wp2_with (first
      | (go_at_call 13; with_reducible refine (HAl.out _ hb).mono ?_; rintro e w4 ⟨rfl, hb4⟩; replace hb := below_on hb hb4))
    go_ret
    exact ⟨rfl, below_on hB2 hb⟩
  rcases Int.lt_or_le i n with hin | hin
  case inr =>
    obtain ⟨rfl, rfl, rfl⟩ := HC.out _ (clashR_no (by unfold clashOkB; rw [decide_eq_false (show ¬ (i < n) by omega)]; simp))
    clear HC HAll HAlm HS1 HT1
    simp only [bytes_nil]
    go_wp2_with (first
      | (go_at_call 13; with_reducible refine (HAl.out _ hb).mono ?_; rintro e w4 ⟨rfl, hb4⟩; replace hb := below_on hb hb4))
    go_ret
    exact ⟨rfl, below_on hB2 hb⟩
  rcases Int.lt_or_le 4096 n with hn4 | hn4
  · obtain ⟨rfl, rfl, rfl⟩ := HC.out _ (clashR_no (by unfold clashOkB; rw [decide_eq_false (show ¬ (n ≤ 4096) by omega)]; simp))
    clear HC HAll HAlm HS1 HT1
    simp only [bytes_nil]
    go_wp2_with (first
      | (go_at_call 13; with_reducible refine (HAl.out _ hb).mono ?_; rintro e w4 ⟨rfl, hb4⟩; replace hb := below_on hb hb4))
    go_ret
    exact ⟨rfl, below_on hB2 hb⟩
  by_cases hX : X.length = 32
  case neg =>
    have hX2 : ((X.length : Int) != 32) = true := by simp; omega
    obtain ⟨rfl, rfl, rfl⟩ := HC.out _ (clashR_no (by unfold clashOkB; rw [decide_eq_false hX]; simp))
    clear HC HAll HAlm HS1 HT1
    simp only [bytes_nil]
    go_wp2_with (first
      | (go_at_call 13; with_reducible refine (HAl.out _ hb).mono ?_; rintro e w4 ⟨rfl, hb4⟩; replace hb := below_on hb hb4))
    go_ret
    exact ⟨rfl, below_on hB2 hb⟩
  have hX2 : ((X.length : Int) != 32) = false := by simp; omega
  by_cases hR : R.length = 32
  case neg =>
    have hR2 : ((R.length : Int) != 32) = true := by simp; omega
    obtain ⟨rfl, rfl, rfl⟩ := HC.out _ (clashR_no (by unfold clashOkB; rw [decide_eq_false hR]; simp))
    clear HC HAll HAlm HS1 HT1
    simp only [bytes_nil]
    go_wp2_with (first
      | (go_at_call 13; with_reducible refine (HAl.out _ hb).mono ?_; rintro e w4 ⟨rfl, hb4⟩; replace hb := below_on hb hb4))
    go_ret
    exact ⟨rfl, below_on hB2 hb⟩
  have hR2 : ((R.length : Int) != 32) = false := by simp; omega
  cases hall : allB L with
  | false =>
    rw [hall] at HAll
    obtain ⟨rfl, rfl, rfl⟩ := HC.out _ (clashR_no (by unfold clashOkB; rw [hall]; simp))
    clear HC hall HS1 HT1 HAlm
    simp only [bytes_nil]
    go_wp2_with (first
      | (go_at_call 13; with_reducible refine (HAl.out _ hb).mono ?_; rintro e w4 ⟨rfl, hb4⟩; replace hb := below_on hb hb4)
      | (go_at_call 18; with_reducible refine (HAll.out _ hb).mono ?_; rintro e w4 ⟨rfl, rfl⟩))
    go_ret
    exact ⟨rfl, below_on hB2 hb⟩
  | true =>
    rw [hall] at HAll
    cases halm : allB M with
    | false =>
      rw [halm] at HAlm
      obtain ⟨rfl, rfl, rfl⟩ := HC.out _ (clashR_no (by unfold clashOkB; rw [halm]; simp))
      clear HC hall HS1 HT1 halm
      simp only [bytes_nil]
      go_wp2_with (first
        | (go_at_call 13; with_reducible refine (HAl.out _ hb).mono ?_; rintro e w4 ⟨rfl, hb4⟩; replace hb := below_on hb hb4)
        | (go_at_call 18; with_reducible refine (HAll.out _ hb).mono ?_; rintro e w4 ⟨rfl, rfl⟩)
        | (go_at_call 18; with_reducible refine (HAlm.out _ hb).mono ?_; rintro e w4 ⟨rfl, rfl⟩))
      go_ret
      exact ⟨rfl, below_on hB2 hb⟩
    | true =>
      rw [halm] at HAlm
      obtain ⟨k, rfl⟩ : ∃ k : Nat, i = (k : Int) := ⟨i.toNat, (Int.toNat_of_nonneg hi0).symm⟩
      obtain ⟨q, rfl⟩ : ∃ q : Nat, n = (q : Int) := ⟨n.toNat, (Int.toNat_of_nonneg (by omega)).symm⟩
      have hOk := clashOkB_yes (show k < q by omega) (by omega) hX hR hall halm
      have hL32 : ∀ y ∈ L.reverse, y.length = 32 := fun y hy => allB_mem hall (List.mem_reverse.1 hy)
      have hM32 : ∀ y ∈ M.reverse, y.length = 32 := fun y hy => allB_mem halm (List.mem_reverse.1 hy)
      have HM1 := Lib.hid (fun w (hb : Below w2.heap.size w2 w) => refMakes_any L.reverse X k q w _ (by omega) (by omega) hX hL32 (by rw [List.length_reverse]; omega) (by rw [List.reverse_reverse]; exact HS1.out.below hb))
      have HM2 := Lib.hid (fun w (hb : Below w2.heap.size w2 w) => refMakes_any M.reverse R k q w _ (by omega) (by omega) hR hM32 (by rw [List.length_reverse]; omega) (by rw [List.reverse_reverse]; exact HT1.out.below hb))
      by_cases hXR : X = R
      · obtain ⟨rfl, rfl, rfl⟩ := HC.out _ (clashR_none hOk (fun h => h.1 hXR))
        subst hXR
        clear HC hall HS1 HT1 halm hOk hL32 hM32
        simp only [bytes_nil]
        go_wp2_with (first
          | (go_at_call 13; with_reducible refine (HAl.out _ hb).mono ?_; rintro e w4 ⟨rfl, hb4⟩; replace hb := below_on hb hb4)
          | (go_at_call 18; with_reducible refine (HAll.out _ hb).mono ?_; rintro e w4 ⟨rfl, rfl⟩)
          | (go_at_call 18; with_reducible refine (HAlm.out _ hb).mono ?_; rintro e w4 ⟨rfl, rfl⟩)
          | (go_at_call 19; with_reducible refine (HM1.out _ hb).mono ?_; rintro e w4 ⟨rfl, hb4⟩; replace hb := below_on hb hb4)
          | (go_at_call 19; with_reducible refine (HM2.out _ hb).mono ?_; rintro e w4 ⟨rfl, hb4⟩; replace hb := below_on hb hb4))
        go_ret
        exact ⟨rfl, below_on hB2 hb⟩
      · have hxne := toList_ne hXR
        cases hmk : mkP nd X L.reverse k q with
        | none =>
          obtain ⟨rfl, rfl, rfl⟩ := HC.out _ (clashR_none hOk (fun h => by obtain ⟨_, s, h1, _⟩ := h; rw [hmk] at h1; cases h1))
          rw [hmk] at HM1
          unfold optB at HM1
          obtain ⟨MY, hMY⟩ : ∃ MY, optB (mkP nd R M.reverse k q) = MY := ⟨_, rfl⟩
          rw [hMY] at HM2
          clear HC hall HS1 HT1 halm hOk hL32 hM32 hmk hMY
          simp only [bytes_nil]
          go_wp2_with (first
            | (go_at_call 13; with_reducible refine (HAl.out _ hb).mono ?_; rintro e w4 ⟨rfl, hb4⟩; replace hb := below_on hb hb4)
            | (go_at_call 18; with_reducible refine (HAll.out _ hb).mono ?_; rintro e w4 ⟨rfl, rfl⟩)
            | (go_at_call 18; with_reducible refine (HAlm.out _ hb).mono ?_; rintro e w4 ⟨rfl, rfl⟩)
            | (go_at_call 19; with_reducible refine (HM1.out _ hb).mono ?_; rintro e w4 ⟨rfl, hb4⟩; replace hb := below_on hb hb4)
            | (go_at_call 19; with_reducible refine (HM2.out _ hb).mono ?_; rintro e w4 ⟨rfl, hb4⟩; replace hb := below_on hb hb4))
          go_ret
          exact ⟨rfl, below_on hB2 hb⟩
        | some s =>
          have hs32 := mkP_32 _ _ _ _ s hX hmk
          have hsne := bytes_ne hs32
          rw [hmk] at HM1
          unfold optB at HM1
          by_cases hms : mkP nd R M.reverse k q = some s
          · obtain ⟨j, U, V, g1, g2, g3, g4, g5, hCR⟩ := clashR_yes hOk hXR hmk hms
            obtain ⟨rfl, rfl, rfl⟩ := HC.out _ hCR
            rw [hms] at HM2
            unfold optB at HM2
            have HTx := Lib.hid (fun w (hb : Below w2.heap.size w2 w) => texts_any L.reverse X k q s w _ (by omega) (by omega) hX hL32 (by rw [List.length_reverse]; omega) hmk (by rw [List.reverse_reverse]; exact HS1.out.below hb))
            have HTy := Lib.hid (fun w (hb : Below w2.heap.size w2 w) => texts_any M.reverse R k q s w _ (by omega) (by omega) hR hM32 (by rw [List.length_reverse]; omega) hms (by rw [List.reverse_reverse]; exact HT1.out.below hb))
            have u32 := prs_32 _ _ _ _ hX hL32 U (List.mem_of_getElem? g1)
            have v32 := prs_32 _ _ _ _ hR hM32 V (List.mem_of_getElem? g2)
            have hTne : txt U ≠ txt V := fun h => g3 (txt_inj (by rw [u32.1, v32.1]) h)
            have hTT := toList_ne hTne
            have hlU : (txt U).length ≤ 100 := by unfold txt; simp; omega
            have hlV : (txt V).length ≤ 100 := by unfold txt; simp; omega
            have HSu := Lib.hid (fun w (hb : Below w2.heap.size w2 w) => sum_new w [txt U] (show 1 ≤ 1000 by decide) (by simp; omega) ((HT.out.below hB2).below hb))
            have HSv := Lib.hid (fun w (hb : Below w2.heap.size w2 w) => sum_new w [txt V] (show 1 ≤ 1000 by decide) (by simp; omega) ((HT.out.below hB2).below hb))
            rw [show [txt U].flatten = txt U by simp, sum_txt] at HSu
            rw [show [txt V].flatten = txt V by simp, sum_txt, ← g4] at HSv
            have hjU : ((prs nd X L.reverse k q).map txt)[j]? = some (txt U) := by rw [List.getElem?_map, g1]; rfl
            have hjV : ((prs nd R M.reverse k q).map txt)[j]? = some (txt V) := by rw [List.getElem?_map, g2]; rfl
            have hEq : ∀ k', k' < j → ((prs nd X L.reverse k q).map txt)[k']? = ((prs nd R M.reverse k q).map txt)[k']? := fun k' hk' => by rw [List.getElem?_map, List.getElem?_map, g5 k' hk']
            generalize nd U.1 U.2 = Z at *
            generalize txt U = tU at *
            generalize txt V = tV at *
            generalize (prs nd X L.reverse k q).map txt = PX at *
            generalize (prs nd R M.reverse k q).map txt = PY at *
            have hjX := (List.getElem?_eq_some_iff.1 hjU).1
            have hjY := (List.getElem?_eq_some_iff.1 hjV).1
            have HjU := Lib.hid hjU
            have HjV := Lib.hid hjV
            have HEq := Lib.hid hEq
            clear HC hall HS1 HT1 halm hOk hL32 hM32 hmk hms hCR g1 g2 g3 g4 g5 u32 v32 hjU hjV hEq hTne
            go_wp2_with (first
              | (go_at_call 13; with_reducible refine (HAl.out _ hb).mono ?_; rintro e w4 ⟨rfl, hb4⟩; replace hb := below_on hb hb4)
              | (go_at_call 18; with_reducible refine (HAll.out _ hb).mono ?_; rintro e w4 ⟨rfl, rfl⟩)
              | (go_at_call 18; with_reducible refine (HAlm.out _ hb).mono ?_; rintro e w4 ⟨rfl, rfl⟩)
              | (go_at_call 19; with_reducible refine (HM1.out _ hb).mono ?_; rintro e w4 ⟨rfl, hb4⟩; replace hb := below_on hb hb4)
              | (go_at_call 19; with_reducible refine (HM2.out _ hb).mono ?_; rintro e w4 ⟨rfl, hb4⟩; replace hb := below_on hb hb4)
              | (go_at_call 26; with_reducible refine (HTx.out _ hb).mono ?_; rintro e w6 ⟨a7, c7, rfl, ho7, hb7⟩; replace hb := below_on hb hb7)
              | (go_at_call 26; with_reducible refine (HTy.out _ hb).mono ?_; rintro e w7 ⟨a8, c8, rfl, ho8, hb8⟩; replace hb := below_on hb hb8))
            obtain ⟨hsx, hsy⟩ : Strs w7 (.slice a7 PX.length c7) PX ∧ Strs w7 (.slice a8 PY.length c8) PY := ⟨ho7.strs.below hb8, ho8.strs⟩
            obtain ⟨a', c', hv, hcx, hmx', -, hclx⟩ := hsx
            injection hv with e1 e2 e3
            subst e1 e3
            obtain ⟨bx, ox, rfl, hcellx⟩ := hclx (by intro h; subst h; simp at hjX)
            obtain ⟨a', c', hv, hcy, hmy', -, hcly⟩ := hsy
            injection hv with e1 e2 e3
            subst e1 e3
            obtain ⟨by', oy, rfl, hcelly⟩ := hcly (by intro h; subst h; simp at hjY)
            unfold maxLen at hmx' hmy'
            clear ho7 ho8 hb8 hclx hcly e2
            have HcX := Lib.hid hcellx
            have HcY := Lib.hid hcelly
            have hB7 := below_on hB2 hb
            have HSU := Lib.hid (fun w (hw : Below w7.heap.size w7 w) => HSu.out w (below_on hb hw))
            have HSV := Lib.hid (fun w (hw : Below w7.heap.size w7 w) => HSv.out w (below_on hb hw))
            have HA7 := Lib.hid (fun w (hw : Below w7.heap.size w7 w) => HAl.out w (below_on hb hw))
            clear hcellx hcelly HSu HSv HAl HAll HAlm HM1 HM2 HTx HTy hB2 hb hb7 hzX hzR
            go_loopw [140] (fun jv wr => ∃ k' : Nat, k' ≤ j ∧ jv = .int .i64 k' ∧ Below w7.heap.size w7 wr) (fun jv _ => j + 1 - (intOf jv).toNat)
            case atStart => exact ⟨0, Nat.zero_le _, rfl, Below.refl _ _⟩
            case round =>
              obtain ⟨k', hk', rfl, hbr⟩ := hrel
              have hkX : k' < PX.length := by omega
              have hkY : k' < PY.length := by omega
              obtain ⟨x, hxk⟩ : ∃ x, PX[k']? = some x := ⟨PX[k'], List.getElem?_eq_getElem hkX⟩
              obtain ⟨y, hyk⟩ : ∃ y, PY[k']? = some y := ⟨PY[k'], List.getElem?_eq_getElem hkY⟩
              have gx : wr.cell? ⟨bx, ox + k', none⟩ = some (.string (bytesOf x)) := by
                have h1 := HcX.out k' x hxk
                exact (hbr.cell (p := ⟨bx, ox + k', none⟩) (World.block_lt_of_cell? w7 _ h1)).trans h1
              have gy : wr.cell? ⟨by', oy + k', none⟩ = some (.string (bytesOf y)) := by
                have h1 := HcY.out k' y hyk
                exact (hbr.cell (p := ⟨by', oy + k', none⟩) (World.block_lt_of_cell? w7 _ h1)).trans h1
              have hlt : (k' : Int) < min (PX.length : Int) (PY.length : Int) := by omega
              have e0 : (0 : Int) ≤ (k' : Int) := by omega
              have e1 : (k' : Int) < (PX.length : Int) := by omega
              have e2 : (k' : Int) < (PY.length : Int) := by omega
              by_cases hkj : k' < j
              · obtain rfl : x = y := by
                  have h1 := HEq.out k' hkj
                  rw [hxk, hyk] at h1
                  exact Option.some.inj h1
                clear hxk hyk HcX HcY HjU HjV HEq HSU HSV HA7 hTT
                go_wp2_with fail
                go_quiet (fail)
                go_wp2
                go_roundw
                case rel => exact ⟨k' + 1, by omega, by go_num, below_drawn hbr _⟩
                case measure => simp [intOf]; omega
              · obtain rfl : k' = j := by omega
                obtain rfl : x = tU := Option.some.inj (hxk.symm.trans HjU.out)
                obtain rfl : y = tV := Option.some.inj (hyk.symm.trans HjV.out)
                clear hxk hyk HcX HcY HjU HjV HEq
                go_wp2_with fail
                go_quiet (fail)
                have gx2 : (World.drewN wr nq).cell? ⟨bx, ox + k', none⟩ = some (.string (bytesOf x)) := gx
                have gy2 : (World.drewN wr nq).cell? ⟨by', oy + k', none⟩ = some (.string (bytesOf y)) := gy
                have hb := below_drawn hbr nq
                clear gx gy hbr
                generalize World.drewN wr nq = wq at *
                go_wp2_with (first
                  | (go_at_call 13; refine (HA7.out _ hb).mono ?_; rintro e w9 ⟨rfl, hb9⟩; replace hb := below_on hb hb9; replace gx2 := (hb9.cell (World.block_lt_of_cell? _ _ gx2)).trans gx2; replace gy2 := (hb9.cell (World.block_lt_of_cell? _ _ gy2)).trans gy2)
                  | (go_at_call 27; first | (refine (HSU.out _ hb).mono ?_; rintro e w9 ⟨rfl, hb9⟩; replace hb := below_on hb hb9) | (refine (HSV.out _ hb).mono ?_; rintro e w9 ⟨rfl, hb9⟩; replace hb := below_on hb hb9)))
                go_ret
                exact ⟨rfl, below_on hB7 hb⟩
          · obtain ⟨rfl, rfl, rfl⟩ := HC.out _ (clashR_none hOk (fun h => by obtain ⟨_, s', h1, h2⟩ := h; rw [hmk] at h1; injection h1 with h1; subst h1; exact hms h2))
            obtain ⟨MY, hMY⟩ : ∃ MY, optB (mkP nd R M.reverse k q) = MY := ⟨_, rfl⟩
            have hMne : ((bytesOf s).toList == MY.toList) = false := by
              rw [← hMY]
              cases hm2 : mkP nd R M.reverse k q with
              | none =>
                rw [show optB none = bytesOf [] from rfl, toList_of, toList_of]
                cases s with
                | nil => cases hs32
                | cons y s => rfl
              | some s' => exact toList_ne (fun h => hms (by rw [hm2, h]))
            rw [hMY] at HM2
            clear HC hall HS1 HT1 halm hOk hL32 hM32 hmk hMY hms
            simp only [bytes_nil]
            go_wp2_with (first
              | (go_at_call 13; with_reducible refine (HAl.out _ hb).mono ?_; rintro e w4 ⟨rfl, hb4⟩; replace hb := below_on hb hb4)
              | (go_at_call 18; with_reducible refine (HAll.out _ hb).mono ?_; rintro e w4 ⟨rfl, rfl⟩)
              | (go_at_call 18; with_reducible refine (HAlm.out _ hb).mono ?_; rintro e w4 ⟨rfl, rfl⟩)
              | (go_at_call 19; with_reducible refine (HM1.out _ hb).mono ?_; rintro e w4 ⟨rfl, hb4⟩; replace hb := below_on hb hb4)
              | (go_at_call 19; with_reducible refine (HM2.out _ hb).mono ?_; rintro e w4 ⟨rfl, hb4⟩; replace hb := below_on hb hb4))
            go_ret
            exact ⟨rfl, below_on hB2 hb⟩
end Go.Proofs.YtpcckanhmdlahaaDoor.Q
