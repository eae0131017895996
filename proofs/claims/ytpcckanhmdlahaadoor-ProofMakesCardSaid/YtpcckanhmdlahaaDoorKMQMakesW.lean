/- The walk of the statement of paths and steps that are made: whatever row, place and number, it answers true. -/
import Derived.Test.YtpcckanhmdlahaaDoorK8
namespace Go.Proofs.YtpcckanhmdlahaaDoor.Q
open Go.RowKit Go.Sort Go.Proofs.YtpcckanhmdlahaaDoor.U Go.Proofs.YtpcckanhmdlahaaDoor.R
set_option maxRecDepth 100000

set_option maxHeartbeats 6400000 in
theorem makesQ_walk (ok : ProofOk) (v : Value) (l : List (List UInt8)) (i m : Int) (W : World) (hi : (Lit.int .i64 i).wf = true) (hm : (Lit.int .i64 m).wf = true) (hs : Strs W v l) (hx : ∀ x ∈ l, x.length ≤ maxLen) (hT : Tab W) (hZ : Tz W) :
    Calls Tryd.prog 3 #[v, .int .i64 i, .int .i64 m] W fun e w' => e = .returned (.bool true) ∧ Below W.heap.size W w' := by
  obtain ⟨hi1, hi2⟩ := wf_range hi
  obtain ⟨hm1, hm2⟩ := wf_range hm
  have HF := Lib.hid (fewQ_any W v l hs hx)
  have HT := Lib.hid hT
  have HZ := Lib.hid hZ
  clear hZ
  have h50 := fewQ_length l
  have h40 : Hid (∀ x ∈ fewQ l, x.length ≤ 100) := Lib.hid (fun x hx => by have := fewQ_part hx; omega)
  have hmx := Lib.hid (fewQ_max l)
  have HOk := Lib.hid ok
  obtain ⟨ao, c0, hv, _⟩ := id hs
  subst hv
  clear hx hT hi hm hs ok
  go_enter Tryd.func3, Tryd.ntmps3
  go_upto_region 2 with (go_at_call 9; refine HF.out.mono ?_; rintro e w1 ⟨v1, rfl, hs1, hB⟩; obtain ⟨a1, c1, hv1, _⟩ := id hs1; subst hv1)
  generalize fewQ l = L at *
  have HPa := Lib.hid (fun w (hb : Below w1.heap.size w1 w) => HOk.out.path w _ L i hi1 hi2 (hs1.below hb) (by omega) h40.out ((HT.out.below hB).below hb))
  have HSt := Lib.hid (fun w (hb : Below w1.heap.size w1 w) => HOk.out.step w _ L m hm1 hm2 (hs1.below hb) (by omega) h40.out ((HT.out.below hB).below hb) ((HZ.out.below hB).below hb))
  obtain ⟨PA, hPA⟩ : ∃ PA, pathA L i = PA := ⟨_, rfl⟩
  obtain ⟨PE, hPE⟩ : ∃ PE, pathE L i = PE := ⟨_, rfl⟩
  obtain ⟨SA, hSA⟩ : ∃ SA, stepA L m = SA := ⟨_, rfl⟩
  obtain ⟨SE, hSE⟩ : ∃ SE, stepE L m = SE := ⟨_, rfl⟩
  rw [hPA, hPE] at HPa
  rw [hSA, hSE] at HSt
  have HPA := Lib.hid hPA
  have HPE := Lib.hid hPE
  have HSA := Lib.hid hSA
  have HSE := Lib.hid hSE
  clear hPA hPE hSA hSE HF
  go_upto_region 4 with (first
    | (go_at_call 10; refine (HPa.out _ (Below.refl _ _)).mono ?_; rintro e w2 ⟨a2, c2, rfl, hs2, hb2⟩)
    | (go_at_call 11; refine (HSt.out _ hb2).mono ?_; rintro e w3 ⟨a3, c3, rfl, hs3, hb3⟩))
  have hb := below_on hb2 hb3
  have HS1 := Lib.hid (hs1.below hb)
  have HS2 := Lib.hid (hs2.below hb3)
  have HS3 := Lib.hid hs3
  have hB3 := below_on hB hb
  have HRi := Lib.hid (fun w (hb : Below w3.heap.size w3 w) => refRight_any w _ L (HS1.out.below hb) hmx.out)
  have HAl := Lib.hid (fun w (hb : Below w3.heap.size w3 w) => aliveQ_any HOk.out w ((HT.out.below hB3).below hb))
  have HSame := Lib.hid (fun w v (hb : Below w3.heap.size w3 w) (h : Strs w v PA) => same_any w _ _ PA PA (HS2.out.below hb) h)
  have HSamS := Lib.hid (fun w v (hb : Below w3.heap.size w3 w) (h : Strs w v SA) => same_any w _ _ SA SA (HS3.out.below hb) h)
  simp only at HSame HSamS
  clear hs1 hs2 hs3 hb2 hb3 HPa HSt hB hb
  have hb := Below.refl w3.heap.size w3
  cases hr : rowB L with
  | false =>
    have hp0 := pathA_no (l := L) (i := i) (by unfold pathOkB; rw [hr]; rfl)
    have hq0 := stepA_no (l := L) (m := m) (by unfold stepOkB; rw [hr]; rfl)
    obtain rfl : PA = [] := HPA.out.symm.trans hp0.1
    obtain rfl : PE = 1 := HPE.out.symm.trans hp0.2
    obtain rfl : SA = [] := HSA.out.symm.trans hq0.1
    obtain rfl : SE = 1 := HSE.out.symm.trans hq0.2
    rw [hr] at HRi
    clear HPA HPE HSA HSE hp0 hq0 hr
    go_wp2_with (first
      | (go_at_call 12; with_reducible refine (HRi.out _ hb).mono ?_; rintro e w4 ⟨rfl, rfl⟩)
      | (go_at_call 13; with_reducible refine (HAl.out _ hb).mono ?_; rintro e w4 ⟨rfl, hb4⟩; replace hb := below_on hb hb4))
    go_ret
    exact ⟨rfl, below_on hB3 hb⟩
  | true =>
    rw [hr] at HRi
    have hrow := rowB_of hr
    have HRP : Hid (∀ k : Nat, i = (k : Int) → k < L.length → PA = (pathT nd e0 L k).reverse ∧ PE = 0) := Lib.hid (fun k hk hl => by
      have h := pathA_yes hr hl
      rw [← hk, HPA.out, HPE.out] at h
      exact h)
    have HRS : Hid (∀ k : Nat, m = (k : Int) → 1 ≤ k → k ≤ L.length → SA = (stepT nd e0 L k true).reverse ∧ SE = 0) := Lib.hid (fun k hk h1 hl => by
      have h := stepA_yes hr h1 hl
      rw [← hk, HSA.out, HSE.out] at h
      exact h)
    have HR0 : Hid (m = 0 → SA = [] ∧ SE = 0) := Lib.hid (fun h0 => by
      subst h0
      have h := stepA_zero hr
      rw [HSA.out, HSE.out] at h
      exact h)
    have HPn : Hid (¬ (0 ≤ i ∧ i < (L.length : Int)) → PA = [] ∧ PE = 1) := Lib.hid (fun hn => by
      have h := pathA_no (l := L) (i := i) (by unfold pathOkB; rw [hr]; simp; omega)
      rw [HPA.out, HPE.out] at h
      exact h)
    have HSn : Hid (¬ (0 ≤ m ∧ m ≤ (L.length : Int)) → SA = [] ∧ SE = 1) := Lib.hid (fun hn => by
      have h := stepA_no (l := L) (m := m) (by unfold stepOkB; rw [hr]; simp; omega)
      rw [HSA.out, HSE.out] at h
      exact h)
    have HXp := Lib.hid (fun (k : Nat) (hk : k < L.length) w (hb : Below w3.heap.size w3 w) => refPath_small L.length L k w _ (Nat.le_refl _) hrow.1 hrow.2 hk (HS1.out.below hb))
    have HXs := Lib.hid (fun (k : Nat) (h1 : 1 ≤ k) (hk : k ≤ L.length) w (hb : Below w3.heap.size w3 w) => refStep_small L.length L k true w _ (Nat.le_refl _) hrow.1 hrow.2 h1 hk (HS1.out.below hb))
    clear HPA HPE HSA HSE hr hrow
    rcases Int.lt_or_le i 0 with hi0 | hi0
    · obtain ⟨rfl, rfl⟩ := HPn.out (by omega)
      rcases Int.lt_or_le m 0 with hm0 | hm0
      · obtain ⟨rfl, rfl⟩ := HSn.out (by omega)
        clear HPn HSn HRP HRS HR0 HXp HXs
        go_wp2_with (first
          | (go_at_call 12; with_reducible refine (HRi.out _ hb).mono ?_; rintro e w4 ⟨rfl, rfl⟩)
          | (go_at_call 13; with_reducible refine (HAl.out _ hb).mono ?_; rintro e w4 ⟨rfl, hb4⟩; replace hb := below_on hb hb4))
        go_ret
        exact ⟨rfl, below_on hB3 hb⟩
      · rcases Int.lt_or_le (L.length : Int) m with hml | hml
        · obtain ⟨rfl, rfl⟩ := HSn.out (by omega)
          clear HPn HSn HRP HRS HR0 HXp HXs
          go_wp2_with (first
            | (go_at_call 12; with_reducible refine (HRi.out _ hb).mono ?_; rintro e w4 ⟨rfl, rfl⟩)
            | (go_at_call 13; with_reducible refine (HAl.out _ hb).mono ?_; rintro e w4 ⟨rfl, hb4⟩; replace hb := below_on hb hb4))
          go_ret
          exact ⟨rfl, below_on hB3 hb⟩
        · obtain ⟨q, rfl⟩ : ∃ q : Nat, m = (q : Int) := ⟨m.toNat, (Int.toNat_of_nonneg hm0).symm⟩
          rcases Nat.eq_zero_or_pos q with hq | hq
          · subst hq
            obtain ⟨rfl, rfl⟩ := HR0.out rfl
            clear HPn HSn HRP HRS HR0 HXp HXs
            go_wp2_with (first
              | (go_at_call 12; with_reducible refine (HRi.out _ hb).mono ?_; rintro e w4 ⟨rfl, rfl⟩)
              | (go_at_call 13; with_reducible refine (HAl.out _ hb).mono ?_; rintro e w4 ⟨rfl, hb4⟩; replace hb := below_on hb hb4))
            go_ret
            exact ⟨rfl, below_on hB3 hb⟩
          · have HXs1 := Lib.hid (HXs.out q hq (by omega))
            obtain ⟨hsa, rfl⟩ := HRS.out q rfl hq (by omega)
            rw [← hsa] at HXs1
            have hq0 : ((q : Int) == 0) = false := by simp; omega
            clear hsa
            clear HPn HSn HRP HRS HR0 HXp HXs
            go_wp2_with (first
              | (go_at_call 12; with_reducible refine (HRi.out _ hb).mono ?_; rintro e w4 ⟨rfl, rfl⟩)
              | (go_at_call 13; with_reducible refine (HAl.out _ hb).mono ?_; rintro e w4 ⟨rfl, hb4⟩; replace hb := below_on hb hb4)
              | (go_at_call 16; refine (HXs1.out _ hb).mono ?_; rintro e w7 ⟨a7, c7, rfl, ho7, hb7⟩; replace hb := below_on hb hb7)
              | (go_at_call 14; with_reducible refine (HSamS.out _ _ hb ho7.strs).mono ?_; rintro e w8 ⟨rfl, hb8⟩; replace hb := below_on hb hb8))
            go_ret
            exact ⟨rfl, below_on hB3 hb⟩
    · rcases Int.lt_or_le i (L.length : Int) with hil | hil
      · obtain ⟨k, rfl⟩ : ∃ k : Nat, i = (k : Int) := ⟨i.toNat, (Int.toNat_of_nonneg hi0).symm⟩
        have HXp1 := Lib.hid (HXp.out k (by omega))
        obtain ⟨hpa, rfl⟩ := HRP.out k rfl (by omega)
        rw [← hpa] at HXp1
        clear hpa
        rcases Int.lt_or_le m 0 with hm0 | hm0
        · obtain ⟨rfl, rfl⟩ := HSn.out (by omega)
          clear HPn HSn HRP HRS HR0 HXp HXs
          go_wp2_with (first
            | (go_at_call 12; with_reducible refine (HRi.out _ hb).mono ?_; rintro e w4 ⟨rfl, rfl⟩)
            | (go_at_call 13; with_reducible refine (HAl.out _ hb).mono ?_; rintro e w4 ⟨rfl, hb4⟩; replace hb := below_on hb hb4)
            | (go_at_call 15; refine (HXp1.out _ hb).mono ?_; rintro e w5 ⟨a5, c5, rfl, ho5, hb5⟩; replace hb := below_on hb hb5)
            | (go_at_call 14; with_reducible refine (HSame.out _ _ hb ho5.strs).mono ?_; rintro e w6 ⟨rfl, hb6⟩; replace hb := below_on hb hb6))
          go_ret
          exact ⟨rfl, below_on hB3 hb⟩
        · rcases Int.lt_or_le (L.length : Int) m with hml | hml
          · obtain ⟨rfl, rfl⟩ := HSn.out (by omega)
            clear HPn HSn HRP HRS HR0 HXp HXs
            go_wp2_with (first
              | (go_at_call 12; with_reducible refine (HRi.out _ hb).mono ?_; rintro e w4 ⟨rfl, rfl⟩)
              | (go_at_call 13; with_reducible refine (HAl.out _ hb).mono ?_; rintro e w4 ⟨rfl, hb4⟩; replace hb := below_on hb hb4)
              | (go_at_call 15; refine (HXp1.out _ hb).mono ?_; rintro e w5 ⟨a5, c5, rfl, ho5, hb5⟩; replace hb := below_on hb hb5)
              | (go_at_call 14; with_reducible refine (HSame.out _ _ hb ho5.strs).mono ?_; rintro e w6 ⟨rfl, hb6⟩; replace hb := below_on hb hb6))
            go_ret
            exact ⟨rfl, below_on hB3 hb⟩
          · obtain ⟨q, rfl⟩ : ∃ q : Nat, m = (q : Int) := ⟨m.toNat, (Int.toNat_of_nonneg hm0).symm⟩
            rcases Nat.eq_zero_or_pos q with hq | hq
            · subst hq
              obtain ⟨rfl, rfl⟩ := HR0.out rfl
              clear HPn HSn HRP HRS HR0 HXp HXs
              go_wp2_with (first
                | (go_at_call 12; with_reducible refine (HRi.out _ hb).mono ?_; rintro e w4 ⟨rfl, rfl⟩)
                | (go_at_call 13; with_reducible refine (HAl.out _ hb).mono ?_; rintro e w4 ⟨rfl, hb4⟩; replace hb := below_on hb hb4)
                | (go_at_call 15; refine (HXp1.out _ hb).mono ?_; rintro e w5 ⟨a5, c5, rfl, ho5, hb5⟩; replace hb := below_on hb hb5)
                | (go_at_call 14; with_reducible refine (HSame.out _ _ hb ho5.strs).mono ?_; rintro e w6 ⟨rfl, hb6⟩; replace hb := below_on hb hb6))
              go_ret
              exact ⟨rfl, below_on hB3 hb⟩
            · have HXs1 := Lib.hid (HXs.out q hq (by omega))
              obtain ⟨hsa, rfl⟩ := HRS.out q rfl hq (by omega)
              rw [← hsa] at HXs1
              have hq0 : ((q : Int) == 0) = false := by simp; omega
              clear hsa
              clear HPn HSn HRP HRS HR0 HXp HXs
              go_wp2_with (first
                | (go_at_call 12; with_reducible refine (HRi.out _ hb).mono ?_; rintro e w4 ⟨rfl, rfl⟩)
                | (go_at_call 13; with_reducible refine (HAl.out _ hb).mono ?_; rintro e w4 ⟨rfl, hb4⟩; replace hb := below_on hb hb4)
                | (go_at_call 15; refine (HXp1.out _ hb).mono ?_; rintro e w5 ⟨a5, c5, rfl, ho5, hb5⟩; replace hb := below_on hb hb5)
                | (go_at_call 14; with_reducible refine (HSame.out _ _ hb ho5.strs).mono ?_; rintro e w6 ⟨rfl, hb6⟩; replace hb := below_on hb hb6)
                | (go_at_call 16; refine (HXs1.out _ hb).mono ?_; rintro e w7 ⟨a7, c7, rfl, ho7, hb7⟩; replace hb := below_on hb hb7)
                | (go_at_call 14; with_reducible refine (HSamS.out _ _ hb ho7.strs).mono ?_; rintro e w8 ⟨rfl, hb8⟩; replace hb := below_on hb hb8))
              go_ret
              exact ⟨rfl, below_on hB3 hb⟩
      · obtain ⟨rfl, rfl⟩ := HPn.out (by omega)
        rcases Int.lt_or_le m 0 with hm0 | hm0
        · obtain ⟨rfl, rfl⟩ := HSn.out (by omega)
          clear HPn HSn HRP HRS HR0 HXp HXs
          go_wp2_with (first
            | (go_at_call 12; with_reducible refine (HRi.out _ hb).mono ?_; rintro e w4 ⟨rfl, rfl⟩)
            | (go_at_call 13; with_reducible refine (HAl.out _ hb).mono ?_; rintro e w4 ⟨rfl, hb4⟩; replace hb := below_on hb hb4))
          go_ret
          exact ⟨rfl, below_on hB3 hb⟩
        · rcases Int.lt_or_le (L.length : Int) m with hml | hml
          · obtain ⟨rfl, rfl⟩ := HSn.out (by omega)
            clear HPn HSn HRP HRS HR0 HXp HXs
            go_wp2_with (first
              | (go_at_call 12; with_reducible refine (HRi.out _ hb).mono ?_; rintro e w4 ⟨rfl, rfl⟩)
              | (go_at_call 13; with_reducible refine (HAl.out _ hb).mono ?_; rintro e w4 ⟨rfl, hb4⟩; replace hb := below_on hb hb4))
            go_ret
            exact ⟨rfl, below_on hB3 hb⟩
          · obtain ⟨q, rfl⟩ : ∃ q : Nat, m = (q : Int) := ⟨m.toNat, (Int.toNat_of_nonneg hm0).symm⟩
            rcases Nat.eq_zero_or_pos q with hq | hq
            · subst hq
              obtain ⟨rfl, rfl⟩ := HR0.out rfl
              clear HPn HSn HRP HRS HR0 HXp HXs
              go_wp2_with (first
                | (go_at_call 12; with_reducible refine (HRi.out _ hb).mono ?_; rintro e w4 ⟨rfl, rfl⟩)
                | (go_at_call 13; with_reducible refine (HAl.out _ hb).mono ?_; rintro e w4 ⟨rfl, hb4⟩; replace hb := below_on hb hb4))
              go_ret
              exact ⟨rfl, below_on hB3 hb⟩
            · have HXs1 := Lib.hid (HXs.out q hq (by omega))
              obtain ⟨hsa, rfl⟩ := HRS.out q rfl hq (by omega)
              rw [← hsa] at HXs1
              have hq0 : ((q : Int) == 0) = false := by simp; omega
              clear hsa
              clear HPn HSn HRP HRS HR0 HXp HXs
              go_wp2_with (first
                | (go_at_call 12; with_reducible refine (HRi.out _ hb).mono ?_; rintro e w4 ⟨rfl, rfl⟩)
                | (go_at_call 13; with_reducible refine (HAl.out _ hb).mono ?_; rintro e w4 ⟨rfl, hb4⟩; replace hb := below_on hb hb4)
                | (go_at_call 16; refine (HXs1.out _ hb).mono ?_; rintro e w7 ⟨a7, c7, rfl, ho7, hb7⟩; replace hb := below_on hb hb7)
                | (go_at_call 14; with_reducible refine (HSamS.out _ _ hb ho7.strs).mono ?_; rintro e w8 ⟨rfl, hb8⟩; replace hb := below_on hb hb8))
              go_ret
              exact ⟨rfl, below_on hB3 hb⟩
end Go.Proofs.YtpcckanhmdlahaaDoor.Q
