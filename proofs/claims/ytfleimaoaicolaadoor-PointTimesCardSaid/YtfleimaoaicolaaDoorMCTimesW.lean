/- What is proved: whatever number and however few the statement of a point so many times is called with, it answers true, if the points' functions keep their contracts. -/
import Derived.Test.YtfleimaoaicolaaDoorLot12
namespace Go.Proofs.YtfleimaoaicolaaDoor.C
open Go.RowKit Go.Sort Go.Proofs.YtfleimaoaicolaaDoor.F
set_option maxRecDepth 100000
attribute [local irreducible] feA ptA

theorem next_word {l : List Nat} {i A : Nat} (hl : i < l.length) (h : valK l + 18446744073709551616 ^ i = A) :
    (l.getD i 0 + 1 < 18446744073709551616 → valK (l.set i (l.getD i 0 + 1)) = A) ∧ (l.getD i 0 + 1 = 18446744073709551616 → valK (l.set i 0) + 18446744073709551616 ^ (i + 1) = A) := by
  have h1 := valK_set l i (l.getD i 0 + 1) hl
  have h2 := valK_set l i 0 hl
  rw [Nat.mul_add, Nat.mul_one] at h1
  refine ⟨fun _ => by omega, fun e => ?_⟩
  have h3 : 18446744073709551616 ^ i * l.getD i 0 + 18446744073709551616 ^ i = 18446744073709551616 ^ i * 18446744073709551616 := by
    rw [← Nat.mul_succ, Nat.succ_eq_add_one, e]
  rw [Nat.pow_succ]
  omega
theorem few_is (f : Int) : ∃ n : Nat, Int.tmod (Int.tmod f 20 + 20) 20 = (n : Int) ∧ n < 20 ∧ Int.tmod f 20 + 20 = ((Int.tmod f 20 + 20).toNat : Int) ∧ 0 ≤ Int.tmod f 20 + 20 ∧ Int.tmod f 20 + 20 < 40 := by
  have h1 : -20 < Int.tmod f 20 ∧ Int.tmod f 20 < 20 := by
    constructor
    · have := Int.lt_tmod_of_pos f (show (0 : Int) < 20 by decide); omega
    · have := Int.tmod_lt_of_pos f (show (0 : Int) < 20 by decide); omega
  refine ⟨(Int.tmod (Int.tmod f 20 + 20) 20).toNat, ?_, ?_, by omega, by omega, by omega⟩
  · have : 0 ≤ Int.tmod (Int.tmod f 20 + 20) 20 := Int.tmod_nonneg _ (by omega)
    omega
  · have : Int.tmod (Int.tmod f 20 + 20) 20 < 20 := Int.tmod_lt_of_pos _ (by decide)
    omega

set_option maxHeartbeats 3200000 in
theorem times_walk (A : Pts PtTab2) (n : Nat) (f : Int) (hn : n < K256) (W : World) (hT : PtTab2 W) :
    Calls Tryd.prog 7 #[fe n, .int .i64 f] W fun e w' => e = .returned (.bool true) ∧ Below W.heap.size W w' := by
  have hT0 := Lib.hid hT
  obtain ⟨fw, hfw, hf20, -, hf0, hf40⟩ := few_is f
  have hwr : IntKind.i64.wrap (Int.tmod f 20 + 20) = Int.tmod f 20 + 20 := IntWalk.i64_in _ (by omega)
  obtain ⟨n1, hn1⟩ : ∃ n1, (if n = K256 - 1 then 0 else n) = n1 := ⟨_, rfl⟩
  have kn1 : n1 + 1 < K256 := by
    unfold K256 at *
    split at hn1 <;> omega
  have kn1' : n1 < K256 := by omega
  have kfw : fw < K256 := by unfold K256; omega
  have B := Lib.hid (fun w hT => A.base w hT)
  have Z := Lib.hid (fun w hT => A.zero w hT)
  have AL := Lib.hid (fun w hT => A.alive w hT)
  have kp := A.mul_pn kfw base_pn
  have Dp := Lib.hid (fun w hT => A.mul w kfw base_pn hT)
  rw [← fe_small fw (by omega)] at Dp
  generalize A.m fw baseN = p at *
  have kq := A.mul_pn kn1' base_pn
  have Dq := Lib.hid (fun w hT => A.mul w kn1' base_pn hT)
  generalize A.m n1 baseN = q at *
  have kr := A.mul_pn kn1 base_pn
  have Dr := Lib.hid (fun w hT => A.mul w kn1 base_pn hT)
  generalize A.m (n1 + 1) baseN = r at *
  have kqb := A.add_pn kq base_pn
  have Dqb := Lib.hid (fun w hT => A.add w kq base_pn hT)
  generalize A.f q baseN = qb at *
  have kze := A.mul_pn (n := l25') (by decide) base_pn
  have Dze := Lib.hid (fun w hT => A.mul (n := l25') w (by decide) base_pn hT)
  have hord : fe l25' = .agg #[.int .u64 6346243789798364141, .int .u64 1503914060200516822, .int .u64 0, .int .u64 1152921504606846976] := by unfold fe feA; rfl
  rw [hord] at Dze
  generalize A.m l25' baseN = ze at *
  have Dby := Lib.hid (fun w hT => A.bytes w kq hT)
  have Dpa := Lib.hid (fun w hT => A.parse w kq.on hT hT.2)
  have kba := parseT_pn kq.on
  generalize parseT (Bp.smul n1) = back at *
  generalize textN (Bp.smul n1) = st at *
  have E2 := Lib.hid (fun w hT => A.same w kr kqb hT)
  rw [show Bp.smul (n1 + 1) = (Bp.smul n1).add Bp from rfl, ptEq_self] at E2
  have E3 := Lib.hid (fun w hT => A.same w kze zero_pn hT)
  rw [Bp_order, ptEq_self] at E3
  have E4 := Lib.hid (fun w hT => A.same w kba kq hT)
  rw [ptEq_self] at E4
  have HS := Lib.hid (fun (u : N4) (i : Nat) (h : Pn u (Bp.smul i)) => (A.add_pn h base_pn : Pn (A.f u baseN) (Bp.smul (i + 1))))
  have HA := Lib.hid (fun (u : N4) (i : Nat) (h : Pn u (Bp.smul i)) w hT => A.add w h base_pn hT)
  have E1 := Lib.hid (fun (u : N4) (h : Pn u (Bp.smul fw)) w (hT : PtTab2 w) => (by have h2 := A.same w kp h hT; rwa [ptEq_self] at h2 : Calls Tryd.prog 17 #[pt p, pt u] w fun e w' => e = .returned (.bool true) ∧ Below w.heap.size w w'))
  generalize A.f = fA at *
  have HN1 := Lib.hid hn1
  have HKN := Lib.hid kn1
  clear kp kq kr kqb kze kba hn1 kn1 kfw hord A
  go_enter Tryd.func7, Tryd.ntmps7
  have hn0 := Lies.new W 27 (feA n)
  have hB := (Below.refl W.heap.size W).alloc (Nat.le_refl _) (.cells (feA n) 27)
  clear hT
  go_upto_region 1 with fail
  generalize World.alloc W _ = w0 at *
  have hT := hT0.out.on hB
  go_upto_region 2 with (first
    | (go_at_call 11; (with_reducible refine (B.out _ hT).mono ?_); rintro e uw1 ⟨rfl, hb⟩; replace hn0 := hn0.on hb; replace hB := below_on hB hb; clear hb)
    | ((with_reducible refine wpL_store uw1.heap.size 26 _ (ptA baseN) 16 rowPt ?_ (ptA_size _) (ptA_one _) (Lies.new uw1 _ _) ?_ ?_ ?_); rfl; rfl; rfl))
  have hba := newly_lies uw1 26 z16A (ptA baseN)
  have hnw := newly uw1 (.cells z16A 26) (ptA baseN)
  have hsz := hB.size
  have oban0 := hn0.lt
  replace hn0 := hn0.on hnw
  replace hB := below_on hB hnw
  clear hnw hT
  generalize World.setRow _ _ _ = w1 at *
  generalize uw1.heap.size = gba at *
  have oWba : W.heap.size ≤ gba := hsz
  clear hsz
  go_upto_region 3 with fail
  have hT := hT0.out.on hB
  go_upto_region 4 with (first
    | (go_at_call 10; (with_reducible refine (Z.out _ hT).mono ?_); rintro e uw2 ⟨rfl, hb⟩; replace hn0 := hn0.on hb; replace hba := hba.on hb; replace hB := below_on hB hb; clear hb)
    | ((with_reducible refine wpL_store uw2.heap.size 26 _ (ptA zeroN) 16 rowPt ?_ (ptA_size _) (ptA_one _) (Lies.new uw2 _ _) ?_ ?_ ?_); rfl; rfl; rfl))
  have hsu := newly_lies uw2 26 z16A (ptA zeroN)
  have hnw := newly uw2 (.cells z16A 26) (ptA zeroN)
  have hsz := hB.size
  have osun0 := hn0.lt
  have osuba := hba.lt
  replace hn0 := hn0.on hnw
  replace hba := hba.on hnw
  replace hB := below_on hB hnw
  clear hnw hT
  generalize World.setRow _ _ _ = w2 at *
  generalize uw2.heap.size = gsu at *
  have oWsu : W.heap.size ≤ gsu := hsz
  clear hsz
  clear hf0 hf40 hwr hfw
  go_wp2_with fail
  go_loopw [32] (fun ix wr => ∃ (i : Nat) (u : N4), i ≤ fw ∧ ix = .int .i64 i ∧ Pn u (Bp.smul i) ∧ Lies wr gsu 26 (ptA u) ∧ Lies wr gba 26 (ptA baseN) ∧ Lies wr W.heap.size 27 (feA n) ∧ Below W.heap.size W wr) (fun ix _ => fw - (intOf ix).toNat)
  case atStart => exact ⟨0, zeroN, by omega, rfl, zero_pn, hsu, hba, hn0, hB⟩
  case round =>
    clear hsu hba hn0 hB
    obtain ⟨i, u, hi, rfl, hu, hsu, hba, hn0, hB⟩ := hrel
    by_cases hlt : i < fw
    · have hT := hT0.out.on hB
      have hgs := hsu.lt
      have hgb := hba.lt
      have hgn := hn0.lt
      have HAu := Lib.hid (HA.out u i hu)
      have hu2 := HS.out u i hu
      generalize fA u baseN = u2 at *
      have hif : (i : Int) < (fw : Int) := by omega
      go_upto_region 7 with (first
        | ((with_reducible refine wpL_load (gsu) 26 (ptA u) 16 rowPt (ptA_size _) hsu ?_ ?_); rfl)
        | ((with_reducible refine wpL_load (gba) 26 (ptA baseN) 16 rowPt (ptA_size _) hba ?_ ?_); rfl)
        | (go_at_call 18; (with_reducible refine (HAu.out _ hT).mono ?_); rintro e v1 ⟨rfl, hb⟩; replace hsu := hsu.on hb; replace hba := hba.on hb; replace hn0 := hn0.on hb; replace hB := below_on hB hb; clear hb)
        | ((with_reducible refine wpL_store v1.heap.size 26 _ (ptA u2) 16 rowPt ?_ (ptA_size _) (ptA_one _) (Lies.new v1 _ _) ?_ ?_ ?_); rfl; rfl; rfl))
      have hne := newly_lies v1 26 z16A (ptA u2)
      have hnw := newly v1 (.cells z16A 26) (ptA u2)
      have hgs1 := hsu.lt
      have hgb1 := hba.lt
      have hgn1 := hn0.lt
      replace hsu := hsu.on hnw
      replace hba := hba.on hnw
      replace hn0 := hn0.on hnw
      replace hB := below_on hB hnw
      clear hnw
      generalize World.setRow _ _ _ = v2 at *
      obtain ⟨gne, hgne⟩ : ∃ g, v1.heap.size = g := ⟨_, rfl⟩
      rw [hgne] at hne hgs1 hgb1 hgn1 ⊢
      go_wp2_with (first
        | ((with_reducible refine wpL_load (gne) 26 (ptA u2) 16 rowPt (ptA_size _) hne ?_ ?_); rfl)
        | ((with_reducible refine wpL_store (gsu) 26 _ (ptA u2) 16 rowPt (ptA_size _) (ptA_size _) (ptA_one _) hsu ?_ ?_ ?_); rfl; rfl))
      go_roundw
      case rel => exact ⟨i + 1, u2, by omega, by go_num, hu2, hsu.row _, hba.rowFar (show gba ≠ gsu by omega) _, hn0.rowFar (show W.heap.size ≠ gsu by omega) _, below_rowSet hB (show W.heap.size ≤ gsu by omega) _⟩
      case measure => simp [intOf]; omega
    · obtain rfl : i = fw := by omega
      have E1u := Lib.hid (E1.out u hu)
      clear HA HS E1 hu
      have hii : ¬ (i : Int) < (i : Int) := by omega
      have hT := hT0.out.on hB
      go_upto_region 12 with (first
        | ((with_reducible refine wpL_load (gba) 26 (ptA baseN) 16 rowPt (ptA_size _) hba ?_ ?_); rfl)
        | (go_at_call 20; (with_reducible refine (Dp.out _ hT).mono ?_); rintro e uw4 ⟨rfl, hb⟩; replace hn0 := hn0.on hb; replace hba := hba.on hb; replace hsu := hsu.on hb; replace hB := below_on hB hb; clear hb)
        | ((with_reducible refine wpL_store uw4.heap.size 26 _ (ptA p) 16 rowPt ?_ (ptA_size _) (ptA_one _) (Lies.new uw4 _ _) ?_ ?_ ?_); rfl; rfl; rfl))
      have hp := newly_lies uw4 26 z16A (ptA p)
      have hnw := newly uw4 (.cells z16A 26) (ptA p)
      have hsz := hB.size
      have opn0 := hn0.lt
      have opba := hba.lt
      have opsu := hsu.lt
      replace hn0 := hn0.on hnw
      replace hba := hba.on hnw
      replace hsu := hsu.on hnw
      replace hB := below_on hB hnw
      clear hnw hT
      generalize World.setRow _ _ _ = w4 at *
      generalize uw4.heap.size = gp at *
      have oWp : W.heap.size ≤ gp := hsz
      clear hsz
      have heq := fun w => G.eql_fe n (K256 - 1) hn (by decide) w
      rw [show fe (K256 - 1) = .agg #[.int .u64 18446744073709551615, .int .u64 18446744073709551615, .int .u64 18446744073709551615, .int .u64 18446744073709551615] by unfold fe feA; rfl] at heq
      obtain ⟨c, hc⟩ : ∃ c, decide (n = K256 - 1) = c := ⟨_, rfl⟩
      rw [hc] at heq
      have HC := Lib.hid hc
      clear hc
      go_upto_if 54 with (first
        | ((with_reducible refine wpL_load (W.heap.size) 27 (feA n) 4 rowSc (feA_size _) hn0 ?_ ?_); rfl)
        | ((with_reducible refine wpL_buildV #[.int .u64 18446744073709551615, .int .u64 18446744073709551615, .int .u64 18446744073709551615, .int .u64 18446744073709551615] ?_ ?_); kernel_rfl))
      go_cut [10] from 54 to 56 (fun s10 wx => s10 = .int .i64 0 ∧ Lies wx W.heap.size 27 (feA n1) ∧ Lies wx gba 26 (ptA baseN) ∧ Lies wx gsu 26 (ptA u) ∧ Lies wx gp 26 (ptA p) ∧ Below W.heap.size W wx)
      case first =>
        clear heq
        cases c
        · have h0 : n1 = n := by rw [← HN1.out, if_neg (by simpa using HC.out)]
          subst h0
          clear HN1 HKN HC
          go_wp2_with fail
          go_meet
          case rel => exact ⟨rfl, hn0, hba, hsu, hp, hB⟩
        · have h0 : n1 = 0 := by rw [← HN1.out, if_pos (by simpa using HC.out)]
          subst h0
          clear HN1 HKN HC
          go_wp2_with ((with_reducible refine wpL_store (W.heap.size) 27 _ fe0A 4 rowSc (feA_size _) rfl fe0A_one hn0 ?_ ?_ ?_); rfl; rfl)
          go_meet
          case rel => exact ⟨rfl, by rw [← fe0A_is]; exact hn0.row fe0A, hba.rowFar (show gba ≠ W.heap.size by omega) _, hsu.rowFar (show gsu ≠ W.heap.size by omega) _, hp.rowFar (show gp ≠ W.heap.size by omega) _, below_rowSet hB (Nat.le_refl _) _⟩
      case rest =>
        clear hn0 hba hsu hp hB heq
        obtain ⟨rfl, hn0, hba, hsu, hp, hB⟩ := hcut
        have hT := hT0.out.on hB
        go_upto_region 15 with (first
          | ((with_reducible refine wpL_load (W.heap.size) 27 (feA n1) 4 rowSc (feA_size _) hn0 ?_ ?_); rfl)
          | ((with_reducible refine wpL_store wc.heap.size 27 _ (feA n1) 4 rowSc ?_ (feA_size _) (feA_one _) (Lies.new wc _ _) ?_ ?_ ?_); rfl; rfl; rfl))
        have hmo := newly_lies wc 27 fe0A (feA n1)
        have hnw := newly wc (.cells fe0A 27) (feA n1)
        have hsz := hB.size
        have omon0 := hn0.lt
        have omoba := hba.lt
        have omosu := hsu.lt
        have omop := hp.lt
        replace hn0 := hn0.on hnw
        replace hba := hba.on hnw
        replace hsu := hsu.on hnw
        replace hp := hp.on hnw
        replace hB := below_on hB hnw
        clear hnw hT
        generalize World.setRow _ _ _ = w7 at *
        generalize wc.heap.size = gmo at *
        have oWmo : W.heap.size ≤ gmo := hsz
        clear hsz
        have hwl := wordsL_val kn1'
        have hwd := wordsL_wd n1
        have hl4 : (wordsL n1).length = 4 := rfl
        rw [feA_wordsL n1] at hmo
        generalize wordsL n1 = l0 at *
        clear hii
        go_wp2_with fail
        go_loopw [57] (fun ix wr => ∃ (i : Nat) (l : List Nat), i ≤ 4 ∧ ix = .int .i64 i ∧ l.length = 4 ∧ Wd l ∧ Hid (valK l + 18446744073709551616 ^ i = n1 + 1) ∧ Lies wr gmo 27 (l.map w64).toArray ∧ Lies wr gba 26 (ptA baseN) ∧ Lies wr gsu 26 (ptA u) ∧ Lies wr gp 26 (ptA p) ∧ Lies wr W.heap.size 27 (feA n1) ∧ Below W.heap.size W wr) (fun ix _ => 4 - (intOf ix).toNat)
        case atStart => exact ⟨0, l0, by omega, rfl, hl4, hwd, Lib.hid (by rw [hwl, Nat.pow_zero]), hmo, hba, hsu, hp, hn0, hB⟩
        case round =>
          clear hmo hba hsu hp hn0 hB hwl hwd hl4
          obtain ⟨j, l, hj, rfl, hl4, hwd, HV, hmo, hba, hsu, hp, hn0, hB⟩ := hrel
          by_cases hlt : j < 4
          · have cx := (hmo.cell j).trans (listA_at l j (by omega))
            have fx := hmo.frozen j
            have bx := hwd.at j
            obtain ⟨hv1, hv2⟩ := next_word (i := j) (by omega) HV.out
            have HP := Lib.hid (fun x => listA_set l j x)
            have HV1 := Lib.hid hv1
            have HV2 := Lib.hid hv2
            have HWD := Lib.hid hwd
            have hji : (j : Int) < 4 := by omega
            clear hv1 hv2 hwd HV
            generalize l.getD j 0 = x at *
            by_cases hx : x + 1 < 18446744073709551616
            · obtain ⟨s, hs⟩ : ∃ s, x + 1 = s := ⟨_, rfl⟩
              have hwr : IntKind.u64.wrap ((x : Int) + 1) = (s : Int) := by rw [IntKind.wrap_u64]; omega
              have hs0 : ¬ (s : Int) = 0 := by omega
              have hvv : valK (l.set j s) = n1 + 1 := by rw [← hs]; exact HV1.out hx
              have hsK : s < 18446744073709551616 := by omega
              clear hs bx hx
              go_upto_region 19 with fail
              obtain ⟨vx, hvx⟩ : ∃ v, w64 s = v := ⟨_, rfl⟩
              have hm2 := hmo.put j (w64 s)
              rw [HP.out] at hm2
              replace hba := hba.far (show gba ≠ gmo by omega) (p := ⟨gmo, j, none⟩) (w64 s)
              replace hsu := hsu.far (show gsu ≠ gmo by omega) (p := ⟨gmo, j, none⟩) (w64 s)
              replace hp := hp.far (show gp ≠ gmo by omega) (p := ⟨gmo, j, none⟩) (w64 s)
              replace hn0 := hn0.far (show W.heap.size ≠ gmo by omega) (p := ⟨gmo, j, none⟩) (w64 s)
              replace hB := below_put hB (show W.heap.size ≤ gmo by omega) j (w64 s)
              have cy := (hm2.cell j).trans (listA_at _ j (by rw [List.length_set]; omega))
              have hgd : (l.set j s).getD j 0 = s := by
                rw [List.getD_eq_getElem?_getD, List.getElem?_set_self (by omega)]
                rfl
              rw [hgd] at cy
              obtain ⟨hwe, _⟩ := words_feA (l.set j s) (by rw [List.length_set]; exact hl4) (HWD.out.set j hsK)
              rw [hwe, hvv] at hm2
              clear hmo cx fx hgd hwe hvv hwr HP HV1 HV2 HWD hl4 hvx
              generalize World.setCell _ _ _ = wA at *
              have hmo := hm2
              clear hm2
              go_upto_region 21 with fail
              clear cy
              have hT := hT0.out.on hB
              go_upto_region 22 with (first
                | ((with_reducible refine wpL_load (W.heap.size) 27 (feA n1) 4 rowSc (feA_size _) hn0 ?_ ?_); rfl)
                | ((with_reducible refine wpL_load (gba) 26 (ptA baseN) 16 rowPt (ptA_size _) hba ?_ ?_); rfl)
                | (go_at_call 20; (with_reducible refine (Dq.out _ hT).mono ?_); rintro e uw9 ⟨rfl, hb⟩; replace hn0 := hn0.on hb; replace hba := hba.on hb; replace hsu := hsu.on hb; replace hp := hp.on hb; replace hmo := hmo.on hb; replace hB := below_on hB hb; clear hb)
                | ((with_reducible refine wpL_store uw9.heap.size 26 _ (ptA q) 16 rowPt ?_ (ptA_size _) (ptA_one _) (Lies.new uw9 _ _) ?_ ?_ ?_); rfl; rfl; rfl))
              have hq := newly_lies uw9 26 z16A (ptA q)
              have hnw := newly uw9 (.cells z16A 26) (ptA q)
              replace hn0 := hn0.on hnw
              replace hba := hba.on hnw
              replace hsu := hsu.on hnw
              replace hp := hp.on hnw
              replace hmo := hmo.on hnw
              replace hB := below_on hB hnw
              clear hnw hT
              generalize World.setRow _ _ _ = w9 at *
              generalize uw9.heap.size = gq at *
              clear hn0
              have hT := hT0.out.on hB
              go_upto_region 23 with (first
                | ((with_reducible refine wpL_load (gmo) 27 (feA (n1 + 1)) 4 rowSc (feA_size _) hmo ?_ ?_); rfl)
                | ((with_reducible refine wpL_load (gba) 26 (ptA baseN) 16 rowPt (ptA_size _) hba ?_ ?_); rfl)
                | (go_at_call 20; (with_reducible refine (Dr.out _ hT).mono ?_); rintro e uw10 ⟨rfl, hb⟩; replace hba := hba.on hb; replace hsu := hsu.on hb; replace hp := hp.on hb; replace hmo := hmo.on hb; replace hq := hq.on hb; replace hB := below_on hB hb; clear hb)
                | ((with_reducible refine wpL_store uw10.heap.size 26 _ (ptA r) 16 rowPt ?_ (ptA_size _) (ptA_one _) (Lies.new uw10 _ _) ?_ ?_ ?_); rfl; rfl; rfl))
              have hr := newly_lies uw10 26 z16A (ptA r)
              have hnw := newly uw10 (.cells z16A 26) (ptA r)
              replace hba := hba.on hnw
              replace hsu := hsu.on hnw
              replace hp := hp.on hnw
              replace hmo := hmo.on hnw
              replace hq := hq.on hnw
              replace hB := below_on hB hnw
              clear hnw hT
              generalize World.setRow _ _ _ = w10 at *
              generalize uw10.heap.size = gr at *
              clear hmo
              have hT := hT0.out.on hB
              go_upto_region 24 with (first
                | ((with_reducible refine wpL_load (gq) 26 (ptA q) 16 rowPt (ptA_size _) hq ?_ ?_); rfl)
                | ((with_reducible refine wpL_load (gba) 26 (ptA baseN) 16 rowPt (ptA_size _) hba ?_ ?_); rfl)
                | (go_at_call 18; (with_reducible refine (Dqb.out _ hT).mono ?_); rintro e uw11 ⟨rfl, hb⟩; replace hba := hba.on hb; replace hsu := hsu.on hb; replace hp := hp.on hb; replace hq := hq.on hb; replace hr := hr.on hb; replace hB := below_on hB hb; clear hb)
                | ((with_reducible refine wpL_store uw11.heap.size 26 _ (ptA qb) 16 rowPt ?_ (ptA_size _) (ptA_one _) (Lies.new uw11 _ _) ?_ ?_ ?_); rfl; rfl; rfl))
              have hqb := newly_lies uw11 26 z16A (ptA qb)
              have hnw := newly uw11 (.cells z16A 26) (ptA qb)
              replace hba := hba.on hnw
              replace hsu := hsu.on hnw
              replace hp := hp.on hnw
              replace hq := hq.on hnw
              replace hr := hr.on hnw
              replace hB := below_on hB hnw
              clear hnw hT
              generalize World.setRow _ _ _ = w11 at *
              generalize uw11.heap.size = gqb at *
              have hT := hT0.out.on hB
              go_upto_region 25 with (first
                | ((with_reducible refine wpL_buildV #[.int .u64 6346243789798364141, .int .u64 1503914060200516822, .int .u64 0, .int .u64 1152921504606846976] ?_ ?_); kernel_rfl)
                | ((with_reducible refine wpL_load (gba) 26 (ptA baseN) 16 rowPt (ptA_size _) hba ?_ ?_); rfl)
                | (go_at_call 20; (with_reducible refine (Dze.out _ hT).mono ?_); rintro e uw12 ⟨rfl, hb⟩; replace hba := hba.on hb; replace hsu := hsu.on hb; replace hp := hp.on hb; replace hq := hq.on hb; replace hr := hr.on hb; replace hqb := hqb.on hb; replace hB := below_on hB hb; clear hb)
                | ((with_reducible refine wpL_store uw12.heap.size 26 _ (ptA ze) 16 rowPt ?_ (ptA_size _) (ptA_one _) (Lies.new uw12 _ _) ?_ ?_ ?_); rfl; rfl; rfl))
              have hze := newly_lies uw12 26 z16A (ptA ze)
              have hnw := newly uw12 (.cells z16A 26) (ptA ze)
              replace hba := hba.on hnw
              replace hsu := hsu.on hnw
              replace hp := hp.on hnw
              replace hq := hq.on hnw
              replace hr := hr.on hnw
              replace hqb := hqb.on hnw
              replace hB := below_on hB hnw
              clear hnw hT
              generalize World.setRow _ _ _ = w12 at *
              generalize uw12.heap.size = gze at *
              clear hba
              have hT := hT0.out.on hB
              go_upto_region 26 with (first
                | ((with_reducible refine wpL_load (gq) 26 (ptA q) 16 rowPt (ptA_size _) hq ?_ ?_); rfl)
                | (go_at_call 21; (with_reducible refine (Dby.out _ hT).mono ?_); rintro e uw13 ⟨rfl, hb⟩; replace hsu := hsu.on hb; replace hp := hp.on hb; replace hq := hq.on hb; replace hr := hr.on hb; replace hqb := hqb.on hb; replace hze := hze.on hb; replace hB := below_on hB hb; clear hb))
              clear hT
              have hT := hT0.out.on hB
              go_upto_region 27 with (first
                | (go_at_call 26; (with_reducible refine (Dpa.out _ hT).mono ?_); rintro e uw14 ⟨rfl, hb⟩; replace hsu := hsu.on hb; replace hp := hp.on hb; replace hq := hq.on hb; replace hr := hr.on hb; replace hqb := hqb.on hb; replace hze := hze.on hb; replace hB := below_on hB hb; clear hb)
                | ((with_reducible refine wpL_store uw14.heap.size 26 _ (ptA back) 16 rowPt ?_ (ptA_size _) (ptA_one _) (Lies.new uw14 _ _) ?_ ?_ ?_); rfl; rfl; rfl))
              have hback := newly_lies uw14 26 z16A (ptA back)
              have hnw := newly uw14 (.cells z16A 26) (ptA back)
              replace hsu := hsu.on hnw
              replace hp := hp.on hnw
              replace hq := hq.on hnw
              replace hr := hr.on hnw
              replace hqb := hqb.on hnw
              replace hze := hze.on hnw
              replace hB := below_on hB hnw
              clear hnw hT
              generalize World.setRow _ _ _ = w14 at *
              generalize uw14.heap.size = gback at *
              have hT := hT0.out.on hB
              go_upto_region 29 with (first
                | (go_at_call 16; (with_reducible refine (AL.out _ hT).mono ?_); rintro e uw15 ⟨rfl, hb⟩; replace hsu := hsu.on hb; replace hp := hp.on hb; replace hq := hq.on hb; replace hr := hr.on hb; replace hqb := hqb.on hb; replace hze := hze.on hb; replace hback := hback.on hb; replace hB := below_on hB hb; clear hb))
              clear hT
              have hT := hT0.out.on hB
              refine wp_region_all_g (by kernel_rfl) (by kernel_rfl) ?_
              refine wpQg_pt (gp) (p) hp rfl rfl ?_
              simp only [Act.put, List.setIfInBounds_toArray, List.set_cons_succ, List.set_cons_zero]
              refine wpQg_pt (gsu) (u) hsu rfl rfl ?_
              simp only [Act.put, List.setIfInBounds_toArray, List.set_cons_succ, List.set_cons_zero]
              refine wpQg_call 17 #[pt p, pt u] (.bool true) rfl rfl (fun _ => by kernel_rfl) (fun w hb => E1u.out w (hT.on hb)) ?_
              simp only [Act.put, List.setIfInBounds_toArray, List.set_cons_succ, List.set_cons_zero]
              refine wpQg_move rfl ?_
              simp only [Act.put, List.setIfInBounds_toArray, List.set_cons_succ, List.set_cons_zero]
              refine wpQg_pt (gr) (r) hr rfl rfl ?_
              simp only [Act.put, List.setIfInBounds_toArray, List.set_cons_succ, List.set_cons_zero]
              refine wpQg_pt (gqb) (qb) hqb rfl rfl ?_
              simp only [Act.put, List.setIfInBounds_toArray, List.set_cons_succ, List.set_cons_zero]
              refine wpQg_call 17 #[pt r, pt qb] (.bool true) rfl rfl (fun _ => by kernel_rfl) (fun w hb => E2.out w (hT.on hb)) ?_
              simp only [Act.put, List.setIfInBounds_toArray, List.set_cons_succ, List.set_cons_zero]
              refine wpQg_run (.bool true) rfl (fun _ _ => by kernel_rfl) ?_
              simp only [Act.put, List.setIfInBounds_toArray, List.set_cons_succ, List.set_cons_zero]
              refine wpQg_move rfl ?_
              simp only [Act.put, List.setIfInBounds_toArray, List.set_cons_succ, List.set_cons_zero]
              refine wpQg_pt (gze) (ze) hze rfl rfl ?_
              simp only [Act.put, List.setIfInBounds_toArray, List.set_cons_succ, List.set_cons_zero]
              refine wpQg_call 10 #[] (pt zeroN) rfl rfl (fun _ => by kernel_rfl) (fun w hb => Z.out w (hT.on hb)) ?_
              simp only [Act.put, List.setIfInBounds_toArray, List.set_cons_succ, List.set_cons_zero]
              refine wpQg_call 17 #[pt ze, pt zeroN] (.bool true) rfl rfl (fun _ => by kernel_rfl) (fun w hb => E3.out w (hT.on hb)) ?_
              simp only [Act.put, List.setIfInBounds_toArray, List.set_cons_succ, List.set_cons_zero]
              refine wpQg_run (.bool true) rfl (fun _ _ => by kernel_rfl) ?_
              simp only [Act.put, List.setIfInBounds_toArray, List.set_cons_succ, List.set_cons_zero]
              refine wpQg_move rfl ?_
              simp only [Act.put, List.setIfInBounds_toArray, List.set_cons_succ, List.set_cons_zero]
              refine wpQg_pt (gback) (back) hback rfl rfl ?_
              simp only [Act.put, List.setIfInBounds_toArray, List.set_cons_succ, List.set_cons_zero]
              refine wpQg_pt (gq) (q) hq rfl rfl ?_
              simp only [Act.put, List.setIfInBounds_toArray, List.set_cons_succ, List.set_cons_zero]
              refine wpQg_call 17 #[pt back, pt q] (.bool true) rfl rfl (fun _ => by kernel_rfl) (fun w hb => E4.out w (hT.on hb)) ?_
              simp only [Act.put, List.setIfInBounds_toArray, List.set_cons_succ, List.set_cons_zero]
              refine wpQg_run (.bool true) rfl (fun _ _ => by kernel_rfl) ?_
              simp only [Act.put, List.setIfInBounds_toArray, List.set_cons_succ, List.set_cons_zero]
              refine wpQg_run (.bool true) rfl (fun _ _ => rfl) ?_
              simp only [Act.put, List.setIfInBounds_toArray, List.set_cons_succ, List.set_cons_zero]
              refine wpQuiet_nil ?_
              intro wz hb
              replace hB := below_on hB hb
              go_wp2_with fail
              go_ret
              exact ⟨rfl, hB⟩
            · obtain hx1 : x + 1 = 18446744073709551616 := by omega
              have hwr : IntKind.u64.wrap ((x : Int) + 1) = 0 := by rw [IntKind.wrap_u64]; omega
              have hvv := Lib.hid (HV2.out hx1)
              clear hx1 hx bx
              go_upto_region 19 with fail
              have hm2 := hmo.put j (w64 0)
              rw [HP.out] at hm2
              replace hba := hba.far (show gba ≠ gmo by omega) (p := ⟨gmo, j, none⟩) (w64 0)
              replace hsu := hsu.far (show gsu ≠ gmo by omega) (p := ⟨gmo, j, none⟩) (w64 0)
              replace hp := hp.far (show gp ≠ gmo by omega) (p := ⟨gmo, j, none⟩) (w64 0)
              replace hn0 := hn0.far (show W.heap.size ≠ gmo by omega) (p := ⟨gmo, j, none⟩) (w64 0)
              replace hB := below_put hB (show W.heap.size ≤ gmo by omega) j (w64 0)
              have cy := (hm2.cell j).trans (listA_at _ j (by rw [List.length_set]; omega))
              have hgd : (l.set j 0).getD j 0 = 0 := by
                rw [List.getD_eq_getElem?_getD, List.getElem?_set_self (by omega)]
                rfl
              rw [hgd] at cy
              replace cy : (World.setCell _ ⟨gmo, j, none⟩ (.int .u64 0)).cell? ⟨gmo, j, none⟩ = some (.int .u64 0) := cy
              have HWD2 := Lib.hid (HWD.out.set j (show 0 < 18446744073709551616 by decide))
              have HL4 := Lib.hid (show (l.set j 0).length = 4 by rw [List.length_set]; exact hl4)
              have hz0 : w64 0 = .int .u64 0 := rfl
              rw [hz0] at hm2 hba hsu hp hn0 hB
              clear hmo cx fx hgd hwr HP HV1 HV2 HWD hl4 hz0
              generalize World.setCell _ _ _ = wA at *
              go_wp2_with fail
              go_roundw
              case rel => exact ⟨j + 1, l.set j 0, by omega, by go_num, HL4.out, HWD2.out, hvv, hm2, hba, hsu, hp, hn0, hB⟩
              case measure => simp [intOf]; omega
          · exfalso
            obtain rfl : j = 4 := by omega
            have h1 := HV.out
            have h2 := HKN.out
            rw [show (18446744073709551616 : Nat) ^ 4 = K256 by decide] at h1
            omega
end Go.Proofs.YtfleimaoaicolaaDoor.C
