/- The statement ParseBack, walked. -/
import Derived.Test.YtnloimanklkigaaDoorK8
namespace Go.Proofs.YtnloimanklkigaaDoor.V
open Go.RowKit Go.Sort Go.Joins
set_option maxRecDepth 100000

theorem bytes_take (x : List UInt8) (k : Nat) : (⟨x.toArray⟩ : ByteArray).extract 0 k = ⟨(x.take k).toArray⟩ := by
  apply ByteArray.ext
  apply Array.ext'
  simp [ByteArray.data_extract]
theorem sliceY (x : List UInt8) (k : Nat) (z : Int) (hz : z = (k : Int)) : (⟨x.toArray⟩ : ByteArray).extract 0 (min (x.length : Int) z).toNat = ⟨(x.take k).toArray⟩ := by
  subst hz
  have hm : (min (x.length : Int) (k : Int)).toNat = min x.length k := by omega
  rw [bytes_take, hm]
  congr 2
  rw [List.take_eq_take_iff]
  omega
theorem isV_onesY {w : World} {d : Nat} {cs : List Value} {t : VT} (h : IsV w d cs t) : cs.toArray.size = 5 ∧ Ones cs.toArray := by
  obtain ⟨ai, ci, ak, ck, hcs⟩ := h.form
  rw [hcs]
  exact ⟨rfl, valC_one _ _ _ _ _ _ _ _ _⟩
theorem rdP_nil {s : List UInt8} {t : VT} {r : List UInt8} (h : rdP s = .ok t r) : r = [] := by
  unfold rdP at h
  split at h
  · cases h
  · split at h <;> first | (injection h with _ h2; exact h2.symm) | cases h
set_option maxHeartbeats 25600000 in
theorem back_walk (d : Nat) (cs : List Value) (t : VT) (x : List UInt8) (W : World) (h : IsV W d cs t) (hM : MaxAt W) (hT : Tab W) (her : ErrAt W) :
    Calls Tryd.prog 4 #[.agg cs.toArray, .string ⟨x.toArray⟩] W fun e w' => e = .returned (.bool true) ∧ Below W.heap.size W w' := by
  have HC := Lib.hid (fun (w1 : World) (hb : Below W.heap.size W w1) => refCount_any d cs t 2100 w1 (h.below hb) (by decide) (by decide))
  have HAl := Lib.hid (fun (w1 : World) (hb : Below W.heap.size W w1) => alive12_any w1 (her.below hb))
  obtain ⟨pt, pe, HPr, hcase⟩ : ∃ (pt : List UInt8) (pe : Int), Hid (∀ (w1 : World), Below W.heap.size W w1 → Calls Tryd.prog 14 #[.agg cs.toArray] w1 fun e w' => e = .returned (.tuple #[.string ⟨pt.toArray⟩, .int .i64 pe]) ∧ Below w1.heap.size w1 w') ∧ ((pe = 0 ∧ pt.length ≤ 65536 ∧ rdP pt = .ok t []) ∨ (pe = 0 ∧ 65536 < pt.length) ∨ pe = 1) := by
    cases ho : t.okB with
    | true =>
      refine ⟨t.wr, 0, Lib.hid (fun w1 hb => print_yes d cs t w1 (h.below hb) ho (hM.below hb) (hT.below hb)), ?_⟩
      by_cases hl : t.wr.length ≤ 65536
      · exact .inl ⟨rfl, hl, rdP_wr ho hl⟩
      · exact .inr (.inl ⟨rfl, by omega⟩)
    | false => exact ⟨_, 1, Lib.hid (fun w1 hb => print_no d cs t w1 (h.below hb) ho), .inr (.inr rfl)⟩
  have hsl := sliceY x 66000 66000 rfl
  have HV := Lib.hid h
  obtain ⟨_, _, _, _, hcs⟩ := h.form
  have hc5 : cs.toArray.size = 5 := by rw [hcs]; rfl
  have hbW := (Below.refl W.heap.size W).alloc (Nat.le_refl _) (.cells cs.toArray 25)
  have lA := Lies.new W 25 cs.toArray
  clear hcs h
  go_enter Tryd.func4, Tryd.ntmps4
  go_upto_region 1 with fail
  generalize World.alloc W _ = wa at *
  obtain ⟨b0, hb0⟩ : ∃ b, b = W.heap.size := ⟨_, rfl⟩
  rw [← hb0] at lA ⊢
  clear hb0
  generalize x.take 66000 = l at *
  by_cases hcn : 2100 < t.cnt 2100
  · go_wp2_with (first
      | ((with_reducible refine wpL_load b0 25 cs.toArray 5 rowVal hc5 lA ?_ ?_); rfl)
      | (go_at_call 13; refine (HC.out _ hbW).mono ?_; rintro e w1 ⟨rfl, hb1⟩; replace hbW := below_on hbW hb1)
      | (go_at_call 11; refine (HAl.out _ hbW).mono ?_; rintro e w2 ⟨rfl, hb2⟩))
    go_ret
    exact ⟨rfl, below_on hbW hb2⟩
  · go_upto_region 5 with (first
      | ((with_reducible refine wpL_load b0 25 cs.toArray 5 rowVal hc5 lA ?_ ?_); rfl)
      | (go_at_call 13; refine (HC.out _ hbW).mono ?_; rintro e w1 ⟨rfl, hb1⟩; replace lA := lA.on hb1; replace hbW := below_on hbW hb1)
      | (go_at_call 14; refine (HPr.out _ hbW).mono ?_; rintro e w2 ⟨rfl, hb2⟩; replace lA := lA.on hb2; replace hbW := below_on hbW hb2))
    clear hb1 hb2 HC HPr hcn hsl
    rcases hcase with ⟨rfl, hpl, hpr⟩ | ⟨rfl, hpl⟩ | rfl
    · have e1 : (pt.length : Int) ≤ 65536 := by omega
      go_upto_region 7 with (first
        | (go_at_call 9; refine (parse_ok _ (her.below hbW) hpr).mono ?_; rintro e w3 ⟨cs2, d2, rfl, hx2, hb3⟩; replace lA := lA.on hb3; replace hbW := below_on hbW hb3)
        | ((with_reducible refine wpL_store w3.heap.size 25 valZ cs2.toArray 5 rowVal rfl (isV_onesY hx2).1 (isV_onesY hx2).2 (Lies.new w3 _ _) ?_ ?_ ?_); rfl; rfl))
      have hz2 := (isV_onesY hx2).1
      have hbX := below_rowSet (hbW.alloc hbW.size (.cells valZ 25)) hbW.size cs2.toArray
      have hbY := below_rowSet ((RowKit.Below.refl w3.heap.size w3).alloc (Nat.le_refl _) (.cells valZ 25)) (Nat.le_refl _) cs2.toArray
      have lv := (Lies.new w3 25 valZ).row cs2.toArray
      have hx4 := hx2.below hbY
      replace lA := lA.on hbY
      replace hbW := hbX
      clear hbX hb3 hx2 hbY
      generalize World.setRow _ _ _ = w4 at *
      generalize w3.heap.size = b4 at *
      have HSm := refSame_any (max d d2) cs cs2 t t w4 ((HV.out.below hbW).mono (Nat.le_max_left _ _)) (hx4.mono (Nat.le_max_right _ _))
      rw [decide_eq_true rfl] at HSm
      obtain ⟨ai, ci, ak, ck, hcs⟩ := HV.out.form
      obtain ⟨ai2, ci2, ak2, ck2, hcs2⟩ := hx4.form
      rw [hcs, hcs2] at HSm
      rw [hcs] at lA
      rw [hcs2] at lv
      have q0 := lA.cell 0
      have q1 := lA.cell 1
      have q2 := lA.cell 2
      have q3 := lA.cell 3
      have q4 := lA.cell 4
      have p0 := lv.cell 0
      have p1 := lv.cell 1
      have p2 := lv.cell 2
      have p3 := lv.cell 3
      have p4 := lv.cell 4
      simp only [List.getElem?_toArray, List.getElem?_cons_succ, List.getElem?_cons_zero] at q0 q1 q2 q3 q4 p0 p1 p2 p3 p4
      clear hcs hcs2
      go_upto_region 9 with (go_at_call 12; refine HSm.mono ?_; rintro e wS ⟨rfl, hbS⟩; replace hbW := below_on hbW hbS)
      clear q0 q1 q2 q3 q4 p0 p1 p2 p3 p4
      clear hpr hpl
      cases hr : rdP l with
      | bad er =>
        have he : ¬ er = 0 := rdP_code hr
        have he2 : (er == 0) = false := beq_eq_false_iff_ne.2 he
        go_upto_region 10 with (first
          | (go_at_call 9; refine (parse_bad _ (her.below hbW) hr).mono ?_; rintro e w5 ⟨rfl, hb5⟩; replace hbW := below_on hbW hb5)
          | ((with_reducible refine wpL_store w5.heap.size 25 valZ valZ 5 rowVal rfl rfl (valC_one _ _ _ _ _ _ _ _ _) (Lies.new w5 _ _) ?_ ?_ ?_); rfl; rfl))
        have hbX := below_rowSet (hbW.alloc hbW.size (.cells valZ 25)) hbW.size valZ
        have lv := (Lies.new w5 25 valZ).row valZ
        clear hbW hb5
        generalize World.setRow _ _ _ = w6 at *
        generalize w5.heap.size = b6 at *
        have q0 : w6.cell? ⟨b6, 0, none⟩ = some (.int .i64 0) := lv.cell 0
        go_wp2_with (go_at_call 11; refine (HAl.out _ hbX).mono ?_; rintro e w7 ⟨rfl, hb7⟩; have q1 := (hb7.cell (p := ⟨b6, 0, none⟩) (World.block_lt_of_cell? w6 _ q0)).trans q0)
        go_ret
        exact ⟨rfl, below_on hbX hb7⟩
      | ok t3 r3 =>
        obtain ⟨hl3, ho3, _⟩ := rdP_ok hr
        obtain rfl := rdP_nil hr
        subst hl3
        go_upto_region 10 with (first
          | (go_at_call 9; refine (parse_ok _ (her.below hbW) hr).mono ?_; rintro e w5 ⟨cs3, d3, rfl, hx3, hb5⟩; replace hbW := below_on hbW hb5)
          | ((with_reducible refine wpL_store w5.heap.size 25 valZ cs3.toArray 5 rowVal rfl (isV_onesY hx3).1 (isV_onesY hx3).2 (Lies.new w5 _ _) ?_ ?_ ?_); rfl; rfl))
        have hz3 := (isV_onesY hx3).1
        have hbX := below_rowSet (hbW.alloc hbW.size (.cells valZ 25)) hbW.size cs3.toArray
        have hbY := below_rowSet ((RowKit.Below.refl w5.heap.size w5).alloc (Nat.le_refl _) (.cells valZ 25)) (Nat.le_refl _) cs3.toArray
        have lv := (Lies.new w5 25 valZ).row cs3.toArray
        have hx6 := hx3.below hbY
        clear hbW hb5 hx3 hbY
        generalize World.setRow _ _ _ = w6 at *
        generalize w5.heap.size = b6 at *
        have HP3 := print_yes d3 cs3 t3 w6 hx6 ho3 (hM.below hbX) (hT.below hbX)
        go_wp2_with (first
          | ((with_reducible refine wpL_load b6 25 cs3.toArray 5 rowVal hz3 lv ?_ ?_); rfl)
          | (go_at_call 14; refine HP3.mono ?_; rintro e w7 ⟨rfl, hb7⟩; replace hbX := below_on hbX hb7)
          | (go_at_call 11; refine (HAl.out _ hbX).mono ?_; rintro e w8 ⟨rfl, hb8⟩; replace hbX := below_on hbX hb8))
        go_ret
        exact ⟨rfl, hbX⟩
    · have e1 : ¬ (pt.length : Int) ≤ 65536 := by omega
      go_upto_region 9 with fail
      cases hr : rdP l with
      | bad er =>
        have he : ¬ er = 0 := rdP_code hr
        have he2 : (er == 0) = false := beq_eq_false_iff_ne.2 he
        go_upto_region 10 with (first
          | (go_at_call 9; refine (parse_bad _ (her.below hbW) hr).mono ?_; rintro e w5 ⟨rfl, hb5⟩; replace hbW := below_on hbW hb5)
          | ((with_reducible refine wpL_store w5.heap.size 25 valZ valZ 5 rowVal rfl rfl (valC_one _ _ _ _ _ _ _ _ _) (Lies.new w5 _ _) ?_ ?_ ?_); rfl; rfl))
        have hbX := below_rowSet (hbW.alloc hbW.size (.cells valZ 25)) hbW.size valZ
        have lv := (Lies.new w5 25 valZ).row valZ
        clear hbW hb5
        generalize World.setRow _ _ _ = w6 at *
        generalize w5.heap.size = b6 at *
        have q0 : w6.cell? ⟨b6, 0, none⟩ = some (.int .i64 0) := lv.cell 0
        go_wp2_with (go_at_call 11; refine (HAl.out _ hbX).mono ?_; rintro e w7 ⟨rfl, hb7⟩; have q1 := (hb7.cell (p := ⟨b6, 0, none⟩) (World.block_lt_of_cell? w6 _ q0)).trans q0)
        go_ret
        exact ⟨rfl, below_on hbX hb7⟩
      | ok t3 r3 =>
        obtain ⟨hl3, ho3, _⟩ := rdP_ok hr
        obtain rfl := rdP_nil hr
        subst hl3
        go_upto_region 10 with (first
          | (go_at_call 9; refine (parse_ok _ (her.below hbW) hr).mono ?_; rintro e w5 ⟨cs3, d3, rfl, hx3, hb5⟩; replace hbW := below_on hbW hb5)
          | ((with_reducible refine wpL_store w5.heap.size 25 valZ cs3.toArray 5 rowVal rfl (isV_onesY hx3).1 (isV_onesY hx3).2 (Lies.new w5 _ _) ?_ ?_ ?_); rfl; rfl))
        have hz3 := (isV_onesY hx3).1
        have hbX := below_rowSet (hbW.alloc hbW.size (.cells valZ 25)) hbW.size cs3.toArray
        have hbY := below_rowSet ((RowKit.Below.refl w5.heap.size w5).alloc (Nat.le_refl _) (.cells valZ 25)) (Nat.le_refl _) cs3.toArray
        have lv := (Lies.new w5 25 valZ).row cs3.toArray
        have hx6 := hx3.below hbY
        clear hbW hb5 hx3 hbY
        generalize World.setRow _ _ _ = w6 at *
        generalize w5.heap.size = b6 at *
        have HP3 := print_yes d3 cs3 t3 w6 hx6 ho3 (hM.below hbX) (hT.below hbX)
        go_wp2_with (first
          | ((with_reducible refine wpL_load b6 25 cs3.toArray 5 rowVal hz3 lv ?_ ?_); rfl)
          | (go_at_call 14; refine HP3.mono ?_; rintro e w7 ⟨rfl, hb7⟩; replace hbX := below_on hbX hb7)
          | (go_at_call 11; refine (HAl.out _ hbX).mono ?_; rintro e w8 ⟨rfl, hb8⟩; replace hbX := below_on hbX hb8))
        go_ret
        exact ⟨rfl, hbX⟩
    · go_upto_region 9 with fail
      cases hr : rdP l with
      | bad er =>
        have he : ¬ er = 0 := rdP_code hr
        have he2 : (er == 0) = false := beq_eq_false_iff_ne.2 he
        go_upto_region 10 with (first
          | (go_at_call 9; refine (parse_bad _ (her.below hbW) hr).mono ?_; rintro e w5 ⟨rfl, hb5⟩; replace hbW := below_on hbW hb5)
          | ((with_reducible refine wpL_store w5.heap.size 25 valZ valZ 5 rowVal rfl rfl (valC_one _ _ _ _ _ _ _ _ _) (Lies.new w5 _ _) ?_ ?_ ?_); rfl; rfl))
        have hbX := below_rowSet (hbW.alloc hbW.size (.cells valZ 25)) hbW.size valZ
        have lv := (Lies.new w5 25 valZ).row valZ
        clear hbW hb5
        generalize World.setRow _ _ _ = w6 at *
        generalize w5.heap.size = b6 at *
        have q0 : w6.cell? ⟨b6, 0, none⟩ = some (.int .i64 0) := lv.cell 0
        go_wp2_with (go_at_call 11; refine (HAl.out _ hbX).mono ?_; rintro e w7 ⟨rfl, hb7⟩; have q1 := (hb7.cell (p := ⟨b6, 0, none⟩) (World.block_lt_of_cell? w6 _ q0)).trans q0)
        go_ret
        exact ⟨rfl, below_on hbX hb7⟩
      | ok t3 r3 =>
        obtain ⟨hl3, ho3, _⟩ := rdP_ok hr
        obtain rfl := rdP_nil hr
        subst hl3
        go_upto_region 10 with (first
          | (go_at_call 9; refine (parse_ok _ (her.below hbW) hr).mono ?_; rintro e w5 ⟨cs3, d3, rfl, hx3, hb5⟩; replace hbW := below_on hbW hb5)
          | ((with_reducible refine wpL_store w5.heap.size 25 valZ cs3.toArray 5 rowVal rfl (isV_onesY hx3).1 (isV_onesY hx3).2 (Lies.new w5 _ _) ?_ ?_ ?_); rfl; rfl))
        have hz3 := (isV_onesY hx3).1
        have hbX := below_rowSet (hbW.alloc hbW.size (.cells valZ 25)) hbW.size cs3.toArray
        have hbY := below_rowSet ((RowKit.Below.refl w5.heap.size w5).alloc (Nat.le_refl _) (.cells valZ 25)) (Nat.le_refl _) cs3.toArray
        have lv := (Lies.new w5 25 valZ).row cs3.toArray
        have hx6 := hx3.below hbY
        clear hbW hb5 hx3 hbY
        generalize World.setRow _ _ _ = w6 at *
        generalize w5.heap.size = b6 at *
        have HP3 := print_yes d3 cs3 t3 w6 hx6 ho3 (hM.below hbX) (hT.below hbX)
        go_wp2_with (first
          | ((with_reducible refine wpL_load b6 25 cs3.toArray 5 rowVal hz3 lv ?_ ?_); rfl)
          | (go_at_call 14; refine HP3.mono ?_; rintro e w7 ⟨rfl, hb7⟩; replace hbX := below_on hbX hb7)
          | (go_at_call 11; refine (HAl.out _ hbX).mono ?_; rintro e w8 ⟨rfl, hb8⟩; replace hbX := below_on hbX hb8))
        go_ret
        exact ⟨rfl, hbX⟩
end Go.Proofs.YtnloimanklkigaaDoor.V
