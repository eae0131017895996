/- What is proved: whatever texts the statement of bytes that stand behind others is called with, it answers true, if the scalars' functions keep their contracts. -/
import Derived.Test.YtknpgijapbkebaaDoorGNum
namespace Go.Proofs.YtknpgijapbkebaaDoor.F
open Go.RowKit Go.Sort
attribute [local irreducible] feA

theorem joins_mod (a b : ByteArray) : numLE (a ++ b).data.toList % l25 = (numLE a.data.toList % l25 + (numLE b.data.toList % l25) * (256 ^ a.size % l25) % l25) % l25 := by
  rw [ByteArray.data_append, Array.toList_append, numLE_append, ← Lib.size_eq, Nat.mul_comm (256 ^ a.size), ← Nat.mul_mod, ← Nat.add_mod]
theorem times_mod (k : Nat) : 256 ^ k % l25 * 256 % l25 = 256 ^ (k + 1) % l25 := by
  rw [Nat.pow_succ, Nat.mul_mod, Nat.mod_mod, ← Nat.mul_mod]
theorem feA_one' : feA 1 = #[.int .u64 1, .int .u64 0, .int .u64 0, .int .u64 0] := Value.agg.inj fe_one
theorem feA_pow0 : feA (256 ^ 0 % l25) = #[.int .u64 1, .int .u64 0, .int .u64 0, .int .u64 0] := by
  rw [show 256 ^ 0 % l25 = 1 by decide]
  exact feA_one'

set_option maxRecDepth 100000 in
set_option maxHeartbeats 1600000 in
theorem joins_walk (F : ScalarOk) (s t : ByteArray) (hs : s.size ≤ 9223372036854775807) (ht : t.size ≤ 9223372036854775807) (W : World) (hT : Tab W) :
    Calls Tryd.prog 7 #[.string s, .string t] W fun e W' => e = .returned (.bool true) ∧ Below W.heap.size W W' := by
  have hB := Below.refl W.heap.size W
  go_enter Tryd.func7, Tryd.ntmps7
  go_upto_region 1 with fail
  refine wp_region_quiet_below (by kernel_rfl) (by kernel_rfl) ?_
  repeat (go_big_quiet_step (fail))
  refine wpQuiet_nil ?_
  intro w0 hw'
  obtain ⟨⟨dq, osq⟩, hw''⟩ := hw'
  have hb2 : Below W.heap.size W w0 := by rw [hw'']; exact below_regrown W dq osq
  replace hT := hT.on hb2
  replace hB := below_on hB hb2
  clear hw'' hb2
  generalize hm1 : (if (32 : Int) < (s.size : Int) then (32 : Int) else (s.size : Int)) = m1
  generalize hm2 : (if (32 : Int) < (t.size : Int) then (32 : Int) else (t.size : Int)) = m2
  have bm1 : m1 ≤ 32 := by split at hm1 <;> omega
  have bm2 : m2 ≤ 32 := by split at hm2 <;> omega
  clear hm1 hm2
  generalize ha : ByteArray.extract s 0 _ = a
  generalize hb : ByteArray.extract t 0 _ = b
  have ha32 : a.size ≤ 32 := by
    rw [← ha, ByteArray.size_extract]
    omega
  have hb32 : b.size ≤ 32 := by
    rw [← hb, ByteArray.size_extract]
    omega
  clear ha hb hs ht bm1 bm2
  have hab : (a ++ b).size ≤ 64 := by rw [ByteArray.size_append]; omega
  have H1 := Lib.hid (fun w => F.wide a w (by omega))
  have H2 := Lib.hid (fun w => F.wide b w (by omega))
  have H3 := Lib.hid (fun w => F.wide (a ++ b) w (by omega))
  rw [if_pos (show a.size ≤ 64 by omega)] at H1
  rw [if_pos (show b.size ≤ 64 by omega)] at H2
  rw [if_pos hab] at H3
  have hj := Lib.hid (joins_mod a b)
  obtain ⟨X, hX⟩ : ∃ X, numLE a.data.toList % l25 = X := ⟨_, rfl⟩
  obtain ⟨Y, hY⟩ : ∃ Y, numLE b.data.toList % l25 = Y := ⟨_, rfl⟩
  obtain ⟨Z, hZ⟩ : ∃ Z, numLE (a ++ b).data.toList % l25 = Z := ⟨_, rfl⟩
  have kX : X < K256 := by rw [← hX]; exact modL_K _
  have kY : Y < K256 := by rw [← hY]; exact modL_K _
  rw [hX] at H1
  rw [hY] at H2
  rw [hZ] at H3
  rw [hX, hY, hZ] at hj
  clear hX hY hZ
  have kX := Lib.hid kX
  have kY := Lib.hid kY
  go_upto_region 3 with (first
    | (go_at_call 15; refine (H1.out _ hT).mono ?_; rintro e w1 ⟨rfl, hb⟩; replace hT := hT.on hb; replace hB := below_on hB hb; clear hb)
    | ((with_reducible refine wpL_store w1.heap.size 24 _ (feA X) 4 rowFe ?_ (feA_size _) (feA_one _) (Lies.new w1 _ _) ?_ ?_ ?_); rfl; rfl; rfl))
  have hx := newly_lies w1 24 fe0A (feA X)
  have hnw := newly w1 (.cells fe0A 24) (feA X)
  replace hT := hT.on hnw
  replace hB := below_on hB hnw
  clear hnw H1
  generalize World.setRow _ _ _ = w2 at *
  generalize w1.heap.size = gx at *
  go_upto_region 4 with (first
    | (go_at_call 15; refine (H2.out _ hT).mono ?_; rintro e w3 ⟨rfl, hb⟩; replace hx := hx.on hb; replace hT := hT.on hb; replace hB := below_on hB hb; clear hb)
    | ((with_reducible refine wpL_store w3.heap.size 24 _ (feA Y) 4 rowFe ?_ (feA_size _) (feA_one _) (Lies.new w3 _ _) ?_ ?_ ?_); rfl; rfl; rfl))
  have hy := newly_lies w3 24 fe0A (feA Y)
  have hnw := newly w3 (.cells fe0A 24) (feA Y)
  replace hx := hx.on hnw
  replace hT := hT.on hnw
  replace hB := below_on hB hnw
  clear hnw H2
  generalize World.setRow _ _ _ = w4 at *
  generalize w3.heap.size = gy at *
  go_upto_region 5 with (first
    | (go_at_call 15; refine (H3.out _ hT).mono ?_; rintro e w5 ⟨rfl, hb⟩; replace hx := hx.on hb; replace hy := hy.on hb; replace hT := hT.on hb; replace hB := below_on hB hb; clear hb)
    | ((with_reducible refine wpL_store w5.heap.size 24 _ (feA Z) 4 rowFe ?_ (feA_size _) (feA_one _) (Lies.new w5 _ _) ?_ ?_ ?_); rfl; rfl; rfl))
  have hz := newly_lies w5 24 fe0A (feA Z)
  have hnw := newly w5 (.cells fe0A 24) (feA Z)
  replace hx := hx.on hnw
  replace hy := hy.on hnw
  replace hT := hT.on hnw
  replace hB := below_on hB hnw
  clear hnw H3
  generalize World.setRow _ _ _ = w6 at *
  generalize w5.heap.size = gz at *
  have hl32 : (a.size : Int) ≤ 32 := by omega
  go_upto_region 6 with fail
  have ht0 := Lies.new w6 24 #[.int .u64 1, .int .u64 0, .int .u64 0, .int .u64 0]
  have hnw := (Below.refl w6.heap.size w6).alloc (Nat.le_refl _) (.cells #[.int .u64 1, .int .u64 0, .int .u64 0, .int .u64 0] 24)
  generalize World.alloc w6 _ = w7 at *
  have ce := fe_word 256 (by decide)
  go_wp2_with fail
  go_loopw [42] (fun ix wr => ∃ k : Nat, k ≤ a.size ∧ ix = .int .i64 k ∧ Lies wr w6.heap.size 24 (feA (256 ^ k % l25)) ∧ Below w6.heap.size w6 wr) (fun ix _ => a.size - (intOf ix).toNat)
  case atStart => exact ⟨0, by omega, rfl, by rw [feA_pow0]; exact ht0, hnw⟩
  case round =>
    obtain ⟨k, hk, rfl, ht1, hb1⟩ := hrel
    have hTr := hT.on hb1
    by_cases hlt : k < a.size
    · have HM := Lib.hid (fun w => F.mul (256 ^ k % l25) 256 w (modL_K _) (by decide))
      rw [times_mod, ce] at HM
      have hg := Nat.le_refl w6.heap.size
      generalize hP : 256 ^ k % l25 = P at HM ht1
      generalize hQ : 256 ^ (k + 1) % l25 = Q at HM
      have HQ := Lib.hid hQ
      clear hP hQ
      go_wp2_with (first
        | ((with_reducible refine wpL_load w6.heap.size 24 (feA P) 4 rowFe (feA_size _) ht1 ?_ ?_); rfl)
        | (go_at_call 13; refine (HM.out _ hTr).mono ?_; rintro e w8 ⟨rfl, hb⟩; replace ht1 := ht1.on hb; replace hb1 := below_on hb1 hb; clear hb)
        | ((with_reducible refine wpL_store w6.heap.size 24 (feA P) (feA Q) 4 rowFe (feA_size _) (feA_size _) (feA_one _) ht1 ?_ ?_ ?_); rfl; rfl))
      go_roundw
      case rel => exact ⟨k + 1, by omega, val_int (by omega), by rw [HQ.out]; exact ht1.row _, below_rowSet hb1 hg _⟩
      case measure => simp [intOf]; omega
    · obtain rfl : k = a.size := by omega
      obtain ⟨T, hTd⟩ : ∃ T, 256 ^ a.size % l25 = T := ⟨_, rfl⟩
      have kT : T < K256 := by rw [← hTd]; exact modL_K _
      rw [hTd] at ht1 hj
      clear hTd
      replace hx := hx.on hb1
      replace hy := hy.on hb1
      replace hz := hz.on hb1
      replace hB := below_on hB hb1
      have cA := reg (fun w hw => alive_any F w (hTr.on hw))
      have cM := reg (fun w hw => F.mul Y T w kY.out kT (hTr.on hw))
      have cP := reg (fun w hw => F.add X (Y * T % l25) w kX.out (modL_K _) (hTr.on hw))
      have hE := fun w => eql_self Z w
      rw [← hj.out] at cP
      generalize Y * T % l25 = M at cM cP
      obtain ⟨x0, x1, x2, x3, hxe⟩ := fe_four X
      obtain ⟨y0, y1, y2, y3, hye⟩ := fe_four Y
      obtain ⟨z0, z1, z2, z3, hze⟩ := fe_four Z
      obtain ⟨t0, t1, t2, t3, hte⟩ := fe_four T
      have e1 : fe X = .agg #[w64 x0, w64 x1, w64 x2, w64 x3] := by rw [fe, hxe]
      have e2 : fe Y = .agg #[w64 y0, w64 y1, w64 y2, w64 y3] := by rw [fe, hye]
      have e3 : fe Z = .agg #[w64 z0, w64 z1, w64 z2, w64 z3] := by rw [fe, hze]
      have e4 : fe T = .agg #[w64 t0, w64 t1, w64 t2, w64 t3] := by rw [fe, hte]
      rw [e2, e4] at cM
      rw [e1, e3] at cP
      rw [e3] at hE
      rw [hxe] at hx
      rw [hye] at hy
      rw [hze] at hz
      rw [hte] at ht1
      obtain ⟨s0, s1, s2, s3⟩ := hx.four
      have k0 := cell_regrown s0
      have k1 := cell_regrown s1
      have k2 := cell_regrown s2
      have k3 := cell_regrown s3
      obtain ⟨s0, s1, s2, s3⟩ := hy.four
      have l0 := cell_regrown s0
      have l1 := cell_regrown s1
      have l2 := cell_regrown s2
      have l3 := cell_regrown s3
      obtain ⟨s0, s1, s2, s3⟩ := hz.four
      have m0 := cell_regrown s0
      have m1 := cell_regrown s1
      have m2 := cell_regrown s2
      have m3 := cell_regrown s3
      obtain ⟨s0, s1, s2, s3⟩ := ht1.four
      have n0 := cell_regrown s0
      have n1 := cell_regrown s1
      have n2 := cell_regrown s2
      have n3 := cell_regrown s3
      clear s0 s1 s2 s3 e1 e2 e3 e4 hxe hye hze hte hj kT ce
      go_upto_region 10 with fail
      refine wp_region_quiet_below (by kernel_rfl) (by kernel_rfl) ?_
      repeat (go_big_quiet_step (first | with_reducible exact cA _ _ | with_reducible exact cM _ _ | with_reducible exact cP _ _))
      refine wpQuiet_nil ?_
      intro w9 hw'
      obtain ⟨⟨dq, osq⟩, hw''⟩ := hw'
      have hb2 : Below wr.heap.size wr w9 := by rw [hw'']; exact below_regrown wr dq osq
      replace hB := below_on hB hb2
      clear hw'' hb2
      go_wp2_with fail
      all_goals
        go_ret
        exact ⟨rfl, hB⟩
end Go.Proofs.YtknpgijapbkebaaDoor.F
