/- What is proved: whatever number and text the statement of bytes is called with, it answers true, if the scalars' functions keep their contracts. -/
import Derived.Test.YtknpgijapbkebaaDoorGNum
import Derived.Test.YtknpgijapbkebaaDoorGBelow
namespace Go.Proofs.YtknpgijapbkebaaDoor.F
open Go.RowKit Go.Sort
attribute [local irreducible] feA

theorem same_zero_b (w : World) : (binOp .eql 24 (fe 0) (.agg #[.int .u64 0, .int .u64 0, .int .u64 0, .int .u64 0])).run Tryd.prog w = .ok (.bool true) w := zero_four 0 (by decide) w

set_option maxRecDepth 100000 in
set_option maxHeartbeats 1600000 in
theorem bytes_walk (F : ScalarOk) (n : Nat) (hn : n < K256) (s : ByteArray) (hs : s.size ≤ 9223372036854775807) (W : World) (hT : Tab W) :
    Calls Tryd.prog 4 #[fe n, .string s] W fun e W' => e = .returned (.bool true) ∧ Below W.heap.size W W' := by
  have HBy := Lib.hid (fun w => F.bytes n w hn)
  have HRb := Lib.hid (fun w => refBytes_any n w hn)
  obtain ⟨N, hN⟩ : ∃ N, n % l25 = N := ⟨_, rfl⟩
  rw [hN] at HBy HRb
  clear hN
  obtain ⟨T, hTdef⟩ : ∃ T : ByteArray, (⟨(leL N 32).toArray⟩ : ByteArray) = T := ⟨_, rfl⟩
  rw [hTdef] at HBy HRb
  clear hTdef
  have hx := Lies.new W 24 (feA n)
  have hB := (Below.refl W.heap.size W).alloc (Nat.le_refl _) (.cells (feA n) 24)
  replace hT := hT.on hB
  go_enter Tryd.func4, Tryd.ntmps4
  go_upto_region 1 with fail
  generalize World.alloc W _ = w0 at *
  go_upto_region 2 with fail
  generalize ht : ByteArray.extract s 0 _ = t
  have ht70 : t.size ≤ 70 := by
    rw [← ht, ByteArray.size_extract]
    split <;> omega
  clear ht hs
  obtain ⟨A, B, E1, E2, hA, hZB, kA, kB, hcase⟩ : ∃ (A B : Nat) (E1 E2 : Int),
      (if t.size ≤ 64 then Value.tuple #[fe (numLE t.data.toList % l25), .int .i64 0] else .tuple #[fe 0, .int .i64 1]) = .tuple #[fe A, .int .i64 E1] ∧
      (if t.size = 32 then if numLE t.data.toList < l25 then Value.tuple #[fe (numLE t.data.toList), .int .i64 0] else .tuple #[fe 0, .int .i64 11] else .tuple #[fe 0, .int .i64 1]) = .tuple #[fe B, .int .i64 E2] ∧ A < K256 ∧ B < K256 ∧
      Hid ((¬ t.size ≤ 64 ∧ A = 0 ∧ B = 0 ∧ E1 = 1 ∧ E2 = 1) ∨ (t.size ≤ 64 ∧ t.size ≠ 32 ∧ A = numLE t.data.toList % l25 ∧ B = 0 ∧ E1 = 0 ∧ E2 = 1) ∨ (t.size = 32 ∧ ¬ numLE t.data.toList < l25 ∧ A = numLE t.data.toList % l25 ∧ B = 0 ∧ E1 = 0 ∧ E2 = 11) ∨ (t.size = 32 ∧ numLE t.data.toList < l25 ∧ A = numLE t.data.toList % l25 ∧ B = A ∧ E1 = 0 ∧ E2 = 0)) := by
    by_cases h0 : t.size ≤ 64
    · by_cases h1 : t.size = 32
      · by_cases h2 : numLE t.data.toList < l25
        · exact ⟨_, _, 0, 0, by rw [if_pos h0], by rw [if_pos h1, if_pos h2], modL_K _, lt_KL h2, Lib.hid (.inr (.inr (.inr ⟨h1, h2, rfl, (Nat.mod_eq_of_lt h2).symm, rfl, rfl⟩)))⟩
        · exact ⟨_, 0, 0, 11, by rw [if_pos h0], by rw [if_pos h1, if_neg h2], modL_K _, by decide, Lib.hid (.inr (.inr (.inl ⟨h1, h2, rfl, rfl, rfl, rfl⟩)))⟩
      · exact ⟨_, 0, 0, 1, by rw [if_pos h0], by rw [if_neg h1], modL_K _, by decide, Lib.hid (.inr (.inl ⟨h0, h1, rfl, rfl, rfl, rfl⟩))⟩
    · exact ⟨0, 0, 1, 1, by rw [if_neg h0], by rw [if_neg (by omega)], by decide, by decide, Lib.hid (.inl ⟨h0, rfl, rfl, rfl, rfl⟩)⟩
  have HWd := Lib.hid (fun w => F.wide t w (by omega))
  have HPt := Lib.hid (fun w => F.parse t w (by omega))
  rw [hA] at HWd
  rw [hZB] at HPt
  clear hA hZB
  go_upto_region 3 with (first
    | (go_at_call 15; refine (HWd.out _ hT).mono ?_; rintro e w1 ⟨rfl, hb⟩; replace hx := hx.on hb; replace hT := hT.on hb; replace hB := below_on hB hb; clear hb)
    | ((with_reducible refine wpL_store w1.heap.size 24 _ (feA A) 4 rowFe ?_ (feA_size _) (feA_one _) (Lies.new w1 _ _) ?_ ?_ ?_); rfl; rfl; rfl))
  have hy := newly_lies w1 24 fe0A (feA A)
  have hnw := newly w1 (.cells fe0A 24) (feA A)
  replace hx := hx.on hnw
  replace hT := hT.on hnw
  replace hB := below_on hB hnw
  clear hnw HWd
  generalize World.setRow _ _ _ = w2 at *
  generalize w1.heap.size = gy at *
  go_upto_region 4 with (first
    | (go_at_call 16; refine (HPt.out _ hT).mono ?_; rintro e w3 ⟨rfl, hb⟩; replace hx := hx.on hb; replace hy := hy.on hb; replace hT := hT.on hb; replace hB := below_on hB hb; clear hb)
    | ((with_reducible refine wpL_store w3.heap.size 24 _ (feA B) 4 rowFe ?_ (feA_size _) (feA_one _) (Lies.new w3 _ _) ?_ ?_ ?_); rfl; rfl; rfl))
  have hz := newly_lies w3 24 fe0A (feA B)
  have hnw := newly w3 (.cells fe0A 24) (feA B)
  replace hx := hx.on hnw
  replace hy := hy.on hnw
  replace hT := hT.on hnw
  replace hB := below_on hB hnw
  clear hnw HPt
  generalize World.setRow _ _ _ = w5 at *
  generalize w3.heap.size = gz at *
  have cA := reg (fun w hw => alive_any F w (hT.on hw))
  have cB := reg (fun w hw => HBy.out w (hT.on hw))
  have cR := reg (W := w5) (fun w _ => HRb.out w)
  obtain ⟨x0, x1, x2, x3, hxe⟩ := fe_four n
  obtain ⟨y0, y1, y2, y3, hye⟩ := fe_four A
  obtain ⟨z0, z1, z2, z3, hze⟩ := fe_four B
  have e1 : fe n = .agg #[w64 x0, w64 x1, w64 x2, w64 x3] := by rw [fe, hxe]
  have e2 : fe A = .agg #[w64 y0, w64 y1, w64 y2, w64 y3] := by rw [fe, hye]
  have e3 : fe B = .agg #[w64 z0, w64 z1, w64 z2, w64 z3] := by rw [fe, hze]
  rw [e1] at cR cB
  rw [hxe] at hx
  rw [hye] at hy
  rw [hze] at hz
  obtain ⟨s0, s1, s2, s3⟩ := hx.four
  have k0 := cell_regrown s0
  have k1 := cell_regrown s1
  have k2 := cell_regrown s2
  have k3 := cell_regrown s3
  clear s0 s1 s2 s3 e1 hxe HRb HBy hn
  refine wp_region_quiet_below (by kernel_rfl) (by kernel_rfl) ?_
  repeat (go_big_quiet_step (first | with_reducible exact cA _ _ | with_reducible exact cR _ _ | with_reducible exact cB _ _))
  refine wpQuiet_nil ?_
  intro w6 hw'
  obtain ⟨⟨dq, osq⟩, hw''⟩ := hw'
  have hb2 : Below w5.heap.size w5 w6 := by rw [hw'']; exact below_regrown w5 dq osq
  replace hy := hy.on hb2
  replace hz := hz.on hb2
  replace hT := hT.on hb2
  replace hB := below_on hB hb2
  clear hw'' hb2 k0 k1 k2 k3 hx cA cB cR
  obtain ⟨s0, s1, s2, s3⟩ := hy.four
  obtain ⟨t0, t1, t2, t3⟩ := hz.four
  rcases hcase.out with ⟨h0, rfl, rfl, rfl, rfl⟩ | ⟨h0, h1, hAe, rfl, rfl, rfl⟩ | ⟨h1, h2, hAe, rfl, rfl, rfl⟩ | ⟨h1, h2, hAe, rfl, rfl, rfl⟩
  · have hZ1 := fun w => same_zero_b w
    have hZ2 := fun w => same_zero_b w
    have hZ3 := fun w => eql_self 0 w
    rw [e2] at hZ1
    rw [e3] at hZ2
    have hZ4 : ∀ w, (binOp .eql 24 (.agg #[w64 z0, w64 z1, w64 z2, w64 z3]) (.agg #[w64 y0, w64 y1, w64 y2, w64 y3])).run Tryd.prog w = .ok (.bool true) w := fun w => by
      rw [← e2, ← e3]
      exact eql_self 0 w
    have hi : ¬ (t.size : Int) ≤ 64 := by omega
    clear hye hze e2 e3 hcase hZ3
    go_wp2_with fail
    all_goals
      go_ret
      exact ⟨rfl, hB⟩
  all_goals
    have HRW := Lib.hid (fun w => refWide_any t (by omega) w)
    rw [← hAe] at HRW
  · have hZ2 := fun w => same_zero_b w
    rw [e3] at hZ2
    have hNe := fun w => neq_self A w
    rw [e2] at hNe HRW
    have hi : (t.size : Int) ≤ 64 := by omega
    have hj : ¬ (t.size : Int) = 32 := by omega
    have k0 := cell_regrown s0
    have k1 := cell_regrown s1
    have k2 := cell_regrown s2
    have k3 := cell_regrown s3
    have cW := reg (W := w6) (fun w _ => HRW.out w)
    clear hAe hye hze e2 e3 hcase
    go_upto_region 8 with fail
    refine wp_region_quiet_below (by kernel_rfl) (by kernel_rfl) ?_
    repeat (go_big_quiet_step (with_reducible exact cW _ _))
    refine wpQuiet_nil ?_
    intro w7 hw'
    obtain ⟨⟨dq, osq⟩, hw''⟩ := hw'
    have hb2 : Below w6.heap.size w6 w7 := by rw [hw'']; exact below_regrown w6 dq osq
    replace hz := hz.on hb2
    replace hB := below_on hB hb2
    clear hw'' hb2 k0 k1 k2 k3 hy s0 s1 s2 s3 t0 t1 t2 t3 cW
    obtain ⟨t0, t1, t2, t3⟩ := hz.four
    go_wp2_with fail
    all_goals
      go_ret
      exact ⟨rfl, hB⟩
  · have hZ2 := fun w => same_zero_b w
    rw [e3] at hZ2
    have hNe := fun w => neq_self A w
    rw [e2] at hNe HRW
    have HRP := Lib.hid (fun w => refBelow_any t h1 w)
    rw [decide_eq_false h2] at HRP
    have hi : (t.size : Int) = 32 := by omega
    have k0 := cell_regrown s0
    have k1 := cell_regrown s1
    have k2 := cell_regrown s2
    have k3 := cell_regrown s3
    have cW := reg (W := w6) (fun w _ => HRW.out w)
    clear hAe hye hze e2 e3 hcase h1 h2
    go_upto_region 8 with fail
    refine wp_region_quiet_below (by kernel_rfl) (by kernel_rfl) ?_
    repeat (go_big_quiet_step (with_reducible exact cW _ _))
    refine wpQuiet_nil ?_
    intro w7 hw'
    obtain ⟨⟨dq, osq⟩, hw''⟩ := hw'
    have hb2 : Below w6.heap.size w6 w7 := by rw [hw'']; exact below_regrown w6 dq osq
    replace hz := hz.on hb2
    replace hB := below_on hB hb2
    clear hw'' hb2 k0 k1 k2 k3 hy s0 s1 s2 s3 t0 t1 t2 t3 cW
    go_upto_region 13 with (go_at_call 20; refine (HRP.out _).mono ?_; rintro e w8 ⟨rfl, hb⟩; replace hz := hz.on hb; replace hB := below_on hB hb; clear hb)
    obtain ⟨t0, t1, t2, t3⟩ := hz.four
    go_wp2_with fail
    all_goals
      go_ret
      exact ⟨rfl, hB⟩
  · have hNe := fun w => neq_self B w
    rw [e2] at hNe HRW
    have HRP := Lib.hid (fun w => refBelow_any t h1 w)
    rw [decide_eq_true h2] at HRP
    have hZ4 : ∀ w, (binOp .eql 24 (.agg #[w64 z0, w64 z1, w64 z2, w64 z3]) (.agg #[w64 y0, w64 y1, w64 y2, w64 y3])).run Tryd.prog w = .ok (.bool true) w := fun w => by
      rw [← e2, ← e3]
      exact eql_self _ w
    have hi : (t.size : Int) = 32 := by omega
    have k0 := cell_regrown s0
    have k1 := cell_regrown s1
    have k2 := cell_regrown s2
    have k3 := cell_regrown s3
    have cW := reg (W := w6) (fun w _ => HRW.out w)
    clear hAe hye hze e2 e3 hcase h1 h2
    go_upto_region 8 with fail
    refine wp_region_quiet_below (by kernel_rfl) (by kernel_rfl) ?_
    repeat (go_big_quiet_step (with_reducible exact cW _ _))
    refine wpQuiet_nil ?_
    intro w7 hw'
    obtain ⟨⟨dq, osq⟩, hw''⟩ := hw'
    have hb2 : Below w6.heap.size w6 w7 := by rw [hw'']; exact below_regrown w6 dq osq
    replace hy := hy.on hb2
    replace hz := hz.on hb2
    replace hB := below_on hB hb2
    clear hw'' hb2 k0 k1 k2 k3 s0 s1 s2 s3 t0 t1 t2 t3 cW
    go_upto_region 14 with (go_at_call 20; refine (HRP.out _).mono ?_; rintro e w8 ⟨rfl, hb⟩; replace hy := hy.on hb; replace hz := hz.on hb; replace hB := below_on hB hb; clear hb)
    obtain ⟨s0, s1, s2, s3⟩ := hy.four
    obtain ⟨t0, t1, t2, t3⟩ := hz.four
    go_wp2_with fail
    all_goals
      go_ret
      exact ⟨rfl, hB⟩
end Go.Proofs.YtknpgijapbkebaaDoor.F
