/- What is proved: whatever number and text the statement of what is written and parsed is called with, it answers true, if the scalars' functions keep their contracts. -/
import Derived.Test.YtknpgijapbkebaaDoorGNum
import Derived.Test.YtknpgijapbkebaaDoorGBelow
namespace Go.Proofs.YtknpgijapbkebaaDoor.F
open Go.RowKit Go.Sort
attribute [local irreducible] feA

theorem parse_back (F : ScalarOk) (n : Nat) (w : World) (hT : Tab w) : Calls Tryd.prog 16 #[.string ⟨(leL (n % l25) 32).toArray⟩] w fun e w' => e = .returned (.tuple #[fe (n % l25), .int .i64 0]) ∧ Below w.heap.size w w' := by
  have hs : (⟨(leL (n % l25) 32).toArray⟩ : ByteArray).size = 32 := by
    show (leL (n % l25) 32).toArray.size = 32
    rw [List.size_toArray, leL_length]
  have hv : numLE (leL (n % l25) 32) = n % l25 := by
    rw [numLE_leL, Nat.mod_eq_of_lt]
    exact modL_K n
  have h := F.parse ⟨(leL (n % l25) 32).toArray⟩ w (by rw [hs]; decide) hT
  rw [if_pos hs, show (⟨(leL (n % l25) 32).toArray⟩ : ByteArray).data.toList = leL (n % l25) 32 from rfl, hv, if_pos (Nat.mod_lt _ l25_pos)] at h
  exact h
theorem bytes_back (F : ScalarOk) (t : ByteArray) (ht : t.size = 32) (hp : numLE t.data.toList < l25) (w : World) (hT : Tab w) : Calls Tryd.prog 17 #[fe (numLE t.data.toList)] w fun e w' => e = .returned (.string t) ∧ Below w.heap.size w w' := by
  have h := F.bytes (numLE t.data.toList) w (lt_KL hp) hT
  have hl : t.data.toList.length = 32 := by rw [← Lib.size_eq]; exact ht
  have e := leL_numLE t.data.toList
  rw [hl] at e
  rw [Nat.mod_eq_of_lt hp, e, show (⟨t.data.toList.toArray⟩ : ByteArray) = t from rfl] at h
  exact h
theorem same_zero (w : World) : (binOp .eql 24 (fe 0) (.agg #[.int .u64 0, .int .u64 0, .int .u64 0, .int .u64 0])).run Tryd.prog w = .ok (.bool true) w := zero_four 0 (by decide) w

set_option maxRecDepth 100000 in
set_option maxHeartbeats 1600000 in
theorem back_walk (F : ScalarOk) (n : Nat) (hn : n < K256) (s : ByteArray) (hs : s.size ≤ 9223372036854775807) (W : World) (hT : Tab W) :
    Calls Tryd.prog 5 #[fe n, .string s] W fun e w' => e = .returned (.bool true) ∧ Below W.heap.size W w' := by
  obtain ⟨N, hN⟩ : ∃ N, n % l25 = N := ⟨_, rfl⟩
  have HBy := Lib.hid (fun w => F.bytes n w hn)
  have HPb := Lib.hid (parse_back F n)
  have HL := Lib.hid (fun w => refLeast_any n w hn)
  rw [hN] at HBy HPb HL
  clear hN
  obtain ⟨B, hBdef⟩ : ∃ B : ByteArray, (⟨(leL N 32).toArray⟩ : ByteArray) = B := ⟨_, rfl⟩
  have hB32 : (B.size : Int) = 32 := by
    rw [← hBdef]
    show ((leL N 32).toArray.size : Int) = 32
    rw [List.size_toArray, leL_length]
    rfl
  rw [hBdef] at HBy HPb
  clear hBdef
  have hx := Lies.new W 24 (feA n)
  have hB := (Below.refl W.heap.size W).alloc (Nat.le_refl _) (.cells (feA n) 24)
  replace hT := hT.on hB
  go_enter Tryd.func5, Tryd.ntmps5
  go_upto_region 1 with fail
  generalize World.alloc W _ = w0 at *
  go_upto_region 2 with fail
  generalize ht : ByteArray.extract s 0 _ = t
  have ht40 : t.size ≤ 40 := by
    rw [← ht, ByteArray.size_extract]
    split <;> omega
  clear ht hs
  go_upto_region 4 with (first
    | ((with_reducible refine wpL_load W.heap.size 24 (feA n) 4 rowFe (feA_size _) hx ?_ ?_); rfl)
    | (go_at_call 17; refine (HBy.out _ hT).mono ?_; rintro e w1 ⟨rfl, hb⟩; replace hx := hx.on hb; replace hT := hT.on hb; replace hB := below_on hB hb; clear hb)
    | (go_at_call 16; refine (HPb.out _ hT).mono ?_; rintro e w2 ⟨rfl, hb⟩; replace hx := hx.on hb; replace hT := hT.on hb; replace hB := below_on hB hb; clear hb)
    | ((with_reducible refine wpL_store w2.heap.size 24 _ (feA N) 4 rowFe ?_ (feA_size _) (feA_one _) (Lies.new w2 _ _) ?_ ?_ ?_); rfl; rfl; rfl))
  have hy := newly_lies w2 24 fe0A (feA N)
  have hnw := newly w2 (.cells fe0A 24) (feA N)
  replace hx := hx.on hnw
  replace hT := hT.on hnw
  replace hB := below_on hB hnw
  clear hnw HBy HPb
  generalize World.setRow _ _ _ = w5 at *
  generalize w2.heap.size = gy at *
  have cA := reg (fun w hw => alive_any F w (hT.on hw))
  have cL := reg (W := w5) (fun w _ => HL.out w)
  obtain ⟨x0, x1, x2, x3, hxe⟩ := fe_four n
  obtain ⟨y0, y1, y2, y3, hye⟩ := fe_four N
  have e1 : fe n = .agg #[w64 x0, w64 x1, w64 x2, w64 x3] := by rw [fe, hxe]
  have e2 : fe N = .agg #[w64 y0, w64 y1, w64 y2, w64 y3] := by rw [fe, hye]
  have hN := fun w => neq_self N w
  rw [e2] at hN cL
  rw [e1] at cL
  rw [hxe] at hx
  rw [hye] at hy
  rw [e1, e2]
  obtain ⟨s0, s1, s2, s3⟩ := hx.four
  obtain ⟨t0, t1, t2, t3⟩ := hy.four
  have k0 := cell_regrown s0
  have k1 := cell_regrown s1
  have k2 := cell_regrown s2
  have k3 := cell_regrown s3
  have l0 := cell_regrown t0
  have l1 := cell_regrown t1
  have l2 := cell_regrown t2
  have l3 := cell_regrown t3
  clear s0 s1 s2 s3 t0 t1 t2 t3 e1 e2 hxe hye HL hn
  refine wp_region_quiet_below (by kernel_rfl) (by kernel_rfl) ?_
  repeat (go_big_quiet_step (first | with_reducible exact cA _ _ | with_reducible exact cL _ _))
  refine wpQuiet_nil ?_
  intro w6 hw'
  obtain ⟨⟨dq, osq⟩, hw''⟩ := hw'
  have hb2 : Below w5.heap.size w5 w6 := by rw [hw'']; exact below_regrown w5 dq osq
  replace hT := hT.on hb2
  replace hB := below_on hB hb2
  clear hw'' hb2 k0 k1 k2 k3 l0 l1 l2 l3 hx hy cA cL hN
  obtain ⟨Z, E, hZE, hZK, hcase⟩ : ∃ (Z E : Nat), (if t.size = 32 then if numLE t.data.toList < l25 then Value.tuple #[fe (numLE t.data.toList), .int .i64 0] else .tuple #[fe 0, .int .i64 11] else .tuple #[fe 0, .int .i64 1]) = .tuple #[fe Z, .int .i64 (E : Int)] ∧ Z < K256 ∧ Hid ((t.size ≠ 32 ∧ Z = 0 ∧ E = 1) ∨ (t.size = 32 ∧ ¬ numLE t.data.toList < l25 ∧ Z = 0 ∧ E = 11) ∨ (t.size = 32 ∧ numLE t.data.toList < l25 ∧ Z = numLE t.data.toList ∧ E = 0)) := by
    by_cases h1 : t.size = 32
    · by_cases h2 : numLE t.data.toList < l25
      · exact ⟨_, 0, by rw [if_pos h1, if_pos h2]; rfl, lt_KL h2, Lib.hid (.inr (.inr ⟨h1, h2, rfl, rfl⟩))⟩
      · exact ⟨0, 11, by rw [if_pos h1, if_neg h2]; rfl, by decide, Lib.hid (.inr (.inl ⟨h1, h2, rfl, rfl⟩))⟩
    · exact ⟨0, 1, by rw [if_neg h1]; rfl, by decide, Lib.hid (.inl ⟨h1, rfl, rfl⟩)⟩
  have HPt := Lib.hid (fun w => F.parse t w (by omega))
  rw [hZE] at HPt
  clear hZE
  go_upto_region 7 with (first
    | (go_at_call 16; refine (HPt.out _ hT).mono ?_; rintro e w7 ⟨rfl, hb⟩; replace hT := hT.on hb; replace hB := below_on hB hb; clear hb)
    | ((with_reducible refine wpL_store w7.heap.size 24 _ (feA Z) 4 rowFe ?_ (feA_size _) (feA_one _) (Lies.new w7 _ _) ?_ ?_ ?_); rfl; rfl; rfl))
  have hz := newly_lies w7 24 fe0A (feA Z)
  have hnw := newly w7 (.cells fe0A 24) (feA Z)
  replace hT := hT.on hnw
  replace hB := below_on hB hnw
  clear hnw HPt
  generalize World.setRow _ _ _ = w8 at *
  generalize w7.heap.size = gz at *
  obtain ⟨z0, z1, z2, z3, hze⟩ := fe_four Z
  have e3 : fe Z = .agg #[w64 z0, w64 z1, w64 z2, w64 z3] := by rw [fe, hze]
  rw [hze] at hz
  rw [e3]
  obtain ⟨s0, s1, s2, s3⟩ := hz.four
  rcases hcase.out with ⟨h1, rfl, rfl⟩ | ⟨h1, h2, rfl, rfl⟩ | ⟨h1, h2, hZ, rfl⟩
  · have hZ0 := fun w => same_zero w
    rw [e3] at hZ0
    clear hze e3 hcase h1
    go_wp2_with fail
    all_goals
      go_ret
      exact ⟨rfl, hB⟩
  · have hZ0 := fun w => same_zero w
    rw [e3] at hZ0
    clear hze e3 h1 h2 hcase
    go_wp2_with fail
    all_goals
      go_ret
      exact ⟨rfl, hB⟩
  · have HBB := Lib.hid (bytes_back F t h1 h2)
    rw [← hZ, e3] at HBB
    clear hze e3 h1 h2 hZ hcase
    go_wp2_with (go_at_call 17; refine (HBB.out _ hT).mono ?_; rintro e w9 ⟨rfl, hb⟩; replace hB := below_on hB hb; clear hb)
    all_goals
      go_ret
      exact ⟨rfl, hB⟩
end Go.Proofs.YtknpgijapbkebaaDoor.F
