/- The walk of the statement of heads that are signed and checked: whatever key, size, root and time, it answers true. -/
import Derived.Test.YtdjglghecekeoaaGreatDoorK12
namespace Go.Proofs.YtdjglghecekeoaaGreatDoor.J
open Go.RowKit Go.Sort Go.Proofs.YtdjglghecekeoaaGreatDoor.U Go.Proofs.YtdjglghecekeoaaGreatDoor.R Go.Proofs.YtdjglghecekeoaaGreatDoor.Q
set_option maxRecDepth 100000

/-- 64 bytes that are 0 -/
def z64 : List UInt8 := List.replicate 64 0
theorem z64_length : z64.length = 64 := by decide
theorem z64_cells : Lib.byteCells z64 = List.replicate 64 (Value.int .u8 0) := by rfl
theorem run_eqlE {a : Act} {d : Option Tmp} {x y : Operand} {t' r : TypeId} {pos : String} {after : Array Edge} {gd : Option (Nat × Bool)} (n : Int) (hx : a.eval x = .int .i64 n) (hy : a.eval y = .int .i64 n) (w : World) :
    (execOp a.eval ⟨d, .binOp .eql 25 x y r, t', pos, after, gd⟩).run Tryz.prog w = .ok (.value (.bool true)) w := by
  unfold execOp
  simp only [hx, hy]
  simp [go_sem]
theorem time_next (t : Int) (h0 : 0 ≤ t) : ∃ m : Int, Int.tmod (t + 1) 1000 = m ∧ 0 ≤ m ∧ m ≤ 1099511627776 := ⟨_, rfl, Int.tmod_nonneg _ (by omega), by have := Int.tmod_lt_of_pos (t + 1) (show (0 : Int) < 1000 by decide); omega⟩
theorem right_any64 (s : Int) (r : List UInt8) (t : Int) : rightH s r t z64 = mayH s r t := by
  unfold rightH
  rw [decide_eq_true z64_length, Bool.and_true]
theorem check_own {key : ByteArray} {s t : Int} {r : List UInt8} (h : mayH s r t = true) : checkE (E.keyT key.data.toList) s r t (sigL key s r t) = 0 := by
  unfold checkE
  rw [if_pos (rightH_yes h (sig_length _ _ _ _)), ← sig_bytes]
  exact E.verify_own key _
theorem check_zero (key : ByteArray) : checkE key 0 [] 0 [] = 1 := by
  unfold checkE
  rw [if_neg (by decide)]
set_option maxHeartbeats 6400000 in
theorem signsJ_walk (A : C.Pts E.EdTab) (k0 : List UInt8) (s : Int) (r0 : List UInt8) (t : Int) (W : World) (hT : HTab W) (hT2 : E.EdTab2 W) :
    Calls Tryz.prog 4 #[.string (bytesOf k0), .int .i64 s, .string (bytesOf r0), .int .i64 t] W fun e w' => e = .returned (.bool true) ∧ Below W.heap.size W w' := by
  obtain ⟨K, hK⟩ : ∃ K, k0.take 40 = K := ⟨_, rfl⟩
  obtain ⟨r, hr⟩ : ∃ r, r0.take 40 = r := ⟨_, rfl⟩
  have hKl : (bytesOf K).size ≤ 1000 := by rw [bytes_size, ← hK, List.length_take]; omega
  have hKz : ((bytesOf K).size : Int) = (K.length : Int) := bytes_int K
  have HK := Lib.hid hK
  have HRr := Lib.hid hr
  have HSg := Lib.hid (fun w (hb : Below W.heap.size W w) => signH_any A (bytesOf K) s r t hKl w (hT.on hb).e)
  have HR := Lib.hid (fun w => refRightH_any s r t z64 w)
  have HAl := Lib.hid (fun w (hb : Below W.heap.size W w) => aliveH_any A w (hT.on hb))
  obtain ⟨i0, hi, hz0, hz1, hz2⟩ := info_parts info5
  rw [right_any64] at HR
  unfold signV at HSg
  clear hK hr
  by_cases hok : mayH s r t = true ∧ (bytesOf K).size = 32
  case neg =>
    rw [if_neg hok] at HSg
    clear hT hT2 hKl
    go_enter Tryz.func4, Tryz.ntmps4
    go_upto_region 1 with fail
    refine wp_held_any (S := fun _ => True) 12 rfl (by kernel_rfl) ?_
    have hB : Below W.heap.size W { W with drawn := W.drawn + 1 } := (Below.refl _ _).drew
    generalize ({ W with drawn := W.drawn + 1 } : World) = wd at *
    refine held_put 0 17 (.string (bytesOf k0)) rfl rfl (by kernel_rfl) (by kernel_rfl) (by kernel_rfl) (by kernel_rfl) (fun w hS => rfl) trivial ?_
    simp only [List.setIfInBounds_toArray, List.set_cons_succ, List.set_cons_zero]
    refine held_put 1 18 (.string (bytesOf k0)) rfl rfl (by kernel_rfl) (by kernel_rfl) (by kernel_rfl) (by kernel_rfl) (fun w hS => rfl) trivial ?_
    simp only [List.setIfInBounds_toArray, List.set_cons_succ, List.set_cons_zero]
    refine held_put 2 19 (.int .i64 (k0.length : Int)) rfl rfl (by kernel_rfl) (by kernel_rfl) (by kernel_rfl) (by kernel_rfl) (fun w hS => run_lenS k0 rfl w) trivial ?_
    simp only [List.setIfInBounds_toArray, List.set_cons_succ, List.set_cons_zero]
    refine held_put 3 20 (.int .i64 (min (k0.length : Int) 40)) rfl rfl (by kernel_rfl) (by kernel_rfl) (by kernel_rfl) (by kernel_rfl) (fun w hS => run_minI _ 40 rfl w) trivial ?_
    simp only [List.setIfInBounds_toArray, List.set_cons_succ, List.set_cons_zero]
    refine held_put 4 21 (.string (bytesOf K)) rfl rfl (by kernel_rfl) (by kernel_rfl) (by kernel_rfl) (by kernel_rfl) (fun w hS => by rw [← HK.out]; exact run_cutS k0 40 rfl rfl w) trivial ?_
    simp only [List.setIfInBounds_toArray, List.set_cons_succ, List.set_cons_zero]
    refine held_put 5 22 (.string (bytesOf r0)) rfl rfl (by kernel_rfl) (by kernel_rfl) (by kernel_rfl) (by kernel_rfl) (fun w hS => rfl) trivial ?_
    simp only [List.setIfInBounds_toArray, List.set_cons_succ, List.set_cons_zero]
    refine held_put 6 23 (.string (bytesOf r0)) rfl rfl (by kernel_rfl) (by kernel_rfl) (by kernel_rfl) (by kernel_rfl) (fun w hS => rfl) trivial ?_
    simp only [List.setIfInBounds_toArray, List.set_cons_succ, List.set_cons_zero]
    refine held_put 7 24 (.int .i64 (r0.length : Int)) rfl rfl (by kernel_rfl) (by kernel_rfl) (by kernel_rfl) (by kernel_rfl) (fun w hS => run_lenS r0 rfl w) trivial ?_
    simp only [List.setIfInBounds_toArray, List.set_cons_succ, List.set_cons_zero]
    refine held_put 8 25 (.int .i64 (min (r0.length : Int) 40)) rfl rfl (by kernel_rfl) (by kernel_rfl) (by kernel_rfl) (by kernel_rfl) (fun w hS => run_minI _ 40 rfl w) trivial ?_
    simp only [List.setIfInBounds_toArray, List.set_cons_succ, List.set_cons_zero]
    refine held_put 9 26 (.string (bytesOf r)) rfl rfl (by kernel_rfl) (by kernel_rfl) (by kernel_rfl) (by kernel_rfl) (fun w hS => by rw [← HRr.out]; exact run_cutS r0 40 rfl rfl w) trivial ?_
    simp only [List.setIfInBounds_toArray, List.set_cons_succ, List.set_cons_zero]
    refine held_put 10 0 (.string (bytesOf K)) rfl rfl (by kernel_rfl) (by kernel_rfl) (by kernel_rfl) (by kernel_rfl) (fun w hS => rfl) trivial ?_
    simp only [List.setIfInBounds_toArray, List.set_cons_zero]
    refine held_put 11 2 (.string (bytesOf r)) rfl rfl (by kernel_rfl) (by kernel_rfl) (by kernel_rfl) (by kernel_rfl) (fun w hS => rfl) trivial ?_
    simp only [List.setIfInBounds_toArray, List.set_cons_succ, List.set_cons_zero]
    refine held_done (by kernel_rfl) ?_
    simp only [Exit.then]
    clear HK HRr
    go_upto_region 3 with (first
      | (go_at_call 17; (with_reducible refine (HSg.out _ hB).mono ?_); rintro e w1 ⟨rfl, hb⟩; replace hB := below_on hB hb; clear hb)
      | ((with_reducible refine wpL_store w1.heap.size 23 _ (headA 0 [] 0 []) 4 rowHead ?_ rfl (headA_one _ _ _ _) (Lies.new w1 _ _) ?_ ?_ ?_); rfl; rfl; rfl))
    generalize hgw : World.setRow _ _ _ = w2
    have hH : Lies w2 w1.heap.size 23 (headA 0 [] 0 []) := by rw [← hgw]; exact newH_lies w1 _ _ _
    replace hB : Below W.heap.size W w2 := by rw [← hgw]; exact below_on hB (newH w1 _ _)
    clear hgw
    generalize w1.heap.size = bh at *
    go_upto_region 4 with (at_make; refine wpList_make_full _ rfl _ _ 37 rfl w2.heap.size 5 i0 (.int .u8 0) 1 Tryz.underlying37 hi hz0 hz1 _ _ _ _ 64 rfl rfl rfl rfl ?b2 ?b3 (Nat.le_refl _) ?_)
    case b2 => rw [hz2]; omega
    case b3 => unfold maxLen; omega
    intro wm hown hgrow
    have hbm : Below w2.heap.size w2 wm := (Below.refl _ _).grown hgrow (Nat.le_refl _) (fun k hk => by cases hk)
    have hcv := str_own (l := z64) (by rw [z64_cells]; simpa [toList_madeCells_one] using hown)
    clear hgrow hown
    replace hH := hH.on hbm
    replace hB := below_on hB hbm
    clear hbm
    go_upto_region 4 with fail
    generalize hgw : World.alloc wm _ = w3
    have hWw : Lies w3 wm.heap.size 23 (headA s r t z64) := by rw [← hgw]; exact Lies.new wm _ _
    replace hH : Lies w3 bh 23 (headA 0 [] 0 []) := by rw [← hgw]; exact hH.alloc _
    replace hB : Below W.heap.size W w3 := by rw [← hgw]; exact hB.alloc hB.size _
    clear hgw
    clear hcv hi hz0 hz1 hz2 HSg
    generalize wm.heap.size = bw at *
    by_cases h32 : (bytesOf K).size = 32
    · have hm : mayH s r t = false := by
        cases hm : mayH s r t with
        | false => rfl
        | true => exact absurd ⟨hm, h32⟩ hok
      rw [hm] at HR
      have h33 : ((K.length : Int) != 32) = false := by rw [bytes_size] at h32; simp; omega
      clear hm hok h32
      go_wp2_with (first
        | ((with_reducible refine wpL_load_gH bh 23 (headA 0 [] 0 []) 4 rowHead rfl hH ?_ ?_ ?_); rfl; rfl)
        | ((with_reducible refine wpL_load_gH bw 23 (headA s r t z64) 4 rowHead rfl hWw ?_ ?_ ?_); rfl; rfl)
        | (go_at_call 13; (with_reducible refine (HR.out _).mono ?_); rintro e w4 ⟨rfl, hb⟩; replace hH := hH.on hb; replace hWw := hWw.on hb; replace hB := below_on hB hb; clear hb)
        | (go_at_call 14; (with_reducible refine (HAl.out _ hB).mono ?_); rintro e wa ⟨rfl, hb⟩; replace hH := hH.on hb; replace hWw := hWw.on hb; replace hB := below_on hB hb; clear hb)
        | ((with_reducible refine wpL_eqlH 0 0 [] [] ?_ ?_ ?_ ?_); rfl; rfl; rfl))
      go_ret
      exact ⟨rfl, hB⟩
    · have h33 : ((K.length : Int) != 32) = true := by rw [bytes_size] at h32; simp; omega
      clear hok h32 HR
      go_wp2_with (first
        | ((with_reducible refine wpL_load_gH bh 23 (headA 0 [] 0 []) 4 rowHead rfl hH ?_ ?_ ?_); rfl; rfl)
        | ((with_reducible refine wpL_load_gH bw 23 (headA s r t z64) 4 rowHead rfl hWw ?_ ?_ ?_); rfl; rfl)
        | (go_at_call 13; (with_reducible refine (HR.out _).mono ?_); rintro e w4 ⟨rfl, hb⟩; replace hH := hH.on hb; replace hWw := hWw.on hb; replace hB := below_on hB hb; clear hb)
        | (go_at_call 14; (with_reducible refine (HAl.out _ hB).mono ?_); rintro e wa ⟨rfl, hb⟩; replace hH := hH.on hb; replace hWw := hWw.on hb; replace hB := below_on hB hb; clear hb)
        | ((with_reducible refine wpL_eqlH 0 0 [] [] ?_ ?_ ?_ ?_); rfl; rfl; rfl))
      go_ret
      exact ⟨rfl, hB⟩
  case pos =>
    rw [if_pos hok] at HSg
    obtain ⟨hm, h32⟩ := hok
    rw [hm] at HR
    have h33 : ((K.length : Int) != 32) = false := by rw [bytes_size] at h32; simp; omega
    obtain ⟨m1, m2, m3, m4, m5⟩ := mayH_of hm
    have hr64 : rightH s r t z64 = true := rightH_yes hm z64_length
    have hss := signed_small hm
    have HSd := Lib.hid (fun w => refSigned_any s r t z64 w hm)
    have HE := Lib.hid (fun w (hb : Below W.heap.size W w) => E.signs_any A (bytesOf K) (bytesOf (signedT s r t)) hKl hss w (hT.on hb).e)
    rw [if_pos h32, sig_bytes] at HE
    have HPb := Lib.hid (fun w (hb : Below W.heap.size W w) => E.public_any A (bytesOf K) hKl w (hT.on hb).e)
    rw [if_pos h32] at HPb
    have HC1 := Lib.hid (fun w (hb : Below W.heap.size W w) => checkH_any A (E.keyT (bytesOf K).data.toList) s r t (sigL (bytesOf K) s r t) w (hT2.on hb))
    rw [check_own hm] at HC1
    obtain ⟨m, hmt, hm0, hm9⟩ := time_next t m3
    have hm' : mayH s r m = true := mayH_yes m1 m2 hm0 hm9 m5
    have hsig := sig_length (bytesOf K) s r t
    have hss' := signed_small hm'
    have HC2 := Lib.hid (fun w (hb : Below W.heap.size W w) => checkH_any A (E.keyT (bytesOf K).data.toList) s r m (sigL (bytesOf K) s r t) w (hT2.on hb))
    unfold checkE at HC2
    rw [if_pos (rightH_yes hm' hsig)] at HC2
    have HV := Lib.hid (fun w (hb : Below W.heap.size W w) => E.verify_any A (E.keyT (bytesOf K).data.toList) (bytesOf (signedT s r m)) (bytesOf (sigL (bytesOf K) s r t)) hss' w (hT2.on hb))
    have HSd2 := Lib.hid (fun w => refSigned_any s r m (sigL (bytesOf K) s r t) w hm')
    have HC0 := Lib.hid (fun w (hb : Below W.heap.size W w) => checkH_any A (E.keyT (bytesOf K).data.toList) 0 [] 0 [] w (hT2.on hb))
    rw [check_zero] at HC0
    generalize E.verifyE (E.keyT (bytesOf K).data.toList) (bytesOf (signedT s r m)) (bytesOf (sigL (bytesOf K) s r t)) = V at *
    clear hr64 hss hm' hsig hss' hT hT2 hKl h32 hm m1 m2 m5 hm0
    generalize E.keyT (bytesOf K).data.toList = pub at *
    generalize sigL (bytesOf K) s r t = g at *
    generalize signedT s r t = M at *
    generalize signedT s r m = N at *
    go_enter Tryz.func4, Tryz.ntmps4
    go_upto_region 1 with fail
    refine wp_held_any (S := fun _ => True) 12 rfl (by kernel_rfl) ?_
    have hB : Below W.heap.size W { W with drawn := W.drawn + 1 } := (Below.refl _ _).drew
    generalize ({ W with drawn := W.drawn + 1 } : World) = wd at *
    refine held_put 0 17 (.string (bytesOf k0)) rfl rfl (by kernel_rfl) (by kernel_rfl) (by kernel_rfl) (by kernel_rfl) (fun w hS => rfl) trivial ?_
    simp only [List.setIfInBounds_toArray, List.set_cons_succ, List.set_cons_zero]
    refine held_put 1 18 (.string (bytesOf k0)) rfl rfl (by kernel_rfl) (by kernel_rfl) (by kernel_rfl) (by kernel_rfl) (fun w hS => rfl) trivial ?_
    simp only [List.setIfInBounds_toArray, List.set_cons_succ, List.set_cons_zero]
    refine held_put 2 19 (.int .i64 (k0.length : Int)) rfl rfl (by kernel_rfl) (by kernel_rfl) (by kernel_rfl) (by kernel_rfl) (fun w hS => run_lenS k0 rfl w) trivial ?_
    simp only [List.setIfInBounds_toArray, List.set_cons_succ, List.set_cons_zero]
    refine held_put 3 20 (.int .i64 (min (k0.length : Int) 40)) rfl rfl (by kernel_rfl) (by kernel_rfl) (by kernel_rfl) (by kernel_rfl) (fun w hS => run_minI _ 40 rfl w) trivial ?_
    simp only [List.setIfInBounds_toArray, List.set_cons_succ, List.set_cons_zero]
    refine held_put 4 21 (.string (bytesOf K)) rfl rfl (by kernel_rfl) (by kernel_rfl) (by kernel_rfl) (by kernel_rfl) (fun w hS => by rw [← HK.out]; exact run_cutS k0 40 rfl rfl w) trivial ?_
    simp only [List.setIfInBounds_toArray, List.set_cons_succ, List.set_cons_zero]
    refine held_put 5 22 (.string (bytesOf r0)) rfl rfl (by kernel_rfl) (by kernel_rfl) (by kernel_rfl) (by kernel_rfl) (fun w hS => rfl) trivial ?_
    simp only [List.setIfInBounds_toArray, List.set_cons_succ, List.set_cons_zero]
    refine held_put 6 23 (.string (bytesOf r0)) rfl rfl (by kernel_rfl) (by kernel_rfl) (by kernel_rfl) (by kernel_rfl) (fun w hS => rfl) trivial ?_
    simp only [List.setIfInBounds_toArray, List.set_cons_succ, List.set_cons_zero]
    refine held_put 7 24 (.int .i64 (r0.length : Int)) rfl rfl (by kernel_rfl) (by kernel_rfl) (by kernel_rfl) (by kernel_rfl) (fun w hS => run_lenS r0 rfl w) trivial ?_
    simp only [List.setIfInBounds_toArray, List.set_cons_succ, List.set_cons_zero]
    refine held_put 8 25 (.int .i64 (min (r0.length : Int) 40)) rfl rfl (by kernel_rfl) (by kernel_rfl) (by kernel_rfl) (by kernel_rfl) (fun w hS => run_minI _ 40 rfl w) trivial ?_
    simp only [List.setIfInBounds_toArray, List.set_cons_succ, List.set_cons_zero]
    refine held_put 9 26 (.string (bytesOf r)) rfl rfl (by kernel_rfl) (by kernel_rfl) (by kernel_rfl) (by kernel_rfl) (fun w hS => by rw [← HRr.out]; exact run_cutS r0 40 rfl rfl w) trivial ?_
    simp only [List.setIfInBounds_toArray, List.set_cons_succ, List.set_cons_zero]
    refine held_put 10 0 (.string (bytesOf K)) rfl rfl (by kernel_rfl) (by kernel_rfl) (by kernel_rfl) (by kernel_rfl) (fun w hS => rfl) trivial ?_
    simp only [List.setIfInBounds_toArray, List.set_cons_zero]
    refine held_put 11 2 (.string (bytesOf r)) rfl rfl (by kernel_rfl) (by kernel_rfl) (by kernel_rfl) (by kernel_rfl) (fun w hS => rfl) trivial ?_
    simp only [List.setIfInBounds_toArray, List.set_cons_succ, List.set_cons_zero]
    refine held_done (by kernel_rfl) ?_
    simp only [Exit.then]
    clear HK HRr
    go_upto_region 3 with (first
      | (go_at_call 17; (with_reducible refine (HSg.out _ hB).mono ?_); rintro e w1 ⟨rfl, hb⟩; replace hB := below_on hB hb; clear hb)
      | ((with_reducible refine wpL_store w1.heap.size 23 _ (headA s r t g) 4 rowHead ?_ rfl (headA_one _ _ _ _) (Lies.new w1 _ _) ?_ ?_ ?_); rfl; rfl; rfl))
    generalize hgw : World.setRow _ _ _ = w2
    have hH : Lies w2 w1.heap.size 23 (headA s r t g) := by rw [← hgw]; exact newH_lies w1 _ _ _
    replace hB : Below W.heap.size W w2 := by rw [← hgw]; exact below_on hB (newH w1 _ _)
    clear hgw
    generalize w1.heap.size = bh at *
    go_upto_region 4 with (at_make; refine wpList_make_full _ rfl _ _ 37 rfl w2.heap.size 5 i0 (.int .u8 0) 1 Tryz.underlying37 hi hz0 hz1 _ _ _ _ 64 rfl rfl rfl rfl ?b2 ?b3 (Nat.le_refl _) ?_)
    case b2 => rw [hz2]; omega
    case b3 => unfold maxLen; omega
    intro wm hown hgrow
    have hbm : Below w2.heap.size w2 wm := (Below.refl _ _).grown hgrow (Nat.le_refl _) (fun k hk => by cases hk)
    have hcv := str_own (l := z64) (by rw [z64_cells]; simpa [toList_madeCells_one] using hown)
    clear hgrow hown
    replace hH := hH.on hbm
    replace hB := below_on hB hbm
    clear hbm
    have hne : bh ≠ wm.heap.size := Nat.ne_of_lt hH.lt
    have hwb : W.heap.size ≤ wm.heap.size := hB.size
    go_upto_region 4 with fail
    generalize hgw : World.alloc wm _ = w3
    have hWw : Lies w3 wm.heap.size 23 (headA s r t z64) := by rw [← hgw]; exact Lies.new wm _ _
    replace hH : Lies w3 bh 23 (headA s r t g) := by rw [← hgw]; exact hH.alloc _
    replace hB : Below W.heap.size W w3 := by rw [← hgw]; exact hB.alloc hB.size _
    clear hgw
    clear hcv hi hz0 hz1 hz2 HSg
    generalize wm.heap.size = bw at *
    go_upto_region 7 with (first
      | ((with_reducible refine wpL_load bw 23 (headA s r t z64) 4 rowHead rfl hWw ?_ ?_); rfl)
      | ((with_reducible refine wpL_load_gH bw 23 (headA s r t z64) 4 rowHead rfl hWw ?_ ?_ ?_); rfl; rfl)
      | (go_at_call 13; (with_reducible refine (HR.out _).mono ?_); rintro e w4 ⟨rfl, hb⟩; replace hH := hH.on hb; replace hWw := hWw.on hb; replace hB := below_on hB hb; clear hb)
      | (go_at_call 19; (with_reducible refine (HSd.out _).mono ?_); rintro e w5 ⟨rfl, hb⟩; replace hH := hH.on hb; replace hWw := hWw.on hb; replace hB := below_on hB hb; clear hb)
      | (go_at_call 18; (with_reducible refine (HE.out _ hB).mono ?_); rintro e w6 ⟨rfl, hb⟩; replace hH := hH.on hb; replace hWw := hWw.on hb; replace hB := below_on hB hb; clear hb))
    clear HR HSd HE
    have c3 : w6.cell? ⟨bw, 3, none⟩ = some (.string (bytesOf z64)) := hd_g hWw
    have f3 := hWw.frozen 3
    go_upto_region 8 with fail
    clear c3 f3
    generalize hgw : World.setCell _ _ _ = w7
    replace hWw : Lies w7 bw 23 (headA s r t g) := by rw [← hgw]; exact hWw.put 3 _
    replace hH : Lies w7 bh 23 (headA s r t g) := by rw [← hgw]; exact hH.far (p := ⟨bw, 3, none⟩) hne _
    replace hB : Below W.heap.size W w7 := by rw [← hgw]; exact hB.setCell (p := ⟨bw, 3, none⟩) hwb _
    clear hgw
    go_upto_region 12 with (first
      | ((with_reducible refine wpL_load bh 23 (headA s r t g) 4 rowHead rfl hH ?_ ?_); rfl)
      | ((with_reducible refine wpL_load_gH bh 23 (headA s r t g) 4 rowHead rfl hH ?_ ?_ ?_); rfl; rfl)
      | ((with_reducible refine wpL_load_gH bw 23 (headA s r t g) 4 rowHead rfl hWw ?_ ?_ ?_); rfl; rfl)
      | (go_at_call 20; (with_reducible refine (HPb.out _ hB).mono ?_); rintro e w8 ⟨rfl, hb⟩; replace hH := hH.on hb; replace hWw := hWw.on hb; replace hB := below_on hB hb; clear hb)
      | (go_at_call 21; (with_reducible refine (HC1.out _ hB).mono ?_); rintro e w9 ⟨rfl, hb⟩; replace hH := hH.on hb; replace hWw := hWw.on hb; replace hB := below_on hB hb; clear hb)
      | (go_at_call 14; (with_reducible refine (HAl.out _ hB).mono ?_); rintro e wa ⟨rfl, hb⟩; replace hH := hH.on hb; replace hWw := hWw.on hb; replace hB := below_on hB hb; clear hb)
      | ((with_reducible refine wpL_neqH s t r g ?_ ?_ ?_ ?_); rfl; rfl; rfl)
      | ((with_reducible refine wpL_store wa.heap.size 23 _ (headA s r t g) 4 rowHead ?_ rfl (headA_one _ _ _ _) (Lies.new wa _ _) ?_ ?_ ?_); rfl; rfl; rfl))
    simp only [Act.put]
    have hno : bh ≠ wa.heap.size := Nat.ne_of_lt hH.lt
    have hwo : W.heap.size ≤ wa.heap.size := hB.size
    generalize hgw : World.setRow _ _ _ = w10
    have hO : Lies w10 wa.heap.size 23 (headA s r t g) := by rw [← hgw]; exact newH_lies wa _ _ _
    replace hH : Lies w10 bh 23 (headA s r t g) := by rw [← hgw]; exact hH.on (newH wa _ _)
    replace hB : Below W.heap.size W w10 := by rw [← hgw]; exact below_on hB (newH wa _ _)
    clear hgw
    generalize wa.heap.size = bo at *
    clear hWw HPb HC1 HAl hne hwb hKz h33
    have c2 := hd_t hH
    have e2 := hd_t hO
    have f2 := hO.frozen 2
    go_upto_region 13 with fail
    clear c2 e2 f2
    generalize hgw : World.setCell _ _ _ = w11
    replace hO : Lies w11 bo 23 (headA s r m g) := by rw [← hgw]; exact hO.put 2 _
    replace hH : Lies w11 bh 23 (headA s r t g) := by rw [← hgw]; exact hH.far (p := ⟨bo, 2, none⟩) hno _
    replace hB : Below W.heap.size W w11 := by rw [← hgw]; exact hB.setCell (p := ⟨bo, 2, none⟩) hwo _
    clear hgw hmt m3 m4 hno hwo
    refine wp_held_any (S := fun w' => Lies w' bh 23 (headA s r t g) ∧ Lies w' bo 23 (headA s r m g)) 17 rfl (by kernel_rfl) ?_
    have hdr : Below w11.heap.size w11 { w11 with drawn := w11.drawn + 1 } := (Below.refl _ _).drew
    replace hH := hH.on hdr
    replace hO := hO.on hdr
    replace hB := below_on hB hdr
    clear hdr
    generalize ({ w11 with drawn := w11.drawn + 1 } : World) = w12 at *
    refine held_put 0 104 (.string pub) rfl rfl (by kernel_rfl) (by kernel_rfl) (by kernel_rfl) (by kernel_rfl) (fun w hS => rfl) ⟨hH, hO⟩ ?_
    simp only [List.setIfInBounds_toArray, List.set_cons_succ, List.set_cons_zero]
    refine held_put 1 105 (.agg (headA s r m g)) rfl rfl (by kernel_rfl) (by kernel_rfl) (by kernel_rfl) (by kernel_rfl) (fun w hS => run_ldH bo _ s m r g hS.2 rfl) ⟨hH, hO⟩ ?_
    simp only [List.setIfInBounds_toArray, List.set_cons_succ, List.set_cons_zero]
    refine held_put 3 107 (.string pub) rfl rfl (by kernel_rfl) (by kernel_rfl) (by kernel_rfl) (by kernel_rfl) (fun w hS => rfl) ⟨hH, hO⟩ ?_
    simp only [List.setIfInBounds_toArray, List.set_cons_succ, List.set_cons_zero]
    refine held_put 4 108 (.agg (headA s r m g)) rfl rfl (by kernel_rfl) (by kernel_rfl) (by kernel_rfl) (by kernel_rfl) (fun w hS => run_ldH bo _ s m r g hS.2 rfl) ⟨hH, hO⟩ ?_
    simp only [List.setIfInBounds_toArray, List.set_cons_succ, List.set_cons_zero]
    refine held_put 6 110 (.pointer (some ⟨bh, 3, none⟩)) rfl rfl (by kernel_rfl) (by kernel_rfl) (by kernel_rfl) (by kernel_rfl) (fun w hS => run_fld3 bh rfl w) ⟨hH, hO⟩ ?_
    simp only [List.setIfInBounds_toArray, List.set_cons_succ, List.set_cons_zero]
    refine held_put 7 111 (.string (bytesOf g)) rfl rfl (by kernel_rfl) (by kernel_rfl) (by kernel_rfl) (by kernel_rfl) (fun w hS => run_ldT _ _ w (hd_g hS.1) rfl) ⟨hH, hO⟩ ?_
    simp only [List.setIfInBounds_toArray, List.set_cons_succ, List.set_cons_zero]
    refine held_one 2 (by kernel_rfl) (wpOp_call 106 rfl rfl (by kernel_rfl) (by kernel_rfl) ((HC2.out w12 hB).mono ?_))
    rintro e w13 ⟨rfl, hbn⟩
    replace hH := hH.on hbn
    replace hO := hO.on hbn
    replace hB := below_on hB hbn
    clear hbn
    refine ⟨_, rfl, ⟨hH, hO⟩, ?_⟩
    simp only [List.setIfInBounds_toArray, List.set_cons_succ, List.set_cons_zero]
    refine held_one 5 (by kernel_rfl) (wpOp_call 109 rfl rfl (by kernel_rfl) (by kernel_rfl) ((HSd2.out w13).mono ?_))
    rintro e w14 ⟨rfl, hbn⟩
    replace hH := hH.on hbn
    replace hO := hO.on hbn
    replace hB := below_on hB hbn
    clear hbn
    refine ⟨_, rfl, ⟨hH, hO⟩, ?_⟩
    simp only [List.setIfInBounds_toArray, List.set_cons_succ, List.set_cons_zero]
    refine held_one 8 (by kernel_rfl) (wpOp_call 112 rfl rfl (by kernel_rfl) (by kernel_rfl) ((HV.out w14 hB).mono ?_))
    rintro e w15 ⟨rfl, hbn⟩
    replace hH := hH.on hbn
    replace hO := hO.on hbn
    replace hB := below_on hB hbn
    clear hbn
    refine ⟨_, rfl, ⟨hH, hO⟩, ?_⟩
    simp only [List.setIfInBounds_toArray, List.set_cons_succ, List.set_cons_zero]
    refine held_put 9 113 (.bool true) rfl rfl (by kernel_rfl) (by kernel_rfl) (by kernel_rfl) (by kernel_rfl) (fun w hS => run_eqlE V rfl rfl w) ⟨hH, hO⟩ ?_
    simp only [List.setIfInBounds_toArray, List.set_cons_succ, List.set_cons_zero]
    refine held_put 10 114 (.bool true) rfl rfl (by kernel_rfl) (by kernel_rfl) (by kernel_rfl) (by kernel_rfl) (fun w hS => rfl) ⟨hH, hO⟩ ?_
    simp only [List.setIfInBounds_toArray, List.set_cons_succ, List.set_cons_zero]
    refine held_put 11 115 (.string pub) rfl rfl (by kernel_rfl) (by kernel_rfl) (by kernel_rfl) (by kernel_rfl) (fun w hS => rfl) ⟨hH, hO⟩ ?_
    simp only [List.setIfInBounds_toArray, List.set_cons_succ, List.set_cons_zero]
    refine held_put 12 116 (.agg head0) rfl rfl (by kernel_rfl) (by kernel_rfl) (by kernel_rfl) (by kernel_rfl) (fun w hS => by kernel_rfl) ⟨hH, hO⟩ ?_
    simp only [List.setIfInBounds_toArray, List.set_cons_succ, List.set_cons_zero]
    refine held_one 13 (by kernel_rfl) (wpOp_call 117 rfl rfl (by kernel_rfl) (by kernel_rfl) ((HC0.out w15 hB).mono ?_))
    rintro e w16 ⟨rfl, hbn⟩
    replace hH := hH.on hbn
    replace hO := hO.on hbn
    replace hB := below_on hB hbn
    clear hbn
    refine ⟨_, rfl, ⟨hH, hO⟩, ?_⟩
    simp only [List.setIfInBounds_toArray, List.set_cons_succ, List.set_cons_zero]
    refine held_put 14 118 (.bool true) rfl rfl (by kernel_rfl) (by kernel_rfl) (by kernel_rfl) (by kernel_rfl) (fun w hS => by kernel_rfl) ⟨hH, hO⟩ ?_
    simp only [List.setIfInBounds_toArray, List.set_cons_succ, List.set_cons_zero]
    refine held_put 15 119 (.bool true) rfl rfl (by kernel_rfl) (by kernel_rfl) (by kernel_rfl) (by kernel_rfl) (fun w hS => by kernel_rfl) ⟨hH, hO⟩ ?_
    simp only [List.setIfInBounds_toArray, List.set_cons_succ, List.set_cons_zero]
    refine held_put 16 8 (.bool true) rfl rfl (by kernel_rfl) (by kernel_rfl) (by kernel_rfl) (by kernel_rfl) (fun w hS => by kernel_rfl) ⟨hH, hO⟩ ?_
    simp only [List.setIfInBounds_toArray, List.set_cons_succ, List.set_cons_zero]
    refine held_done (by kernel_rfl) ?_
    simp only [Exit.then]
    clear hH hO HC2 HSd2 HV HC0
    go_wp2_with fail
    go_ret
    exact ⟨rfl, hB⟩
end Go.Proofs.YtdjglghecekeoaaGreatDoor.J
