/- The walk of the statement of heads and their texts: whatever head and text, it answers true. -/
import Derived.Test.YtdjglghecekeoaaGreatDoorK12
namespace Go.Proofs.YtdjglghecekeoaaGreatDoor.J
open Go.RowKit Go.Sort Go.Proofs.YtdjglghecekeoaaGreatDoor.U Go.Proofs.YtdjglghecekeoaaGreatDoor.R Go.Proofs.YtdjglghecekeoaaGreatDoor.Q
set_option maxRecDepth 100000

theorem tells_is {x : List UInt8} {s t s' t' : Int} {r g r' g' : List UInt8} {b : Bool} (h : TellsB x s' r' t' g' b) (k : IsHead x s r t g) : b = true ∧ s = s' ∧ r = r' ∧ t = t' ∧ g = g' := by
  cases b with
  | false => exact absurd k (h.2 rfl s r t g)
  | true => exact ⟨rfl, head_one k (h.1 rfl)⟩
theorem tells_no {x : List UInt8} {s' t' : Int} {r' g' : List UInt8} {b : Bool} (h : TellsB x s' r' t' g' b) (k : ∀ s r t g, ¬ IsHead x s r t g) : b = false := by
  cases b with
  | false => rfl
  | true => exact absurd (h.1 rfl) (k _ _ _ _)
set_option maxHeartbeats 6400000 in
theorem textsJ_walk (A : C.Pts E.EdTab) (s : Int) (r0 : List UInt8) (t : Int) (g0 : List UInt8) (x : List UInt8) (W : World) (hr : r0.length ≤ maxLen) (hg : g0.length ≤ maxLen) (hT : HTab W) :
    Calls Tryz.prog 3 #[.agg (headA s r0 t g0), .string (bytesOf x)] W fun e w' => e = .returned (.bool true) ∧ Below W.heap.size W w' := by
  have HF := Lib.hid (fun w => fewH_any s r0 t g0 w hr hg)
  have HAl := Lib.hid (fun w (hb : Below W.heap.size W w) => aliveH_any A w (hT.on hb))
  have hl : Lies (W.alloc (.cells (headA s r0 t g0) 23)) W.heap.size 23 (headA s r0 t g0) := Lies.new W _ _
  have hB := (Below.refl W.heap.size W).alloc (Nat.le_refl _) (.cells (headA s r0 t g0) 23)
  generalize r0.take 40 = r at *
  generalize g0.take 70 = g at *
  have HP := Lib.hid (fun w => printH_any s r t g w)
  have HR := Lib.hid (fun w => rightH_any s r t g w)
  have HRr := Lib.hid (fun w => refRightH_any s r t g w)
  obtain ⟨Y, hY⟩ : ∃ Y, x.take 200 = Y := ⟨_, rfl⟩
  have HRf := Lib.hid (fun w => refParse_any Y w)
  have HY := Lib.hid hY
  have hz := bytes_int x
  clear hr hg hT
  unfold printV at HP
  by_cases hk : ∃ s' r' t' g', IsHead Y s' r' t' g'
  case pos =>
    obtain ⟨s', r', t', g', hk⟩ := hk
    have HPs := Lib.hid (fun w => parse_head Y s' r' t' g' hk w)
    have HK := Lib.hid hk
    clear hk hY
    cases hm : rightH s r t g with
    | false =>
      rw [hm] at HP HR HRr
      rw [if_neg (by simp)] at HP
      clear hm
      go_enter Tryz.func3, Tryz.ntmps3
      go_upto_region 1 with fail
      generalize hgw : World.alloc _ _ = w0
      replace hl : Lies w0 W.heap.size 23 (headA s r0 t g0) := by rw [← hgw]; exact hl
      replace hB : Below W.heap.size W w0 := by rw [← hgw]; exact hB
      clear hgw
      refine wp_held_any (S := fun _ => True) 9 rfl (by kernel_rfl) ?_
      have hdr : Below w0.heap.size w0 { w0 with drawn := w0.drawn + 1 } := (Below.refl _ _).drew
      replace hl := hl.on hdr
      replace hB := below_on hB hdr
      clear hdr
      generalize ({ w0 with drawn := w0.drawn + 1 } : World) = wd at *
      refine held_put 2 15 (.string (bytesOf x)) rfl rfl (by kernel_rfl) (by kernel_rfl) (by kernel_rfl) (by kernel_rfl) (fun w hS => rfl) trivial ?_
      simp only [List.setIfInBounds_toArray, List.set_cons_succ, List.set_cons_zero]
      refine held_put 3 16 (.string (bytesOf x)) rfl rfl (by kernel_rfl) (by kernel_rfl) (by kernel_rfl) (by kernel_rfl) (fun w hS => rfl) trivial ?_
      simp only [List.setIfInBounds_toArray, List.set_cons_succ, List.set_cons_zero]
      refine held_put 4 17 (.int .i64 (x.length : Int)) rfl rfl (by kernel_rfl) (by kernel_rfl) (by kernel_rfl) (by kernel_rfl) (fun w hS => run_lenS x rfl w) trivial ?_
      simp only [List.setIfInBounds_toArray, List.set_cons_succ, List.set_cons_zero]
      refine held_put 5 18 (.int .i64 (min (x.length : Int) 200)) rfl rfl (by kernel_rfl) (by kernel_rfl) (by kernel_rfl) (by kernel_rfl) (fun w hS => run_minI _ 200 rfl w) trivial ?_
      simp only [List.setIfInBounds_toArray, List.set_cons_succ, List.set_cons_zero]
      refine held_put 6 19 (.string (bytesOf Y)) rfl rfl (by kernel_rfl) (by kernel_rfl) (by kernel_rfl) (by kernel_rfl) (fun w hS => by rw [← HY.out]; exact run_cutS x 200 rfl rfl w) trivial ?_
      simp only [List.setIfInBounds_toArray, List.set_cons_succ, List.set_cons_zero]
      refine held_one 0 (by kernel_rfl) (wpOp_put 13 (v := .agg (headA s r0 t g0)) rfl rfl (by kernel_rfl) (run_ldH W.heap.size _ s t r0 g0 hl rfl) ⟨trivial, ?_⟩)
      simp only [List.setIfInBounds_toArray, List.set_cons_succ, List.set_cons_zero]
      refine held_one 1 (by kernel_rfl) (wpOp_call 14 rfl rfl (by kernel_rfl) (by kernel_rfl) ((HF.out wd).mono ?_))
      rintro e wa ⟨rfl, hbn⟩
      replace hl := hl.on hbn
      replace hB := below_on hB hbn
      clear hbn
      refine ⟨_, rfl, trivial, ?_⟩
      simp only [List.setIfInBounds_toArray, List.set_cons_succ, List.set_cons_zero]
      refine held_one 7 (by kernel_rfl) (wpOp_law rfl (by kernel_rfl) (wpL_store W.heap.size 23 (headA s r0 t g0) (headA s r t g) 4 rowHead rfl rfl (headA_one _ _ _ _) hl rfl rfl ?_))
      replace hl := hl.row (headA s r t g)
      replace hB := below_rowSet hB (Nat.le_refl _) (headA s r t g)
      refine ⟨trivial, ?_⟩
      simp only [Act.put]
      generalize World.setRow _ _ _ = w1 at *
      refine held_put 8 1 (.string (bytesOf Y)) rfl rfl (by kernel_rfl) (by kernel_rfl) (by kernel_rfl) (by kernel_rfl) (fun w hS => rfl) trivial ?_
      simp only [List.setIfInBounds_toArray, List.set_cons_succ, List.set_cons_zero]
      refine held_done (by kernel_rfl) ?_
      simp only [Exit.then]
      clear HF HY
      go_upto_region 3 with (first
        | ((with_reducible refine wpL_load W.heap.size 23 (headA s r t g) 4 rowHead rfl hl ?_ ?_); rfl)
        | (go_at_call 10; (with_reducible refine (HP.out _).mono ?_); rintro e w2 ⟨rfl, hb⟩; replace hl := hl.on hb; replace hB := below_on hB hb; clear hb))
      go_upto_region 4 with (first
        | (go_at_call 11; (with_reducible refine (HPs.out _).mono ?_); rintro e w3 ⟨rfl, hb⟩; replace hl := hl.on hb; replace hB := below_on hB hb; clear hb)
        | ((with_reducible refine wpL_store w3.heap.size 23 _ (headA s' r' t' g') 4 rowHead ?_ rfl (headA_one _ _ _ _) (Lies.new w3 _ _) ?_ ?_ ?_); rfl; rfl; rfl))
      generalize hgw : World.setRow _ _ _ = w4
      have hX : Lies w4 w3.heap.size 23 (headA s' r' t' g') := by rw [← hgw]; exact newH_lies w3 _ _ _
      replace hl : Lies w4 W.heap.size 23 (headA s r t g) := by rw [← hgw]; exact hl.on (newH w3 _ _)
      replace hB : Below W.heap.size W w4 := by rw [← hgw]; exact below_on hB (newH w3 _ _)
      clear hgw
      generalize w3.heap.size = bx at *
      have hB4 := hB
      refine wp_held_any (S := fun w' => Lies w' W.heap.size 23 (headA s r t g)) 9 rfl (by kernel_rfl) ?_
      have hdr : Below w4.heap.size w4 { w4 with drawn := w4.drawn + 1 } := (Below.refl _ _).drew
      replace hl := hl.on hdr
      replace hX := hX.on hdr
      replace hB := below_on hB hdr
      clear hdr hB4
      generalize ({ w4 with drawn := w4.drawn + 1 } : World) = w5 at *
      refine held_put 0 30 (.agg (headA s r t g)) rfl rfl (by kernel_rfl) (by kernel_rfl) (by kernel_rfl) (by kernel_rfl) (fun w hS => run_ldH W.heap.size _ s t r g hS rfl) hl ?_
      simp only [List.setIfInBounds_toArray, List.set_cons_succ, List.set_cons_zero]
      refine held_put 2 32 (.agg (headA s r t g)) rfl rfl (by kernel_rfl) (by kernel_rfl) (by kernel_rfl) (by kernel_rfl) (fun w hS => run_ldH W.heap.size _ s t r g hS rfl) hl ?_
      simp only [List.setIfInBounds_toArray, List.set_cons_succ, List.set_cons_zero]
      refine held_one 1 (by kernel_rfl) (wpOp_call 31 rfl rfl (by kernel_rfl) (by kernel_rfl) ((HR.out w5).mono ?_))
      rintro e w6 ⟨rfl, hbn⟩
      replace hl := hl.on hbn
      replace hX := hX.on hbn
      replace hB := below_on hB hbn
      clear hbn
      refine ⟨_, rfl, hl, ?_⟩
      simp only [List.setIfInBounds_toArray, List.set_cons_succ, List.set_cons_zero]
      refine held_one 3 (by kernel_rfl) (wpOp_call 33 rfl rfl (by kernel_rfl) (by kernel_rfl) ((HRr.out w6).mono ?_))
      rintro e w7 ⟨rfl, hbn⟩
      replace hl := hl.on hbn
      replace hX := hX.on hbn
      replace hB := below_on hB hbn
      clear hbn
      refine ⟨_, rfl, hl, ?_⟩
      simp only [List.setIfInBounds_toArray, List.set_cons_succ, List.set_cons_zero]
      refine held_put 4 34 (.bool false) rfl rfl (by kernel_rfl) (by kernel_rfl) (by kernel_rfl) (by kernel_rfl) (fun w hS => by kernel_rfl) hl ?_
      simp only [List.setIfInBounds_toArray, List.set_cons_succ, List.set_cons_zero]
      refine held_put 5 35 (.bool false) rfl rfl (by kernel_rfl) (by kernel_rfl) (by kernel_rfl) (by kernel_rfl) (fun w hS => rfl) hl ?_
      simp only [List.setIfInBounds_toArray, List.set_cons_succ, List.set_cons_zero]
      refine held_one 6 (by kernel_rfl) (wpOp_call 36 rfl rfl (by kernel_rfl) (by kernel_rfl) ((HAl.out w7 hB).mono ?_))
      rintro e w8 ⟨rfl, hbn⟩
      replace hl := hl.on hbn
      replace hX := hX.on hbn
      replace hB := below_on hB hbn
      clear hbn
      refine ⟨_, rfl, hl, ?_⟩
      simp only [List.setIfInBounds_toArray, List.set_cons_succ, List.set_cons_zero]
      refine held_put 7 37 (.bool false) rfl rfl (by kernel_rfl) (by kernel_rfl) (by kernel_rfl) (by kernel_rfl) (fun w hS => by kernel_rfl) hl ?_
      simp only [List.setIfInBounds_toArray, List.set_cons_succ, List.set_cons_zero]
      refine held_put 8 38 (.bool false) rfl rfl (by kernel_rfl) (by kernel_rfl) (by kernel_rfl) (by kernel_rfl) (fun w hS => by kernel_rfl) hl ?_
      simp only [List.setIfInBounds_toArray, List.set_cons_succ, List.set_cons_zero]
      refine held_done (by kernel_rfl) ?_
      simp only [Exit.then]
      go_upto_region 12 with (first
        | ((with_reducible refine wpL_load W.heap.size 23 (headA s r t g) 4 rowHead rfl hl ?_ ?_); rfl)
        | ((with_reducible refine wpL_load_gH W.heap.size 23 (headA s r t g) 4 rowHead rfl hl ?_ ?_ ?_); rfl; rfl)
        | ((with_reducible refine wpL_load bx 23 (headA s' r' t' g') 4 rowHead rfl hX ?_ ?_); rfl)
        | ((with_reducible refine wpL_load_gH bx 23 (headA s' r' t' g') 4 rowHead rfl hX ?_ ?_ ?_); rfl; rfl)
        | (go_at_call 13; (with_reducible refine (HRr.out _).mono ?_); rintro e w9 ⟨rfl, hb⟩; replace hl := hl.on hb; replace hX := hX.on hb; replace hB := below_on hB hb; clear hb))
      go_upto_region 13 with (first
        | (go_at_call 16; (refine (HRf.out _).mono ?_); rintro e wr ⟨s3, r3, t3, g3, b3, rfl, hb, hTl⟩; obtain ⟨rfl, rfl, rfl, rfl, rfl⟩ := tells_is hTl HK.out; clear hTl; replace hl := hl.on hb; replace hX := hX.on hb; replace hB := below_on hB hb; clear hb)
        | ((with_reducible refine wpL_store wr.heap.size 23 _ (headA s' r' t' g') 4 rowHead ?_ rfl (headA_one _ _ _ _) (Lies.new wr _ _) ?_ ?_ ?_); rfl; rfl; rfl))
      generalize hgw : World.setRow _ _ _ = w13
      have hWw : Lies w13 wr.heap.size 23 (headA s' r' t' g') := by rw [← hgw]; exact newH_lies wr _ _ _
      replace hX : Lies w13 bx 23 (headA s' r' t' g') := by rw [← hgw]; exact hX.on (newH wr _ _)
      replace hB : Below W.heap.size W w13 := by rw [← hgw]; exact below_on hB (newH wr _ _)
      clear hgw
      generalize wr.heap.size = bw at *
      go_wp2_with (first
        | ((with_reducible refine wpL_load_gH bx 23 (headA s' r' t' g') 4 rowHead rfl hX ?_ ?_ ?_); rfl; rfl)
        | ((with_reducible refine wpL_load_gH bw 23 (headA s' r' t' g') 4 rowHead rfl hWw ?_ ?_ ?_); rfl; rfl)
        | ((with_reducible refine wpL_eqlH s' t' r' g' ?_ ?_ ?_ ?_); rfl; rfl; rfl))
      go_ret
      exact ⟨rfl, hB⟩
    | true =>
      have HTx := Lib.hid (fun w => refText_any s r t g w hm)
      have HPt := Lib.hid (fun w => parse_head (textT s r t g) s r t g ⟨hm, rfl⟩ w)
      rw [hm] at HP HR HRr
      rw [if_pos rfl] at HP
      clear hm
      generalize textT s r t g = X at *
      go_enter Tryz.func3, Tryz.ntmps3
      go_upto_region 1 with fail
      generalize hgw : World.alloc _ _ = w0
      replace hl : Lies w0 W.heap.size 23 (headA s r0 t g0) := by rw [← hgw]; exact hl
      replace hB : Below W.heap.size W w0 := by rw [← hgw]; exact hB
      clear hgw
      refine wp_held_any (S := fun _ => True) 9 rfl (by kernel_rfl) ?_
      have hdr : Below w0.heap.size w0 { w0 with drawn := w0.drawn + 1 } := (Below.refl _ _).drew
      replace hl := hl.on hdr
      replace hB := below_on hB hdr
      clear hdr
      generalize ({ w0 with drawn := w0.drawn + 1 } : World) = wd at *
      refine held_put 2 15 (.string (bytesOf x)) rfl rfl (by kernel_rfl) (by kernel_rfl) (by kernel_rfl) (by kernel_rfl) (fun w hS => rfl) trivial ?_
      simp only [List.setIfInBounds_toArray, List.set_cons_succ, List.set_cons_zero]
      refine held_put 3 16 (.string (bytesOf x)) rfl rfl (by kernel_rfl) (by kernel_rfl) (by kernel_rfl) (by kernel_rfl) (fun w hS => rfl) trivial ?_
      simp only [List.setIfInBounds_toArray, List.set_cons_succ, List.set_cons_zero]
      refine held_put 4 17 (.int .i64 (x.length : Int)) rfl rfl (by kernel_rfl) (by kernel_rfl) (by kernel_rfl) (by kernel_rfl) (fun w hS => run_lenS x rfl w) trivial ?_
      simp only [List.setIfInBounds_toArray, List.set_cons_succ, List.set_cons_zero]
      refine held_put 5 18 (.int .i64 (min (x.length : Int) 200)) rfl rfl (by kernel_rfl) (by kernel_rfl) (by kernel_rfl) (by kernel_rfl) (fun w hS => run_minI _ 200 rfl w) trivial ?_
      simp only [List.setIfInBounds_toArray, List.set_cons_succ, List.set_cons_zero]
      refine held_put 6 19 (.string (bytesOf Y)) rfl rfl (by kernel_rfl) (by kernel_rfl) (by kernel_rfl) (by kernel_rfl) (fun w hS => by rw [← HY.out]; exact run_cutS x 200 rfl rfl w) trivial ?_
      simp only [List.setIfInBounds_toArray, List.set_cons_succ, List.set_cons_zero]
      refine held_one 0 (by kernel_rfl) (wpOp_put 13 (v := .agg (headA s r0 t g0)) rfl rfl (by kernel_rfl) (run_ldH W.heap.size _ s t r0 g0 hl rfl) ⟨trivial, ?_⟩)
      simp only [List.setIfInBounds_toArray, List.set_cons_succ, List.set_cons_zero]
      refine held_one 1 (by kernel_rfl) (wpOp_call 14 rfl rfl (by kernel_rfl) (by kernel_rfl) ((HF.out wd).mono ?_))
      rintro e wa ⟨rfl, hbn⟩
      replace hl := hl.on hbn
      replace hB := below_on hB hbn
      clear hbn
      refine ⟨_, rfl, trivial, ?_⟩
      simp only [List.setIfInBounds_toArray, List.set_cons_succ, List.set_cons_zero]
      refine held_one 7 (by kernel_rfl) (wpOp_law rfl (by kernel_rfl) (wpL_store W.heap.size 23 (headA s r0 t g0) (headA s r t g) 4 rowHead rfl rfl (headA_one _ _ _ _) hl rfl rfl ?_))
      replace hl := hl.row (headA s r t g)
      replace hB := below_rowSet hB (Nat.le_refl _) (headA s r t g)
      refine ⟨trivial, ?_⟩
      simp only [Act.put]
      generalize World.setRow _ _ _ = w1 at *
      refine held_put 8 1 (.string (bytesOf Y)) rfl rfl (by kernel_rfl) (by kernel_rfl) (by kernel_rfl) (by kernel_rfl) (fun w hS => rfl) trivial ?_
      simp only [List.setIfInBounds_toArray, List.set_cons_succ, List.set_cons_zero]
      refine held_done (by kernel_rfl) ?_
      simp only [Exit.then]
      clear HF HY
      go_upto_region 3 with (first
        | ((with_reducible refine wpL_load W.heap.size 23 (headA s r t g) 4 rowHead rfl hl ?_ ?_); rfl)
        | (go_at_call 10; (with_reducible refine (HP.out _).mono ?_); rintro e w2 ⟨rfl, hb⟩; replace hl := hl.on hb; replace hB := below_on hB hb; clear hb))
      go_upto_region 4 with (first
        | (go_at_call 11; (with_reducible refine (HPs.out _).mono ?_); rintro e w3 ⟨rfl, hb⟩; replace hl := hl.on hb; replace hB := below_on hB hb; clear hb)
        | ((with_reducible refine wpL_store w3.heap.size 23 _ (headA s' r' t' g') 4 rowHead ?_ rfl (headA_one _ _ _ _) (Lies.new w3 _ _) ?_ ?_ ?_); rfl; rfl; rfl))
      generalize hgw : World.setRow _ _ _ = w4
      have hX : Lies w4 w3.heap.size 23 (headA s' r' t' g') := by rw [← hgw]; exact newH_lies w3 _ _ _
      replace hl : Lies w4 W.heap.size 23 (headA s r t g) := by rw [← hgw]; exact hl.on (newH w3 _ _)
      replace hB : Below W.heap.size W w4 := by rw [← hgw]; exact below_on hB (newH w3 _ _)
      clear hgw
      generalize w3.heap.size = bx at *
      have hB4 := hB
      refine wp_held_any (S := fun w' => Lies w' W.heap.size 23 (headA s r t g)) 9 rfl (by kernel_rfl) ?_
      have hdr : Below w4.heap.size w4 { w4 with drawn := w4.drawn + 1 } := (Below.refl _ _).drew
      replace hl := hl.on hdr
      replace hX := hX.on hdr
      replace hB := below_on hB hdr
      clear hdr hB4
      generalize ({ w4 with drawn := w4.drawn + 1 } : World) = w5 at *
      refine held_put 0 30 (.agg (headA s r t g)) rfl rfl (by kernel_rfl) (by kernel_rfl) (by kernel_rfl) (by kernel_rfl) (fun w hS => run_ldH W.heap.size _ s t r g hS rfl) hl ?_
      simp only [List.setIfInBounds_toArray, List.set_cons_succ, List.set_cons_zero]
      refine held_put 2 32 (.agg (headA s r t g)) rfl rfl (by kernel_rfl) (by kernel_rfl) (by kernel_rfl) (by kernel_rfl) (fun w hS => run_ldH W.heap.size _ s t r g hS rfl) hl ?_
      simp only [List.setIfInBounds_toArray, List.set_cons_succ, List.set_cons_zero]
      refine held_one 1 (by kernel_rfl) (wpOp_call 31 rfl rfl (by kernel_rfl) (by kernel_rfl) ((HR.out w5).mono ?_))
      rintro e w6 ⟨rfl, hbn⟩
      replace hl := hl.on hbn
      replace hX := hX.on hbn
      replace hB := below_on hB hbn
      clear hbn
      refine ⟨_, rfl, hl, ?_⟩
      simp only [List.setIfInBounds_toArray, List.set_cons_succ, List.set_cons_zero]
      refine held_one 3 (by kernel_rfl) (wpOp_call 33 rfl rfl (by kernel_rfl) (by kernel_rfl) ((HRr.out w6).mono ?_))
      rintro e w7 ⟨rfl, hbn⟩
      replace hl := hl.on hbn
      replace hX := hX.on hbn
      replace hB := below_on hB hbn
      clear hbn
      refine ⟨_, rfl, hl, ?_⟩
      simp only [List.setIfInBounds_toArray, List.set_cons_succ, List.set_cons_zero]
      refine held_put 4 34 (.bool false) rfl rfl (by kernel_rfl) (by kernel_rfl) (by kernel_rfl) (by kernel_rfl) (fun w hS => by kernel_rfl) hl ?_
      simp only [List.setIfInBounds_toArray, List.set_cons_succ, List.set_cons_zero]
      refine held_put 5 35 (.bool false) rfl rfl (by kernel_rfl) (by kernel_rfl) (by kernel_rfl) (by kernel_rfl) (fun w hS => rfl) hl ?_
      simp only [List.setIfInBounds_toArray, List.set_cons_succ, List.set_cons_zero]
      refine held_one 6 (by kernel_rfl) (wpOp_call 36 rfl rfl (by kernel_rfl) (by kernel_rfl) ((HAl.out w7 hB).mono ?_))
      rintro e w8 ⟨rfl, hbn⟩
      replace hl := hl.on hbn
      replace hX := hX.on hbn
      replace hB := below_on hB hbn
      clear hbn
      refine ⟨_, rfl, hl, ?_⟩
      simp only [List.setIfInBounds_toArray, List.set_cons_succ, List.set_cons_zero]
      refine held_put 7 37 (.bool false) rfl rfl (by kernel_rfl) (by kernel_rfl) (by kernel_rfl) (by kernel_rfl) (fun w hS => by kernel_rfl) hl ?_
      simp only [List.setIfInBounds_toArray, List.set_cons_succ, List.set_cons_zero]
      refine held_put 8 38 (.bool false) rfl rfl (by kernel_rfl) (by kernel_rfl) (by kernel_rfl) (by kernel_rfl) (fun w hS => by kernel_rfl) hl ?_
      simp only [List.setIfInBounds_toArray, List.set_cons_succ, List.set_cons_zero]
      refine held_done (by kernel_rfl) ?_
      simp only [Exit.then]
      go_upto_region 10 with (first
        | ((with_reducible refine wpL_load W.heap.size 23 (headA s r t g) 4 rowHead rfl hl ?_ ?_); rfl)
        | ((with_reducible refine wpL_load_gH W.heap.size 23 (headA s r t g) 4 rowHead rfl hl ?_ ?_ ?_); rfl; rfl)
        | ((with_reducible refine wpL_load bx 23 (headA s' r' t' g') 4 rowHead rfl hX ?_ ?_); rfl)
        | ((with_reducible refine wpL_load_gH bx 23 (headA s' r' t' g') 4 rowHead rfl hX ?_ ?_ ?_); rfl; rfl)
        | (go_at_call 13; (with_reducible refine (HRr.out _).mono ?_); rintro e w9 ⟨rfl, hb⟩; replace hl := hl.on hb; replace hX := hX.on hb; replace hB := below_on hB hb; clear hb)
        | (go_at_call 11; (with_reducible refine (HPt.out _).mono ?_); rintro e wp ⟨rfl, hb⟩; replace hl := hl.on hb; replace hX := hX.on hb; replace hB := below_on hB hb; clear hb)
        | ((with_reducible refine wpL_store wp.heap.size 23 _ (headA s r t g) 4 rowHead ?_ rfl (headA_one _ _ _ _) (Lies.new wp _ _) ?_ ?_ ?_); rfl; rfl; rfl))
      generalize hgw : World.setRow _ _ _ = w10
      have hYy : Lies w10 wp.heap.size 23 (headA s r t g) := by rw [← hgw]; exact newH_lies wp _ _ _
      replace hl : Lies w10 W.heap.size 23 (headA s r t g) := by rw [← hgw]; exact hl.on (newH wp _ _)
      replace hX : Lies w10 bx 23 (headA s' r' t' g') := by rw [← hgw]; exact hX.on (newH wp _ _)
      replace hB : Below W.heap.size W w10 := by rw [← hgw]; exact below_on hB (newH wp _ _)
      clear hgw
      generalize wp.heap.size = by_ at *
      go_upto_region 12 with (first
        | ((with_reducible refine wpL_load W.heap.size 23 (headA s r t g) 4 rowHead rfl hl ?_ ?_); rfl)
        | ((with_reducible refine wpL_load_gH W.heap.size 23 (headA s r t g) 4 rowHead rfl hl ?_ ?_ ?_); rfl; rfl)
        | ((with_reducible refine wpL_load bx 23 (headA s' r' t' g') 4 rowHead rfl hX ?_ ?_); rfl)
        | ((with_reducible refine wpL_load_gH bx 23 (headA s' r' t' g') 4 rowHead rfl hX ?_ ?_ ?_); rfl; rfl)
        | ((with_reducible refine wpL_load_gH by_ 23 (headA s r t g) 4 rowHead rfl hYy ?_ ?_ ?_); rfl; rfl)
        | (go_at_call 15; (with_reducible refine (HTx.out _).mono ?_); rintro e wt ⟨rfl, hb⟩; replace hl := hl.on hb; replace hX := hX.on hb; replace hYy := hYy.on hb; replace hB := below_on hB hb; clear hb)
        | ((with_reducible refine wpL_neqH s t r g ?_ ?_ ?_ ?_); rfl; rfl; rfl))
      go_upto_region 13 with (first
        | (go_at_call 16; (refine (HRf.out _).mono ?_); rintro e wr ⟨s3, r3, t3, g3, b3, rfl, hb, hTl⟩; obtain ⟨rfl, rfl, rfl, rfl, rfl⟩ := tells_is hTl HK.out; clear hTl; replace hl := hl.on hb; replace hX := hX.on hb; replace hB := below_on hB hb; clear hb)
        | ((with_reducible refine wpL_store wr.heap.size 23 _ (headA s' r' t' g') 4 rowHead ?_ rfl (headA_one _ _ _ _) (Lies.new wr _ _) ?_ ?_ ?_); rfl; rfl; rfl))
      generalize hgw : World.setRow _ _ _ = w13
      have hWw : Lies w13 wr.heap.size 23 (headA s' r' t' g') := by rw [← hgw]; exact newH_lies wr _ _ _
      replace hX : Lies w13 bx 23 (headA s' r' t' g') := by rw [← hgw]; exact hX.on (newH wr _ _)
      replace hB : Below W.heap.size W w13 := by rw [← hgw]; exact below_on hB (newH wr _ _)
      clear hgw
      generalize wr.heap.size = bw at *
      go_wp2_with (first
        | ((with_reducible refine wpL_load_gH bx 23 (headA s' r' t' g') 4 rowHead rfl hX ?_ ?_ ?_); rfl; rfl)
        | ((with_reducible refine wpL_load_gH bw 23 (headA s' r' t' g') 4 rowHead rfl hWw ?_ ?_ ?_); rfl; rfl)
        | ((with_reducible refine wpL_eqlH s' t' r' g' ?_ ?_ ?_ ?_); rfl; rfl; rfl))
      go_ret
      exact ⟨rfl, hB⟩
  case neg =>
    have hk2 : ∀ s' r' t' g', ¬ IsHead Y s' r' t' g' := fun s' r' t' g' h => hk ⟨s', r', t', g', h⟩
    have HPs := Lib.hid (fun w => parse_none Y hk2 w)
    have HK := Lib.hid hk2
    clear hk hk2 hY
    cases hm : rightH s r t g with
    | false =>
      rw [hm] at HP HR HRr
      rw [if_neg (by simp)] at HP
      clear hm
      go_enter Tryz.func3, Tryz.ntmps3
      go_upto_region 1 with fail
      generalize hgw : World.alloc _ _ = w0
      replace hl : Lies w0 W.heap.size 23 (headA s r0 t g0) := by rw [← hgw]; exact hl
      replace hB : Below W.heap.size W w0 := by rw [← hgw]; exact hB
      clear hgw
      refine wp_held_any (S := fun _ => True) 9 rfl (by kernel_rfl) ?_
      have hdr : Below w0.heap.size w0 { w0 with drawn := w0.drawn + 1 } := (Below.refl _ _).drew
      replace hl := hl.on hdr
      replace hB := below_on hB hdr
      clear hdr
      generalize ({ w0 with drawn := w0.drawn + 1 } : World) = wd at *
      refine held_put 2 15 (.string (bytesOf x)) rfl rfl (by kernel_rfl) (by kernel_rfl) (by kernel_rfl) (by kernel_rfl) (fun w hS => rfl) trivial ?_
      simp only [List.setIfInBounds_toArray, List.set_cons_succ, List.set_cons_zero]
      refine held_put 3 16 (.string (bytesOf x)) rfl rfl (by kernel_rfl) (by kernel_rfl) (by kernel_rfl) (by kernel_rfl) (fun w hS => rfl) trivial ?_
      simp only [List.setIfInBounds_toArray, List.set_cons_succ, List.set_cons_zero]
      refine held_put 4 17 (.int .i64 (x.length : Int)) rfl rfl (by kernel_rfl) (by kernel_rfl) (by kernel_rfl) (by kernel_rfl) (fun w hS => run_lenS x rfl w) trivial ?_
      simp only [List.setIfInBounds_toArray, List.set_cons_succ, List.set_cons_zero]
      refine held_put 5 18 (.int .i64 (min (x.length : Int) 200)) rfl rfl (by kernel_rfl) (by kernel_rfl) (by kernel_rfl) (by kernel_rfl) (fun w hS => run_minI _ 200 rfl w) trivial ?_
      simp only [List.setIfInBounds_toArray, List.set_cons_succ, List.set_cons_zero]
      refine held_put 6 19 (.string (bytesOf Y)) rfl rfl (by kernel_rfl) (by kernel_rfl) (by kernel_rfl) (by kernel_rfl) (fun w hS => by rw [← HY.out]; exact run_cutS x 200 rfl rfl w) trivial ?_
      simp only [List.setIfInBounds_toArray, List.set_cons_succ, List.set_cons_zero]
      refine held_one 0 (by kernel_rfl) (wpOp_put 13 (v := .agg (headA s r0 t g0)) rfl rfl (by kernel_rfl) (run_ldH W.heap.size _ s t r0 g0 hl rfl) ⟨trivial, ?_⟩)
      simp only [List.setIfInBounds_toArray, List.set_cons_succ, List.set_cons_zero]
      refine held_one 1 (by kernel_rfl) (wpOp_call 14 rfl rfl (by kernel_rfl) (by kernel_rfl) ((HF.out wd).mono ?_))
      rintro e wa ⟨rfl, hbn⟩
      replace hl := hl.on hbn
      replace hB := below_on hB hbn
      clear hbn
      refine ⟨_, rfl, trivial, ?_⟩
      simp only [List.setIfInBounds_toArray, List.set_cons_succ, List.set_cons_zero]
      refine held_one 7 (by kernel_rfl) (wpOp_law rfl (by kernel_rfl) (wpL_store W.heap.size 23 (headA s r0 t g0) (headA s r t g) 4 rowHead rfl rfl (headA_one _ _ _ _) hl rfl rfl ?_))
      replace hl := hl.row (headA s r t g)
      replace hB := below_rowSet hB (Nat.le_refl _) (headA s r t g)
      refine ⟨trivial, ?_⟩
      simp only [Act.put]
      generalize World.setRow _ _ _ = w1 at *
      refine held_put 8 1 (.string (bytesOf Y)) rfl rfl (by kernel_rfl) (by kernel_rfl) (by kernel_rfl) (by kernel_rfl) (fun w hS => rfl) trivial ?_
      simp only [List.setIfInBounds_toArray, List.set_cons_succ, List.set_cons_zero]
      refine held_done (by kernel_rfl) ?_
      simp only [Exit.then]
      clear HF HY
      go_upto_region 3 with (first
        | ((with_reducible refine wpL_load W.heap.size 23 (headA s r t g) 4 rowHead rfl hl ?_ ?_); rfl)
        | (go_at_call 10; (with_reducible refine (HP.out _).mono ?_); rintro e w2 ⟨rfl, hb⟩; replace hl := hl.on hb; replace hB := below_on hB hb; clear hb))
      go_upto_region 4 with (first
        | (go_at_call 11; (with_reducible refine (HPs.out _).mono ?_); rintro e w3 ⟨rfl, hb⟩; replace hl := hl.on hb; replace hB := below_on hB hb; clear hb)
        | ((with_reducible refine wpL_store w3.heap.size 23 _ (headA 0 [] 0 []) 4 rowHead ?_ rfl (headA_one _ _ _ _) (Lies.new w3 _ _) ?_ ?_ ?_); rfl; rfl; rfl))
      generalize hgw : World.setRow _ _ _ = w4
      have hX : Lies w4 w3.heap.size 23 (headA 0 [] 0 []) := by rw [← hgw]; exact newH_lies w3 _ _ _
      replace hl : Lies w4 W.heap.size 23 (headA s r t g) := by rw [← hgw]; exact hl.on (newH w3 _ _)
      replace hB : Below W.heap.size W w4 := by rw [← hgw]; exact below_on hB (newH w3 _ _)
      clear hgw
      generalize w3.heap.size = bx at *
      have hB4 := hB
      refine wp_held_any (S := fun w' => Lies w' W.heap.size 23 (headA s r t g)) 9 rfl (by kernel_rfl) ?_
      have hdr : Below w4.heap.size w4 { w4 with drawn := w4.drawn + 1 } := (Below.refl _ _).drew
      replace hl := hl.on hdr
      replace hX := hX.on hdr
      replace hB := below_on hB hdr
      clear hdr hB4
      generalize ({ w4 with drawn := w4.drawn + 1 } : World) = w5 at *
      refine held_put 0 30 (.agg (headA s r t g)) rfl rfl (by kernel_rfl) (by kernel_rfl) (by kernel_rfl) (by kernel_rfl) (fun w hS => run_ldH W.heap.size _ s t r g hS rfl) hl ?_
      simp only [List.setIfInBounds_toArray, List.set_cons_succ, List.set_cons_zero]
      refine held_put 2 32 (.agg (headA s r t g)) rfl rfl (by kernel_rfl) (by kernel_rfl) (by kernel_rfl) (by kernel_rfl) (fun w hS => run_ldH W.heap.size _ s t r g hS rfl) hl ?_
      simp only [List.setIfInBounds_toArray, List.set_cons_succ, List.set_cons_zero]
      refine held_one 1 (by kernel_rfl) (wpOp_call 31 rfl rfl (by kernel_rfl) (by kernel_rfl) ((HR.out w5).mono ?_))
      rintro e w6 ⟨rfl, hbn⟩
      replace hl := hl.on hbn
      replace hX := hX.on hbn
      replace hB := below_on hB hbn
      clear hbn
      refine ⟨_, rfl, hl, ?_⟩
      simp only [List.setIfInBounds_toArray, List.set_cons_succ, List.set_cons_zero]
      refine held_one 3 (by kernel_rfl) (wpOp_call 33 rfl rfl (by kernel_rfl) (by kernel_rfl) ((HRr.out w6).mono ?_))
      rintro e w7 ⟨rfl, hbn⟩
      replace hl := hl.on hbn
      replace hX := hX.on hbn
      replace hB := below_on hB hbn
      clear hbn
      refine ⟨_, rfl, hl, ?_⟩
      simp only [List.setIfInBounds_toArray, List.set_cons_succ, List.set_cons_zero]
      refine held_put 4 34 (.bool false) rfl rfl (by kernel_rfl) (by kernel_rfl) (by kernel_rfl) (by kernel_rfl) (fun w hS => by kernel_rfl) hl ?_
      simp only [List.setIfInBounds_toArray, List.set_cons_succ, List.set_cons_zero]
      refine held_put 5 35 (.bool false) rfl rfl (by kernel_rfl) (by kernel_rfl) (by kernel_rfl) (by kernel_rfl) (fun w hS => rfl) hl ?_
      simp only [List.setIfInBounds_toArray, List.set_cons_succ, List.set_cons_zero]
      refine held_one 6 (by kernel_rfl) (wpOp_call 36 rfl rfl (by kernel_rfl) (by kernel_rfl) ((HAl.out w7 hB).mono ?_))
      rintro e w8 ⟨rfl, hbn⟩
      replace hl := hl.on hbn
      replace hX := hX.on hbn
      replace hB := below_on hB hbn
      clear hbn
      refine ⟨_, rfl, hl, ?_⟩
      simp only [List.setIfInBounds_toArray, List.set_cons_succ, List.set_cons_zero]
      refine held_put 7 37 (.bool false) rfl rfl (by kernel_rfl) (by kernel_rfl) (by kernel_rfl) (by kernel_rfl) (fun w hS => by kernel_rfl) hl ?_
      simp only [List.setIfInBounds_toArray, List.set_cons_succ, List.set_cons_zero]
      refine held_put 8 38 (.bool false) rfl rfl (by kernel_rfl) (by kernel_rfl) (by kernel_rfl) (by kernel_rfl) (fun w hS => by kernel_rfl) hl ?_
      simp only [List.setIfInBounds_toArray, List.set_cons_succ, List.set_cons_zero]
      refine held_done (by kernel_rfl) ?_
      simp only [Exit.then]
      go_upto_region 12 with (first
        | ((with_reducible refine wpL_load W.heap.size 23 (headA s r t g) 4 rowHead rfl hl ?_ ?_); rfl)
        | ((with_reducible refine wpL_load_gH W.heap.size 23 (headA s r t g) 4 rowHead rfl hl ?_ ?_ ?_); rfl; rfl)
        | ((with_reducible refine wpL_load bx 23 (headA 0 [] 0 []) 4 rowHead rfl hX ?_ ?_); rfl)
        | ((with_reducible refine wpL_load_gH bx 23 (headA 0 [] 0 []) 4 rowHead rfl hX ?_ ?_ ?_); rfl; rfl)
        | (go_at_call 13; (with_reducible refine (HRr.out _).mono ?_); rintro e w9 ⟨rfl, hb⟩; replace hl := hl.on hb; replace hX := hX.on hb; replace hB := below_on hB hb; clear hb))
      go_upto_region 13 with (first
        | (go_at_call 16; (refine (HRf.out _).mono ?_); rintro e wr ⟨s3, r3, t3, g3, b3, rfl, hb, hTl⟩; obtain rfl := tells_no hTl HK.out; clear hTl; replace hl := hl.on hb; replace hX := hX.on hb; replace hB := below_on hB hb; clear hb)
        | ((with_reducible refine wpL_store wr.heap.size 23 _ (headA s3 r3 t3 g3) 4 rowHead ?_ rfl (headA_one _ _ _ _) (Lies.new wr _ _) ?_ ?_ ?_); rfl; rfl; rfl))
      generalize hgw : World.setRow _ _ _ = w13
      have hWw : Lies w13 wr.heap.size 23 (headA s3 r3 t3 g3) := by rw [← hgw]; exact newH_lies wr _ _ _
      replace hX : Lies w13 bx 23 (headA 0 [] 0 []) := by rw [← hgw]; exact hX.on (newH wr _ _)
      replace hB : Below W.heap.size W w13 := by rw [← hgw]; exact below_on hB (newH wr _ _)
      clear hgw
      generalize wr.heap.size = bw at *
      go_wp2_with (first
        | ((with_reducible refine wpL_load_gH bx 23 (headA 0 [] 0 []) 4 rowHead rfl hX ?_ ?_ ?_); rfl; rfl)
        | ((with_reducible refine wpL_eqlH 0 0 [] [] ?_ ?_ ?_ ?_); rfl; rfl; rfl))
      go_ret
      exact ⟨rfl, hB⟩
    | true =>
      have HTx := Lib.hid (fun w => refText_any s r t g w hm)
      have HPt := Lib.hid (fun w => parse_head (textT s r t g) s r t g ⟨hm, rfl⟩ w)
      rw [hm] at HP HR HRr
      rw [if_pos rfl] at HP
      clear hm
      generalize textT s r t g = X at *
      go_enter Tryz.func3, Tryz.ntmps3
      go_upto_region 1 with fail
      generalize hgw : World.alloc _ _ = w0
      replace hl : Lies w0 W.heap.size 23 (headA s r0 t g0) := by rw [← hgw]; exact hl
      replace hB : Below W.heap.size W w0 := by rw [← hgw]; exact hB
      clear hgw
      refine wp_held_any (S := fun _ => True) 9 rfl (by kernel_rfl) ?_
      have hdr : Below w0.heap.size w0 { w0 with drawn := w0.drawn + 1 } := (Below.refl _ _).drew
      replace hl := hl.on hdr
      replace hB := below_on hB hdr
      clear hdr
      generalize ({ w0 with drawn := w0.drawn + 1 } : World) = wd at *
      refine held_put 2 15 (.string (bytesOf x)) rfl rfl (by kernel_rfl) (by kernel_rfl) (by kernel_rfl) (by kernel_rfl) (fun w hS => rfl) trivial ?_
      simp only [List.setIfInBounds_toArray, List.set_cons_succ, List.set_cons_zero]
      refine held_put 3 16 (.string (bytesOf x)) rfl rfl (by kernel_rfl) (by kernel_rfl) (by kernel_rfl) (by kernel_rfl) (fun w hS => rfl) trivial ?_
      simp only [List.setIfInBounds_toArray, List.set_cons_succ, List.set_cons_zero]
      refine held_put 4 17 (.int .i64 (x.length : Int)) rfl rfl (by kernel_rfl) (by kernel_rfl) (by kernel_rfl) (by kernel_rfl) (fun w hS => run_lenS x rfl w) trivial ?_
      simp only [List.setIfInBounds_toArray, List.set_cons_succ, List.set_cons_zero]
      refine held_put 5 18 (.int .i64 (min (x.length : Int) 200)) rfl rfl (by kernel_rfl) (by kernel_rfl) (by kernel_rfl) (by kernel_rfl) (fun w hS => run_minI _ 200 rfl w) trivial ?_
      simp only [List.setIfInBounds_toArray, List.set_cons_succ, List.set_cons_zero]
      refine held_put 6 19 (.string (bytesOf Y)) rfl rfl (by kernel_rfl) (by kernel_rfl) (by kernel_rfl) (by kernel_rfl) (fun w hS => by rw [← HY.out]; exact run_cutS x 200 rfl rfl w) trivial ?_
      simp only [List.setIfInBounds_toArray, List.set_cons_succ, List.set_cons_zero]
      refine held_one 0 (by kernel_rfl) (wpOp_put 13 (v := .agg (headA s r0 t g0)) rfl rfl (by kernel_rfl) (run_ldH W.heap.size _ s t r0 g0 hl rfl) ⟨trivial, ?_⟩)
      simp only [List.setIfInBounds_toArray, List.set_cons_succ, List.set_cons_zero]
      refine held_one 1 (by kernel_rfl) (wpOp_call 14 rfl rfl (by kernel_rfl) (by kernel_rfl) ((HF.out wd).mono ?_))
      rintro e wa ⟨rfl, hbn⟩
      replace hl := hl.on hbn
      replace hB := below_on hB hbn
      clear hbn
      refine ⟨_, rfl, trivial, ?_⟩
      simp only [List.setIfInBounds_toArray, List.set_cons_succ, List.set_cons_zero]
      refine held_one 7 (by kernel_rfl) (wpOp_law rfl (by kernel_rfl) (wpL_store W.heap.size 23 (headA s r0 t g0) (headA s r t g) 4 rowHead rfl rfl (headA_one _ _ _ _) hl rfl rfl ?_))
      replace hl := hl.row (headA s r t g)
      replace hB := below_rowSet hB (Nat.le_refl _) (headA s r t g)
      refine ⟨trivial, ?_⟩
      simp only [Act.put]
      generalize World.setRow _ _ _ = w1 at *
      refine held_put 8 1 (.string (bytesOf Y)) rfl rfl (by kernel_rfl) (by kernel_rfl) (by kernel_rfl) (by kernel_rfl) (fun w hS => rfl) trivial ?_
      simp only [List.setIfInBounds_toArray, List.set_cons_succ, List.set_cons_zero]
      refine held_done (by kernel_rfl) ?_
      simp only [Exit.then]
      clear HF HY
      go_upto_region 3 with (first
        | ((with_reducible refine wpL_load W.heap.size 23 (headA s r t g) 4 rowHead rfl hl ?_ ?_); rfl)
        | (go_at_call 10; (with_reducible refine (HP.out _).mono ?_); rintro e w2 ⟨rfl, hb⟩; replace hl := hl.on hb; replace hB := below_on hB hb; clear hb))
      go_upto_region 4 with (first
        | (go_at_call 11; (with_reducible refine (HPs.out _).mono ?_); rintro e w3 ⟨rfl, hb⟩; replace hl := hl.on hb; replace hB := below_on hB hb; clear hb)
        | ((with_reducible refine wpL_store w3.heap.size 23 _ (headA 0 [] 0 []) 4 rowHead ?_ rfl (headA_one _ _ _ _) (Lies.new w3 _ _) ?_ ?_ ?_); rfl; rfl; rfl))
      generalize hgw : World.setRow _ _ _ = w4
      have hX : Lies w4 w3.heap.size 23 (headA 0 [] 0 []) := by rw [← hgw]; exact newH_lies w3 _ _ _
      replace hl : Lies w4 W.heap.size 23 (headA s r t g) := by rw [← hgw]; exact hl.on (newH w3 _ _)
      replace hB : Below W.heap.size W w4 := by rw [← hgw]; exact below_on hB (newH w3 _ _)
      clear hgw
      generalize w3.heap.size = bx at *
      have hB4 := hB
      refine wp_held_any (S := fun w' => Lies w' W.heap.size 23 (headA s r t g)) 9 rfl (by kernel_rfl) ?_
      have hdr : Below w4.heap.size w4 { w4 with drawn := w4.drawn + 1 } := (Below.refl _ _).drew
      replace hl := hl.on hdr
      replace hX := hX.on hdr
      replace hB := below_on hB hdr
      clear hdr hB4
      generalize ({ w4 with drawn := w4.drawn + 1 } : World) = w5 at *
      refine held_put 0 30 (.agg (headA s r t g)) rfl rfl (by kernel_rfl) (by kernel_rfl) (by kernel_rfl) (by kernel_rfl) (fun w hS => run_ldH W.heap.size _ s t r g hS rfl) hl ?_
      simp only [List.setIfInBounds_toArray, List.set_cons_succ, List.set_cons_zero]
      refine held_put 2 32 (.agg (headA s r t g)) rfl rfl (by kernel_rfl) (by kernel_rfl) (by kernel_rfl) (by kernel_rfl) (fun w hS => run_ldH W.heap.size _ s t r g hS rfl) hl ?_
      simp only [List.setIfInBounds_toArray, List.set_cons_succ, List.set_cons_zero]
      refine held_one 1 (by kernel_rfl) (wpOp_call 31 rfl rfl (by kernel_rfl) (by kernel_rfl) ((HR.out w5).mono ?_))
      rintro e w6 ⟨rfl, hbn⟩
      replace hl := hl.on hbn
      replace hX := hX.on hbn
      replace hB := below_on hB hbn
      clear hbn
      refine ⟨_, rfl, hl, ?_⟩
      simp only [List.setIfInBounds_toArray, List.set_cons_succ, List.set_cons_zero]
      refine held_one 3 (by kernel_rfl) (wpOp_call 33 rfl rfl (by kernel_rfl) (by kernel_rfl) ((HRr.out w6).mono ?_))
      rintro e w7 ⟨rfl, hbn⟩
      replace hl := hl.on hbn
      replace hX := hX.on hbn
      replace hB := below_on hB hbn
      clear hbn
      refine ⟨_, rfl, hl, ?_⟩
      simp only [List.setIfInBounds_toArray, List.set_cons_succ, List.set_cons_zero]
      refine held_put 4 34 (.bool false) rfl rfl (by kernel_rfl) (by kernel_rfl) (by kernel_rfl) (by kernel_rfl) (fun w hS => by kernel_rfl) hl ?_
      simp only [List.setIfInBounds_toArray, List.set_cons_succ, List.set_cons_zero]
      refine held_put 5 35 (.bool false) rfl rfl (by kernel_rfl) (by kernel_rfl) (by kernel_rfl) (by kernel_rfl) (fun w hS => rfl) hl ?_
      simp only [List.setIfInBounds_toArray, List.set_cons_succ, List.set_cons_zero]
      refine held_one 6 (by kernel_rfl) (wpOp_call 36 rfl rfl (by kernel_rfl) (by kernel_rfl) ((HAl.out w7 hB).mono ?_))
      rintro e w8 ⟨rfl, hbn⟩
      replace hl := hl.on hbn
      replace hX := hX.on hbn
      replace hB := below_on hB hbn
      clear hbn
      refine ⟨_, rfl, hl, ?_⟩
      simp only [List.setIfInBounds_toArray, List.set_cons_succ, List.set_cons_zero]
      refine held_put 7 37 (.bool false) rfl rfl (by kernel_rfl) (by kernel_rfl) (by kernel_rfl) (by kernel_rfl) (fun w hS => by kernel_rfl) hl ?_
      simp only [List.setIfInBounds_toArray, List.set_cons_succ, List.set_cons_zero]
      refine held_put 8 38 (.bool false) rfl rfl (by kernel_rfl) (by kernel_rfl) (by kernel_rfl) (by kernel_rfl) (fun w hS => by kernel_rfl) hl ?_
      simp only [List.setIfInBounds_toArray, List.set_cons_succ, List.set_cons_zero]
      refine held_done (by kernel_rfl) ?_
      simp only [Exit.then]
      go_upto_region 10 with (first
        | ((with_reducible refine wpL_load W.heap.size 23 (headA s r t g) 4 rowHead rfl hl ?_ ?_); rfl)
        | ((with_reducible refine wpL_load_gH W.heap.size 23 (headA s r t g) 4 rowHead rfl hl ?_ ?_ ?_); rfl; rfl)
        | ((with_reducible refine wpL_load bx 23 (headA 0 [] 0 []) 4 rowHead rfl hX ?_ ?_); rfl)
        | ((with_reducible refine wpL_load_gH bx 23 (headA 0 [] 0 []) 4 rowHead rfl hX ?_ ?_ ?_); rfl; rfl)
        | (go_at_call 13; (with_reducible refine (HRr.out _).mono ?_); rintro e w9 ⟨rfl, hb⟩; replace hl := hl.on hb; replace hX := hX.on hb; replace hB := below_on hB hb; clear hb)
        | (go_at_call 11; (with_reducible refine (HPt.out _).mono ?_); rintro e wp ⟨rfl, hb⟩; replace hl := hl.on hb; replace hX := hX.on hb; replace hB := below_on hB hb; clear hb)
        | ((with_reducible refine wpL_store wp.heap.size 23 _ (headA s r t g) 4 rowHead ?_ rfl (headA_one _ _ _ _) (Lies.new wp _ _) ?_ ?_ ?_); rfl; rfl; rfl))
      generalize hgw : World.setRow _ _ _ = w10
      have hYy : Lies w10 wp.heap.size 23 (headA s r t g) := by rw [← hgw]; exact newH_lies wp _ _ _
      replace hl : Lies w10 W.heap.size 23 (headA s r t g) := by rw [← hgw]; exact hl.on (newH wp _ _)
      replace hX : Lies w10 bx 23 (headA 0 [] 0 []) := by rw [← hgw]; exact hX.on (newH wp _ _)
      replace hB : Below W.heap.size W w10 := by rw [← hgw]; exact below_on hB (newH wp _ _)
      clear hgw
      generalize wp.heap.size = by_ at *
      go_upto_region 12 with (first
        | ((with_reducible refine wpL_load W.heap.size 23 (headA s r t g) 4 rowHead rfl hl ?_ ?_); rfl)
        | ((with_reducible refine wpL_load_gH W.heap.size 23 (headA s r t g) 4 rowHead rfl hl ?_ ?_ ?_); rfl; rfl)
        | ((with_reducible refine wpL_load bx 23 (headA 0 [] 0 []) 4 rowHead rfl hX ?_ ?_); rfl)
        | ((with_reducible refine wpL_load_gH bx 23 (headA 0 [] 0 []) 4 rowHead rfl hX ?_ ?_ ?_); rfl; rfl)
        | ((with_reducible refine wpL_load_gH by_ 23 (headA s r t g) 4 rowHead rfl hYy ?_ ?_ ?_); rfl; rfl)
        | (go_at_call 15; (with_reducible refine (HTx.out _).mono ?_); rintro e wt ⟨rfl, hb⟩; replace hl := hl.on hb; replace hX := hX.on hb; replace hYy := hYy.on hb; replace hB := below_on hB hb; clear hb)
        | ((with_reducible refine wpL_neqH s t r g ?_ ?_ ?_ ?_); rfl; rfl; rfl))
      go_upto_region 13 with (first
        | (go_at_call 16; (refine (HRf.out _).mono ?_); rintro e wr ⟨s3, r3, t3, g3, b3, rfl, hb, hTl⟩; obtain rfl := tells_no hTl HK.out; clear hTl; replace hl := hl.on hb; replace hX := hX.on hb; replace hB := below_on hB hb; clear hb)
        | ((with_reducible refine wpL_store wr.heap.size 23 _ (headA s3 r3 t3 g3) 4 rowHead ?_ rfl (headA_one _ _ _ _) (Lies.new wr _ _) ?_ ?_ ?_); rfl; rfl; rfl))
      generalize hgw : World.setRow _ _ _ = w13
      have hWw : Lies w13 wr.heap.size 23 (headA s3 r3 t3 g3) := by rw [← hgw]; exact newH_lies wr _ _ _
      replace hX : Lies w13 bx 23 (headA 0 [] 0 []) := by rw [← hgw]; exact hX.on (newH wr _ _)
      replace hB : Below W.heap.size W w13 := by rw [← hgw]; exact below_on hB (newH wr _ _)
      clear hgw
      generalize wr.heap.size = bw at *
      go_wp2_with (first
        | ((with_reducible refine wpL_load_gH bx 23 (headA 0 [] 0 []) 4 rowHead rfl hX ?_ ?_ ?_); rfl; rfl)
        | ((with_reducible refine wpL_eqlH 0 0 [] [] ?_ ?_ ?_ ?_); rfl; rfl; rfl))
      go_ret
      exact ⟨rfl, hB⟩
end Go.Proofs.YtdjglghecekeoaaGreatDoor.J
