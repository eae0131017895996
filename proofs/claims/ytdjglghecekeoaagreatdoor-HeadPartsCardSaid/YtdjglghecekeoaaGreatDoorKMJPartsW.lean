/- The walk of the statement of a head's parts: whatever head, it answers true. -/
import Derived.Test.YtdjglghecekeoaaGreatDoorK12
namespace Go.Proofs.YtdjglghecekeoaaGreatDoor.J
open Go.RowKit Go.Sort Go.Proofs.YtdjglghecekeoaaGreatDoor.U Go.Proofs.YtdjglghecekeoaaGreatDoor.R Go.Proofs.YtdjglghecekeoaaGreatDoor.Q
set_option maxRecDepth 100000

theorem numV_big {k : Nat} (h : k ≤ 1099511627776) : numV (bigL k 8) = k ∧ numE (bigL k 8) = 0 := by
  unfold numV numE
  rw [if_pos (by rw [bigL_length]; exact Nat.le_refl _), if_pos (by rw [bigL_length]; exact Nat.le_refl _), numL_bigL]
  exact ⟨Nat.mod_eq_of_lt (by omega), rfl⟩
set_option maxHeartbeats 3200000 in
theorem partsJ_walk (A : C.Pts E.EdTab) (s : Int) (r0 : List UInt8) (t : Int) (g0 : List UInt8) (W : World) (hr : r0.length ≤ maxLen) (hg : g0.length ≤ maxLen) (hT : HTab W) :
    Calls Tryz.prog 8 #[.agg (headA s r0 t g0)] W fun e w' => e = .returned (.bool true) ∧ Below W.heap.size W w' := by
  have HF := Lib.hid (fun w => fewH_any s r0 t g0 w hr hg)
  have HAl := Lib.hid (fun w (hb : Below W.heap.size W w) => aliveH_any A w (hT.on hb))
  have hl : Lies (W.alloc (.cells (headA s r0 t g0) 23)) W.heap.size 23 (headA s r0 t g0) := Lies.new W _ _
  have hB := (Below.refl W.heap.size W).alloc (Nat.le_refl _) (.cells (headA s r0 t g0) 23)
  generalize r0.take 40 = r at *
  generalize g0.take 70 = g at *
  have HP := Lib.hid (fun w => printH_any s r t g w)
  have HR := Lib.hid (fun w => refRightH_any s r t g w)
  clear hr hg hT
  unfold printV at HP
  cases hm : rightH s r t g with
  | false =>
    rw [hm] at HP HR
    rw [if_neg (by simp)] at HP
    clear hm
    go_enter Tryz.func8, Tryz.ntmps8
    go_upto_region 1 with fail
    generalize hgw : World.alloc _ _ = w0
    replace hl : Lies w0 W.heap.size 23 (headA s r0 t g0) := by rw [← hgw]; exact hl
    replace hB : Below W.heap.size W w0 := by rw [← hgw]; exact hB
    clear hgw
    go_upto_region 2 with (first
      | ((with_reducible refine wpL_load W.heap.size 23 (headA s r0 t g0) 4 rowHead rfl hl ?_ ?_); rfl)
      | (go_at_call 9; (with_reducible refine (HF.out _).mono ?_); rintro e w1 ⟨rfl, hb⟩; replace hl := hl.on hb; replace hB := below_on hB hb; clear hb)
      | ((with_reducible refine wpL_store W.heap.size 23 (headA s r0 t g0) (headA s r t g) 4 rowHead rfl rfl (headA_one _ _ _ _) hl ?_ ?_ ?_); rfl; rfl))
    generalize hgw : World.setRow _ _ _ = w2
    replace hl : Lies w2 W.heap.size 23 (headA s r t g) := by rw [← hgw]; exact hl.row _
    replace hB : Below W.heap.size W w2 := by rw [← hgw]; exact below_rowSet hB (Nat.le_refl _) _
    clear hgw
    go_wp2_with (first
      | ((with_reducible refine wpL_load W.heap.size 23 (headA s r t g) 4 rowHead rfl hl ?_ ?_); rfl)
      | ((with_reducible refine wpL_load_gH W.heap.size 23 (headA s r t g) 4 rowHead rfl hl ?_ ?_ ?_); rfl; rfl)
      | (go_at_call 10; (with_reducible refine (HP.out _).mono ?_); rintro e w3 ⟨rfl, hb⟩; replace hl := hl.on hb; replace hB := below_on hB hb; clear hb)
      | (go_at_call 13; (with_reducible refine (HR.out _).mono ?_); rintro e w4 ⟨rfl, hb⟩; replace hl := hl.on hb; replace hB := below_on hB hb; clear hb)
      | (go_at_call 14; (with_reducible refine (HAl.out _ hB).mono ?_); rintro e wa ⟨rfl, hb⟩; replace hl := hl.on hb; replace hB := below_on hB hb; clear hb))
    go_ret
    exact ⟨rfl, hB⟩
  | true =>
    obtain ⟨u1, u2, _, _⟩ := head_unpack (x := textT s r t g) ⟨hm, rfl⟩
    obtain ⟨m1, m2, m3, m4, m5⟩ := mayH_of (rightH_of hm).1
    obtain ⟨k, rfl⟩ : ∃ k : Nat, s = (k : Int) := ⟨s.toNat, (Int.toNat_of_nonneg m1).symm⟩
    obtain ⟨m, rfl⟩ : ∃ m : Nat, t = (m : Int) := ⟨t.toNat, (Int.toNat_of_nonneg m3).symm⟩
    have HU := Lib.hid (fun w => unpackB_any (textT (k : Int) r (m : Int) g) w)
    have HV := Lib.hid (fun w => unpackB_any (signedT (k : Int) r (m : Int)) w)
    rw [u1] at HU
    rw [u2] at HV
    unfold partsS at HV
    rw [Int.toNat_natCast, Int.toNat_natCast] at HV
    have HN1 := Lib.hid (fun w => numberB_any (bigL k 8) w)
    have HN2 := Lib.hid (fun w => numberB_any (bigL m 8) w)
    rw [(numV_big (by omega)).1, (numV_big (by omega)).2] at HN1 HN2
    have q1 := wrap_big k (by omega)
    have q2 := wrap_big m (by omega)
    rw [hm] at HP
    rw [if_pos rfl] at HP
    clear hm HR u1 u2 m1 m2 m3 m4 m5
    generalize textT (k : Int) r (m : Int) g = X at *
    generalize signedT (k : Int) r (m : Int) = M at *
    generalize bigL k 8 = K1 at *
    generalize bigL m 8 = K2 at *
    go_enter Tryz.func8, Tryz.ntmps8
    go_upto_region 1 with fail
    generalize hgw : World.alloc _ _ = w0
    replace hl : Lies w0 W.heap.size 23 (headA (k : Int) r0 (m : Int) g0) := by rw [← hgw]; exact hl
    replace hB : Below W.heap.size W w0 := by rw [← hgw]; exact hB
    clear hgw
    go_upto_region 2 with (first
      | ((with_reducible refine wpL_load W.heap.size 23 (headA (k : Int) r0 (m : Int) g0) 4 rowHead rfl hl ?_ ?_); rfl)
      | (go_at_call 9; (with_reducible refine (HF.out _).mono ?_); rintro e w1 ⟨rfl, hb⟩; replace hl := hl.on hb; replace hB := below_on hB hb; clear hb)
      | ((with_reducible refine wpL_store W.heap.size 23 (headA (k : Int) r0 (m : Int) g0) (headA (k : Int) r (m : Int) g) 4 rowHead rfl rfl (headA_one _ _ _ _) hl ?_ ?_ ?_); rfl; rfl))
    generalize hgw : World.setRow _ _ _ = w2
    replace hl : Lies w2 W.heap.size 23 (headA (k : Int) r (m : Int) g) := by rw [← hgw]; exact hl.row _
    replace hB : Below W.heap.size W w2 := by rw [← hgw]; exact below_rowSet hB (Nat.le_refl _) _
    clear hgw
    go_upto_region 6 with (first
      | ((with_reducible refine wpL_load W.heap.size 23 (headA (k : Int) r (m : Int) g) 4 rowHead rfl hl ?_ ?_); rfl)
      | ((with_reducible refine wpL_load_gH W.heap.size 23 (headA (k : Int) r (m : Int) g) 4 rowHead rfl hl ?_ ?_ ?_); rfl; rfl)
      | (go_at_call 10; (with_reducible refine (HP.out _).mono ?_); rintro e w3 ⟨rfl, hb⟩; replace hl := hl.on hb; replace hB := below_on hB hb; clear hb)
      | (go_at_call 28; (with_reducible refine (HU.out _).mono ?_); rintro e w4 ⟨v, rfl, hs, hb⟩; obtain ⟨b1, o1, c1, rfl, hc1, hm1, k0, k1⟩ := strs_two hs; clear hs; replace hl := hl.on hb; replace hB := below_on hB hb; clear hb))
    have d3 := hd_g hl
    go_quiet (fail)
    generalize hgw : World.drewN _ _ = w5
    replace hl : Lies w5 W.heap.size 23 (headA (k : Int) r (m : Int) g) := by rw [← hgw]; exact hl.drewN _
    replace hB : Below W.heap.size W w5 := by rw [← hgw]; exact below_drawn hB _
    replace k0 : w5.cell? ⟨b1, o1, none⟩ = some (.string (bytesOf M)) := by rw [← hgw]; exact k0
    clear hgw k1 d3 HP HU HF
    go_upto_region 9 with (first
      | (go_at_call 28; (with_reducible refine (HV.out _).mono ?_); rintro e w6 ⟨v, rfl, hs, hb⟩; obtain ⟨b2, o2, c2, rfl, hc2, hm2, j0, j1, j2, j3⟩ := strs_four hs; clear hs k0; replace hl := hl.on hb; replace hB := below_on hB hb; clear hb))
    have d1 := hd_r hl
    have j0' : w6.cell? ⟨b2, o2, none⟩ = some (.string { data := #[104, 101, 97, 100] }) := j0
    clear j0
    go_quiet (fail)
    generalize hgw : World.drewN _ _ = w7
    replace hl : Lies w7 W.heap.size 23 (headA (k : Int) r (m : Int) g) := by rw [← hgw]; exact hl.drewN _
    replace hB : Below W.heap.size W w7 := by rw [← hgw]; exact below_drawn hB _
    replace j1 : w7.cell? ⟨b2, o2 + 1, none⟩ = some (.string (bytesOf K1)) := by rw [← hgw]; exact j1
    replace j2 : w7.cell? ⟨b2, o2 + 2, none⟩ = some (.string (bytesOf K2)) := by rw [← hgw]; exact j2
    clear hgw j3 d1 j0' HV
    go_upto_region 13 with (first
      | (go_at_call 29; (with_reducible refine (HN1.out _).mono ?_); rintro e w8 ⟨rfl, rfl⟩)
      | (go_at_call 29; (with_reducible refine (HN2.out _).mono ?_); rintro e w9 ⟨rfl, rfl⟩))
    clear HN1 HN2 j1 j2
    go_wp2_with (first
      | (go_at_call 14; (with_reducible refine (HAl.out _ hB).mono ?_); rintro e wa ⟨rfl, hb⟩; have p0 := hd_s (hl.on hb); have p2 := hd_t (hl.on hb); replace hB := below_on hB hb; clear hb))
    go_ret
    exact ⟨rfl, hB⟩
end Go.Proofs.YtdjglghecekeoaaGreatDoor.J
