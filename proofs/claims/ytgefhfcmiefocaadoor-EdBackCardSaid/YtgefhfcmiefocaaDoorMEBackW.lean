/- The walk of the statement of what is signed and verified: whatever seed, message, place and bit, it answers true. -/
import Derived.Test.YtgefhfcmiefocaaDoorLot13
import Derived.Deep.CutRange
namespace Go.Proofs.YtgefhfcmiefocaaDoor.E
open Go.RowKit Go.Sort Go.Proofs.YtgefhfcmiefocaaDoor.F Go.Proofs.YtgefhfcmiefocaaDoor.C
set_option maxRecDepth 100000
theorem xor_bit : ∀ (c : Fin 256) (b : Fin 8), bits BinOp.xor IntKind.u8 ((c.val : Nat) : Int) ((2 : Int) ^ b.val % 256) = ((c.val ^^^ 2 ^ b.val : Nat) : Int) := by decide +kernel
theorem xor_small : ∀ (c : Fin 256) (b : Fin 8), c.val ^^^ 2 ^ b.val < 256 := by decide +kernel
attribute [local irreducible] keyT seedT verifyE firstS

set_option maxHeartbeats 3200000 in
theorem back_walk (A : Pts EdTab) (seed msg : ByteArray) (at_ : Int) (bit : Nat) (hm : msg.size ≤ maxLen) (hb : bit < 256) (W : World) (hT : EdTab2 W) :
    Calls Tryd.prog 3 #[.string seed, .string msg, .int .i64 at_, .int .u8 (bit : Int)] W fun e W' => e = .returned (.bool true) ∧ Below W.heap.size W W' := by
  have AL := Lib.hid (fun w (hb : Below W.heap.size W w) => alive_any A w (hT.on hb).1)
  have FI := Lib.hid (fun w => first_any w)
  have SH := Lib.hid (fun w => short_any msg w)
  have HT := Lib.hid hT
  have hB := Below.refl W.heap.size W
  have hmi : (msg.size : Int) ≤ 9223372036854775807 := by unfold maxLen at hm; omega
  clear hT hm
  go_enter Tryd.func3, Tryd.ntmps3
  go_upto_if 19 with (go_at_call 5; (with_reducible refine (SH.out _).mono ?_); rintro e w1 ⟨m, hm, hme, rfl, hb⟩; clear hme; replace hB := below_on hB hb; clear hb)
  go_cut [0] from 17 to 20 (fun s0 wx => ∃ s : ByteArray, s0 = .string s ∧ s.size = 32 ∧ Below W.heap.size W wx)
  case first =>
    by_cases h : seed.size = 32
    · have hi : (seed.size : Int) = 32 := by omega
      go_wp2_with fail
      go_meet
      exact ⟨seed, rfl, h, hB⟩
    · have hi : ¬ (seed.size : Int) = 32 := by omega
      go_wp2_with (go_at_call 6; (with_reducible refine (FI.out _).mono ?_); rintro e w2 ⟨rfl, hb⟩; replace hB := below_on hB hb; clear hb)
      go_meet
      exact ⟨firstS, rfl, firstS_size, hB⟩
  case rest =>
    clear hB FI
    obtain ⟨s, rfl, h32, hB⟩ := hcut
    have HP := Lib.hid (fun w (hb : Below W.heap.size W w) => public_any A s (by omega) w (HT.out.on hb).1)
    rw [if_pos h32] at HP
    have HS := Lib.hid (fun w (hb : Below W.heap.size W w) => signs_any A s m (by omega) (by omega) w (HT.out.on hb).1)
    rw [if_pos h32] at HS
    have HV := Lib.hid (fun w (hb : Below W.heap.size W w) => verify_any A (keyT s.data.toList) m (seedT s m) (by omega) w (HT.out.on hb))
    rw [verify_own] at HV
    obtain ⟨r, hr⟩ : ∃ r, Int.tmod at_ 32 = r := ⟨_, rfl⟩
    have hr1 : -32 < r ∧ r < 32 := by rw [← hr]; exact ⟨Int.lt_tmod_of_pos _ (by decide), Int.tmod_lt_of_pos _ (by decide)⟩
    obtain ⟨i, hi⟩ : ∃ i : Nat, Int.tmod (r + 32) 32 = (i : Int) := ⟨(Int.tmod (r + 32) 32).toNat, (Int.toNat_of_nonneg (Int.tmod_nonneg _ (by omega))).symm⟩
    have hi1 : i < 32 := by have := Int.tmod_lt_of_pos (r + 32) (show (0 : Int) < 32 by decide); omega
    obtain ⟨b, hb1⟩ : ∃ b : Nat, Int.tmod (bit : Int) 8 = (b : Int) := ⟨bit % 8, by rw [Int.tmod_eq_emod_of_nonneg (by omega)]; omega⟩
    have hb2 : b < 8 := by have := Int.tmod_lt_of_pos (bit : Int) (show (0 : Int) < 8 by decide); omega
    have hS64 := seedT_size s m
    have hSl : (seedT s m).data.toList.length = 64 := by rw [← Lib.size_eq]; exact hS64
    have VO := Lib.hid (fun x hx => verify_other s m i b hi1 hb2 x hx)
    obtain ⟨l, hl⟩ : ∃ l, (seedT s m).data.toList = l := ⟨_, rfl⟩
    rw [hl] at VO hSl
    have HL := Lib.hid hl
    clear hl
    obtain ⟨c, hc⟩ : ∃ c, (l.getD (32 + i) 0).toNat = c := ⟨_, rfl⟩
    have hc1 : c < 256 := by rw [← hc]; exact UInt8.toNat_lt _
    have hx1 := xor_bit ⟨c, hc1⟩ ⟨b, hb2⟩
    have hx2 := xor_small ⟨c, hc1⟩ ⟨b, hb2⟩
    simp only at hx1 hx2
    rw [hc] at VO
    generalize hxv : c ^^^ 2 ^ b = x at *
    have hx3 := byte_back x hx2
    obtain ⟨e2, he2, HE⟩ : ∃ e2 : Int, verifyE (keyT s.data.toList) m ⟨(l.set (32 + i) x.toUInt8).toArray⟩ = e2 ∧ (e2 = 12 ∨ e2 = 11) := ⟨_, rfl, VO.out x.toUInt8 hx3⟩
    have HV2 := Lib.hid (fun w (hb : Below W.heap.size W w) => verify_any A (keyT s.data.toList) m ⟨(l.set (32 + i) x.toUInt8).toArray⟩ (by omega) w (HT.out.on hb))
    rw [he2] at HV2
    have hSi : ((seedT s m).size : Int) = 64 := by omega
    generalize seedT s m = SG at *
    generalize keyT s.data.toList = K at *
    clear hxv he2 VO
    go_upto_region 8 with (first
      | (go_at_call 7; (with_reducible refine (HP.out _ hB).mono ?_); rintro e w3 ⟨rfl, hb⟩; replace hB := below_on hB hb; clear hb)
      | (go_at_call 8; (with_reducible refine (HS.out _ hB).mono ?_); rintro e w4 ⟨rfl, hb⟩; replace hB := below_on hB hb; clear hb)
      | (go_at_call 9; (with_reducible refine (HV.out _ hB).mono ?_); rintro e w5 ⟨rfl, hb⟩; replace hB := below_on hB hb; clear hb))
    clear HP HS HV
    go_upto_region 10 with ((with_reducible refine wpL_bytes SG 64 hS64 ?_ ?_); rfl; intro gb cap w6 hgb hby hb; subst hgb)
    rw [HL.out] at hby
    have hsz := hB.size
    replace hB := below_on hB hb
    clear hb
    generalize w5.heap.size = gb at *
    have cc := (bys_at hby (32 + i) (by omega)).1
    have cf := (bys_at hby (32 + i) (by omega)).2
    rw [hc] at cc
    have hp : (((32 + i : Nat) : Int)) = 32 + (i : Int) := by omega
    go_upto_region 11 with fail
    replace hby := bys_set hby (32 + i) x.toUInt8
    rw [hx3] at hby
    replace hB := below_put hB (show W.heap.size ≤ gb by omega) (32 + i) (.int .u8 (x : Int))
    clear cc cf
    generalize World.setCell _ _ _ = w7 at *
    have hl64 : (l.set (32 + i) x.toUInt8).length = 64 := by rw [List.length_set]; exact hSl
    generalize l.set (32 + i) x.toUInt8 = L at *
    clear hx1 hx2 hx3 hc hp hsz hSl hS64 hSi hr hr1 hi hi1 hb1 hb2 hb
    rcases HE with rfl | rfl
    · go_wp2_with (first
        | ((with_reducible refine wpL_text L 64 gb cap hl64 hby ?_ ?_); rfl)
        | (go_at_call 9; (with_reducible refine (HV2.out _ hB).mono ?_); rintro e w8 ⟨rfl, hb⟩; replace hB := below_on hB hb; clear hb)
        | (go_at_call 10; (with_reducible refine (AL.out _ hB).mono ?_); rintro e w9 ⟨rfl, hb⟩; replace hB := below_on hB hb; clear hb))
      go_ret
      exact ⟨rfl, hB⟩
    · go_wp2_with (first
        | ((with_reducible refine wpL_text L 64 gb cap hl64 hby ?_ ?_); rfl)
        | (go_at_call 9; (with_reducible refine (HV2.out _ hB).mono ?_); rintro e w8 ⟨rfl, hb⟩; replace hB := below_on hB hb; clear hb)
        | (go_at_call 10; (with_reducible refine (AL.out _ hB).mono ?_); rintro e w9 ⟨rfl, hb⟩; replace hB := below_on hB hb; clear hb))
      go_ret
      exact ⟨rfl, hB⟩
end Go.Proofs.YtgefhfcmiefocaaDoor.E
