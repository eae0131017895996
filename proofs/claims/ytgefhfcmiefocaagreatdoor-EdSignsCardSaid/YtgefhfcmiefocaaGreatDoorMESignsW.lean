/- The walk of the statement of keys and signatures: whatever seed and message, it answers true. -/
import Derived.Test.YtgefhfcmiefocaaGreatDoorLot15
import Derived.Deep.CutRange
namespace Go.Proofs.YtgefhfcmiefocaaGreatDoor.E
open Go.RowKit Go.Sort Go.Proofs.YtgefhfcmiefocaaGreatDoor.F Go.Proofs.YtgefhfcmiefocaaGreatDoor.C
set_option maxRecDepth 100000
theorem eql_self_text (s : ByteArray) : (s.toList == s.toList) = true := by simp
attribute [local irreducible] keyT seedT seedN feA

set_option maxHeartbeats 3200000 in
theorem signs_walk (A : Pts EdTab) (seed msg : ByteArray) (hs : seed.size ≤ maxLen) (W : World) (hT : EdTab W) :
    Calls Tryz.prog 3 #[.string seed, .string msg] W fun e W' => e = .returned (.bool true) ∧ Below W.heap.size W W' := by
  have AL := Lib.hid (fun w (hb : Below W.heap.size W w) => alive_any A w (hT.on hb))
  have cS : Hid (∀ d os, Calls Tryz.prog 5 #[.string msg] (grow (redrawn W d) os) fun e w'' => e = .returned (.string (msg.extract 0 (min (msg.size : Int) 300).toNat)) ∧ ∃ p : Regrown, w'' = grow (redrawn W p.d) p.os) :=
    Lib.hid (reg (fun w _ => (short_any msg w).mono fun e w' ⟨t, _, ht, he, hb⟩ => ⟨by rw [he, ht], hb⟩))
  have HT := Lib.hid hT
  have hB := Below.refl W.heap.size W
  have hsi : (seed.size : Int) ≤ 9223372036854775807 := by unfold maxLen at hs; omega
  clear hT hs
  go_enter Tryz.func3, Tryz.ntmps3
  go_upto_region 1 with fail
  refine wp_region_quiet_below (by kernel_rfl) (by kernel_rfl) ?_
  repeat (go_big_quiet_step (exact cS.out _ _))
  refine wpQuiet_nil ?_
  intro w0 hw'
  obtain ⟨⟨dq, osq⟩, hw''⟩ := hw'
  have hb2 : Below W.heap.size W w0 := by rw [hw'']; exact below_regrown W dq osq
  replace hB := below_on hB hb2
  clear hw'' hb2
  have hm1 : (msg.extract 0 (min (msg.size : Int) 300).toNat).size ≤ 300 := by rw [ByteArray.size_extract]; omega
  have hg1 : (seed.extract 0 (min (seed.size : Int) 40).toNat).size ≤ 40 := by rw [ByteArray.size_extract]; omega
  generalize msg.extract 0 (min (msg.size : Int) 300).toNat = m at *
  generalize seed.extract 0 (min (seed.size : Int) 40).toNat = s at *
  clear cS hsi
  have HP := Lib.hid (fun w (hb : Below W.heap.size W w) => public_any A s (by omega) w (HT.out.on hb))
  have HS := Lib.hid (fun w (hb : Below W.heap.size W w) => signs_any A s m (by omega) (by omega) w (HT.out.on hb))
  by_cases h : s.size = 32
  · rw [if_pos h] at HP HS
    have HN := Lib.hid (fun w => rnumber_any s (by omega) w)
    have hnK := seedN_K s.data.toList
    have HR := Lib.hid (fun w => rtimes_any (seedN s.data.toList) hnK w)
    rw [keyT_seed] at HR
    have HG := Lib.hid (fun w => rsign_any s m (by omega) hm1 w)
    generalize keyT s.data.toList = K at *
    generalize seedT s m = SG at *
    generalize seedN s.data.toList = n at *
    have q1 := eql_self_text K
    have q2 := eql_self_text SG
    have hi : (s.size : Int) = 32 := by omega
    clear h hm1 hg1 hnK HT
    go_wp2_with (first
      | (go_at_call 6; (with_reducible refine (HP.out _ hB).mono ?_); rintro e w1 ⟨rfl, hb⟩; replace hB := below_on hB hb; clear hb)
      | (go_at_call 7; (with_reducible refine (HS.out _ hB).mono ?_); rintro e w2 ⟨rfl, hb⟩; replace hB := below_on hB hb; clear hb)
      | (go_at_call 8; (with_reducible refine (AL.out _ hB).mono ?_); rintro e w3 ⟨rfl, hb⟩; replace hB := below_on hB hb; clear hb)
      | (go_at_call 10; (with_reducible refine (HN.out _).mono ?_); rintro e w4 ⟨rfl, hb⟩; replace hB := below_on hB hb; clear hb)
      | (go_at_call 9; (with_reducible refine (HR.out _).mono ?_); rintro e w5 ⟨rfl, hb⟩; replace hB := below_on hB hb; clear hb)
      | (go_at_call 11; (with_reducible refine (HG.out _).mono ?_); rintro e w6 ⟨rfl, hb⟩; replace hB := below_on hB hb; clear hb))
    go_ret
    exact ⟨rfl, hB⟩
  · rw [if_neg h] at HP HS
    have q1 := eql_self_text { data := #[] }
    have hi : ¬ (s.size : Int) = 32 := by omega
    clear h hm1 hg1 HT
    go_wp2_with (first
      | (go_at_call 6; (with_reducible refine (HP.out _ hB).mono ?_); rintro e w1 ⟨rfl, hb⟩; replace hB := below_on hB hb; clear hb)
      | (go_at_call 7; (with_reducible refine (HS.out _ hB).mono ?_); rintro e w2 ⟨rfl, hb⟩; replace hB := below_on hB hb; clear hb)
      | (go_at_call 8; (with_reducible refine (AL.out _ hB).mono ?_); rintro e w3 ⟨rfl, hb⟩; replace hB := below_on hB hb; clear hb))
    go_ret
    exact ⟨rfl, hB⟩
end Go.Proofs.YtgefhfcmiefocaaGreatDoor.E
