/- The walk of the statement of whether a signature is right: whatever key, message and signature, it answers true. -/
import Derived.Test.YtgefhfcmiefocaaGreatDoorLot15
import Derived.Deep.CutRange
namespace Go.Proofs.YtgefhfcmiefocaaGreatDoor.E
open Go.RowKit Go.Sort Go.Proofs.YtgefhfcmiefocaaGreatDoor.F Go.Proofs.YtgefhfcmiefocaaGreatDoor.C
set_option maxRecDepth 100000
attribute [local irreducible] verifyE

set_option maxHeartbeats 3200000 in
theorem verifies_walk (A : Pts EdTab) (key msg sig : ByteArray) (hk : key.size ≤ maxLen) (hs : sig.size ≤ maxLen) (W : World) (hT : EdTab2 W) :
    Calls Tryz.prog 4 #[.string key, .string msg, .string sig] W fun e W' => e = .returned (.bool true) ∧ Below W.heap.size W W' := by
  have AL := Lib.hid (fun w (hb : Below W.heap.size W w) => alive_any A w (hT.on hb).1)
  have cS : Hid (∀ d os, Calls Tryz.prog 5 #[.string msg] (grow (redrawn W d) os) fun e w'' => e = .returned (.string (msg.extract 0 (min (msg.size : Int) 300).toNat)) ∧ ∃ p : Regrown, w'' = grow (redrawn W p.d) p.os) :=
    Lib.hid (reg (fun w _ => (short_any msg w).mono fun e w' ⟨t, _, ht, he, hb⟩ => ⟨by rw [he, ht], hb⟩))
  have HT := Lib.hid hT
  have hB := Below.refl W.heap.size W
  have hsi : (sig.size : Int) ≤ 9223372036854775807 := by unfold maxLen at hs; omega
  have hki : (key.size : Int) ≤ 9223372036854775807 := by unfold maxLen at hk; omega
  clear hT hs hk
  go_enter Tryz.func4, Tryz.ntmps4
  go_upto_region 1 with fail
  refine wp_region_quiet_below (by kernel_rfl) (by kernel_rfl) ?_
  repeat (go_big_quiet_step (exact cS.out _ _))
  refine wpQuiet_nil ?_
  intro w0 hw'
  obtain ⟨⟨dq, osq⟩, hw''⟩ := hw'
  have hb2 : Below W.heap.size W w0 := by rw [hw'']; exact below_regrown W dq osq
  replace hB := below_on hB hb2
  clear hw'' hb2
  have hm1 : (msg.extract 0 (min (msg.size : Int) 300).toNat).size ≤ 300 := by rw [ByteArray.size_extract]; omega
  generalize msg.extract 0 (min (msg.size : Int) 300).toNat = m at *
  generalize sig.extract 0 (min (sig.size : Int) 70).toNat = g at *
  generalize key.extract 0 (min (key.size : Int) 40).toNat = k at *
  clear cS hsi hki
  have HV := Lib.hid (fun w (hb : Below W.heap.size W w) => verify_any A k m g (by omega) w (HT.out.on hb))
  by_cases h : k.size = 32 ∧ g.size = 64
  · have HR := Lib.hid (fun w => rverify_any k m g h.1 h.2 hm1 w)
    generalize verifyE k m g = e2 at *
    have hi : (k.size : Int) = 32 := by omega
    have hj : (g.size : Int) = 64 := by omega
    clear h hm1 HT
    go_wp2_with (first
      | (go_at_call 12; (with_reducible refine (HV.out _ hB).mono ?_); rintro e w1 ⟨rfl, hb⟩; replace hB := below_on hB hb; clear hb)
      | (go_at_call 8; (with_reducible refine (AL.out _ hB).mono ?_); rintro e w2 ⟨rfl, hb⟩; replace hB := below_on hB hb; clear hb)
      | (go_at_call 13; (with_reducible refine (HR.out _).mono ?_); rintro e w3 ⟨rfl, hb⟩; replace hB := below_on hB hb; clear hb))
    go_ret
    exact ⟨rfl, hB⟩
  · have e1 : verifyE k m g = 1 := by unfold verifyE; rw [if_neg h]
    rw [e1] at HV
    clear e1 hm1 HT
    by_cases hk : k.size = 32
    · have hi : (k.size : Int) = 32 := by omega
      have hj : ¬ (g.size : Int) = 64 := by omega
      clear h hk
      go_wp2_with (first
        | (go_at_call 12; (with_reducible refine (HV.out _ hB).mono ?_); rintro e w1 ⟨rfl, hb⟩; replace hB := below_on hB hb; clear hb)
        | (go_at_call 8; (with_reducible refine (AL.out _ hB).mono ?_); rintro e w2 ⟨rfl, hb⟩; replace hB := below_on hB hb; clear hb))
      go_ret
      exact ⟨rfl, hB⟩
    · have hi : ¬ (k.size : Int) = 32 := by omega
      clear h hk
      go_wp2_with (first
        | (go_at_call 12; (with_reducible refine (HV.out _ hB).mono ?_); rintro e w1 ⟨rfl, hb⟩; replace hB := below_on hB hb; clear hb)
        | (go_at_call 8; (with_reducible refine (AL.out _ hB).mono ?_); rintro e w2 ⟨rfl, hb⟩; replace hB := below_on hB hb; clear hb))
      go_ret
      exact ⟨rfl, hB⟩
end Go.Proofs.YtgefhfcmiefocaaGreatDoor.E
