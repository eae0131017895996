/- The contract of the statements' own call that asks for known bytes' digits. -/
import Derived.Test.YtckamablodhecaaUnhex
namespace Go.Proofs.Ytckamablodhecaa
open Go.RowKit

theorem unhex_known (W : World) : Calls Try.prog 8 #[.string { data := #[54, 49, 102, 102] }] W fun e W' => e = .returned (.tuple #[.string { data := #[97, 255] }, .int .i64 0]) ∧ Below W.heap.size W W' := by
  have h := unhex_any { data := #[54, 49, 102, 102] } W (by decide)
  have e1 : unhexS [54, 49, 102, 102] = { data := #[97, 255] } := by rw [unhexS_some (x := [97, 255]) (by decide +kernel)]
  have e2 : unhexE [54, 49, 102, 102] = 0 := unhexE_some (x := [97, 255]) (by decide +kernel)
  rw [e1, e2] at h
  exact h
theorem hex_known (W : World) : Calls Try.prog 12 #[.string { data := #[97, 255] }] W fun e W' => e = .returned (.string { data := #[54, 49, 102, 102] }) ∧ Below W.heap.size W W' := by
  have h := hex_any { data := #[97, 255] } W (by decide)
  have e3 : hexL [97, 255] = [54, 49, 102, 102] := by decide +kernel
  rw [e3] at h
  exact h

set_option maxHeartbeats 400000 in
/-- known bytes' digits -/
theorem alive_any (W : World) : Calls Try.prog 14 #[] W fun e W' => e = .returned (.bool true) ∧ Below W.heap.size W W' := by
  go_enter Try.func14, Try.ntmps14
  go_wp2_with (go_at_call 8; refine (unhex_known _).mono ?_; rintro e w1 ⟨rfl, hb1⟩)
  go_wp2_with (go_at_call 12; refine (hex_known _).mono ?_; rintro e w2 ⟨rfl, hb2⟩)
  go_ret
  exact ⟨rfl, hb1.trans (hb2.mono hb1.size)⟩
end Go.Proofs.Ytckamablodhecaa
