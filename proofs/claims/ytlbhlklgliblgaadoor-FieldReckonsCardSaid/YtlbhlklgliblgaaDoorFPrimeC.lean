/- The contract of the reference's Prime. -/
import Derived.Test.YtlbhlklgliblgaaDoorFReck
namespace Go.Proofs.YtlbhlklgliblgaaDoor.F
open Go.RowKit

set_option maxHeartbeats 800000 in
theorem prime_any (W : World) :
    Calls Tryd.prog 32 #[] W fun e W' => ∃ g cap, e = .returned (.slice (some ⟨g, 0, none⟩) 16 cap) ∧ 16 ≤ cap ∧ Dig W' g 0 primeL ∧ Below W.heap.size W W' := by
  obtain ⟨i0, hi, hz0, hz1, hz2⟩ := info_parts info3
  go_enter Tryd.func32, Tryd.ntmps32
  go_wp2_with (at_make; refine wpList_make_full _ rfl _ _ 42 rfl W.heap.size 3 i0 (.int .i64 0) 1 Tryd.underlying42 hi hz0 hz1 _ _ _ _ 16 rfl rfl ?e1 ?e2 ?b2 ?b3 (Nat.le_refl _) ?_)
  case e1 => omega
  case e2 => omega
  case b2 => rw [hz2]; omega
  case b3 => unfold maxLen; omega
  intro w1 hown hgrow
  have hb1 : Below W.heap.size W w1 := (Below.refl _ _).grown hgrow (Nat.le_refl _) (fun k hk => by cases hk)
  rw [made_zeros] at hown
  clear hgrow
  go_wp2_with fail
  go_loopw [6] (fun ix wr => ∃ i : Nat, i ≤ 16 ∧ ix = .int .i64 i ∧ wr.ownsRow W.heap.size 3 1 (.slice (some ⟨W.heap.size, 0, none⟩) 16 16) 16 ((List.replicate i 65535 ++ List.replicate (16 - i) 0).map i64) ∧ Below W.heap.size W wr) (fun ix _ => 16 - (intOf ix).toNat)
  case atStart => exact ⟨0, Nat.zero_le _, rfl, hown, hb1⟩
  case round =>
    clear hown hb1
    obtain ⟨i, hi1, rfl, ho, hB⟩ := hrel
    by_cases hlt : i < 16
    · have hF := ho.frozenAt i
      have hO := own_at ho i hlt
      have HO := Lib.hid ho
      have HP := Lib.hid (pre_set (List.replicate i 65535) 16 i 65535 (by simp) hlt)
      have HS : Hid (List.replicate (i + 1) 65535 = List.replicate i 65535 ++ [65535]) := Lib.hid (by rw [List.replicate_succ'])
      clear ho
      generalize (List.replicate i 65535 ++ List.replicate (16 - i) 0).getD i 0 = Z at hO
      go_wp2_with fail
      go_roundw
      case rel => exact ⟨i + 1, by omega, by go_num, by rw [HS.out, ← HP.out]; exact own_putv HO.out i _ _ rfl, hB.setCell (p := ⟨W.heap.size, i, none⟩) (Nat.le_refl _) _⟩
      case measure => simp [intOf]; omega
    · obtain rfl : i = 16 := by omega
      have hF0 := ho.frozenAt 0
      have hF15 := ho.frozenAt 15
      have hO0 := own_at ho 0 (by decide)
      have hO15 := own_at ho 15 (by decide)
      have HO := Lib.hid ho
      clear ho
      generalize (List.replicate 16 65535 ++ List.replicate (16 - 16) 0).getD 0 0 = Z0 at hO0
      generalize (List.replicate 16 65535 ++ List.replicate (16 - 16) 0).getD 15 0 = Z15 at hO15
      go_wp2_with fail
      go_ret
      exact ⟨_, _, rfl, Nat.le_refl _, own_dig (own_putv (own_putv HO.out 0 65517 _ rfl) 15 32767 _ rfl), (hB.setCell (p := ⟨W.heap.size, 0, none⟩) (Nat.le_refl _) _).setCell (p := ⟨W.heap.size, 15, none⟩) (Nat.le_refl _) _⟩
end Go.Proofs.YtlbhlklgliblgaaDoor.F
