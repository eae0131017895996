/- The contract of the program's text: the words' bytes. -/
import Derived.Test.YtmebiidgeaalpaaDoorTNum
import Derived.Test.YtmebiidgeaalpaaDoorTAdd
namespace Go.Proofs.YtmebiidgeaalpaaDoor.T
open Go.RowKit

/-- the first words' bytes -/
def outTo (s : H8) : Nat → List UInt8
  | 0 => []
  | k + 1 => outTo s k ++ bigL (s.at k) 8
theorem outTo_end (s : H8) : outTo s 8 = outT s := by simp only [outTo, outT, H8.at, List.nil_append]
theorem outTo_length (s : H8) (k : Nat) : (outTo s k).length = 8 * k := by
  induction k with
  | zero => rfl
  | succ k ih => rw [outTo, List.length_append, ih, bigL_length]; omega

set_option maxHeartbeats 800000 in
theorem text_any (g : Nat) (H : H8) (buf : ByteArray) (n : Nat) (W : World) (hl : Lies W g 58 (sumA H buf n)) (hok : H.Ok) :
    Calls Tryd.prog 34 #[.pointer (some ⟨g, 0, none⟩)] W fun e W' => e = .returned (.string ⟨(outT H).toArray⟩) ∧ Below W.heap.size W W' := by
  have HW := Lib.hid hl.words
  have hix := index_eight H
  clear hl
  go_enter Tryd.func34, Tryd.ntmps34
  go_wp2_with ((with_reducible refine wpL_loadMid g 0 (wordsL H) 8 row26 rfl HW.out ?_ ?_); rfl)
  simp only [wordsL]
  go_loopw [3, 11] (fun o i wr => ∃ k : Nat, k ≤ 8 ∧ i = .int .i64 k ∧ wr.ownsRow W.heap.size 5 1 o (outTo H k).length (Lib.byteCells (outTo H k)) ∧ Below W.heap.size W wr) (fun _ i _ => 8 - (intOf i).toNat)
  case atStart => exact ⟨0, Nat.zero_le _, rfl, World.ownsRow_nil _ _ _ _, Below.refl _ _⟩
  case round =>
    obtain ⟨k, hk, rfl, ho, hb⟩ := hrel
    by_cases hlt : k < 8
    · have hx := hix k hlt
      clear hix
      have hw := H8.at_lt hok k
      have hlen := outTo_length H k
      have HA := Lib.hid (appendNumber_any u3 (outTo H k) (H.at k) 8 W.heap.size wr (by omega) (by omega) (by omega) hb.size ho)
      clear hlen
      have HS := Lib.hid (show outTo H (k + 1) = outTo H k ++ bigL (H.at k) 8 from rfl)
      go_wp2_with (go_at_call 42; refine HA.out.mono ?_; rintro e w1 ⟨v1, rfl, ho1, hb1⟩)
      go_roundw
      case rel => exact ⟨k + 1, by omega, by go_num, by rw [HS.out]; exact ho1, hb.trans hb1⟩
      case measure => simp [intOf]; omega
    · obtain rfl : k = 8 := by omega
      have hcv := str_own ho
      clear hix
      go_wp2
      go_ret
      exact ⟨ret1_of (val_str (outTo_end H)), hb⟩
end Go.Proofs.YtmebiidgeaalpaaDoor.T
