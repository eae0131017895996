/- The contract of octet's Big: so many bytes of a number, the highest first, or ErrArg. -/
import Derived.Test.YtckamablodhecaaNum
namespace Go.Proofs.Ytckamablodhecaa
open Go.RowKit

set_option maxHeartbeats 400000 in
theorem big_neg (n : Nat) (x : Int) (W : World) (hx : x < 0) :
    Calls Try.prog 9 #[.int .u64 n, .int .i64 x] W fun e W' => e = .returned (.tuple #[.string ByteArray.empty, .int .i64 1]) ∧ W = W' := by
  go_enter Try.func9, Try.ntmps9
  go_wp2
  go_ret2
  exact ⟨rfl, rfl⟩

set_option maxHeartbeats 400000 in
theorem big_wide (n : Nat) (x : Int) (W : World) (hx : 8 < x) :
    Calls Try.prog 9 #[.int .u64 n, .int .i64 x] W fun e W' => e = .returned (.tuple #[.string ByteArray.empty, .int .i64 1]) ∧ W = W' := by
  have hx0 : ¬ x < 0 := by omega
  go_enter Try.func9, Try.ntmps9
  go_wp2
  go_ret2
  exact ⟨rfl, rfl⟩

set_option maxHeartbeats 400000 in
theorem big_no (n w : Nat) (W : World) (hw : w ≤ 8) (hf : ((n : Int) / 2 ^ (8 * w) != 0) = true) :
    Calls Try.prog 9 #[.int .u64 n, .int .i64 w] W fun e W' => e = .returned (.tuple #[.string ByteArray.empty, .int .i64 1]) ∧ W = W' := by
  go_enter Try.func9, Try.ntmps9
  go_wp2
  go_ret2
  exact ⟨rfl, rfl⟩

/-- what lies in the row when k of w bytes are written -/
def fill (n w k : Nat) : List Value := List.replicate (w - k) (Value.int .u8 0) ++ Lib.byteCells (bigL n k)

theorem fill_at (n w k : Nat) (h : k < w) : (fill n w k)[w - 1 - k]? = some (Value.int .u8 0) := by
  unfold fill
  rw [List.getElem?_append_left (by simp; omega), List.getElem?_replicate, if_pos (by omega)]
theorem byte_of (n k : Nat) : (n : Int) / 2 ^ (8 * k) % 256 = (((left n k % 256).toUInt8).toNat : Int) := by
  have e : (2 : Int) ^ (8 * k) = ((256 ^ k : Nat) : Int) := by rw [Int.pow_mul]; simp
  rw [toNat_mod, left, e]
  omega
theorem fill_step (n w k : Nat) (h : k < w) : (fill n w k).set (w - 1 - k) (Value.int .u8 ((n : Int) / 2 ^ (8 * k) % 256)) = fill n w (k + 1) := by
  obtain ⟨m, rfl⟩ : ∃ m, w = m + 1 + k := ⟨w - 1 - k, by omega⟩
  unfold fill
  rw [show m + 1 + k - 1 - k = m by omega, show m + 1 + k - k = m + 1 by omega, show m + 1 + k - (k + 1) = m by omega, byte_of, bigL_left, List.replicate_succ', List.append_assoc, List.set_append]
  simp [Lib.byteCells]

set_option maxHeartbeats 400000 in
theorem big_yes (n w : Nat) (W : World) (hw : w ≤ 8) (hf : ((n : Int) / 2 ^ (8 * w) != 0) = false) :
    Calls Try.prog 9 #[.int .u64 n, .int .i64 w] W fun e W' => e = .returned (.tuple #[.string ⟨(bigL n w).toArray⟩, .int .i64 0]) ∧ Below W.heap.size W W' := by
  obtain ⟨i0, hi, hz0, hz1, hz2⟩ := info_parts info5
  go_enter Try.func9, Try.ntmps9
  go_wp2_with (at_make; refine wpList_make_full _ rfl _ _ 48 rfl W.heap.size 5 i0 (.int .u8 0) 1 Try.underlying48 hi hz0 hz1 _ _ _ _ w rfl rfl rfl rfl ?b2 ?b3 (Nat.le_refl _) ?_)
  case b2 => rw [hz2]; omega
  case b3 => unfold maxLen; omega
  intro w1 hown hgrow
  have hb1 := (Below.refl W.heap.size W).grown hgrow (Nat.le_refl _) (fun k hk => by cases hk)
  clear hgrow
  go_wp2_with fail
  go_loopw [24] (fun i wr => ∃ k : Nat, k ≤ w ∧ i = .int .i64 k ∧ wr.ownsRow W.heap.size 5 1 (.slice (some ⟨W.heap.size, 0, none⟩) w w) w (fill n w k) ∧ Below W.heap.size W wr) (fun i _ => w - (intOf i).toNat)
  case atStart => exact ⟨0, Nat.zero_le _, rfl, by simpa [fill, bigL, Lib.byteCells, toList_madeCells_one] using hown, hb1⟩
  case round =>
    obtain ⟨k, hk, rfl, ho, hb⟩ := hrel
    by_cases hlt : k < w
    · have hc : wr.cell? ⟨W.heap.size, w - 1 - k, none⟩ = some (.int .u8 0) := (ho.cellAt (w - 1 - k) (by omega)).trans (fill_at n w k hlt)
      have hz := ho.frozenAt (w - 1 - k)
      go_wp2
      go_roundw
      case rel => exact ⟨k + 1, by omega, by go_num, by rw [← fill_step n w k hlt]; exact (ho.stored _ _).1, hb.setCell (p := ⟨W.heap.size, w - 1 - k, none⟩) (Nat.le_refl _) _⟩
      case measure => simp [intOf]; omega
    · obtain rfl : k = w := by omega
      have hcv := str_own (l := bigL n k) (by simpa [fill] using ho)
      go_wp2
      go_ret2
      exact ⟨rfl, hb⟩
end Go.Proofs.Ytckamablodhecaa
