/- The contracts of the calls that turn numbers into bytes and back: octet's Big and Number, the reference's Big, Number and Fits. -/
import Derived.Test.YtckamablodhecaaBase
import Derived.WalkKit
import Derived.WalkSpells
import Derived.WalkLawsBesides
import Derived.Lib.Hide
import Derived.Lib.Strings
namespace Go.Proofs.Ytckamablodhecaa
open Go.RowKit

set_option maxHeartbeats 400000 in
theorem num_any (s : ByteArray) (w : World) (hs : s.size ≤ 8) :
    Calls Try.prog 10 #[.string s] w fun e w' => e = .returned (.tuple #[.int .u64 (numL s.data.toList), .int .i64 0]) ∧ w = w' := by
  go_enter Try.func10, Try.ntmps10
  go_wp2
  go_loop [4, 11] (fun n i => ∃ k : Nat, k ≤ s.size ∧ i = .int .i64 k ∧ n = .int .u64 (numL (s.data.toList.take k))) (fun _ i => s.size - (intOf i).toNat)
  case atStart => exact ⟨0, Nat.zero_le _, rfl, rfl⟩
  case round =>
    obtain ⟨k, hk, rfl, rfl⟩ := hrel
    by_cases hlt : k < s.size
    · have hb : numL (s.data.toList.take k) < 256 ^ 7 := by
        have h1 := numL_lt (s.data.toList.take k)
        rw [List.length_take] at h1
        have h2 : min k s.data.toList.length ≤ 7 := by omega
        have h3 : 256 ^ min k s.data.toList.length ≤ 256 ^ 7 := Nat.pow_le_pow_right (by decide) h2
        omega
      have HS := Lib.hid ((numL_step _ s[k] hb).trans (by rw [← numL_snoc, ← take_snoc s k hlt]))
      clear hb
      go_wp2
      go_round
      case rel => exact ⟨k + 1, by omega, by go_num, val_int HS.out⟩
      case measure => simp [intOf]; omega
    · have HS := Lib.hid (show numL (s.data.toList.take k) = numL s.data.toList by rw [List.take_of_length_le (by simp; omega)])
      go_wp2
      go_ret2
      exact ⟨ret2_of (val_int (by rw [HS.out])) rfl, rfl⟩

set_option maxHeartbeats 400000 in
theorem num_long (s : ByteArray) (w : World) (hs : 8 < s.size) :
    Calls Try.prog 10 #[.string s] w fun e w' => e = .returned (.tuple #[.int .u64 0, .int .i64 1]) ∧ w = w' := by
  go_enter Try.func10, Try.ntmps10
  go_wp2
  go_ret2
  exact ⟨rfl, rfl⟩

theorem refNum_step (a : Nat) (b : UInt8) (ha : a < 256 ^ 7) : IntKind.u64.wrap (IntKind.u64.wrap (256 * (a : Int)) + IntKind.u64.wrap (b.toNat : Int)) = ((256 * a + b.toNat : Nat) : Int) := by
  have hb := u8_lt b
  rw [IntKind.wrap_u64, IntKind.wrap_u64, IntKind.wrap_u64]
  omega

theorem take_lt (s : ByteArray) (k : Nat) (hs : s.size ≤ 8) (hlt : k < s.size) : numL (s.data.toList.take k) < 256 ^ 7 := by
  have h1 := numL_lt (s.data.toList.take k)
  rw [List.length_take] at h1
  have h2 : min k s.data.toList.length ≤ 7 := by omega
  have h3 : 256 ^ min k s.data.toList.length ≤ 256 ^ 7 := Nat.pow_le_pow_right (by decide) h2
  omega

set_option maxHeartbeats 400000 in
theorem refNum_any (s : ByteArray) (w : World) (hs : s.size ≤ 8) :
    Calls Try.prog 17 #[.string s] w fun e w' => e = .returned (.int .u64 (numL s.data.toList)) ∧ w = w' := by
  go_enter Try.func17, Try.ntmps17
  go_wp2
  go_loop [3, 4] (fun n i => ∃ k : Nat, k ≤ s.size ∧ i = .int .i64 k ∧ n = .int .u64 (numL (s.data.toList.take k))) (fun _ i => s.size - (intOf i).toNat)
  case atStart => exact ⟨0, Nat.zero_le _, rfl, rfl⟩
  case round =>
    obtain ⟨k, hk, rfl, rfl⟩ := hrel
    by_cases hlt : k < s.size
    · have HS := Lib.hid ((refNum_step _ s[k] (take_lt s k hs hlt)).trans (by rw [← numL_snoc, ← take_snoc s k hlt]))
      go_wp2
      go_round
      case rel => exact ⟨k + 1, by omega, by go_num, val_int HS.out⟩
      case measure => simp [intOf]; omega
    · have HS := Lib.hid (show numL (s.data.toList.take k) = numL s.data.toList by rw [List.take_of_length_le (by simp; omega)])
      go_wp2
      go_ret
      exact ⟨ret1_of (val_int (by rw [HS.out])), rfl⟩

/-- what is left of a number behind k divisions by 256 -/
def left (n k : Nat) : Nat := n / 256 ^ k
theorem left_zero (n : Nat) : left n 0 = n := by simp [left]
theorem left_succ (n k : Nat) : left n (k + 1) = left n k / 256 := by simp [left, Nat.pow_succ, Nat.div_div_eq_div_mul]
theorem left_le (n k : Nat) : left n k ≤ n := Nat.div_le_self _ _
theorem bigL_left (n k : Nat) : bigL n (k + 1) = (left n k % 256).toUInt8 :: bigL n k := bigL_head n k

set_option maxHeartbeats 400000 in
theorem fits_any (n w : Nat) (W : World) (hn : n < 2 ^ 64) (hw : w ≤ 8) :
    Calls Try.prog 15 #[.int .u64 n, .int .i64 w] W fun e W' => e = .returned (.bool ((left n w : Int) == 0)) ∧ W = W' := by
  go_enter Try.func15, Try.ntmps15
  go_wp2
  go_loop [0, 5] (fun x i => ∃ k : Nat, k ≤ w ∧ i = .int .i64 k ∧ x = .int .u64 (left n k)) (fun _ i => w - (intOf i).toNat)
  case atStart => exact ⟨0, Nat.zero_le _, rfl, by rw [left_zero]⟩
  case round =>
    obtain ⟨k, hk, rfl, rfl⟩ := hrel
    have hl := left_le n k
    by_cases hlt : k < w
    · have HS := Lib.hid (left_succ n k)
      go_wp2
      go_round
      case rel => exact ⟨k + 1, by omega, by go_num, val_int (by rw [HS.out]; omega)⟩
      case measure => simp [intOf]; omega
    · obtain rfl : k = w := by omega
      go_wp2
      go_ret
      exact ⟨rfl, rfl⟩

theorem cat_two (a b : Array UInt8) : ({ data := a } : ByteArray) ++ { data := b } = { data := a ++ b } := by
  apply ByteArray.ext
  simp
set_option maxHeartbeats 400000 in
theorem refBig_any (n w : Nat) (W : World) (hn : n < 2 ^ 64) (hw : w ≤ 8) :
    Calls Try.prog 16 #[.int .u64 n, .int .i64 w] W fun e W' => e = .returned (.string ⟨(bigL n w).toArray⟩) ∧ Below W.heap.size W W' := by
  go_enter Try.func16, Try.ntmps16
  go_wp2
  go_loopw [0, 5, 6] (fun x o i wr => ∃ k : Nat, k ≤ w ∧ i = .int .i64 k ∧ x = .int .u64 (left n k) ∧ o = .string ⟨(bigL n k).toArray⟩ ∧ Below W.heap.size W wr) (fun _ _ i _ => w - (intOf i).toNat)
  case atStart => exact ⟨0, Nat.zero_le _, rfl, by rw [left_zero], rfl, Below.refl _ _⟩
  case round =>
    obtain ⟨k, hk, rfl, rfl, rfl, hb⟩ := hrel
    have hl := left_le n k
    by_cases hlt : k < w
    · have HS := Lib.hid (left_succ n k)
      have HB := Lib.hid (bigL_left n k)
      have hcv := str_one wr ((left n k : Int) % 256) (by omega) (by omega)
      have hbl : (bigL n k).length ≤ 8 := by rw [bigL_length]; omega
      go_wp2
      go_roundw
      case rel => exact ⟨k + 1, by omega, by go_num, val_int (by rw [HS.out]; omega), by rw [cat_two, HB.out]; simp, hb.alloc hb.size _⟩
      case measure => simp [intOf]; omega
    · obtain rfl : k = w := by omega
      go_wp2
      go_ret
      exact ⟨rfl, hb⟩
end Go.Proofs.Ytckamablodhecaa
