/- The contract of the call that parts the first part of a text from what stands behind it. -/
import Derived.Test.YtckamablodhecaaStrs
import Derived.Test.YtckamablodhecaaNum
namespace Go.Proofs.Ytckamablodhecaa
open Go.RowKit

theorem val_string {a b : ByteArray} (h : a = b) : Value.string a = Value.string b := by rw [h]
theorem ret3_of {a b c d x y : Value} (h : a = b) (k : c = d) (m : x = y) : Ending.returned (.tuple #[a, c, x]) = .returned (.tuple #[b, d, y]) := by rw [h, k, m]
theorem ext_end (s : ByteArray) (a : Nat) : (s.extract a s.size).data.toList = s.data.toList.drop a := by
  rw [Lib.extract_data, List.take_of_length_le (by simp)]
theorem num_take (s : ByteArray) (W : World) (h : 4 ≤ s.size) :
    Calls Try.prog 10 #[.string (s.extract 0 4)] W fun e W' => e = .returned (.tuple #[.int .u64 (numL (s.data.toList.take 4)), .int .i64 0]) ∧ W = W' := by
  have h1 := num_any (s.extract 0 4) W (by simp [ByteArray.size_extract]; omega)
  rw [Lib.extract_data] at h1
  exact h1

set_option maxHeartbeats 800000 in
theorem first_short (s : ByteArray) (W : World) (h : s.size < 4) :
    Calls Try.prog 29 #[.string s] W fun e W' => e = .returned (.tuple #[.string ByteArray.empty, .string ByteArray.empty, .int .i64 3]) ∧ Below W.heap.size W W' := by
  go_enter Try.func29, Try.ntmps29
  go_wp2
  go_ret3
  exact ⟨rfl, Below.refl _ _⟩

theorem len_lt (l : List UInt8) (h : l.length ≤ 4) : numL l < 2 ^ 32 :=
  Nat.lt_of_lt_of_le (numL_lt l) (Nat.le_trans (Nat.pow_le_pow_right (n := 256) (by decide) h) (by decide))

set_option maxHeartbeats 800000 in
theorem first_far (s : ByteArray) (W : World) (h : 4 ≤ s.size) (hs : s.size ≤ 65536) (hc : s.size - 4 < numL (s.data.toList.take 4)) :
    Calls Try.prog 29 #[.string s] W fun e W' => e = .returned (.tuple #[.string ByteArray.empty, .string ByteArray.empty, .int .i64 3]) ∧ Below W.heap.size W W' := by
  have hnum := Lib.hid (fun W => num_take s W h)
  have hk32 := len_lt (s.data.toList.take 4) (by simp; omega)
  generalize numL (s.data.toList.take 4) = k at hc hnum hk32
  go_enter Try.func29, Try.ntmps29
  go_wp2_with (go_at_call 10; refine (hnum.out _).mono ?_; rintro e w1 ⟨rfl, rfl⟩)
  go_ret3
  exact ⟨rfl, Below.refl _ _⟩

set_option maxHeartbeats 800000 in
theorem first_ok (s : ByteArray) (W : World) (h : 4 ≤ s.size) (hs : s.size ≤ 65536) (k : Nat) (hk : numL (s.data.toList.take 4) = k) (hc : k ≤ s.size - 4) :
    Calls Try.prog 29 #[.string s] W fun e W' => e = .returned (.tuple #[.string ⟨((s.data.toList.drop 4).take k).toArray⟩, .string ⟨(s.data.toList.drop (4 + k)).toArray⟩, .int .i64 0]) ∧ Below W.heap.size W W' := by
  have hnum := Lib.hid (show ∀ W, Calls Try.prog 10 #[.string (s.extract 0 4)] W fun e W' => e = .returned (.tuple #[.int .u64 k, .int .i64 0]) ∧ W = W' by intro W; rw [← hk]; exact num_take s W h)
  clear hk
  have hc' : ¬ s.size - 4 < k := by omega
  go_enter Try.func29, Try.ntmps29
  go_wp2_with (go_at_call 10; refine (hnum.out _).mono ?_; rintro e w1 ⟨rfl, rfl⟩)
  go_quiet (fail)
  go_wp2
  go_ret3
  refine ⟨ret3_of ?_ ?_ rfl, below_drewN (Below.refl _ _) _⟩
  · exact val_string (by rw [Lib.extract_eq, ext_end]; simp)
  · exact val_string (by rw [Lib.extract_eq, ext_end, List.drop_drop, List.take_of_length_le (by simp; omega)])
end Go.Proofs.Ytckamablodhecaa
