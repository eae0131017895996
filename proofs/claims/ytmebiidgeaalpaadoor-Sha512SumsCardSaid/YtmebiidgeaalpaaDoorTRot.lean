/- The contracts of the program's small calls on words: a word turned left by a contrary number, the two xors, the word of four bytes. -/
import Derived.Test.YtmebiidgeaalpaaDoorTMath
import Derived.Test.YtmebiidgeaalpaaDoorBase
import Derived.Laws.BitsAllLaws
import Derived.Laws.ShiftsVarLaws
import Derived.Deep.QuietTactic
import Derived.BigQuiet
namespace Go.Proofs.YtmebiidgeaalpaaDoor.T
open Go.RowKit

theorem low_five (n m : Nat) (h : n + m = 64) (h1 : 0 < n) (h2 : 0 < m) : bits BinOp.and IntKind.u64 (IntKind.u64.wrap (-(n : Int))) 63 = (m : Int) := by
  have e : IntKind.u64.wrap (-(n : Int)) = ((18446744073709551616 - n : Nat) : Int) := by rw [IntKind.wrap_u64]; omega
  have hh : (18446744073709551616 - n) &&& 63 = m := by
    have h3 : (18446744073709551616 - n) &&& (2 ^ 6 - 1) = (18446744073709551616 - n) % 2 ^ 6 := Nat.and_two_pow_sub_one_eq_mod _ 6
    rw [show (63 : Nat) = 2 ^ 6 - 1 by decide, h3]
    omega
  rw [e, show (63 : Int) = ((63 : Nat) : Int) by rfl, u64_and_nat _ _ (by omega) (by omega), hh]

theorem rot_eq (x n m : Nat) (h : n + m = 64) (hx : x < 18446744073709551616) : bits BinOp.or IntKind.u64 ((x : Int) * 2 ^ m % 18446744073709551616) ((x : Int) / 2 ^ n) = ((rotr x n : Nat) : Int) := by
  have e1 : (x : Int) * 2 ^ m % 18446744073709551616 = ((x * 2 ^ m % 18446744073709551616 : Nat) : Int) := by rw [Int.natCast_emod, Int.natCast_mul, Int.natCast_pow]; rfl
  have e2 : (x : Int) / 2 ^ n = ((x / 2 ^ n : Nat) : Int) := by rw [Int.natCast_ediv, Int.natCast_pow]; rfl
  rw [e1, e2, u64_or_nat _ _ (Nat.mod_lt _ (by decide)) (Nat.lt_of_le_of_lt (Nat.div_le_self _ _) hx), show m = 64 - n by omega, rotr_or x n (by omega) hx]

set_option maxHeartbeats 400000 in
theorem rot_any (x n : Nat) (w : World) (hx : x < 18446744073709551616) (h1 : 0 < n) (h2 : n < 64) :
    Calls Tryd.prog 45 #[.int .u64 x, .int .i64 (-(n : Int))] w fun e w' => e = .returned (.int .u64 (rotr x n)) ∧ w = w' := by
  obtain ⟨m, hm⟩ : ∃ m, n + m = 64 := ⟨64 - n, by omega⟩
  have hm1 : 0 < m := by omega
  have hm2 : m < 64 := by omega
  have hs := low_five n m hm h1 hm1
  have hq := Lib.hid (rot_eq x n m hm hx)
  have hn : (64 - (m : Int)).toNat = n := by omega
  clear hm
  go_enter Tryd.func45, Tryd.ntmps45
  go_wp2
  go_ret
  exact ⟨ret1_of (val_int hq.out), rfl⟩

theorem xor_words {x y z : Nat} (hx : x < 18446744073709551616) (hy : y < 18446744073709551616) (hz : z < 18446744073709551616) : bits BinOp.xor IntKind.u64 (bits BinOp.xor IntKind.u64 (x : Int) (y : Int)) (z : Int) = ((x ^^^ y ^^^ z : Nat) : Int) := by
  rw [u64_xor_nat _ _ hx hy, u64_xor_nat _ _ (xor_lt _ _ hx hy) hz]

set_option maxHeartbeats 400000 in
theorem turned_any (x a b c : Nat) (w : World) (hx : x < 18446744073709551616) (ha : 0 < a) (ha' : a < 64) (hb : 0 < b) (hb' : b < 64) (hc : 0 < c) (hc' : c < 64) :
    Calls Tryd.prog 40 #[.int .u64 x, .int .i64 (a : Int), .int .i64 (b : Int), .int .i64 (c : Int)] w fun e w' => e = .returned (.int .u64 ((rotr x a ^^^ rotr x b ^^^ rotr x c : Nat) : Int)) ∧ w = w' := by
  have H1 := Lib.hid (rot_any x a w hx ha ha')
  have H2 := Lib.hid (rot_any x b w hx hb hb')
  have H3 := Lib.hid (rot_any x c w hx hc hc')
  have hq := Lib.hid (xor_words (rotr_lt x a hx (by omega)) (rotr_lt x b hx (by omega)) (rotr_lt x c hx (by omega)))
  go_enter Tryd.func40, Tryd.ntmps40
  go_wp2_with (go_at_call 45; first | ((with_reducible refine H1.out.mono ?_); rintro e w1 ⟨rfl, rfl⟩) | ((with_reducible refine H2.out.mono ?_); rintro e w1 ⟨rfl, rfl⟩) | ((with_reducible refine H3.out.mono ?_); rintro e w1 ⟨rfl, rfl⟩))
  go_ret
  exact ⟨ret1_of (val_int hq.out), rfl⟩

set_option maxHeartbeats 400000 in
theorem moved_any (x a b c : Nat) (w : World) (hx : x < 18446744073709551616) (ha : 0 < a) (ha' : a < 64) (hb : 0 < b) (hb' : b < 64) (hc' : c < 64) :
    Calls Tryd.prog 44 #[.int .u64 x, .int .i64 (a : Int), .int .i64 (b : Int), .int .u64 (c : Int)] w fun e w' => e = .returned (.int .u64 ((rotr x a ^^^ rotr x b ^^^ x / 2 ^ c : Nat) : Int)) ∧ w = w' := by
  have H1 := Lib.hid (rot_any x a w hx ha ha')
  have H2 := Lib.hid (rot_any x b w hx hb hb')
  have hq := Lib.hid (xor_words (rotr_lt x a hx (by omega)) (rotr_lt x b hx (by omega)) (Nat.lt_of_le_of_lt (Nat.div_le_self x (2 ^ c)) hx))
  have hd : ((x / 2 ^ c : Nat) : Int) = (x : Int) / 2 ^ c := by rw [Int.natCast_ediv, Int.natCast_pow]; rfl
  have HD := Lib.hid hd
  clear hd
  go_enter Tryd.func44, Tryd.ntmps44
  go_wp2_with (go_at_call 45; first | ((with_reducible refine H1.out.mono ?_); rintro e w1 ⟨rfl, rfl⟩) | ((with_reducible refine H2.out.mono ?_); rintro e w1 ⟨rfl, rfl⟩))
  go_ret
  exact ⟨ret1_of (val_int (by rw [← hq.out, HD.out])), rfl⟩

theorem turned_e (x : Nat) (w : World) (hx : x < 18446744073709551616) : Calls Tryd.prog 40 #[.int .u64 x, .int .i64 14, .int .i64 18, .int .i64 41] w fun e w' => e = .returned (.int .u64 (bsig1 x : Nat)) ∧ w' = w :=
  (turned_any x 14 18 41 w hx (by decide) (by decide) (by decide) (by decide) (by decide) (by decide)).mono fun _ _ ⟨he, hw⟩ => ⟨he, hw.symm⟩
theorem turned_a (x : Nat) (w : World) (hx : x < 18446744073709551616) : Calls Tryd.prog 40 #[.int .u64 x, .int .i64 28, .int .i64 34, .int .i64 39] w fun e w' => e = .returned (.int .u64 (bsig0 x : Nat)) ∧ w' = w :=
  (turned_any x 28 34 39 w hx (by decide) (by decide) (by decide) (by decide) (by decide) (by decide)).mono fun _ _ ⟨he, hw⟩ => ⟨he, hw.symm⟩
theorem moved_one (x : Nat) (w : World) (hx : x < 18446744073709551616) : Calls Tryd.prog 44 #[.int .u64 x, .int .i64 19, .int .i64 61, .int .u64 6] w fun e w' => e = .returned (.int .u64 (ssig1 x : Nat)) ∧ w' = w :=
  (moved_any x 19 61 6 w hx (by decide) (by decide) (by decide) (by decide) (by decide)).mono fun _ _ ⟨he, hw⟩ => ⟨he, hw.symm⟩
theorem moved_zero (x : Nat) (w : World) (hx : x < 18446744073709551616) : Calls Tryd.prog 44 #[.int .u64 x, .int .i64 1, .int .i64 8, .int .u64 7] w fun e w' => e = .returned (.int .u64 (ssig0 x : Nat)) ∧ w' = w :=
  (moved_any x 1 8 7 w hx (by decide) (by decide) (by decide) (by decide) (by decide)).mono fun _ _ ⟨he, hw⟩ => ⟨he, hw.symm⟩

set_option maxHeartbeats 800000 in
theorem word_any (s : ByteArray) (w : World) (hs : s.size = 8) :
    Calls Tryd.prog 43 #[.string s] w fun e w' => e = .returned (.int .u64 (numL s.data.toList)) ∧ ∃ n, w' = w.drewN n := by
  go_enter Tryd.func43, Tryd.ntmps43
  go_wp2
  go_loop [3, 5] (fun n i => ∃ k : Nat, k ≤ s.size ∧ i = .int .i64 k ∧ n = .int .u64 (numL (s.data.toList.take k))) (fun _ i => s.size - (intOf i).toNat)
  case atStart => exact ⟨0, Nat.zero_le _, rfl, rfl⟩
  case round =>
    obtain ⟨k, hk, rfl, rfl⟩ := hrel
    by_cases hlt : k < s.size
    · have hb : numL (s.data.toList.take k) < 256 ^ 7 := by
        have h1 := numL_lt (s.data.toList.take k)
        rw [List.length_take] at h1
        have h2 : min k s.data.toList.length ≤ 7 := by omega
        have h3 : 256 ^ min k s.data.toList.length ≤ 256 ^ 7 := Nat.pow_le_pow_right (by decide) h2
        omega
      have HS := Lib.hid ((numL_step _ s[k] hb).trans (by rw [← numL_snoc, ← take_snoc s k hlt]))
      clear hb
      go_wp2
      go_round
      case rel => exact ⟨k + 1, by omega, by go_num, val_int HS.out⟩
      case measure => simp [intOf]; omega
    · have HS := Lib.hid (show numL (s.data.toList.take k) = numL s.data.toList by rw [List.take_of_length_le (by simp; omega)])
      go_wp2
      go_ret
      exact ⟨ret1_of (val_int (by rw [HS.out])), 0, rfl⟩
end Go.Proofs.YtmebiidgeaalpaaDoor.T
