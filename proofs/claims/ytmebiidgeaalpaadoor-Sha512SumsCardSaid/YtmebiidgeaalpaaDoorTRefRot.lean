/- The contracts of the reference's small calls on words: a word turned right, a word moved right. -/
import Derived.Test.YtmebiidgeaalpaaDoorTMem
namespace Go.Proofs.YtmebiidgeaalpaaDoor.T
open Go.RowKit

theorem two_pow_le (k : Nat) (h : k ≤ 63) : 2 ^ k ≤ 9223372036854775808 := by
  have := Nat.pow_le_pow_right (n := 2) (by decide) h
  exact Nat.le_trans this (by decide)

theorem two_pow_lt (k : Nat) (h : k < 63) : 2 ^ k ≤ 4611686018427387904 := by
  have := Nat.pow_le_pow_right (n := 2) (by decide) (show k ≤ 62 by omega)
  exact Nat.le_trans this (by decide)
theorem turn_eq (x n : Nat) : ((x : Int) / ((2 ^ n : Nat) : Int) + (x : Int) % ((2 ^ n : Nat) : Int) * ((2 ^ (64 - n) : Nat) : Int)) = ((rotr x n : Nat) : Int) := by
  unfold rotr
  rw [Int.natCast_add, Int.natCast_mul, Int.natCast_ediv, Int.natCast_emod]

set_option maxHeartbeats 400000 in
theorem turn_any (x n : Nat) (w : World) (hx : x < 18446744073709551616) (h1 : 0 < n) (h2 : n < 64) :
    Calls Tryd.prog 37 #[.int .u64 x, .int .i64 n] w fun e w' => e = .returned (.int .u64 (rotr x n)) ∧ ∃ n, w' = w.drewN n := by
  go_enter Tryd.func37, Tryd.ntmps37
  go_wp2
  go_loopw [5, 6] (fun p i wr => ∃ k : Nat, k ≤ n ∧ i = .int .i64 k ∧ p = .int .u64 ((2 ^ k : Nat) : Int) ∧ wr = w) (fun _ i _ => n - (intOf i).toNat)
  case atStart => exact ⟨0, Nat.zero_le _, rfl, rfl, rfl⟩
  case round =>
    obtain ⟨k, hk, rfl, rfl, rfl⟩ := hrel
    by_cases hlt : k < n
    · have hp := two_pow_lt k (by omega)
      have HS := Lib.hid (Nat.pow_succ 2 k)
      generalize 2 ^ k = P at *
      go_wp2
      go_roundw
      case rel =>
        refine ⟨k + 1, by omega, by go_num, val_int ?_, trivial⟩
        rw [HS.out]
        omega
      case measure => simp [intOf]; omega
    · obtain rfl : k = n := by omega
      have hp := two_pow_le k (by omega)
      have h0 : 0 < 2 ^ k := Nat.two_pow_pos k
      have HE := Lib.hid (turn_eq x k)
      generalize 2 ^ k = P at *
      go_wp2
      go_loopw [7, 8] (fun q i wv => ∃ m : Nat, k ≤ m ∧ m ≤ 64 ∧ i = .int .i64 m ∧ q = .int .u64 ((2 ^ (m - k) : Nat) : Int) ∧ wv = wr) (fun _ i _ => 64 - (intOf i).toNat)
      case atStart => exact ⟨k, by omega, by omega, rfl, by rw [Nat.sub_self]; rfl, rfl⟩
      case round =>
        obtain ⟨m, hm1, hm2, rfl, rfl, rfl⟩ := hrel
        by_cases hlt : m < 64
        · have hp2 := two_pow_lt (m - k) (by omega)
          have HS : Hid (2 ^ (m + 1 - k) = 2 ^ (m - k) * 2) := Lib.hid (by rw [← Nat.pow_succ]; congr 1; omega)
          generalize 2 ^ (m - k) = P2 at *
          go_wp2
          go_roundw
          case rel =>
            refine ⟨m + 1, by omega, by omega, by go_num, val_int ?_, trivial⟩
            rw [HS.out]
            omega
          case measure => simp [intOf]; omega
        · obtain rfl : m = 64 := by omega
          have hq := two_pow_le (64 - k) (by omega)
          generalize 2 ^ (64 - k) = Q at *
          have hd : 0 ≤ (x : Int) / (P : Int) := Int.ediv_nonneg (by omega) (by omega)
          have hm : 0 ≤ (x : Int) % (P : Int) * (Q : Int) := Int.mul_nonneg (Int.emod_nonneg _ (by omega)) (by omega)
          have hr := rotr_lt x k hx (by omega)
          have he := HE.out
          have hz : (P : Int) ≠ 0 := by omega
          go_wp2
          go_quiet (fail)
          go_wp2
          go_ret
          exact ⟨rfl, _, rfl⟩

set_option maxHeartbeats 400000 in
theorem move_any (x n : Nat) (w : World) (hx : x < 18446744073709551616) (h2 : n < 64) :
    Calls Tryd.prog 38 #[.int .u64 x, .int .i64 n] w fun e w' => e = .returned (.int .u64 ((x / 2 ^ n : Nat) : Int)) ∧ w' = w := by
  go_enter Tryd.func38, Tryd.ntmps38
  go_wp2
  go_loopw [0, 5] (fun v i wr => ∃ k : Nat, k ≤ n ∧ i = .int .i64 k ∧ v = .int .u64 ((x / 2 ^ k : Nat) : Int) ∧ wr = w) (fun _ i _ => n - (intOf i).toNat)
  case atStart => exact ⟨0, Nat.zero_le _, rfl, by simp, rfl⟩
  case round =>
    obtain ⟨k, hk, rfl, rfl, rfl⟩ := hrel
    by_cases hlt : k < n
    · have HS : Hid (x / 2 ^ (k + 1) = x / 2 ^ k / 2) := Lib.hid (by rw [Nat.pow_succ, Nat.div_div_eq_div_mul])
      have hl : x / 2 ^ k < 18446744073709551616 := Nat.lt_of_le_of_lt (Nat.div_le_self _ _) hx
      generalize x / 2 ^ k = y at *
      go_wp2
      go_roundw
      case rel =>
        refine ⟨k + 1, by omega, by go_num, val_int ?_, trivial⟩
        rw [HS.out]
        omega
      case measure => simp [intOf]; omega
    · obtain rfl : k = n := by omega
      go_wp2
      go_ret
      exact ⟨rfl, rfl⟩
end Go.Proofs.YtmebiidgeaalpaaDoor.T
