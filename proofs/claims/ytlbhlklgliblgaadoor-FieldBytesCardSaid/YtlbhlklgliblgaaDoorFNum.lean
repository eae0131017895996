/- Plain facts about numbers modulo p that the statements ask for: inverses, halves, rules. Nothing of the program is named here but p's digits. -/
import Derived.Test.YtlbhlklgliblgaaDoorFOk
namespace Go.Proofs.YtlbhlklgliblgaaDoor.F

theorem dvd_iff (n : Nat) : p25 ∣ n ↔ n % p25 = 0 := ⟨Nat.mod_eq_zero_of_dvd, Nat.dvd_of_mod_eq_zero⟩
theorem pow_zero_mod (n p e : Nat) (h : n % p = 0) (he : 0 < e) : n ^ e % p = 0 := by
  rw [Nat.pow_mod, h, Nat.zero_pow he, Nat.zero_mod]
theorem invN_zero {n : Nat} (h : n % p25 = 0) : invN n = 0 := by
  rw [invN_eq]
  exact pow_zero_mod n p25 _ h (by decide)
theorem mul_invN {n : Nat} (h : n % p25 ≠ 0) : n * invN n % p25 = 1 := by
  rw [invN_eq, Nat.mul_mod, Nat.mod_mod, ← Nat.mul_mod]
  exact inv_mul p25_prime n (fun hd => h ((dvd_iff n).1 hd))
theorem invN_invN {n : Nat} (h : n % p25 ≠ 0) : invN (invN n) = n % p25 := by
  rw [invN_eq, invN_eq, ← Nat.pow_mod]
  exact inv_inv p25_prime n (fun hd => h ((dvd_iff n).1 hd))
theorem lt_K {n : Nat} (h : n < p25) : n < K256 := Nat.lt_trans h (by decide)

/-! ### rules -/
theorem add_assoc_mod (a b c : Nat) : ((a + b) % p25 + c) % p25 = (a + (b + c) % p25) % p25 := by
  rw [Nat.add_mod, Nat.mod_mod, ← Nat.add_mod, Nat.add_mod a ((b + c) % p25), Nat.mod_mod, ← Nat.add_mod, Nat.add_assoc]
theorem mul_assoc_mod (a b c : Nat) : (a * b % p25) * c % p25 = a * (b * c % p25) % p25 := by
  rw [Nat.mul_mod, Nat.mod_mod, ← Nat.mul_mod, Nat.mul_mod a (b * c % p25), Nat.mod_mod, ← Nat.mul_mod, Nat.mul_assoc]
theorem mul_add_mod' (a b c : Nat) : a * ((b + c) % p25) % p25 = (a * b % p25 + a * c % p25) % p25 := by
  rw [Nat.mul_mod, Nat.mod_mod, ← Nat.mul_mod, Nat.mul_add, Nat.add_mod]
theorem add_sub_mod (a b : Nat) : ((a + b) % p25 + (p25 - b % p25)) % p25 = a % p25 := by
  have h := Nat.mod_lt b p25_pos
  have e := Nat.div_add_mod b p25
  rw [Nat.add_mod, Nat.mod_mod, ← Nat.add_mod, show a + b + (p25 - b % p25) = a + p25 * (b / p25 + 1) by rw [Nat.mul_add]; omega, Nat.add_mul_mod_self_left]
theorem sub_self_mod (a : Nat) : (a + (p25 - a % p25)) % p25 = 0 := by
  have h := add_sub_mod 0 a
  rw [Nat.zero_add, Nat.add_mod, Nat.mod_mod, ← Nat.add_mod] at h
  exact h
theorem add_p_mod (a : Nat) : (a + p25) % p25 = a % p25 := Nat.add_mod_right a p25
theorem mul_p_mod (a : Nat) : a * p25 % p25 = 0 := Nat.mul_mod_left a p25
theorem halves (a : Nat) : (a * invN 2 % p25 + a * invN 2 % p25) % p25 = a % p25 := by
  have h := mul_invN (n := 2) (by decide)
  rw [← Nat.two_mul, Nat.mul_mod, Nat.mod_mod, ← Nat.mul_mod, Nat.mul_left_comm, Nat.mul_mod, h, Nat.mul_one, Nat.mod_mod]
end Go.Proofs.YtlbhlklgliblgaaDoor.F
