/- Bytes of words, and words of bytes. Nothing of the program is named here. -/
import Derived.Test.YtknpgijapbkebaaDoorFLimbs
import Derived.Test.YtknpgijapbkebaaDoorFLE
import Derived.Laws.BitsAllLaws
import Derived.Laws.ShiftsVarLaws
namespace Go.Proofs.YtknpgijapbkebaaDoor.F

/-- a byte of a word is a byte of the number -/
theorem word_byte (n i : Nat) : wordN n (i / 8) / 2 ^ (8 * (i % 8)) % 256 = n / 256 ^ i % 256 := by
  unfold wordN
  obtain ⟨q, hq⟩ : ∃ q, i / 8 = q := ⟨_, rfl⟩
  obtain ⟨r, hr⟩ : ∃ r, i % 8 = r := ⟨_, rfl⟩
  have hr8 : r < 8 := by omega
  have e2 : (256 : Nat) ^ i = 18446744073709551616 ^ q * 256 ^ r := by
    rw [show i = 8 * q + r by omega, Nat.pow_add, Nat.pow_mul]
  have e1 : (18446744073709551616 : Nat) = 256 ^ r * 256 ^ (8 - r) := by rw [← Nat.pow_add, show r + (8 - r) = 8 by omega]
  have e3 : (256 : Nat) ^ (8 - r) = 256 * 256 ^ (7 - r) := by rw [show 8 - r = (7 - r) + 1 by omega, Nat.pow_succ, Nat.mul_comm]
  rw [hq, hr, e2, ← Nat.div_div_eq_div_mul, show (2 : Nat) ^ (8 * r) = 256 ^ r by rw [Nat.pow_mul]]
  generalize n / 18446744073709551616 ^ q = m
  rw [e1, Nat.mod_mul_right_div_self, e3, Nat.mod_mul_right_mod]
theorem leL_succ (n k : Nat) : leL n (k + 1) = leL n k ++ [(n / 256 ^ k % 256).toUInt8] := rfl
/-- a byte laid above what a word has -/
theorem or_byte (a b r : Nat) (ha : a < 256 ^ r) (hb : b < 256) (hr : r < 8) : a ||| b * 2 ^ (8 * r) = a + b * 256 ^ r ∧ b * 2 ^ (8 * r) < 18446744073709551616 ∧ a + b * 256 ^ r < 18446744073709551616 := by
  have e : (2 : Nat) ^ (8 * r) = 256 ^ r := by rw [Nat.pow_mul]
  have h1 : a + b * 256 ^ r < 256 ^ (r + 1) := by
    rw [Nat.pow_succ]
    have := Nat.mul_le_mul_right (256 ^ r) (show b ≤ 255 by omega)
    omega
  have h2 : (256 : Nat) ^ (r + 1) ≤ 256 ^ 8 := Nat.pow_le_pow_right (by decide) (by omega)
  have h3 : (256 : Nat) ^ 8 = 18446744073709551616 := by decide
  refine ⟨?_, by rw [e]; omega, by omega⟩
  rw [Nat.or_comm, Nat.mul_comm b (2 ^ (8 * r)), ← Nat.two_pow_add_eq_or_of_lt (by rw [e]; exact ha), e, Nat.mul_comm (256 ^ r) b]
  omega
theorem valK_at_le (l : List Nat) (q : Nat) : 18446744073709551616 ^ q * l.getD q 0 ≤ valK l := by
  by_cases h : q < l.length
  · have h1 := valK_append (l.take (q + 1)) (l.drop (q + 1))
    rw [List.take_append_drop, valK_take_succ] at h1
    omega
  · rw [getD_past (by omega)]
    omega
/-- one byte more -/
theorem put_byte (l : List Nat) (i b : Nat) (hl : l.length = 4) (hi : i < 32) (hv : valK l < 256 ^ i) :
    l.getD (i / 8) 0 < 256 ^ (i % 8) ∧ valK (l.set (i / 8) (l.getD (i / 8) 0 + b * 256 ^ (i % 8))) = valK l + 256 ^ i * b := by
  have e : (256 : Nat) ^ i = 18446744073709551616 ^ (i / 8) * 256 ^ (i % 8) := by
    rw [show (18446744073709551616 : Nat) = 256 ^ 8 by decide, ← Nat.pow_mul, ← Nat.pow_add, Nat.div_add_mod]
  constructor
  · have h1 := valK_at_le l (i / 8)
    rw [e] at hv
    exact Nat.lt_of_mul_lt_mul_left (Nat.lt_of_le_of_lt h1 hv)
  · have h1 := valK_set l (i / 8) (l.getD (i / 8) 0 + b * 256 ^ (i % 8)) (by omega)
    rw [e]
    rw [Nat.mul_add] at h1
    have h2 : 18446744073709551616 ^ (i / 8) * (b * 256 ^ (i % 8)) = 18446744073709551616 ^ (i / 8) * 256 ^ (i % 8) * b := by
      rw [Nat.mul_comm b, Nat.mul_assoc]
    omega
theorem numLE_take (l : List UInt8) (i : Nat) (h : i < l.length) : numLE (l.take (i + 1)) = numLE (l.take i) + 256 ^ i * (l.getD i 0).toNat := by
  rw [take_getD l i h, numLE_append, List.length_take, Nat.min_eq_left (by omega)]
  simp [numLE]
end Go.Proofs.YtknpgijapbkebaaDoor.F
