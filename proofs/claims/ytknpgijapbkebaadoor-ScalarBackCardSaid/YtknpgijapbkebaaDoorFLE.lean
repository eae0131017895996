/- Bytes as a number, the lowest first, and back. Nothing of the program is named here. -/
import Derived.Test.YtknpgijapbkebaaDoorFWords
namespace Go.Proofs.YtknpgijapbkebaaDoor.F

/-- the first k bytes of a number, the lowest first -/
def leL (n : Nat) : Nat → List UInt8
  | 0 => []
  | k + 1 => leL n k ++ [(n / 256 ^ k % 256).toUInt8]
theorem leL_length (n k : Nat) : (leL n k).length = k := by
  induction k with
  | zero => rfl
  | succ k ih => rw [leL, List.length_append, ih]; rfl
theorem dig_low (n k : Nat) : digN n k % 256 = n / 256 ^ (2 * k) % 256 := by
  unfold digN
  rw [show (65536 : Nat) ^ k = 256 ^ (2 * k) by rw [Nat.pow_mul], show (65536 : Nat) = 256 * 256 from rfl, Nat.mod_mul_right_mod]
theorem dig_high (n k : Nat) : digN n k / 256 = n / 256 ^ (2 * k + 1) % 256 := by
  unfold digN
  rw [show (65536 : Nat) ^ k = 256 ^ (2 * k) by rw [Nat.pow_mul], show (65536 : Nat) = 256 * 256 from rfl, Nat.mod_mul_right_div_self, Nat.div_div_eq_div_mul, Nat.pow_succ]
theorem leL_two (n k : Nat) : leL n (2 * (k + 1)) = leL n (2 * k) ++ [(digN n k % 256).toUInt8, (digN n k / 256).toUInt8] := by
  rw [show 2 * (k + 1) = (2 * k + 1) + 1 by omega, leL, leL, dig_low, dig_high, List.append_assoc]
  rfl
theorem byte_two (d : Nat) (h : d < 65536) : Lib.byteCells [(d % 256).toUInt8, (d / 256).toUInt8] = [.int .u8 ((d : Int) % 256), .int .u8 ((d : Int) / 256)] := by
  have h1 : ((d % 256).toUInt8).toNat = d % 256 := by rw [Nat.toUInt8, UInt8.toNat_ofNat']; omega
  have h2 : ((d / 256).toUInt8).toNat = d / 256 := by rw [Nat.toUInt8, UInt8.toNat_ofNat']; omega
  simp only [Lib.byteCells, List.map_cons, List.map_nil, h1, h2]
  rfl

/-- the number of bytes, the lowest first -/
def numLE : List UInt8 → Nat
  | [] => 0
  | b :: r => b.toNat + 256 * numLE r
theorem numLE_append (a b : List UInt8) : numLE (a ++ b) = numLE a + 256 ^ a.length * numLE b := by
  induction a with
  | nil => simp [numLE]
  | cons x a ih =>
    rw [List.cons_append, numLE, ih, numLE, List.length_cons, Nat.pow_succ, Nat.mul_add, Nat.mul_comm (256 ^ a.length) 256, Nat.mul_assoc]
    omega
theorem numLE_lt (l : List UInt8) : numLE l < 256 ^ l.length := by
  induction l with
  | nil => simp [numLE]
  | cons x l ih =>
    have h1 := u8_lt x
    rw [numLE, List.length_cons, Nat.pow_succ]
    omega
theorem numLE_leL (n k : Nat) : numLE (leL n k) = n % 256 ^ k := by
  induction k with
  | zero => simp [leL, numLE, Nat.mod_one]
  | succ k ih =>
    rw [leL, numLE_append, ih, leL_length, Nat.pow_succ, Nat.mod_mul]
    simp only [numLE, Nat.mul_zero, Nat.add_zero]
    rw [toNat_mod]
theorem leL_numLE (l : List UInt8) : leL (numLE l) l.length = l := by
  suffices h : ∀ k, k ≤ l.length → leL (numLE l) k = l.take k by
    have := h l.length (Nat.le_refl _)
    rwa [List.take_of_length_le (Nat.le_refl _)] at this
  intro k hk
  induction k with
  | zero => rfl
  | succ k ih =>
    rw [leL, ih (by omega), List.take_succ_eq_append_getElem (by omega)]
    congr 2
    have e := numLE_append (l.take k) (l.drop k)
    rw [List.take_append_drop, List.length_take, Nat.min_eq_left (by omega), List.drop_eq_getElem_cons (by omega), numLE] at e
    have h1 := numLE_lt (l.take k)
    rw [List.length_take, Nat.min_eq_left (by omega)] at h1
    have h2 := u8_lt l[k]
    have h3 : numLE l / 256 ^ k = (l[k]).toNat + 256 * numLE (l.drop (k + 1)) := by
      rw [e, Nat.add_mul_div_left _ _ (Nat.pow_pos (by decide)), Nat.div_eq_of_lt h1, Nat.zero_add]
    rw [h3, show ((l[k]).toNat + 256 * numLE (l.drop (k + 1))) % 256 = (l[k]).toNat by omega]
    exact UInt8.ofNat_toNat
/-- pairs of bytes as digits -/
def rdL (l : List UInt8) : Nat → List Nat
  | 0 => []
  | k + 1 => rdL l k ++ [(l.getD (2 * k) 0).toNat + 256 * (l.getD (2 * k + 1) 0).toNat]
theorem rdL_length (l : List UInt8) (k : Nat) : (rdL l k).length = k := by
  induction k with
  | zero => rfl
  | succ k ih => rw [rdL, List.length_append, ih]; rfl
theorem rdL_dg (l : List UInt8) (k : Nat) : Dg (rdL l k) := by
  induction k with
  | zero => intro d hd; cases hd
  | succ k ih =>
    intro d hd
    rw [rdL, List.mem_append, List.mem_singleton] at hd
    rcases hd with hd | rfl
    · exact ih d hd
    · have h1 := u8_lt (l.getD (2 * k) 0)
      have h2 := u8_lt (l.getD (2 * k + 1) 0)
      omega
theorem take_getD (l : List UInt8) (k : Nat) (h : k < l.length) : l.take (k + 1) = l.take k ++ [l.getD k 0] := by
  rw [List.take_succ_eq_append_getElem h, List.getD_eq_getElem?_getD, List.getElem?_eq_getElem h]
  rfl
theorem rdL_val (l : List UInt8) (k : Nat) (h : 2 * k ≤ l.length) : val (rdL l k) = numLE (l.take (2 * k)) := by
  induction k with
  | zero => rfl
  | succ k ih =>
    rw [rdL, val_snoc, rdL_length, ih (by omega), show 2 * (k + 1) = 2 * k + 1 + 1 by omega, take_getD l (2 * k + 1) (by omega), take_getD l (2 * k) (by omega), numLE_append, numLE_append, List.length_append, List.length_take, Nat.min_eq_left (by omega)]
    simp only [numLE, Nat.mul_zero, Nat.add_zero]
    rw [show (65536 : Nat) ^ k = 256 ^ (2 * k) by rw [Nat.pow_mul], show 2 * k + [l.getD (2 * k) 0].length = 2 * k + 1 from rfl, Nat.pow_succ, Nat.mul_add, Nat.mul_assoc]
    omega
theorem rdL_full (l : List UInt8) (h : l.length = 32) : val (rdL l 16) = numLE l := by
  rw [rdL_val l 16 (by omega), List.take_of_length_le (by omega)]

/-- .. of any number of bytes -/
theorem rdL_val_any (l : List UInt8) (k : Nat) : val (rdL l k) = numLE (l.take (2 * k)) := by
  induction k with
  | zero => rfl
  | succ k ih =>
    by_cases h : 2 * (k + 1) ≤ l.length
    · exact rdL_val l (k + 1) h
    · rw [rdL, val_snoc, rdL_length, ih]
      have h1 : l.getD (2 * k + 1) 0 = 0 := by rw [List.getD_eq_getElem?_getD, List.getElem?_eq_none (by omega)]; rfl
      rw [h1]
      by_cases h2 : 2 * k < l.length
      · rw [List.take_of_length_le (show l.length ≤ 2 * (k + 1) by omega)]
        have h3 : l = l.take (2 * k) ++ [l.getD (2 * k) 0] := by
          rw [← take_getD l (2 * k) h2, List.take_of_length_le (by omega)]
        have h4 := numLE_append (l.take (2 * k)) [l.getD (2 * k) 0]
        rw [← h3, List.length_take, Nat.min_eq_left (by omega)] at h4
        rw [h4, show (65536 : Nat) ^ k = 256 ^ (2 * k) by rw [Nat.pow_mul]]
        rfl
      · have h3 : l.getD (2 * k) 0 = 0 := by rw [List.getD_eq_getElem?_getD, List.getElem?_eq_none (by omega)]; rfl
        rw [h3, List.take_of_length_le (by omega), List.take_of_length_le (by omega)]
        rfl
theorem rdL_all (l : List UInt8) (k : Nat) (h : l.length ≤ 2 * k) : val (rdL l k) = numLE l := by
  rw [rdL_val_any, List.take_of_length_le h]
end Go.Proofs.YtknpgijapbkebaaDoor.F
