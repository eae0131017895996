/- Sums and products of digits, place by place; p's digits. Nothing of the program is named here. -/
import Derived.Test.YtknpgijapbkebaaDoorFDigits
import Derived.Test.YtknpgijapbkebaaDoorFPrime
namespace Go.Proofs.YtknpgijapbkebaaDoor.F

theorem getD_set (l : List Nat) (i j x : Nat) (h : i < l.length) : (l.set i x).getD j 0 = if j = i then x else l.getD j 0 := by
  rw [List.getD_eq_getElem?_getD, List.getD_eq_getElem?_getD, List.getElem?_set]
  by_cases e : i = j
  · subst e
    simp [h]
  · rw [if_neg e, if_neg (fun h => e h.symm)]
theorem bd_of {M : Nat} {l : List Nat} (h : ∀ j, l.getD j 0 ≤ M) : Bd M l := fun d hd => by
  obtain ⟨j, hj, rfl⟩ := List.getElem_of_mem hd
  have := h j
  rw [List.getD_eq_getElem?_getD, List.getElem?_eq_getElem hj] at this
  exact this

/-! ### a sum -/
def plusS (s b : List Nat) : Nat → List Nat
  | 0 => s
  | k + 1 => (plusS s b k).set k ((plusS s b k).getD k 0 + b.getD k 0)
theorem plusS_length (s b : List Nat) (k : Nat) : (plusS s b k).length = s.length := by
  induction k with
  | zero => rfl
  | succ k ih => rw [plusS, List.length_set, ih]
theorem plusS_at (s b : List Nat) (k j : Nat) (hk : k ≤ s.length) : (plusS s b k).getD j 0 = if j < k then s.getD j 0 + b.getD j 0 else s.getD j 0 := by
  induction k with
  | zero => simp [plusS]
  | succ k ih =>
    have ih := ih (by omega)
    rw [plusS, getD_set _ _ _ _ (by rw [plusS_length]; omega)]
    by_cases e : j = k
    · subst e
      rw [if_pos rfl, ih, if_neg (by omega), if_pos (by omega)]
    · rw [if_neg e, ih]
      by_cases h : j < k
      · rw [if_pos h, if_pos (by omega)]
      · rw [if_neg h, if_neg (by omega)]
theorem plusS_val (s b : List Nat) (k : Nat) (hk : k ≤ s.length) : val (plusS s b k) = val s + val (b.take k) := by
  induction k with
  | zero => simp [plusS, val]
  | succ k ih =>
    have h1 := val_set (plusS s b k) k ((plusS s b k).getD k 0 + b.getD k 0) (by rw [plusS_length]; omega)
    have h2 := val_take_any b k
    have ih := ih (by omega)
    rw [Nat.mul_add] at h1
    rw [plusS]
    omega
theorem plusS_bd {s b : List Nat} (hs : Dg s) (hb : Dg b) (k : Nat) (hk : k ≤ s.length) : Bd 131072 (plusS s b k) := bd_of fun j => by
  have h1 := hs.at j
  have h2 := hb.at j
  rw [plusS_at _ _ _ _ hk]
  split <;> omega
theorem dg_zeros {a : List Nat} (ha : Dg a) (n : Nat) : Dg (a ++ List.replicate n 0) := fun d hd => by
  rw [List.mem_append, List.mem_replicate] at hd
  rcases hd with hd | ⟨_, rfl⟩
  · exact ha d hd
  · decide
theorem val_pad (a : List Nat) (n : Nat) : val (a ++ List.replicate n 0) = val a := by rw [val_append, val_zeros, Nat.mul_zero, Nat.add_zero]

/-! ### a product -/
def innS (a b : List Nat) (i : Nat) (s : List Nat) : Nat → List Nat
  | 0 => s
  | k + 1 => (innS a b i s k).set (i + k) ((innS a b i s k).getD (i + k) 0 + a.getD i 0 * b.getD k 0)
def outS (a b : List Nat) : Nat → List Nat
  | 0 => List.replicate (a.length + b.length) 0
  | i + 1 => innS a b i (outS a b i) b.length
theorem innS_length (a b : List Nat) (i : Nat) (s : List Nat) (k : Nat) : (innS a b i s k).length = s.length := by
  induction k with
  | zero => rfl
  | succ k ih => rw [innS, List.length_set, ih]
theorem outS_length (a b : List Nat) (i : Nat) : (outS a b i).length = a.length + b.length := by
  induction i with
  | zero => simp [outS]
  | succ i ih => rw [outS, innS_length, ih]
theorem innS_at (a b : List Nat) (i : Nat) (s : List Nat) (k j : Nat) (hk : i + k ≤ s.length) : (innS a b i s k).getD j 0 = if i ≤ j ∧ j < i + k then s.getD j 0 + a.getD i 0 * b.getD (j - i) 0 else s.getD j 0 := by
  induction k with
  | zero => rw [innS, if_neg (by omega)]
  | succ k ih =>
    have ih := ih (by omega)
    rw [innS, getD_set _ _ _ _ (by rw [innS_length]; omega)]
    by_cases e : j = i + k
    · subst e
      rw [if_pos rfl, ih, if_neg (by omega), if_pos (by omega), Nat.add_sub_cancel_left]
    · rw [if_neg e, ih]
      by_cases h : i ≤ j ∧ j < i + k
      · rw [if_pos h, if_pos (by omega)]
      · rw [if_neg h, if_neg (by omega)]
theorem innS_val (a b : List Nat) (i : Nat) (s : List Nat) (k : Nat) (hk : i + k ≤ s.length) : val (innS a b i s k) = val s + 65536 ^ i * (a.getD i 0 * val (b.take k)) := by
  induction k with
  | zero => simp [innS, val]
  | succ k ih =>
    have h1 := val_set (innS a b i s k) (i + k) ((innS a b i s k).getD (i + k) 0 + a.getD i 0 * b.getD k 0) (by rw [innS_length]; omega)
    have ih := ih (by omega)
    rw [Nat.mul_add] at h1
    rw [innS, val_take_any b k, Nat.mul_add, Nat.mul_add]
    have h3 : 65536 ^ (i + k) * (a.getD i 0 * b.getD k 0) = 65536 ^ i * (a.getD i 0 * (65536 ^ k * b.getD k 0)) := by
      rw [Nat.pow_add, Nat.mul_assoc, Nat.mul_left_comm (65536 ^ k)]
    omega
theorem outS_val (a b : List Nat) (i : Nat) (hi : i ≤ a.length) : val (outS a b i) = val (a.take i) * val b := by
  induction i with
  | zero => simp [outS, val, val_zeros]
  | succ i ih =>
    rw [outS, innS_val _ _ _ _ _ (by rw [outS_length]; omega), ih (by omega), List.take_of_length_le (Nat.le_refl b.length), val_take_any a i, Nat.add_mul, Nat.mul_assoc]
theorem outS_bd {a b : List Nat} (ha : Dg a) (hb : Dg b) (i : Nat) (hi : i ≤ a.length) (j : Nat) : (outS a b i).getD j 0 ≤ i * 4294836225 := by
  induction i with
  | zero =>
    rw [outS, List.getD_eq_getElem?_getD, List.getElem?_replicate]
    split <;> simp
  | succ i ih =>
    have ih := ih (by omega)
    have h1 := ha.at i
    have h2 := hb.at (j - i)
    have h3 := Nat.mul_le_mul (show a.getD i 0 ≤ 65535 by omega) (show b.getD (j - i) 0 ≤ 65535 by omega)
    have h4 := Nat.le_trans h3 (show 65535 * 65535 ≤ 4294836225 by decide)
    clear h3
    rw [outS, innS_at _ _ _ _ _ _ (by rw [outS_length]; omega), Nat.succ_mul]
    by_cases h : i ≤ j ∧ j < i + b.length
    · rw [if_pos h]
      exact Nat.add_le_add ih h4
    · rw [if_neg h]
      exact Nat.le_trans ih (Nat.le_add_right _ _)
theorem innS_bd {a b : List Nat} (ha : Dg a) (hb : Dg b) (i k : Nat) (hi : i ≤ a.length) (hk : k ≤ b.length) (hik : i < a.length) (j : Nat) : (innS a b i (outS a b i) k).getD j 0 ≤ (i + 1) * 4294836225 := by
  have ih := outS_bd ha hb i hi j
  have h1 := ha.at i
  have h2 := hb.at (j - i)
  have h3 := Nat.mul_le_mul (show a.getD i 0 ≤ 65535 by omega) (show b.getD (j - i) 0 ≤ 65535 by omega)
  have h4 := Nat.le_trans h3 (show 65535 * 65535 ≤ 4294836225 by decide)
  clear h3
  rw [innS_at _ _ _ _ _ _ (by rw [outS_length]; omega), Nat.succ_mul]
  by_cases h : i ≤ j ∧ j < i + k
  · rw [if_pos h]
    exact Nat.add_le_add ih h4
  · rw [if_neg h]
    exact Nat.le_trans ih (Nat.le_add_right _ _)

/-! ### p -/
def primeL : List Nat := [65517, 65535, 65535, 65535, 65535, 65535, 65535, 65535, 65535, 65535, 65535, 65535, 65535, 65535, 65535, 32767]
theorem prime_val : val primeL = p25 := by decide +kernel
theorem prime_dg : Dg primeL := by unfold Dg primeL; decide
theorem prime_tr : Tr primeL := fun n hn => by
  obtain rfl : n = 15 := by simp [primeL] at hn; omega
  decide
end Go.Proofs.YtknpgijapbkebaaDoor.F
