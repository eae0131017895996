/- A product of words, word by word. Nothing of the program is named here. -/
import Derived.Test.YtknpgijapbkebaaDoorFLimbs
namespace Go.Proofs.YtknpgijapbkebaaDoor.F

/-- one product, what is carried, and what stood there -/
theorem mul_step {x y c o : Nat} (hx : x < 18446744073709551616) (hy : y < 18446744073709551616) (hc : c < 18446744073709551616) (ho : o < 18446744073709551616) :
    ∃ h l l2 m1 nw m2 : Nat, x * y / 18446744073709551616 = h ∧ x * y % 18446744073709551616 = l ∧ (l + c + 0) % 18446744073709551616 = l2 ∧ (l + c + 0) / 18446744073709551616 = m1 ∧ (o + l2 + 0) % 18446744073709551616 = nw ∧ (o + l2 + 0) / 18446744073709551616 = m2 ∧
      h < 18446744073709551616 ∧ l < 18446744073709551616 ∧ l2 < 18446744073709551616 ∧ h + m1 < 18446744073709551616 ∧ h + m1 + m2 < 18446744073709551616 ∧ nw < 18446744073709551616 ∧ nw + 18446744073709551616 * (h + m1 + m2) = x * y + c + o := by
  have h1 := Nat.mul_le_mul (show x ≤ 18446744073709551615 by omega) (show y ≤ 18446744073709551615 by omega)
  have h2 := Nat.le_trans h1 (show 18446744073709551615 * 18446744073709551615 ≤ 340282366920938463426481119284349108225 by decide)
  clear h1
  generalize x * y = p at h2
  exact ⟨_, _, _, _, _, _, rfl, rfl, rfl, rfl, rfl, rfl, by omega, by omega, by omega, by omega, by omega, by omega, by omega⟩
theorem listA_at (l : List Nat) (j : Nat) (h : j < l.length) : ((l.map w64).toArray)[j]? = some (w64 (l.getD j 0)) := by
  rw [List.getElem?_toArray, List.getElem?_map, List.getElem?_eq_getElem h, List.getD_eq_getElem?_getD, List.getElem?_eq_getElem h]
  rfl
theorem listA_set (l : List Nat) (j x : Nat) : ((l.map w64).toArray).setIfInBounds j (w64 x) = ((l.set j x).map w64).toArray := by
  rw [List.setIfInBounds_toArray, List.map_set]
theorem set_getD (l : List Nat) (i j x : Nat) (h : i ≠ j) : (l.set i x).getD j 0 = l.getD j 0 := by
  rw [List.getD_eq_getElem?_getD, List.getD_eq_getElem?_getD, List.getElem?_set_ne h]
/-- the inner step -/
theorem inner_step {al : List Nat} {V A x y c o nw q i k : Nat} (hl : i + k < al.length) (ho : al.getD (i + k) 0 = o) (h : valK al + 18446744073709551616 ^ (i + k) * c = V + 18446744073709551616 ^ i * (x * A)) (hs : nw + 18446744073709551616 * q = x * y + c + o) :
    valK (al.set (i + k) nw) + 18446744073709551616 ^ (i + (k + 1)) * q = V + 18446744073709551616 ^ i * (x * (A + 18446744073709551616 ^ k * y)) := by
  have h1 := valK_set al (i + k) nw hl
  rw [ho] at h1
  have h2 : 18446744073709551616 ^ (i + k) * nw + 18446744073709551616 ^ (i + (k + 1)) * q = 18446744073709551616 ^ (i + k) * (x * y) + 18446744073709551616 ^ (i + k) * c + 18446744073709551616 ^ (i + k) * o := by
    rw [← Nat.add_assoc, Nat.pow_succ, Nat.mul_assoc, ← Nat.mul_add, hs, Nat.mul_add, Nat.mul_add]
  have h3 : 18446744073709551616 ^ i * (x * (A + 18446744073709551616 ^ k * y)) = 18446744073709551616 ^ i * (x * A) + 18446744073709551616 ^ (i + k) * (x * y) := by
    rw [Nat.mul_add, Nat.mul_add, Nat.pow_add, Nat.mul_left_comm x, Nat.mul_assoc]
  rw [h3]
  omega
/-- a row's end -/
theorem row_step {al : List Nat} {V x n c i : Nat} (hl : i + 4 < al.length) (ho : al.getD (i + 4) 0 = 0) (h : valK al + 18446744073709551616 ^ (i + 4) * c = V * n + 18446744073709551616 ^ i * (x * n)) :
    valK (al.set (i + 4) c) = (V + 18446744073709551616 ^ i * x) * n := by
  have h1 := valK_set al (i + 4) c hl
  rw [ho, Nat.mul_zero, Nat.add_zero] at h1
  rw [Nat.add_mul, Nat.mul_assoc, h1, h]
/-- what stands above four words counts 38 times -/
theorem high_step {V L H c x o nw q i : Nat} (h : V + 18446744073709551616 ^ i * c = L + 38 * H) (hs : nw + 18446744073709551616 * q = x * 38 + c + o) :
    (V + 18446744073709551616 ^ i * nw) + 18446744073709551616 ^ (i + 1) * q = (L + 18446744073709551616 ^ i * o) + 38 * (H + 18446744073709551616 ^ i * x) := by
  have h2 : 18446744073709551616 ^ i * nw + 18446744073709551616 ^ (i + 1) * q = 18446744073709551616 ^ i * (x * 38) + 18446744073709551616 ^ i * c + 18446744073709551616 ^ i * o := by
    rw [Nat.pow_succ, Nat.mul_assoc, ← Nat.mul_add, hs, Nat.mul_add, Nat.mul_add]
  have h3 : 38 * (H + 18446744073709551616 ^ i * x) = 38 * H + 18446744073709551616 ^ i * (x * 38) := by
    rw [Nat.mul_add, Nat.mul_left_comm, Nat.mul_comm 38 x]
  rw [h3]
  omega
end Go.Proofs.YtknpgijapbkebaaDoor.F
