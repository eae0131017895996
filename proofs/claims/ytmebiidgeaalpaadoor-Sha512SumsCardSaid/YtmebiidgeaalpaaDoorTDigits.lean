/- Numbers as lists of digits to the base 65536, multiplied and compared digit by digit, and a root's digits one bit after the other: what they come to. Nothing of the program is named here. -/
import Derived.Test.YtmebiidgeaalpaaDoorMath
namespace Go.Proofs.YtmebiidgeaalpaaDoor.T

/-! ### what they reckon -/
def innerL (a b : List Nat) (i : Nat) (out : List Nat) : Nat → List Nat × Nat
  | 0 => (out, 0)
  | k + 1 => ((innerL a b i out k).1.set (i + k) (((innerL a b i out k).2 + (innerL a b i out k).1.getD (i + k) 0 + a.getD i 0 * b.getD k 0) % 18446744073709551616 % 65536), ((innerL a b i out k).2 + (innerL a b i out k).1.getD (i + k) 0 + a.getD i 0 * b.getD k 0) % 18446744073709551616 / 65536)
def outerL (a b : List Nat) : Nat → List Nat
  | 0 => List.replicate (a.length + b.length) 0
  | i + 1 => (innerL a b i (outerL a b i) b.length).1.set (i + b.length) (innerL a b i (outerL a b i) b.length).2
def timesL (a b : List Nat) : List Nat := outerL a b a.length
def aboveL (a b : List Nat) : Nat → Bool
  | 0 => false
  | n + 1 => if a.getD n 0 = b.getD n 0 then aboveL a b n else decide (b.getD n 0 < a.getD n 0)
theorem inner_length (a b : List Nat) (i : Nat) (out : List Nat) (k : Nat) : (innerL a b i out k).1.length = out.length := by
  induction k with
  | zero => rfl
  | succ k ih => simp only [innerL, List.length_set, ih]
theorem outer_length (a b : List Nat) (i : Nat) : (outerL a b i).length = a.length + b.length := by
  induction i with
  | zero => simp [outerL]
  | succ i ih => simp only [outerL, List.length_set, inner_length, ih]
theorem times_length (a b : List Nat) : (timesL a b).length = a.length + b.length := outer_length a b _

/-! ### digits, as a number -/
/-- the number of the first n digits to the base 65536, the lowest one first -/
def numN (l : List Nat) : Nat → Nat
  | 0 => 0
  | n + 1 => numN l n + 65536 ^ n * l.getD n 0
/-- each is a digit -/
def Dig (l : List Nat) : Prop := ∀ i, l.getD i 0 < 65536
theorem getD_set (l : List Nat) (i j y : Nat) (h : i < l.length) : (l.set i y).getD j 0 = if j = i then y else l.getD j 0 := by
  rw [List.getD_eq_getElem?_getD, List.getD_eq_getElem?_getD, List.getElem?_set]
  by_cases e : i = j
  · subst e; simp [h]
  · rw [if_neg e, if_neg (fun x => e x.symm)]
theorem getD_none (l : List Nat) (i : Nat) (h : l.length ≤ i) : l.getD i 0 = 0 := by
  rw [List.getD_eq_getElem?_getD, List.getElem?_eq_none h]; rfl
theorem dig_set {l : List Nat} (h : Dig l) (i y : Nat) (hi : i < l.length) (hy : y < 65536) : Dig (l.set i y) := fun j => by
  rw [getD_set l i j y hi]
  split
  · exact hy
  · exact h j
theorem numN_lt {l : List Nat} (h : Dig l) (n : Nat) : numN l n < 65536 ^ n := by
  induction n with
  | zero => show 0 < _; decide
  | succ n ih =>
    have h1 := h n
    have h2 : 65536 ^ n * (l.getD n 0 + 1) ≤ 65536 ^ n * 65536 := Nat.mul_le_mul_left _ h1
    rw [numN, Nat.pow_succ]
    rw [Nat.mul_add, Nat.mul_one] at h2
    omega
theorem numN_set (l : List Nat) (i y n : Nat) (hi : i < l.length) : numN (l.set i y) n + (if i < n then 65536 ^ i * l.getD i 0 else 0) = numN l n + (if i < n then 65536 ^ i * y else 0) := by
  induction n with
  | zero => simp [numN]
  | succ n ih =>
    rw [numN, numN, getD_set l i n y hi]
    by_cases e : n = i
    · subst e
      rw [if_neg (Nat.lt_irrefl _), if_neg (Nat.lt_irrefl _)] at ih
      rw [if_pos rfl, if_pos (Nat.lt_succ_self _), if_pos (Nat.lt_succ_self _)]
      omega
    · rw [if_neg e]
      by_cases hlt : i < n
      · rw [if_pos hlt, if_pos hlt] at ih
        rw [if_pos (by omega), if_pos (by omega)]
        omega
      · rw [if_neg hlt, if_neg hlt] at ih
        rw [if_neg (by omega), if_neg (by omega)]
        omega
theorem numN_set_in (l : List Nat) (i y n : Nat) (hi : i < l.length) (hn : i < n) : numN (l.set i y) n + 65536 ^ i * l.getD i 0 = numN l n + 65536 ^ i * y := by
  have h := numN_set l i y n hi
  rw [if_pos hn, if_pos hn] at h
  exact h
theorem numN_past (l : List Nat) (n : Nat) (h : l.length ≤ n) : numN l n = numN l l.length := by
  obtain ⟨k, rfl⟩ : ∃ k, n = l.length + k := ⟨n - l.length, by omega⟩
  clear h
  induction k with
  | zero => rfl
  | succ k ih =>
    rw [← Nat.add_assoc, numN, ih, getD_none l _ (by omega)]
    omega
theorem numN_zero (n m : Nat) : numN (List.replicate m 0) n = 0 := by
  induction n with
  | zero => rfl
  | succ n ih =>
    rw [numN, ih]
    have : (List.replicate m 0).getD n 0 = 0 := by
      rw [List.getD_eq_getElem?_getD, List.getElem?_replicate]
      split <;> rfl
    rw [this, Nat.mul_zero]
theorem dig_zero (m : Nat) : Dig (List.replicate m 0) := fun i => by
  rw [List.getD_eq_getElem?_getD, List.getElem?_replicate]
  split <;> decide

/-! ### times -/
theorem inner_num (a b : List Nat) (i n : Nat) (out : List Nat) (ha : Dig a) (hb : Dig b) (ho : Dig out) (k : Nat) (hk : i + k ≤ out.length) (hn : out.length ≤ n) :
    numN (innerL a b i out k).1 n + 65536 ^ (i + k) * (innerL a b i out k).2 = numN out n + 65536 ^ i * (a.getD i 0 * numN b k) ∧
    Dig (innerL a b i out k).1 ∧ (innerL a b i out k).2 < 65536 ∧ ∀ j, i + k ≤ j → (innerL a b i out k).1.getD j 0 = out.getD j 0 := by
  induction k with
  | zero => exact ⟨by simp [innerL, numN], ho, by show 0 < _; decide, fun j _ => rfl⟩
  | succ k ih =>
    obtain ⟨h1, h2, h3, h4⟩ := ih (by omega)
    have hl := inner_length a b i out k
    have ha' := ha i
    have hb' := hb k
    have ho' := h2 (i + k)
    have hX : a.getD i 0 * b.getD k 0 ≤ 65535 * 65535 := Nat.mul_le_mul (by omega) (by omega)
    simp only [innerL, numN]
    generalize (innerL a b i out k).1 = o at *
    generalize (innerL a b i out k).2 = c at *
    rw [Nat.mod_eq_of_lt (show c + o.getD (i + k) 0 + a.getD i 0 * b.getD k 0 < 18446744073709551616 by omega)]
    have hs := numN_set_in o (i + k) ((c + o.getD (i + k) 0 + a.getD i 0 * b.getD k 0) % 65536) n (by omega) (by omega)
    refine ⟨?_, dig_set h2 _ _ (by omega) (Nat.mod_lt _ (by decide)), by omega, fun j hj => ?_⟩
    · have hd : 65536 * ((c + o.getD (i + k) 0 + a.getD i 0 * b.getD k 0) / 65536) + (c + o.getD (i + k) 0 + a.getD i 0 * b.getD k 0) % 65536 = c + o.getD (i + k) 0 + a.getD i 0 * b.getD k 0 := Nat.div_add_mod _ _
      generalize (c + o.getD (i + k) 0 + a.getD i 0 * b.getD k 0) / 65536 = q at *
      generalize (c + o.getD (i + k) 0 + a.getD i 0 * b.getD k 0) % 65536 = r at *
      generalize numN (o.set (i + k) r) n = N' at *
      have e1 : 65536 ^ (i + (k + 1)) * q = 65536 ^ (i + k) * (65536 * q) := by rw [← Nat.add_assoc, Nat.pow_succ, Nat.mul_assoc]
      have e2 : 65536 ^ (i + k) * (65536 * q + r) = 65536 ^ (i + k) * c + 65536 ^ (i + k) * o.getD (i + k) 0 + 65536 ^ (i + k) * (a.getD i 0 * b.getD k 0) := by rw [hd, Nat.mul_add, Nat.mul_add]
      rw [Nat.mul_add] at e2
      have e3 : 65536 ^ i * (a.getD i 0 * (numN b k + 65536 ^ k * b.getD k 0)) = 65536 ^ i * (a.getD i 0 * numN b k) + 65536 ^ (i + k) * (a.getD i 0 * b.getD k 0) := by
        rw [Nat.mul_add, Nat.mul_add, Nat.pow_add]
        congr 1
        rw [Nat.mul_left_comm (a.getD i 0), ← Nat.mul_assoc]
      rw [e1, e3]
      omega
    · rw [getD_set o _ _ _ (by omega), if_neg (by omega)]
      exact h4 j (by omega)
theorem outer_num (a b : List Nat) (ha : Dig a) (hb : Dig b) (i : Nat) (hi : i ≤ a.length) :
    numN (outerL a b i) (a.length + b.length) = numN a i * numN b b.length ∧ Dig (outerL a b i) ∧ ∀ j, i + b.length ≤ j → (outerL a b i).getD j 0 = 0 := by
  induction i with
  | zero =>
    refine ⟨by rw [outerL, numN_zero, numN, Nat.zero_mul], dig_zero _, fun j _ => ?_⟩
    rw [outerL, List.getD_eq_getElem?_getD, List.getElem?_replicate]
    split <;> rfl
  | succ i ih =>
    obtain ⟨h1, h2, h3⟩ := ih (by omega)
    have hl := outer_length a b i
    obtain ⟨g1, g2, g3, g4⟩ := inner_num a b i (a.length + b.length) (outerL a b i) ha hb h2 b.length (by omega) (by omega)
    have gl := inner_length a b i (outerL a b i) b.length
    have hz := (g4 (i + b.length) (Nat.le_refl _)).trans (h3 _ (Nat.le_refl _))
    simp only [outerL]
    have g5 : ∀ j, i + 1 + b.length ≤ j → (innerL a b i (outerL a b i) b.length).1.getD j 0 = 0 := fun j hj => (g4 j (by omega)).trans (h3 j (by omega))
    generalize (innerL a b i (outerL a b i) b.length).1 = o at *
    generalize (innerL a b i (outerL a b i) b.length).2 = c at *
    have hs := numN_set_in o (i + b.length) c (a.length + b.length) (by omega) (by omega)
    rw [hz, Nat.mul_zero, Nat.add_zero] at hs
    refine ⟨?_, dig_set g2 _ _ (by omega) g3, fun j hj => ?_⟩
    · rw [hs, g1, h1, numN, Nat.add_mul, Nat.mul_assoc]
    · rw [getD_set o _ _ _ (by omega), if_neg (by omega)]
      exact g5 j hj
/-- a list of digits as a number -/
def V (l : List Nat) : Nat := numN l l.length
theorem times_num (a b : List Nat) (ha : Dig a) (hb : Dig b) : V (timesL a b) = V a * V b ∧ Dig (timesL a b) := by
  obtain ⟨h1, h2, _⟩ := outer_num a b ha hb a.length (Nat.le_refl _)
  unfold V
  rw [times_length]
  exact ⟨h1, h2⟩

/-! ### above -/
theorem above_num (a b : List Nat) (ha : Dig a) (hb : Dig b) (n : Nat) : aboveL a b n = decide (numN b n < numN a n) := by
  induction n with
  | zero => rfl
  | succ n ih =>
    have h1 := numN_lt ha n
    have h2 := numN_lt hb n
    rw [aboveL, ih, numN, numN]
    by_cases e : a.getD n 0 = b.getD n 0
    · rw [if_pos e, e, decide_eq_decide]
      omega
    · rw [if_neg e, decide_eq_decide]
      generalize a.getD n 0 = x at *
      generalize b.getD n 0 = y at *
      rcases Nat.lt_or_ge y x with h | h
      · have h3 : 65536 ^ n * (y + 1) ≤ 65536 ^ n * x := Nat.mul_le_mul_left _ h
        rw [Nat.mul_add, Nat.mul_one] at h3
        omega
      · have h3 : 65536 ^ n * (x + 1) ≤ 65536 ^ n * y := Nat.mul_le_mul_left _ (by omega)
        rw [Nat.mul_add, Nat.mul_one] at h3
        omega
theorem above_V (a b : List Nat) (ha : Dig a) (hb : Dig b) : aboveL a b (a.length + b.length) = decide (V b < V a) := by
  rw [above_num a b ha hb, numN_past a _ (by omega), numN_past b _ (by omega)]
  rfl

/-! ### one digit -/
theorem numN_digit (l : List Nat) (h : Dig l) (n i : Nat) (hi : i < n) : numN l n / 65536 ^ i % 65536 = l.getD i 0 := by
  have hp : 0 < 65536 ^ i := Nat.pow_pos (by decide)
  induction n with
  | zero => omega
  | succ n ih =>
    rw [numN]
    by_cases e : i = n
    · subst e
      rw [Nat.add_mul_div_left _ _ hp, Nat.div_eq_of_lt (numN_lt h i), Nat.zero_add, Nat.mod_eq_of_lt (h i)]
    · obtain ⟨k, rfl⟩ : ∃ k, n = i + 1 + k := ⟨n - i - 1, by omega⟩
      rw [show 65536 ^ (i + 1 + k) * l.getD (i + 1 + k) 0 = 65536 ^ i * (65536 * (65536 ^ k * l.getD (i + 1 + k) 0)) by rw [Nat.pow_add, Nat.pow_succ]; simp only [Nat.mul_assoc], Nat.add_mul_div_left _ _ hp, Nat.add_mul_mod_self_left]
      exact ih (by omega)

/-! ### a root, digit by digit: c digits behind the point -/
def powL (r : List Nat) : Nat → List Nat
  | 0 => r
  | d + 1 => timesL (powL r d) r
theorem pow_num (r : List Nat) (h : Dig r) (e : Nat) : V (powL r e) = V r ^ (e + 1) ∧ Dig (powL r e) := by
  induction e with
  | zero => exact ⟨by rw [powL, Nat.zero_add, Nat.pow_one], h⟩
  | succ e ih =>
    obtain ⟨h1, h2⟩ := times_num (powL r e) r ih.2 h
    exact ⟨by rw [powL, h1, ih.1, ← Nat.pow_succ], h2⟩
theorem pow_length (r : List Nat) (e : Nat) : (powL r e).length = r.length * (e + 1) := by
  induction e with
  | zero => rw [powL, Nat.zero_add, Nat.mul_one]
  | succ e ih => rw [powL, times_length, ih, Nat.mul_succ r.length (e + 1)]
def wholeL (c p d : Nat) : List Nat := (List.replicate (c * d + 1) 0).set (c * d) p
theorem whole_length (c p d : Nat) : (wholeL c p d).length = c * d + 1 := by simp [wholeL]
theorem whole_num (c p d : Nat) (hp : p < 65536) : V (wholeL c p d) = 65536 ^ (c * d) * p ∧ Dig (wholeL c p d) := by
  have hl : c * d < (List.replicate (c * d + 1) 0).length := by simp
  refine ⟨?_, dig_set (dig_zero _) _ _ hl hp⟩
  have h := numN_set_in (List.replicate (c * d + 1) 0) (c * d) p (c * d + 1) hl (Nat.lt_succ_self _)
  have hz : (List.replicate (c * d + 1) 0).getD (c * d) 0 = 0 := by
    rw [List.getD_eq_getElem?_getD, List.getElem?_replicate]
    split <;> rfl
  rw [numN_zero, hz, Nat.mul_zero, Nat.add_zero, Nat.zero_add] at h
  unfold V
  rw [whole_length]
  exact h
def triedL (r : List Nat) (m : Nat) : List Nat := r.set (m / 16) ((r.getD (m / 16) 0 + 2 ^ (m % 16)) % 18446744073709551616)
theorem tried_length (r : List Nat) (m : Nat) : (triedL r m).length = r.length := by simp [triedL]
theorem place (m : Nat) : 2 ^ m = 65536 ^ (m / 16) * 2 ^ (m % 16) := by
  rw [show (65536 : Nat) = 2 ^ 16 from rfl, ← Nat.pow_mul, ← Nat.pow_add, Nat.div_add_mod]
theorem digit_room (r : List Nat) (h : Dig r) (m : Nat) (hm : m / 16 < r.length) (hd : 2 ^ (m + 1) ∣ V r) : r.getD (m / 16) 0 + 2 ^ (m % 16) < 65536 := by
  obtain ⟨q, hq⟩ := hd
  have hx := numN_digit r h r.length (m / 16) hm
  have hj : m % 16 < 16 := Nat.mod_lt _ (by decide)
  have hp : 0 < 65536 ^ (m / 16) := Nat.pow_pos (by decide)
  obtain ⟨k, hk⟩ : ∃ k, 15 - m % 16 = k := ⟨_, rfl⟩
  have e1 : 2 ^ (m + 1) * q = 65536 ^ (m / 16) * (2 ^ (m % 16 + 1) * q) := by
    rw [Nat.pow_succ, place m, Nat.pow_succ]
    simp only [Nat.mul_assoc]
  have e2 : 65536 = 2 ^ (m % 16 + 1) * 2 ^ k := by rw [← Nat.pow_add, show m % 16 + 1 + k = 16 by omega]
  have hV : numN r r.length = 2 ^ (m + 1) * q := hq
  rw [hV, e1, Nat.mul_div_cancel_left _ hp] at hx
  rw [show 2 ^ (m % 16 + 1) * q % 65536 = 2 ^ (m % 16 + 1) * q % (2 ^ (m % 16 + 1) * 2 ^ k) by rw [← e2], Nat.mul_mod_mul_left] at hx
  have ht : q % 2 ^ k < 2 ^ k := Nat.mod_lt _ (Nat.two_pow_pos _)
  have h3 : 2 ^ (m % 16 + 1) * (q % 2 ^ k + 1) ≤ 2 ^ (m % 16 + 1) * 2 ^ k := Nat.mul_le_mul_left _ ht
  rw [← e2, Nat.mul_add, Nat.mul_one, hx, Nat.pow_succ] at h3
  have := Nat.two_pow_pos (m % 16)
  omega
theorem tried_num (r : List Nat) (h : Dig r) (m : Nat) (hm : m / 16 < r.length) (hd : 2 ^ (m + 1) ∣ V r) : V (triedL r m) = V r + 2 ^ m ∧ Dig (triedL r m) ∧ (triedL r m).getD (m / 16) 0 = r.getD (m / 16) 0 + 2 ^ (m % 16) ∧ r.getD (m / 16) 0 + 2 ^ (m % 16) < 65536 := by
  have hr := digit_room r h m hm hd
  have e : triedL r m = r.set (m / 16) (r.getD (m / 16) 0 + 2 ^ (m % 16)) := by
    unfold triedL
    rw [Nat.mod_eq_of_lt (by omega)]
  have hs := numN_set_in r (m / 16) (r.getD (m / 16) 0 + 2 ^ (m % 16)) r.length hm hm
  refine ⟨?_, by rw [e]; exact dig_set h _ _ hm hr, by rw [e, getD_set r _ _ _ hm, if_pos rfl], hr⟩
  unfold V
  rw [tried_length, e, place m]
  rw [Nat.mul_add] at hs
  omega
def stepL (c p d : Nat) (r : List Nat) (m : Nat) : List Nat :=
  if aboveL (powL (triedL r m) (d - 1)) (wholeL c p d) ((c + 1) * (d - 1 + 1) + (c * d + 1)) = true then (triedL r m).set (m / 16) (((triedL r m).getD (m / 16) 0 + 18446744073709551616 - 2 ^ (m % 16)) % 18446744073709551616) else triedL r m
theorem set_back (r : List Nat) (i y : Nat) (h : i < r.length) : (r.set i y).set i (r.getD i 0) = r := by
  rw [List.set_set, List.getD_eq_getElem?_getD, List.getElem?_eq_getElem h]
  simp
theorem step_is (c p d : Nat) (r : List Nat) (m : Nat) (hp : p < 65536) (hd : 1 ≤ d) (hl : r.length = c + 1) (h : Dig r) (hm : m / 16 < c + 1) (hdv : 2 ^ (m + 1) ∣ V r) :
    stepL c p d r m = if 65536 ^ (c * d) * p < (V r + 2 ^ m) ^ d then r else triedL r m := by
  obtain ⟨h1, h2, h3, h4⟩ := tried_num r h m (by omega) hdv
  obtain ⟨w1, w2⟩ := whole_num c p d hp
  obtain ⟨q1, q2⟩ := pow_num (triedL r m) h2 (d - 1)
  have ha := above_V (powL (triedL r m) (d - 1)) (wholeL c p d) q2 w2
  rw [pow_length, whole_length, tried_length, hl, w1, q1, h1, show d - 1 + 1 = d by omega] at ha
  unfold stepL
  rw [show d - 1 + 1 = d by omega, ha]
  by_cases hc : 65536 ^ (c * d) * p < (V r + 2 ^ m) ^ d
  · rw [if_pos (by simpa using hc), if_pos hc, h3]
    have hpow : 2 ^ (m % 16) ≤ 65536 := by omega
    rw [show (r.getD (m / 16) 0 + 2 ^ (m % 16) + 18446744073709551616 - 2 ^ (m % 16)) % 18446744073709551616 = r.getD (m / 16) 0 by
      generalize 2 ^ (m % 16) = T at *
      generalize r.getD (m / 16) 0 = x at *
      omega]
    exact set_back r _ _ (by omega)
  · rw [if_neg (by simpa using hc), if_neg hc]
def digitsL (c p d : Nat) : Nat → List Nat
  | 0 => List.replicate (c + 1) 0
  | n + 1 => stepL c p d (digitsL c p d n) (16 * c + 4 - n)
theorem step_length (c p d : Nat) (r : List Nat) (m : Nat) : (stepL c p d r m).length = r.length := by
  unfold stepL
  split
  · rw [List.length_set, tried_length]
  · exact tried_length r m
theorem digits_length (c p d n : Nat) : (digitsL c p d n).length = c + 1 := by
  induction n with
  | zero => simp [digitsL]
  | succ n ih => rw [digitsL, step_length, ih]
theorem digits_num (c p d R : Nat) (hp : p < 65536) (hd : 1 ≤ d) (h1 : R ^ d ≤ 65536 ^ (c * d) * p) (h2 : 65536 ^ (c * d) * p < (R + 1) ^ d) (hR : R < 2 ^ (16 * c + 5)) (n : Nat) (hn : n ≤ 16 * c + 5) :
    V (digitsL c p d n) = 2 ^ (16 * c + 5 - n) * (R / 2 ^ (16 * c + 5 - n)) ∧ Dig (digitsL c p d n) := by
  induction n with
  | zero =>
    refine ⟨?_, dig_zero _⟩
    rw [Nat.sub_zero, Nat.div_eq_of_lt hR, Nat.mul_zero]
    exact numN_zero _ _
  | succ n ih =>
    obtain ⟨v1, v2⟩ := ih (by omega)
    obtain ⟨m, hm⟩ : ∃ m, 16 * c + 4 - n = m := ⟨_, rfl⟩
    have e1 : 16 * c + 5 - n = m + 1 := by omega
    have e2 : 16 * c + 5 - (n + 1) = m := by omega
    have hl := digits_length c p d n
    rw [e1] at v1
    rw [e2, digitsL, hm]
    generalize digitsL c p d n = r at *
    have hs := step_is c p d r m hp hd hl v2 (by omega) ⟨_, v1⟩
    obtain ⟨t1, t2, _, _⟩ := tried_num r v2 m (by omega) ⟨_, v1⟩
    have hpos := Nat.two_pow_pos m
    have hq : R / 2 ^ (m + 1) = R / 2 ^ m / 2 := by rw [Nat.pow_succ, Nat.div_div_eq_div_mul]
    have hR1 := Nat.div_add_mod R (2 ^ m)
    have hR2 := Nat.mod_lt R hpos
    rw [hq, Nat.pow_succ, Nat.mul_assoc] at v1
    have hb := Nat.div_add_mod (R / 2 ^ m) 2
    have hb2 := Nat.mod_lt (R / 2 ^ m) (show 2 > 0 by decide)
    generalize R / 2 ^ m = Q at *
    rw [hs]
    by_cases hbit : Q % 2 = 1
    · have e3 : V r + 2 ^ m = 2 ^ m * Q := by
        rw [v1, ← Nat.mul_succ]
        congr 1
        omega
      have hle : (V r + 2 ^ m) ^ d ≤ R ^ d := Nat.pow_le_pow_left (by rw [e3]; omega) d
      rw [if_neg (by omega), t1, e3]
      exact ⟨rfl, t2⟩
    · have e3 : V r = 2 ^ m * Q := by
        rw [v1]
        congr 1
        omega
      have hge : (R + 1) ^ d ≤ (V r + 2 ^ m) ^ d := Nat.pow_le_pow_left (by rw [e3]; omega) d
      rw [if_pos (by omega)]
      exact ⟨e3, v2⟩
/-- the digits at the end, as a number -/
theorem digits_end (c p d R : Nat) (hp : p < 65536) (hd : 1 ≤ d) (h1 : R ^ d ≤ 65536 ^ (c * d) * p) (h2 : 65536 ^ (c * d) * p < (R + 1) ^ d) (hR : R < 2 ^ (16 * c + 5)) :
    numN (digitsL c p d (16 * c + 5)) (c + 1) = R ∧ Dig (digitsL c p d (16 * c + 5)) := by
  have h := digits_num c p d R hp hd h1 h2 hR (16 * c + 5) (Nat.le_refl _)
  rw [Nat.sub_self, Nat.pow_zero, Nat.one_mul, Nat.div_one] at h
  have hl := digits_length c p d (16 * c + 5)
  unfold V at h
  rw [hl] at h
  exact h
/-- the first four digits behind the point as one word -/
def valL (r : List Nat) : Nat → Nat
  | 0 => 0
  | j + 1 => (valL r j * 65536 + r.getD (3 - j) 0) % 18446744073709551616
theorem val_lt (r : List Nat) (j : Nat) : valL r j < 18446744073709551616 := by
  cases j with
  | zero => show 0 < _; decide
  | succ j => exact Nat.mod_lt _ (by decide)
def rootL (p d : Nat) : Nat := valL (digitsL 4 p d 69) 4
theorem root_val (p d R : Nat) (hp : p < 65536) (hd : 1 ≤ d) (h1 : R ^ d ≤ 65536 ^ (4 * d) * p) (h2 : 65536 ^ (4 * d) * p < (R + 1) ^ d) (hR : R < 590295810358705651712) : rootL p d = R % 18446744073709551616 := by
  obtain ⟨h, hD⟩ := digits_end 4 p d R hp hd h1 h2 hR
  unfold rootL
  rw [show 16 * 4 + 5 = 69 from rfl] at h hD
  generalize digitsL 4 p d 69 = r at *
  have d0 := hD 0
  have d1 := hD 1
  have d2 := hD 2
  have d3 := hD 3
  have d4 := hD 4
  simp only [numN] at h
  simp only [valL]
  simp only [Nat.sub_zero, show 3 - 1 = 2 from rfl, show 3 - 2 = 1 from rfl, show 3 - 3 = 0 from rfl]
  generalize r.getD 0 0 = x0 at *
  generalize r.getD 1 0 = x1 at *
  generalize r.getD 2 0 = x2 at *
  generalize r.getD 3 0 = x3 at *
  generalize r.getD 4 0 = x4 at *
  omega
end Go.Proofs.YtmebiidgeaalpaaDoor.T
