/- Powers modulo p, as squares and products make them; a root, as the program looks for it. Nothing of the program is named here. -/
import Derived.Test.YtlbhlklgliblgaaDoorFOk
namespace Go.Proofs.YtlbhlklgliblgaaDoor.F

/-- x to a power, modulo p -/
def powN (x e : Nat) : Nat := x ^ e % p25
theorem powN_eq (x e : Nat) : powN x e = x ^ e % p25 := rfl
attribute [irreducible] powN
theorem powN_lt (x e : Nat) : powN x e < p25 := by rw [powN_eq]; exact Nat.mod_lt _ p25_pos
theorem below_K {n : Nat} (h : n < p25) : n < K256 := Nat.lt_trans h (by decide)
/-- v counts as x to the power e -/
def Pw (x e v : Nat) : Prop := v % p25 = powN x e
theorem Pw.one (x : Nat) : Pw x 1 x := by unfold Pw; rw [powN_eq, Nat.pow_one]
theorem Pw.mul {x a b u v : Nat} (h : Pw x a u) (k : Pw x b v) : Pw x (a + b) (u * v % p25) := by
  simp only [Pw, powN_eq] at *
  rw [Nat.mod_mod, Nat.mul_mod, h, k, ← Nat.mul_mod, ← Nat.pow_add]
theorem Pw.pow {x a u : Nat} (h : Pw x a u) (b : Nat) : Pw x (a * b) (powN u b) := by
  simp only [Pw, powN_eq] at *
  rw [Nat.mod_mod, Nat.pow_mod, h, ← Nat.pow_mod, ← Nat.pow_mul]
theorem Pw.is {x e v : Nat} (h : Pw x e v) (hv : v < p25) : v = powN x e := by
  unfold Pw at h
  rw [← h, Nat.mod_eq_of_lt hv]

/-! ### squared so many times -/
def sqL (x i : Nat) : Nat := if i = 0 then x else powN x (2 ^ i)
theorem sqL_pw (x i : Nat) : Pw x (2 ^ i) (sqL x i) := by
  unfold sqL
  split
  · rename_i h
    rw [h]
    exact Pw.one x
  · unfold Pw
    exact Nat.mod_eq_of_lt (powN_lt _ _)
theorem sqL_step (x i : Nat) : sqL x i * sqL x i % p25 = sqL x (i + 1) := by
  have h := ((sqL_pw x i).mul (sqL_pw x i)).is (Nat.mod_lt _ p25_pos)
  rw [h, show 2 ^ i + 2 ^ i = 2 ^ (i + 1) by rw [Nat.pow_succ]; omega]
  unfold sqL
  rw [if_neg (by omega)]
theorem sqL_lt (x i : Nat) (h : x < K256) : sqL x i < K256 := by
  unfold sqL
  split
  · exact h
  · exact below_K (powN_lt _ _)
theorem sqL_pos (x i : Nat) (h : 0 < i) : sqL x i = powN x (2 ^ i) := by unfold sqL; rw [if_neg (by omega)]
theorem sqL_one (x : Nat) : sqL x 1 = x * x % p25 := (sqL_step x 0).symm
theorem sqL_zero (x : Nat) : sqL x 0 = x := rfl

/-! ### so many ones -/
def onesN (x n : Nat) : Nat := if n ≤ 1 then x else powN x (2 ^ n - 1)
theorem onesN_pw (x n : Nat) (h : 1 ≤ n) : Pw x (2 ^ n - 1) (onesN x n) := by
  unfold onesN
  split
  · obtain rfl : n = 1 := by omega
    exact Pw.one x
  · unfold Pw
    exact Nat.mod_eq_of_lt (powN_lt _ _)
theorem onesN_lt (x n : Nat) (h : x < K256) : onesN x n < K256 := by
  unfold onesN
  split
  · exact h
  · exact below_K (powN_lt _ _)
theorem onesN_one (x : Nat) : onesN x 1 = x := rfl
theorem onesN_even (x h : Nat) (h1 : 1 ≤ h) : sqL (onesN x h) h * onesN x h % p25 = onesN x (2 * h) := by
  have e := (((onesN_pw x h h1).pow (2 ^ h)).mul (onesN_pw x h h1)).is (Nat.mod_lt _ p25_pos)
  rw [sqL_pos _ _ h1, e]
  unfold onesN
  rw [if_neg (by omega)]
  congr 1
  have h2 : 0 < 2 ^ h := Nat.pow_pos (by decide)
  obtain ⟨m, hm⟩ : ∃ m, 2 ^ h = m + 1 := ⟨2 ^ h - 1, by omega⟩
  rw [Nat.two_mul, Nat.pow_add, hm, Nat.add_sub_cancel, Nat.succ_mul m (m + 1)]
  have h3 : m * (m + 1) = m * m + m := Nat.mul_succ m m
  omega
theorem onesN_odd (x h : Nat) (h1 : 1 ≤ h) : sqL (onesN x (2 * h)) 1 * x % p25 = onesN x (2 * h + 1) := by
  have e := (((onesN_pw x (2 * h) (by omega)).pow (2 ^ 1)).mul (Pw.one x)).is (Nat.mod_lt _ p25_pos)
  rw [sqL_pos _ _ (by decide), e]
  unfold onesN
  rw [if_neg (by omega)]
  congr 1
  have h2 : 0 < 2 ^ (2 * h) := Nat.pow_pos (by decide)
  rw [Nat.pow_succ 2 (2 * h)]
  omega

/-! ### the power that inverses and roots are made of -/
def eP : Nat := 7237005577332262213973186563042994240829374041602535252466099000494570602493
theorem power_eq (x : Nat) : sqL (onesN x 250) 2 * x % p25 = powN x eP := by
  have e := (((onesN_pw x 250 (by decide)).pow (2 ^ 2)).mul (Pw.one x)).is (Nat.mod_lt _ p25_pos)
  rw [sqL_pos _ _ (by decide), e]
  exact congrArg (powN x) (by decide)
theorem inv_eq (x : Nat) : sqL (powN x eP) 3 * (x * sqL x 1 % p25) % p25 = invN x := by
  have h1 : Pw x eP (powN x eP) := by unfold Pw; exact Nat.mod_eq_of_lt (powN_lt _ _)
  have e := ((h1.pow (2 ^ 3)).mul ((Pw.one x).mul (sqL_pw x 1))).is (Nat.mod_lt _ p25_pos)
  rw [sqL_pos _ 3 (by decide), e, invN_eq, ← powN_eq]
  exact congrArg (powN x) (by decide)

/-! ### roots -/
def rootC (x : Nat) : Nat := x * powN x eP % p25
def rootD (x : Nat) : Nat := rootC x * i25 % p25
theorem rootC_lt (x : Nat) : rootC x < p25 := Nat.mod_lt _ p25_pos
theorem rootD_lt (x : Nat) : rootD x < p25 := Nat.mod_lt _ p25_pos
theorem rootC_eq (x : Nat) : rootC x = c25 x % p25 := by
  have h1 : Pw x eP (powN x eP) := by unfold Pw; exact Nat.mod_eq_of_lt (powN_lt _ _)
  have e := ((Pw.one x).mul h1).is (Nat.mod_lt _ p25_pos)
  unfold rootC
  rw [e, show 1 + eP = d25 by decide, powN_eq]
  rfl
/-- the even one of a number below p and its contrary -/
def evN (r : Nat) : Nat := if r % 2 = 1 then (0 + (p25 - r % p25)) % p25 else r
theorem evN_lt (r : Nat) (h : r < p25) : evN r < p25 := by
  unfold evN
  split
  · exact Nat.mod_lt _ p25_pos
  · exact h
theorem evN_odd (r : Nat) (h : r < p25) (h1 : r % 2 = 1) : evN r = p25 - r := by
  unfold evN
  rw [if_pos h1, Nat.zero_add, Nat.mod_eq_of_lt h, Nat.mod_eq_of_lt (by omega)]
theorem evN_even (r : Nat) (h : r < p25) : evN r % 2 = 0 := by
  by_cases h1 : r % 2 = 1
  · rw [evN_odd r h h1]
    have := contrary_odd r h
    omega
  · unfold evN
    rw [if_neg h1]
    omega
theorem contrary_sq (r : Nat) (h : r < p25) : (p25 - r) * (p25 - r) % p25 = r * r % p25 := by
  obtain ⟨s, hs⟩ : ∃ s, p25 - r = s := ⟨_, rfl⟩
  have e : p25 = r + s := by omega
  rw [hs]
  have h1 : s * s + p25 * r = r * r + p25 * s := by
    rw [e, Nat.add_mul, Nat.add_mul, Nat.mul_comm s r]
    omega
  have h2 := congrArg (· % p25) h1
  simp only [Nat.add_mul_mod_self_left] at h2
  exact h2
theorem evN_sq (r : Nat) (h : r < p25) : evN r * evN r % p25 = r * r % p25 := by
  by_cases h1 : r % 2 = 1
  · rw [evN_odd r h h1, contrary_sq r h]
  · unfold evN
    rw [if_neg h1]
def sqrtR (x : Nat) : Nat := if rootC x * rootC x % p25 = x % p25 then evN (rootC x) else if rootD x * rootD x % p25 = x % p25 then evN (rootD x) else 0
def sqrtB (x : Nat) : Bool := decide (rootC x * rootC x % p25 = x % p25) || decide (rootD x * rootD x % p25 = x % p25)
theorem sq_of_square {r x : Nat} (h : r * r % p25 = x % p25) : Sq x := ⟨r, h⟩
theorem sqrt_finds (x : Nat) (h : Sq x) : rootC x * rootC x % p25 = x % p25 ∨ rootD x * rootD x % p25 = x % p25 := by
  by_cases hd : p25 ∣ x
  · left
    have h0 : x % p25 = 0 := Nat.mod_eq_zero_of_dvd hd
    have h1 : rootC x = 0 := by
      unfold rootC
      rw [Nat.mul_mod, h0, Nat.zero_mul, Nat.zero_mod]
    rw [h1, h0]
    rfl
  · rcases cand x (sq_power x hd h) with h1 | h1
    · left
      rw [rootC_eq, ← Nat.mul_mod]
      exact h1
    · right
      have e : rootD x = c25 x * i25 % p25 := by
        unfold rootD
        rw [rootC_eq, Nat.mod_mul_mod]
      rw [e, ← Nat.mul_mod]
      exact h1
theorem sqrt_spec (n : Nat) : sqrtR n < p25 ∧ sqrtR n % 2 = 0 ∧ (sqrtB n = true → sqrtR n * sqrtR n % p25 = n % p25) ∧ (sqrtB n = false → sqrtR n = 0) ∧ (sqrtB n = true ↔ Sq n) := by
  by_cases h1 : rootC n * rootC n % p25 = n % p25
  · have eR : sqrtR n = evN (rootC n) := by unfold sqrtR; rw [if_pos h1]
    have eB : sqrtB n = true := by unfold sqrtB; rw [decide_eq_true h1]; rfl
    rw [eR, eB]
    exact ⟨evN_lt _ (rootC_lt n), evN_even _ (rootC_lt n), fun _ => by rw [evN_sq _ (rootC_lt n), h1], (fun h => by cases h), fun _ => sq_of_square h1, fun _ => rfl⟩
  · by_cases h2 : rootD n * rootD n % p25 = n % p25
    · have eR : sqrtR n = evN (rootD n) := by unfold sqrtR; rw [if_neg h1, if_pos h2]
      have eB : sqrtB n = true := by unfold sqrtB; rw [decide_eq_true h2, Bool.or_true]
      rw [eR, eB]
      exact ⟨evN_lt _ (rootD_lt n), evN_even _ (rootD_lt n), fun _ => by rw [evN_sq _ (rootD_lt n), h2], (fun h => by cases h), fun _ => sq_of_square h2, fun _ => rfl⟩
    · have eR : sqrtR n = 0 := by unfold sqrtR; rw [if_neg h1, if_neg h2]
      have eB : sqrtB n = false := by unfold sqrtB; rw [decide_eq_false h1, decide_eq_false h2]; rfl
      rw [eR, eB]
      refine ⟨p25_pos, rfl, (fun h => by cases h), fun _ => rfl, (fun h => by cases h), fun h => ?_⟩
      rcases sqrt_finds n h with h3 | h3
      · exact absurd h3 h1
      · exact absurd h3 h2
end Go.Proofs.YtlbhlklgliblgaaDoor.F
