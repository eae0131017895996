/- What the reference's constants are made of: roots of primes, digit by digit. -/
import Derived.Test.YtopblemgkcdgnaaDoorSRefTimes
namespace Go.Proofs.YtopblemgkcdgnaaDoor

def powL (r : List Nat) : Nat → List Nat
  | 0 => r
  | d + 1 => timesL (powL r d) r
theorem pow_length (r : List Nat) (e : Nat) (h : r.length = 3) : (powL r e).length = 3 * (e + 1) := by
  induction e with
  | zero => simpa [powL] using h
  | succ e ih => rw [powL, times_length, ih, h]; omega
def wholeL (p d : Nat) : List Nat := (List.replicate (2 * d + 1) 0).set (2 * d) p
theorem whole_length (p d : Nat) : (wholeL p d).length = 2 * d + 1 := by simp [wholeL]
def triedL (r : List Nat) (m : Nat) : List Nat := r.set (m / 16) ((r.getD (m / 16) 0 + 2 ^ (m % 16)) % 18446744073709551616)
theorem tried_length (r : List Nat) (m : Nat) : (triedL r m).length = r.length := by simp [triedL]
def stepL (p d : Nat) (r : List Nat) (m : Nat) : List Nat :=
  if aboveL (powL (triedL r m) (d - 1)) (wholeL p d) (3 * (d - 1 + 1) + (2 * d + 1)) = true then (triedL r m).set (m / 16) (((triedL r m).getD (m / 16) 0 + 18446744073709551616 - 2 ^ (m % 16)) % 18446744073709551616) else triedL r m
theorem step_length (p d : Nat) (r : List Nat) (m : Nat) : (stepL p d r m).length = r.length := by
  unfold stepL
  split
  · rw [List.length_set, tried_length]
  · exact tried_length r m
def digitsL (p d : Nat) : Nat → List Nat
  | 0 => [0, 0, 0]
  | n + 1 => stepL p d (digitsL p d n) (36 - n)
theorem digits_length (p d n : Nat) : (digitsL p d n).length = 3 := by
  induction n with
  | zero => rfl
  | succ n ih => rw [digitsL, step_length, ih]
def valL (r : List Nat) : Nat → Nat
  | 0 => 0
  | j + 1 => (valL r j * 65536 + r.getD (1 - j) 0) % 4294967296
theorem val_lt (r : List Nat) (j : Nat) : valL r j < 4294967296 := by
  cases j with
  | zero => show 0 < _; decide
  | succ j => exact Nat.mod_lt _ (by decide)
def rootL (p d : Nat) : Nat := valL (digitsL p d 37) 2

def sieveL : Nat → List Nat
  | 0 => []
  | t + 1 => if (sieveL t).all (fun p => decide ((2 + t) % p ≠ 0)) = true then sieveL t ++ [2 + t] else sieveL t
theorem sieve_in (t : Nat) : ∀ p ∈ sieveL t, 2 ≤ p ∧ p < 2 + t := by
  induction t with
  | zero => intro p h; cases h
  | succ t ih =>
    intro p h
    rw [sieveL] at h
    split at h
    · rw [List.mem_append, List.mem_singleton] at h
      rcases h with h | rfl
      · have := ih p h; omega
      · omega
    · have := ih p h; omega
theorem sieve_grows (t : Nat) : (sieveL t).length ≤ (sieveL (t + 1)).length ∧ (sieveL (t + 1)).length ≤ (sieveL t).length + 1 := by
  rw [sieveL]
  split
  · simp
  · omega
theorem sieve_mono (t k : Nat) : (sieveL t).length ≤ (sieveL (t + k)).length := by
  induction k with
  | zero => exact Nat.le_refl _
  | succ k ih => exact Nat.le_trans ih (sieve_grows (t + k)).1
theorem sieve_length (t : Nat) : (sieveL t).length ≤ t := by
  induction t with
  | zero => exact Nat.le_refl _
  | succ t ih => have := (sieve_grows t).2; omega
theorem all_next (o : List Nat) (f : Nat → Bool) (k : Nat) (h : k < o.length) : (o.take (k + 1)).all f = ((o.take k).all f && f (o.getD k 0)) := by
  rw [List.take_add_one, List.getElem?_eq_getElem h, List.getD_eq_getElem?_getD, List.getElem?_eq_getElem h, List.all_append, Option.toList_some, List.all_cons, List.all_nil, Bool.and_true, Option.getD_some]
theorem getD_mem (o : List Nat) (k : Nat) (h : k < o.length) : o.getD k 0 ∈ o := by
  rw [List.getD_eq_getElem?_getD, List.getElem?_eq_getElem h]
  exact List.getElem_mem h
end Go.Proofs.YtopblemgkcdgnaaDoor
