/- Digits and what strconv.ParseInt makes of them. Nothing of the program is named here. -/
import Derived.Test.YtnloimanklkigaaDoorYMath
import Derived.Lib.ParseIntBCases
namespace Go.Proofs.YtnloimanklkigaaDoor.V
open Go

theorem fold_ge : ∀ (d : List UInt8) (a : Nat), a ≤ d.foldl (fun a c => 10 * a + (c.toNat - 48)) a := by
  intro d
  induction d with
  | nil => intro a; exact Nat.le_refl _
  | cons c d ih =>
    intro a
    rw [List.foldl_cons]
    have := ih (10 * a + (c.toNat - 48))
    omega
theorem uint_of : ∀ (d : List UInt8) (a : Nat), (∀ c ∈ d, isDig c = true) → a ≤ 18446744073709551615 →
    Lib.parseUintM 18446744073709551615 a d = if d.foldl (fun a c => 10 * a + (c.toNat - 48)) a ≤ 18446744073709551615 then .ok (d.foldl (fun a c => 10 * a + (c.toNat - 48)) a) else .range := by
  intro d
  induction d with
  | nil => intro a _ ha; rw [Lib.parseUintM, List.foldl_nil, if_pos ha]
  | cons c d ih =>
    intro a hd ha
    have hc := hd c (by simp)
    unfold isDig at hc
    rw [Bool.and_eq_true, decide_eq_true_eq, decide_eq_true_eq] at hc
    rw [Lib.parseUintM, if_pos hc, List.foldl_cons]
    have hge := fold_ge d (10 * a + (c.toNat - 48))
    by_cases h1 : 1844674407370955162 ≤ a
    · rw [if_pos h1, if_neg (by omega)]
    · rw [if_neg h1]
      by_cases h2 : 18446744073709551615 < a * 10 + (c.toNat - 48)
      · rw [if_pos h2, if_neg (by omega)]
      · rw [if_neg h2, ih _ (fun x hx => hd x (by simp [hx])) (by omega), show a * 10 + (c.toNat - 48) = 10 * a + (c.toNat - 48) by omega]
theorem uintB_of {d : List UInt8} (hd : ∀ c ∈ d, isDig c = true) (hn : d ≠ []) : Lib.parseUintB 64 d = if decVal d ≤ 18446744073709551615 then .ok (decVal d) else .range := by
  unfold Lib.parseUintB
  rw [if_neg hn]
  exact uint_of d 0 hd (by decide)
def signed (b : Bool) (n : Nat) : Int := if b then -(n : Int) else n
/-- what is parsed of a sign and digits -/
theorem parse_of {d : List UInt8} (b : Bool) (hd : ∀ c ∈ d, isDig c = true) (hn : d ≠ []) :
    (Lib.parseIntB 64 (if b then 45 :: d else d) = .ok (signed b (decVal d)) ∧ (-9223372036854775808 ≤ signed b (decVal d) ∧ signed b (decVal d) ≤ 9223372036854775807)) ∨
    (Lib.parseIntB 64 (if b then 45 :: d else d) = .range ∧ 1099511627776 < decVal d ∧ (Lib.intSat 64 (if b then 45 :: d else d) < -1099511627776 ∨ 1099511627776 < Lib.intSat 64 (if b then 45 :: d else d)) ∧ (-9223372036854775808 ≤ Lib.intSat 64 (if b then 45 :: d else d) ∧ Lib.intSat 64 (if b then 45 :: d else d) ≤ 9223372036854775807)) := by
  have hu := uintB_of hd hn
  cases b with
  | true =>
    simp only [if_true]
    rw [Lib.parseIntB_minus, hu]
    have hs : Lib.intSat 64 (45 :: d) = -9223372036854775808 := rfl
    rw [hs]
    unfold signed
    by_cases h1 : decVal d ≤ 18446744073709551615
    · rw [if_pos h1]
      by_cases h2 : 9223372036854775808 < decVal d
      · refine .inr ⟨?_, by omega, by omega, by omega⟩
        show (if 2 ^ (64 - 1) < decVal d then _ else _) = _
        rw [if_pos (by simpa using h2)]
      · refine .inl ⟨?_, by simp only [if_true]; omega⟩
        show (if 2 ^ (64 - 1) < decVal d then _ else _) = _
        rw [if_neg (by simpa using h2)]
        rfl
    · rw [if_neg h1]
      exact .inr ⟨rfl, by omega, by omega, by omega⟩
  | false =>
    simp only [Bool.false_eq_true, if_false]
    obtain ⟨c, r, rfl⟩ : ∃ c r, d = c :: r := by
      cases d with
      | nil => exact absurd rfl hn
      | cons c r => exact ⟨c, r, rfl⟩
    have hc := hd c (by simp)
    unfold isDig at hc
    rw [Bool.and_eq_true, decide_eq_true_eq, decide_eq_true_eq] at hc
    rw [Lib.parseIntB_plain 64 c r (by omega) (by omega), hu]
    have hs : Lib.intSat 64 (c :: r) = 9223372036854775807 := by
      unfold Lib.intSat
      rw [if_neg]
      · rfl
      · simp only [List.head?_cons, Option.map_some, Option.some.injEq]
        omega
    rw [hs]
    unfold signed
    generalize decVal (c :: r) = u
    simp only [Bool.false_eq_true, if_false]
    by_cases h1 : u ≤ 18446744073709551615
    · rw [if_pos h1]
      by_cases h2 : 9223372036854775808 ≤ u
      · refine .inr ⟨?_, by omega, by omega, by omega⟩
        show (if 2 ^ (64 - 1) ≤ u then _ else _) = _
        rw [if_pos (by simpa using h2)]
      · refine .inl ⟨?_, by omega⟩
        show (if 2 ^ (64 - 1) ≤ u then _ else _) = _
        rw [if_neg (by simpa using h2)]
    · rw [if_neg h1]
      exact .inr ⟨rfl, by omega, by omega, by omega⟩
end Go.Proofs.YtnloimanklkigaaDoor.V
