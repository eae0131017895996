/- Byte by byte: three ways of saying it. Nothing of the program is named here. -/
import Derived.Test.YtnloimanklkigaaDoorVText
import Derived.Lib.Bytealg
namespace Go.Proofs.YtnloimanklkigaaDoor.V
open Go

theorem lessL_same : ∀ x : List UInt8, lessL x x = false := by
  intro x
  induction x with
  | nil => rw [lessL]
  | cons a r ih => rw [lessL, if_pos rfl, ih]
theorem bytesLess_is : ∀ x y : List UInt8, Op.bytesLess x y = lessL x y := by
  intro x
  induction x with
  | nil => intro y; cases y with
    | nil => rw [lessL]; rfl
    | cons b s => rw [lessL]; rfl
  | cons a r ih =>
    intro y
    cases y with
    | nil => rw [lessL]; rfl
    | cons b s =>
      rw [lessL, Op.bytesLess]
      by_cases h : a = b
      · subst h
        rw [if_pos rfl, ih]
        simp
      · rw [if_neg h]
        by_cases h2 : a < b
        · have h3 : a.toNat < b.toNat := UInt8.lt_iff_toNat_lt.1 h2
          simp [h2, h3]
        · have h3 : ¬ a.toNat < b.toNat := fun h => h2 (UInt8.lt_iff_toNat_lt.2 h)
          simp [h2, h3, h]
/-- one of three -/
theorem less_three : ∀ x y : List UInt8, (lessL x y = true ∧ x ≠ y ∧ lessL y x = false) ∨ (x = y ∧ lessL x y = false ∧ lessL y x = false) ∨ (lessL x y = false ∧ x ≠ y ∧ lessL y x = true) := by
  intro x
  induction x with
  | nil => intro y; cases y with
    | nil => exact .inr (.inl ⟨rfl, by rw [lessL], by rw [lessL]⟩)
    | cons b s => exact .inl ⟨by rw [lessL], by simp, by rw [lessL]⟩
  | cons a r ih =>
    intro y
    cases y with
    | nil => exact .inr (.inr ⟨by rw [lessL], by simp, by rw [lessL]⟩)
    | cons b s =>
      rw [lessL, lessL]
      by_cases h : a = b
      · subst h
        rw [if_pos rfl, if_pos rfl]
        rcases ih s with ⟨h1, h2, h3⟩ | ⟨h1, h2, h3⟩ | ⟨h1, h2, h3⟩
        · exact .inl ⟨h1, by simpa using h2, h3⟩
        · exact .inr (.inl ⟨by rw [h1], h2, h3⟩)
        · exact .inr (.inr ⟨h1, by simpa using h2, h3⟩)
      · rw [if_neg h, if_neg (show ¬ b = a from fun e => h e.symm)]
        have hn : a.toNat ≠ b.toNat := fun e => h (UInt8.toNat_inj.1 e)
        have hne : a :: r ≠ b :: s := fun e => h (List.cons.inj e).1
        rcases Nat.lt_or_ge a.toNat b.toNat with h1 | h1
        · exact .inl ⟨decide_eq_true h1, hne, decide_eq_false (by omega)⟩
        · exact .inr (.inr ⟨decide_eq_false (by omega), hne, decide_eq_true (by omega)⟩)
theorem less_trans : ∀ x y z : List UInt8, lessL x y = true → lessL y z = true → lessL x z = true := by
  intro x
  induction x with
  | nil => intro y z h1 h2; cases z with
    | nil => cases y <;> simp [lessL] at h2
    | cons c t => rw [lessL]
  | cons a r ih =>
    intro y z h1 h2
    cases y with
    | nil => simp [lessL] at h1
    | cons b s =>
      cases z with
      | nil => simp [lessL] at h2
      | cons c t =>
        rw [lessL] at h1 h2 ⊢
        by_cases e1 : a = b
        · subst e1
          rw [if_pos rfl] at h1
          by_cases e2 : a = c
          · subst e2
            rw [if_pos rfl] at h2 ⊢
            exact ih s t h1 h2
          · rw [if_neg e2] at h2 ⊢
            exact h2
        · rw [if_neg e1] at h1
          by_cases e2 : b = c
          · subst e2
            rw [if_neg e1]
            exact h1
          · rw [if_neg e2] at h2
            have h1 := of_decide_eq_true h1
            have h2 := of_decide_eq_true h2
            have e3 : a ≠ c := fun e => by subst e; omega
            rw [if_neg e3]
            exact decide_eq_true (by omega)
theorem less_leq {x y : List UInt8} (h : Op.bytesLess x y = true ∨ (x == y) = true) : lessL y x = false := by
  rw [bytesLess_is] at h
  rcases less_three x y with ⟨_, _, h1⟩ | ⟨_, _, h1⟩ | ⟨h1, h2, _⟩
  · exact h1
  · exact h1
  · rcases h with h | h
    · rw [h1] at h; cases h
    · exact absurd (by simpa using h) h2
theorem less_gtr {x y : List UInt8} (h : Op.bytesLess x y = false ∧ (x == y) = false) : lessL y x = true := by
  rw [bytesLess_is] at h
  rcases less_three x y with ⟨h1, _, _⟩ | ⟨h1, _, _⟩ | ⟨_, _, h1⟩
  · rw [h.1] at h1; cases h1
  · exact absurd h1 (by simpa using h.2)
  · exact h1
/-- the library's comparison -/
theorem compare_is : ∀ x y : List UInt8, Lib.compareBytes x y = if lessL x y then -1 else if lessL y x then 1 else 0 := by
  intro x
  induction x with
  | nil => intro y; cases y with
    | nil => simp [Lib.compareBytes, lessL]
    | cons b s => simp [Lib.compareBytes, lessL]
  | cons a r ih =>
    intro y
    cases y with
    | nil => simp [Lib.compareBytes, lessL]
    | cons b s =>
      rw [Lib.compareBytes, lessL, lessL]
      by_cases h : a = b
      · subst h
        rw [if_pos rfl, if_pos rfl, ih]
        simp
      · rw [if_neg h, if_neg (show ¬ b = a from fun e => h e.symm)]
        have hn : a.toNat ≠ b.toNat := fun e => h (UInt8.toNat_inj.1 e)
        by_cases h2 : a < b
        · have h3 : a.toNat < b.toNat := UInt8.lt_iff_toNat_lt.1 h2
          rw [if_pos h2, decide_eq_true h3, if_pos rfl]
        · have h3 : ¬ a.toNat < b.toNat := fun h => h2 (UInt8.lt_iff_toNat_lt.2 h)
          have h4 : b.toNat < a.toNat := by omega
          rw [if_neg h2, if_pos (UInt8.lt_iff_toNat_lt.2 h4), decide_eq_false h3, decide_eq_true h4, if_neg (by simp), if_pos rfl]
end Go.Proofs.YtnloimanklkigaaDoor.V
