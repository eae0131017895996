/- Keys, place by place. Nothing of the program is named here. -/
import Derived.Test.YtnloimanklkigaaDoorVText
namespace Go.Proofs.YtnloimanklkigaaDoor.V
open Go

theorem keysOk_nil : keysOk [] = true := by rw [keysOk]
theorem keysOk_one (k : List UInt8) : keysOk [k] = textOk k := by rw [keysOk]
theorem keysOk_two (k k' : List UInt8) (r : List (List UInt8)) : keysOk (k :: k' :: r) = (textOk k && lessL k k' && keysOk (k' :: r)) := by rw [keysOk]
/-- each may be, and each is greater than the one ahead of it -/
theorem keysOk_iff : ∀ ks : List (List UInt8), keysOk ks = true ↔ (∀ (j : Nat) (k : List UInt8), ks[j]? = some k → textOk k = true) ∧ (∀ (j : Nat) (k k' : List UInt8), ks[j]? = some k → ks[j + 1]? = some k' → lessL k k' = true) := by
  intro ks
  induction ks with
  | nil => rw [keysOk_nil]; simp
  | cons k r ih =>
    cases r with
    | nil =>
      rw [keysOk_one]
      constructor
      · intro h
        refine ⟨fun j x hx => ?_, fun j x y _ hy => ?_⟩
        · cases j with
          | zero => simp at hx; rw [← hx]; exact h
          | succ j => simp at hx
        · simp at hy
      · intro h
        exact h.1 0 k rfl
    | cons k' r =>
      rw [keysOk_two, Bool.and_eq_true, Bool.and_eq_true, ih]
      constructor
      · rintro ⟨⟨h1, h2⟩, h3, h4⟩
        refine ⟨fun j x hx => ?_, fun j x y hx hy => ?_⟩
        · cases j with
          | zero => simp at hx; rw [← hx]; exact h1
          | succ j => exact h3 j x (by simpa using hx)
        · cases j with
          | zero => simp at hx hy; rw [← hx, ← hy]; exact h2
          | succ j => exact h4 j x y (by simpa using hx) (by simpa using hy)
      · rintro ⟨h1, h2⟩
        refine ⟨⟨h1 0 k rfl, h2 0 k k' rfl rfl⟩, fun j x hx => h1 (j + 1) x (by simpa using hx), fun j x y hx hy => h2 (j + 1) x y (by simpa using hx) (by simpa using hy)⟩
/-- the first j of them are so -/
def KeysTo (ks : List (List UInt8)) (j : Nat) : Prop := (∀ (i : Nat) (k : List UInt8), i < j → ks[i]? = some k → textOk k = true) ∧ (∀ (i : Nat) (k k' : List UInt8), i + 1 < j → ks[i]? = some k → ks[i + 1]? = some k' → lessL k k' = true)
theorem KeysTo.zero (ks : List (List UInt8)) : KeysTo ks 0 := ⟨fun i k h => absurd h (by omega), fun i k k' h => absurd h (by omega)⟩
theorem KeysTo.all {ks : List (List UInt8)} (h : KeysTo ks ks.length) : keysOk ks = true :=
  (keysOk_iff ks).2 ⟨fun j k hk => h.1 j k (List.getElem?_eq_some_iff.1 hk).1 hk, fun j k k' hk hk' => h.2 j k k' (List.getElem?_eq_some_iff.1 hk').1 hk hk'⟩
theorem KeysTo.first {ks : List (List UInt8)} {k : List UInt8} (hk : ks[0]? = some k) (ht : textOk k = true) : KeysTo ks 1 := ⟨fun i x hi hx => by
  obtain rfl : i = 0 := by omega
  rw [hk] at hx
  rw [← Option.some.inj hx]; exact ht, fun i x y hi => by omega⟩
theorem KeysTo.next {ks : List (List UInt8)} {j : Nat} {k k' : List UInt8} (h : KeysTo ks (j + 1)) (hk : ks[j]? = some k) (hk' : ks[j + 1]? = some k') (ht : textOk k' = true) (hl : lessL k k' = true) : KeysTo ks (j + 1 + 1) := by
  refine ⟨fun i x hi hx => ?_, fun i x y hi hx hy => ?_⟩
  · rcases Nat.lt_or_ge i (j + 1) with h1 | h1
    · exact h.1 i x h1 hx
    · obtain rfl : i = j + 1 := by omega
      rw [hk'] at hx
      rw [← Option.some.inj hx]; exact ht
  · rcases Nat.lt_or_ge (i + 1) (j + 1) with h1 | h1
    · exact h.2 i x y h1 hx hy
    · obtain rfl : i = j := by omega
      rw [hk] at hx
      rw [hk'] at hy
      rw [← Option.some.inj hx, ← Option.some.inj hy]; exact hl
theorem keysOk_bad {ks : List (List UInt8)} {j : Nat} {k : List UInt8} (hk : ks[j]? = some k) (ht : textOk k = false) : keysOk ks = false := by
  cases h : keysOk ks with
  | false => rfl
  | true => have := ((keysOk_iff ks).1 h).1 j k hk; rw [ht] at this; cases this
theorem keysOk_order {ks : List (List UInt8)} {j : Nat} {k k' : List UInt8} (hk : ks[j]? = some k) (hk' : ks[j + 1]? = some k') (hl : lessL k k' = false) : keysOk ks = false := by
  cases h : keysOk ks with
  | false => rfl
  | true => have := ((keysOk_iff ks).1 h).2 j k k' hk hk'; rw [hl] at this; cases this
end Go.Proofs.YtnloimanklkigaaDoor.V
