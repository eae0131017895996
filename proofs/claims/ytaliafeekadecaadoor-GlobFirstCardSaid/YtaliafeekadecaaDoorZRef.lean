/- The reference: bytes, parts, what may be. -/
import Derived.Test.YtaliafeekadecaaDoorZRight
import Derived.Test.YtaliafeekadecaaDoorVSeq
namespace Go.Proofs.YtaliafeekadecaaDoor.Z
open Go.RowKit Go.Shelf
open V (Lies)
set_option maxRecDepth 100000

theorem byt_iff (pat : Bool) (c : UInt8) : byt pat c = true ↔ (pat = true ∧ ((c.toNat : Int) = 42 ∨ (c.toNat : Int) = 63)) ∨ (97 ≤ (c.toNat : Int) ∧ (c.toNat : Int) ≤ 122) ∨ (65 ≤ (c.toNat : Int) ∧ (c.toNat : Int) ≤ 90) ∨ (48 ≤ (c.toNat : Int) ∧ (c.toNat : Int) ≤ 57) ∨ (c.toNat : Int) = 46 ∨ (c.toNat : Int) = 47 ∨ (c.toNat : Int) = 95 ∨ (c.toNat : Int) = 45 := by
  have e : ∀ a : UInt8, c = a ↔ (c.toNat : Int) = (a.toNat : Int) := fun a => ⟨fun h => by rw [h], fun h => UInt8.toNat_inj.1 (by omega)⟩
  have l : ∀ a b : UInt8, a ≤ b ↔ (a.toNat : Int) ≤ (b.toNat : Int) := fun a b => by rw [UInt8.le_iff_toNat_le]; omega
  unfold byt
  simp only [Bool.or_eq_true, Bool.and_eq_true, decide_eq_true_eq, e, l, show (((42 : UInt8).toNat : Nat) : Int) = 42 from rfl, show (((63 : UInt8).toNat : Nat) : Int) = 63 from rfl, show (((97 : UInt8).toNat : Nat) : Int) = 97 from rfl, show (((122 : UInt8).toNat : Nat) : Int) = 122 from rfl, show (((65 : UInt8).toNat : Nat) : Int) = 65 from rfl, show (((90 : UInt8).toNat : Nat) : Int) = 90 from rfl, show (((48 : UInt8).toNat : Nat) : Int) = 48 from rfl, show (((57 : UInt8).toNat : Nat) : Int) = 57 from rfl, show (((46 : UInt8).toNat : Nat) : Int) = 46 from rfl, show (((47 : UInt8).toNat : Nat) : Int) = 47 from rfl, show (((95 : UInt8).toNat : Nat) : Int) = 95 from rfl, show (((45 : UInt8).toNat : Nat) : Int) = 45 from rfl]
  cases pat
  · simp only [Bool.false_eq_true, false_and, false_or]
    omega
  · simp only [true_and]
    omega
set_option maxHeartbeats 6400000 in
theorem refByt_any (c : UInt8) (pat : Bool) (w : World) : Calls Tryd.prog 21 #[.int .u8 (c.toNat : Int), .bool pat] w fun e w' => e = .returned (.bool (byt pat c)) ∧ w' = w := by
  go_enter Tryd.func21, Tryd.ntmps21
  go_wp2
  all_goals go_ret
  all_goals (refine ⟨ret1_of (congrArg Value.bool (Bool.eq_iff_iff.2 ?_)), rfl⟩; rw [byt_iff]; simp_all; try omega)
end Go.Proofs.YtaliafeekadecaaDoor.Z
