/- Plain facts about numbers modulo L that the statements ask for; new variables. -/
import Derived.Test.YtknpgijapbkebaaDoorGOk
namespace Go.Proofs.YtknpgijapbkebaaDoor.F
open Go.RowKit

theorem lt_KL {n : Nat} (h : n < l25) : n < K256 := Nat.lt_trans h (by decide)
theorem l25_K : l25 < K256 := by decide
theorem add_assoc_mod (a b c : Nat) : ((a + b) % l25 + c) % l25 = (a + (b + c) % l25) % l25 := by
  rw [Nat.add_mod, Nat.mod_mod, ← Nat.add_mod, Nat.add_mod a ((b + c) % l25), Nat.mod_mod, ← Nat.add_mod, Nat.add_assoc]
theorem mul_assoc_mod (a b c : Nat) : (a * b % l25) * c % l25 = a * (b * c % l25) % l25 := by
  rw [Nat.mul_mod, Nat.mod_mod, ← Nat.mul_mod, Nat.mul_mod a (b * c % l25), Nat.mod_mod, ← Nat.mul_mod, Nat.mul_assoc]
theorem mul_add_mod' (a b c : Nat) : a * ((b + c) % l25) % l25 = (a * b % l25 + a * c % l25) % l25 := by
  rw [Nat.mul_mod, Nat.mod_mod, ← Nat.mul_mod, Nat.mul_add, Nat.add_mod]
theorem add_p_mod (a : Nat) : (a + l25) % l25 = a % l25 := Nat.add_mod_right a l25
theorem mul_p_mod (a : Nat) : a * l25 % l25 = 0 := Nat.mul_mod_left a l25
/-- a new variable, and what goes into it -/
theorem newly (w : World) (o : Obj) (cs : Array Value) : Below w.heap.size w ((w.alloc o).setRow w.heap.size cs) := below_rowSet ((Below.refl _ w).alloc (Nat.le_refl _) o) (Nat.le_refl _) cs
theorem newly_lies (w : World) (t : TypeId) (cs cs' : Array Value) : Lies ((w.alloc (.cells cs t)).setRow w.heap.size cs') w.heap.size t cs' := (Lies.new w t cs).row _

abbrev oA : Array Value := #[.int .u64 6346243789798364141, .int .u64 1503914060200516822, .int .u64 0, .int .u64 1152921504606846976]
theorem fe_l25 : fe l25 = .agg oA := by unfold fe feA; rfl
theorem fe_one : fe 1 = .agg #[.int .u64 1, .int .u64 0, .int .u64 0, .int .u64 0] := fe_word 1 (by decide)
end Go.Proofs.YtknpgijapbkebaaDoor.F
