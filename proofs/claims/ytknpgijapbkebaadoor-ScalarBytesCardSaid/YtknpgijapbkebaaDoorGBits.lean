/- The contracts of the library's calls on whole words: a sum with a carry, a difference with a borrow. -/
import Derived.Test.YtknpgijapbkebaaDoorGOk
import Derived.Laws.Externs
namespace Go.Proofs.YtknpgijapbkebaaDoor.F
set_option maxRecDepth 100000
open Go.RowKit

theorem add64_run (x y c : Nat) (hc : c ≤ 1) (w : World) : (callFunc 35 #[.int .u64 (x : Int), .int .u64 (y : Int), .int .u64 (c : Int)]).run Tryd.prog w = .ok (.value (.tuple #[w64 ((x + y + c) % 18446744073709551616), w64 ((x + y + c) / 18446744073709551616)])) w := by
  rw [run_callFunc_extern Tryd.func35 (by kernel_rfl) (by kernel_rfl) (by kernel_rfl) (e := add64Entry) (by kernel_rfl), run_add64 x y c (by omega) (by omega) (by omega) (by omega)]
  simp only [Result.andThen]
  congr 5 <;> omega
theorem sub64_run (x y c : Nat) (hc : c ≤ 1) (w : World) : (callFunc 44 #[.int .u64 (x : Int), .int .u64 (y : Int), .int .u64 (c : Int)]).run Tryd.prog w = .ok (.value (.tuple #[w64 ((x + 18446744073709551616 - y - c) % 18446744073709551616), w64 (if x < y + c then 1 else 0)])) w := by
  have hr : ∀ w, ((Extern.MathBitsCarry.rows[1]'(by decide)).2 #[.int .u64 (x : Int), .int .u64 (y : Int), .int .u64 (c : Int)]).run Tryd.prog w = .ok (.tuple #[w64 ((x + 18446744073709551616 - y - c) % 18446744073709551616), w64 (if x < y + c then 1 else 0)]) w := fun w => by
    have : c = 0 ∨ c = 1 := by omega
    rcases this with rfl | rfl <;> rfl
  rw [run_callFunc_extern Tryd.func44 (by kernel_rfl) (by kernel_rfl) (by kernel_rfl) (e := (Extern.MathBitsCarry.rows[1]'(by decide)).2) (by kernel_rfl), hr]
  rfl
end Go.Proofs.YtknpgijapbkebaaDoor.F
