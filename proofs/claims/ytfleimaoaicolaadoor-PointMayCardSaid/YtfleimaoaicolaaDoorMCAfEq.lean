/- Two points by x and y are compared. -/
import Derived.Test.YtfleimaoaicolaaDoorLot12
import Derived.Test.YtfleimaoaicolaaDoorMCSum
namespace Go.Proofs.YtfleimaoaicolaaDoor.C
open Go.RowKit Go.Sort Go.Proofs.YtfleimaoaicolaaDoor.F
set_option maxRecDepth 100000

theorem eq_af (w : World) (a0 a1 a2 a3 b0 b1 b2 b3 c0 c1 c2 c3 d0 d1 d2 d3 : Int) :
    (Op.equalIn 10000 31 (.agg #[.int .u64 a0, .int .u64 a1, .int .u64 a2, .int .u64 a3, .int .u64 b0, .int .u64 b1, .int .u64 b2, .int .u64 b3]) (.agg #[.int .u64 c0, .int .u64 c1, .int .u64 c2, .int .u64 c3, .int .u64 d0, .int .u64 d1, .int .u64 d2, .int .u64 d3])).run Tryd.prog w = .ok ((a0 == c0 && a1 == c1 && a2 == c2 && a3 == c3) && (b0 == d0 && b1 == d1 && b2 == d2 && b3 == d3)) w := by
  have h0 := eq_four 9997 w a0 a1 a2 a3 c0 c1 c2 c3
  have h1 := eq_four 9997 w b0 b1 b2 b3 d0 d1 d2 d3
  rw [run_equalIn_agg (P := Tryd.prog) w 9999 31 _ _ (by kernel_rfl) (by kernel_rfl)]
  generalize (a0 == c0 && a1 == c1 && a2 == c2 && a3 == c3) = A at *
  generalize (b0 == d0 && b1 == d1 && b2 == d2 && b3 == d3) = B at *
  simp only [Program.fieldsOf, Tryd.underlying31]
  cases A <;> cases B <;> simp [go_sem, h0, h1]
theorem eql_af (w : World) (x y u v : Nat) (hx : x < K256) (hy : y < K256) (hu : u < K256) (hv : v < K256) : (binOp .eql 31 (af x y) (af u v)).run Tryd.prog w = .ok (.bool (decide (x = u) && decide (y = v))) w := by
  rw [← fe_same x u hx hu, ← fe_same y v hy hv, run_eql_struct]
  exact (congrArg (fun r => Result.andThen r _) (eq_af w _ _ _ _ _ _ _ _ _ _ _ _ _ _ _ _)).trans rfl
theorem neq_af (w : World) (x y : Nat) (hx : x < K256) (hy : y < K256) : (binOp .neq 31 (af x y) (af x y)).run Tryd.prog w = .ok (.bool false) w := by
  have h1 := fe_same x x hx hx
  have h2 := fe_same y y hy hy
  rw [decide_eq_true rfl] at h1 h2
  rw [run_neq_struct]
  refine (congrArg (fun r => Result.andThen r _) (eq_af w _ _ _ _ _ _ _ _ _ _ _ _ _ _ _ _)).trans ?_
  rw [h1, h2]
  rfl
theorem neq_af_exec {o : Oper} {a : Act} {p q : Operand} {r : TypeId} (ho : o.op = .binOp .neq 31 p q r) (x y : Nat) (hx : x < K256) (hy : y < K256) (hp : a.eval p = af x y) (hq : a.eval q = af x y) (w : World) :
    (execOp a.eval o).run Tryd.prog w = .ok (.value (.bool false)) w := by
  unfold execOp
  simp only [ho, hp, hq, Sem.run_bind, run_eqGuard_agg (hm := Tryd.eqGuardType31), Result.andThen_ok, neq_af w x y hx hy, Sem.run_pure]
theorem eql_af_exec {o : Oper} {a : Act} {p q : Operand} {r : TypeId} (ho : o.op = .binOp .eql 31 p q r) (x y u v : Nat) (hx : x < K256) (hy : y < K256) (hu : u < K256) (hv : v < K256) (hp : a.eval p = af x y) (hq : a.eval q = af u v) (w : World) :
    (execOp a.eval o).run Tryd.prog w = .ok (.value (.bool (decide (x = u) && decide (y = v)))) w := by
  unfold execOp
  simp only [ho, hp, hq, Sem.run_bind, run_eqGuard_agg (hm := Tryd.eqGuardType31), Result.andThen_ok, eql_af w x y u v hx hy hu hv, Sem.run_pure]
end Go.Proofs.YtfleimaoaicolaaDoor.C
