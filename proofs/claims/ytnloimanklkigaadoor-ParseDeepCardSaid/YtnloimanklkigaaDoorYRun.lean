/- What single operations give. -/
import Derived.Test.YtnloimanklkigaaDoorYHere
namespace Go.Proofs.YtnloimanklkigaaDoor.V
set_option maxRecDepth 100000
open Go.RowKit

section
variable {a : Act} {d : Option Tmp} {x y z : Operand} {t' : TypeId} {pos : String} {after : Array Edge} {gd : Option (Nat × Bool)} {w : World}
theorem run_ldI (p : Addr) (v : Value) (hc : w.cell? p = some v) (hx : a.eval x = .pointer (some p)) : (execOp a.eval ⟨d, .load 3 x, t', pos, after, gd⟩).run Tryd.prog w = .ok (.value v) w := by
  unfold execOp
  simp only [hx]
  simp [Instr.loadAt, go_sem, hc]
theorem run_ldS (p : Addr) (v : Value) (hc : w.cell? p = some v) (hx : a.eval x = .pointer (some p)) : (execOp a.eval ⟨d, .load 9 x, t', pos, after, gd⟩).run Tryd.prog w = .ok (.value v) w := by
  unfold execOp
  simp only [hx]
  simp [Instr.loadAt, go_sem, hc]
theorem run_ldR (p : Addr) (v : Value) (hc : w.cell? p = some v) (hx : a.eval x = .pointer (some p)) : (execOp a.eval ⟨d, .load 22 x, t', pos, after, gd⟩).run Tryd.prog w = .ok (.value v) w := by
  unfold execOp
  simp only [hx]
  simp [Instr.loadAt, go_sem, hc]
theorem run_ldK (p : Addr) (v : Value) (hc : w.cell? p = some v) (hx : a.eval x = .pointer (some p)) : (execOp a.eval ⟨d, .load 23 x, t', pos, after, gd⟩).run Tryd.prog w = .ok (.value v) w := by
  unfold execOp
  simp only [hx]
  simp [Instr.loadAt, go_sem, hc]
theorem run_cutS (s : ByteArray) (p q : Nat) (h : p ≤ q) (hq : q ≤ s.size) (hx : a.eval x = .string s) (hy : a.eval y = .int .i64 p) (hz : a.eval z = .int .i64 q) :
    (execOp a.eval ⟨d, .slice 9 x (some y) (some z) none, t', pos, after, gd⟩).run Tryd.prog w = .ok (.value (.string (s.extract p q))) w := by
  unfold execOp
  simp only [hx, hy, hz, Option.map_some, Option.map_none]
  simp [Instr.sliceAt, run_underlying Tryd.underlying9, go_sem, h, hq]
end
end Go.Proofs.YtnloimanklkigaaDoor.V
