/- The reference's Quoted. -/
import Derived.Test.YtnloimanklkigaaDoorVText
import Derived.Test.YtnloimanklkigaaDoorBase
import Derived.Deep.AppendLies
import Derived.BigQuiet
import Derived.Laws.OwnMore
namespace Go.Proofs.YtnloimanklkigaaDoor.V
open Go.RowKit Go.Sort
set_option maxRecDepth 100000

theorem take_esc {l : List UInt8} {k : Nat} (h : k < l.length) : escL (l.take (k + 1)) = escL (l.take k) ++ (if l[k] = 34 ∨ l[k] = 92 then [92, l[k]] else [l[k]]) := by
  rw [List.take_succ_eq_append_getElem h, escL_snoc]
theorem esc_len : ∀ l : List UInt8, (escL l).length ≤ 2 * l.length := by
  intro l
  induction l with
  | nil => simp [escL]
  | cons c l ih =>
    rw [escL, List.length_append, List.length_cons]
    split
    · simp; omega
    · simp; omega
theorem quot_row {w : World} {B n : Nat} {v : Value} {acc : List UInt8} {x : Int} {c : UInt8} (hx : x = c.toNat) (hn : n = acc.length) (hown : w.ownsRow B 5 1 v (n + 1) (Lib.byteCells acc ++ #[Value.int .u8 x].toList)) : w.ownsRow B 5 1 v (acc ++ [c]).length (Lib.byteCells (acc ++ [c])) := by
  subst hx hn
  rw [Lib.byteCells_append, List.length_append]
  exact hown

theorem quot_row2 {w : World} {B : Nat} {v : Value} {acc : List UInt8} {x : Int} {c : UInt8} (hx : x = c.toNat) (hown : w.ownsRow B 5 1 v (acc.length + 1 + 1) (Lib.byteCells acc ++ #[Value.int .u8 92].toList ++ #[Value.int .u8 x].toList)) : w.ownsRow B 5 1 v (acc ++ [92] ++ [c]).length (Lib.byteCells (acc ++ [92] ++ [c])) := by
  subst hx
  rw [Lib.byteCells_append, Lib.byteCells_append, List.length_append, List.length_append]
  exact hown

end Go.Proofs.YtnloimanklkigaaDoor.V
