/- The reference's Text. -/
import Derived.Test.YtnloimanklkigaaDoorVText
import Derived.Test.YtnloimanklkigaaDoorBase
namespace Go.Proofs.YtnloimanklkigaaDoor.V
open Go.RowKit Go.Sort
set_option maxRecDepth 100000

theorem all_drop {p : UInt8 → Bool} {l : List UInt8} {k : Nat} (h : k < l.length) : (l.drop k).all p = (p l[k] && (l.drop (k + 1)).all p) := by
  rw [List.drop_eq_getElem_cons h, List.all_cons]
end Go.Proofs.YtnloimanklkigaaDoor.V
