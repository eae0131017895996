/- A contract that ends in 'Below', met within a region that draws its order. -/
import Derived.Test.YtaliafeekadecaaDoorVMem
import Derived.Test.YtaliafeekadecaaDoorVLies
import Derived.Lib.SmallJoins
import Derived.Lib.QuietBelow
namespace Go.Proofs.YtaliafeekadecaaDoor.V
open Go.RowKit Go.Sort
theorem reg {f : FuncId} {args : Array Value} {W : World} {v : Value} (h : ∀ w, Below W.heap.size W w → Calls Tryd.prog f args w fun e w' => e = .returned v ∧ Below w.heap.size w w') :
    ∀ d os, Calls Tryd.prog f args (grow (redrawn W d) os) fun e w'' => e = .returned v ∧ ∃ p : Regrown, w'' = grow (redrawn W p.d) p.os := fun d os => Calls.regrown_of (h _ (below_regrown W d os))
end Go.Proofs.YtaliafeekadecaaDoor.V
