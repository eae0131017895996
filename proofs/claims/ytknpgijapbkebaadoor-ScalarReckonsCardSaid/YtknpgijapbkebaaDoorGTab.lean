/- What the program's own variables hold while the scalars' functions are called. -/
import Derived.Test.YtknpgijapbkebaaDoorGFe
import Derived.Test.YtknpgijapbkebaaDoorGOrder
namespace Go.Proofs.YtknpgijapbkebaaDoor.F
open Go.RowKit

/-- the variable that holds L does -/
def Tab (w : World) : Prop := ∀ i, i < 4 → w.cell? ⟨0, i, none⟩ = some (w64 (wordN l25 i))
theorem Tab.on {w w' : World} (h : Tab w) (hb : Below w.heap.size w w') : Tab w' := fun i hi => by
  have h1 := h i hi
  exact (hb.cell (p := ⟨0, i, none⟩) (World.block_lt_of_cell? w _ h1)).trans h1
end Go.Proofs.YtknpgijapbkebaaDoor.F
