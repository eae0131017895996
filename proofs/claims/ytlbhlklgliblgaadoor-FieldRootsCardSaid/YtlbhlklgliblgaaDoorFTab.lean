/- What the program's own variables hold while the field's functions are called. -/
import Derived.Test.YtlbhlklgliblgaaDoorFFe
import Derived.Test.YtlbhlklgliblgaaDoorFWords
namespace Go.Proofs.YtlbhlklgliblgaaDoor.F
open Go.RowKit

/-- the variable that holds p does -/
def Tab (w : World) : Prop := ∀ i, i < 4 → w.cell? ⟨0, i, none⟩ = some (w64 (wordN p25 i))
theorem Tab.on {w w' : World} (h : Tab w) (hb : Below w.heap.size w w') : Tab w' := fun i hi => by
  have h1 := h i hi
  exact (hb.cell (p := ⟨0, i, none⟩) (World.block_lt_of_cell? w _ h1)).trans h1
/-- .. and the one that holds a root of -1 -/
def TabR (w : World) : Prop := ∀ i, i < 4 → w.cell? ⟨1, i, none⟩ = some (w64 (wordN i25 i))
theorem TabR.on {w w' : World} (h : TabR w) (hb : Below w.heap.size w w') : TabR w' := fun i hi => by
  have h1 := h i hi
  exact (hb.cell (p := ⟨1, i, none⟩) (World.block_lt_of_cell? w _ h1)).trans h1
def Tab2 (w : World) : Prop := Tab w ∧ TabR w
theorem Tab2.on {w w' : World} (h : Tab2 w) (hb : Below w.heap.size w w') : Tab2 w' := ⟨h.1.on hb, h.2.on hb⟩
end Go.Proofs.YtlbhlklgliblgaaDoor.F
