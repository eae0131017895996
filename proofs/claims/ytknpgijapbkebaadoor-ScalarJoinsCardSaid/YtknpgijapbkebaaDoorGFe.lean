/- The scalars' own type of numbers, of four words. -/
import Derived.Test.YtknpgijapbkebaaDoorFMem
namespace Go.Proofs.YtknpgijapbkebaaDoor.F
open Go.RowKit

theorem rowFe : RowT Tryd.prog 24 4 := ⟨⟨_, Tryd.underlying24, rfl⟩, by kernel_rfl⟩
end Go.Proofs.YtknpgijapbkebaaDoor.F
