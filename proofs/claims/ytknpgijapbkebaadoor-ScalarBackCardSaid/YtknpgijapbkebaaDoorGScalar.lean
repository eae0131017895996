/- The scalars' functions keep what the statements' walks ask of them. -/
import Derived.Test.YtknpgijapbkebaaDoorGParse
namespace Go.Proofs.YtknpgijapbkebaaDoor.F
open Go.RowKit

theorem scalar_ok : ScalarOk where
  least := fun n w hn hT => sLeast_any n w hn hT
  add := fun m n w hm hn hT => sAdd_any m n w hm hn hT
  mul := fun m n w hm hn hT => sMul_any m n w hm hn hT
  wide := fun s w _ hT => sWide_any s w hT
  bytes := fun n w hn hT => sBytes_any n w hn hT
  parse := fun s w _ hT => sParse_any s w hT
end Go.Proofs.YtknpgijapbkebaaDoor.F
