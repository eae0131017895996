/- The field's functions keep what the statements' walks ask of them. -/
import Derived.Test.YtlbhlklgliblgaaDoorFText
namespace Go.Proofs.YtlbhlklgliblgaaDoor.F
open Go.RowKit

theorem field_ok : FieldOk where
  of := fun n w hn _ => of_any n w hn
  least := fun n w hn hT => least_any n w hn hT
  add := fun m n w hm hn hT => add_any m n w hm hn hT
  sub := fun m n w hm hn hT => sub_any m n w hm hn hT
  mul := fun m n w hm hn hT => mul_any m n w hm hn hT
  inv := fun n w hn hT => inv_any n w hn hT
  sqrt := ⟨sqrtR, sqrtB, fun n w hn hT => sqrt_any n w hn hT, fun n _ => sqrt_spec n⟩
  bytes := fun n w hn hT => fBytes_any n w hn hT
  parse := fun s w _ hT => fParse_any s w hT
end Go.Proofs.YtlbhlklgliblgaaDoor.F
