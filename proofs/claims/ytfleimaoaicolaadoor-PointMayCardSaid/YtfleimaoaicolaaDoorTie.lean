/-
  DERIVED. GIVEN WITH THE SEED: THE PROGRAM's TIES (one call each: nine closed facts by the kernel) AND EACH ROW's TIE, after the 31st guide's Derived/Test/Toyas{Tie, Card}.lean. No idea stands in it: it is a product of the set-up. Laid BY PROGRAM, IN A SANDBOX (cutbox-door.mjs). By AI agents, Wed Nov 11 2026. No macro, syntax, notation, axiom, sorry.
-/
import Derived.Test.YtfleimaoaicolaaDoorRows
import Derived.LaidByTextLater
import Derived.SevenTiedAt
import Derived.LaidSub
import Derived.LaidOnce
namespace Go.Proofs.YtfleimaoaicolaaDoor
open Go
set_option maxRecDepth 100000
theorem seatTie1 : Tryd.prog.laidByTextLater [("imprimatur/field.rootOfMinusOne", Rows.laid_imprimatur_field_rootOfMinusOne), ("imprimatur/field.prime", Rows.laid_imprimatur_field_prime), ("imprimatur/point.d", Rows.laid_imprimatur_point_d), ("imprimatur/point.baseX", Rows.laid_imprimatur_point_baseX), ("imprimatur/point.baseY", Rows.laid_imprimatur_point_baseY), ("imprimatur/scalar.order", Rows.laid_imprimatur_scalar_order)] [.data, .data, .data, .data, .data, .data] true :=
  Program.laidByTextLater_by_one 39 8 5 (by kernel_rfl) (by kernel_rfl) (by kernel_rfl) (by kernel_rfl) (by kernel_rfl) (by kernel_rfl) (fun _ _ => by kernel_rfl)
theorem noOwnUnsafe : Tryd.pinned.checked.prog.headLifts.contains "ownunsafe" = false := by kernel_rfl
theorem tie : Tryd.prog.laidByTextLater [("imprimatur/field.prime", Rows.laid_imprimatur_field_prime), ("imprimatur/point.d", Rows.laid_imprimatur_point_d), ("imprimatur/point.baseX", Rows.laid_imprimatur_point_baseX), ("imprimatur/point.baseY", Rows.laid_imprimatur_point_baseY)] [.data, .data, .data, .data] true :=
  Program.laidByTextLater.sub seatTie1 ["imprimatur/field.prime", "imprimatur/point.d", "imprimatur/point.baseX", "imprimatur/point.baseY"] (by kernel_rfl) (by kernel_rfl)
theorem pointMay_row_tie : Rows.pointMayRow.laidByTextAt .later Tryd.pinned [.data, .data, .data, .data] true :=
  OpenClaim.laidByTextAt_later rfl rfl tie noOwnUnsafe
theorem pointAdds_row_tie : Rows.pointAddsRow.laidByTextAt .later Tryd.pinned [.data, .data, .data, .data] true :=
  OpenClaim.laidByTextAt_later rfl rfl tie noOwnUnsafe
theorem pointGroup_row_tie : Rows.pointGroupRow.laidByTextAt .later Tryd.pinned [.data, .data, .data, .data] true :=
  OpenClaim.laidByTextAt_later rfl rfl tie noOwnUnsafe
theorem tie2 : Tryd.prog.laidByTextLater [("imprimatur/field.rootOfMinusOne", Rows.laid_imprimatur_field_rootOfMinusOne), ("imprimatur/field.prime", Rows.laid_imprimatur_field_prime), ("imprimatur/point.d", Rows.laid_imprimatur_point_d), ("imprimatur/point.baseX", Rows.laid_imprimatur_point_baseX), ("imprimatur/point.baseY", Rows.laid_imprimatur_point_baseY)] [.data, .data, .data, .data, .data] true :=
  Program.laidByTextLater.sub seatTie1 ["imprimatur/field.rootOfMinusOne", "imprimatur/field.prime", "imprimatur/point.d", "imprimatur/point.baseX", "imprimatur/point.baseY"] (by kernel_rfl) (by kernel_rfl)
theorem pointBytes_row_tie : Rows.pointBytesRow.laidByTextAt .later Tryd.pinned [.data, .data, .data, .data, .data] true :=
  OpenClaim.laidByTextAt_later rfl rfl tie2 noOwnUnsafe
theorem pointTimes_row_tie : Rows.pointTimesRow.laidByTextAt .later Tryd.pinned [.data, .data, .data, .data, .data] true :=
  OpenClaim.laidByTextAt_later rfl rfl tie2 noOwnUnsafe
theorem pointSigns_row_tie : Rows.pointSignsRow.laidByTextAt .later Tryd.pinned [.data, .data, .data, .data, .data] true :=
  OpenClaim.laidByTextAt_later rfl rfl tie2 noOwnUnsafe
theorem tie3 : Tryd.prog.laidByTextLater [("imprimatur/field.prime", Rows.laid_imprimatur_field_prime), ("imprimatur/point.d", Rows.laid_imprimatur_point_d), ("imprimatur/point.baseX", Rows.laid_imprimatur_point_baseX), ("imprimatur/point.baseY", Rows.laid_imprimatur_point_baseY), ("imprimatur/scalar.order", Rows.laid_imprimatur_scalar_order)] [.data, .data, .data, .data, .data] true :=
  Program.laidByTextLater.sub seatTie1 ["imprimatur/field.prime", "imprimatur/point.d", "imprimatur/point.baseX", "imprimatur/point.baseY", "imprimatur/scalar.order"] (by kernel_rfl) (by kernel_rfl)
theorem pointLinear_row_tie : Rows.pointLinearRow.laidByTextAt .later Tryd.pinned [.data, .data, .data, .data, .data] true :=
  OpenClaim.laidByTextAt_later rfl rfl tie3 noOwnUnsafe
theorem pointMayUpto_row_tie : Rows.pointMayUptoRow.laidByTextAt .later Tryd.pinned [.data, .data, .data, .data] true :=
  OpenClaim.laidByTextAt_later rfl rfl tie noOwnUnsafe
theorem pointAddsUpto_row_tie : Rows.pointAddsUptoRow.laidByTextAt .later Tryd.pinned [.data, .data, .data, .data] true :=
  OpenClaim.laidByTextAt_later rfl rfl tie noOwnUnsafe
theorem pointBytesUpto_row_tie : Rows.pointBytesUptoRow.laidByTextAt .later Tryd.pinned [.data, .data, .data, .data, .data] true :=
  OpenClaim.laidByTextAt_later rfl rfl tie2 noOwnUnsafe
theorem pointGroupUpto_row_tie : Rows.pointGroupUptoRow.laidByTextAt .later Tryd.pinned [.data, .data, .data, .data] true :=
  OpenClaim.laidByTextAt_later rfl rfl tie noOwnUnsafe
theorem pointTimesUpto_row_tie : Rows.pointTimesUptoRow.laidByTextAt .later Tryd.pinned [.data, .data, .data, .data, .data] true :=
  OpenClaim.laidByTextAt_later rfl rfl tie2 noOwnUnsafe
theorem pointSignsUpto_row_tie : Rows.pointSignsUptoRow.laidByTextAt .later Tryd.pinned [.data, .data, .data, .data, .data] true :=
  OpenClaim.laidByTextAt_later rfl rfl tie2 noOwnUnsafe
theorem pointLinearUpto_row_tie : Rows.pointLinearUptoRow.laidByTextAt .later Tryd.pinned [.data, .data, .data, .data, .data] true :=
  OpenClaim.laidByTextAt_later rfl rfl tie3 noOwnUnsafe
end Go.Proofs.YtfleimaoaicolaaDoor
