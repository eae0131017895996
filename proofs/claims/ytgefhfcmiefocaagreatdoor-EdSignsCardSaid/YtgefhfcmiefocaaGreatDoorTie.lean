/-
  DERIVED. GIVEN WITH THE SEED: THE PROGRAM's TIES (one call each: nine closed facts by the kernel) AND EACH ROW's TIE, after the 31st guide's Derived/Test/Toyas{Tie, Card}.lean. No idea stands in it: it is a product of the set-up. Laid BY PROGRAM, IN A SANDBOX (cutbox-door.mjs). By AI agents, Wed Nov 11 2026. No macro, syntax, notation, axiom, sorry.
-/
import Derived.Test.YtgefhfcmiefocaaGreatDoorRows
import Derived.LaidByTextLater
import Derived.SevenTiedAt
import Derived.LaidSub
import Derived.LaidOnce
namespace Go.Proofs.YtgefhfcmiefocaaGreatDoor
open Go
set_option maxRecDepth 100000
theorem seatTie1 : Tryz.prog.laidByTextLater [("imprimatur/field.rootOfMinusOne", Rows.laid_imprimatur_field_rootOfMinusOne), ("imprimatur/field.prime", Rows.laid_imprimatur_field_prime), ("imprimatur/point.d", Rows.laid_imprimatur_point_d), ("imprimatur/point.baseX", Rows.laid_imprimatur_point_baseX), ("imprimatur/point.baseY", Rows.laid_imprimatur_point_baseY), ("imprimatur/scalar.order", Rows.laid_imprimatur_scalar_order), ("imprimatur/sha512.squareRoots", Rows.laid_imprimatur_sha512_squareRoots), ("imprimatur/sha512.cubeRoots", Rows.laid_imprimatur_sha512_cubeRoots)] [.data, .data, .data, .data, .data, .data, .data, .data] true :=
  Program.laidByTextLater_by_one 49 8 81 (by kernel_rfl) (by kernel_rfl) (by kernel_rfl) (by kernel_rfl) (by kernel_rfl) (by kernel_rfl) (fun _ _ => by kernel_rfl)
theorem noOwnUnsafe : Tryz.pinned.checked.prog.headLifts.contains "ownunsafe" = false := by kernel_rfl
theorem tie : Tryz.prog.laidByTextLater [("imprimatur/field.prime", Rows.laid_imprimatur_field_prime), ("imprimatur/point.d", Rows.laid_imprimatur_point_d), ("imprimatur/point.baseX", Rows.laid_imprimatur_point_baseX), ("imprimatur/point.baseY", Rows.laid_imprimatur_point_baseY), ("imprimatur/scalar.order", Rows.laid_imprimatur_scalar_order), ("imprimatur/sha512.squareRoots", Rows.laid_imprimatur_sha512_squareRoots), ("imprimatur/sha512.cubeRoots", Rows.laid_imprimatur_sha512_cubeRoots)] [.data, .data, .data, .data, .data, .data, .data] true :=
  Program.laidByTextLater.sub seatTie1 ["imprimatur/field.prime", "imprimatur/point.d", "imprimatur/point.baseX", "imprimatur/point.baseY", "imprimatur/scalar.order", "imprimatur/sha512.squareRoots", "imprimatur/sha512.cubeRoots"] (by kernel_rfl) (by kernel_rfl)
theorem edSigns_row_tie : Rows.edSignsRow.laidByTextAt .later Tryz.pinned [.data, .data, .data, .data, .data, .data, .data] true :=
  OpenClaim.laidByTextAt_later rfl rfl tie noOwnUnsafe
theorem tie2 : Tryz.prog.laidByTextLater [("imprimatur/field.rootOfMinusOne", Rows.laid_imprimatur_field_rootOfMinusOne), ("imprimatur/field.prime", Rows.laid_imprimatur_field_prime), ("imprimatur/point.d", Rows.laid_imprimatur_point_d), ("imprimatur/point.baseX", Rows.laid_imprimatur_point_baseX), ("imprimatur/point.baseY", Rows.laid_imprimatur_point_baseY), ("imprimatur/scalar.order", Rows.laid_imprimatur_scalar_order), ("imprimatur/sha512.squareRoots", Rows.laid_imprimatur_sha512_squareRoots), ("imprimatur/sha512.cubeRoots", Rows.laid_imprimatur_sha512_cubeRoots)] [.data, .data, .data, .data, .data, .data, .data, .data] true :=
  Program.laidByTextLater.sub seatTie1 ["imprimatur/field.rootOfMinusOne", "imprimatur/field.prime", "imprimatur/point.d", "imprimatur/point.baseX", "imprimatur/point.baseY", "imprimatur/scalar.order", "imprimatur/sha512.squareRoots", "imprimatur/sha512.cubeRoots"] (by kernel_rfl) (by kernel_rfl)
theorem edVerifies_row_tie : Rows.edVerifiesRow.laidByTextAt .later Tryz.pinned [.data, .data, .data, .data, .data, .data, .data, .data] true :=
  OpenClaim.laidByTextAt_later rfl rfl tie2 noOwnUnsafe
theorem edSignsUpto_row_tie : Rows.edSignsUptoRow.laidByTextAt .later Tryz.pinned [.data, .data, .data, .data, .data, .data, .data] true :=
  OpenClaim.laidByTextAt_later rfl rfl tie noOwnUnsafe
theorem edVerifiesUpto_row_tie : Rows.edVerifiesUptoRow.laidByTextAt .later Tryz.pinned [.data, .data, .data, .data, .data, .data, .data, .data] true :=
  OpenClaim.laidByTextAt_later rfl rfl tie2 noOwnUnsafe
end Go.Proofs.YtgefhfcmiefocaaGreatDoor
