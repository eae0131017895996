/-
  NARROWER THAN 'FOR EVERY INPUT', by the rows' own cells (each row's printed sentence says how): PointMay: laid · PointAdds: laid · PointBytes: laid · PointGroup: laid · PointTimes: laid · PointSigns: laid · PointLinear: laid.
  DERIVED. THE GIVEN ROWS OF THIS SEAT. 7 by the template 'for every input the law returns true; each argument reads behind the call as it read before'; 0 by the template 'total and deterministic' (their statements: YtfleimaoaicolaaDoorTotals.lean).
  GIVEN WITH THE SEED: the statements are not yours to turn. If you find one false, say at which input.
  Laid BY PROGRAM, IN A SANDBOX (cutbox-rows.mjs): the forced cells as the released guide's own fill.sh prints them over the translation 3b7d5c0c65f5cb09… (all of the seat's roots in one cut). By AI agents, Wed Nov 11 2026. No macro, syntax, notation, axiom, sorry.
-/
import Derived.Test.YtfleimaoaicolaaDoorChecked
import GoSem.Claim
import GoSem.ClaimJoined
import GoSem.ClaimMapViews
import Derived.JoinedTies
import Derived.KernelRfl
namespace Go.Proofs.YtfleimaoaicolaaDoor
/- THE CELL 'sum', in the pinned program and in every row, IS THE sha256 OF THE DUMP (.gsa) THAT YtfleimaoaicolaaDoorProg.lean LOADS. Nothing in Lean hashes anything: it is a label: what it is worth is what the hold of that sum in a sandbox is worth. -/
noncomputable def Tryd.pinned : Pinned := { name := "ytfleimaoaicolaadoor", sum := "3b7d5c0c65f5cb0942e3a36f6cdfab64e2dfaad09e137bfd542ccbf57db01337", checked := Tryd.checked }
namespace Rows
def none {H : Type} : Left H := { results := [], args := [] }

/- WHAT THE LISTED PACKAGE-LEVEL VARIABLES READ AS WHEN THE CALL BEGINS. Each datum BY PROGRAM (the guide's laid-datum.mjs) off the statement by which the dump's own 'gosem.cut.vars' lays the variable. In a bare row this is a premise. The card (YtfleimaoaicolaaDoorCards.lean) ties it to the program's text. -/
def laid_imprimatur_field_prime {H : Type} : DataW H := .agg [.lit (.int .u64 18446744073709551597), .lit (.int .u64 18446744073709551615), .lit (.int .u64 18446744073709551615), .lit (.int .u64 9223372036854775807)]
def laid_imprimatur_point_d {H : Type} : DataW H := .agg [.lit (.int .u64 8496970652267935907), .lit (.int .u64 31536524315187371), .lit (.int .u64 10144147576115030168), .lit (.int .u64 5909686906226998899)]
def laid_imprimatur_point_baseX {H : Type} : DataW H := .agg [.lit (.int .u64 14507833142362363162), .lit (.int .u64 7578651490590762930), .lit (.int .u64 13881468655802702940), .lit (.int .u64 2407515759118799870)]
def laid_imprimatur_point_baseY {H : Type} : DataW H := .agg [.lit (.int .u64 7378697629483820632), .lit (.int .u64 7378697629483820646), .lit (.int .u64 7378697629483820646), .lit (.int .u64 7378697629483820646)]
def laid_imprimatur_field_rootOfMinusOne {H : Type} : DataW H := .agg [.lit (.int .u64 14190309331451158704), .lit (.int .u64 3405592160176694392), .lit (.int .u64 3120150775007532967), .lit (.int .u64 3135389899092516619)]
def laid_imprimatur_scalar_order {H : Type} : DataW H := .agg [.lit (.int .u64 6346243789798364141), .lit (.int .u64 1503914060200516822), .lit (.int .u64 0), .lit (.int .u64 1152921504606846976)]

/-- 'imprimaturlaw06.PointMay': WHATEVER THE INPUT: true; the input reads as it did. -/
def pointMaySpec : ChangeSpec := { name := "pointMay", fn := fun _ => fun
  | [d1, d2] => { results := [.lit (.bool true)], args := [d1, d2] }
  | _ => none }
def pointMayRow : OpenClaim := { program := "ytfleimaoaicolaadoor", sum := "3b7d5c0c65f5cb0942e3a36f6cdfab64e2dfaad09e137bfd542ccbf57db01337", func := "imprimatur/imprimaturlaw06.PointMay", spec := "pointMay", inPlace := ["math/bits.Add64", "math/bits.Sub64", "internal/abi.NoEscape", "internal/bytealg.MakeNoZero"], recurses := true, named := ["imprimatur/field.prime", "imprimatur/point.baseX", "imprimatur/point.baseY", "imprimatur/point.d"], apart := false, laid := [("imprimatur/field.prime", laid_imprimatur_field_prime), ("imprimatur/point.d", laid_imprimatur_point_d), ("imprimatur/point.baseX", laid_imprimatur_point_baseX), ("imprimatur/point.baseY", laid_imprimatur_point_baseY)] }
def PointMaySaid : Prop := pointMayRow.holds Tryd.pinned (OpenSpec.ofChange pointMaySpec)

/-- ITS FALSE NEIGHBOUR: 'it returns false'. Refute it at one input. -/
def pointMayWrong : ChangeSpec := { name := "pointMay", fn := fun _ => fun
  | [d1, d2] => { results := [.lit (.bool false)], args := [d1, d2] }
  | _ => none }
def PointMayWrongFalsely : Prop := pointMayRow.holds Tryd.pinned (OpenSpec.ofChange pointMayWrong)

/-- 'imprimaturlaw06.PointAdds': WHATEVER THE INPUT: true; the input reads as it did. -/
def pointAddsSpec : ChangeSpec := { name := "pointAdds", fn := fun _ => fun
  | [d1, d2, d3] => { results := [.lit (.bool true)], args := [d1, d2, d3] }
  | _ => none }
def pointAddsRow : OpenClaim := { program := "ytfleimaoaicolaadoor", sum := "3b7d5c0c65f5cb0942e3a36f6cdfab64e2dfaad09e137bfd542ccbf57db01337", func := "imprimatur/imprimaturlaw06.PointAdds", spec := "pointAdds", inPlace := ["math/bits.Add64", "math/bits.Sub64", "internal/abi.NoEscape", "internal/bytealg.MakeNoZero"], recurses := true, named := ["imprimatur/point.baseX", "imprimatur/point.baseY", "imprimatur/field.prime", "imprimatur/point.d"], apart := false, laid := [("imprimatur/field.prime", laid_imprimatur_field_prime), ("imprimatur/point.d", laid_imprimatur_point_d), ("imprimatur/point.baseX", laid_imprimatur_point_baseX), ("imprimatur/point.baseY", laid_imprimatur_point_baseY)] }
def PointAddsSaid : Prop := pointAddsRow.holds Tryd.pinned (OpenSpec.ofChange pointAddsSpec)

/-- ITS FALSE NEIGHBOUR: 'it returns false'. Refute it at one input. -/
def pointAddsWrong : ChangeSpec := { name := "pointAdds", fn := fun _ => fun
  | [d1, d2, d3] => { results := [.lit (.bool false)], args := [d1, d2, d3] }
  | _ => none }
def PointAddsWrongFalsely : Prop := pointAddsRow.holds Tryd.pinned (OpenSpec.ofChange pointAddsWrong)

/-- 'imprimaturlaw06.PointBytes': WHATEVER THE INPUT: true; the input reads as it did. -/
def pointBytesSpec : ChangeSpec := { name := "pointBytes", fn := fun _ => fun
  | [d] => { results := [.lit (.bool true)], args := [d] }
  | _ => none }
def pointBytesRow : OpenClaim := { program := "ytfleimaoaicolaadoor", sum := "3b7d5c0c65f5cb0942e3a36f6cdfab64e2dfaad09e137bfd542ccbf57db01337", func := "imprimatur/imprimaturlaw06.PointBytes", spec := "pointBytes", inPlace := ["math/bits.Sub64", "math/bits.Add64", "internal/abi.NoEscape", "internal/bytealg.MakeNoZero"], recurses := true, named := ["imprimatur/field.prime", "imprimatur/point.d", "imprimatur/field.rootOfMinusOne", "imprimatur/point.baseX", "imprimatur/point.baseY"], apart := false, laid := [("imprimatur/field.rootOfMinusOne", laid_imprimatur_field_rootOfMinusOne), ("imprimatur/field.prime", laid_imprimatur_field_prime), ("imprimatur/point.d", laid_imprimatur_point_d), ("imprimatur/point.baseX", laid_imprimatur_point_baseX), ("imprimatur/point.baseY", laid_imprimatur_point_baseY)] }
def PointBytesSaid : Prop := pointBytesRow.holds Tryd.pinned (OpenSpec.ofChange pointBytesSpec)

/-- ITS FALSE NEIGHBOUR: 'it returns false'. Refute it at one input. -/
def pointBytesWrong : ChangeSpec := { name := "pointBytes", fn := fun _ => fun
  | [d] => { results := [.lit (.bool false)], args := [d] }
  | _ => none }
def PointBytesWrongFalsely : Prop := pointBytesRow.holds Tryd.pinned (OpenSpec.ofChange pointBytesWrong)

/-- 'imprimaturlaw06.PointGroup': WHATEVER THE INPUT: true; the input reads as it did. -/
def pointGroupSpec : ChangeSpec := { name := "pointGroup", fn := fun _ => fun
  | [d1, d2, d3, d4] => { results := [.lit (.bool true)], args := [d1, d2, d3, d4] }
  | _ => none }
def pointGroupRow : OpenClaim := { program := "ytfleimaoaicolaadoor", sum := "3b7d5c0c65f5cb0942e3a36f6cdfab64e2dfaad09e137bfd542ccbf57db01337", func := "imprimatur/imprimaturlaw06.PointGroup", spec := "pointGroup", inPlace := ["math/bits.Add64", "math/bits.Sub64", "internal/abi.NoEscape", "internal/bytealg.MakeNoZero"], recurses := true, named := ["imprimatur/point.baseX", "imprimatur/point.baseY", "imprimatur/field.prime", "imprimatur/point.d"], apart := false, laid := [("imprimatur/field.prime", laid_imprimatur_field_prime), ("imprimatur/point.d", laid_imprimatur_point_d), ("imprimatur/point.baseX", laid_imprimatur_point_baseX), ("imprimatur/point.baseY", laid_imprimatur_point_baseY)] }
def PointGroupSaid : Prop := pointGroupRow.holds Tryd.pinned (OpenSpec.ofChange pointGroupSpec)

/-- ITS FALSE NEIGHBOUR: 'it returns false'. Refute it at one input. -/
def pointGroupWrong : ChangeSpec := { name := "pointGroup", fn := fun _ => fun
  | [d1, d2, d3, d4] => { results := [.lit (.bool false)], args := [d1, d2, d3, d4] }
  | _ => none }
def PointGroupWrongFalsely : Prop := pointGroupRow.holds Tryd.pinned (OpenSpec.ofChange pointGroupWrong)

/-- 'imprimaturlaw06.PointTimes': WHATEVER THE INPUT: true; the input reads as it did. -/
def pointTimesSpec : ChangeSpec := { name := "pointTimes", fn := fun _ => fun
  | [d1, d2] => { results := [.lit (.bool true)], args := [d1, d2] }
  | _ => none }
def pointTimesRow : OpenClaim := { program := "ytfleimaoaicolaadoor", sum := "3b7d5c0c65f5cb0942e3a36f6cdfab64e2dfaad09e137bfd542ccbf57db01337", func := "imprimatur/imprimaturlaw06.PointTimes", spec := "pointTimes", inPlace := ["math/bits.Add64", "math/bits.Sub64", "internal/abi.NoEscape", "internal/bytealg.MakeNoZero"], recurses := true, named := ["imprimatur/point.baseX", "imprimatur/point.baseY", "imprimatur/field.prime", "imprimatur/point.d", "imprimatur/field.rootOfMinusOne"], apart := false, laid := [("imprimatur/field.rootOfMinusOne", laid_imprimatur_field_rootOfMinusOne), ("imprimatur/field.prime", laid_imprimatur_field_prime), ("imprimatur/point.d", laid_imprimatur_point_d), ("imprimatur/point.baseX", laid_imprimatur_point_baseX), ("imprimatur/point.baseY", laid_imprimatur_point_baseY)] }
def PointTimesSaid : Prop := pointTimesRow.holds Tryd.pinned (OpenSpec.ofChange pointTimesSpec)

/-- ITS FALSE NEIGHBOUR: 'it returns false'. Refute it at one input. -/
def pointTimesWrong : ChangeSpec := { name := "pointTimes", fn := fun _ => fun
  | [d1, d2] => { results := [.lit (.bool false)], args := [d1, d2] }
  | _ => none }
def PointTimesWrongFalsely : Prop := pointTimesRow.holds Tryd.pinned (OpenSpec.ofChange pointTimesWrong)

/-- 'imprimaturlaw06.PointSigns': WHATEVER THE INPUT: true; the input reads as it did. -/
def pointSignsSpec : ChangeSpec := { name := "pointSigns", fn := fun _ => fun
  | [d] => { results := [.lit (.bool true)], args := [d] }
  | _ => none }
def pointSignsRow : OpenClaim := { program := "ytfleimaoaicolaadoor", sum := "3b7d5c0c65f5cb0942e3a36f6cdfab64e2dfaad09e137bfd542ccbf57db01337", func := "imprimatur/imprimaturlaw06.PointSigns", spec := "pointSigns", inPlace := ["math/bits.Add64", "math/bits.Sub64", "internal/abi.NoEscape", "internal/bytealg.MakeNoZero"], recurses := true, named := ["imprimatur/point.baseX", "imprimatur/point.baseY", "imprimatur/field.prime", "imprimatur/point.d", "imprimatur/field.rootOfMinusOne"], apart := false, laid := [("imprimatur/field.rootOfMinusOne", laid_imprimatur_field_rootOfMinusOne), ("imprimatur/field.prime", laid_imprimatur_field_prime), ("imprimatur/point.d", laid_imprimatur_point_d), ("imprimatur/point.baseX", laid_imprimatur_point_baseX), ("imprimatur/point.baseY", laid_imprimatur_point_baseY)] }
def PointSignsSaid : Prop := pointSignsRow.holds Tryd.pinned (OpenSpec.ofChange pointSignsSpec)

/-- ITS FALSE NEIGHBOUR: 'it returns false'. Refute it at one input. -/
def pointSignsWrong : ChangeSpec := { name := "pointSigns", fn := fun _ => fun
  | [d] => { results := [.lit (.bool false)], args := [d] }
  | _ => none }
def PointSignsWrongFalsely : Prop := pointSignsRow.holds Tryd.pinned (OpenSpec.ofChange pointSignsWrong)

/-- 'imprimaturlaw06.PointLinear': WHATEVER THE INPUT: true; the input reads as it did. -/
def pointLinearSpec : ChangeSpec := { name := "pointLinear", fn := fun _ => fun
  | [d1, d2] => { results := [.lit (.bool true)], args := [d1, d2] }
  | _ => none }
def pointLinearRow : OpenClaim := { program := "ytfleimaoaicolaadoor", sum := "3b7d5c0c65f5cb0942e3a36f6cdfab64e2dfaad09e137bfd542ccbf57db01337", func := "imprimatur/imprimaturlaw06.PointLinear", spec := "pointLinear", inPlace := ["math/bits.Add64", "math/bits.Sub64", "internal/abi.NoEscape", "internal/bytealg.MakeNoZero"], recurses := true, named := ["imprimatur/point.baseX", "imprimatur/point.baseY", "imprimatur/field.prime", "imprimatur/point.d", "imprimatur/scalar.order"], apart := false, laid := [("imprimatur/field.prime", laid_imprimatur_field_prime), ("imprimatur/point.d", laid_imprimatur_point_d), ("imprimatur/point.baseX", laid_imprimatur_point_baseX), ("imprimatur/point.baseY", laid_imprimatur_point_baseY), ("imprimatur/scalar.order", laid_imprimatur_scalar_order)] }
def PointLinearSaid : Prop := pointLinearRow.holds Tryd.pinned (OpenSpec.ofChange pointLinearSpec)

/-- ITS FALSE NEIGHBOUR: 'it returns false'. Refute it at one input. -/
def pointLinearWrong : ChangeSpec := { name := "pointLinear", fn := fun _ => fun
  | [d1, d2] => { results := [.lit (.bool false)], args := [d1, d2] }
  | _ => none }
def PointLinearWrongFalsely : Prop := pointLinearRow.holds Tryd.pinned (OpenSpec.ofChange pointLinearWrong)

/- THE SECOND FORM. 'bulk': how many values and letters a reading holds, each counted each time it is reached (what is shared counts as often as it is met; a slice's spare places count too). A statement '..UptoSaid' is the law's where the arguments, and the package variables that the reading takes, are together of bulk at most 1048576: NARROWER than '..Said'. Prove '..Said' where nothing that the law and all that it calls make is longer than what came in: it says more and counts as full. Else prove '..UptoSaid'. A law counts once. -/
mutual
def uptoBulk {H : Type} : DataW H → Nat
  | .lit (.string bytes) => bytes.length + 1
  | .lit _ => 1
  | .nil => 1
  | .ptr d => uptoBulk d + 1
  | .slice elems spare => uptoBulkAll elems + uptoBulkAll spare + 1
  | .agg parts => uptoBulkAll parts + 1
  | .iface _ d => uptoBulk d + 1
  | .map entries => uptoBulkEntries entries + 1
  | .held _ => 1
def uptoBulkAll {H : Type} : List (DataW H) → Nat
  | [] => 0
  | d :: r => uptoBulk d + uptoBulkAll r
def uptoBulkEntries {H : Type} : List (Lit × DataW H) → Nat
  | [] => 0
  | x :: r => uptoBulkEntry x + uptoBulkEntries r
def uptoBulkEntry {H : Type} : Lit × DataW H → Nat
  | (.string bytes, d) => bytes.length + uptoBulk d + 1
  | (_, d) => uptoBulk d + 1
 end
def uptoSmall : (H : Type) → List (DataW H) → Bool := fun _ ds => decide (uptoBulkAll ds ≤ 1048576)
def OpenSpec.upto (s : _root_.Go.ChangeSpec) : _root_.Go.OpenSpec := { _root_.Go.OpenSpec.ofChange s with cond := some uptoSmall }

/-- 'imprimaturlaw06.PointMay', WHERE WHAT IT READS IS OF BULK AT MOST 1048576: true; the input reads as it did. -/
def pointMayUptoRow : OpenClaim := { program := "ytfleimaoaicolaadoor", sum := "3b7d5c0c65f5cb0942e3a36f6cdfab64e2dfaad09e137bfd542ccbf57db01337", func := "imprimatur/imprimaturlaw06.PointMay", spec := "pointMay", inPlace := ["math/bits.Add64", "math/bits.Sub64", "internal/abi.NoEscape", "internal/bytealg.MakeNoZero"], recurses := true, named := ["imprimatur/field.prime", "imprimatur/point.baseX", "imprimatur/point.baseY", "imprimatur/point.d"], apart := false, laid := [("imprimatur/field.prime", laid_imprimatur_field_prime), ("imprimatur/point.d", laid_imprimatur_point_d), ("imprimatur/point.baseX", laid_imprimatur_point_baseX), ("imprimatur/point.baseY", laid_imprimatur_point_baseY)], narrowed := true }
def PointMayUptoSaid : Prop := pointMayUptoRow.holds Tryd.pinned (OpenSpec.upto pointMaySpec)

/-- 'imprimaturlaw06.PointAdds', WHERE WHAT IT READS IS OF BULK AT MOST 1048576: true; the input reads as it did. -/
def pointAddsUptoRow : OpenClaim := { program := "ytfleimaoaicolaadoor", sum := "3b7d5c0c65f5cb0942e3a36f6cdfab64e2dfaad09e137bfd542ccbf57db01337", func := "imprimatur/imprimaturlaw06.PointAdds", spec := "pointAdds", inPlace := ["math/bits.Add64", "math/bits.Sub64", "internal/abi.NoEscape", "internal/bytealg.MakeNoZero"], recurses := true, named := ["imprimatur/point.baseX", "imprimatur/point.baseY", "imprimatur/field.prime", "imprimatur/point.d"], apart := false, laid := [("imprimatur/field.prime", laid_imprimatur_field_prime), ("imprimatur/point.d", laid_imprimatur_point_d), ("imprimatur/point.baseX", laid_imprimatur_point_baseX), ("imprimatur/point.baseY", laid_imprimatur_point_baseY)], narrowed := true }
def PointAddsUptoSaid : Prop := pointAddsUptoRow.holds Tryd.pinned (OpenSpec.upto pointAddsSpec)

/-- 'imprimaturlaw06.PointBytes', WHERE WHAT IT READS IS OF BULK AT MOST 1048576: true; the input reads as it did. -/
def pointBytesUptoRow : OpenClaim := { program := "ytfleimaoaicolaadoor", sum := "3b7d5c0c65f5cb0942e3a36f6cdfab64e2dfaad09e137bfd542ccbf57db01337", func := "imprimatur/imprimaturlaw06.PointBytes", spec := "pointBytes", inPlace := ["math/bits.Sub64", "math/bits.Add64", "internal/abi.NoEscape", "internal/bytealg.MakeNoZero"], recurses := true, named := ["imprimatur/field.prime", "imprimatur/point.d", "imprimatur/field.rootOfMinusOne", "imprimatur/point.baseX", "imprimatur/point.baseY"], apart := false, laid := [("imprimatur/field.rootOfMinusOne", laid_imprimatur_field_rootOfMinusOne), ("imprimatur/field.prime", laid_imprimatur_field_prime), ("imprimatur/point.d", laid_imprimatur_point_d), ("imprimatur/point.baseX", laid_imprimatur_point_baseX), ("imprimatur/point.baseY", laid_imprimatur_point_baseY)], narrowed := true }
def PointBytesUptoSaid : Prop := pointBytesUptoRow.holds Tryd.pinned (OpenSpec.upto pointBytesSpec)

/-- 'imprimaturlaw06.PointGroup', WHERE WHAT IT READS IS OF BULK AT MOST 1048576: true; the input reads as it did. -/
def pointGroupUptoRow : OpenClaim := { program := "ytfleimaoaicolaadoor", sum := "3b7d5c0c65f5cb0942e3a36f6cdfab64e2dfaad09e137bfd542ccbf57db01337", func := "imprimatur/imprimaturlaw06.PointGroup", spec := "pointGroup", inPlace := ["math/bits.Add64", "math/bits.Sub64", "internal/abi.NoEscape", "internal/bytealg.MakeNoZero"], recurses := true, named := ["imprimatur/point.baseX", "imprimatur/point.baseY", "imprimatur/field.prime", "imprimatur/point.d"], apart := false, laid := [("imprimatur/field.prime", laid_imprimatur_field_prime), ("imprimatur/point.d", laid_imprimatur_point_d), ("imprimatur/point.baseX", laid_imprimatur_point_baseX), ("imprimatur/point.baseY", laid_imprimatur_point_baseY)], narrowed := true }
def PointGroupUptoSaid : Prop := pointGroupUptoRow.holds Tryd.pinned (OpenSpec.upto pointGroupSpec)

/-- 'imprimaturlaw06.PointTimes', WHERE WHAT IT READS IS OF BULK AT MOST 1048576: true; the input reads as it did. -/
def pointTimesUptoRow : OpenClaim := { program := "ytfleimaoaicolaadoor", sum := "3b7d5c0c65f5cb0942e3a36f6cdfab64e2dfaad09e137bfd542ccbf57db01337", func := "imprimatur/imprimaturlaw06.PointTimes", spec := "pointTimes", inPlace := ["math/bits.Add64", "math/bits.Sub64", "internal/abi.NoEscape", "internal/bytealg.MakeNoZero"], recurses := true, named := ["imprimatur/point.baseX", "imprimatur/point.baseY", "imprimatur/field.prime", "imprimatur/point.d", "imprimatur/field.rootOfMinusOne"], apart := false, laid := [("imprimatur/field.rootOfMinusOne", laid_imprimatur_field_rootOfMinusOne), ("imprimatur/field.prime", laid_imprimatur_field_prime), ("imprimatur/point.d", laid_imprimatur_point_d), ("imprimatur/point.baseX", laid_imprimatur_point_baseX), ("imprimatur/point.baseY", laid_imprimatur_point_baseY)], narrowed := true }
def PointTimesUptoSaid : Prop := pointTimesUptoRow.holds Tryd.pinned (OpenSpec.upto pointTimesSpec)

/-- 'imprimaturlaw06.PointSigns', WHERE WHAT IT READS IS OF BULK AT MOST 1048576: true; the input reads as it did. -/
def pointSignsUptoRow : OpenClaim := { program := "ytfleimaoaicolaadoor", sum := "3b7d5c0c65f5cb0942e3a36f6cdfab64e2dfaad09e137bfd542ccbf57db01337", func := "imprimatur/imprimaturlaw06.PointSigns", spec := "pointSigns", inPlace := ["math/bits.Add64", "math/bits.Sub64", "internal/abi.NoEscape", "internal/bytealg.MakeNoZero"], recurses := true, named := ["imprimatur/point.baseX", "imprimatur/point.baseY", "imprimatur/field.prime", "imprimatur/point.d", "imprimatur/field.rootOfMinusOne"], apart := false, laid := [("imprimatur/field.rootOfMinusOne", laid_imprimatur_field_rootOfMinusOne), ("imprimatur/field.prime", laid_imprimatur_field_prime), ("imprimatur/point.d", laid_imprimatur_point_d), ("imprimatur/point.baseX", laid_imprimatur_point_baseX), ("imprimatur/point.baseY", laid_imprimatur_point_baseY)], narrowed := true }
def PointSignsUptoSaid : Prop := pointSignsUptoRow.holds Tryd.pinned (OpenSpec.upto pointSignsSpec)

/-- 'imprimaturlaw06.PointLinear', WHERE WHAT IT READS IS OF BULK AT MOST 1048576: true; the input reads as it did. -/
def pointLinearUptoRow : OpenClaim := { program := "ytfleimaoaicolaadoor", sum := "3b7d5c0c65f5cb0942e3a36f6cdfab64e2dfaad09e137bfd542ccbf57db01337", func := "imprimatur/imprimaturlaw06.PointLinear", spec := "pointLinear", inPlace := ["math/bits.Add64", "math/bits.Sub64", "internal/abi.NoEscape", "internal/bytealg.MakeNoZero"], recurses := true, named := ["imprimatur/point.baseX", "imprimatur/point.baseY", "imprimatur/field.prime", "imprimatur/point.d", "imprimatur/scalar.order"], apart := false, laid := [("imprimatur/field.prime", laid_imprimatur_field_prime), ("imprimatur/point.d", laid_imprimatur_point_d), ("imprimatur/point.baseX", laid_imprimatur_point_baseX), ("imprimatur/point.baseY", laid_imprimatur_point_baseY), ("imprimatur/scalar.order", laid_imprimatur_scalar_order)], narrowed := true }
def PointLinearUptoSaid : Prop := pointLinearUptoRow.holds Tryd.pinned (OpenSpec.upto pointLinearSpec)

end Rows
end Go.Proofs.YtfleimaoaicolaaDoor
