/-
  NARROWER THAN 'FOR EVERY INPUT', by the rows' own cells (each row's printed sentence says how): FieldReckons: laid · FieldBytes: laid · FieldInverts: laid · FieldRoots: laid · FieldRules: laid · FieldHalves: laid.
  DERIVED. THE GIVEN ROWS OF THIS SEAT. 6 by the template 'for every input the law returns true; each argument reads behind the call as it read before'; 0 by the template 'total and deterministic' (their statements: YtlbhlklgliblgaaDoorTotals.lean).
  GIVEN WITH THE SEED: the statements are not yours to turn. If you find one false, say at which input.
  Laid BY PROGRAM, IN A SANDBOX (cutbox-rows.mjs): the forced cells as the released guide's own fill.sh prints them over the translation eb2323c6ed23f07d… (all of the seat's roots in one cut). By AI agents, Wed Nov 11 2026. No macro, syntax, notation, axiom, sorry.
-/
import Derived.Test.YtlbhlklgliblgaaDoorChecked
import GoSem.Claim
import GoSem.ClaimJoined
import GoSem.ClaimMapViews
import Derived.JoinedTies
import Derived.KernelRfl
namespace Go.Proofs.YtlbhlklgliblgaaDoor
/- THE CELL 'sum', in the pinned program and in every row, IS THE sha256 OF THE DUMP (.gsa) THAT YtlbhlklgliblgaaDoorProg.lean LOADS. Nothing in Lean hashes anything: it is a label: what it is worth is what the hold of that sum in a sandbox is worth. -/
noncomputable def Tryd.pinned : Pinned := { name := "ytlbhlklgliblgaadoor", sum := "eb2323c6ed23f07dd1f8b19929772808f6fc282f1af8732ef317769a5b9a904b", checked := Tryd.checked }
namespace Rows
def none {H : Type} : Left H := { results := [], args := [] }

/- WHAT THE LISTED PACKAGE-LEVEL VARIABLES READ AS WHEN THE CALL BEGINS. Each datum BY PROGRAM (the guide's laid-datum.mjs) off the statement by which the dump's own 'gosem.cut.vars' lays the variable. In a bare row this is a premise. The card (YtlbhlklgliblgaaDoorCards.lean) ties it to the program's text. -/
def laid_imprimatur_field_prime {H : Type} : DataW H := .agg [.lit (.int .u64 18446744073709551597), .lit (.int .u64 18446744073709551615), .lit (.int .u64 18446744073709551615), .lit (.int .u64 9223372036854775807)]
def laid_imprimatur_field_rootOfMinusOne {H : Type} : DataW H := .agg [.lit (.int .u64 14190309331451158704), .lit (.int .u64 3405592160176694392), .lit (.int .u64 3120150775007532967), .lit (.int .u64 3135389899092516619)]

/-- 'imprimaturlaw04.FieldReckons': WHATEVER THE INPUT: true; the input reads as it did. -/
def fieldReckonsSpec : ChangeSpec := { name := "fieldReckons", fn := fun _ => fun
  | [d1, d2, d3] => { results := [.lit (.bool true)], args := [d1, d2, d3] }
  | _ => none }
def fieldReckonsRow : OpenClaim := { program := "ytlbhlklgliblgaadoor", sum := "eb2323c6ed23f07dd1f8b19929772808f6fc282f1af8732ef317769a5b9a904b", func := "imprimatur/imprimaturlaw04.FieldReckons", spec := "fieldReckons", inPlace := ["math/bits.Add64", "math/bits.Sub64"], named := ["imprimatur/field.prime"], apart := false, laid := [("imprimatur/field.prime", laid_imprimatur_field_prime)] }
def FieldReckonsSaid : Prop := fieldReckonsRow.holds Tryd.pinned (OpenSpec.ofChange fieldReckonsSpec)

/-- ITS FALSE NEIGHBOUR: 'it returns false'. Refute it at one input. -/
def fieldReckonsWrong : ChangeSpec := { name := "fieldReckons", fn := fun _ => fun
  | [d1, d2, d3] => { results := [.lit (.bool false)], args := [d1, d2, d3] }
  | _ => none }
def FieldReckonsWrongFalsely : Prop := fieldReckonsRow.holds Tryd.pinned (OpenSpec.ofChange fieldReckonsWrong)

/-- 'imprimaturlaw04.FieldBytes': WHATEVER THE INPUT: true; the input reads as it did. -/
def fieldBytesSpec : ChangeSpec := { name := "fieldBytes", fn := fun _ => fun
  | [d1, d2] => { results := [.lit (.bool true)], args := [d1, d2] }
  | _ => none }
def fieldBytesRow : OpenClaim := { program := "ytlbhlklgliblgaadoor", sum := "eb2323c6ed23f07dd1f8b19929772808f6fc282f1af8732ef317769a5b9a904b", func := "imprimatur/imprimaturlaw04.FieldBytes", spec := "fieldBytes", inPlace := ["math/bits.Sub64", "math/bits.Add64"], named := ["imprimatur/field.prime"], apart := false, laid := [("imprimatur/field.prime", laid_imprimatur_field_prime)] }
def FieldBytesSaid : Prop := fieldBytesRow.holds Tryd.pinned (OpenSpec.ofChange fieldBytesSpec)

/-- ITS FALSE NEIGHBOUR: 'it returns false'. Refute it at one input. -/
def fieldBytesWrong : ChangeSpec := { name := "fieldBytes", fn := fun _ => fun
  | [d1, d2] => { results := [.lit (.bool false)], args := [d1, d2] }
  | _ => none }
def FieldBytesWrongFalsely : Prop := fieldBytesRow.holds Tryd.pinned (OpenSpec.ofChange fieldBytesWrong)

/-- 'imprimaturlaw04.FieldInverts': WHATEVER THE INPUT: true; the input reads as it did. -/
def fieldInvertsSpec : ChangeSpec := { name := "fieldInverts", fn := fun _ => fun
  | [d] => { results := [.lit (.bool true)], args := [d] }
  | _ => none }
def fieldInvertsRow : OpenClaim := { program := "ytlbhlklgliblgaadoor", sum := "eb2323c6ed23f07dd1f8b19929772808f6fc282f1af8732ef317769a5b9a904b", func := "imprimatur/imprimaturlaw04.FieldInverts", spec := "fieldInverts", inPlace := ["math/bits.Add64", "math/bits.Sub64"], recurses := true, named := ["imprimatur/field.prime"], apart := false, laid := [("imprimatur/field.prime", laid_imprimatur_field_prime)] }
def FieldInvertsSaid : Prop := fieldInvertsRow.holds Tryd.pinned (OpenSpec.ofChange fieldInvertsSpec)

/-- ITS FALSE NEIGHBOUR: 'it returns false'. Refute it at one input. -/
def fieldInvertsWrong : ChangeSpec := { name := "fieldInverts", fn := fun _ => fun
  | [d] => { results := [.lit (.bool false)], args := [d] }
  | _ => none }
def FieldInvertsWrongFalsely : Prop := fieldInvertsRow.holds Tryd.pinned (OpenSpec.ofChange fieldInvertsWrong)

/-- 'imprimaturlaw04.FieldRoots': WHATEVER THE INPUT: true; the input reads as it did. -/
def fieldRootsSpec : ChangeSpec := { name := "fieldRoots", fn := fun _ => fun
  | [d] => { results := [.lit (.bool true)], args := [d] }
  | _ => none }
def fieldRootsRow : OpenClaim := { program := "ytlbhlklgliblgaadoor", sum := "eb2323c6ed23f07dd1f8b19929772808f6fc282f1af8732ef317769a5b9a904b", func := "imprimatur/imprimaturlaw04.FieldRoots", spec := "fieldRoots", inPlace := ["math/bits.Add64", "math/bits.Sub64"], recurses := true, named := ["imprimatur/field.prime", "imprimatur/field.rootOfMinusOne"], apart := false, laid := [("imprimatur/field.rootOfMinusOne", laid_imprimatur_field_rootOfMinusOne), ("imprimatur/field.prime", laid_imprimatur_field_prime)] }
def FieldRootsSaid : Prop := fieldRootsRow.holds Tryd.pinned (OpenSpec.ofChange fieldRootsSpec)

/-- ITS FALSE NEIGHBOUR: 'it returns false'. Refute it at one input. -/
def fieldRootsWrong : ChangeSpec := { name := "fieldRoots", fn := fun _ => fun
  | [d] => { results := [.lit (.bool false)], args := [d] }
  | _ => none }
def FieldRootsWrongFalsely : Prop := fieldRootsRow.holds Tryd.pinned (OpenSpec.ofChange fieldRootsWrong)

/-- 'imprimaturlaw04.FieldRules': WHATEVER THE INPUT: true; the input reads as it did. -/
def fieldRulesSpec : ChangeSpec := { name := "fieldRules", fn := fun _ => fun
  | [d1, d2, d3] => { results := [.lit (.bool true)], args := [d1, d2, d3] }
  | _ => none }
def fieldRulesRow : OpenClaim := { program := "ytlbhlklgliblgaadoor", sum := "eb2323c6ed23f07dd1f8b19929772808f6fc282f1af8732ef317769a5b9a904b", func := "imprimatur/imprimaturlaw04.FieldRules", spec := "fieldRules", inPlace := ["math/bits.Add64", "math/bits.Sub64"], unfollowed := true, recurses := true, named := ["imprimatur/field.prime"], apart := false, laid := [("imprimatur/field.prime", laid_imprimatur_field_prime)] }
def FieldRulesSaid : Prop := fieldRulesRow.holds Tryd.pinned (OpenSpec.ofChange fieldRulesSpec)

/-- ITS FALSE NEIGHBOUR: 'it returns false'. Refute it at one input. -/
def fieldRulesWrong : ChangeSpec := { name := "fieldRules", fn := fun _ => fun
  | [d1, d2, d3] => { results := [.lit (.bool false)], args := [d1, d2, d3] }
  | _ => none }
def FieldRulesWrongFalsely : Prop := fieldRulesRow.holds Tryd.pinned (OpenSpec.ofChange fieldRulesWrong)

/-- 'imprimaturlaw04.FieldHalves': WHATEVER THE INPUT: true; the input reads as it did. -/
def fieldHalvesSpec : ChangeSpec := { name := "fieldHalves", fn := fun _ => fun
  | [d] => { results := [.lit (.bool true)], args := [d] }
  | _ => none }
def fieldHalvesRow : OpenClaim := { program := "ytlbhlklgliblgaadoor", sum := "eb2323c6ed23f07dd1f8b19929772808f6fc282f1af8732ef317769a5b9a904b", func := "imprimatur/imprimaturlaw04.FieldHalves", spec := "fieldHalves", inPlace := ["math/bits.Add64", "math/bits.Sub64"], recurses := true, named := ["imprimatur/field.prime"], apart := false, laid := [("imprimatur/field.prime", laid_imprimatur_field_prime)] }
def FieldHalvesSaid : Prop := fieldHalvesRow.holds Tryd.pinned (OpenSpec.ofChange fieldHalvesSpec)

/-- ITS FALSE NEIGHBOUR: 'it returns false'. Refute it at one input. -/
def fieldHalvesWrong : ChangeSpec := { name := "fieldHalves", fn := fun _ => fun
  | [d] => { results := [.lit (.bool false)], args := [d] }
  | _ => none }
def FieldHalvesWrongFalsely : Prop := fieldHalvesRow.holds Tryd.pinned (OpenSpec.ofChange fieldHalvesWrong)

/- THE SECOND FORM. 'bulk': how many values and letters a reading holds, each counted each time it is reached (what is shared counts as often as it is met; a slice's spare places count too). A statement '..UptoSaid' is the law's where the arguments, and the package variables that the reading takes, are together of bulk at most 1048576: NARROWER than '..Said'. Prove '..Said' where nothing that the law and all that it calls make is longer than what came in: it says more and counts as full. Else prove '..UptoSaid'. A law counts once. -/
mutual
def uptoBulk {H : Type} : DataW H → Nat
  | .lit (.string bytes) => bytes.length + 1
  | .lit _ => 1
  | .nil => 1
  | .ptr d => uptoBulk d + 1
  | .slice elems spare => uptoBulkAll elems + uptoBulkAll spare + 1
  | .agg parts => uptoBulkAll parts + 1
  | .iface _ d => uptoBulk d + 1
  | .map entries => uptoBulkEntries entries + 1
  | .held _ => 1
def uptoBulkAll {H : Type} : List (DataW H) → Nat
  | [] => 0
  | d :: r => uptoBulk d + uptoBulkAll r
def uptoBulkEntries {H : Type} : List (Lit × DataW H) → Nat
  | [] => 0
  | x :: r => uptoBulkEntry x + uptoBulkEntries r
def uptoBulkEntry {H : Type} : Lit × DataW H → Nat
  | (.string bytes, d) => bytes.length + uptoBulk d + 1
  | (_, d) => uptoBulk d + 1
 end
def uptoSmall : (H : Type) → List (DataW H) → Bool := fun _ ds => decide (uptoBulkAll ds ≤ 1048576)
def OpenSpec.upto (s : _root_.Go.ChangeSpec) : _root_.Go.OpenSpec := { _root_.Go.OpenSpec.ofChange s with cond := some uptoSmall }

/-- 'imprimaturlaw04.FieldReckons', WHERE WHAT IT READS IS OF BULK AT MOST 1048576: true; the input reads as it did. -/
def fieldReckonsUptoRow : OpenClaim := { program := "ytlbhlklgliblgaadoor", sum := "eb2323c6ed23f07dd1f8b19929772808f6fc282f1af8732ef317769a5b9a904b", func := "imprimatur/imprimaturlaw04.FieldReckons", spec := "fieldReckons", inPlace := ["math/bits.Add64", "math/bits.Sub64"], named := ["imprimatur/field.prime"], apart := false, laid := [("imprimatur/field.prime", laid_imprimatur_field_prime)], narrowed := true }
def FieldReckonsUptoSaid : Prop := fieldReckonsUptoRow.holds Tryd.pinned (OpenSpec.upto fieldReckonsSpec)

/-- 'imprimaturlaw04.FieldBytes', WHERE WHAT IT READS IS OF BULK AT MOST 1048576: true; the input reads as it did. -/
def fieldBytesUptoRow : OpenClaim := { program := "ytlbhlklgliblgaadoor", sum := "eb2323c6ed23f07dd1f8b19929772808f6fc282f1af8732ef317769a5b9a904b", func := "imprimatur/imprimaturlaw04.FieldBytes", spec := "fieldBytes", inPlace := ["math/bits.Sub64", "math/bits.Add64"], named := ["imprimatur/field.prime"], apart := false, laid := [("imprimatur/field.prime", laid_imprimatur_field_prime)], narrowed := true }
def FieldBytesUptoSaid : Prop := fieldBytesUptoRow.holds Tryd.pinned (OpenSpec.upto fieldBytesSpec)

/-- 'imprimaturlaw04.FieldInverts', WHERE WHAT IT READS IS OF BULK AT MOST 1048576: true; the input reads as it did. -/
def fieldInvertsUptoRow : OpenClaim := { program := "ytlbhlklgliblgaadoor", sum := "eb2323c6ed23f07dd1f8b19929772808f6fc282f1af8732ef317769a5b9a904b", func := "imprimatur/imprimaturlaw04.FieldInverts", spec := "fieldInverts", inPlace := ["math/bits.Add64", "math/bits.Sub64"], recurses := true, named := ["imprimatur/field.prime"], apart := false, laid := [("imprimatur/field.prime", laid_imprimatur_field_prime)], narrowed := true }
def FieldInvertsUptoSaid : Prop := fieldInvertsUptoRow.holds Tryd.pinned (OpenSpec.upto fieldInvertsSpec)

/-- 'imprimaturlaw04.FieldRoots', WHERE WHAT IT READS IS OF BULK AT MOST 1048576: true; the input reads as it did. -/
def fieldRootsUptoRow : OpenClaim := { program := "ytlbhlklgliblgaadoor", sum := "eb2323c6ed23f07dd1f8b19929772808f6fc282f1af8732ef317769a5b9a904b", func := "imprimatur/imprimaturlaw04.FieldRoots", spec := "fieldRoots", inPlace := ["math/bits.Add64", "math/bits.Sub64"], recurses := true, named := ["imprimatur/field.prime", "imprimatur/field.rootOfMinusOne"], apart := false, laid := [("imprimatur/field.rootOfMinusOne", laid_imprimatur_field_rootOfMinusOne), ("imprimatur/field.prime", laid_imprimatur_field_prime)], narrowed := true }
def FieldRootsUptoSaid : Prop := fieldRootsUptoRow.holds Tryd.pinned (OpenSpec.upto fieldRootsSpec)

/-- 'imprimaturlaw04.FieldRules', WHERE WHAT IT READS IS OF BULK AT MOST 1048576: true; the input reads as it did. -/
def fieldRulesUptoRow : OpenClaim := { program := "ytlbhlklgliblgaadoor", sum := "eb2323c6ed23f07dd1f8b19929772808f6fc282f1af8732ef317769a5b9a904b", func := "imprimatur/imprimaturlaw04.FieldRules", spec := "fieldRules", inPlace := ["math/bits.Add64", "math/bits.Sub64"], unfollowed := true, recurses := true, named := ["imprimatur/field.prime"], apart := false, laid := [("imprimatur/field.prime", laid_imprimatur_field_prime)], narrowed := true }
def FieldRulesUptoSaid : Prop := fieldRulesUptoRow.holds Tryd.pinned (OpenSpec.upto fieldRulesSpec)

/-- 'imprimaturlaw04.FieldHalves', WHERE WHAT IT READS IS OF BULK AT MOST 1048576: true; the input reads as it did. -/
def fieldHalvesUptoRow : OpenClaim := { program := "ytlbhlklgliblgaadoor", sum := "eb2323c6ed23f07dd1f8b19929772808f6fc282f1af8732ef317769a5b9a904b", func := "imprimatur/imprimaturlaw04.FieldHalves", spec := "fieldHalves", inPlace := ["math/bits.Add64", "math/bits.Sub64"], recurses := true, named := ["imprimatur/field.prime"], apart := false, laid := [("imprimatur/field.prime", laid_imprimatur_field_prime)], narrowed := true }
def FieldHalvesUptoSaid : Prop := fieldHalvesUptoRow.holds Tryd.pinned (OpenSpec.upto fieldHalvesSpec)

end Rows
end Go.Proofs.YtlbhlklgliblgaaDoor
