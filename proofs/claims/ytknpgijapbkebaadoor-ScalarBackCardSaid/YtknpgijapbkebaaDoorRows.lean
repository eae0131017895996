/-
  NARROWER THAN 'FOR EVERY INPUT', by the rows' own cells (each row's printed sentence says how): ScalarReckons: laid · ScalarBytes: laid · ScalarBack: laid · ScalarRules: laid · ScalarJoins: laid.
  DERIVED. THE GIVEN ROWS OF THIS SEAT. 5 by the template 'for every input the law returns true; each argument reads behind the call as it read before'; 0 by the template 'total and deterministic' (their statements: YtknpgijapbkebaaDoorTotals.lean).
  GIVEN WITH THE SEED: the statements are not yours to turn. If you find one false, say at which input.
  Laid BY PROGRAM, IN A SANDBOX (cutbox-rows.mjs): the forced cells as the released guide's own fill.sh prints them over the translation 1ab75a2d9cb6a18f… (all of the seat's roots in one cut). By AI agents, Wed Nov 11 2026. No macro, syntax, notation, axiom, sorry.
-/
import Derived.Test.YtknpgijapbkebaaDoorChecked
import GoSem.Claim
import GoSem.ClaimJoined
import GoSem.ClaimMapViews
import Derived.JoinedTies
import Derived.KernelRfl
namespace Go.Proofs.YtknpgijapbkebaaDoor
/- THE CELL 'sum', in the pinned program and in every row, IS THE sha256 OF THE DUMP (.gsa) THAT YtknpgijapbkebaaDoorProg.lean LOADS. Nothing in Lean hashes anything: it is a label: what it is worth is what the hold of that sum in a sandbox is worth. -/
noncomputable def Tryd.pinned : Pinned := { name := "ytknpgijapbkebaadoor", sum := "1ab75a2d9cb6a18fe886b92d2ad1db545a5af6c07e7e1b5399d198a503b2d902", checked := Tryd.checked }
namespace Rows
def none {H : Type} : Left H := { results := [], args := [] }

/- WHAT THE LISTED PACKAGE-LEVEL VARIABLES READ AS WHEN THE CALL BEGINS. Each datum BY PROGRAM (the guide's laid-datum.mjs) off the statement by which the dump's own 'gosem.cut.vars' lays the variable. In a bare row this is a premise. The card (YtknpgijapbkebaaDoorCards.lean) ties it to the program's text. -/
def laid_imprimatur_scalar_order {H : Type} : DataW H := .agg [.lit (.int .u64 6346243789798364141), .lit (.int .u64 1503914060200516822), .lit (.int .u64 0), .lit (.int .u64 1152921504606846976)]

/-- 'imprimaturlaw05.ScalarReckons': WHATEVER THE INPUT: true; the input reads as it did. -/
def scalarReckonsSpec : ChangeSpec := { name := "scalarReckons", fn := fun _ => fun
  | [d1, d2] => { results := [.lit (.bool true)], args := [d1, d2] }
  | _ => none }
def scalarReckonsRow : OpenClaim := { program := "ytknpgijapbkebaadoor", sum := "1ab75a2d9cb6a18fe886b92d2ad1db545a5af6c07e7e1b5399d198a503b2d902", func := "imprimatur/imprimaturlaw05.ScalarReckons", spec := "scalarReckons", inPlace := ["math/bits.Add64", "math/bits.Sub64"], named := ["imprimatur/scalar.order"], apart := false, laid := [("imprimatur/scalar.order", laid_imprimatur_scalar_order)] }
def ScalarReckonsSaid : Prop := scalarReckonsRow.holds Tryd.pinned (OpenSpec.ofChange scalarReckonsSpec)

/-- ITS FALSE NEIGHBOUR: 'it returns false'. Refute it at one input. -/
def scalarReckonsWrong : ChangeSpec := { name := "scalarReckons", fn := fun _ => fun
  | [d1, d2] => { results := [.lit (.bool false)], args := [d1, d2] }
  | _ => none }
def ScalarReckonsWrongFalsely : Prop := scalarReckonsRow.holds Tryd.pinned (OpenSpec.ofChange scalarReckonsWrong)

/-- 'imprimaturlaw05.ScalarBytes': WHATEVER THE INPUT: true; the input reads as it did. -/
def scalarBytesSpec : ChangeSpec := { name := "scalarBytes", fn := fun _ => fun
  | [d1, d2] => { results := [.lit (.bool true)], args := [d1, d2] }
  | _ => none }
def scalarBytesRow : OpenClaim := { program := "ytknpgijapbkebaadoor", sum := "1ab75a2d9cb6a18fe886b92d2ad1db545a5af6c07e7e1b5399d198a503b2d902", func := "imprimatur/imprimaturlaw05.ScalarBytes", spec := "scalarBytes", inPlace := ["math/bits.Add64", "math/bits.Sub64"], named := ["imprimatur/scalar.order"], apart := false, laid := [("imprimatur/scalar.order", laid_imprimatur_scalar_order)] }
def ScalarBytesSaid : Prop := scalarBytesRow.holds Tryd.pinned (OpenSpec.ofChange scalarBytesSpec)

/-- ITS FALSE NEIGHBOUR: 'it returns false'. Refute it at one input. -/
def scalarBytesWrong : ChangeSpec := { name := "scalarBytes", fn := fun _ => fun
  | [d1, d2] => { results := [.lit (.bool false)], args := [d1, d2] }
  | _ => none }
def ScalarBytesWrongFalsely : Prop := scalarBytesRow.holds Tryd.pinned (OpenSpec.ofChange scalarBytesWrong)

/-- 'imprimaturlaw05.ScalarBack': WHATEVER THE INPUT: true; the input reads as it did. -/
def scalarBackSpec : ChangeSpec := { name := "scalarBack", fn := fun _ => fun
  | [d1, d2] => { results := [.lit (.bool true)], args := [d1, d2] }
  | _ => none }
def scalarBackRow : OpenClaim := { program := "ytknpgijapbkebaadoor", sum := "1ab75a2d9cb6a18fe886b92d2ad1db545a5af6c07e7e1b5399d198a503b2d902", func := "imprimatur/imprimaturlaw05.ScalarBack", spec := "scalarBack", inPlace := ["math/bits.Add64", "math/bits.Sub64"], named := ["imprimatur/scalar.order"], apart := false, laid := [("imprimatur/scalar.order", laid_imprimatur_scalar_order)] }
def ScalarBackSaid : Prop := scalarBackRow.holds Tryd.pinned (OpenSpec.ofChange scalarBackSpec)

/-- ITS FALSE NEIGHBOUR: 'it returns false'. Refute it at one input. -/
def scalarBackWrong : ChangeSpec := { name := "scalarBack", fn := fun _ => fun
  | [d1, d2] => { results := [.lit (.bool false)], args := [d1, d2] }
  | _ => none }
def ScalarBackWrongFalsely : Prop := scalarBackRow.holds Tryd.pinned (OpenSpec.ofChange scalarBackWrong)

/-- 'imprimaturlaw05.ScalarRules': WHATEVER THE INPUT: true; the input reads as it did. -/
def scalarRulesSpec : ChangeSpec := { name := "scalarRules", fn := fun _ => fun
  | [d1, d2, d3] => { results := [.lit (.bool true)], args := [d1, d2, d3] }
  | _ => none }
def scalarRulesRow : OpenClaim := { program := "ytknpgijapbkebaadoor", sum := "1ab75a2d9cb6a18fe886b92d2ad1db545a5af6c07e7e1b5399d198a503b2d902", func := "imprimatur/imprimaturlaw05.ScalarRules", spec := "scalarRules", inPlace := ["math/bits.Add64", "math/bits.Sub64"], unfollowed := true, recurses := true, named := ["imprimatur/scalar.order"], apart := false, laid := [("imprimatur/scalar.order", laid_imprimatur_scalar_order)] }
def ScalarRulesSaid : Prop := scalarRulesRow.holds Tryd.pinned (OpenSpec.ofChange scalarRulesSpec)

/-- ITS FALSE NEIGHBOUR: 'it returns false'. Refute it at one input. -/
def scalarRulesWrong : ChangeSpec := { name := "scalarRules", fn := fun _ => fun
  | [d1, d2, d3] => { results := [.lit (.bool false)], args := [d1, d2, d3] }
  | _ => none }
def ScalarRulesWrongFalsely : Prop := scalarRulesRow.holds Tryd.pinned (OpenSpec.ofChange scalarRulesWrong)

/-- 'imprimaturlaw05.ScalarJoins': WHATEVER THE INPUT: true; the input reads as it did. -/
def scalarJoinsSpec : ChangeSpec := { name := "scalarJoins", fn := fun _ => fun
  | [d1, d2] => { results := [.lit (.bool true)], args := [d1, d2] }
  | _ => none }
def scalarJoinsRow : OpenClaim := { program := "ytknpgijapbkebaadoor", sum := "1ab75a2d9cb6a18fe886b92d2ad1db545a5af6c07e7e1b5399d198a503b2d902", func := "imprimatur/imprimaturlaw05.ScalarJoins", spec := "scalarJoins", inPlace := ["math/bits.Add64", "math/bits.Sub64"], named := ["imprimatur/scalar.order"], apart := false, laid := [("imprimatur/scalar.order", laid_imprimatur_scalar_order)] }
def ScalarJoinsSaid : Prop := scalarJoinsRow.holds Tryd.pinned (OpenSpec.ofChange scalarJoinsSpec)

/-- ITS FALSE NEIGHBOUR: 'it returns false'. Refute it at one input. -/
def scalarJoinsWrong : ChangeSpec := { name := "scalarJoins", fn := fun _ => fun
  | [d1, d2] => { results := [.lit (.bool false)], args := [d1, d2] }
  | _ => none }
def ScalarJoinsWrongFalsely : Prop := scalarJoinsRow.holds Tryd.pinned (OpenSpec.ofChange scalarJoinsWrong)

/- THE SECOND FORM. 'bulk': how many values and letters a reading holds, each counted each time it is reached (what is shared counts as often as it is met; a slice's spare places count too). A statement '..UptoSaid' is the law's where the arguments, and the package variables that the reading takes, are together of bulk at most 1048576: NARROWER than '..Said'. Prove '..Said' where nothing that the law and all that it calls make is longer than what came in: it says more and counts as full. Else prove '..UptoSaid'. A law counts once. -/
mutual
def uptoBulk {H : Type} : DataW H → Nat
  | .lit (.string bytes) => bytes.length + 1
  | .lit _ => 1
  | .nil => 1
  | .ptr d => uptoBulk d + 1
  | .slice elems spare => uptoBulkAll elems + uptoBulkAll spare + 1
  | .agg parts => uptoBulkAll parts + 1
  | .iface _ d => uptoBulk d + 1
  | .map entries => uptoBulkEntries entries + 1
  | .held _ => 1
def uptoBulkAll {H : Type} : List (DataW H) → Nat
  | [] => 0
  | d :: r => uptoBulk d + uptoBulkAll r
def uptoBulkEntries {H : Type} : List (Lit × DataW H) → Nat
  | [] => 0
  | x :: r => uptoBulkEntry x + uptoBulkEntries r
def uptoBulkEntry {H : Type} : Lit × DataW H → Nat
  | (.string bytes, d) => bytes.length + uptoBulk d + 1
  | (_, d) => uptoBulk d + 1
 end
def uptoSmall : (H : Type) → List (DataW H) → Bool := fun _ ds => decide (uptoBulkAll ds ≤ 1048576)
def OpenSpec.upto (s : _root_.Go.ChangeSpec) : _root_.Go.OpenSpec := { _root_.Go.OpenSpec.ofChange s with cond := some uptoSmall }

/-- 'imprimaturlaw05.ScalarReckons', WHERE WHAT IT READS IS OF BULK AT MOST 1048576: true; the input reads as it did. -/
def scalarReckonsUptoRow : OpenClaim := { program := "ytknpgijapbkebaadoor", sum := "1ab75a2d9cb6a18fe886b92d2ad1db545a5af6c07e7e1b5399d198a503b2d902", func := "imprimatur/imprimaturlaw05.ScalarReckons", spec := "scalarReckons", inPlace := ["math/bits.Add64", "math/bits.Sub64"], named := ["imprimatur/scalar.order"], apart := false, laid := [("imprimatur/scalar.order", laid_imprimatur_scalar_order)], narrowed := true }
def ScalarReckonsUptoSaid : Prop := scalarReckonsUptoRow.holds Tryd.pinned (OpenSpec.upto scalarReckonsSpec)

/-- 'imprimaturlaw05.ScalarBytes', WHERE WHAT IT READS IS OF BULK AT MOST 1048576: true; the input reads as it did. -/
def scalarBytesUptoRow : OpenClaim := { program := "ytknpgijapbkebaadoor", sum := "1ab75a2d9cb6a18fe886b92d2ad1db545a5af6c07e7e1b5399d198a503b2d902", func := "imprimatur/imprimaturlaw05.ScalarBytes", spec := "scalarBytes", inPlace := ["math/bits.Add64", "math/bits.Sub64"], named := ["imprimatur/scalar.order"], apart := false, laid := [("imprimatur/scalar.order", laid_imprimatur_scalar_order)], narrowed := true }
def ScalarBytesUptoSaid : Prop := scalarBytesUptoRow.holds Tryd.pinned (OpenSpec.upto scalarBytesSpec)

/-- 'imprimaturlaw05.ScalarBack', WHERE WHAT IT READS IS OF BULK AT MOST 1048576: true; the input reads as it did. -/
def scalarBackUptoRow : OpenClaim := { program := "ytknpgijapbkebaadoor", sum := "1ab75a2d9cb6a18fe886b92d2ad1db545a5af6c07e7e1b5399d198a503b2d902", func := "imprimatur/imprimaturlaw05.ScalarBack", spec := "scalarBack", inPlace := ["math/bits.Add64", "math/bits.Sub64"], named := ["imprimatur/scalar.order"], apart := false, laid := [("imprimatur/scalar.order", laid_imprimatur_scalar_order)], narrowed := true }
def ScalarBackUptoSaid : Prop := scalarBackUptoRow.holds Tryd.pinned (OpenSpec.upto scalarBackSpec)

/-- 'imprimaturlaw05.ScalarRules', WHERE WHAT IT READS IS OF BULK AT MOST 1048576: true; the input reads as it did. -/
def scalarRulesUptoRow : OpenClaim := { program := "ytknpgijapbkebaadoor", sum := "1ab75a2d9cb6a18fe886b92d2ad1db545a5af6c07e7e1b5399d198a503b2d902", func := "imprimatur/imprimaturlaw05.ScalarRules", spec := "scalarRules", inPlace := ["math/bits.Add64", "math/bits.Sub64"], unfollowed := true, recurses := true, named := ["imprimatur/scalar.order"], apart := false, laid := [("imprimatur/scalar.order", laid_imprimatur_scalar_order)], narrowed := true }
def ScalarRulesUptoSaid : Prop := scalarRulesUptoRow.holds Tryd.pinned (OpenSpec.upto scalarRulesSpec)

/-- 'imprimaturlaw05.ScalarJoins', WHERE WHAT IT READS IS OF BULK AT MOST 1048576: true; the input reads as it did. -/
def scalarJoinsUptoRow : OpenClaim := { program := "ytknpgijapbkebaadoor", sum := "1ab75a2d9cb6a18fe886b92d2ad1db545a5af6c07e7e1b5399d198a503b2d902", func := "imprimatur/imprimaturlaw05.ScalarJoins", spec := "scalarJoins", inPlace := ["math/bits.Add64", "math/bits.Sub64"], named := ["imprimatur/scalar.order"], apart := false, laid := [("imprimatur/scalar.order", laid_imprimatur_scalar_order)], narrowed := true }
def ScalarJoinsUptoSaid : Prop := scalarJoinsUptoRow.holds Tryd.pinned (OpenSpec.upto scalarJoinsSpec)

end Rows
end Go.Proofs.YtknpgijapbkebaaDoor
