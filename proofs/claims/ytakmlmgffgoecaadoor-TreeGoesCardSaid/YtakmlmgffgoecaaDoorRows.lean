/-
  NARROWER THAN 'FOR EVERY INPUT', by the rows' own cells (each row's printed sentence says how): TreeRoots: laid · TreeGoes: laid · TreeGrows: laid · TreeKeeps: laid · TreeHalves: laid · TreeParts: laid.
  DERIVED. THE GIVEN ROWS OF THIS SEAT. 6 by the template 'for every input the law returns true; each argument reads behind the call as it read before'; 0 by the template 'total and deterministic' (their statements: YtakmlmgffgoecaaDoorTotals.lean).
  GIVEN WITH THE SEED: the statements are not yours to turn. If you find one false, say at which input.
  Laid BY PROGRAM, IN A SANDBOX (cutbox-rows.mjs): the forced cells as the released guide's own fill.sh prints them over the translation 83411bafc1528859… (all of the seat's roots in one cut). By AI agents, Wed Nov 11 2026. No macro, syntax, notation, axiom, sorry.
-/
import Derived.Test.YtakmlmgffgoecaaDoorChecked
import GoSem.Claim
import GoSem.ClaimJoined
import GoSem.ClaimMapViews
import Derived.JoinedTies
import Derived.KernelRfl
namespace Go.Proofs.YtakmlmgffgoecaaDoor
/- THE CELL 'sum', in the pinned program and in every row, IS THE sha256 OF THE DUMP (.gsa) THAT YtakmlmgffgoecaaDoorProg.lean LOADS. Nothing in Lean hashes anything: it is a label: what it is worth is what the hold of that sum in a sandbox is worth. -/
noncomputable def Tryd.pinned : Pinned := { name := "ytakmlmgffgoecaadoor", sum := "83411bafc1528859c1cfdb07b2ca2aafae95356e133bbcd3385b618989762600", checked := Tryd.checked }
namespace Rows
def none {H : Type} : Left H := { results := [], args := [] }

/- WHAT THE LISTED PACKAGE-LEVEL VARIABLES READ AS WHEN THE CALL BEGINS. Each datum BY PROGRAM (the guide's laid-datum.mjs) off the statement by which the dump's own 'gosem.cut.vars' lays the variable. In a bare row this is a premise. The card (YtakmlmgffgoecaaDoorCards.lean) ties it to the program's text. -/
def laid_imprimatur_sha256_squareRoots {H : Type} : DataW H := .agg [.lit (.int .u32 1779033703), .lit (.int .u32 3144134277), .lit (.int .u32 1013904242), .lit (.int .u32 2773480762), .lit (.int .u32 1359893119), .lit (.int .u32 2600822924), .lit (.int .u32 528734635), .lit (.int .u32 1541459225)]
def laid_imprimatur_sha256_cubeRoots {H : Type} : DataW H := .agg [.lit (.int .u32 1116352408), .lit (.int .u32 1899447441), .lit (.int .u32 3049323471), .lit (.int .u32 3921009573), .lit (.int .u32 961987163), .lit (.int .u32 1508970993), .lit (.int .u32 2453635748), .lit (.int .u32 2870763221), .lit (.int .u32 3624381080), .lit (.int .u32 310598401), .lit (.int .u32 607225278), .lit (.int .u32 1426881987), .lit (.int .u32 1925078388), .lit (.int .u32 2162078206), .lit (.int .u32 2614888103), .lit (.int .u32 3248222580), .lit (.int .u32 3835390401), .lit (.int .u32 4022224774), .lit (.int .u32 264347078), .lit (.int .u32 604807628), .lit (.int .u32 770255983), .lit (.int .u32 1249150122), .lit (.int .u32 1555081692), .lit (.int .u32 1996064986), .lit (.int .u32 2554220882), .lit (.int .u32 2821834349), .lit (.int .u32 2952996808), .lit (.int .u32 3210313671), .lit (.int .u32 3336571891), .lit (.int .u32 3584528711), .lit (.int .u32 113926993), .lit (.int .u32 338241895), .lit (.int .u32 666307205), .lit (.int .u32 773529912), .lit (.int .u32 1294757372), .lit (.int .u32 1396182291), .lit (.int .u32 1695183700), .lit (.int .u32 1986661051), .lit (.int .u32 2177026350), .lit (.int .u32 2456956037), .lit (.int .u32 2730485921), .lit (.int .u32 2820302411), .lit (.int .u32 3259730800), .lit (.int .u32 3345764771), .lit (.int .u32 3516065817), .lit (.int .u32 3600352804), .lit (.int .u32 4094571909), .lit (.int .u32 275423344), .lit (.int .u32 430227734), .lit (.int .u32 506948616), .lit (.int .u32 659060556), .lit (.int .u32 883997877), .lit (.int .u32 958139571), .lit (.int .u32 1322822218), .lit (.int .u32 1537002063), .lit (.int .u32 1747873779), .lit (.int .u32 1955562222), .lit (.int .u32 2024104815), .lit (.int .u32 2227730452), .lit (.int .u32 2361852424), .lit (.int .u32 2428436474), .lit (.int .u32 2756734187), .lit (.int .u32 3204031479), .lit (.int .u32 3329325298)]

/-- 'imprimaturlaw08.TreeRoots': WHATEVER THE INPUT: true; the input reads as it did. -/
def treeRootsSpec : ChangeSpec := { name := "treeRoots", fn := fun _ => fun
  | [d1, d2] => { results := [.lit (.bool true)], args := [d1, d2] }
  | _ => none }
def treeRootsRow : OpenClaim := { program := "ytakmlmgffgoecaadoor", sum := "83411bafc1528859c1cfdb07b2ca2aafae95356e133bbcd3385b618989762600", func := "imprimatur/imprimaturlaw08.TreeRoots", spec := "treeRoots", recurses := true, named := ["imprimatur/sha256.squareRoots", "imprimatur/sha256.cubeRoots"], apart := false, laid := [("imprimatur/sha256.squareRoots", laid_imprimatur_sha256_squareRoots), ("imprimatur/sha256.cubeRoots", laid_imprimatur_sha256_cubeRoots)] }
def TreeRootsSaid : Prop := treeRootsRow.holds Tryd.pinned (OpenSpec.ofChange treeRootsSpec)

/-- ITS FALSE NEIGHBOUR: 'it returns false'. Refute it at one input. -/
def treeRootsWrong : ChangeSpec := { name := "treeRoots", fn := fun _ => fun
  | [d1, d2] => { results := [.lit (.bool false)], args := [d1, d2] }
  | _ => none }
def TreeRootsWrongFalsely : Prop := treeRootsRow.holds Tryd.pinned (OpenSpec.ofChange treeRootsWrong)

/-- 'imprimaturlaw08.TreeGoes': WHATEVER THE INPUT: true; the input reads as it did. -/
def treeGoesSpec : ChangeSpec := { name := "treeGoes", fn := fun _ => fun
  | [d1, d2] => { results := [.lit (.bool true)], args := [d1, d2] }
  | _ => none }
def treeGoesRow : OpenClaim := { program := "ytakmlmgffgoecaadoor", sum := "83411bafc1528859c1cfdb07b2ca2aafae95356e133bbcd3385b618989762600", func := "imprimatur/imprimaturlaw08.TreeGoes", spec := "treeGoes", recurses := true, named := ["imprimatur/sha256.squareRoots", "imprimatur/sha256.cubeRoots"], apart := false, laid := [("imprimatur/sha256.squareRoots", laid_imprimatur_sha256_squareRoots), ("imprimatur/sha256.cubeRoots", laid_imprimatur_sha256_cubeRoots)] }
def TreeGoesSaid : Prop := treeGoesRow.holds Tryd.pinned (OpenSpec.ofChange treeGoesSpec)

/-- ITS FALSE NEIGHBOUR: 'it returns false'. Refute it at one input. -/
def treeGoesWrong : ChangeSpec := { name := "treeGoes", fn := fun _ => fun
  | [d1, d2] => { results := [.lit (.bool false)], args := [d1, d2] }
  | _ => none }
def TreeGoesWrongFalsely : Prop := treeGoesRow.holds Tryd.pinned (OpenSpec.ofChange treeGoesWrong)

/-- 'imprimaturlaw08.TreeGrows': WHATEVER THE INPUT: true; the input reads as it did. -/
def treeGrowsSpec : ChangeSpec := { name := "treeGrows", fn := fun _ => fun
  | [d1, d2] => { results := [.lit (.bool true)], args := [d1, d2] }
  | _ => none }
def treeGrowsRow : OpenClaim := { program := "ytakmlmgffgoecaadoor", sum := "83411bafc1528859c1cfdb07b2ca2aafae95356e133bbcd3385b618989762600", func := "imprimatur/imprimaturlaw08.TreeGrows", spec := "treeGrows", recurses := true, named := ["imprimatur/sha256.squareRoots", "imprimatur/sha256.cubeRoots"], apart := false, laid := [("imprimatur/sha256.squareRoots", laid_imprimatur_sha256_squareRoots), ("imprimatur/sha256.cubeRoots", laid_imprimatur_sha256_cubeRoots)] }
def TreeGrowsSaid : Prop := treeGrowsRow.holds Tryd.pinned (OpenSpec.ofChange treeGrowsSpec)

/-- ITS FALSE NEIGHBOUR: 'it returns false'. Refute it at one input. -/
def treeGrowsWrong : ChangeSpec := { name := "treeGrows", fn := fun _ => fun
  | [d1, d2] => { results := [.lit (.bool false)], args := [d1, d2] }
  | _ => none }
def TreeGrowsWrongFalsely : Prop := treeGrowsRow.holds Tryd.pinned (OpenSpec.ofChange treeGrowsWrong)

/-- 'imprimaturlaw08.TreeKeeps': WHATEVER THE INPUT: true; the input reads as it did. -/
def treeKeepsSpec : ChangeSpec := { name := "treeKeeps", fn := fun _ => fun
  | [d1, d2, d3] => { results := [.lit (.bool true)], args := [d1, d2, d3] }
  | _ => none }
def treeKeepsRow : OpenClaim := { program := "ytakmlmgffgoecaadoor", sum := "83411bafc1528859c1cfdb07b2ca2aafae95356e133bbcd3385b618989762600", func := "imprimatur/imprimaturlaw08.TreeKeeps", spec := "treeKeeps", recurses := true, named := ["imprimatur/sha256.squareRoots", "imprimatur/sha256.cubeRoots"], apart := false, laid := [("imprimatur/sha256.squareRoots", laid_imprimatur_sha256_squareRoots), ("imprimatur/sha256.cubeRoots", laid_imprimatur_sha256_cubeRoots)] }
def TreeKeepsSaid : Prop := treeKeepsRow.holds Tryd.pinned (OpenSpec.ofChange treeKeepsSpec)

/-- ITS FALSE NEIGHBOUR: 'it returns false'. Refute it at one input. -/
def treeKeepsWrong : ChangeSpec := { name := "treeKeeps", fn := fun _ => fun
  | [d1, d2, d3] => { results := [.lit (.bool false)], args := [d1, d2, d3] }
  | _ => none }
def TreeKeepsWrongFalsely : Prop := treeKeepsRow.holds Tryd.pinned (OpenSpec.ofChange treeKeepsWrong)

/-- 'imprimaturlaw08.TreeHalves': WHATEVER THE INPUT: true; the input reads as it did. -/
def treeHalvesSpec : ChangeSpec := { name := "treeHalves", fn := fun _ => fun
  | [d1, d2] => { results := [.lit (.bool true)], args := [d1, d2] }
  | _ => none }
def treeHalvesRow : OpenClaim := { program := "ytakmlmgffgoecaadoor", sum := "83411bafc1528859c1cfdb07b2ca2aafae95356e133bbcd3385b618989762600", func := "imprimatur/imprimaturlaw08.TreeHalves", spec := "treeHalves", recurses := true, named := ["imprimatur/sha256.squareRoots", "imprimatur/sha256.cubeRoots"], apart := false, laid := [("imprimatur/sha256.squareRoots", laid_imprimatur_sha256_squareRoots), ("imprimatur/sha256.cubeRoots", laid_imprimatur_sha256_cubeRoots)] }
def TreeHalvesSaid : Prop := treeHalvesRow.holds Tryd.pinned (OpenSpec.ofChange treeHalvesSpec)

/-- ITS FALSE NEIGHBOUR: 'it returns false'. Refute it at one input. -/
def treeHalvesWrong : ChangeSpec := { name := "treeHalves", fn := fun _ => fun
  | [d1, d2] => { results := [.lit (.bool false)], args := [d1, d2] }
  | _ => none }
def TreeHalvesWrongFalsely : Prop := treeHalvesRow.holds Tryd.pinned (OpenSpec.ofChange treeHalvesWrong)

/-- 'imprimaturlaw08.TreeParts': WHATEVER THE INPUT: true; the input reads as it did. -/
def treePartsSpec : ChangeSpec := { name := "treeParts", fn := fun _ => fun
  | [d1, d2] => { results := [.lit (.bool true)], args := [d1, d2] }
  | _ => none }
def treePartsRow : OpenClaim := { program := "ytakmlmgffgoecaadoor", sum := "83411bafc1528859c1cfdb07b2ca2aafae95356e133bbcd3385b618989762600", func := "imprimatur/imprimaturlaw08.TreeParts", spec := "treeParts", recurses := true, named := ["imprimatur/sha256.squareRoots", "imprimatur/sha256.cubeRoots"], apart := false, laid := [("imprimatur/sha256.squareRoots", laid_imprimatur_sha256_squareRoots), ("imprimatur/sha256.cubeRoots", laid_imprimatur_sha256_cubeRoots)] }
def TreePartsSaid : Prop := treePartsRow.holds Tryd.pinned (OpenSpec.ofChange treePartsSpec)

/-- ITS FALSE NEIGHBOUR: 'it returns false'. Refute it at one input. -/
def treePartsWrong : ChangeSpec := { name := "treeParts", fn := fun _ => fun
  | [d1, d2] => { results := [.lit (.bool false)], args := [d1, d2] }
  | _ => none }
def TreePartsWrongFalsely : Prop := treePartsRow.holds Tryd.pinned (OpenSpec.ofChange treePartsWrong)

/- THE SECOND FORM. 'bulk': how many values and letters a reading holds, each counted each time it is reached (what is shared counts as often as it is met; a slice's spare places count too). A statement '..UptoSaid' is the law's where the arguments, and the package variables that the reading takes, are together of bulk at most 1048576: NARROWER than '..Said'. Prove '..Said' where nothing that the law and all that it calls make is longer than what came in: it says more and counts as full. Else prove '..UptoSaid'. A law counts once. -/
mutual
def uptoBulk {H : Type} : DataW H → Nat
  | .lit (.string bytes) => bytes.length + 1
  | .lit _ => 1
  | .nil => 1
  | .ptr d => uptoBulk d + 1
  | .slice elems spare => uptoBulkAll elems + uptoBulkAll spare + 1
  | .agg parts => uptoBulkAll parts + 1
  | .iface _ d => uptoBulk d + 1
  | .map entries => uptoBulkEntries entries + 1
  | .held _ => 1
def uptoBulkAll {H : Type} : List (DataW H) → Nat
  | [] => 0
  | d :: r => uptoBulk d + uptoBulkAll r
def uptoBulkEntries {H : Type} : List (Lit × DataW H) → Nat
  | [] => 0
  | x :: r => uptoBulkEntry x + uptoBulkEntries r
def uptoBulkEntry {H : Type} : Lit × DataW H → Nat
  | (.string bytes, d) => bytes.length + uptoBulk d + 1
  | (_, d) => uptoBulk d + 1
 end
def uptoSmall : (H : Type) → List (DataW H) → Bool := fun _ ds => decide (uptoBulkAll ds ≤ 1048576)
def OpenSpec.upto (s : _root_.Go.ChangeSpec) : _root_.Go.OpenSpec := { _root_.Go.OpenSpec.ofChange s with cond := some uptoSmall }

/-- 'imprimaturlaw08.TreeRoots', WHERE WHAT IT READS IS OF BULK AT MOST 1048576: true; the input reads as it did. -/
def treeRootsUptoRow : OpenClaim := { program := "ytakmlmgffgoecaadoor", sum := "83411bafc1528859c1cfdb07b2ca2aafae95356e133bbcd3385b618989762600", func := "imprimatur/imprimaturlaw08.TreeRoots", spec := "treeRoots", recurses := true, named := ["imprimatur/sha256.squareRoots", "imprimatur/sha256.cubeRoots"], apart := false, laid := [("imprimatur/sha256.squareRoots", laid_imprimatur_sha256_squareRoots), ("imprimatur/sha256.cubeRoots", laid_imprimatur_sha256_cubeRoots)], narrowed := true }
def TreeRootsUptoSaid : Prop := treeRootsUptoRow.holds Tryd.pinned (OpenSpec.upto treeRootsSpec)

/-- 'imprimaturlaw08.TreeGoes', WHERE WHAT IT READS IS OF BULK AT MOST 1048576: true; the input reads as it did. -/
def treeGoesUptoRow : OpenClaim := { program := "ytakmlmgffgoecaadoor", sum := "83411bafc1528859c1cfdb07b2ca2aafae95356e133bbcd3385b618989762600", func := "imprimatur/imprimaturlaw08.TreeGoes", spec := "treeGoes", recurses := true, named := ["imprimatur/sha256.squareRoots", "imprimatur/sha256.cubeRoots"], apart := false, laid := [("imprimatur/sha256.squareRoots", laid_imprimatur_sha256_squareRoots), ("imprimatur/sha256.cubeRoots", laid_imprimatur_sha256_cubeRoots)], narrowed := true }
def TreeGoesUptoSaid : Prop := treeGoesUptoRow.holds Tryd.pinned (OpenSpec.upto treeGoesSpec)

/-- 'imprimaturlaw08.TreeGrows', WHERE WHAT IT READS IS OF BULK AT MOST 1048576: true; the input reads as it did. -/
def treeGrowsUptoRow : OpenClaim := { program := "ytakmlmgffgoecaadoor", sum := "83411bafc1528859c1cfdb07b2ca2aafae95356e133bbcd3385b618989762600", func := "imprimatur/imprimaturlaw08.TreeGrows", spec := "treeGrows", recurses := true, named := ["imprimatur/sha256.squareRoots", "imprimatur/sha256.cubeRoots"], apart := false, laid := [("imprimatur/sha256.squareRoots", laid_imprimatur_sha256_squareRoots), ("imprimatur/sha256.cubeRoots", laid_imprimatur_sha256_cubeRoots)], narrowed := true }
def TreeGrowsUptoSaid : Prop := treeGrowsUptoRow.holds Tryd.pinned (OpenSpec.upto treeGrowsSpec)

/-- 'imprimaturlaw08.TreeKeeps', WHERE WHAT IT READS IS OF BULK AT MOST 1048576: true; the input reads as it did. -/
def treeKeepsUptoRow : OpenClaim := { program := "ytakmlmgffgoecaadoor", sum := "83411bafc1528859c1cfdb07b2ca2aafae95356e133bbcd3385b618989762600", func := "imprimatur/imprimaturlaw08.TreeKeeps", spec := "treeKeeps", recurses := true, named := ["imprimatur/sha256.squareRoots", "imprimatur/sha256.cubeRoots"], apart := false, laid := [("imprimatur/sha256.squareRoots", laid_imprimatur_sha256_squareRoots), ("imprimatur/sha256.cubeRoots", laid_imprimatur_sha256_cubeRoots)], narrowed := true }
def TreeKeepsUptoSaid : Prop := treeKeepsUptoRow.holds Tryd.pinned (OpenSpec.upto treeKeepsSpec)

/-- 'imprimaturlaw08.TreeHalves', WHERE WHAT IT READS IS OF BULK AT MOST 1048576: true; the input reads as it did. -/
def treeHalvesUptoRow : OpenClaim := { program := "ytakmlmgffgoecaadoor", sum := "83411bafc1528859c1cfdb07b2ca2aafae95356e133bbcd3385b618989762600", func := "imprimatur/imprimaturlaw08.TreeHalves", spec := "treeHalves", recurses := true, named := ["imprimatur/sha256.squareRoots", "imprimatur/sha256.cubeRoots"], apart := false, laid := [("imprimatur/sha256.squareRoots", laid_imprimatur_sha256_squareRoots), ("imprimatur/sha256.cubeRoots", laid_imprimatur_sha256_cubeRoots)], narrowed := true }
def TreeHalvesUptoSaid : Prop := treeHalvesUptoRow.holds Tryd.pinned (OpenSpec.upto treeHalvesSpec)

/-- 'imprimaturlaw08.TreeParts', WHERE WHAT IT READS IS OF BULK AT MOST 1048576: true; the input reads as it did. -/
def treePartsUptoRow : OpenClaim := { program := "ytakmlmgffgoecaadoor", sum := "83411bafc1528859c1cfdb07b2ca2aafae95356e133bbcd3385b618989762600", func := "imprimatur/imprimaturlaw08.TreeParts", spec := "treeParts", recurses := true, named := ["imprimatur/sha256.squareRoots", "imprimatur/sha256.cubeRoots"], apart := false, laid := [("imprimatur/sha256.squareRoots", laid_imprimatur_sha256_squareRoots), ("imprimatur/sha256.cubeRoots", laid_imprimatur_sha256_cubeRoots)], narrowed := true }
def TreePartsUptoSaid : Prop := treePartsUptoRow.holds Tryd.pinned (OpenSpec.upto treePartsSpec)

end Rows
end Go.Proofs.YtakmlmgffgoecaaDoor
