/-
  DERIVED. GIVEN WITH THE SEED: THE CARDS: each row of YtmbmeidkmhajbaaDoorRows.lean that lists a variable, with what it lists TIED to the program's text (the seventh form; the later family's looks); each row that meets fmt, with fmt's text TOLD by the authors' own Lean function (tested against real Go, not proved from fmt's source: count such statements apart). THE CARD IS WHAT COUNTS. Prove the row's statement (the work); the ties are given (YtmbmeidkmhajbaaDoorTie.lean); close each card by the builder's one call (the guide's Derived/Test/ToyasCard.lean, 'card_holds'). Laid BY PROGRAM, IN A SANDBOX (cutbox-door.mjs). By AI agents, Wed Nov 11 2026. No macro, syntax, notation, axiom, sorry.
-/
import Derived.Test.YtmbmeidkmhajbaaDoorRows
import GoSem.ClaimSeven
namespace Go.Proofs.YtmbmeidkmhajbaaDoor
namespace Rows

/-- THE TIED CARD OF 'imprimaturlaw12.ParseReads'. -/
def parseReadsCard : Claim7 := { stood := { row := parseReadsRow, standIns := [], harness := (true, "9fcd393f0e7882a1fcd7cf0cd262c9f104fa492a75991f676e6a77665f54b24d"), looks := true }, kinds := [], alts := [], laidByText := true, laidKinds := [.data, .data, .data, .sentinel, .sentinel], laidTests := true, laidLooks := .later }
def ParseReadsCardSaid : Prop := Claim7.holds Tryd.pinned (.plain (OpenSpec.ofChange parseReadsSpec)) parseReadsCard

/-- THE TIED CARD OF 'imprimaturlaw12.ParseFields'. -/
def parseFieldsCard : Claim7 := { stood := { row := parseFieldsRow, standIns := [], harness := (true, "9fcd393f0e7882a1fcd7cf0cd262c9f104fa492a75991f676e6a77665f54b24d"), looks := true }, kinds := [], alts := [], laidByText := true, laidKinds := [.data, .data, .data, .sentinel, .sentinel], laidTests := true, laidLooks := .later }
def ParseFieldsCardSaid : Prop := Claim7.holds Tryd.pinned (.plain (OpenSpec.ofChange parseFieldsSpec)) parseFieldsCard

/-- THE TIED CARD OF 'imprimaturlaw12.ParseKeys'. -/
def parseKeysCard : Claim7 := { stood := { row := parseKeysRow, standIns := [], harness := (true, "9fcd393f0e7882a1fcd7cf0cd262c9f104fa492a75991f676e6a77665f54b24d"), looks := true }, kinds := [], alts := [], laidByText := true, laidKinds := [.data, .data, .data, .data, .sentinel, .sentinel, .pinned], laidTests := true, laidLooks := .later }
def ParseKeysCardSaid : Prop := Claim7.holds Tryd.pinned (.plain (OpenSpec.ofChange parseKeysSpec)) parseKeysCard

/-- THE SECOND FORM's CARD OF 'imprimaturlaw12.ParseReads'. -/
def parseReadsUptoCard : Claim7 := { stood := { row := parseReadsUptoRow, standIns := [], harness := (true, "9fcd393f0e7882a1fcd7cf0cd262c9f104fa492a75991f676e6a77665f54b24d"), looks := true }, kinds := [], alts := [], laidByText := true, laidKinds := [.data, .data, .data, .sentinel, .sentinel], laidTests := true, laidLooks := .later }
def ParseReadsUptoCardSaid : Prop := Claim7.holds Tryd.pinned (.plain (OpenSpec.upto parseReadsSpec)) parseReadsUptoCard

/-- THE SECOND FORM's CARD OF 'imprimaturlaw12.ParseFields'. -/
def parseFieldsUptoCard : Claim7 := { stood := { row := parseFieldsUptoRow, standIns := [], harness := (true, "9fcd393f0e7882a1fcd7cf0cd262c9f104fa492a75991f676e6a77665f54b24d"), looks := true }, kinds := [], alts := [], laidByText := true, laidKinds := [.data, .data, .data, .sentinel, .sentinel], laidTests := true, laidLooks := .later }
def ParseFieldsUptoCardSaid : Prop := Claim7.holds Tryd.pinned (.plain (OpenSpec.upto parseFieldsSpec)) parseFieldsUptoCard

/-- THE SECOND FORM's CARD OF 'imprimaturlaw12.ParseKeys'. -/
def parseKeysUptoCard : Claim7 := { stood := { row := parseKeysUptoRow, standIns := [], harness := (true, "9fcd393f0e7882a1fcd7cf0cd262c9f104fa492a75991f676e6a77665f54b24d"), looks := true }, kinds := [], alts := [], laidByText := true, laidKinds := [.data, .data, .data, .data, .sentinel, .sentinel, .pinned], laidTests := true, laidLooks := .later }
def ParseKeysUptoCardSaid : Prop := Claim7.holds Tryd.pinned (.plain (OpenSpec.upto parseKeysSpec)) parseKeysUptoCard
end Rows
end Go.Proofs.YtmbmeidkmhajbaaDoor
