/-
  DERIVED. GIVEN WITH THE SEED: THE CARDS: each row of YtgefhfcmiefocaaDoorRows.lean that lists a variable, with what it lists TIED to the program's text (the seventh form; the later family's looks); each row that meets fmt, with fmt's text TOLD by the authors' own Lean function (tested against real Go, not proved from fmt's source: count such statements apart). THE CARD IS WHAT COUNTS. Prove the row's statement (the work); the ties are given (YtgefhfcmiefocaaDoorTie.lean); close each card by the builder's one call (the guide's Derived/Test/ToyasCard.lean, 'card_holds'). Laid BY PROGRAM, IN A SANDBOX (cutbox-door.mjs). By AI agents, Wed Nov 11 2026. No macro, syntax, notation, axiom, sorry.
-/
import Derived.Test.YtgefhfcmiefocaaDoorRows
import GoSem.ClaimSeven
namespace Go.Proofs.YtgefhfcmiefocaaDoor
namespace Rows

/-- THE TIED CARD OF 'imprimaturlaw07.EdBack'. -/
def edBackCard : Claim7 := { stood := { row := edBackRow, standIns := [], harness := (true, "d7e791186f38cba48bc0db81a7ebf73c4d5526558cfe33c00ac1ba9a78d86d33"), looks := false }, kinds := [], alts := [], laidByText := true, laidKinds := [.data, .data, .data, .data, .data, .data, .data, .data], laidTests := true, laidLooks := .later }
def EdBackCardSaid : Prop := Claim7.holds Tryd.pinned (.plain (OpenSpec.ofChange edBackSpec)) edBackCard

/-- THE TIED CARD OF 'imprimaturlaw07.EdOther'. -/
def edOtherCard : Claim7 := { stood := { row := edOtherRow, standIns := [], harness := (true, "d7e791186f38cba48bc0db81a7ebf73c4d5526558cfe33c00ac1ba9a78d86d33"), looks := false }, kinds := [], alts := [], laidByText := true, laidKinds := [.data, .data, .data, .data, .data, .data, .data, .data], laidTests := true, laidLooks := .later }
def EdOtherCardSaid : Prop := Claim7.holds Tryd.pinned (.plain (OpenSpec.ofChange edOtherSpec)) edOtherCard

/-- THE SECOND FORM's CARD OF 'imprimaturlaw07.EdBack'. -/
def edBackUptoCard : Claim7 := { stood := { row := edBackUptoRow, standIns := [], harness := (true, "d7e791186f38cba48bc0db81a7ebf73c4d5526558cfe33c00ac1ba9a78d86d33"), looks := false }, kinds := [], alts := [], laidByText := true, laidKinds := [.data, .data, .data, .data, .data, .data, .data, .data], laidTests := true, laidLooks := .later }
def EdBackUptoCardSaid : Prop := Claim7.holds Tryd.pinned (.plain (OpenSpec.upto edBackSpec)) edBackUptoCard

/-- THE SECOND FORM's CARD OF 'imprimaturlaw07.EdOther'. -/
def edOtherUptoCard : Claim7 := { stood := { row := edOtherUptoRow, standIns := [], harness := (true, "d7e791186f38cba48bc0db81a7ebf73c4d5526558cfe33c00ac1ba9a78d86d33"), looks := false }, kinds := [], alts := [], laidByText := true, laidKinds := [.data, .data, .data, .data, .data, .data, .data, .data], laidTests := true, laidLooks := .later }
def EdOtherUptoCardSaid : Prop := Claim7.holds Tryd.pinned (.plain (OpenSpec.upto edOtherSpec)) edOtherUptoCard
end Rows
end Go.Proofs.YtgefhfcmiefocaaDoor
