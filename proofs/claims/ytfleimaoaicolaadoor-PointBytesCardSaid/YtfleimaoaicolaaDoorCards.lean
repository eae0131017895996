/-
  DERIVED. GIVEN WITH THE SEED: THE CARDS: each row of YtfleimaoaicolaaDoorRows.lean that lists a variable, with what it lists TIED to the program's text (the seventh form; the later family's looks); each row that meets fmt, with fmt's text TOLD by the authors' own Lean function (tested against real Go, not proved from fmt's source: count such statements apart). THE CARD IS WHAT COUNTS. Prove the row's statement (the work); the ties are given (YtfleimaoaicolaaDoorTie.lean); close each card by the builder's one call (the guide's Derived/Test/ToyasCard.lean, 'card_holds'). Laid BY PROGRAM, IN A SANDBOX (cutbox-door.mjs). By AI agents, Wed Nov 11 2026. No macro, syntax, notation, axiom, sorry.
-/
import Derived.Test.YtfleimaoaicolaaDoorRows
import GoSem.ClaimSeven
namespace Go.Proofs.YtfleimaoaicolaaDoor
namespace Rows

/-- THE TIED CARD OF 'imprimaturlaw06.PointMay'. -/
def pointMayCard : Claim7 := { stood := { row := pointMayRow, standIns := [], harness := (true, "6b3a67ec6675fa56ea21e4a6d50a0fb92a50f9cc28eb512fd7a59c92a18b1a85"), looks := false }, kinds := [], alts := [], laidByText := true, laidKinds := [.data, .data, .data, .data], laidTests := true, laidLooks := .later }
def PointMayCardSaid : Prop := Claim7.holds Tryd.pinned (.plain (OpenSpec.ofChange pointMaySpec)) pointMayCard

/-- THE TIED CARD OF 'imprimaturlaw06.PointAdds'. -/
def pointAddsCard : Claim7 := { stood := { row := pointAddsRow, standIns := [], harness := (true, "6b3a67ec6675fa56ea21e4a6d50a0fb92a50f9cc28eb512fd7a59c92a18b1a85"), looks := false }, kinds := [], alts := [], laidByText := true, laidKinds := [.data, .data, .data, .data], laidTests := true, laidLooks := .later }
def PointAddsCardSaid : Prop := Claim7.holds Tryd.pinned (.plain (OpenSpec.ofChange pointAddsSpec)) pointAddsCard

/-- THE TIED CARD OF 'imprimaturlaw06.PointBytes'. -/
def pointBytesCard : Claim7 := { stood := { row := pointBytesRow, standIns := [], harness := (true, "6b3a67ec6675fa56ea21e4a6d50a0fb92a50f9cc28eb512fd7a59c92a18b1a85"), looks := false }, kinds := [], alts := [], laidByText := true, laidKinds := [.data, .data, .data, .data, .data], laidTests := true, laidLooks := .later }
def PointBytesCardSaid : Prop := Claim7.holds Tryd.pinned (.plain (OpenSpec.ofChange pointBytesSpec)) pointBytesCard

/-- THE TIED CARD OF 'imprimaturlaw06.PointGroup'. -/
def pointGroupCard : Claim7 := { stood := { row := pointGroupRow, standIns := [], harness := (true, "6b3a67ec6675fa56ea21e4a6d50a0fb92a50f9cc28eb512fd7a59c92a18b1a85"), looks := false }, kinds := [], alts := [], laidByText := true, laidKinds := [.data, .data, .data, .data], laidTests := true, laidLooks := .later }
def PointGroupCardSaid : Prop := Claim7.holds Tryd.pinned (.plain (OpenSpec.ofChange pointGroupSpec)) pointGroupCard

/-- THE TIED CARD OF 'imprimaturlaw06.PointTimes'. -/
def pointTimesCard : Claim7 := { stood := { row := pointTimesRow, standIns := [], harness := (true, "6b3a67ec6675fa56ea21e4a6d50a0fb92a50f9cc28eb512fd7a59c92a18b1a85"), looks := false }, kinds := [], alts := [], laidByText := true, laidKinds := [.data, .data, .data, .data, .data], laidTests := true, laidLooks := .later }
def PointTimesCardSaid : Prop := Claim7.holds Tryd.pinned (.plain (OpenSpec.ofChange pointTimesSpec)) pointTimesCard

/-- THE TIED CARD OF 'imprimaturlaw06.PointSigns'. -/
def pointSignsCard : Claim7 := { stood := { row := pointSignsRow, standIns := [], harness := (true, "6b3a67ec6675fa56ea21e4a6d50a0fb92a50f9cc28eb512fd7a59c92a18b1a85"), looks := false }, kinds := [], alts := [], laidByText := true, laidKinds := [.data, .data, .data, .data, .data], laidTests := true, laidLooks := .later }
def PointSignsCardSaid : Prop := Claim7.holds Tryd.pinned (.plain (OpenSpec.ofChange pointSignsSpec)) pointSignsCard

/-- THE TIED CARD OF 'imprimaturlaw06.PointLinear'. -/
def pointLinearCard : Claim7 := { stood := { row := pointLinearRow, standIns := [], harness := (true, "6b3a67ec6675fa56ea21e4a6d50a0fb92a50f9cc28eb512fd7a59c92a18b1a85"), looks := false }, kinds := [], alts := [], laidByText := true, laidKinds := [.data, .data, .data, .data, .data], laidTests := true, laidLooks := .later }
def PointLinearCardSaid : Prop := Claim7.holds Tryd.pinned (.plain (OpenSpec.ofChange pointLinearSpec)) pointLinearCard

/-- THE SECOND FORM's CARD OF 'imprimaturlaw06.PointMay'. -/
def pointMayUptoCard : Claim7 := { stood := { row := pointMayUptoRow, standIns := [], harness := (true, "6b3a67ec6675fa56ea21e4a6d50a0fb92a50f9cc28eb512fd7a59c92a18b1a85"), looks := false }, kinds := [], alts := [], laidByText := true, laidKinds := [.data, .data, .data, .data], laidTests := true, laidLooks := .later }
def PointMayUptoCardSaid : Prop := Claim7.holds Tryd.pinned (.plain (OpenSpec.upto pointMaySpec)) pointMayUptoCard

/-- THE SECOND FORM's CARD OF 'imprimaturlaw06.PointAdds'. -/
def pointAddsUptoCard : Claim7 := { stood := { row := pointAddsUptoRow, standIns := [], harness := (true, "6b3a67ec6675fa56ea21e4a6d50a0fb92a50f9cc28eb512fd7a59c92a18b1a85"), looks := false }, kinds := [], alts := [], laidByText := true, laidKinds := [.data, .data, .data, .data], laidTests := true, laidLooks := .later }
def PointAddsUptoCardSaid : Prop := Claim7.holds Tryd.pinned (.plain (OpenSpec.upto pointAddsSpec)) pointAddsUptoCard

/-- THE SECOND FORM's CARD OF 'imprimaturlaw06.PointBytes'. -/
def pointBytesUptoCard : Claim7 := { stood := { row := pointBytesUptoRow, standIns := [], harness := (true, "6b3a67ec6675fa56ea21e4a6d50a0fb92a50f9cc28eb512fd7a59c92a18b1a85"), looks := false }, kinds := [], alts := [], laidByText := true, laidKinds := [.data, .data, .data, .data, .data], laidTests := true, laidLooks := .later }
def PointBytesUptoCardSaid : Prop := Claim7.holds Tryd.pinned (.plain (OpenSpec.upto pointBytesSpec)) pointBytesUptoCard

/-- THE SECOND FORM's CARD OF 'imprimaturlaw06.PointGroup'. -/
def pointGroupUptoCard : Claim7 := { stood := { row := pointGroupUptoRow, standIns := [], harness := (true, "6b3a67ec6675fa56ea21e4a6d50a0fb92a50f9cc28eb512fd7a59c92a18b1a85"), looks := false }, kinds := [], alts := [], laidByText := true, laidKinds := [.data, .data, .data, .data], laidTests := true, laidLooks := .later }
def PointGroupUptoCardSaid : Prop := Claim7.holds Tryd.pinned (.plain (OpenSpec.upto pointGroupSpec)) pointGroupUptoCard

/-- THE SECOND FORM's CARD OF 'imprimaturlaw06.PointTimes'. -/
def pointTimesUptoCard : Claim7 := { stood := { row := pointTimesUptoRow, standIns := [], harness := (true, "6b3a67ec6675fa56ea21e4a6d50a0fb92a50f9cc28eb512fd7a59c92a18b1a85"), looks := false }, kinds := [], alts := [], laidByText := true, laidKinds := [.data, .data, .data, .data, .data], laidTests := true, laidLooks := .later }
def PointTimesUptoCardSaid : Prop := Claim7.holds Tryd.pinned (.plain (OpenSpec.upto pointTimesSpec)) pointTimesUptoCard

/-- THE SECOND FORM's CARD OF 'imprimaturlaw06.PointSigns'. -/
def pointSignsUptoCard : Claim7 := { stood := { row := pointSignsUptoRow, standIns := [], harness := (true, "6b3a67ec6675fa56ea21e4a6d50a0fb92a50f9cc28eb512fd7a59c92a18b1a85"), looks := false }, kinds := [], alts := [], laidByText := true, laidKinds := [.data, .data, .data, .data, .data], laidTests := true, laidLooks := .later }
def PointSignsUptoCardSaid : Prop := Claim7.holds Tryd.pinned (.plain (OpenSpec.upto pointSignsSpec)) pointSignsUptoCard

/-- THE SECOND FORM's CARD OF 'imprimaturlaw06.PointLinear'. -/
def pointLinearUptoCard : Claim7 := { stood := { row := pointLinearUptoRow, standIns := [], harness := (true, "6b3a67ec6675fa56ea21e4a6d50a0fb92a50f9cc28eb512fd7a59c92a18b1a85"), looks := false }, kinds := [], alts := [], laidByText := true, laidKinds := [.data, .data, .data, .data, .data], laidTests := true, laidLooks := .later }
def PointLinearUptoCardSaid : Prop := Claim7.holds Tryd.pinned (.plain (OpenSpec.upto pointLinearSpec)) pointLinearUptoCard
end Rows
end Go.Proofs.YtfleimaoaicolaaDoor
