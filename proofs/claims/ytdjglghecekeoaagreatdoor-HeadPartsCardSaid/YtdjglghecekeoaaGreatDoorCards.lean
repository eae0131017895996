/-
  DERIVED. GIVEN WITH THE SEED: THE CARDS: each row of YtdjglghecekeoaaGreatDoorRows.lean that lists a variable, with what it lists TIED to the program's text (the seventh form; the later family's looks); each row that meets fmt, with fmt's text TOLD by the authors' own Lean function (tested against real Go, not proved from fmt's source: count such statements apart). THE CARD IS WHAT COUNTS. Prove the row's statement (the work); the ties are given (YtdjglghecekeoaaGreatDoorTie.lean); close each card by the builder's one call (the guide's Derived/Test/ToyasCard.lean, 'card_holds'). Laid BY PROGRAM, IN A SANDBOX (cutbox-door.mjs). By AI agents, Wed Nov 11 2026. No macro, syntax, notation, axiom, sorry.
-/
import Derived.Test.YtdjglghecekeoaaGreatDoorRows
import GoSem.ClaimSeven
namespace Go.Proofs.YtdjglghecekeoaaGreatDoor
namespace Rows

/-- THE TIED CARD OF 'imprimaturlaw10.HeadTexts'. -/
def headTextsCard : Claim7 := { stood := { row := headTextsRow, standIns := [], harness := (true, "956d8e9fa0e99b2775c52a53b0c4bdae9beea2b976785c4081b7b49bceee264e"), looks := false }, kinds := [], alts := [], laidByText := true, laidKinds := [.data, .data, .data, .data, .data, .data, .data, .data, .data], laidTests := true, laidLooks := .later }
def HeadTextsCardSaid : Prop := Claim7.holds Tryz.pinned (.plain (OpenSpec.ofChange headTextsSpec)) headTextsCard

/-- THE TIED CARD OF 'imprimaturlaw10.HeadSigns'. -/
def headSignsCard : Claim7 := { stood := { row := headSignsRow, standIns := [], harness := (true, "956d8e9fa0e99b2775c52a53b0c4bdae9beea2b976785c4081b7b49bceee264e"), looks := false }, kinds := [], alts := [], laidByText := true, laidKinds := [.data, .data, .data, .data, .data, .data, .data, .data, .data, .data], laidTests := true, laidLooks := .later }
def HeadSignsCardSaid : Prop := Claim7.holds Tryz.pinned (.plain (OpenSpec.ofChange headSignsSpec)) headSignsCard

/-- THE TIED CARD OF 'imprimaturlaw10.HeadGoes'. -/
def headGoesCard : Claim7 := { stood := { row := headGoesRow, standIns := [], harness := (true, "956d8e9fa0e99b2775c52a53b0c4bdae9beea2b976785c4081b7b49bceee264e"), looks := false }, kinds := [], alts := [], laidByText := true, laidKinds := [.data, .data, .data, .data, .data, .data, .data, .data, .data, .data, .data], laidTests := true, laidLooks := .later }
def HeadGoesCardSaid : Prop := Claim7.holds Tryz.pinned (.plain (OpenSpec.ofChange headGoesSpec)) headGoesCard

/-- THE TIED CARD OF 'imprimaturlaw10.HeadFollows'. -/
def headFollowsCard : Claim7 := { stood := { row := headFollowsRow, standIns := [], harness := (true, "956d8e9fa0e99b2775c52a53b0c4bdae9beea2b976785c4081b7b49bceee264e"), looks := false }, kinds := [], alts := [], laidByText := true, laidKinds := [.data, .data, .data, .data, .data, .data, .data, .data, .data, .data, .data], laidTests := true, laidLooks := .later }
def HeadFollowsCardSaid : Prop := Claim7.holds Tryz.pinned (.plain (OpenSpec.ofChange headFollowsSpec)) headFollowsCard

/-- THE TIED CARD OF 'imprimaturlaw10.HeadTimes'. -/
def headTimesCard : Claim7 := { stood := { row := headTimesRow, standIns := [], harness := (true, "956d8e9fa0e99b2775c52a53b0c4bdae9beea2b976785c4081b7b49bceee264e"), looks := false }, kinds := [], alts := [], laidByText := true, laidKinds := [.data, .data, .data, .data, .data, .data, .data, .data, .data, .data, .data], laidTests := true, laidLooks := .later }
def HeadTimesCardSaid : Prop := Claim7.holds Tryz.pinned (.plain (OpenSpec.ofChange headTimesSpec)) headTimesCard

/-- THE TIED CARD OF 'imprimaturlaw10.HeadParts'. -/
def headPartsCard : Claim7 := { stood := { row := headPartsRow, standIns := [], harness := (true, "956d8e9fa0e99b2775c52a53b0c4bdae9beea2b976785c4081b7b49bceee264e"), looks := false }, kinds := [], alts := [], laidByText := true, laidKinds := [.data, .data, .data, .data, .data, .data, .data, .data, .data], laidTests := true, laidLooks := .later }
def HeadPartsCardSaid : Prop := Claim7.holds Tryz.pinned (.plain (OpenSpec.ofChange headPartsSpec)) headPartsCard

/-- THE SECOND FORM's CARD OF 'imprimaturlaw10.HeadTexts'. -/
def headTextsUptoCard : Claim7 := { stood := { row := headTextsUptoRow, standIns := [], harness := (true, "956d8e9fa0e99b2775c52a53b0c4bdae9beea2b976785c4081b7b49bceee264e"), looks := false }, kinds := [], alts := [], laidByText := true, laidKinds := [.data, .data, .data, .data, .data, .data, .data, .data, .data], laidTests := true, laidLooks := .later }
def HeadTextsUptoCardSaid : Prop := Claim7.holds Tryz.pinned (.plain (OpenSpec.upto headTextsSpec)) headTextsUptoCard

/-- THE SECOND FORM's CARD OF 'imprimaturlaw10.HeadSigns'. -/
def headSignsUptoCard : Claim7 := { stood := { row := headSignsUptoRow, standIns := [], harness := (true, "956d8e9fa0e99b2775c52a53b0c4bdae9beea2b976785c4081b7b49bceee264e"), looks := false }, kinds := [], alts := [], laidByText := true, laidKinds := [.data, .data, .data, .data, .data, .data, .data, .data, .data, .data], laidTests := true, laidLooks := .later }
def HeadSignsUptoCardSaid : Prop := Claim7.holds Tryz.pinned (.plain (OpenSpec.upto headSignsSpec)) headSignsUptoCard

/-- THE SECOND FORM's CARD OF 'imprimaturlaw10.HeadGoes'. -/
def headGoesUptoCard : Claim7 := { stood := { row := headGoesUptoRow, standIns := [], harness := (true, "956d8e9fa0e99b2775c52a53b0c4bdae9beea2b976785c4081b7b49bceee264e"), looks := false }, kinds := [], alts := [], laidByText := true, laidKinds := [.data, .data, .data, .data, .data, .data, .data, .data, .data, .data, .data], laidTests := true, laidLooks := .later }
def HeadGoesUptoCardSaid : Prop := Claim7.holds Tryz.pinned (.plain (OpenSpec.upto headGoesSpec)) headGoesUptoCard

/-- THE SECOND FORM's CARD OF 'imprimaturlaw10.HeadFollows'. -/
def headFollowsUptoCard : Claim7 := { stood := { row := headFollowsUptoRow, standIns := [], harness := (true, "956d8e9fa0e99b2775c52a53b0c4bdae9beea2b976785c4081b7b49bceee264e"), looks := false }, kinds := [], alts := [], laidByText := true, laidKinds := [.data, .data, .data, .data, .data, .data, .data, .data, .data, .data, .data], laidTests := true, laidLooks := .later }
def HeadFollowsUptoCardSaid : Prop := Claim7.holds Tryz.pinned (.plain (OpenSpec.upto headFollowsSpec)) headFollowsUptoCard

/-- THE SECOND FORM's CARD OF 'imprimaturlaw10.HeadTimes'. -/
def headTimesUptoCard : Claim7 := { stood := { row := headTimesUptoRow, standIns := [], harness := (true, "956d8e9fa0e99b2775c52a53b0c4bdae9beea2b976785c4081b7b49bceee264e"), looks := false }, kinds := [], alts := [], laidByText := true, laidKinds := [.data, .data, .data, .data, .data, .data, .data, .data, .data, .data, .data], laidTests := true, laidLooks := .later }
def HeadTimesUptoCardSaid : Prop := Claim7.holds Tryz.pinned (.plain (OpenSpec.upto headTimesSpec)) headTimesUptoCard

/-- THE SECOND FORM's CARD OF 'imprimaturlaw10.HeadParts'. -/
def headPartsUptoCard : Claim7 := { stood := { row := headPartsUptoRow, standIns := [], harness := (true, "956d8e9fa0e99b2775c52a53b0c4bdae9beea2b976785c4081b7b49bceee264e"), looks := false }, kinds := [], alts := [], laidByText := true, laidKinds := [.data, .data, .data, .data, .data, .data, .data, .data, .data], laidTests := true, laidLooks := .later }
def HeadPartsUptoCardSaid : Prop := Claim7.holds Tryz.pinned (.plain (OpenSpec.upto headPartsSpec)) headPartsUptoCard
end Rows
end Go.Proofs.YtdjglghecekeoaaGreatDoor
