/-
  DERIVED. GIVEN WITH THE SEED: THE CARDS: each row of YtknpgijapbkebaaDoorRows.lean that lists a variable, with what it lists TIED to the program's text (the seventh form; the later family's looks); each row that meets fmt, with fmt's text TOLD by the authors' own Lean function (tested against real Go, not proved from fmt's source: count such statements apart). THE CARD IS WHAT COUNTS. Prove the row's statement (the work); the ties are given (YtknpgijapbkebaaDoorTie.lean); close each card by the builder's one call (the guide's Derived/Test/ToyasCard.lean, 'card_holds'). Laid BY PROGRAM, IN A SANDBOX (cutbox-door.mjs). By AI agents, Wed Nov 11 2026. No macro, syntax, notation, axiom, sorry.
-/
import Derived.Test.YtknpgijapbkebaaDoorRows
import GoSem.ClaimSeven
namespace Go.Proofs.YtknpgijapbkebaaDoor
namespace Rows

/-- THE TIED CARD OF 'imprimaturlaw05.ScalarReckons'. -/
def scalarReckonsCard : Claim7 := { stood := { row := scalarReckonsRow, standIns := [], harness := (true, "4d6718ad8f1f9e3def96e7b9d336a2659919086a713936364679b2b9d5b7c5d7"), looks := false }, kinds := [], alts := [], laidByText := true, laidKinds := [.data], laidTests := true, laidLooks := .later }
def ScalarReckonsCardSaid : Prop := Claim7.holds Tryd.pinned (.plain (OpenSpec.ofChange scalarReckonsSpec)) scalarReckonsCard

/-- THE TIED CARD OF 'imprimaturlaw05.ScalarBytes'. -/
def scalarBytesCard : Claim7 := { stood := { row := scalarBytesRow, standIns := [], harness := (true, "4d6718ad8f1f9e3def96e7b9d336a2659919086a713936364679b2b9d5b7c5d7"), looks := false }, kinds := [], alts := [], laidByText := true, laidKinds := [.data], laidTests := true, laidLooks := .later }
def ScalarBytesCardSaid : Prop := Claim7.holds Tryd.pinned (.plain (OpenSpec.ofChange scalarBytesSpec)) scalarBytesCard

/-- THE TIED CARD OF 'imprimaturlaw05.ScalarBack'. -/
def scalarBackCard : Claim7 := { stood := { row := scalarBackRow, standIns := [], harness := (true, "4d6718ad8f1f9e3def96e7b9d336a2659919086a713936364679b2b9d5b7c5d7"), looks := false }, kinds := [], alts := [], laidByText := true, laidKinds := [.data], laidTests := true, laidLooks := .later }
def ScalarBackCardSaid : Prop := Claim7.holds Tryd.pinned (.plain (OpenSpec.ofChange scalarBackSpec)) scalarBackCard

/-- THE TIED CARD OF 'imprimaturlaw05.ScalarRules'. -/
def scalarRulesCard : Claim7 := { stood := { row := scalarRulesRow, standIns := [], harness := (true, "4d6718ad8f1f9e3def96e7b9d336a2659919086a713936364679b2b9d5b7c5d7"), looks := false }, kinds := [], alts := [], laidByText := true, laidKinds := [.data], laidTests := true, laidLooks := .later }
def ScalarRulesCardSaid : Prop := Claim7.holds Tryd.pinned (.plain (OpenSpec.ofChange scalarRulesSpec)) scalarRulesCard

/-- THE TIED CARD OF 'imprimaturlaw05.ScalarJoins'. -/
def scalarJoinsCard : Claim7 := { stood := { row := scalarJoinsRow, standIns := [], harness := (true, "4d6718ad8f1f9e3def96e7b9d336a2659919086a713936364679b2b9d5b7c5d7"), looks := false }, kinds := [], alts := [], laidByText := true, laidKinds := [.data], laidTests := true, laidLooks := .later }
def ScalarJoinsCardSaid : Prop := Claim7.holds Tryd.pinned (.plain (OpenSpec.ofChange scalarJoinsSpec)) scalarJoinsCard

/-- THE SECOND FORM's CARD OF 'imprimaturlaw05.ScalarReckons'. -/
def scalarReckonsUptoCard : Claim7 := { stood := { row := scalarReckonsUptoRow, standIns := [], harness := (true, "4d6718ad8f1f9e3def96e7b9d336a2659919086a713936364679b2b9d5b7c5d7"), looks := false }, kinds := [], alts := [], laidByText := true, laidKinds := [.data], laidTests := true, laidLooks := .later }
def ScalarReckonsUptoCardSaid : Prop := Claim7.holds Tryd.pinned (.plain (OpenSpec.upto scalarReckonsSpec)) scalarReckonsUptoCard

/-- THE SECOND FORM's CARD OF 'imprimaturlaw05.ScalarBytes'. -/
def scalarBytesUptoCard : Claim7 := { stood := { row := scalarBytesUptoRow, standIns := [], harness := (true, "4d6718ad8f1f9e3def96e7b9d336a2659919086a713936364679b2b9d5b7c5d7"), looks := false }, kinds := [], alts := [], laidByText := true, laidKinds := [.data], laidTests := true, laidLooks := .later }
def ScalarBytesUptoCardSaid : Prop := Claim7.holds Tryd.pinned (.plain (OpenSpec.upto scalarBytesSpec)) scalarBytesUptoCard

/-- THE SECOND FORM's CARD OF 'imprimaturlaw05.ScalarBack'. -/
def scalarBackUptoCard : Claim7 := { stood := { row := scalarBackUptoRow, standIns := [], harness := (true, "4d6718ad8f1f9e3def96e7b9d336a2659919086a713936364679b2b9d5b7c5d7"), looks := false }, kinds := [], alts := [], laidByText := true, laidKinds := [.data], laidTests := true, laidLooks := .later }
def ScalarBackUptoCardSaid : Prop := Claim7.holds Tryd.pinned (.plain (OpenSpec.upto scalarBackSpec)) scalarBackUptoCard

/-- THE SECOND FORM's CARD OF 'imprimaturlaw05.ScalarRules'. -/
def scalarRulesUptoCard : Claim7 := { stood := { row := scalarRulesUptoRow, standIns := [], harness := (true, "4d6718ad8f1f9e3def96e7b9d336a2659919086a713936364679b2b9d5b7c5d7"), looks := false }, kinds := [], alts := [], laidByText := true, laidKinds := [.data], laidTests := true, laidLooks := .later }
def ScalarRulesUptoCardSaid : Prop := Claim7.holds Tryd.pinned (.plain (OpenSpec.upto scalarRulesSpec)) scalarRulesUptoCard

/-- THE SECOND FORM's CARD OF 'imprimaturlaw05.ScalarJoins'. -/
def scalarJoinsUptoCard : Claim7 := { stood := { row := scalarJoinsUptoRow, standIns := [], harness := (true, "4d6718ad8f1f9e3def96e7b9d336a2659919086a713936364679b2b9d5b7c5d7"), looks := false }, kinds := [], alts := [], laidByText := true, laidKinds := [.data], laidTests := true, laidLooks := .later }
def ScalarJoinsUptoCardSaid : Prop := Claim7.holds Tryd.pinned (.plain (OpenSpec.upto scalarJoinsSpec)) scalarJoinsUptoCard
end Rows
end Go.Proofs.YtknpgijapbkebaaDoor
