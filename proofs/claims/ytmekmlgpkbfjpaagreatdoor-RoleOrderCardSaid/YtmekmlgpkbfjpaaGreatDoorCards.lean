/-
  DERIVED. GIVEN WITH THE SEED: THE CARDS: each row of YtmekmlgpkbfjpaaGreatDoorRows.lean that lists a variable, with what it lists TIED to the program's text (the seventh form; the later family's looks); each row that meets fmt, with fmt's text TOLD by the authors' own Lean function (tested against real Go, not proved from fmt's source: count such statements apart). THE CARD IS WHAT COUNTS. Prove the row's statement (the work); the ties are given (YtmekmlgpkbfjpaaGreatDoorTie.lean); close each card by the builder's one call (the guide's Derived/Test/ToyasCard.lean, 'card_holds'). Laid BY PROGRAM, IN A SANDBOX (cutbox-door.mjs). By AI agents, Wed Nov 11 2026. No macro, syntax, notation, axiom, sorry.
-/
import Derived.Test.YtmekmlgpkbfjpaaGreatDoorRows
import GoSem.ClaimSeven
namespace Go.Proofs.YtmekmlgpkbfjpaaGreatDoor
namespace Rows

/-- THE TIED CARD OF 'imprimaturlaw14.RoleCounts'. -/
def roleCountsCard : Claim7 := { stood := { row := roleCountsRow, standIns := [], harness := (true, "0d375b99d1d51a773a663b69c6fd2374ff5c93f70f815305f3f75494ddfc6c3b"), looks := false }, kinds := [], alts := [], laidByText := true, laidKinds := [.data, .data, .data, .data, .data, .data, .data, .data, .data, .data], laidTests := true, laidLooks := .later }
def RoleCountsCardSaid : Prop := Claim7.holds Tryz.pinned (.plain (OpenSpec.ofChange roleCountsSpec)) roleCountsCard

/-- THE TIED CARD OF 'imprimaturlaw14.RoleSigns'. -/
def roleSignsCard : Claim7 := { stood := { row := roleSignsRow, standIns := [], harness := (true, "0d375b99d1d51a773a663b69c6fd2374ff5c93f70f815305f3f75494ddfc6c3b"), looks := false }, kinds := [], alts := [], laidByText := true, laidKinds := [.data, .data, .data, .data, .data, .data, .data, .data, .data, .data], laidTests := true, laidLooks := .later }
def RoleSignsCardSaid : Prop := Claim7.holds Tryz.pinned (.plain (OpenSpec.ofChange roleSignsSpec)) roleSignsCard

/-- THE TIED CARD OF 'imprimaturlaw14.RoleNeeds'. -/
def roleNeedsCard : Claim7 := { stood := { row := roleNeedsRow, standIns := [], harness := (true, "0d375b99d1d51a773a663b69c6fd2374ff5c93f70f815305f3f75494ddfc6c3b"), looks := false }, kinds := [], alts := [], laidByText := true, laidKinds := [.data, .data, .data, .data, .data, .data, .data, .data, .data, .data], laidTests := true, laidLooks := .later }
def RoleNeedsCardSaid : Prop := Claim7.holds Tryz.pinned (.plain (OpenSpec.ofChange roleNeedsSpec)) roleNeedsCard

/-- THE TIED CARD OF 'imprimaturlaw14.RoleOrder'. -/
def roleOrderCard : Claim7 := { stood := { row := roleOrderRow, standIns := [], harness := (true, "0d375b99d1d51a773a663b69c6fd2374ff5c93f70f815305f3f75494ddfc6c3b"), looks := false }, kinds := [], alts := [], laidByText := true, laidKinds := [.data, .data, .data, .data, .data, .data, .data, .data, .data, .data], laidTests := true, laidLooks := .later }
def RoleOrderCardSaid : Prop := Claim7.holds Tryz.pinned (.plain (OpenSpec.ofChange roleOrderSpec)) roleOrderCard

/-- THE TIED CARD OF 'imprimaturlaw14.RoleFirst'. -/
def roleFirstCard : Claim7 := { stood := { row := roleFirstRow, standIns := [], harness := (true, "0d375b99d1d51a773a663b69c6fd2374ff5c93f70f815305f3f75494ddfc6c3b"), looks := false }, kinds := [], alts := [], laidByText := true, laidKinds := [.data, .data, .data, .data, .data, .data, .data, .data, .data, .data], laidTests := true, laidLooks := .later }
def RoleFirstCardSaid : Prop := Claim7.holds Tryz.pinned (.plain (OpenSpec.ofChange roleFirstSpec)) roleFirstCard

/-- THE SECOND FORM's CARD OF 'imprimaturlaw14.RoleCounts'. -/
def roleCountsUptoCard : Claim7 := { stood := { row := roleCountsUptoRow, standIns := [], harness := (true, "0d375b99d1d51a773a663b69c6fd2374ff5c93f70f815305f3f75494ddfc6c3b"), looks := false }, kinds := [], alts := [], laidByText := true, laidKinds := [.data, .data, .data, .data, .data, .data, .data, .data, .data, .data], laidTests := true, laidLooks := .later }
def RoleCountsUptoCardSaid : Prop := Claim7.holds Tryz.pinned (.plain (OpenSpec.upto roleCountsSpec)) roleCountsUptoCard

/-- THE SECOND FORM's CARD OF 'imprimaturlaw14.RoleSigns'. -/
def roleSignsUptoCard : Claim7 := { stood := { row := roleSignsUptoRow, standIns := [], harness := (true, "0d375b99d1d51a773a663b69c6fd2374ff5c93f70f815305f3f75494ddfc6c3b"), looks := false }, kinds := [], alts := [], laidByText := true, laidKinds := [.data, .data, .data, .data, .data, .data, .data, .data, .data, .data], laidTests := true, laidLooks := .later }
def RoleSignsUptoCardSaid : Prop := Claim7.holds Tryz.pinned (.plain (OpenSpec.upto roleSignsSpec)) roleSignsUptoCard

/-- THE SECOND FORM's CARD OF 'imprimaturlaw14.RoleNeeds'. -/
def roleNeedsUptoCard : Claim7 := { stood := { row := roleNeedsUptoRow, standIns := [], harness := (true, "0d375b99d1d51a773a663b69c6fd2374ff5c93f70f815305f3f75494ddfc6c3b"), looks := false }, kinds := [], alts := [], laidByText := true, laidKinds := [.data, .data, .data, .data, .data, .data, .data, .data, .data, .data], laidTests := true, laidLooks := .later }
def RoleNeedsUptoCardSaid : Prop := Claim7.holds Tryz.pinned (.plain (OpenSpec.upto roleNeedsSpec)) roleNeedsUptoCard

/-- THE SECOND FORM's CARD OF 'imprimaturlaw14.RoleOrder'. -/
def roleOrderUptoCard : Claim7 := { stood := { row := roleOrderUptoRow, standIns := [], harness := (true, "0d375b99d1d51a773a663b69c6fd2374ff5c93f70f815305f3f75494ddfc6c3b"), looks := false }, kinds := [], alts := [], laidByText := true, laidKinds := [.data, .data, .data, .data, .data, .data, .data, .data, .data, .data], laidTests := true, laidLooks := .later }
def RoleOrderUptoCardSaid : Prop := Claim7.holds Tryz.pinned (.plain (OpenSpec.upto roleOrderSpec)) roleOrderUptoCard

/-- THE SECOND FORM's CARD OF 'imprimaturlaw14.RoleFirst'. -/
def roleFirstUptoCard : Claim7 := { stood := { row := roleFirstUptoRow, standIns := [], harness := (true, "0d375b99d1d51a773a663b69c6fd2374ff5c93f70f815305f3f75494ddfc6c3b"), looks := false }, kinds := [], alts := [], laidByText := true, laidKinds := [.data, .data, .data, .data, .data, .data, .data, .data, .data, .data], laidTests := true, laidLooks := .later }
def RoleFirstUptoCardSaid : Prop := Claim7.holds Tryz.pinned (.plain (OpenSpec.upto roleFirstSpec)) roleFirstUptoCard
end Rows
end Go.Proofs.YtmekmlgpkbfjpaaGreatDoor
