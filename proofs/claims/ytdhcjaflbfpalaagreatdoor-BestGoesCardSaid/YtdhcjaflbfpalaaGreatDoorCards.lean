/-
  DERIVED. GIVEN WITH THE SEED: THE CARDS: each row of YtdhcjaflbfpalaaGreatDoorRows.lean that lists a variable, with what it lists TIED to the program's text (the seventh form; the later family's looks); each row that meets fmt, with fmt's text TOLD by the authors' own Lean function (tested against real Go, not proved from fmt's source: count such statements apart). THE CARD IS WHAT COUNTS. Prove the row's statement (the work); the ties are given (YtdhcjaflbfpalaaGreatDoorTie.lean); close each card by the builder's one call (the guide's Derived/Test/ToyasCard.lean, 'card_holds'). Laid BY PROGRAM, IN A SANDBOX (cutbox-door.mjs). By AI agents, Wed Nov 11 2026. No macro, syntax, notation, axiom, sorry.
-/
import Derived.Test.YtdhcjaflbfpalaaGreatDoorRows
import GoSem.ClaimSeven
namespace Go.Proofs.YtdhcjaflbfpalaaGreatDoor
namespace Rows

/-- THE TIED CARD OF 'sargassolaw13.BestPlays'. -/
def bestPlaysCard : Claim7 := { stood := { row := bestPlaysRow, standIns := [], harness := (true, "dcc4f086f6b8ee41f1a8697dbc9b0260785242c8458914a8c65d04c1e3b6db97"), looks := true }, kinds := [], alts := [], laidByText := true, laidKinds := [.sentinel, .sentinel, .sentinel, .data], laidTests := true, laidLooks := .later }
def BestPlaysCardSaid : Prop := Claim7.holds Tryz.pinned (.plain (OpenSpec.ofChange bestPlaysSpec)) bestPlaysCard

/-- THE TIED CARD OF 'sargassolaw13.BestOver'. -/
def bestOverCard : Claim7 := { stood := { row := bestOverRow, standIns := [], harness := (true, "dcc4f086f6b8ee41f1a8697dbc9b0260785242c8458914a8c65d04c1e3b6db97"), looks := true }, kinds := [], alts := [], laidByText := true, laidKinds := [.sentinel, .sentinel, .sentinel, .data], laidTests := true, laidLooks := .later }
def BestOverCardSaid : Prop := Claim7.holds Tryz.pinned (.plain (OpenSpec.ofChange bestOverSpec)) bestOverCard

/-- THE TIED CARD OF 'sargassolaw13.BestGoes'. -/
def bestGoesCard : Claim7 := { stood := { row := bestGoesRow, standIns := [], harness := (true, "dcc4f086f6b8ee41f1a8697dbc9b0260785242c8458914a8c65d04c1e3b6db97"), looks := true }, kinds := [], alts := [], laidByText := true, laidKinds := [.sentinel, .sentinel, .sentinel, .data], laidTests := true, laidLooks := .later }
def BestGoesCardSaid : Prop := Claim7.holds Tryz.pinned (.plain (OpenSpec.ofChange bestGoesSpec)) bestGoesCard

/-- THE SECOND FORM's CARD OF 'sargassolaw13.BestPlays'. -/
def bestPlaysUptoCard : Claim7 := { stood := { row := bestPlaysUptoRow, standIns := [], harness := (true, "dcc4f086f6b8ee41f1a8697dbc9b0260785242c8458914a8c65d04c1e3b6db97"), looks := true }, kinds := [], alts := [], laidByText := true, laidKinds := [.sentinel, .sentinel, .sentinel, .data], laidTests := true, laidLooks := .later }
def BestPlaysUptoCardSaid : Prop := Claim7.holds Tryz.pinned (.plain (OpenSpec.upto bestPlaysSpec)) bestPlaysUptoCard

/-- THE SECOND FORM's CARD OF 'sargassolaw13.BestOver'. -/
def bestOverUptoCard : Claim7 := { stood := { row := bestOverUptoRow, standIns := [], harness := (true, "dcc4f086f6b8ee41f1a8697dbc9b0260785242c8458914a8c65d04c1e3b6db97"), looks := true }, kinds := [], alts := [], laidByText := true, laidKinds := [.sentinel, .sentinel, .sentinel, .data], laidTests := true, laidLooks := .later }
def BestOverUptoCardSaid : Prop := Claim7.holds Tryz.pinned (.plain (OpenSpec.upto bestOverSpec)) bestOverUptoCard

/-- THE SECOND FORM's CARD OF 'sargassolaw13.BestGoes'. -/
def bestGoesUptoCard : Claim7 := { stood := { row := bestGoesUptoRow, standIns := [], harness := (true, "dcc4f086f6b8ee41f1a8697dbc9b0260785242c8458914a8c65d04c1e3b6db97"), looks := true }, kinds := [], alts := [], laidByText := true, laidKinds := [.sentinel, .sentinel, .sentinel, .data], laidTests := true, laidLooks := .later }
def BestGoesUptoCardSaid : Prop := Claim7.holds Tryz.pinned (.plain (OpenSpec.upto bestGoesSpec)) bestGoesUptoCard
end Rows
end Go.Proofs.YtdhcjaflbfpalaaGreatDoor
