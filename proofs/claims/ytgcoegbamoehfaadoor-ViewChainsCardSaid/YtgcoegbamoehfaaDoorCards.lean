/-
  DERIVED. GIVEN WITH THE SEED: THE CARDS: each row of YtgcoegbamoehfaaDoorRows.lean that lists a variable, with what it lists TIED to the program's text (the seventh form; the later family's looks); each row that meets fmt, with fmt's text TOLD by the authors' own Lean function (tested against real Go, not proved from fmt's source: count such statements apart). THE CARD IS WHAT COUNTS. Prove the row's statement (the work); the ties are given (YtgcoegbamoehfaaDoorTie.lean); close each card by the builder's one call (the guide's Derived/Test/ToyasCard.lean, 'card_holds'). Laid BY PROGRAM, IN A SANDBOX (cutbox-door.mjs). By AI agents, Wed Nov 11 2026. No macro, syntax, notation, axiom, sorry.
-/
import Derived.Test.YtgcoegbamoehfaaDoorRows
import GoSem.ClaimSeven
namespace Go.Proofs.YtgcoegbamoehfaaDoor
namespace Rows

/-- THE TIED CARD OF 'sargassolaw10.ViewChains'. -/
def viewChainsCard : Claim7 := { stood := { row := viewChainsRow, standIns := [], harness := (true, "b0e23e425b3dc9e401c163c8b4b1b71a874623a77bcc7b621026ffed38f9226a"), looks := true }, kinds := [], alts := [], laidByText := true, laidKinds := [.sentinel, .sentinel, .sentinel, .sentinel, .sentinel, .sentinel, .sentinel, .sentinel, .sentinel, .sentinel, .sentinel, .sentinel, .sentinel, .sentinel, .sentinel, .sentinel, .sentinel, .sentinel, .sentinel, .sentinel, .sentinel, .sentinel, .sentinel, .sentinel, .sentinel, .data], laidTests := true, laidLooks := .later }
def ViewChainsCardSaid : Prop := Claim7.holds Tryd.pinned (.plain (OpenSpec.ofChange viewChainsSpec)) viewChainsCard

/-- THE TIED CARD OF 'sargassolaw10.ViewOnce'. -/
def viewOnceCard : Claim7 := { stood := { row := viewOnceRow, standIns := [], harness := (true, "b0e23e425b3dc9e401c163c8b4b1b71a874623a77bcc7b621026ffed38f9226a"), looks := true }, kinds := [], alts := [], laidByText := true, laidKinds := [.sentinel, .sentinel, .sentinel, .sentinel, .sentinel, .sentinel, .sentinel, .sentinel, .sentinel, .sentinel, .sentinel, .sentinel, .sentinel, .sentinel, .sentinel, .sentinel, .sentinel, .sentinel, .sentinel, .sentinel, .sentinel, .sentinel, .sentinel, .sentinel, .sentinel, .data], laidTests := true, laidLooks := .later }
def ViewOnceCardSaid : Prop := Claim7.holds Tryd.pinned (.plain (OpenSpec.ofChange viewOnceSpec)) viewOnceCard

/-- THE SECOND FORM's CARD OF 'sargassolaw10.ViewChains'. -/
def viewChainsUptoCard : Claim7 := { stood := { row := viewChainsUptoRow, standIns := [], harness := (true, "b0e23e425b3dc9e401c163c8b4b1b71a874623a77bcc7b621026ffed38f9226a"), looks := true }, kinds := [], alts := [], laidByText := true, laidKinds := [.sentinel, .sentinel, .sentinel, .sentinel, .sentinel, .sentinel, .sentinel, .sentinel, .sentinel, .sentinel, .sentinel, .sentinel, .sentinel, .sentinel, .sentinel, .sentinel, .sentinel, .sentinel, .sentinel, .sentinel, .sentinel, .sentinel, .sentinel, .sentinel, .sentinel, .data], laidTests := true, laidLooks := .later }
def ViewChainsUptoCardSaid : Prop := Claim7.holds Tryd.pinned (.plain (OpenSpec.upto viewChainsSpec)) viewChainsUptoCard

/-- THE SECOND FORM's CARD OF 'sargassolaw10.ViewOnce'. -/
def viewOnceUptoCard : Claim7 := { stood := { row := viewOnceUptoRow, standIns := [], harness := (true, "b0e23e425b3dc9e401c163c8b4b1b71a874623a77bcc7b621026ffed38f9226a"), looks := true }, kinds := [], alts := [], laidByText := true, laidKinds := [.sentinel, .sentinel, .sentinel, .sentinel, .sentinel, .sentinel, .sentinel, .sentinel, .sentinel, .sentinel, .sentinel, .sentinel, .sentinel, .sentinel, .sentinel, .sentinel, .sentinel, .sentinel, .sentinel, .sentinel, .sentinel, .sentinel, .sentinel, .sentinel, .sentinel, .data], laidTests := true, laidLooks := .later }
def ViewOnceUptoCardSaid : Prop := Claim7.holds Tryd.pinned (.plain (OpenSpec.upto viewOnceSpec)) viewOnceUptoCard
end Rows
end Go.Proofs.YtgcoegbamoehfaaDoor
