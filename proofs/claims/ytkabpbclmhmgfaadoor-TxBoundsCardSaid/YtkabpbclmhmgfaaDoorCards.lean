/-
  DERIVED. GIVEN WITH THE SEED: THE CARDS: each row of YtkabpbclmhmgfaaDoorRows.lean that lists a variable, with what it lists TIED to the program's text (the seventh form; the later family's looks); each row that meets fmt, with fmt's text TOLD by the authors' own Lean function (tested against real Go, not proved from fmt's source: count such statements apart). THE CARD IS WHAT COUNTS. Prove the row's statement (the work); the ties are given (YtkabpbclmhmgfaaDoorTie.lean); close each card by the builder's one call (the guide's Derived/Test/ToyasCard.lean, 'card_holds'). Laid BY PROGRAM, IN A SANDBOX (cutbox-door.mjs). By AI agents, Wed Nov 11 2026. No macro, syntax, notation, axiom, sorry.
-/
import Derived.Test.YtkabpbclmhmgfaaDoorRows
import GoSem.ClaimSeven
namespace Go.Proofs.YtkabpbclmhmgfaaDoor
namespace Rows

/-- THE TIED CARD OF 'sargassolaw4.TxSays'. -/
def txSaysCard : Claim7 := { stood := { row := txSaysRow, standIns := [], harness := (true, "88ce303e025cb3be2420f66f297b5557089e13da8808a0e5556a6f8855a53dfd"), looks := true }, kinds := [], alts := [], laidByText := true, laidKinds := [.sentinel, .sentinel, .sentinel, .sentinel, .sentinel, .sentinel, .sentinel, .sentinel, .sentinel, .sentinel, .sentinel, .sentinel, .sentinel, .sentinel, .sentinel, .sentinel, .sentinel, .sentinel, .sentinel, .sentinel, .sentinel, .sentinel, .sentinel, .sentinel, .sentinel, .data], laidTests := true, laidLooks := .later }
def TxSaysCardSaid : Prop := Claim7.holds Tryd.pinned (.plain (OpenSpec.ofChange txSaysSpec)) txSaysCard

/-- THE TIED CARD OF 'sargassolaw4.TxBack'. -/
def txBackCard : Claim7 := { stood := { row := txBackRow, standIns := [], harness := (true, "88ce303e025cb3be2420f66f297b5557089e13da8808a0e5556a6f8855a53dfd"), looks := true }, kinds := [], alts := [], laidByText := true, laidKinds := [.sentinel, .sentinel, .sentinel, .sentinel, .sentinel, .sentinel, .sentinel, .sentinel, .sentinel, .sentinel, .sentinel, .sentinel, .sentinel, .sentinel, .sentinel, .sentinel, .sentinel, .sentinel, .sentinel, .sentinel, .sentinel, .sentinel, .sentinel, .sentinel, .sentinel], laidTests := true, laidLooks := .later }
def TxBackCardSaid : Prop := Claim7.holds Tryd.pinned (.plain (OpenSpec.ofChange txBackSpec)) txBackCard

/-- THE TIED CARD OF 'sargassolaw4.TxTurned'. -/
def txTurnedCard : Claim7 := { stood := { row := txTurnedRow, standIns := [], harness := (true, "88ce303e025cb3be2420f66f297b5557089e13da8808a0e5556a6f8855a53dfd"), looks := true }, kinds := [], alts := [], laidByText := true, laidKinds := [.sentinel, .sentinel, .sentinel, .sentinel, .sentinel, .sentinel, .sentinel, .sentinel], laidTests := true, laidLooks := .later }
def TxTurnedCardSaid : Prop := Claim7.holds Tryd.pinned (.plain (OpenSpec.ofChange txTurnedSpec)) txTurnedCard

/-- THE TIED CARD OF 'sargassolaw4.TxBounds'. -/
def txBoundsCard : Claim7 := { stood := { row := txBoundsRow, standIns := [], harness := (true, "88ce303e025cb3be2420f66f297b5557089e13da8808a0e5556a6f8855a53dfd"), looks := true }, kinds := [], alts := [], laidByText := true, laidKinds := [.sentinel, .sentinel, .sentinel, .sentinel, .sentinel, .sentinel, .sentinel, .sentinel, .sentinel, .sentinel, .sentinel, .sentinel, .sentinel, .sentinel, .sentinel, .sentinel, .sentinel, .sentinel, .sentinel, .sentinel, .sentinel, .sentinel, .sentinel, .sentinel, .sentinel], laidTests := true, laidLooks := .later }
def TxBoundsCardSaid : Prop := Claim7.holds Tryd.pinned (.plain (OpenSpec.ofChange txBoundsSpec)) txBoundsCard

/-- THE TIED CARD OF 'sargassolaw4.TxSizes'. -/
def txSizesCard : Claim7 := { stood := { row := txSizesRow, standIns := [], harness := (true, "88ce303e025cb3be2420f66f297b5557089e13da8808a0e5556a6f8855a53dfd"), looks := true }, kinds := [], alts := [], laidByText := true, laidKinds := [.sentinel, .sentinel, .sentinel, .sentinel, .sentinel, .sentinel, .sentinel, .sentinel], laidTests := true, laidLooks := .later }
def TxSizesCardSaid : Prop := Claim7.holds Tryd.pinned (.plain (OpenSpec.ofChange txSizesSpec)) txSizesCard

/-- THE TIED CARD OF 'sargassolaw4.TxBases'. -/
def txBasesCard : Claim7 := { stood := { row := txBasesRow, standIns := [], harness := (true, "88ce303e025cb3be2420f66f297b5557089e13da8808a0e5556a6f8855a53dfd"), looks := true }, kinds := [], alts := [], laidByText := true, laidKinds := [.sentinel, .sentinel, .sentinel, .sentinel, .sentinel, .sentinel, .sentinel, .sentinel, .sentinel, .sentinel, .sentinel, .sentinel, .sentinel, .sentinel, .sentinel, .sentinel, .sentinel, .sentinel, .sentinel, .sentinel, .sentinel, .sentinel, .sentinel, .sentinel, .sentinel], laidTests := true, laidLooks := .later }
def TxBasesCardSaid : Prop := Claim7.holds Tryd.pinned (.plain (OpenSpec.ofChange txBasesSpec)) txBasesCard

/-- THE SECOND FORM's CARD OF 'sargassolaw4.TxSays'. -/
def txSaysUptoCard : Claim7 := { stood := { row := txSaysUptoRow, standIns := [], harness := (true, "88ce303e025cb3be2420f66f297b5557089e13da8808a0e5556a6f8855a53dfd"), looks := true }, kinds := [], alts := [], laidByText := true, laidKinds := [.sentinel, .sentinel, .sentinel, .sentinel, .sentinel, .sentinel, .sentinel, .sentinel, .sentinel, .sentinel, .sentinel, .sentinel, .sentinel, .sentinel, .sentinel, .sentinel, .sentinel, .sentinel, .sentinel, .sentinel, .sentinel, .sentinel, .sentinel, .sentinel, .sentinel, .data], laidTests := true, laidLooks := .later }
def TxSaysUptoCardSaid : Prop := Claim7.holds Tryd.pinned (.plain (OpenSpec.upto txSaysSpec)) txSaysUptoCard

/-- THE SECOND FORM's CARD OF 'sargassolaw4.TxBack'. -/
def txBackUptoCard : Claim7 := { stood := { row := txBackUptoRow, standIns := [], harness := (true, "88ce303e025cb3be2420f66f297b5557089e13da8808a0e5556a6f8855a53dfd"), looks := true }, kinds := [], alts := [], laidByText := true, laidKinds := [.sentinel, .sentinel, .sentinel, .sentinel, .sentinel, .sentinel, .sentinel, .sentinel, .sentinel, .sentinel, .sentinel, .sentinel, .sentinel, .sentinel, .sentinel, .sentinel, .sentinel, .sentinel, .sentinel, .sentinel, .sentinel, .sentinel, .sentinel, .sentinel, .sentinel], laidTests := true, laidLooks := .later }
def TxBackUptoCardSaid : Prop := Claim7.holds Tryd.pinned (.plain (OpenSpec.upto txBackSpec)) txBackUptoCard

/-- THE SECOND FORM's CARD OF 'sargassolaw4.TxTurned'. -/
def txTurnedUptoCard : Claim7 := { stood := { row := txTurnedUptoRow, standIns := [], harness := (true, "88ce303e025cb3be2420f66f297b5557089e13da8808a0e5556a6f8855a53dfd"), looks := true }, kinds := [], alts := [], laidByText := true, laidKinds := [.sentinel, .sentinel, .sentinel, .sentinel, .sentinel, .sentinel, .sentinel, .sentinel], laidTests := true, laidLooks := .later }
def TxTurnedUptoCardSaid : Prop := Claim7.holds Tryd.pinned (.plain (OpenSpec.upto txTurnedSpec)) txTurnedUptoCard

/-- THE SECOND FORM's CARD OF 'sargassolaw4.TxBounds'. -/
def txBoundsUptoCard : Claim7 := { stood := { row := txBoundsUptoRow, standIns := [], harness := (true, "88ce303e025cb3be2420f66f297b5557089e13da8808a0e5556a6f8855a53dfd"), looks := true }, kinds := [], alts := [], laidByText := true, laidKinds := [.sentinel, .sentinel, .sentinel, .sentinel, .sentinel, .sentinel, .sentinel, .sentinel, .sentinel, .sentinel, .sentinel, .sentinel, .sentinel, .sentinel, .sentinel, .sentinel, .sentinel, .sentinel, .sentinel, .sentinel, .sentinel, .sentinel, .sentinel, .sentinel, .sentinel], laidTests := true, laidLooks := .later }
def TxBoundsUptoCardSaid : Prop := Claim7.holds Tryd.pinned (.plain (OpenSpec.upto txBoundsSpec)) txBoundsUptoCard

/-- THE SECOND FORM's CARD OF 'sargassolaw4.TxSizes'. -/
def txSizesUptoCard : Claim7 := { stood := { row := txSizesUptoRow, standIns := [], harness := (true, "88ce303e025cb3be2420f66f297b5557089e13da8808a0e5556a6f8855a53dfd"), looks := true }, kinds := [], alts := [], laidByText := true, laidKinds := [.sentinel, .sentinel, .sentinel, .sentinel, .sentinel, .sentinel, .sentinel, .sentinel], laidTests := true, laidLooks := .later }
def TxSizesUptoCardSaid : Prop := Claim7.holds Tryd.pinned (.plain (OpenSpec.upto txSizesSpec)) txSizesUptoCard

/-- THE SECOND FORM's CARD OF 'sargassolaw4.TxBases'. -/
def txBasesUptoCard : Claim7 := { stood := { row := txBasesUptoRow, standIns := [], harness := (true, "88ce303e025cb3be2420f66f297b5557089e13da8808a0e5556a6f8855a53dfd"), looks := true }, kinds := [], alts := [], laidByText := true, laidKinds := [.sentinel, .sentinel, .sentinel, .sentinel, .sentinel, .sentinel, .sentinel, .sentinel, .sentinel, .sentinel, .sentinel, .sentinel, .sentinel, .sentinel, .sentinel, .sentinel, .sentinel, .sentinel, .sentinel, .sentinel, .sentinel, .sentinel, .sentinel, .sentinel, .sentinel], laidTests := true, laidLooks := .later }
def TxBasesUptoCardSaid : Prop := Claim7.holds Tryd.pinned (.plain (OpenSpec.upto txBasesSpec)) txBasesUptoCard
end Rows
end Go.Proofs.YtkabpbclmhmgfaaDoor
