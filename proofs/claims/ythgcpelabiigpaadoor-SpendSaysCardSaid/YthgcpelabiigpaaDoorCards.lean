/-
  DERIVED. GIVEN WITH THE SEED: THE CARDS: each row of YthgcpelabiigpaaDoorRows.lean that lists a variable, with what it lists TIED to the program's text (the seventh form; the later family's looks); each row that meets fmt, with fmt's text TOLD by the authors' own Lean function (tested against real Go, not proved from fmt's source: count such statements apart). THE CARD IS WHAT COUNTS. Prove the row's statement (the work); the ties are given (YthgcpelabiigpaaDoorTie.lean); close each card by the builder's one call (the guide's Derived/Test/ToyasCard.lean, 'card_holds'). Laid BY PROGRAM, IN A SANDBOX (cutbox-door.mjs). By AI agents, Wed Nov 11 2026. No macro, syntax, notation, axiom, sorry.
-/
import Derived.Test.YthgcpelabiigpaaDoorRows
import GoSem.ClaimSeven
namespace Go.Proofs.YthgcpelabiigpaaDoor
namespace Rows

/-- THE TIED CARD OF 'sargassolaw3.SpendSays'. -/
def spendSaysCard : Claim7 := { stood := { row := spendSaysRow, standIns := [], harness := (true, "fcd8339a7bfc1209ce9bc473dadd6d010fa754f7a97f1704b88b7a25ebaba9bc"), looks := false }, kinds := [], alts := [], laidByText := true, laidKinds := [.data], laidTests := true, laidLooks := .later }
def SpendSaysCardSaid : Prop := Claim7.holds Tryd.pinned (.plain (OpenSpec.ofChange spendSaysSpec)) spendSaysCard

/-- THE TIED CARD OF 'sargassolaw3.SpendKeys'. -/
def spendKeysCard : Claim7 := { stood := { row := spendKeysRow, standIns := [], harness := (true, "fcd8339a7bfc1209ce9bc473dadd6d010fa754f7a97f1704b88b7a25ebaba9bc"), looks := false }, kinds := [], alts := [], laidByText := true, laidKinds := [.data], laidTests := true, laidLooks := .later }
def SpendKeysCardSaid : Prop := Claim7.holds Tryd.pinned (.plain (OpenSpec.ofChange spendKeysSpec)) spendKeysCard

/-- THE TIED CARD OF 'sargassolaw3.SpendOrder'. -/
def spendOrderCard : Claim7 := { stood := { row := spendOrderRow, standIns := [], harness := (true, "fcd8339a7bfc1209ce9bc473dadd6d010fa754f7a97f1704b88b7a25ebaba9bc"), looks := false }, kinds := [], alts := [], laidByText := true, laidKinds := [.data], laidTests := true, laidLooks := .later }
def SpendOrderCardSaid : Prop := Claim7.holds Tryd.pinned (.plain (OpenSpec.ofChange spendOrderSpec)) spendOrderCard

/-- THE TIED CARD OF 'sargassolaw3.SpendNulls'. -/
def spendNullsCard : Claim7 := { stood := { row := spendNullsRow, standIns := [], harness := (true, "fcd8339a7bfc1209ce9bc473dadd6d010fa754f7a97f1704b88b7a25ebaba9bc"), looks := false }, kinds := [], alts := [], laidByText := true, laidKinds := [.data], laidTests := true, laidLooks := .later }
def SpendNullsCardSaid : Prop := Claim7.holds Tryd.pinned (.plain (OpenSpec.ofChange spendNullsSpec)) spendNullsCard

/-- THE SECOND FORM's CARD OF 'sargassolaw3.SpendSays'. -/
def spendSaysUptoCard : Claim7 := { stood := { row := spendSaysUptoRow, standIns := [], harness := (true, "fcd8339a7bfc1209ce9bc473dadd6d010fa754f7a97f1704b88b7a25ebaba9bc"), looks := false }, kinds := [], alts := [], laidByText := true, laidKinds := [.data], laidTests := true, laidLooks := .later }
def SpendSaysUptoCardSaid : Prop := Claim7.holds Tryd.pinned (.plain (OpenSpec.upto spendSaysSpec)) spendSaysUptoCard

/-- THE SECOND FORM's CARD OF 'sargassolaw3.SpendKeys'. -/
def spendKeysUptoCard : Claim7 := { stood := { row := spendKeysUptoRow, standIns := [], harness := (true, "fcd8339a7bfc1209ce9bc473dadd6d010fa754f7a97f1704b88b7a25ebaba9bc"), looks := false }, kinds := [], alts := [], laidByText := true, laidKinds := [.data], laidTests := true, laidLooks := .later }
def SpendKeysUptoCardSaid : Prop := Claim7.holds Tryd.pinned (.plain (OpenSpec.upto spendKeysSpec)) spendKeysUptoCard

/-- THE SECOND FORM's CARD OF 'sargassolaw3.SpendOrder'. -/
def spendOrderUptoCard : Claim7 := { stood := { row := spendOrderUptoRow, standIns := [], harness := (true, "fcd8339a7bfc1209ce9bc473dadd6d010fa754f7a97f1704b88b7a25ebaba9bc"), looks := false }, kinds := [], alts := [], laidByText := true, laidKinds := [.data], laidTests := true, laidLooks := .later }
def SpendOrderUptoCardSaid : Prop := Claim7.holds Tryd.pinned (.plain (OpenSpec.upto spendOrderSpec)) spendOrderUptoCard

/-- THE SECOND FORM's CARD OF 'sargassolaw3.SpendNulls'. -/
def spendNullsUptoCard : Claim7 := { stood := { row := spendNullsUptoRow, standIns := [], harness := (true, "fcd8339a7bfc1209ce9bc473dadd6d010fa754f7a97f1704b88b7a25ebaba9bc"), looks := false }, kinds := [], alts := [], laidByText := true, laidKinds := [.data], laidTests := true, laidLooks := .later }
def SpendNullsUptoCardSaid : Prop := Claim7.holds Tryd.pinned (.plain (OpenSpec.upto spendNullsSpec)) spendNullsUptoCard
end Rows
end Go.Proofs.YthgcpelabiigpaaDoor
