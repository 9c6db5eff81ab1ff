/-
  DERIVED. GIVEN WITH THE SEED: THE CARDS: each row of YtdgejdecahdjkaaDoorRows.lean that lists a variable, with what it lists TIED to the program's text (the seventh form; the later family's looks); each row that meets fmt, with fmt's text TOLD by the authors' own Lean function (tested against real Go, not proved from fmt's source: count such statements apart). THE CARD IS WHAT COUNTS. Prove the row's statement (the work); the ties are given (YtdgejdecahdjkaaDoorTie.lean); close each card by the builder's one call (the guide's Derived/Test/ToyasCard.lean, 'card_holds'). Laid BY PROGRAM, IN A SANDBOX (cutbox-door.mjs). By AI agents, Wed Nov 11 2026. No macro, syntax, notation, axiom, sorry.
-/
import Derived.Test.YtdgejdecahdjkaaDoorRows
import GoSem.ClaimSeven
namespace Go.Proofs.YtdgejdecahdjkaaDoor
namespace Rows

/-- THE TIED CARD OF 'sargassolaw2.CompactBack'. -/
def compactBackCard : Claim7 := { stood := { row := compactBackRow, standIns := [], harness := (true, "01fc84606c3f7605d1ae5efbdfb6ec7d40cac0a0883807c3f6814e6b68bf9116"), looks := true }, kinds := [], alts := [], laidByText := true, laidKinds := [.sentinel, .sentinel, .sentinel, .sentinel, .sentinel, .sentinel, .sentinel, .sentinel, .sentinel, .sentinel, .sentinel, .sentinel, .sentinel, .sentinel, .sentinel, .sentinel, .sentinel, .sentinel, .sentinel, .sentinel, .sentinel, .sentinel, .sentinel, .sentinel, .sentinel], laidTests := true, laidLooks := .later }
def CompactBackCardSaid : Prop := Claim7.holds Tryd.pinned (.plain (OpenSpec.ofChange compactBackSpec)) compactBackCard

/-- THE TIED CARD OF 'sargassolaw2.CompactFewest'. -/
def compactFewestCard : Claim7 := { stood := { row := compactFewestRow, standIns := [], harness := (true, "01fc84606c3f7605d1ae5efbdfb6ec7d40cac0a0883807c3f6814e6b68bf9116"), looks := true }, kinds := [], alts := [], laidByText := true, laidKinds := [.sentinel, .sentinel, .sentinel, .sentinel, .sentinel, .sentinel, .sentinel, .sentinel, .sentinel, .sentinel, .sentinel, .sentinel, .sentinel, .sentinel, .sentinel, .sentinel, .sentinel, .sentinel, .sentinel, .sentinel, .sentinel, .sentinel, .sentinel, .sentinel, .sentinel], laidTests := true, laidLooks := .later }
def CompactFewestCardSaid : Prop := Claim7.holds Tryd.pinned (.plain (OpenSpec.ofChange compactFewestSpec)) compactFewestCard

/-- THE TIED CARD OF 'sargassolaw2.CompactRows'. -/
def compactRowsCard : Claim7 := { stood := { row := compactRowsRow, standIns := [], harness := (true, "01fc84606c3f7605d1ae5efbdfb6ec7d40cac0a0883807c3f6814e6b68bf9116"), looks := true }, kinds := [], alts := [], laidByText := true, laidKinds := [.sentinel, .sentinel, .sentinel], laidTests := true, laidLooks := .later }
def CompactRowsCardSaid : Prop := Claim7.holds Tryd.pinned (.plain (OpenSpec.ofChange compactRowsSpec)) compactRowsCard

/-- THE TIED CARD OF 'sargassolaw2.CompactStops'. -/
def compactStopsCard : Claim7 := { stood := { row := compactStopsRow, standIns := [], harness := (true, "01fc84606c3f7605d1ae5efbdfb6ec7d40cac0a0883807c3f6814e6b68bf9116"), looks := true }, kinds := [], alts := [], laidByText := true, laidKinds := [.sentinel, .sentinel, .sentinel, .sentinel, .sentinel, .sentinel, .sentinel, .sentinel, .sentinel, .sentinel, .sentinel, .sentinel, .sentinel, .sentinel, .sentinel, .sentinel, .sentinel, .sentinel, .sentinel, .sentinel, .sentinel, .sentinel, .sentinel, .sentinel, .sentinel], laidTests := true, laidLooks := .later }
def CompactStopsCardSaid : Prop := Claim7.holds Tryd.pinned (.plain (OpenSpec.ofChange compactStopsSpec)) compactStopsCard

/-- THE SECOND FORM's CARD OF 'sargassolaw2.CompactBack'. -/
def compactBackUptoCard : Claim7 := { stood := { row := compactBackUptoRow, standIns := [], harness := (true, "01fc84606c3f7605d1ae5efbdfb6ec7d40cac0a0883807c3f6814e6b68bf9116"), looks := true }, kinds := [], alts := [], laidByText := true, laidKinds := [.sentinel, .sentinel, .sentinel, .sentinel, .sentinel, .sentinel, .sentinel, .sentinel, .sentinel, .sentinel, .sentinel, .sentinel, .sentinel, .sentinel, .sentinel, .sentinel, .sentinel, .sentinel, .sentinel, .sentinel, .sentinel, .sentinel, .sentinel, .sentinel, .sentinel], laidTests := true, laidLooks := .later }
def CompactBackUptoCardSaid : Prop := Claim7.holds Tryd.pinned (.plain (OpenSpec.upto compactBackSpec)) compactBackUptoCard

/-- THE SECOND FORM's CARD OF 'sargassolaw2.CompactFewest'. -/
def compactFewestUptoCard : Claim7 := { stood := { row := compactFewestUptoRow, standIns := [], harness := (true, "01fc84606c3f7605d1ae5efbdfb6ec7d40cac0a0883807c3f6814e6b68bf9116"), looks := true }, kinds := [], alts := [], laidByText := true, laidKinds := [.sentinel, .sentinel, .sentinel, .sentinel, .sentinel, .sentinel, .sentinel, .sentinel, .sentinel, .sentinel, .sentinel, .sentinel, .sentinel, .sentinel, .sentinel, .sentinel, .sentinel, .sentinel, .sentinel, .sentinel, .sentinel, .sentinel, .sentinel, .sentinel, .sentinel], laidTests := true, laidLooks := .later }
def CompactFewestUptoCardSaid : Prop := Claim7.holds Tryd.pinned (.plain (OpenSpec.upto compactFewestSpec)) compactFewestUptoCard

/-- THE SECOND FORM's CARD OF 'sargassolaw2.CompactRows'. -/
def compactRowsUptoCard : Claim7 := { stood := { row := compactRowsUptoRow, standIns := [], harness := (true, "01fc84606c3f7605d1ae5efbdfb6ec7d40cac0a0883807c3f6814e6b68bf9116"), looks := true }, kinds := [], alts := [], laidByText := true, laidKinds := [.sentinel, .sentinel, .sentinel], laidTests := true, laidLooks := .later }
def CompactRowsUptoCardSaid : Prop := Claim7.holds Tryd.pinned (.plain (OpenSpec.upto compactRowsSpec)) compactRowsUptoCard

/-- THE SECOND FORM's CARD OF 'sargassolaw2.CompactStops'. -/
def compactStopsUptoCard : Claim7 := { stood := { row := compactStopsUptoRow, standIns := [], harness := (true, "01fc84606c3f7605d1ae5efbdfb6ec7d40cac0a0883807c3f6814e6b68bf9116"), looks := true }, kinds := [], alts := [], laidByText := true, laidKinds := [.sentinel, .sentinel, .sentinel, .sentinel, .sentinel, .sentinel, .sentinel, .sentinel, .sentinel, .sentinel, .sentinel, .sentinel, .sentinel, .sentinel, .sentinel, .sentinel, .sentinel, .sentinel, .sentinel, .sentinel, .sentinel, .sentinel, .sentinel, .sentinel, .sentinel], laidTests := true, laidLooks := .later }
def CompactStopsUptoCardSaid : Prop := Claim7.holds Tryd.pinned (.plain (OpenSpec.upto compactStopsSpec)) compactStopsUptoCard
end Rows
end Go.Proofs.YtdgejdecahdjkaaDoor
