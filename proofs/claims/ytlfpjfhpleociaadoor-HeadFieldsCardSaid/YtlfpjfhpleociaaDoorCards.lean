/-
  DERIVED. GIVEN WITH THE SEED: THE CARDS: each row of YtlfpjfhpleociaaDoorRows.lean that lists a variable, with what it lists TIED to the program's text (the seventh form; the later family's looks); each row that meets fmt, with fmt's text TOLD by the authors' own Lean function (tested against real Go, not proved from fmt's source: count such statements apart). THE CARD IS WHAT COUNTS. Prove the row's statement (the work); the ties are given (YtlfpjfhpleociaaDoorTie.lean); close each card by the builder's one call (the guide's Derived/Test/ToyasCard.lean, 'card_holds'). Laid BY PROGRAM, IN A SANDBOX (cutbox-door.mjs). By AI agents, Wed Nov 11 2026. No macro, syntax, notation, axiom, sorry.
-/
import Derived.Test.YtlfpjfhpleociaaDoorRows
import GoSem.ClaimSeven
namespace Go.Proofs.YtlfpjfhpleociaaDoor
namespace Rows

/-- THE TIED CARD OF 'sargassolaw5.HeadBack'. -/
def headBackCard : Claim7 := { stood := { row := headBackRow, standIns := [], harness := (true, "9bdc6b324a064bbefd1d646dc16eaa11a9e6abe3dc85bc1dfa3900806985f1d8"), looks := true }, kinds := [], alts := [], laidByText := true, laidKinds := [.sentinel, .sentinel, .sentinel, .sentinel, .sentinel, .sentinel, .sentinel, .sentinel, .sentinel, .sentinel, .sentinel, .sentinel, .sentinel, .sentinel, .sentinel, .sentinel, .sentinel, .sentinel, .sentinel, .sentinel, .sentinel, .sentinel, .sentinel, .sentinel, .sentinel], laidTests := true, laidLooks := .later }
def HeadBackCardSaid : Prop := Claim7.holds Tryd.pinned (.plain (OpenSpec.ofChange headBackSpec)) headBackCard

/-- THE TIED CARD OF 'sargassolaw5.HeadWork'. -/
def headWorkCard : Claim7 := { stood := { row := headWorkRow, standIns := [], harness := (true, "9bdc6b324a064bbefd1d646dc16eaa11a9e6abe3dc85bc1dfa3900806985f1d8"), looks := true }, kinds := [], alts := [], laidByText := true, laidKinds := [.sentinel], laidTests := true, laidLooks := .later }
def HeadWorkCardSaid : Prop := Claim7.holds Tryd.pinned (.plain (OpenSpec.ofChange headWorkSpec)) headWorkCard

/-- THE TIED CARD OF 'sargassolaw5.HeadFields'. -/
def headFieldsCard : Claim7 := { stood := { row := headFieldsRow, standIns := [], harness := (true, "9bdc6b324a064bbefd1d646dc16eaa11a9e6abe3dc85bc1dfa3900806985f1d8"), looks := true }, kinds := [], alts := [], laidByText := true, laidKinds := [.data], laidTests := true, laidLooks := .later }
def HeadFieldsCardSaid : Prop := Claim7.holds Tryd.pinned (.plain (OpenSpec.ofChange headFieldsSpec)) headFieldsCard

/-- THE SECOND FORM's CARD OF 'sargassolaw5.HeadBack'. -/
def headBackUptoCard : Claim7 := { stood := { row := headBackUptoRow, standIns := [], harness := (true, "9bdc6b324a064bbefd1d646dc16eaa11a9e6abe3dc85bc1dfa3900806985f1d8"), looks := true }, kinds := [], alts := [], laidByText := true, laidKinds := [.sentinel, .sentinel, .sentinel, .sentinel, .sentinel, .sentinel, .sentinel, .sentinel, .sentinel, .sentinel, .sentinel, .sentinel, .sentinel, .sentinel, .sentinel, .sentinel, .sentinel, .sentinel, .sentinel, .sentinel, .sentinel, .sentinel, .sentinel, .sentinel, .sentinel], laidTests := true, laidLooks := .later }
def HeadBackUptoCardSaid : Prop := Claim7.holds Tryd.pinned (.plain (OpenSpec.upto headBackSpec)) headBackUptoCard

/-- THE SECOND FORM's CARD OF 'sargassolaw5.HeadWork'. -/
def headWorkUptoCard : Claim7 := { stood := { row := headWorkUptoRow, standIns := [], harness := (true, "9bdc6b324a064bbefd1d646dc16eaa11a9e6abe3dc85bc1dfa3900806985f1d8"), looks := true }, kinds := [], alts := [], laidByText := true, laidKinds := [.sentinel], laidTests := true, laidLooks := .later }
def HeadWorkUptoCardSaid : Prop := Claim7.holds Tryd.pinned (.plain (OpenSpec.upto headWorkSpec)) headWorkUptoCard

/-- THE SECOND FORM's CARD OF 'sargassolaw5.HeadFields'. -/
def headFieldsUptoCard : Claim7 := { stood := { row := headFieldsUptoRow, standIns := [], harness := (true, "9bdc6b324a064bbefd1d646dc16eaa11a9e6abe3dc85bc1dfa3900806985f1d8"), looks := true }, kinds := [], alts := [], laidByText := true, laidKinds := [.data], laidTests := true, laidLooks := .later }
def HeadFieldsUptoCardSaid : Prop := Claim7.holds Tryd.pinned (.plain (OpenSpec.upto headFieldsSpec)) headFieldsUptoCard
end Rows
end Go.Proofs.YtlfpjfhpleociaaDoor
