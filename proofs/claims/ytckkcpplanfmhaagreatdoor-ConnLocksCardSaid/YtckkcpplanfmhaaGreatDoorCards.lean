/-
  DERIVED. GIVEN WITH THE SEED: THE CARDS: each row of YtckkcpplanfmhaaGreatDoorRows.lean that lists a variable, with what it lists TIED to the program's text (the seventh form; the later family's looks); each row that meets fmt, with fmt's text TOLD by the authors' own Lean function (tested against real Go, not proved from fmt's source: count such statements apart). THE CARD IS WHAT COUNTS. Prove the row's statement (the work); the ties are given (YtckkcpplanfmhaaGreatDoorTie.lean); close each card by the builder's one call (the guide's Derived/Test/ToyasCard.lean, 'card_holds'). Laid BY PROGRAM, IN A SANDBOX (cutbox-door.mjs). By AI agents, Wed Nov 11 2026. No macro, syntax, notation, axiom, sorry.
-/
import Derived.Test.YtckkcpplanfmhaaGreatDoorRows
import GoSem.ClaimSeven
namespace Go.Proofs.YtckkcpplanfmhaaGreatDoor
namespace Rows

/-- THE TIED CARD OF 'sargassolaw16.ConnTx'. -/
def connTxCard : Claim7 := { stood := { row := connTxRow, standIns := [], harness := (true, "2a604289753981e2ee3c51e227553579bbb83aa1d4f56b46f0ed5621562763dd"), looks := true }, kinds := [], alts := [], laidByText := true, laidKinds := [.sentinel, .sentinel, .sentinel, .sentinel, .sentinel, .sentinel, .sentinel, .sentinel, .sentinel, .sentinel, .sentinel, .sentinel, .sentinel, .sentinel, .sentinel, .sentinel, .sentinel, .sentinel, .sentinel, .sentinel, .sentinel, .sentinel, .sentinel, .sentinel, .sentinel, .data], laidTests := true, laidLooks := .later }
def ConnTxCardSaid : Prop := Claim7.holds Tryz.pinned (.plain (OpenSpec.ofChange connTxSpec)) connTxCard

/-- THE TIED CARD OF 'sargassolaw16.ConnRewards'. -/
def connRewardsCard : Claim7 := { stood := { row := connRewardsRow, standIns := [], harness := (true, "2a604289753981e2ee3c51e227553579bbb83aa1d4f56b46f0ed5621562763dd"), looks := true }, kinds := [], alts := [], laidByText := true, laidKinds := [.sentinel, .sentinel, .sentinel, .sentinel, .sentinel, .sentinel, .sentinel, .sentinel, .sentinel, .sentinel, .sentinel, .sentinel, .sentinel, .sentinel, .sentinel, .sentinel, .sentinel, .sentinel, .sentinel, .sentinel, .sentinel, .sentinel, .sentinel, .sentinel, .sentinel, .data], laidTests := true, laidLooks := .later }
def ConnRewardsCardSaid : Prop := Claim7.holds Tryz.pinned (.plain (OpenSpec.ofChange connRewardsSpec)) connRewardsCard

/-- THE TIED CARD OF 'sargassolaw16.ConnRows'. -/
def connRowsCard : Claim7 := { stood := { row := connRowsRow, standIns := [], harness := (true, "2a604289753981e2ee3c51e227553579bbb83aa1d4f56b46f0ed5621562763dd"), looks := true }, kinds := [], alts := [], laidByText := true, laidKinds := [.sentinel, .sentinel, .sentinel, .sentinel, .sentinel, .sentinel, .sentinel, .sentinel, .sentinel, .sentinel, .sentinel, .sentinel, .sentinel, .sentinel, .sentinel, .sentinel, .sentinel, .sentinel, .sentinel, .sentinel, .sentinel, .sentinel, .sentinel, .sentinel, .sentinel, .data], laidTests := true, laidLooks := .later }
def ConnRowsCardSaid : Prop := Claim7.holds Tryz.pinned (.plain (OpenSpec.ofChange connRowsSpec)) connRowsCard

/-- THE TIED CARD OF 'sargassolaw16.ConnLocks'. -/
def connLocksCard : Claim7 := { stood := { row := connLocksRow, standIns := [], harness := (true, "2a604289753981e2ee3c51e227553579bbb83aa1d4f56b46f0ed5621562763dd"), looks := true }, kinds := [], alts := [], laidByText := true, laidKinds := [.sentinel, .sentinel, .sentinel, .sentinel, .sentinel, .sentinel, .sentinel, .sentinel, .sentinel, .sentinel, .sentinel, .sentinel, .sentinel, .sentinel, .sentinel, .sentinel, .sentinel, .sentinel, .sentinel, .sentinel, .sentinel, .sentinel, .sentinel, .sentinel, .sentinel, .data], laidTests := true, laidLooks := .later }
def ConnLocksCardSaid : Prop := Claim7.holds Tryz.pinned (.plain (OpenSpec.ofChange connLocksSpec)) connLocksCard

/-- THE SECOND FORM's CARD OF 'sargassolaw16.ConnTx'. -/
def connTxUptoCard : Claim7 := { stood := { row := connTxUptoRow, standIns := [], harness := (true, "2a604289753981e2ee3c51e227553579bbb83aa1d4f56b46f0ed5621562763dd"), looks := true }, kinds := [], alts := [], laidByText := true, laidKinds := [.sentinel, .sentinel, .sentinel, .sentinel, .sentinel, .sentinel, .sentinel, .sentinel, .sentinel, .sentinel, .sentinel, .sentinel, .sentinel, .sentinel, .sentinel, .sentinel, .sentinel, .sentinel, .sentinel, .sentinel, .sentinel, .sentinel, .sentinel, .sentinel, .sentinel, .data], laidTests := true, laidLooks := .later }
def ConnTxUptoCardSaid : Prop := Claim7.holds Tryz.pinned (.plain (OpenSpec.upto connTxSpec)) connTxUptoCard

/-- THE SECOND FORM's CARD OF 'sargassolaw16.ConnRewards'. -/
def connRewardsUptoCard : Claim7 := { stood := { row := connRewardsUptoRow, standIns := [], harness := (true, "2a604289753981e2ee3c51e227553579bbb83aa1d4f56b46f0ed5621562763dd"), looks := true }, kinds := [], alts := [], laidByText := true, laidKinds := [.sentinel, .sentinel, .sentinel, .sentinel, .sentinel, .sentinel, .sentinel, .sentinel, .sentinel, .sentinel, .sentinel, .sentinel, .sentinel, .sentinel, .sentinel, .sentinel, .sentinel, .sentinel, .sentinel, .sentinel, .sentinel, .sentinel, .sentinel, .sentinel, .sentinel, .data], laidTests := true, laidLooks := .later }
def ConnRewardsUptoCardSaid : Prop := Claim7.holds Tryz.pinned (.plain (OpenSpec.upto connRewardsSpec)) connRewardsUptoCard

/-- THE SECOND FORM's CARD OF 'sargassolaw16.ConnRows'. -/
def connRowsUptoCard : Claim7 := { stood := { row := connRowsUptoRow, standIns := [], harness := (true, "2a604289753981e2ee3c51e227553579bbb83aa1d4f56b46f0ed5621562763dd"), looks := true }, kinds := [], alts := [], laidByText := true, laidKinds := [.sentinel, .sentinel, .sentinel, .sentinel, .sentinel, .sentinel, .sentinel, .sentinel, .sentinel, .sentinel, .sentinel, .sentinel, .sentinel, .sentinel, .sentinel, .sentinel, .sentinel, .sentinel, .sentinel, .sentinel, .sentinel, .sentinel, .sentinel, .sentinel, .sentinel, .data], laidTests := true, laidLooks := .later }
def ConnRowsUptoCardSaid : Prop := Claim7.holds Tryz.pinned (.plain (OpenSpec.upto connRowsSpec)) connRowsUptoCard

/-- THE SECOND FORM's CARD OF 'sargassolaw16.ConnLocks'. -/
def connLocksUptoCard : Claim7 := { stood := { row := connLocksUptoRow, standIns := [], harness := (true, "2a604289753981e2ee3c51e227553579bbb83aa1d4f56b46f0ed5621562763dd"), looks := true }, kinds := [], alts := [], laidByText := true, laidKinds := [.sentinel, .sentinel, .sentinel, .sentinel, .sentinel, .sentinel, .sentinel, .sentinel, .sentinel, .sentinel, .sentinel, .sentinel, .sentinel, .sentinel, .sentinel, .sentinel, .sentinel, .sentinel, .sentinel, .sentinel, .sentinel, .sentinel, .sentinel, .sentinel, .sentinel, .data], laidTests := true, laidLooks := .later }
def ConnLocksUptoCardSaid : Prop := Claim7.holds Tryz.pinned (.plain (OpenSpec.upto connLocksSpec)) connLocksUptoCard
end Rows
end Go.Proofs.YtckkcpplanfmhaaGreatDoor
