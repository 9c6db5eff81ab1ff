/-
  DERIVED. GIVEN WITH THE SEED: THE CARDS: each row of YtaeebcedobkopaaDoorRows.lean that lists a variable, with what it lists TIED to the program's text (the seventh form; the later family's looks); each row that meets fmt, with fmt's text TOLD by the authors' own Lean function (tested against real Go, not proved from fmt's source: count such statements apart). THE CARD IS WHAT COUNTS. Prove the row's statement (the work); the ties are given (YtaeebcedobkopaaDoorTie.lean); close each card by the builder's one call (the guide's Derived/Test/ToyasCard.lean, 'card_holds'). Laid BY PROGRAM, IN A SANDBOX (cutbox-door.mjs). By AI agents, Wed Nov 11 2026. No macro, syntax, notation, axiom, sorry.
-/
import Derived.Test.YtaeebcedobkopaaDoorRows
import GoSem.ClaimSeven
namespace Go.Proofs.YtaeebcedobkopaaDoor
namespace Rows

/-- THE TIED CARD OF 'sargassolaw6.MerkleSays'. -/
def merkleSaysCard : Claim7 := { stood := { row := merkleSaysRow, standIns := [], harness := (true, "d1da44a26e8cb8bea56dc19d13ec737a74158dd5f96f71376733f5481b9b1a81"), looks := false }, kinds := [], alts := [], laidByText := true, laidKinds := [.data], laidTests := true, laidLooks := .later }
def MerkleSaysCardSaid : Prop := Claim7.holds Tryd.pinned (.plain (OpenSpec.ofChange merkleSaysSpec)) merkleSaysCard

/-- THE TIED CARD OF 'sargassolaw6.MerkleClimbs'. -/
def merkleClimbsCard : Claim7 := { stood := { row := merkleClimbsRow, standIns := [], harness := (true, "d1da44a26e8cb8bea56dc19d13ec737a74158dd5f96f71376733f5481b9b1a81"), looks := false }, kinds := [], alts := [], laidByText := true, laidKinds := [.data], laidTests := true, laidLooks := .later }
def MerkleClimbsCardSaid : Prop := Claim7.holds Tryd.pinned (.plain (OpenSpec.ofChange merkleClimbsSpec)) merkleClimbsCard

/-- THE TIED CARD OF 'sargassolaw6.MerkleOdd'. -/
def merkleOddCard : Claim7 := { stood := { row := merkleOddRow, standIns := [], harness := (true, "d1da44a26e8cb8bea56dc19d13ec737a74158dd5f96f71376733f5481b9b1a81"), looks := false }, kinds := [], alts := [], laidByText := true, laidKinds := [.data], laidTests := true, laidLooks := .later }
def MerkleOddCardSaid : Prop := Claim7.holds Tryd.pinned (.plain (OpenSpec.ofChange merkleOddSpec)) merkleOddCard

/-- THE TIED CARD OF 'sargassolaw6.MerkleTurned'. -/
def merkleTurnedCard : Claim7 := { stood := { row := merkleTurnedRow, standIns := [], harness := (true, "d1da44a26e8cb8bea56dc19d13ec737a74158dd5f96f71376733f5481b9b1a81"), looks := false }, kinds := [], alts := [], laidByText := true, laidKinds := [.data], laidTests := true, laidLooks := .later }
def MerkleTurnedCardSaid : Prop := Claim7.holds Tryd.pinned (.plain (OpenSpec.ofChange merkleTurnedSpec)) merkleTurnedCard

/-- THE TIED CARD OF 'sargassolaw6.MerkleRows'. -/
def merkleRowsCard : Claim7 := { stood := { row := merkleRowsRow, standIns := [], harness := (true, "d1da44a26e8cb8bea56dc19d13ec737a74158dd5f96f71376733f5481b9b1a81"), looks := false }, kinds := [], alts := [], laidByText := true, laidKinds := [.data], laidTests := true, laidLooks := .later }
def MerkleRowsCardSaid : Prop := Claim7.holds Tryd.pinned (.plain (OpenSpec.ofChange merkleRowsSpec)) merkleRowsCard

/-- THE SECOND FORM's CARD OF 'sargassolaw6.MerkleSays'. -/
def merkleSaysUptoCard : Claim7 := { stood := { row := merkleSaysUptoRow, standIns := [], harness := (true, "d1da44a26e8cb8bea56dc19d13ec737a74158dd5f96f71376733f5481b9b1a81"), looks := false }, kinds := [], alts := [], laidByText := true, laidKinds := [.data], laidTests := true, laidLooks := .later }
def MerkleSaysUptoCardSaid : Prop := Claim7.holds Tryd.pinned (.plain (OpenSpec.upto merkleSaysSpec)) merkleSaysUptoCard

/-- THE SECOND FORM's CARD OF 'sargassolaw6.MerkleClimbs'. -/
def merkleClimbsUptoCard : Claim7 := { stood := { row := merkleClimbsUptoRow, standIns := [], harness := (true, "d1da44a26e8cb8bea56dc19d13ec737a74158dd5f96f71376733f5481b9b1a81"), looks := false }, kinds := [], alts := [], laidByText := true, laidKinds := [.data], laidTests := true, laidLooks := .later }
def MerkleClimbsUptoCardSaid : Prop := Claim7.holds Tryd.pinned (.plain (OpenSpec.upto merkleClimbsSpec)) merkleClimbsUptoCard

/-- THE SECOND FORM's CARD OF 'sargassolaw6.MerkleOdd'. -/
def merkleOddUptoCard : Claim7 := { stood := { row := merkleOddUptoRow, standIns := [], harness := (true, "d1da44a26e8cb8bea56dc19d13ec737a74158dd5f96f71376733f5481b9b1a81"), looks := false }, kinds := [], alts := [], laidByText := true, laidKinds := [.data], laidTests := true, laidLooks := .later }
def MerkleOddUptoCardSaid : Prop := Claim7.holds Tryd.pinned (.plain (OpenSpec.upto merkleOddSpec)) merkleOddUptoCard

/-- THE SECOND FORM's CARD OF 'sargassolaw6.MerkleTurned'. -/
def merkleTurnedUptoCard : Claim7 := { stood := { row := merkleTurnedUptoRow, standIns := [], harness := (true, "d1da44a26e8cb8bea56dc19d13ec737a74158dd5f96f71376733f5481b9b1a81"), looks := false }, kinds := [], alts := [], laidByText := true, laidKinds := [.data], laidTests := true, laidLooks := .later }
def MerkleTurnedUptoCardSaid : Prop := Claim7.holds Tryd.pinned (.plain (OpenSpec.upto merkleTurnedSpec)) merkleTurnedUptoCard

/-- THE SECOND FORM's CARD OF 'sargassolaw6.MerkleRows'. -/
def merkleRowsUptoCard : Claim7 := { stood := { row := merkleRowsUptoRow, standIns := [], harness := (true, "d1da44a26e8cb8bea56dc19d13ec737a74158dd5f96f71376733f5481b9b1a81"), looks := false }, kinds := [], alts := [], laidByText := true, laidKinds := [.data], laidTests := true, laidLooks := .later }
def MerkleRowsUptoCardSaid : Prop := Claim7.holds Tryd.pinned (.plain (OpenSpec.upto merkleRowsSpec)) merkleRowsUptoCard
end Rows
end Go.Proofs.YtaeebcedobkopaaDoor
