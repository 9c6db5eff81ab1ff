/-
  DERIVED. GIVEN WITH THE SEED: THE CARDS: each row of YtboepklpbedanaaDoorRows.lean that lists a variable, with what it lists TIED to the program's text (the seventh form; the later family's looks); each row that meets fmt, with fmt's text TOLD by the authors' own Lean function (tested against real Go, not proved from fmt's source: count such statements apart). THE CARD IS WHAT COUNTS. Prove the row's statement (the work); the ties are given (YtboepklpbedanaaDoorTie.lean); close each card by the builder's one call (the guide's Derived/Test/ToyasCard.lean, 'card_holds'). Laid BY PROGRAM, IN A SANDBOX (cutbox-door.mjs). By AI agents, Wed Nov 11 2026. No macro, syntax, notation, axiom, sorry.
-/
import Derived.Test.YtboepklpbedanaaDoorRows
import GoSem.ClaimSeven
namespace Go.Proofs.YtboepklpbedanaaDoor
namespace Rows

/-- THE TIED CARD OF 'sargassolaw1.DigestSays'. -/
def digestSaysCard : Claim7 := { stood := { row := digestSaysRow, standIns := [], harness := (true, "96482bb5eb48a510e382628270bf37a3076fea60c04640030ff6d935bcba3265"), looks := false }, kinds := [], alts := [], laidByText := true, laidKinds := [.data], laidTests := true, laidLooks := .later }
def DigestSaysCardSaid : Prop := Claim7.holds Tryd.pinned (.plain (OpenSpec.ofChange digestSaysSpec)) digestSaysCard

/-- THE TIED CARD OF 'sargassolaw1.DigestParts'. -/
def digestPartsCard : Claim7 := { stood := { row := digestPartsRow, standIns := [], harness := (true, "96482bb5eb48a510e382628270bf37a3076fea60c04640030ff6d935bcba3265"), looks := false }, kinds := [], alts := [], laidByText := true, laidKinds := [.data], laidTests := true, laidLooks := .later }
def DigestPartsCardSaid : Prop := Claim7.holds Tryd.pinned (.plain (OpenSpec.ofChange digestPartsSpec)) digestPartsCard

/-- THE TIED CARD OF 'sargassolaw1.DigestEdges'. -/
def digestEdgesCard : Claim7 := { stood := { row := digestEdgesRow, standIns := [], harness := (true, "96482bb5eb48a510e382628270bf37a3076fea60c04640030ff6d935bcba3265"), looks := false }, kinds := [], alts := [], laidByText := true, laidKinds := [.data], laidTests := true, laidLooks := .later }
def DigestEdgesCardSaid : Prop := Claim7.holds Tryd.pinned (.plain (OpenSpec.ofChange digestEdgesSpec)) digestEdgesCard

/-- THE TIED CARD OF 'sargassolaw1.DigestOrder'. -/
def digestOrderCard : Claim7 := { stood := { row := digestOrderRow, standIns := [], harness := (true, "96482bb5eb48a510e382628270bf37a3076fea60c04640030ff6d935bcba3265"), looks := false }, kinds := [], alts := [], laidByText := true, laidKinds := [.data], laidTests := true, laidLooks := .later }
def DigestOrderCardSaid : Prop := Claim7.holds Tryd.pinned (.plain (OpenSpec.ofChange digestOrderSpec)) digestOrderCard

/-- THE TIED CARD OF 'sargassolaw1.DigestTurned'. -/
def digestTurnedCard : Claim7 := { stood := { row := digestTurnedRow, standIns := [], harness := (true, "96482bb5eb48a510e382628270bf37a3076fea60c04640030ff6d935bcba3265"), looks := false }, kinds := [], alts := [], laidByText := true, laidKinds := [.data], laidTests := true, laidLooks := .later }
def DigestTurnedCardSaid : Prop := Claim7.holds Tryd.pinned (.plain (OpenSpec.ofChange digestTurnedSpec)) digestTurnedCard

/-- THE SECOND FORM's CARD OF 'sargassolaw1.DigestSays'. -/
def digestSaysUptoCard : Claim7 := { stood := { row := digestSaysUptoRow, standIns := [], harness := (true, "96482bb5eb48a510e382628270bf37a3076fea60c04640030ff6d935bcba3265"), looks := false }, kinds := [], alts := [], laidByText := true, laidKinds := [.data], laidTests := true, laidLooks := .later }
def DigestSaysUptoCardSaid : Prop := Claim7.holds Tryd.pinned (.plain (OpenSpec.upto digestSaysSpec)) digestSaysUptoCard

/-- THE SECOND FORM's CARD OF 'sargassolaw1.DigestParts'. -/
def digestPartsUptoCard : Claim7 := { stood := { row := digestPartsUptoRow, standIns := [], harness := (true, "96482bb5eb48a510e382628270bf37a3076fea60c04640030ff6d935bcba3265"), looks := false }, kinds := [], alts := [], laidByText := true, laidKinds := [.data], laidTests := true, laidLooks := .later }
def DigestPartsUptoCardSaid : Prop := Claim7.holds Tryd.pinned (.plain (OpenSpec.upto digestPartsSpec)) digestPartsUptoCard

/-- THE SECOND FORM's CARD OF 'sargassolaw1.DigestEdges'. -/
def digestEdgesUptoCard : Claim7 := { stood := { row := digestEdgesUptoRow, standIns := [], harness := (true, "96482bb5eb48a510e382628270bf37a3076fea60c04640030ff6d935bcba3265"), looks := false }, kinds := [], alts := [], laidByText := true, laidKinds := [.data], laidTests := true, laidLooks := .later }
def DigestEdgesUptoCardSaid : Prop := Claim7.holds Tryd.pinned (.plain (OpenSpec.upto digestEdgesSpec)) digestEdgesUptoCard

/-- THE SECOND FORM's CARD OF 'sargassolaw1.DigestOrder'. -/
def digestOrderUptoCard : Claim7 := { stood := { row := digestOrderUptoRow, standIns := [], harness := (true, "96482bb5eb48a510e382628270bf37a3076fea60c04640030ff6d935bcba3265"), looks := false }, kinds := [], alts := [], laidByText := true, laidKinds := [.data], laidTests := true, laidLooks := .later }
def DigestOrderUptoCardSaid : Prop := Claim7.holds Tryd.pinned (.plain (OpenSpec.upto digestOrderSpec)) digestOrderUptoCard

/-- THE SECOND FORM's CARD OF 'sargassolaw1.DigestTurned'. -/
def digestTurnedUptoCard : Claim7 := { stood := { row := digestTurnedUptoRow, standIns := [], harness := (true, "96482bb5eb48a510e382628270bf37a3076fea60c04640030ff6d935bcba3265"), looks := false }, kinds := [], alts := [], laidByText := true, laidKinds := [.data], laidTests := true, laidLooks := .later }
def DigestTurnedUptoCardSaid : Prop := Claim7.holds Tryd.pinned (.plain (OpenSpec.upto digestTurnedSpec)) digestTurnedUptoCard
end Rows
end Go.Proofs.YtboepklpbedanaaDoor
