/-
  DERIVED. GIVEN WITH THE SEED: THE CARDS: each row of YtlmfchcafhidoaaDoorRows.lean that lists a variable, with what it lists TIED to the program's text (the seventh form; the later family's looks); each row that meets fmt, with fmt's text TOLD by the authors' own Lean function (tested against real Go, not proved from fmt's source: count such statements apart). THE CARD IS WHAT COUNTS. Prove the row's statement (the work); the ties are given (YtlmfchcafhidoaaDoorTie.lean); close each card by the builder's one call (the guide's Derived/Test/ToyasCard.lean, 'card_holds'). Laid BY PROGRAM, IN A SANDBOX (cutbox-door.mjs). By AI agents, Wed Nov 11 2026. No macro, syntax, notation, axiom, sorry.
-/
import Derived.Test.YtlmfchcafhidoaaDoorRows
import GoSem.ClaimSeven
namespace Go.Proofs.YtlmfchcafhidoaaDoor
namespace Rows

/-- THE TIED CARD OF 'sargassolaw8.CoinsPlay'. -/
def coinsPlayCard : Claim7 := { stood := { row := coinsPlayRow, standIns := [], harness := (true, "32f71f71a7640c12e33c7f824b099bd6626cfc570033127b253d242483eef823"), looks := true }, kinds := [], alts := [], laidByText := true, laidKinds := [.sentinel, .sentinel, .sentinel, .sentinel, .sentinel, .sentinel, .sentinel, .sentinel, .sentinel, .sentinel, .sentinel, .sentinel, .sentinel, .sentinel, .sentinel, .sentinel, .sentinel, .sentinel, .sentinel, .sentinel, .sentinel, .sentinel, .sentinel, .sentinel, .sentinel, .data], laidTests := true, laidLooks := .later }
def CoinsPlayCardSaid : Prop := Claim7.holds Tryd.pinned (.plain (OpenSpec.ofChange coinsPlaySpec)) coinsPlayCard

/-- THE TIED CARD OF 'sargassolaw8.CoinsBack'. -/
def coinsBackCard : Claim7 := { stood := { row := coinsBackRow, standIns := [], harness := (true, "32f71f71a7640c12e33c7f824b099bd6626cfc570033127b253d242483eef823"), looks := true }, kinds := [], alts := [], laidByText := true, laidKinds := [.sentinel, .sentinel, .sentinel, .sentinel, .sentinel, .sentinel, .sentinel, .sentinel, .sentinel, .sentinel, .sentinel, .sentinel, .sentinel, .sentinel, .sentinel, .sentinel, .sentinel, .sentinel, .sentinel, .sentinel, .sentinel, .sentinel, .sentinel, .sentinel, .sentinel, .data], laidTests := true, laidLooks := .later }
def CoinsBackCardSaid : Prop := Claim7.holds Tryd.pinned (.plain (OpenSpec.ofChange coinsBackSpec)) coinsBackCard

/-- THE TIED CARD OF 'sargassolaw8.CoinsOrder'. -/
def coinsOrderCard : Claim7 := { stood := { row := coinsOrderRow, standIns := [], harness := (true, "32f71f71a7640c12e33c7f824b099bd6626cfc570033127b253d242483eef823"), looks := true }, kinds := [], alts := [], laidByText := true, laidKinds := [.sentinel, .sentinel, .sentinel, .sentinel, .sentinel, .sentinel, .sentinel, .sentinel, .sentinel, .sentinel, .sentinel, .sentinel, .sentinel, .sentinel, .sentinel, .sentinel, .sentinel, .sentinel, .sentinel, .sentinel, .sentinel, .sentinel, .sentinel, .sentinel, .sentinel], laidTests := true, laidLooks := .later }
def CoinsOrderCardSaid : Prop := Claim7.holds Tryd.pinned (.plain (OpenSpec.ofChange coinsOrderSpec)) coinsOrderCard

/-- THE TIED CARD OF 'sargassolaw8.CoinsTwice'. -/
def coinsTwiceCard : Claim7 := { stood := { row := coinsTwiceRow, standIns := [], harness := (true, "32f71f71a7640c12e33c7f824b099bd6626cfc570033127b253d242483eef823"), looks := true }, kinds := [], alts := [], laidByText := true, laidKinds := [.sentinel, .sentinel, .sentinel, .sentinel, .sentinel, .sentinel, .sentinel, .sentinel, .sentinel, .sentinel, .sentinel, .sentinel, .sentinel, .sentinel, .sentinel, .sentinel, .sentinel, .sentinel, .sentinel, .sentinel, .sentinel, .sentinel, .sentinel, .sentinel, .sentinel, .data], laidTests := true, laidLooks := .later }
def CoinsTwiceCardSaid : Prop := Claim7.holds Tryd.pinned (.plain (OpenSpec.ofChange coinsTwiceSpec)) coinsTwiceCard

/-- THE SECOND FORM's CARD OF 'sargassolaw8.CoinsPlay'. -/
def coinsPlayUptoCard : Claim7 := { stood := { row := coinsPlayUptoRow, standIns := [], harness := (true, "32f71f71a7640c12e33c7f824b099bd6626cfc570033127b253d242483eef823"), looks := true }, kinds := [], alts := [], laidByText := true, laidKinds := [.sentinel, .sentinel, .sentinel, .sentinel, .sentinel, .sentinel, .sentinel, .sentinel, .sentinel, .sentinel, .sentinel, .sentinel, .sentinel, .sentinel, .sentinel, .sentinel, .sentinel, .sentinel, .sentinel, .sentinel, .sentinel, .sentinel, .sentinel, .sentinel, .sentinel, .data], laidTests := true, laidLooks := .later }
def CoinsPlayUptoCardSaid : Prop := Claim7.holds Tryd.pinned (.plain (OpenSpec.upto coinsPlaySpec)) coinsPlayUptoCard

/-- THE SECOND FORM's CARD OF 'sargassolaw8.CoinsBack'. -/
def coinsBackUptoCard : Claim7 := { stood := { row := coinsBackUptoRow, standIns := [], harness := (true, "32f71f71a7640c12e33c7f824b099bd6626cfc570033127b253d242483eef823"), looks := true }, kinds := [], alts := [], laidByText := true, laidKinds := [.sentinel, .sentinel, .sentinel, .sentinel, .sentinel, .sentinel, .sentinel, .sentinel, .sentinel, .sentinel, .sentinel, .sentinel, .sentinel, .sentinel, .sentinel, .sentinel, .sentinel, .sentinel, .sentinel, .sentinel, .sentinel, .sentinel, .sentinel, .sentinel, .sentinel, .data], laidTests := true, laidLooks := .later }
def CoinsBackUptoCardSaid : Prop := Claim7.holds Tryd.pinned (.plain (OpenSpec.upto coinsBackSpec)) coinsBackUptoCard

/-- THE SECOND FORM's CARD OF 'sargassolaw8.CoinsOrder'. -/
def coinsOrderUptoCard : Claim7 := { stood := { row := coinsOrderUptoRow, standIns := [], harness := (true, "32f71f71a7640c12e33c7f824b099bd6626cfc570033127b253d242483eef823"), looks := true }, kinds := [], alts := [], laidByText := true, laidKinds := [.sentinel, .sentinel, .sentinel, .sentinel, .sentinel, .sentinel, .sentinel, .sentinel, .sentinel, .sentinel, .sentinel, .sentinel, .sentinel, .sentinel, .sentinel, .sentinel, .sentinel, .sentinel, .sentinel, .sentinel, .sentinel, .sentinel, .sentinel, .sentinel, .sentinel], laidTests := true, laidLooks := .later }
def CoinsOrderUptoCardSaid : Prop := Claim7.holds Tryd.pinned (.plain (OpenSpec.upto coinsOrderSpec)) coinsOrderUptoCard

/-- THE SECOND FORM's CARD OF 'sargassolaw8.CoinsTwice'. -/
def coinsTwiceUptoCard : Claim7 := { stood := { row := coinsTwiceUptoRow, standIns := [], harness := (true, "32f71f71a7640c12e33c7f824b099bd6626cfc570033127b253d242483eef823"), looks := true }, kinds := [], alts := [], laidByText := true, laidKinds := [.sentinel, .sentinel, .sentinel, .sentinel, .sentinel, .sentinel, .sentinel, .sentinel, .sentinel, .sentinel, .sentinel, .sentinel, .sentinel, .sentinel, .sentinel, .sentinel, .sentinel, .sentinel, .sentinel, .sentinel, .sentinel, .sentinel, .sentinel, .sentinel, .sentinel, .data], laidTests := true, laidLooks := .later }
def CoinsTwiceUptoCardSaid : Prop := Claim7.holds Tryd.pinned (.plain (OpenSpec.upto coinsTwiceSpec)) coinsTwiceUptoCard
end Rows
end Go.Proofs.YtlmfchcafhidoaaDoor
