/-
  DERIVED. GIVEN WITH THE SEED: THE CARDS: each row of YtibfamhhjnaeiaaDoorRows.lean that lists a variable, with what it lists TIED to the program's text (the seventh form; the later family's looks); each row that meets fmt, with fmt's text TOLD by the authors' own Lean function (tested against real Go, not proved from fmt's source: count such statements apart). THE CARD IS WHAT COUNTS. Prove the row's statement (the work); the ties are given (YtibfamhhjnaeiaaDoorTie.lean); close each card by the builder's one call (the guide's Derived/Test/ToyasCard.lean, 'card_holds'). Laid BY PROGRAM, IN A SANDBOX (cutbox-door.mjs). By AI agents, Wed Nov 11 2026. No macro, syntax, notation, axiom, sorry.
-/
import Derived.Test.YtibfamhhjnaeiaaDoorRows
import GoSem.ClaimSeven
namespace Go.Proofs.YtibfamhhjnaeiaaDoor
namespace Rows

/-- THE TIED CARD OF 'sargassolaw9.UndoReads'. -/
def undoReadsCard : Claim7 := { stood := { row := undoReadsRow, standIns := [], harness := (true, "b83d16166d5942892273e041d7c99932c12fab3ee7866c1aecbfc4b3e0d147b7"), looks := true }, kinds := [], alts := [], laidByText := true, laidKinds := [.sentinel, .sentinel, .sentinel, .sentinel, .sentinel, .sentinel, .sentinel, .sentinel, .sentinel, .sentinel, .sentinel, .sentinel, .sentinel, .sentinel, .sentinel, .sentinel, .sentinel, .sentinel, .sentinel, .sentinel, .sentinel, .sentinel, .sentinel, .sentinel, .sentinel, .data], laidTests := true, laidLooks := .later }
def UndoReadsCardSaid : Prop := Claim7.holds Tryd.pinned (.plain (OpenSpec.ofChange undoReadsSpec)) undoReadsCard

/-- THE SECOND FORM's CARD OF 'sargassolaw9.UndoReads'. -/
def undoReadsUptoCard : Claim7 := { stood := { row := undoReadsUptoRow, standIns := [], harness := (true, "b83d16166d5942892273e041d7c99932c12fab3ee7866c1aecbfc4b3e0d147b7"), looks := true }, kinds := [], alts := [], laidByText := true, laidKinds := [.sentinel, .sentinel, .sentinel, .sentinel, .sentinel, .sentinel, .sentinel, .sentinel, .sentinel, .sentinel, .sentinel, .sentinel, .sentinel, .sentinel, .sentinel, .sentinel, .sentinel, .sentinel, .sentinel, .sentinel, .sentinel, .sentinel, .sentinel, .sentinel, .sentinel, .data], laidTests := true, laidLooks := .later }
def UndoReadsUptoCardSaid : Prop := Claim7.holds Tryd.pinned (.plain (OpenSpec.upto undoReadsSpec)) undoReadsUptoCard
end Rows
end Go.Proofs.YtibfamhhjnaeiaaDoor
