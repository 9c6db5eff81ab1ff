/-
  DERIVED. GIVEN WITH THE SEED: THE PROGRAM's TIES (one call each: nine closed facts by the kernel) AND EACH ROW's TIE, after the 31st guide's Derived/Test/Toyas{Tie, Card}.lean. No idea stands in it: it is a product of the set-up. Laid BY PROGRAM, IN A SANDBOX (cutbox-door.mjs). By AI agents, Wed Nov 11 2026. No macro, syntax, notation, axiom, sorry.
-/
import Derived.Test.YtdhcjaflbfpalaaGreatDoorRows
import Derived.LaidByTextLater
import Derived.SevenTiedAt
import Derived.LaidSub
import Derived.LaidOnce
namespace Go.Proofs.YtdhcjaflbfpalaaGreatDoor
open Go
set_option maxRecDepth 100000
theorem seatTie1 : Tryz.prog.laidByTextLater [("sargasso/api.ErrKnown", Rows.laid_sargasso_api_ErrKnown), ("sargasso/api.ErrParent", Rows.laid_sargasso_api_ErrParent), ("sargasso/api.ErrFull", Rows.laid_sargasso_api_ErrFull), ("sargasso/digest.roundWords", Rows.laid_sargasso_digest_roundWords)] [.sentinel, .sentinel, .sentinel, .data] true :=
  Program.laidByTextLater_by_one 71 8 65 (by kernel_rfl) (by kernel_rfl) (by kernel_rfl) (by kernel_rfl) (by kernel_rfl) (by kernel_rfl) (fun _ _ => by kernel_rfl)
theorem noOwnUnsafe : Tryz.pinned.checked.prog.headLifts.contains "ownunsafe" = false := by kernel_rfl
theorem tie : Tryz.prog.laidByTextLater [("sargasso/api.ErrKnown", Rows.laid_sargasso_api_ErrKnown), ("sargasso/api.ErrParent", Rows.laid_sargasso_api_ErrParent), ("sargasso/api.ErrFull", Rows.laid_sargasso_api_ErrFull), ("sargasso/digest.roundWords", Rows.laid_sargasso_digest_roundWords)] [.sentinel, .sentinel, .sentinel, .data] true :=
  Program.laidByTextLater.sub seatTie1 ["sargasso/api.ErrKnown", "sargasso/api.ErrParent", "sargasso/api.ErrFull", "sargasso/digest.roundWords"] (by kernel_rfl) (by kernel_rfl)
theorem bestPlays_row_tie : Rows.bestPlaysRow.laidByTextAt .later Tryz.pinned [.sentinel, .sentinel, .sentinel, .data] true :=
  OpenClaim.laidByTextAt_later rfl rfl tie noOwnUnsafe
theorem bestOver_row_tie : Rows.bestOverRow.laidByTextAt .later Tryz.pinned [.sentinel, .sentinel, .sentinel, .data] true :=
  OpenClaim.laidByTextAt_later rfl rfl tie noOwnUnsafe
theorem bestGoes_row_tie : Rows.bestGoesRow.laidByTextAt .later Tryz.pinned [.sentinel, .sentinel, .sentinel, .data] true :=
  OpenClaim.laidByTextAt_later rfl rfl tie noOwnUnsafe
theorem bestPlaysUpto_row_tie : Rows.bestPlaysUptoRow.laidByTextAt .later Tryz.pinned [.sentinel, .sentinel, .sentinel, .data] true :=
  OpenClaim.laidByTextAt_later rfl rfl tie noOwnUnsafe
theorem bestOverUpto_row_tie : Rows.bestOverUptoRow.laidByTextAt .later Tryz.pinned [.sentinel, .sentinel, .sentinel, .data] true :=
  OpenClaim.laidByTextAt_later rfl rfl tie noOwnUnsafe
theorem bestGoesUpto_row_tie : Rows.bestGoesUptoRow.laidByTextAt .later Tryz.pinned [.sentinel, .sentinel, .sentinel, .data] true :=
  OpenClaim.laidByTextAt_later rfl rfl tie noOwnUnsafe
end Go.Proofs.YtdhcjaflbfpalaaGreatDoor
