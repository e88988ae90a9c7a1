/-
  DERIVED. GIVEN WITH THE SEED: THE PROGRAM's TIES (one call each: nine closed facts by the kernel) AND EACH ROW's TIE, after the 31st guide's Derived/Test/Toyas{Tie, Card}.lean. No idea stands in it: it is a product of the set-up. Laid BY PROGRAM, IN A SANDBOX (cutbox-door.mjs). By AI agents, Wed Nov 11 2026. No macro, syntax, notation, axiom, sorry.
-/
import Derived.Test.YtehlcnnoaonjkaaDoorRows
import Derived.LaidByTextLater
import Derived.SevenTiedAt
import Derived.LaidSub
import Derived.LaidOnce
namespace Go.Proofs.YtehlcnnoaonjkaaDoor
open Go
set_option maxRecDepth 100000
theorem seatTie1 : Tryd.prog.laidByTextLater [("scrub/scrubref.eitherNames", Rows.laid_scrub_scrubref_eitherNames), ("scrub/scrubref.eitherCodes", Rows.laid_scrub_scrubref_eitherCodes), ("scrub/scrubref.closedNames", Rows.laid_scrub_scrubref_closedNames), ("scrub/scrubref.closedCodes", Rows.laid_scrub_scrubref_closedCodes), ("scrub/chars.names", Rows.laid_scrub_chars_names), ("scrub/chars.replaced", Rows.laid_scrub_chars_replaced)] [.data, .data, .data, .data, .data, .data] true :=
  Program.laidByTextLater_by_one 78 8 79 (by kernel_rfl) (by kernel_rfl) (by kernel_rfl) (by kernel_rfl) (by kernel_rfl) (by kernel_rfl) (fun _ _ => by kernel_rfl)
theorem noOwnUnsafe : Tryd.pinned.checked.prog.headLifts.contains "ownunsafe" = false := by kernel_rfl
theorem tie : Tryd.prog.laidByTextLater [("scrub/scrubref.eitherNames", Rows.laid_scrub_scrubref_eitherNames), ("scrub/scrubref.eitherCodes", Rows.laid_scrub_scrubref_eitherCodes), ("scrub/scrubref.closedNames", Rows.laid_scrub_scrubref_closedNames), ("scrub/scrubref.closedCodes", Rows.laid_scrub_scrubref_closedCodes), ("scrub/chars.names", Rows.laid_scrub_chars_names), ("scrub/chars.replaced", Rows.laid_scrub_chars_replaced)] [.data, .data, .data, .data, .data, .data] true :=
  Program.laidByTextLater.sub seatTie1 ["scrub/scrubref.eitherNames", "scrub/scrubref.eitherCodes", "scrub/scrubref.closedNames", "scrub/scrubref.closedCodes", "scrub/chars.names", "scrub/chars.replaced"] (by kernel_rfl) (by kernel_rfl)
theorem lawUnref_row_tie : Rows.lawUnrefRow.laidByTextAt .later Tryd.pinned [.data, .data, .data, .data, .data, .data] true :=
  OpenClaim.laidByTextAt_later rfl rfl tie noOwnUnsafe
theorem lawUnrefUpto_row_tie : Rows.lawUnrefUptoRow.laidByTextAt .later Tryd.pinned [.data, .data, .data, .data, .data, .data] true :=
  OpenClaim.laidByTextAt_later rfl rfl tie noOwnUnsafe
end Go.Proofs.YtehlcnnoaonjkaaDoor
