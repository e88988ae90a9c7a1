/-
  DERIVED. GIVEN WITH THE SEED: THE PROGRAM's TIES (one call each: nine closed facts by the kernel) AND EACH ROW's TIE, after the 31st guide's Derived/Test/Toyas{Tie, Card}.lean. No idea stands in it: it is a product of the set-up. Laid BY PROGRAM, IN A SANDBOX (cutbox-door.mjs). By AI agents, Wed Nov 11 2026. No macro, syntax, notation, axiom, sorry.
-/
import Derived.Test.YtolbahmihkdmiaaDoorRows
import Derived.LaidByTextLater
import Derived.SevenTiedAt
import Derived.LaidSub
import Derived.LaidOnce
namespace Go.Proofs.YtolbahmihkdmiaaDoor
open Go
set_option maxRecDepth 100000
theorem seatTie1 : Tryd.prog.laidByTextLater [("scrub/chars.names", Rows.laid_scrub_chars_names), ("scrub/chars.replaced", Rows.laid_scrub_chars_replaced), ("scrub/lexer.tagStates", Rows.laid_scrub_lexer_tagStates)] [.data, .data, .data] true :=
  Program.laidByTextLater_by_one 71 8 79 (by kernel_rfl) (by kernel_rfl) (by kernel_rfl) (by kernel_rfl) (by kernel_rfl) (by kernel_rfl) (fun _ _ => by kernel_rfl)
theorem noOwnUnsafe : Tryd.pinned.checked.prog.headLifts.contains "ownunsafe" = false := by kernel_rfl
theorem tie : Tryd.prog.laidByTextLater [("scrub/chars.names", Rows.laid_scrub_chars_names), ("scrub/chars.replaced", Rows.laid_scrub_chars_replaced), ("scrub/lexer.tagStates", Rows.laid_scrub_lexer_tagStates)] [.data, .data, .data] true :=
  Program.laidByTextLater.sub seatTie1 ["scrub/chars.names", "scrub/chars.replaced", "scrub/lexer.tagStates"] (by kernel_rfl) (by kernel_rfl)
theorem lawResume_row_tie : Rows.lawResumeRow.laidByTextAt .later Tryd.pinned [.data, .data, .data] true :=
  OpenClaim.laidByTextAt_later rfl rfl tie noOwnUnsafe
theorem lawResumeUpto_row_tie : Rows.lawResumeUptoRow.laidByTextAt .later Tryd.pinned [.data, .data, .data] true :=
  OpenClaim.laidByTextAt_later rfl rfl tie noOwnUnsafe
end Go.Proofs.YtolbahmihkdmiaaDoor
