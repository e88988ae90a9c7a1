/-
  DERIVED. GIVEN WITH THE SEED: THE PROGRAM's TIES (one call each: nine closed facts by the kernel) AND EACH ROW's TIE, after the 31st guide's Derived/Test/Toyas{Tie, Card}.lean. No idea stands in it: it is a product of the set-up. Laid BY PROGRAM, IN A SANDBOX (cutbox-door.mjs). By AI agents, Wed Nov 11 2026. No macro, syntax, notation, axiom, sorry.
-/
import Derived.Test.YtialeicpelehoaaDoorRows
import Derived.LaidByTextLater
import Derived.SevenTiedAt
import Derived.LaidSub
import Derived.LaidOnce
namespace Go.Proofs.YtialeicpelehoaaDoor
open Go
set_option maxRecDepth 100000
theorem seatTie1 : Tryd.prog.laidByTextLater [("unicode/utf8.acceptRanges", Rows.laid_unicode_utf8_acceptRanges), ("scrub/chars.names", Rows.laid_scrub_chars_names), ("scrub/chars.replaced", Rows.laid_scrub_chars_replaced), ("scrub/lexer.tagStates", Rows.laid_scrub_lexer_tagStates)] [.data, .data, .data, .data] true :=
  Program.laidByTextLater_by_one 101 8 79 (by kernel_rfl) (by kernel_rfl) (by kernel_rfl) (by kernel_rfl) (by kernel_rfl) (by kernel_rfl) (fun _ _ => by kernel_rfl)
theorem seatTie2 : Tryd.prog.laidByTextLater [("scrub/scrubref.eitherNames", Rows.laid_scrub_scrubref_eitherNames), ("scrub/scrubref.eitherCodes", Rows.laid_scrub_scrubref_eitherCodes), ("scrub/scrubref.closedNames", Rows.laid_scrub_scrubref_closedNames), ("scrub/scrubref.closedCodes", Rows.laid_scrub_scrubref_closedCodes), ("scrub/chars.names", Rows.laid_scrub_chars_names), ("scrub/chars.replaced", Rows.laid_scrub_chars_replaced)] [.data, .data, .data, .data, .data, .data] true :=
  Program.laidByTextLater_by_one 101 8 79 (by kernel_rfl) (by kernel_rfl) (by kernel_rfl) (by kernel_rfl) (by kernel_rfl) (by kernel_rfl) (fun _ _ => by kernel_rfl)
theorem pin_laid_unicode_utf8_first : Tryd.pinned.checked.prog.pinnedFits "unicode/utf8.first" = true := by kernel_rfl
theorem noOwnUnsafe : Tryd.pinned.checked.prog.headLifts.contains "ownunsafe" = false := by kernel_rfl
theorem fits1 : Tryd.pinned.checked.prog.listedFits [("unicode/utf8.acceptRanges", Rows.laid_unicode_utf8_acceptRanges), ("unicode/utf8.first", Rows.laid_unicode_utf8_first)] = true := by
  unfold Program.listedFits
  rw [noOwnUnsafe]
  kernel_rfl
theorem tie : Tryd.prog.laidByTextLater [("unicode/utf8.acceptRanges", Rows.laid_unicode_utf8_acceptRanges)] [.data] true :=
  Program.laidByTextLater.sub seatTie1 ["unicode/utf8.acceptRanges"] (by kernel_rfl) (by kernel_rfl)
theorem lawPourCut_row_tie : Rows.lawPourCutRow.laidByTextAt .later Tryd.pinned [.data, .pinned] true :=
  OpenClaim.laidByTextAt_pinned rfl rfl tie rfl rfl rfl rfl (fun y hy _e => by
    simp only [Rows.lawPourCutRow, List.zip_cons_cons, List.zip_nil_right, List.mem_cons, List.mem_nil_iff, or_false] at hy
    rcases hy with rfl | rfl
    · cases _e
    · exact ⟨pin_laid_unicode_utf8_first, by kernel_rfl⟩) fits1
theorem tie2 : Tryd.prog.laidByTextLater [("scrub/chars.names", Rows.laid_scrub_chars_names), ("scrub/chars.replaced", Rows.laid_scrub_chars_replaced), ("scrub/lexer.tagStates", Rows.laid_scrub_lexer_tagStates)] [.data, .data, .data] true :=
  Program.laidByTextLater.sub seatTie1 ["scrub/chars.names", "scrub/chars.replaced", "scrub/lexer.tagStates"] (by kernel_rfl) (by kernel_rfl)
theorem lawResume_row_tie : Rows.lawResumeRow.laidByTextAt .later Tryd.pinned [.data, .data, .data] true :=
  OpenClaim.laidByTextAt_later rfl rfl tie2 noOwnUnsafe
theorem tie3 : Tryd.prog.laidByTextLater [("scrub/scrubref.eitherNames", Rows.laid_scrub_scrubref_eitherNames), ("scrub/scrubref.eitherCodes", Rows.laid_scrub_scrubref_eitherCodes), ("scrub/scrubref.closedNames", Rows.laid_scrub_scrubref_closedNames), ("scrub/scrubref.closedCodes", Rows.laid_scrub_scrubref_closedCodes), ("scrub/chars.names", Rows.laid_scrub_chars_names), ("scrub/chars.replaced", Rows.laid_scrub_chars_replaced)] [.data, .data, .data, .data, .data, .data] true :=
  Program.laidByTextLater.sub seatTie2 ["scrub/scrubref.eitherNames", "scrub/scrubref.eitherCodes", "scrub/scrubref.closedNames", "scrub/scrubref.closedCodes", "scrub/chars.names", "scrub/chars.replaced"] (by kernel_rfl) (by kernel_rfl)
theorem lawUnref_row_tie : Rows.lawUnrefRow.laidByTextAt .later Tryd.pinned [.data, .data, .data, .data, .data, .data] true :=
  OpenClaim.laidByTextAt_later rfl rfl tie3 noOwnUnsafe
theorem lawPourCutUpto_row_tie : Rows.lawPourCutUptoRow.laidByTextAt .later Tryd.pinned [.data, .pinned] true :=
  OpenClaim.laidByTextAt_pinned rfl rfl tie rfl rfl rfl rfl (fun y hy _e => by
    simp only [Rows.lawPourCutUptoRow, List.zip_cons_cons, List.zip_nil_right, List.mem_cons, List.mem_nil_iff, or_false] at hy
    rcases hy with rfl | rfl
    · cases _e
    · exact ⟨pin_laid_unicode_utf8_first, by kernel_rfl⟩) fits1
theorem lawResumeUpto_row_tie : Rows.lawResumeUptoRow.laidByTextAt .later Tryd.pinned [.data, .data, .data] true :=
  OpenClaim.laidByTextAt_later rfl rfl tie2 noOwnUnsafe
theorem lawUnrefUpto_row_tie : Rows.lawUnrefUptoRow.laidByTextAt .later Tryd.pinned [.data, .data, .data, .data, .data, .data] true :=
  OpenClaim.laidByTextAt_later rfl rfl tie3 noOwnUnsafe
end Go.Proofs.YtialeicpelehoaaDoor
