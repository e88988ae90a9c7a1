/-
  DERIVED. GIVEN WITH THE SEED: THE PROGRAM's TIES (one call each: nine closed facts by the kernel) AND EACH ROW's TIE, after the 31st guide's Derived/Test/Toyas{Tie, Card}.lean. No idea stands in it: it is a product of the set-up. Laid BY PROGRAM, IN A SANDBOX (cutbox-door.mjs). By AI agents, Wed Nov 11 2026. No macro, syntax, notation, axiom, sorry.
-/
import Derived.Test.YtkcgmimldjeaiaaDoorRows
import Derived.LaidByTextLater
import Derived.SevenTiedAt
import Derived.LaidSub
import Derived.LaidOnce
namespace Go.Proofs.YtkcgmimldjeaiaaDoor
open Go
set_option maxRecDepth 100000
theorem seatTie1 : Tryd.prog.laidByTextLater [("math/bits.deBruijn32tab", Rows.laid_math_bits_deBruijn32tab), ("math/bits.deBruijn64tab", Rows.laid_math_bits_deBruijn64tab), ("internal/strconv.uint64pow10", Rows.laid_internal_strconv_uint64pow10), ("scrub/vocabulary.nesting", Rows.laid_scrub_vocabulary_nesting), ("scrub/vocabulary.kinds", Rows.laid_scrub_vocabulary_kinds), ("unicode/utf8.acceptRanges", Rows.laid_unicode_utf8_acceptRanges)] [.data, .data, .data, .data, .widerDeep, .data] true :=
  Program.laidByTextLater_by_one 101 8 65 (by kernel_rfl) (by kernel_rfl) (by kernel_rfl) (by kernel_rfl) (by kernel_rfl) (by kernel_rfl) (fun _ _ => by kernel_rfl)
theorem seatTie2 : Tryd.prog.laidByTextLater [("scrub/vocabulary.kinds", Rows.laid_scrub_vocabulary_kinds), ("scrub/vocabulary.attributes", Rows.laid_scrub_vocabulary_attributes), ("unicode/utf8.acceptRanges", Rows.laid_unicode_utf8_acceptRanges), ("scrub/scrublaw.allElements", Rows.laid_scrub_scrublaw_allElements), ("scrub/scrublaw.allAttributes", Rows.laid_scrub_scrublaw_allAttributes), ("scrub/scrublaw.someSchemes", Rows.laid_scrub_scrublaw_someSchemes), ("scrub/scrublaw.someDrops", Rows.laid_scrub_scrublaw_someDrops)] [.widerDeep, .data, .data, .data, .data, .data, .data] true :=
  Program.laidByTextLater_by_one 101 8 65 (by kernel_rfl) (by kernel_rfl) (by kernel_rfl) (by kernel_rfl) (by kernel_rfl) (by kernel_rfl) (fun _ _ => by kernel_rfl)
theorem pin_laid_unicode_utf8_first : Tryd.pinned.checked.prog.pinnedFits "unicode/utf8.first" = true := by kernel_rfl
theorem noOwnUnsafe : Tryd.pinned.checked.prog.headLifts.contains "ownunsafe" = false := by kernel_rfl
theorem tie : Tryd.prog.laidByTextLater [("math/bits.deBruijn32tab", Rows.laid_math_bits_deBruijn32tab), ("math/bits.deBruijn64tab", Rows.laid_math_bits_deBruijn64tab), ("internal/strconv.uint64pow10", Rows.laid_internal_strconv_uint64pow10), ("scrub/vocabulary.nesting", Rows.laid_scrub_vocabulary_nesting), ("scrub/vocabulary.kinds", Rows.laid_scrub_vocabulary_kinds)] [.data, .data, .data, .data, .widerDeep] true :=
  Program.laidByTextLater.sub seatTie1 ["math/bits.deBruijn32tab", "math/bits.deBruijn64tab", "internal/strconv.uint64pow10", "scrub/vocabulary.nesting", "scrub/vocabulary.kinds"] (by kernel_rfl) (by kernel_rfl)
theorem lawBalance_row_tie : Rows.lawBalanceRow.laidByTextAt .later Tryd.pinned [.data, .data, .data, .data, .widerDeep] true :=
  OpenClaim.laidByTextAt_later rfl rfl tie noOwnUnsafe
theorem fits2 : Tryd.pinned.checked.prog.listedFits [("scrub/vocabulary.kinds", Rows.laid_scrub_vocabulary_kinds), ("scrub/vocabulary.attributes", Rows.laid_scrub_vocabulary_attributes), ("unicode/utf8.acceptRanges", Rows.laid_unicode_utf8_acceptRanges), ("scrub/scrublaw.allElements", Rows.laid_scrub_scrublaw_allElements), ("scrub/scrublaw.allAttributes", Rows.laid_scrub_scrublaw_allAttributes), ("scrub/scrublaw.someSchemes", Rows.laid_scrub_scrublaw_someSchemes), ("scrub/scrublaw.someDrops", Rows.laid_scrub_scrublaw_someDrops), ("unicode/utf8.first", Rows.laid_unicode_utf8_first)] = true := by
  unfold Program.listedFits
  rw [noOwnUnsafe]
  kernel_rfl
theorem tie2 : Tryd.prog.laidByTextLater [("scrub/vocabulary.kinds", Rows.laid_scrub_vocabulary_kinds), ("scrub/vocabulary.attributes", Rows.laid_scrub_vocabulary_attributes), ("unicode/utf8.acceptRanges", Rows.laid_unicode_utf8_acceptRanges), ("scrub/scrublaw.allElements", Rows.laid_scrub_scrublaw_allElements), ("scrub/scrublaw.allAttributes", Rows.laid_scrub_scrublaw_allAttributes), ("scrub/scrublaw.someSchemes", Rows.laid_scrub_scrublaw_someSchemes), ("scrub/scrublaw.someDrops", Rows.laid_scrub_scrublaw_someDrops)] [.widerDeep, .data, .data, .data, .data, .data, .data] true :=
  Program.laidByTextLater.sub seatTie2 ["scrub/vocabulary.kinds", "scrub/vocabulary.attributes", "unicode/utf8.acceptRanges", "scrub/scrublaw.allElements", "scrub/scrublaw.allAttributes", "scrub/scrublaw.someSchemes", "scrub/scrublaw.someDrops"] (by kernel_rfl) (by kernel_rfl)
theorem lawDrop_row_tie : Rows.lawDropRow.laidByTextAt .later Tryd.pinned [.widerDeep, .data, .data, .data, .data, .data, .data, .pinned] true :=
  OpenClaim.laidByTextAt_pinned rfl rfl tie2 rfl rfl rfl rfl (fun y hy _e => by
    simp only [Rows.lawDropRow, List.zip_cons_cons, List.zip_nil_right, List.mem_cons, List.mem_nil_iff, or_false] at hy
    rcases hy with rfl | rfl | rfl | rfl | rfl | rfl | rfl | rfl
    · cases _e
    · cases _e
    · cases _e
    · cases _e
    · cases _e
    · cases _e
    · cases _e
    · exact ⟨pin_laid_unicode_utf8_first, by kernel_rfl⟩) fits2
theorem fits3 : Tryd.pinned.checked.prog.listedFits [("math/bits.deBruijn32tab", Rows.laid_math_bits_deBruijn32tab), ("math/bits.deBruijn64tab", Rows.laid_math_bits_deBruijn64tab), ("internal/strconv.uint64pow10", Rows.laid_internal_strconv_uint64pow10), ("scrub/vocabulary.kinds", Rows.laid_scrub_vocabulary_kinds), ("unicode/utf8.acceptRanges", Rows.laid_unicode_utf8_acceptRanges), ("unicode/utf8.first", Rows.laid_unicode_utf8_first)] = true := by
  unfold Program.listedFits
  rw [noOwnUnsafe]
  kernel_rfl
theorem tie3 : Tryd.prog.laidByTextLater [("math/bits.deBruijn32tab", Rows.laid_math_bits_deBruijn32tab), ("math/bits.deBruijn64tab", Rows.laid_math_bits_deBruijn64tab), ("internal/strconv.uint64pow10", Rows.laid_internal_strconv_uint64pow10), ("scrub/vocabulary.kinds", Rows.laid_scrub_vocabulary_kinds), ("unicode/utf8.acceptRanges", Rows.laid_unicode_utf8_acceptRanges)] [.data, .data, .data, .widerDeep, .data] true :=
  Program.laidByTextLater.sub seatTie1 ["math/bits.deBruijn32tab", "math/bits.deBruijn64tab", "internal/strconv.uint64pow10", "scrub/vocabulary.kinds", "unicode/utf8.acceptRanges"] (by kernel_rfl) (by kernel_rfl)
theorem lawMarkup_row_tie : Rows.lawMarkupRow.laidByTextAt .later Tryd.pinned [.data, .data, .data, .widerDeep, .data, .pinned] true :=
  OpenClaim.laidByTextAt_pinned rfl rfl tie3 rfl rfl rfl rfl (fun y hy _e => by
    simp only [Rows.lawMarkupRow, List.zip_cons_cons, List.zip_nil_right, List.mem_cons, List.mem_nil_iff, or_false] at hy
    rcases hy with rfl | rfl | rfl | rfl | rfl | rfl
    · cases _e
    · cases _e
    · cases _e
    · cases _e
    · cases _e
    · exact ⟨pin_laid_unicode_utf8_first, by kernel_rfl⟩) fits3
theorem lawBalanceUpto_row_tie : Rows.lawBalanceUptoRow.laidByTextAt .later Tryd.pinned [.data, .data, .data, .data, .widerDeep] true :=
  OpenClaim.laidByTextAt_later rfl rfl tie noOwnUnsafe
theorem lawDropUpto_row_tie : Rows.lawDropUptoRow.laidByTextAt .later Tryd.pinned [.widerDeep, .data, .data, .data, .data, .data, .data, .pinned] true :=
  OpenClaim.laidByTextAt_pinned rfl rfl tie2 rfl rfl rfl rfl (fun y hy _e => by
    simp only [Rows.lawDropUptoRow, List.zip_cons_cons, List.zip_nil_right, List.mem_cons, List.mem_nil_iff, or_false] at hy
    rcases hy with rfl | rfl | rfl | rfl | rfl | rfl | rfl | rfl
    · cases _e
    · cases _e
    · cases _e
    · cases _e
    · cases _e
    · cases _e
    · cases _e
    · exact ⟨pin_laid_unicode_utf8_first, by kernel_rfl⟩) fits2
theorem lawMarkupUpto_row_tie : Rows.lawMarkupUptoRow.laidByTextAt .later Tryd.pinned [.data, .data, .data, .widerDeep, .data, .pinned] true :=
  OpenClaim.laidByTextAt_pinned rfl rfl tie3 rfl rfl rfl rfl (fun y hy _e => by
    simp only [Rows.lawMarkupUptoRow, List.zip_cons_cons, List.zip_nil_right, List.mem_cons, List.mem_nil_iff, or_false] at hy
    rcases hy with rfl | rfl | rfl | rfl | rfl | rfl
    · cases _e
    · cases _e
    · cases _e
    · cases _e
    · cases _e
    · exact ⟨pin_laid_unicode_utf8_first, by kernel_rfl⟩) fits3
end Go.Proofs.YtkcgmimldjeaiaaDoor
