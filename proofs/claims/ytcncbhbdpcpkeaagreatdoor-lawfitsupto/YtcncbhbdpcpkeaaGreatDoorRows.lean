/-
  NARROWER THAN 'FOR EVERY INPUT', by the rows' own cells (each row's printed sentence says how): LawBalanced: laid · LawFits: laid · LawParse: laid.
  DERIVED. THE GIVEN ROWS OF THIS SEAT. 3 by the template 'for every input the law returns true; each argument reads behind the call as it read before'; 0 by the template 'total and deterministic' (their statements: YtcncbhbdpcpkeaaGreatDoorTotals.lean).
  GIVEN WITH THE SEED: the statements are not yours to turn. If you find one false, say at which input.
  Laid BY PROGRAM, IN A SANDBOX (cutbox-rows.mjs): the forced cells as the released guide's own fill.sh prints them over the translation 7cb23f43a24e22fb… (all of the seat's roots in one cut). By AI agents, Wed Nov 11 2026. No macro, syntax, notation, axiom, sorry.
-/
import Derived.Test.YtcncbhbdpcpkeaaGreatDoorChecked
import GoSem.PinnedTables
import GoSem.Claim
import GoSem.ClaimJoined
import GoSem.ClaimMapViews
import Derived.JoinedTies
import Derived.KernelRfl
namespace Go.Proofs.YtcncbhbdpcpkeaaGreatDoor
/- THE CELL 'sum', in the pinned program and in every row, IS THE sha256 OF THE DUMP (.gsa) THAT YtcncbhbdpcpkeaaGreatDoorProg.lean LOADS. Nothing in Lean hashes anything: it is a label: what it is worth is what the hold of that sum in a sandbox is worth. -/
noncomputable def Tryz.pinned : Pinned := { name := "ytcncbhbdpcpkeaagreatdoor", sum := "7cb23f43a24e22fbaff0f10a46ff237f8079b0b7d90584657daa1570dc603a12", checked := Tryz.checked }
namespace Rows
def none {H : Type} : Left H := { results := [], args := [] }

/- WHAT THE LISTED PACKAGE-LEVEL VARIABLES READ AS WHEN THE CALL BEGINS. Each datum BY PROGRAM (the guide's laid-datum.mjs) off the statement by which the dump's own 'gosem.cut.vars' lays the variable. In a bare row this is a premise. The card (YtcncbhbdpcpkeaaGreatDoorCards.lean) ties it to the program's text. -/
def laid_scrub_vocabulary_nesting {H : Type} : DataW H := .agg [.agg [.lit (.int .i64 2), .lit (.int .i64 2), .lit (.int .i64 2), .lit (.int .i64 1), .lit (.int .i64 1), .lit (.int .i64 1), .lit (.int .i64 1)], .agg [.lit (.int .i64 1), .lit (.int .i64 2), .lit (.int .i64 2), .lit (.int .i64 1), .lit (.int .i64 1), .lit (.int .i64 1), .lit (.int .i64 1)], .agg [.lit (.int .i64 1), .lit (.int .i64 1), .lit (.int .i64 2), .lit (.int .i64 1), .lit (.int .i64 1), .lit (.int .i64 1), .lit (.int .i64 1)], .agg [.lit (.int .i64 3), .lit (.int .i64 3), .lit (.int .i64 3), .lit (.int .i64 2), .lit (.int .i64 1), .lit (.int .i64 1), .lit (.int .i64 1)], .agg [.lit (.int .i64 6), .lit (.int .i64 6), .lit (.int .i64 6), .lit (.int .i64 0), .lit (.int .i64 2), .lit (.int .i64 4), .lit (.int .i64 5)], .agg [.lit (.int .i64 8), .lit (.int .i64 8), .lit (.int .i64 8), .lit (.int .i64 0), .lit (.int .i64 1), .lit (.int .i64 2), .lit (.int .i64 7)], .agg [.lit (.int .i64 9), .lit (.int .i64 9), .lit (.int .i64 9), .lit (.int .i64 0), .lit (.int .i64 1), .lit (.int .i64 1), .lit (.int .i64 2)], .agg [.lit (.int .i64 2), .lit (.int .i64 2), .lit (.int .i64 2), .lit (.int .i64 0), .lit (.int .i64 1), .lit (.int .i64 1), .lit (.int .i64 1)]]
def laid_scrub_vocabulary_kinds {H : Type} : DataW H := .agg [.agg [.slice [.lit (.string [97]), .lit (.string [98]), .lit (.string [99, 111, 100, 101]), .lit (.string [101, 109]), .lit (.string [105]), .lit (.string [113]), .lit (.string [115]), .lit (.string [115, 109, 97, 108, 108]), .lit (.string [115, 112, 97, 110]), .lit (.string [115, 116, 114, 111, 110, 103]), .lit (.string [115, 117, 98]), .lit (.string [115, 117, 112]), .lit (.string [117])] [], .lit (.int .i64 2), .lit (.int .i64 2)], .agg [.slice [.lit (.string [98, 114]), .lit (.string [105, 109, 103])] [], .lit (.int .i64 2), .lit (.int .i64 9)], .agg [.slice [.lit (.string [116, 101, 120, 116, 97, 114, 101, 97])] [], .lit (.int .i64 2), .lit (.int .i64 3)], .agg [.slice [.lit (.string [104, 49]), .lit (.string [104, 50]), .lit (.string [104, 51]), .lit (.string [104, 52]), .lit (.string [104, 53]), .lit (.string [104, 54]), .lit (.string [112]), .lit (.string [112, 114, 101])] [], .lit (.int .i64 1), .lit (.int .i64 2)], .agg [.slice [.lit (.string [98, 108, 111, 99, 107, 113, 117, 111, 116, 101]), .lit (.string [100, 105, 118])] [], .lit (.int .i64 1), .lit (.int .i64 1)], .agg [.slice [.lit (.string [104, 114])] [], .lit (.int .i64 1), .lit (.int .i64 9)], .agg [.slice [.lit (.string [111, 108]), .lit (.string [117, 108])] [], .lit (.int .i64 1), .lit (.int .i64 4)], .agg [.slice [.lit (.string [116, 97, 98, 108, 101])] [], .lit (.int .i64 1), .lit (.int .i64 5)], .agg [.slice [.lit (.string [108, 105])] [], .lit (.int .i64 4), .lit (.int .i64 1)], .agg [.slice [.lit (.string [116, 98, 111, 100, 121]), .lit (.string [116, 102, 111, 111, 116]), .lit (.string [116, 104, 101, 97, 100])] [], .lit (.int .i64 5), .lit (.int .i64 6)], .agg [.slice [.lit (.string [116, 114])] [], .lit (.int .i64 6), .lit (.int .i64 7)], .agg [.slice [.lit (.string [116, 100]), .lit (.string [116, 104])] [], .lit (.int .i64 7), .lit (.int .i64 8)]]
def laid_unicode_utf8_acceptRanges {H : Type} : DataW H := .agg [.agg [.lit (.int .u8 128), .lit (.int .u8 191)], .agg [.lit (.int .u8 160), .lit (.int .u8 191)], .agg [.lit (.int .u8 128), .lit (.int .u8 159)], .agg [.lit (.int .u8 144), .lit (.int .u8 191)], .agg [.lit (.int .u8 128), .lit (.int .u8 143)], .agg [.lit (.int .u8 0), .lit (.int .u8 0)], .agg [.lit (.int .u8 0), .lit (.int .u8 0)], .agg [.lit (.int .u8 0), .lit (.int .u8 0)], .agg [.lit (.int .u8 0), .lit (.int .u8 0)], .agg [.lit (.int .u8 0), .lit (.int .u8 0)], .agg [.lit (.int .u8 0), .lit (.int .u8 0)], .agg [.lit (.int .u8 0), .lit (.int .u8 0)], .agg [.lit (.int .u8 0), .lit (.int .u8 0)], .agg [.lit (.int .u8 0), .lit (.int .u8 0)], .agg [.lit (.int .u8 0), .lit (.int .u8 0)], .agg [.lit (.int .u8 0), .lit (.int .u8 0)]]
def laid_scrub_markup_references {H : Type} : DataW H := .agg [.agg [.lit (.string [38, 97, 109, 112, 59]), .lit (.int .i32 38)], .agg [.lit (.string [38, 108, 116, 59]), .lit (.int .i32 60)], .agg [.lit (.string [38, 103, 116, 59]), .lit (.int .i32 62)], .agg [.lit (.string [38, 113, 117, 111, 116, 59]), .lit (.int .i32 34)], .agg [.lit (.string [38, 110, 98, 115, 112, 59]), .lit (.int .i32 160)]]
/-- One of Go's own tables, pinned by name: the form's constant. -/
def laid_unicode_utf8_first : DataW Unit := Go.Pinned.utf8First
def laid_scrub_scrubref_attributeNames {H : Type} : DataW H := .agg [.lit (.string [119, 105, 100, 116, 104]), .lit (.string [116, 105, 116, 108, 101]), .lit (.string [115, 116, 97, 114, 116]), .lit (.string [115, 114, 99]), .lit (.string [114, 111, 119, 115, 112, 97, 110]), .lit (.string [114, 101, 108]), .lit (.string [108, 97, 110, 103]), .lit (.string [105, 100]), .lit (.string [104, 114, 101, 102]), .lit (.string [104, 101, 105, 103, 104, 116]), .lit (.string [100, 105, 114]), .lit (.string [99, 111, 108, 115, 112, 97, 110]), .lit (.string [99, 108, 97, 115, 115]), .lit (.string [99, 105, 116, 101]), .lit (.string [97, 108, 116])]
def laid_scrub_vocabulary_attributes {H : Type} : DataW H := .agg [.lit (.string [97, 108, 116]), .lit (.string [99, 105, 116, 101]), .lit (.string [99, 108, 97, 115, 115]), .lit (.string [99, 111, 108, 115, 112, 97, 110]), .lit (.string [100, 105, 114]), .lit (.string [104, 101, 105, 103, 104, 116]), .lit (.string [104, 114, 101, 102]), .lit (.string [105, 100]), .lit (.string [108, 97, 110, 103]), .lit (.string [114, 101, 108]), .lit (.string [114, 111, 119, 115, 112, 97, 110]), .lit (.string [115, 114, 99]), .lit (.string [115, 116, 97, 114, 116]), .lit (.string [116, 105, 116, 108, 101]), .lit (.string [119, 105, 100, 116, 104])]
def laid_math_bits_deBruijn32tab {H : Type} : DataW H := .agg [.lit (.int .u8 0), .lit (.int .u8 1), .lit (.int .u8 28), .lit (.int .u8 2), .lit (.int .u8 29), .lit (.int .u8 14), .lit (.int .u8 24), .lit (.int .u8 3), .lit (.int .u8 30), .lit (.int .u8 22), .lit (.int .u8 20), .lit (.int .u8 15), .lit (.int .u8 25), .lit (.int .u8 17), .lit (.int .u8 4), .lit (.int .u8 8), .lit (.int .u8 31), .lit (.int .u8 27), .lit (.int .u8 13), .lit (.int .u8 23), .lit (.int .u8 21), .lit (.int .u8 19), .lit (.int .u8 16), .lit (.int .u8 7), .lit (.int .u8 26), .lit (.int .u8 12), .lit (.int .u8 18), .lit (.int .u8 6), .lit (.int .u8 11), .lit (.int .u8 5), .lit (.int .u8 10), .lit (.int .u8 9)]
def laid_math_bits_deBruijn64tab {H : Type} : DataW H := .agg [.lit (.int .u8 0), .lit (.int .u8 1), .lit (.int .u8 56), .lit (.int .u8 2), .lit (.int .u8 57), .lit (.int .u8 49), .lit (.int .u8 28), .lit (.int .u8 3), .lit (.int .u8 61), .lit (.int .u8 58), .lit (.int .u8 42), .lit (.int .u8 50), .lit (.int .u8 38), .lit (.int .u8 29), .lit (.int .u8 17), .lit (.int .u8 4), .lit (.int .u8 62), .lit (.int .u8 47), .lit (.int .u8 59), .lit (.int .u8 36), .lit (.int .u8 45), .lit (.int .u8 43), .lit (.int .u8 51), .lit (.int .u8 22), .lit (.int .u8 53), .lit (.int .u8 39), .lit (.int .u8 33), .lit (.int .u8 30), .lit (.int .u8 24), .lit (.int .u8 18), .lit (.int .u8 12), .lit (.int .u8 5), .lit (.int .u8 63), .lit (.int .u8 55), .lit (.int .u8 48), .lit (.int .u8 27), .lit (.int .u8 60), .lit (.int .u8 41), .lit (.int .u8 37), .lit (.int .u8 16), .lit (.int .u8 46), .lit (.int .u8 35), .lit (.int .u8 44), .lit (.int .u8 21), .lit (.int .u8 52), .lit (.int .u8 32), .lit (.int .u8 23), .lit (.int .u8 11), .lit (.int .u8 54), .lit (.int .u8 26), .lit (.int .u8 40), .lit (.int .u8 15), .lit (.int .u8 34), .lit (.int .u8 20), .lit (.int .u8 31), .lit (.int .u8 10), .lit (.int .u8 25), .lit (.int .u8 14), .lit (.int .u8 19), .lit (.int .u8 9), .lit (.int .u8 13), .lit (.int .u8 8), .lit (.int .u8 7), .lit (.int .u8 6)]
def laid_internal_strconv_uint64pow10 {H : Type} : DataW H := .agg [.lit (.int .u64 1), .lit (.int .u64 10), .lit (.int .u64 100), .lit (.int .u64 1000), .lit (.int .u64 10000), .lit (.int .u64 100000), .lit (.int .u64 1000000), .lit (.int .u64 10000000), .lit (.int .u64 100000000), .lit (.int .u64 1000000000), .lit (.int .u64 10000000000), .lit (.int .u64 100000000000), .lit (.int .u64 1000000000000), .lit (.int .u64 10000000000000), .lit (.int .u64 100000000000000), .lit (.int .u64 1000000000000000), .lit (.int .u64 10000000000000000), .lit (.int .u64 100000000000000000), .lit (.int .u64 1000000000000000000), .lit (.int .u64 10000000000000000000)]

/-- 'scrublaw.LawBalanced': WHATEVER THE INPUT: true; the input reads as it did. -/
def lawBalancedSpec : ChangeSpec := { name := "lawBalanced", fn := fun _ => fun
  | [d1, d2, d3] => { results := [.lit (.bool true)], args := [d1, d2, d3] }
  | _ => none }
def lawBalancedRow : OpenClaim := { program := "ytcncbhbdpcpkeaagreatdoor", sum := "7cb23f43a24e22fbaff0f10a46ff237f8079b0b7d90584657daa1570dc603a12", func := "scrub/scrublaw.LawBalanced", spec := "lawBalanced", inPlace := ["internal/abi.NoEscape", "internal/bytealg.CountString", "internal/bytealg.IndexByteString", "internal/bytealg.IndexString", "internal/bytealg.MakeNoZero"], recurses := true, named := ["scrub/vocabulary.kinds", "scrub/vocabulary.nesting", "internal/bytealg.MaxLen", "unicode/utf8.first", "unicode/utf8.acceptRanges", "scrub/markup.references"], apart := false, laid := [("scrub/vocabulary.nesting", laid_scrub_vocabulary_nesting), ("scrub/vocabulary.kinds", laid_scrub_vocabulary_kinds), ("unicode/utf8.acceptRanges", laid_unicode_utf8_acceptRanges), ("scrub/markup.references", laid_scrub_markup_references), ("unicode/utf8.first", laid_unicode_utf8_first)] }
def LawBalancedSaid : Prop := lawBalancedRow.holds Tryz.pinned (OpenSpec.ofChange lawBalancedSpec)

/-- ITS FALSE NEIGHBOUR: 'it returns false'. Refute it at one input. -/
def lawBalancedWrong : ChangeSpec := { name := "lawBalanced", fn := fun _ => fun
  | [d1, d2, d3] => { results := [.lit (.bool false)], args := [d1, d2, d3] }
  | _ => none }
def LawBalancedWrongFalsely : Prop := lawBalancedRow.holds Tryz.pinned (OpenSpec.ofChange lawBalancedWrong)

/-- 'scrublaw.LawFits': WHATEVER THE INPUT: true; the input reads as it did. -/
def lawFitsSpec : ChangeSpec := { name := "lawFits", fn := fun _ => fun
  | [d1, d2, d3] => { results := [.lit (.bool true)], args := [d1, d2, d3] }
  | _ => none }
def lawFitsRow : OpenClaim := { program := "ytcncbhbdpcpkeaagreatdoor", sum := "7cb23f43a24e22fbaff0f10a46ff237f8079b0b7d90584657daa1570dc603a12", func := "scrub/scrublaw.LawFits", spec := "lawFits", inPlace := ["internal/bytealg.IndexByteString", "internal/abi.NoEscape", "internal/bytealg.IndexString", "internal/bytealg.CountString", "internal/bytealg.MakeNoZero"], unfollowed := true, recurses := true, named := ["scrub/scrubref.attributeNames", "scrub/vocabulary.kinds", "scrub/vocabulary.attributes", "unicode/utf8.first", "unicode/utf8.acceptRanges", "internal/bytealg.MaxLen", "scrub/vocabulary.nesting"], apart := false, laid := [("scrub/scrubref.attributeNames", laid_scrub_scrubref_attributeNames), ("scrub/vocabulary.nesting", laid_scrub_vocabulary_nesting), ("scrub/vocabulary.kinds", laid_scrub_vocabulary_kinds), ("scrub/vocabulary.attributes", laid_scrub_vocabulary_attributes), ("unicode/utf8.acceptRanges", laid_unicode_utf8_acceptRanges), ("unicode/utf8.first", laid_unicode_utf8_first)] }
def LawFitsSaid : Prop := lawFitsRow.holds Tryz.pinned (OpenSpec.ofChange lawFitsSpec)

/-- ITS FALSE NEIGHBOUR: 'it returns false'. Refute it at one input. -/
def lawFitsWrong : ChangeSpec := { name := "lawFits", fn := fun _ => fun
  | [d1, d2, d3] => { results := [.lit (.bool false)], args := [d1, d2, d3] }
  | _ => none }
def LawFitsWrongFalsely : Prop := lawFitsRow.holds Tryz.pinned (OpenSpec.ofChange lawFitsWrong)

/-- 'scrublaw.LawParse': WHATEVER THE INPUT: true; the input reads as it did. -/
def lawParseSpec : ChangeSpec := { name := "lawParse", fn := fun _ => fun
  | [d1, d2] => { results := [.lit (.bool true)], args := [d1, d2] }
  | _ => none }
def lawParseRow : OpenClaim := { program := "ytcncbhbdpcpkeaagreatdoor", sum := "7cb23f43a24e22fbaff0f10a46ff237f8079b0b7d90584657daa1570dc603a12", func := "scrub/scrublaw.LawParse", spec := "lawParse", inPlace := ["internal/bytealg.IndexByteString", "internal/bytealg.IndexString", "internal/abi.NoEscape", "internal/bytealg.CountString", "internal/bytealg.MakeNoZero"], recurses := true, named := ["internal/bytealg.MaxLen", "unicode/utf8.first", "unicode/utf8.acceptRanges", "scrub/markup.references", "scrub/vocabulary.kinds", "internal/strconv.uint64pow10", "math/bits.deBruijn32tab", "math/bits.deBruijn64tab"], apart := false, laid := [("math/bits.deBruijn32tab", laid_math_bits_deBruijn32tab), ("math/bits.deBruijn64tab", laid_math_bits_deBruijn64tab), ("internal/strconv.uint64pow10", laid_internal_strconv_uint64pow10), ("scrub/vocabulary.kinds", laid_scrub_vocabulary_kinds), ("unicode/utf8.acceptRanges", laid_unicode_utf8_acceptRanges), ("scrub/markup.references", laid_scrub_markup_references), ("unicode/utf8.first", laid_unicode_utf8_first)] }
def LawParseSaid : Prop := lawParseRow.holds Tryz.pinned (OpenSpec.ofChange lawParseSpec)

/-- ITS FALSE NEIGHBOUR: 'it returns false'. Refute it at one input. -/
def lawParseWrong : ChangeSpec := { name := "lawParse", fn := fun _ => fun
  | [d1, d2] => { results := [.lit (.bool false)], args := [d1, d2] }
  | _ => none }
def LawParseWrongFalsely : Prop := lawParseRow.holds Tryz.pinned (OpenSpec.ofChange lawParseWrong)

/- THE SECOND FORM. 'bulk': how many values and letters a reading holds, each counted each time it is reached (what is shared counts as often as it is met; a slice's spare places count too). A statement '..UptoSaid' is the law's where the arguments, and the package variables that the reading takes, are together of bulk at most 1048576: NARROWER than '..Said'. Prove '..Said' where nothing that the law and all that it calls make is longer than what came in: it says more and counts as full. Else prove '..UptoSaid'. A law counts once. -/
mutual
def uptoBulk {H : Type} : DataW H → Nat
  | .lit (.string bytes) => bytes.length + 1
  | .lit _ => 1
  | .nil => 1
  | .ptr d => uptoBulk d + 1
  | .slice elems spare => uptoBulkAll elems + uptoBulkAll spare + 1
  | .agg parts => uptoBulkAll parts + 1
  | .iface _ d => uptoBulk d + 1
  | .map entries => uptoBulkEntries entries + 1
  | .held _ => 1
def uptoBulkAll {H : Type} : List (DataW H) → Nat
  | [] => 0
  | d :: r => uptoBulk d + uptoBulkAll r
def uptoBulkEntries {H : Type} : List (Lit × DataW H) → Nat
  | [] => 0
  | x :: r => uptoBulkEntry x + uptoBulkEntries r
def uptoBulkEntry {H : Type} : Lit × DataW H → Nat
  | (.string bytes, d) => bytes.length + uptoBulk d + 1
  | (_, d) => uptoBulk d + 1
 end
def uptoSmall : (H : Type) → List (DataW H) → Bool := fun _ ds => decide (uptoBulkAll ds ≤ 1048576)
def OpenSpec.upto (s : _root_.Go.ChangeSpec) : _root_.Go.OpenSpec := { _root_.Go.OpenSpec.ofChange s with cond := some uptoSmall }

/-- 'scrublaw.LawBalanced', WHERE WHAT IT READS IS OF BULK AT MOST 1048576: true; the input reads as it did. -/
def lawBalancedUptoRow : OpenClaim := { program := "ytcncbhbdpcpkeaagreatdoor", sum := "7cb23f43a24e22fbaff0f10a46ff237f8079b0b7d90584657daa1570dc603a12", func := "scrub/scrublaw.LawBalanced", spec := "lawBalanced", inPlace := ["internal/abi.NoEscape", "internal/bytealg.CountString", "internal/bytealg.IndexByteString", "internal/bytealg.IndexString", "internal/bytealg.MakeNoZero"], recurses := true, named := ["scrub/vocabulary.kinds", "scrub/vocabulary.nesting", "internal/bytealg.MaxLen", "unicode/utf8.first", "unicode/utf8.acceptRanges", "scrub/markup.references"], apart := false, laid := [("scrub/vocabulary.nesting", laid_scrub_vocabulary_nesting), ("scrub/vocabulary.kinds", laid_scrub_vocabulary_kinds), ("unicode/utf8.acceptRanges", laid_unicode_utf8_acceptRanges), ("scrub/markup.references", laid_scrub_markup_references), ("unicode/utf8.first", laid_unicode_utf8_first)], narrowed := true }
def LawBalancedUptoSaid : Prop := lawBalancedUptoRow.holds Tryz.pinned (OpenSpec.upto lawBalancedSpec)

/-- 'scrublaw.LawFits', WHERE WHAT IT READS IS OF BULK AT MOST 1048576: true; the input reads as it did. -/
def lawFitsUptoRow : OpenClaim := { program := "ytcncbhbdpcpkeaagreatdoor", sum := "7cb23f43a24e22fbaff0f10a46ff237f8079b0b7d90584657daa1570dc603a12", func := "scrub/scrublaw.LawFits", spec := "lawFits", inPlace := ["internal/bytealg.IndexByteString", "internal/abi.NoEscape", "internal/bytealg.IndexString", "internal/bytealg.CountString", "internal/bytealg.MakeNoZero"], unfollowed := true, recurses := true, named := ["scrub/scrubref.attributeNames", "scrub/vocabulary.kinds", "scrub/vocabulary.attributes", "unicode/utf8.first", "unicode/utf8.acceptRanges", "internal/bytealg.MaxLen", "scrub/vocabulary.nesting"], apart := false, laid := [("scrub/scrubref.attributeNames", laid_scrub_scrubref_attributeNames), ("scrub/vocabulary.nesting", laid_scrub_vocabulary_nesting), ("scrub/vocabulary.kinds", laid_scrub_vocabulary_kinds), ("scrub/vocabulary.attributes", laid_scrub_vocabulary_attributes), ("unicode/utf8.acceptRanges", laid_unicode_utf8_acceptRanges), ("unicode/utf8.first", laid_unicode_utf8_first)], narrowed := true }
def LawFitsUptoSaid : Prop := lawFitsUptoRow.holds Tryz.pinned (OpenSpec.upto lawFitsSpec)

/-- 'scrublaw.LawParse', WHERE WHAT IT READS IS OF BULK AT MOST 1048576: true; the input reads as it did. -/
def lawParseUptoRow : OpenClaim := { program := "ytcncbhbdpcpkeaagreatdoor", sum := "7cb23f43a24e22fbaff0f10a46ff237f8079b0b7d90584657daa1570dc603a12", func := "scrub/scrublaw.LawParse", spec := "lawParse", inPlace := ["internal/bytealg.IndexByteString", "internal/bytealg.IndexString", "internal/abi.NoEscape", "internal/bytealg.CountString", "internal/bytealg.MakeNoZero"], recurses := true, named := ["internal/bytealg.MaxLen", "unicode/utf8.first", "unicode/utf8.acceptRanges", "scrub/markup.references", "scrub/vocabulary.kinds", "internal/strconv.uint64pow10", "math/bits.deBruijn32tab", "math/bits.deBruijn64tab"], apart := false, laid := [("math/bits.deBruijn32tab", laid_math_bits_deBruijn32tab), ("math/bits.deBruijn64tab", laid_math_bits_deBruijn64tab), ("internal/strconv.uint64pow10", laid_internal_strconv_uint64pow10), ("scrub/vocabulary.kinds", laid_scrub_vocabulary_kinds), ("unicode/utf8.acceptRanges", laid_unicode_utf8_acceptRanges), ("scrub/markup.references", laid_scrub_markup_references), ("unicode/utf8.first", laid_unicode_utf8_first)], narrowed := true }
def LawParseUptoSaid : Prop := lawParseUptoRow.holds Tryz.pinned (OpenSpec.upto lawParseSpec)

end Rows
end Go.Proofs.YtcncbhbdpcpkeaaGreatDoor
