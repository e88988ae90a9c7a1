/-
  NARROWER THAN 'FOR EVERY INPUT', by the rows' own cells (each row's printed sentence says how): LawCheck: laid.
  DERIVED. THE GIVEN ROWS OF THIS SEAT. 1 by the template 'for every input the law returns true; each argument reads behind the call as it read before'; 0 by the template 'total and deterministic' (their statements: YtndlihpjefobcaaDoorTotals.lean).
  GIVEN WITH THE SEED: the statements are not yours to turn. If you find one false, say at which input.
  Laid BY PROGRAM, IN A SANDBOX (cutbox-rows.mjs): the forced cells as the released guide's own fill.sh prints them over the translation 6d7d7989c0ee96b6… (all of the seat's roots in one cut). By AI agents, Wed Nov 11 2026. No macro, syntax, notation, axiom, sorry.
-/
import Derived.Test.YtndlihpjefobcaaDoorChecked
import GoSem.PinnedTables
import GoSem.Claim
import GoSem.ClaimJoined
import GoSem.ClaimMapViews
import Derived.JoinedTies
import Derived.KernelRfl
namespace Go.Proofs.YtndlihpjefobcaaDoor
/- THE CELL 'sum', in the pinned program and in every row, IS THE sha256 OF THE DUMP (.gsa) THAT YtndlihpjefobcaaDoorProg.lean LOADS. Nothing in Lean hashes anything: it is a label: what it is worth is what the hold of that sum in a sandbox is worth. -/
noncomputable def Tryd.pinned : Pinned := { name := "ytndlihpjefobcaadoor", sum := "6d7d7989c0ee96b6453c87126659bafe0ff314de9041cbe26fe8cb7773b9f372", checked := Tryd.checked }
namespace Rows
def none {H : Type} : Left H := { results := [], args := [] }

/- WHAT THE LISTED PACKAGE-LEVEL VARIABLES READ AS WHEN THE CALL BEGINS. Each datum BY PROGRAM (the guide's laid-datum.mjs) off the statement by which the dump's own 'gosem.cut.vars' lays the variable. In a bare row this is a premise. The card (YtndlihpjefobcaaDoorCards.lean) ties it to the program's text. -/
def laid_scrub_scrubref_attributeNames {H : Type} : DataW H := .agg [.lit (.string [119, 105, 100, 116, 104]), .lit (.string [116, 105, 116, 108, 101]), .lit (.string [115, 116, 97, 114, 116]), .lit (.string [115, 114, 99]), .lit (.string [114, 111, 119, 115, 112, 97, 110]), .lit (.string [114, 101, 108]), .lit (.string [108, 97, 110, 103]), .lit (.string [105, 100]), .lit (.string [104, 114, 101, 102]), .lit (.string [104, 101, 105, 103, 104, 116]), .lit (.string [100, 105, 114]), .lit (.string [99, 111, 108, 115, 112, 97, 110]), .lit (.string [99, 108, 97, 115, 115]), .lit (.string [99, 105, 116, 101]), .lit (.string [97, 108, 116])]
def laid_scrub_vocabulary_kinds {H : Type} : DataW H := .agg [.agg [.slice [.lit (.string [97]), .lit (.string [98]), .lit (.string [99, 111, 100, 101]), .lit (.string [101, 109]), .lit (.string [105]), .lit (.string [113]), .lit (.string [115]), .lit (.string [115, 109, 97, 108, 108]), .lit (.string [115, 112, 97, 110]), .lit (.string [115, 116, 114, 111, 110, 103]), .lit (.string [115, 117, 98]), .lit (.string [115, 117, 112]), .lit (.string [117])] [], .lit (.int .i64 2), .lit (.int .i64 2)], .agg [.slice [.lit (.string [98, 114]), .lit (.string [105, 109, 103])] [], .lit (.int .i64 2), .lit (.int .i64 9)], .agg [.slice [.lit (.string [116, 101, 120, 116, 97, 114, 101, 97])] [], .lit (.int .i64 2), .lit (.int .i64 3)], .agg [.slice [.lit (.string [104, 49]), .lit (.string [104, 50]), .lit (.string [104, 51]), .lit (.string [104, 52]), .lit (.string [104, 53]), .lit (.string [104, 54]), .lit (.string [112]), .lit (.string [112, 114, 101])] [], .lit (.int .i64 1), .lit (.int .i64 2)], .agg [.slice [.lit (.string [98, 108, 111, 99, 107, 113, 117, 111, 116, 101]), .lit (.string [100, 105, 118])] [], .lit (.int .i64 1), .lit (.int .i64 1)], .agg [.slice [.lit (.string [104, 114])] [], .lit (.int .i64 1), .lit (.int .i64 9)], .agg [.slice [.lit (.string [111, 108]), .lit (.string [117, 108])] [], .lit (.int .i64 1), .lit (.int .i64 4)], .agg [.slice [.lit (.string [116, 97, 98, 108, 101])] [], .lit (.int .i64 1), .lit (.int .i64 5)], .agg [.slice [.lit (.string [108, 105])] [], .lit (.int .i64 4), .lit (.int .i64 1)], .agg [.slice [.lit (.string [116, 98, 111, 100, 121]), .lit (.string [116, 102, 111, 111, 116]), .lit (.string [116, 104, 101, 97, 100])] [], .lit (.int .i64 5), .lit (.int .i64 6)], .agg [.slice [.lit (.string [116, 114])] [], .lit (.int .i64 6), .lit (.int .i64 7)], .agg [.slice [.lit (.string [116, 100]), .lit (.string [116, 104])] [], .lit (.int .i64 7), .lit (.int .i64 8)]]
def laid_scrub_vocabulary_attributes {H : Type} : DataW H := .agg [.lit (.string [97, 108, 116]), .lit (.string [99, 105, 116, 101]), .lit (.string [99, 108, 97, 115, 115]), .lit (.string [99, 111, 108, 115, 112, 97, 110]), .lit (.string [100, 105, 114]), .lit (.string [104, 101, 105, 103, 104, 116]), .lit (.string [104, 114, 101, 102]), .lit (.string [105, 100]), .lit (.string [108, 97, 110, 103]), .lit (.string [114, 101, 108]), .lit (.string [114, 111, 119, 115, 112, 97, 110]), .lit (.string [115, 114, 99]), .lit (.string [115, 116, 97, 114, 116]), .lit (.string [116, 105, 116, 108, 101]), .lit (.string [119, 105, 100, 116, 104])]
def laid_unicode_utf8_acceptRanges {H : Type} : DataW H := .agg [.agg [.lit (.int .u8 128), .lit (.int .u8 191)], .agg [.lit (.int .u8 160), .lit (.int .u8 191)], .agg [.lit (.int .u8 128), .lit (.int .u8 159)], .agg [.lit (.int .u8 144), .lit (.int .u8 191)], .agg [.lit (.int .u8 128), .lit (.int .u8 143)], .agg [.lit (.int .u8 0), .lit (.int .u8 0)], .agg [.lit (.int .u8 0), .lit (.int .u8 0)], .agg [.lit (.int .u8 0), .lit (.int .u8 0)], .agg [.lit (.int .u8 0), .lit (.int .u8 0)], .agg [.lit (.int .u8 0), .lit (.int .u8 0)], .agg [.lit (.int .u8 0), .lit (.int .u8 0)], .agg [.lit (.int .u8 0), .lit (.int .u8 0)], .agg [.lit (.int .u8 0), .lit (.int .u8 0)], .agg [.lit (.int .u8 0), .lit (.int .u8 0)], .agg [.lit (.int .u8 0), .lit (.int .u8 0)], .agg [.lit (.int .u8 0), .lit (.int .u8 0)]]
/-- One of Go's own tables, pinned by name: the form's constant. -/
def laid_unicode_utf8_first : DataW Unit := Go.Pinned.utf8First

/-- 'scrublaw.LawCheck': WHATEVER THE INPUT: true; the input reads as it did. -/
def lawCheckSpec : ChangeSpec := { name := "lawCheck", fn := fun _ => fun
  | [d1, d2, d3] => { results := [.lit (.bool true)], args := [d1, d2, d3] }
  | _ => none }
def lawCheckRow : OpenClaim := { program := "ytndlihpjefobcaadoor", sum := "6d7d7989c0ee96b6453c87126659bafe0ff314de9041cbe26fe8cb7773b9f372", func := "scrub/scrublaw.LawCheck", spec := "lawCheck", inPlace := ["internal/bytealg.IndexByteString", "internal/abi.NoEscape", "internal/bytealg.IndexString"], unfollowed := true, recurses := true, named := ["scrub/scrubref.attributeNames", "scrub/vocabulary.kinds", "scrub/vocabulary.attributes", "unicode/utf8.first", "unicode/utf8.acceptRanges", "internal/bytealg.MaxLen"], apart := false, laid := [("scrub/scrubref.attributeNames", laid_scrub_scrubref_attributeNames), ("scrub/vocabulary.kinds", laid_scrub_vocabulary_kinds), ("scrub/vocabulary.attributes", laid_scrub_vocabulary_attributes), ("unicode/utf8.acceptRanges", laid_unicode_utf8_acceptRanges), ("unicode/utf8.first", laid_unicode_utf8_first)] }
def LawCheckSaid : Prop := lawCheckRow.holds Tryd.pinned (OpenSpec.ofChange lawCheckSpec)

/-- ITS FALSE NEIGHBOUR: 'it returns false'. Refute it at one input. -/
def lawCheckWrong : ChangeSpec := { name := "lawCheck", fn := fun _ => fun
  | [d1, d2, d3] => { results := [.lit (.bool false)], args := [d1, d2, d3] }
  | _ => none }
def LawCheckWrongFalsely : Prop := lawCheckRow.holds Tryd.pinned (OpenSpec.ofChange lawCheckWrong)

/- THE SECOND FORM. 'bulk': how many values and letters a reading holds, each counted each time it is reached (what is shared counts as often as it is met; a slice's spare places count too). A statement '..UptoSaid' is the law's where the arguments, and the package variables that the reading takes, are together of bulk at most 1048576: NARROWER than '..Said'. Prove '..Said' where nothing that the law and all that it calls make is longer than what came in: it says more and counts as full. Else prove '..UptoSaid'. A law counts once. -/
mutual
def uptoBulk {H : Type} : DataW H → Nat
  | .lit (.string bytes) => bytes.length + 1
  | .lit _ => 1
  | .nil => 1
  | .ptr d => uptoBulk d + 1
  | .slice elems spare => uptoBulkAll elems + uptoBulkAll spare + 1
  | .agg parts => uptoBulkAll parts + 1
  | .iface _ d => uptoBulk d + 1
  | .map entries => uptoBulkEntries entries + 1
  | .held _ => 1
def uptoBulkAll {H : Type} : List (DataW H) → Nat
  | [] => 0
  | d :: r => uptoBulk d + uptoBulkAll r
def uptoBulkEntries {H : Type} : List (Lit × DataW H) → Nat
  | [] => 0
  | x :: r => uptoBulkEntry x + uptoBulkEntries r
def uptoBulkEntry {H : Type} : Lit × DataW H → Nat
  | (.string bytes, d) => bytes.length + uptoBulk d + 1
  | (_, d) => uptoBulk d + 1
 end
def uptoSmall : (H : Type) → List (DataW H) → Bool := fun _ ds => decide (uptoBulkAll ds ≤ 1048576)
def OpenSpec.upto (s : _root_.Go.ChangeSpec) : _root_.Go.OpenSpec := { _root_.Go.OpenSpec.ofChange s with cond := some uptoSmall }

/-- 'scrublaw.LawCheck', WHERE WHAT IT READS IS OF BULK AT MOST 1048576: true; the input reads as it did. -/
def lawCheckUptoRow : OpenClaim := { program := "ytndlihpjefobcaadoor", sum := "6d7d7989c0ee96b6453c87126659bafe0ff314de9041cbe26fe8cb7773b9f372", func := "scrub/scrublaw.LawCheck", spec := "lawCheck", inPlace := ["internal/bytealg.IndexByteString", "internal/abi.NoEscape", "internal/bytealg.IndexString"], unfollowed := true, recurses := true, named := ["scrub/scrubref.attributeNames", "scrub/vocabulary.kinds", "scrub/vocabulary.attributes", "unicode/utf8.first", "unicode/utf8.acceptRanges", "internal/bytealg.MaxLen"], apart := false, laid := [("scrub/scrubref.attributeNames", laid_scrub_scrubref_attributeNames), ("scrub/vocabulary.kinds", laid_scrub_vocabulary_kinds), ("scrub/vocabulary.attributes", laid_scrub_vocabulary_attributes), ("unicode/utf8.acceptRanges", laid_unicode_utf8_acceptRanges), ("unicode/utf8.first", laid_unicode_utf8_first)], narrowed := true }
def LawCheckUptoSaid : Prop := lawCheckUptoRow.holds Tryd.pinned (OpenSpec.upto lawCheckSpec)

end Rows
end Go.Proofs.YtndlihpjefobcaaDoor
