/-
  NARROWER THAN 'FOR EVERY INPUT', by the rows' own cells (each row's printed sentence says how): LawResume: laid.
  DERIVED. THE GIVEN ROWS OF THIS SEAT. 1 by the template 'for every input the law returns true; each argument reads behind the call as it read before'; 0 by the template 'total and deterministic' (their statements: YtolbahmihkdmiaaDoorTotals.lean).
  GIVEN WITH THE SEED: the statements are not yours to turn. If you find one false, say at which input.
  Laid BY PROGRAM, IN A SANDBOX (cutbox-rows.mjs): the forced cells as the released guide's own fill.sh prints them over the translation c3b20d979c834950… (all of the seat's roots in one cut). By AI agents, Wed Nov 11 2026. No macro, syntax, notation, axiom, sorry.
-/
import Derived.Test.YtolbahmihkdmiaaDoorChecked
import GoSem.Claim
import GoSem.ClaimJoined
import GoSem.ClaimMapViews
import Derived.JoinedTies
import Derived.KernelRfl
namespace Go.Proofs.YtolbahmihkdmiaaDoor
/- THE CELL 'sum', in the pinned program and in every row, IS THE sha256 OF THE DUMP (.gsa) THAT YtolbahmihkdmiaaDoorProg.lean LOADS. Nothing in Lean hashes anything: it is a label: what it is worth is what the hold of that sum in a sandbox is worth. -/
noncomputable def Tryd.pinned : Pinned := { name := "ytolbahmihkdmiaadoor", sum := "c3b20d979c834950b74ad1ff3504bf4984069f5bc1f3bf53826375ac7a83329d", checked := Tryd.checked }
namespace Rows
def none {H : Type} : Left H := { results := [], args := [] }

/- WHAT THE LISTED PACKAGE-LEVEL VARIABLES READ AS WHEN THE CALL BEGINS. Each datum BY PROGRAM (the guide's laid-datum.mjs) off the statement by which the dump's own 'gosem.cut.vars' lays the variable. In a bare row this is a premise. The card (YtolbahmihkdmiaaDoorCards.lean) ties it to the program's text. -/
def laid_scrub_chars_names {H : Type} : DataW H := .agg [.agg [.lit (.string [65, 77, 80]), .lit (.int .i32 38)], .agg [.lit (.string [97, 109, 112]), .lit (.int .i32 38)], .agg [.lit (.string [99, 111, 112, 121]), .lit (.int .i32 169)], .agg [.lit (.string [100, 101, 103]), .lit (.int .i32 176)], .agg [.lit (.string [71, 84]), .lit (.int .i32 62)], .agg [.lit (.string [103, 116]), .lit (.int .i32 62)], .agg [.lit (.string [76, 84]), .lit (.int .i32 60)], .agg [.lit (.string [108, 116]), .lit (.int .i32 60)], .agg [.lit (.string [110, 98, 115, 112]), .lit (.int .i32 160)], .agg [.lit (.string [110, 111, 116]), .lit (.int .i32 172)], .agg [.lit (.string [112, 97, 114, 97]), .lit (.int .i32 182)], .agg [.lit (.string [81, 85, 79, 84]), .lit (.int .i32 34)], .agg [.lit (.string [113, 117, 111, 116]), .lit (.int .i32 34)], .agg [.lit (.string [114, 101, 103]), .lit (.int .i32 174)], .agg [.lit (.string [116, 105, 109, 101, 115]), .lit (.int .i32 215)], .agg [.lit (.string [97, 112, 111, 115, 59]), .lit (.int .i32 39)], .agg [.lit (.string [98, 117, 108, 108, 59]), .lit (.int .i32 8226)], .agg [.lit (.string [99, 111, 108, 111, 110, 59]), .lit (.int .i32 58)], .agg [.lit (.string [99, 111, 112, 121, 115, 114, 59]), .lit (.int .i32 8471)], .agg [.lit (.string [101, 117, 114, 111, 59]), .lit (.int .i32 8364)], .agg [.lit (.string [103, 116, 100, 111, 116, 59]), .lit (.int .i32 8919)], .agg [.lit (.string [104, 101, 108, 108, 105, 112, 59]), .lit (.int .i32 8230)], .agg [.lit (.string [108, 100, 113, 117, 111, 59]), .lit (.int .i32 8220)], .agg [.lit (.string [108, 112, 97, 114, 59]), .lit (.int .i32 40)], .agg [.lit (.string [108, 115, 113, 117, 111, 59]), .lit (.int .i32 8216)], .agg [.lit (.string [108, 116, 105, 109, 101, 115, 59]), .lit (.int .i32 8905)], .agg [.lit (.string [109, 100, 97, 115, 104, 59]), .lit (.int .i32 8212)], .agg [.lit (.string [110, 100, 97, 115, 104, 59]), .lit (.int .i32 8211)], .agg [.lit (.string [78, 101, 119, 76, 105, 110, 101, 59]), .lit (.int .i32 10)], .agg [.lit (.string [110, 111, 116, 105, 110, 59]), .lit (.int .i32 8713)], .agg [.lit (.string [110, 117, 109, 59]), .lit (.int .i32 35)], .agg [.lit (.string [112, 97, 114, 97, 108, 108, 101, 108, 59]), .lit (.int .i32 8741)], .agg [.lit (.string [114, 100, 113, 117, 111, 59]), .lit (.int .i32 8221)], .agg [.lit (.string [114, 112, 97, 114, 59]), .lit (.int .i32 41)], .agg [.lit (.string [114, 115, 113, 117, 111, 59]), .lit (.int .i32 8217)], .agg [.lit (.string [115, 111, 108, 59]), .lit (.int .i32 47)], .agg [.lit (.string [84, 97, 98, 59]), .lit (.int .i32 9)], .agg [.lit (.string [116, 105, 109, 101, 115, 98, 59]), .lit (.int .i32 8864)], .agg [.lit (.string [116, 114, 97, 100, 101, 59]), .lit (.int .i32 8482)]]
def laid_scrub_chars_replaced {H : Type} : DataW H := .agg [.lit (.int .i32 8364), .lit (.int .i32 65533), .lit (.int .i32 8218), .lit (.int .i32 402), .lit (.int .i32 8222), .lit (.int .i32 8230), .lit (.int .i32 8224), .lit (.int .i32 8225), .lit (.int .i32 710), .lit (.int .i32 8240), .lit (.int .i32 352), .lit (.int .i32 8249), .lit (.int .i32 338), .lit (.int .i32 65533), .lit (.int .i32 381), .lit (.int .i32 65533), .lit (.int .i32 65533), .lit (.int .i32 8216), .lit (.int .i32 8217), .lit (.int .i32 8220), .lit (.int .i32 8221), .lit (.int .i32 8226), .lit (.int .i32 8211), .lit (.int .i32 8212), .lit (.int .i32 732), .lit (.int .i32 8482), .lit (.int .i32 353), .lit (.int .i32 8250), .lit (.int .i32 339), .lit (.int .i32 65533), .lit (.int .i32 382), .lit (.int .i32 376)]
def laid_scrub_lexer_tagStates {H : Type} : DataW H := .agg [.agg [.lit (.int .u8 4), .lit (.int .u8 4), .lit (.int .u8 0), .lit (.int .u8 3), .lit (.int .u8 3), .lit (.int .u8 3), .lit (.int .u8 3)], .agg [.lit (.int .u8 4), .lit (.int .u8 4), .lit (.int .u8 0), .lit (.int .u8 5), .lit (.int .u8 5), .lit (.int .u8 5), .lit (.int .u8 5)], .agg [.lit (.int .u8 6), .lit (.int .u8 4), .lit (.int .u8 0), .lit (.int .u8 7), .lit (.int .u8 5), .lit (.int .u8 5), .lit (.int .u8 5)], .agg [.lit (.int .u8 6), .lit (.int .u8 4), .lit (.int .u8 0), .lit (.int .u8 7), .lit (.int .u8 5), .lit (.int .u8 5), .lit (.int .u8 5)], .agg [.lit (.int .u8 7), .lit (.int .u8 10), .lit (.int .u8 0), .lit (.int .u8 10), .lit (.int .u8 8), .lit (.int .u8 9), .lit (.int .u8 10)], .agg [.lit (.int .u8 8), .lit (.int .u8 8), .lit (.int .u8 8), .lit (.int .u8 8), .lit (.int .u8 4), .lit (.int .u8 8), .lit (.int .u8 8)], .agg [.lit (.int .u8 9), .lit (.int .u8 9), .lit (.int .u8 9), .lit (.int .u8 9), .lit (.int .u8 9), .lit (.int .u8 4), .lit (.int .u8 9)], .agg [.lit (.int .u8 4), .lit (.int .u8 10), .lit (.int .u8 0), .lit (.int .u8 10), .lit (.int .u8 10), .lit (.int .u8 10), .lit (.int .u8 10)]]

/-- 'scrublaw.LawResume': WHATEVER THE INPUT: true; the input reads as it did. -/
def lawResumeSpec : ChangeSpec := { name := "lawResume", fn := fun _ => fun
  | [d1, d2] => { results := [.lit (.bool true)], args := [d1, d2] }
  | _ => none }
def lawResumeRow : OpenClaim := { program := "ytolbahmihkdmiaadoor", sum := "c3b20d979c834950b74ad1ff3504bf4984069f5bc1f3bf53826375ac7a83329d", func := "scrub/scrublaw.LawResume", spec := "lawResume", inPlace := ["internal/bytealg.IndexByteString", "internal/bytealg.IndexString", "internal/abi.NoEscape"], named := ["internal/bytealg.MaxLen", "scrub/lexer.tagStates", "scrub/chars.replaced", "scrub/chars.names"], apart := false, laid := [("scrub/chars.names", laid_scrub_chars_names), ("scrub/chars.replaced", laid_scrub_chars_replaced), ("scrub/lexer.tagStates", laid_scrub_lexer_tagStates)] }
def LawResumeSaid : Prop := lawResumeRow.holds Tryd.pinned (OpenSpec.ofChange lawResumeSpec)

/-- ITS FALSE NEIGHBOUR: 'it returns false'. Refute it at one input. -/
def lawResumeWrong : ChangeSpec := { name := "lawResume", fn := fun _ => fun
  | [d1, d2] => { results := [.lit (.bool false)], args := [d1, d2] }
  | _ => none }
def LawResumeWrongFalsely : Prop := lawResumeRow.holds Tryd.pinned (OpenSpec.ofChange lawResumeWrong)

/- THE SECOND FORM. 'bulk': how many values and letters a reading holds, each counted each time it is reached (what is shared counts as often as it is met; a slice's spare places count too). A statement '..UptoSaid' is the law's where the arguments, and the package variables that the reading takes, are together of bulk at most 1048576: NARROWER than '..Said'. Prove '..Said' where nothing that the law and all that it calls make is longer than what came in: it says more and counts as full. Else prove '..UptoSaid'. A law counts once. -/
mutual
def uptoBulk {H : Type} : DataW H → Nat
  | .lit (.string bytes) => bytes.length + 1
  | .lit _ => 1
  | .nil => 1
  | .ptr d => uptoBulk d + 1
  | .slice elems spare => uptoBulkAll elems + uptoBulkAll spare + 1
  | .agg parts => uptoBulkAll parts + 1
  | .iface _ d => uptoBulk d + 1
  | .map entries => uptoBulkEntries entries + 1
  | .held _ => 1
def uptoBulkAll {H : Type} : List (DataW H) → Nat
  | [] => 0
  | d :: r => uptoBulk d + uptoBulkAll r
def uptoBulkEntries {H : Type} : List (Lit × DataW H) → Nat
  | [] => 0
  | x :: r => uptoBulkEntry x + uptoBulkEntries r
def uptoBulkEntry {H : Type} : Lit × DataW H → Nat
  | (.string bytes, d) => bytes.length + uptoBulk d + 1
  | (_, d) => uptoBulk d + 1
 end
def uptoSmall : (H : Type) → List (DataW H) → Bool := fun _ ds => decide (uptoBulkAll ds ≤ 1048576)
def OpenSpec.upto (s : _root_.Go.ChangeSpec) : _root_.Go.OpenSpec := { _root_.Go.OpenSpec.ofChange s with cond := some uptoSmall }

/-- 'scrublaw.LawResume', WHERE WHAT IT READS IS OF BULK AT MOST 1048576: true; the input reads as it did. -/
def lawResumeUptoRow : OpenClaim := { program := "ytolbahmihkdmiaadoor", sum := "c3b20d979c834950b74ad1ff3504bf4984069f5bc1f3bf53826375ac7a83329d", func := "scrub/scrublaw.LawResume", spec := "lawResume", inPlace := ["internal/bytealg.IndexByteString", "internal/bytealg.IndexString", "internal/abi.NoEscape"], named := ["internal/bytealg.MaxLen", "scrub/lexer.tagStates", "scrub/chars.replaced", "scrub/chars.names"], apart := false, laid := [("scrub/chars.names", laid_scrub_chars_names), ("scrub/chars.replaced", laid_scrub_chars_replaced), ("scrub/lexer.tagStates", laid_scrub_lexer_tagStates)], narrowed := true }
def LawResumeUptoSaid : Prop := lawResumeUptoRow.holds Tryd.pinned (OpenSpec.upto lawResumeSpec)

end Rows
end Go.Proofs.YtolbahmihkdmiaaDoor
