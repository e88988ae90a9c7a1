/-
  DERIVED. GIVEN WITH THE SEED: THE CARDS: each row of YtlihbfkbjcggbaaDoorRows.lean that lists a variable, with what it lists TIED to the program's text (the seventh form; the later family's looks); each row that meets fmt, with fmt's text TOLD by the authors' own Lean function (tested against real Go, not proved from fmt's source: count such statements apart). THE CARD IS WHAT COUNTS. Prove the row's statement (the work); the ties are given (YtlihbfkbjcggbaaDoorTie.lean); close each card by the builder's one call (the guide's Derived/Test/ToyasCard.lean, 'card_holds'). Laid BY PROGRAM, IN A SANDBOX (cutbox-door.mjs). By AI agents, Wed Nov 11 2026. No macro, syntax, notation, axiom, sorry.
-/
import Derived.Test.YtlihbfkbjcggbaaDoorRows
import GoSem.ClaimSeven
namespace Go.Proofs.YtlihbfkbjcggbaaDoor
namespace Rows

/-- THE TIED CARD OF 'scrublaw.LawPourCut'. -/
def lawPourCutCard : Claim7 := { stood := { row := lawPourCutRow, standIns := [], harness := (true, "ff7c37fc639a6bc0e88faf67ab023387aaf872d647905bf2e4a71b6e38568e46"), looks := false }, kinds := [], alts := [], laidByText := true, laidKinds := [.data, .pinned], laidTests := true, laidLooks := .later }
def LawPourCutCardSaid : Prop := Claim7.holds Tryd.pinned (.plain (OpenSpec.ofChange lawPourCutSpec)) lawPourCutCard

/-- THE SECOND FORM's CARD OF 'scrublaw.LawPourCut'. -/
def lawPourCutUptoCard : Claim7 := { stood := { row := lawPourCutUptoRow, standIns := [], harness := (true, "ff7c37fc639a6bc0e88faf67ab023387aaf872d647905bf2e4a71b6e38568e46"), looks := false }, kinds := [], alts := [], laidByText := true, laidKinds := [.data, .pinned], laidTests := true, laidLooks := .later }
def LawPourCutUptoCardSaid : Prop := Claim7.holds Tryd.pinned (.plain (OpenSpec.upto lawPourCutSpec)) lawPourCutUptoCard
end Rows
end Go.Proofs.YtlihbfkbjcggbaaDoor
