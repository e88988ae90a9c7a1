/-
  DERIVED. GIVEN WITH THE SEED: THE CARDS: each row of YtndglhflbenloaaGreatDoorRows.lean that lists a variable, with what it lists TIED to the program's text (the seventh form; the later family's looks); each row that meets fmt, with fmt's text TOLD by the authors' own Lean function (tested against real Go, not proved from fmt's source: count such statements apart). THE CARD IS WHAT COUNTS. Prove the row's statement (the work); the ties are given (YtndglhflbenloaaGreatDoorTie.lean); close each card by the builder's one call (the guide's Derived/Test/ToyasCard.lean, 'card_holds'). Laid BY PROGRAM, IN A SANDBOX (cutbox-door.mjs). By AI agents, Wed Nov 11 2026. No macro, syntax, notation, axiom, sorry.
-/
import Derived.Test.YtndglhflbenloaaGreatDoorRows
import GoSem.ClaimSeven
namespace Go.Proofs.YtndglhflbenloaaGreatDoor
namespace Rows

/-- THE TIED CARD OF 'scrublaw.LawFeed'. -/
def lawFeedCard : Claim7 := { stood := { row := lawFeedRow, standIns := [], harness := (true, "0523173118076a332bb41f418d447f7bb368a25c76b350b3d985135798757b7c"), looks := false }, kinds := [], alts := [], laidByText := true, laidKinds := [.data, .data, .data, .data, .data, .data, .data, .data, .data, .data], laidTests := true, laidLooks := .later }
def LawFeedCardSaid : Prop := Claim7.holds Tryz.pinned (.plain (OpenSpec.ofChange lawFeedSpec)) lawFeedCard

/-- THE SECOND FORM's CARD OF 'scrublaw.LawFeed'. -/
def lawFeedUptoCard : Claim7 := { stood := { row := lawFeedUptoRow, standIns := [], harness := (true, "0523173118076a332bb41f418d447f7bb368a25c76b350b3d985135798757b7c"), looks := false }, kinds := [], alts := [], laidByText := true, laidKinds := [.data, .data, .data, .data, .data, .data, .data, .data, .data, .data], laidTests := true, laidLooks := .later }
def LawFeedUptoCardSaid : Prop := Claim7.holds Tryz.pinned (.plain (OpenSpec.upto lawFeedSpec)) lawFeedUptoCard
end Rows
end Go.Proofs.YtndglhflbenloaaGreatDoor
