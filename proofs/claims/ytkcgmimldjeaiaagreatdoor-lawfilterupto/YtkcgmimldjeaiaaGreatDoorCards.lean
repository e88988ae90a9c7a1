/-
  DERIVED. GIVEN WITH THE SEED: THE CARDS: each row of YtkcgmimldjeaiaaGreatDoorRows.lean that lists a variable, with what it lists TIED to the program's text (the seventh form; the later family's looks); each row that meets fmt, with fmt's text TOLD by the authors' own Lean function (tested against real Go, not proved from fmt's source: count such statements apart). THE CARD IS WHAT COUNTS. Prove the row's statement (the work); the ties are given (YtkcgmimldjeaiaaGreatDoorTie.lean); close each card by the builder's one call (the guide's Derived/Test/ToyasCard.lean, 'card_holds'). Laid BY PROGRAM, IN A SANDBOX (cutbox-door.mjs). By AI agents, Wed Nov 11 2026. No macro, syntax, notation, axiom, sorry.
-/
import Derived.Test.YtkcgmimldjeaiaaGreatDoorRows
import GoSem.ClaimSeven
namespace Go.Proofs.YtkcgmimldjeaiaaGreatDoor
namespace Rows

/-- THE TIED CARD OF 'scrublaw.LawFilter'. -/
def lawFilterCard : Claim7 := { stood := { row := lawFilterRow, standIns := [], harness := (true, "8fb73626c5f612f59ec9635af1b62b649eb2427654b27d39d1df1de16f836af3"), looks := false }, kinds := [], alts := [], laidByText := true, laidKinds := [.data, .data, .data, .data, .widerDeep, .data, .data, .pinned], laidTests := true, laidLooks := .later }
def LawFilterCardSaid : Prop := Claim7.holds Tryz.pinned (.plain (OpenSpec.ofChange lawFilterSpec)) lawFilterCard

/-- THE SECOND FORM's CARD OF 'scrublaw.LawFilter'. -/
def lawFilterUptoCard : Claim7 := { stood := { row := lawFilterUptoRow, standIns := [], harness := (true, "8fb73626c5f612f59ec9635af1b62b649eb2427654b27d39d1df1de16f836af3"), looks := false }, kinds := [], alts := [], laidByText := true, laidKinds := [.data, .data, .data, .data, .widerDeep, .data, .data, .pinned], laidTests := true, laidLooks := .later }
def LawFilterUptoCardSaid : Prop := Claim7.holds Tryz.pinned (.plain (OpenSpec.upto lawFilterSpec)) lawFilterUptoCard
end Rows
end Go.Proofs.YtkcgmimldjeaiaaGreatDoor
