/-
  DERIVED. GIVEN WITH THE SEED: THE CARDS: each row of YthhdhlehcblghaaDoorRows.lean that lists a variable, with what it lists TIED to the program's text (the seventh form; the later family's looks); each row that meets fmt, with fmt's text TOLD by the authors' own Lean function (tested against real Go, not proved from fmt's source: count such statements apart). THE CARD IS WHAT COUNTS. Prove the row's statement (the work); the ties are given (YthhdhlehcblghaaDoorTie.lean); close each card by the builder's one call (the guide's Derived/Test/ToyasCard.lean, 'card_holds'). Laid BY PROGRAM, IN A SANDBOX (cutbox-door.mjs). By AI agents, Wed Nov 11 2026. No macro, syntax, notation, axiom, sorry.
-/
import Derived.Test.YthhdhlehcblghaaDoorRows
import GoSem.ClaimSeven
namespace Go.Proofs.YthhdhlehcblghaaDoor
namespace Rows

/-- THE TIED CARD OF 'scrublaw.LawEscape'. -/
def lawEscapeCard : Claim7 := { stood := { row := lawEscapeRow, standIns := [], harness := (true, "2d24cad377779dd27425ef13476c7940eb24799957c3bd3aa46d419a96fb5892"), looks := false }, kinds := [], alts := [], laidByText := true, laidKinds := [.data, .data, .data, .pinned], laidTests := true, laidLooks := .later }
def LawEscapeCardSaid : Prop := Claim7.holds Tryd.pinned (.plain (OpenSpec.ofChange lawEscapeSpec)) lawEscapeCard

/-- THE SECOND FORM's CARD OF 'scrublaw.LawEscape'. -/
def lawEscapeUptoCard : Claim7 := { stood := { row := lawEscapeUptoRow, standIns := [], harness := (true, "2d24cad377779dd27425ef13476c7940eb24799957c3bd3aa46d419a96fb5892"), looks := false }, kinds := [], alts := [], laidByText := true, laidKinds := [.data, .data, .data, .pinned], laidTests := true, laidLooks := .later }
def LawEscapeUptoCardSaid : Prop := Claim7.holds Tryd.pinned (.plain (OpenSpec.upto lawEscapeSpec)) lawEscapeUptoCard
end Rows
end Go.Proofs.YthhdhlehcblghaaDoor
