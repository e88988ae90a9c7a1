/-
  DERIVED. GIVEN WITH THE SEED: THE CARDS: each row of YtehlcnnoaonjkaaDoorRows.lean that lists a variable, with what it lists TIED to the program's text (the seventh form; the later family's looks); each row that meets fmt, with fmt's text TOLD by the authors' own Lean function (tested against real Go, not proved from fmt's source: count such statements apart). THE CARD IS WHAT COUNTS. Prove the row's statement (the work); the ties are given (YtehlcnnoaonjkaaDoorTie.lean); close each card by the builder's one call (the guide's Derived/Test/ToyasCard.lean, 'card_holds'). Laid BY PROGRAM, IN A SANDBOX (cutbox-door.mjs). By AI agents, Wed Nov 11 2026. No macro, syntax, notation, axiom, sorry.
-/
import Derived.Test.YtehlcnnoaonjkaaDoorRows
import GoSem.ClaimSeven
namespace Go.Proofs.YtehlcnnoaonjkaaDoor
namespace Rows

/-- THE TIED CARD OF 'scrublaw.LawUnref'. -/
def lawUnrefCard : Claim7 := { stood := { row := lawUnrefRow, standIns := [], harness := (true, "b8c46f4269eaea63ceb0b01f3c0fb92d9d9e4f1e3f29a1e761cb63947ab51105"), looks := false }, kinds := [], alts := [], laidByText := true, laidKinds := [.data, .data, .data, .data, .data, .data], laidTests := true, laidLooks := .later }
def LawUnrefCardSaid : Prop := Claim7.holds Tryd.pinned (.plain (OpenSpec.ofChange lawUnrefSpec)) lawUnrefCard

/-- THE SECOND FORM's CARD OF 'scrublaw.LawUnref'. -/
def lawUnrefUptoCard : Claim7 := { stood := { row := lawUnrefUptoRow, standIns := [], harness := (true, "b8c46f4269eaea63ceb0b01f3c0fb92d9d9e4f1e3f29a1e761cb63947ab51105"), looks := false }, kinds := [], alts := [], laidByText := true, laidKinds := [.data, .data, .data, .data, .data, .data], laidTests := true, laidLooks := .later }
def LawUnrefUptoCardSaid : Prop := Claim7.holds Tryd.pinned (.plain (OpenSpec.upto lawUnrefSpec)) lawUnrefUptoCard
end Rows
end Go.Proofs.YtehlcnnoaonjkaaDoor
