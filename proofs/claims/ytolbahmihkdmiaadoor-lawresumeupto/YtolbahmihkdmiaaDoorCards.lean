/-
  DERIVED. GIVEN WITH THE SEED: THE CARDS: each row of YtolbahmihkdmiaaDoorRows.lean that lists a variable, with what it lists TIED to the program's text (the seventh form; the later family's looks); each row that meets fmt, with fmt's text TOLD by the authors' own Lean function (tested against real Go, not proved from fmt's source: count such statements apart). THE CARD IS WHAT COUNTS. Prove the row's statement (the work); the ties are given (YtolbahmihkdmiaaDoorTie.lean); close each card by the builder's one call (the guide's Derived/Test/ToyasCard.lean, 'card_holds'). Laid BY PROGRAM, IN A SANDBOX (cutbox-door.mjs). By AI agents, Wed Nov 11 2026. No macro, syntax, notation, axiom, sorry.
-/
import Derived.Test.YtolbahmihkdmiaaDoorRows
import GoSem.ClaimSeven
namespace Go.Proofs.YtolbahmihkdmiaaDoor
namespace Rows

/-- THE TIED CARD OF 'scrublaw.LawResume'. -/
def lawResumeCard : Claim7 := { stood := { row := lawResumeRow, standIns := [], harness := (true, "2284c6a2ba1ccad8d559a9eeef506f61797ca68f49e1304fe6bf8ee4da9d8b44"), looks := false }, kinds := [], alts := [], laidByText := true, laidKinds := [.data, .data, .data], laidTests := true, laidLooks := .later }
def LawResumeCardSaid : Prop := Claim7.holds Tryd.pinned (.plain (OpenSpec.ofChange lawResumeSpec)) lawResumeCard

/-- THE SECOND FORM's CARD OF 'scrublaw.LawResume'. -/
def lawResumeUptoCard : Claim7 := { stood := { row := lawResumeUptoRow, standIns := [], harness := (true, "2284c6a2ba1ccad8d559a9eeef506f61797ca68f49e1304fe6bf8ee4da9d8b44"), looks := false }, kinds := [], alts := [], laidByText := true, laidKinds := [.data, .data, .data], laidTests := true, laidLooks := .later }
def LawResumeUptoCardSaid : Prop := Claim7.holds Tryd.pinned (.plain (OpenSpec.upto lawResumeSpec)) lawResumeUptoCard
end Rows
end Go.Proofs.YtolbahmihkdmiaaDoor
