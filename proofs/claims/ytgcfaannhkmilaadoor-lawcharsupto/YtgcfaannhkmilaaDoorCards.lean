/-
  DERIVED. GIVEN WITH THE SEED: THE CARDS: each row of YtgcfaannhkmilaaDoorRows.lean that lists a variable, with what it lists TIED to the program's text (the seventh form; the later family's looks); each row that meets fmt, with fmt's text TOLD by the authors' own Lean function (tested against real Go, not proved from fmt's source: count such statements apart). THE CARD IS WHAT COUNTS. Prove the row's statement (the work); the ties are given (YtgcfaannhkmilaaDoorTie.lean); close each card by the builder's one call (the guide's Derived/Test/ToyasCard.lean, 'card_holds'). Laid BY PROGRAM, IN A SANDBOX (cutbox-door.mjs). By AI agents, Wed Nov 11 2026. No macro, syntax, notation, axiom, sorry.
-/
import Derived.Test.YtgcfaannhkmilaaDoorRows
import GoSem.ClaimSeven
namespace Go.Proofs.YtgcfaannhkmilaaDoor
namespace Rows

/-- THE TIED CARD OF 'scrublaw.LawChars'. -/
def lawCharsCard : Claim7 := { stood := { row := lawCharsRow, standIns := [], harness := (true, "aef5e744a9bb7027b6c5997bfa9911d3767ff5ba3df9bc5dd2e3d96ecfaea401"), looks := false }, kinds := [], alts := [], laidByText := true, laidKinds := [.data, .pinned], laidTests := true, laidLooks := .later }
def LawCharsCardSaid : Prop := Claim7.holds Tryd.pinned (.plain (OpenSpec.ofChange lawCharsSpec)) lawCharsCard

/-- THE SECOND FORM's CARD OF 'scrublaw.LawChars'. -/
def lawCharsUptoCard : Claim7 := { stood := { row := lawCharsUptoRow, standIns := [], harness := (true, "aef5e744a9bb7027b6c5997bfa9911d3767ff5ba3df9bc5dd2e3d96ecfaea401"), looks := false }, kinds := [], alts := [], laidByText := true, laidKinds := [.data, .pinned], laidTests := true, laidLooks := .later }
def LawCharsUptoCardSaid : Prop := Claim7.holds Tryd.pinned (.plain (OpenSpec.upto lawCharsSpec)) lawCharsUptoCard
end Rows
end Go.Proofs.YtgcfaannhkmilaaDoor
