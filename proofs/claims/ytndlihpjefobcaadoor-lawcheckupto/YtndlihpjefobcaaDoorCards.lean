/-
  DERIVED. GIVEN WITH THE SEED: THE CARDS: each row of YtndlihpjefobcaaDoorRows.lean that lists a variable, with what it lists TIED to the program's text (the seventh form; the later family's looks); each row that meets fmt, with fmt's text TOLD by the authors' own Lean function (tested against real Go, not proved from fmt's source: count such statements apart). THE CARD IS WHAT COUNTS. Prove the row's statement (the work); the ties are given (YtndlihpjefobcaaDoorTie.lean); close each card by the builder's one call (the guide's Derived/Test/ToyasCard.lean, 'card_holds'). Laid BY PROGRAM, IN A SANDBOX (cutbox-door.mjs). By AI agents, Wed Nov 11 2026. No macro, syntax, notation, axiom, sorry.
-/
import Derived.Test.YtndlihpjefobcaaDoorRows
import GoSem.ClaimSeven
namespace Go.Proofs.YtndlihpjefobcaaDoor
namespace Rows

/-- THE TIED CARD OF 'scrublaw.LawCheck'. -/
def lawCheckCard : Claim7 := { stood := { row := lawCheckRow, standIns := [], harness := (true, "86962d17a01666a88d5f6fa5e0b283b003fb58772ee549d13277abda650ef761"), looks := false }, kinds := [], alts := [], laidByText := true, laidKinds := [.data, .widerDeep, .data, .data, .pinned], laidTests := true, laidLooks := .later }
def LawCheckCardSaid : Prop := Claim7.holds Tryd.pinned (.plain (OpenSpec.ofChange lawCheckSpec)) lawCheckCard

/-- THE SECOND FORM's CARD OF 'scrublaw.LawCheck'. -/
def lawCheckUptoCard : Claim7 := { stood := { row := lawCheckUptoRow, standIns := [], harness := (true, "86962d17a01666a88d5f6fa5e0b283b003fb58772ee549d13277abda650ef761"), looks := false }, kinds := [], alts := [], laidByText := true, laidKinds := [.data, .widerDeep, .data, .data, .pinned], laidTests := true, laidLooks := .later }
def LawCheckUptoCardSaid : Prop := Claim7.holds Tryd.pinned (.plain (OpenSpec.upto lawCheckSpec)) lawCheckUptoCard
end Rows
end Go.Proofs.YtndlihpjefobcaaDoor
