/-
  DERIVED. GIVEN WITH THE SEED: THE CARDS: each row of YtcncbhbdpcpkeaaGreatDoorRows.lean that lists a variable, with what it lists TIED to the program's text (the seventh form; the later family's looks); each row that meets fmt, with fmt's text TOLD by the authors' own Lean function (tested against real Go, not proved from fmt's source: count such statements apart). THE CARD IS WHAT COUNTS. Prove the row's statement (the work); the ties are given (YtcncbhbdpcpkeaaGreatDoorTie.lean); close each card by the builder's one call (the guide's Derived/Test/ToyasCard.lean, 'card_holds'). Laid BY PROGRAM, IN A SANDBOX (cutbox-door.mjs). By AI agents, Wed Nov 11 2026. No macro, syntax, notation, axiom, sorry.
-/
import Derived.Test.YtcncbhbdpcpkeaaGreatDoorRows
import GoSem.ClaimSeven
namespace Go.Proofs.YtcncbhbdpcpkeaaGreatDoor
namespace Rows

/-- THE TIED CARD OF 'scrublaw.LawBalanced'. -/
def lawBalancedCard : Claim7 := { stood := { row := lawBalancedRow, standIns := [], harness := (true, "19ce56bb8fa6f4b71e7ce0b8075701a189c7d32167d1dae3eb956152ca36f150"), looks := false }, kinds := [], alts := [], laidByText := true, laidKinds := [.data, .widerDeep, .data, .data, .pinned], laidTests := true, laidLooks := .later }
def LawBalancedCardSaid : Prop := Claim7.holds Tryz.pinned (.plain (OpenSpec.ofChange lawBalancedSpec)) lawBalancedCard

/-- THE TIED CARD OF 'scrublaw.LawFits'. -/
def lawFitsCard : Claim7 := { stood := { row := lawFitsRow, standIns := [], harness := (true, "19ce56bb8fa6f4b71e7ce0b8075701a189c7d32167d1dae3eb956152ca36f150"), looks := false }, kinds := [], alts := [], laidByText := true, laidKinds := [.data, .data, .widerDeep, .data, .data, .pinned], laidTests := true, laidLooks := .later }
def LawFitsCardSaid : Prop := Claim7.holds Tryz.pinned (.plain (OpenSpec.ofChange lawFitsSpec)) lawFitsCard

/-- THE TIED CARD OF 'scrublaw.LawParse'. -/
def lawParseCard : Claim7 := { stood := { row := lawParseRow, standIns := [], harness := (true, "19ce56bb8fa6f4b71e7ce0b8075701a189c7d32167d1dae3eb956152ca36f150"), looks := false }, kinds := [], alts := [], laidByText := true, laidKinds := [.data, .data, .data, .widerDeep, .data, .data, .pinned], laidTests := true, laidLooks := .later }
def LawParseCardSaid : Prop := Claim7.holds Tryz.pinned (.plain (OpenSpec.ofChange lawParseSpec)) lawParseCard

/-- THE SECOND FORM's CARD OF 'scrublaw.LawBalanced'. -/
def lawBalancedUptoCard : Claim7 := { stood := { row := lawBalancedUptoRow, standIns := [], harness := (true, "19ce56bb8fa6f4b71e7ce0b8075701a189c7d32167d1dae3eb956152ca36f150"), looks := false }, kinds := [], alts := [], laidByText := true, laidKinds := [.data, .widerDeep, .data, .data, .pinned], laidTests := true, laidLooks := .later }
def LawBalancedUptoCardSaid : Prop := Claim7.holds Tryz.pinned (.plain (OpenSpec.upto lawBalancedSpec)) lawBalancedUptoCard

/-- THE SECOND FORM's CARD OF 'scrublaw.LawFits'. -/
def lawFitsUptoCard : Claim7 := { stood := { row := lawFitsUptoRow, standIns := [], harness := (true, "19ce56bb8fa6f4b71e7ce0b8075701a189c7d32167d1dae3eb956152ca36f150"), looks := false }, kinds := [], alts := [], laidByText := true, laidKinds := [.data, .data, .widerDeep, .data, .data, .pinned], laidTests := true, laidLooks := .later }
def LawFitsUptoCardSaid : Prop := Claim7.holds Tryz.pinned (.plain (OpenSpec.upto lawFitsSpec)) lawFitsUptoCard

/-- THE SECOND FORM's CARD OF 'scrublaw.LawParse'. -/
def lawParseUptoCard : Claim7 := { stood := { row := lawParseUptoRow, standIns := [], harness := (true, "19ce56bb8fa6f4b71e7ce0b8075701a189c7d32167d1dae3eb956152ca36f150"), looks := false }, kinds := [], alts := [], laidByText := true, laidKinds := [.data, .data, .data, .widerDeep, .data, .data, .pinned], laidTests := true, laidLooks := .later }
def LawParseUptoCardSaid : Prop := Claim7.holds Tryz.pinned (.plain (OpenSpec.upto lawParseSpec)) lawParseUptoCard
end Rows
end Go.Proofs.YtcncbhbdpcpkeaaGreatDoor
