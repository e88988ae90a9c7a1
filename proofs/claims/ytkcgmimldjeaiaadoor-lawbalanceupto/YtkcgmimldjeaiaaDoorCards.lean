/-
  DERIVED. GIVEN WITH THE SEED: THE CARDS: each row of YtkcgmimldjeaiaaDoorRows.lean that lists a variable, with what it lists TIED to the program's text (the seventh form; the later family's looks); each row that meets fmt, with fmt's text TOLD by the authors' own Lean function (tested against real Go, not proved from fmt's source: count such statements apart). THE CARD IS WHAT COUNTS. Prove the row's statement (the work); the ties are given (YtkcgmimldjeaiaaDoorTie.lean); close each card by the builder's one call (the guide's Derived/Test/ToyasCard.lean, 'card_holds'). Laid BY PROGRAM, IN A SANDBOX (cutbox-door.mjs). By AI agents, Wed Nov 11 2026. No macro, syntax, notation, axiom, sorry.
-/
import Derived.Test.YtkcgmimldjeaiaaDoorRows
import GoSem.ClaimSeven
namespace Go.Proofs.YtkcgmimldjeaiaaDoor
namespace Rows

/-- THE TIED CARD OF 'scrublaw.LawBalance'. -/
def lawBalanceCard : Claim7 := { stood := { row := lawBalanceRow, standIns := [], harness := (true, "9a2a51c011514aa558fb192268802a81d11e09c5a01da441d9aba5d677b200ce"), looks := false }, kinds := [], alts := [], laidByText := true, laidKinds := [.data, .data, .data, .data, .widerDeep], laidTests := true, laidLooks := .later }
def LawBalanceCardSaid : Prop := Claim7.holds Tryd.pinned (.plain (OpenSpec.ofChange lawBalanceSpec)) lawBalanceCard

/-- THE TIED CARD OF 'scrublaw.LawDrop'. -/
def lawDropCard : Claim7 := { stood := { row := lawDropRow, standIns := [], harness := (true, "9a2a51c011514aa558fb192268802a81d11e09c5a01da441d9aba5d677b200ce"), looks := false }, kinds := [], alts := [], laidByText := true, laidKinds := [.widerDeep, .data, .data, .data, .data, .data, .data, .pinned], laidTests := true, laidLooks := .later }
def LawDropCardSaid : Prop := Claim7.holds Tryd.pinned (.plain (OpenSpec.ofChange lawDropSpec)) lawDropCard

/-- THE TIED CARD OF 'scrublaw.LawMarkup'. -/
def lawMarkupCard : Claim7 := { stood := { row := lawMarkupRow, standIns := [], harness := (true, "9a2a51c011514aa558fb192268802a81d11e09c5a01da441d9aba5d677b200ce"), looks := false }, kinds := [], alts := [], laidByText := true, laidKinds := [.data, .data, .data, .widerDeep, .data, .pinned], laidTests := true, laidLooks := .later }
def LawMarkupCardSaid : Prop := Claim7.holds Tryd.pinned (.plain (OpenSpec.ofChange lawMarkupSpec)) lawMarkupCard

/-- THE SECOND FORM's CARD OF 'scrublaw.LawBalance'. -/
def lawBalanceUptoCard : Claim7 := { stood := { row := lawBalanceUptoRow, standIns := [], harness := (true, "9a2a51c011514aa558fb192268802a81d11e09c5a01da441d9aba5d677b200ce"), looks := false }, kinds := [], alts := [], laidByText := true, laidKinds := [.data, .data, .data, .data, .widerDeep], laidTests := true, laidLooks := .later }
def LawBalanceUptoCardSaid : Prop := Claim7.holds Tryd.pinned (.plain (OpenSpec.upto lawBalanceSpec)) lawBalanceUptoCard

/-- THE SECOND FORM's CARD OF 'scrublaw.LawDrop'. -/
def lawDropUptoCard : Claim7 := { stood := { row := lawDropUptoRow, standIns := [], harness := (true, "9a2a51c011514aa558fb192268802a81d11e09c5a01da441d9aba5d677b200ce"), looks := false }, kinds := [], alts := [], laidByText := true, laidKinds := [.widerDeep, .data, .data, .data, .data, .data, .data, .pinned], laidTests := true, laidLooks := .later }
def LawDropUptoCardSaid : Prop := Claim7.holds Tryd.pinned (.plain (OpenSpec.upto lawDropSpec)) lawDropUptoCard

/-- THE SECOND FORM's CARD OF 'scrublaw.LawMarkup'. -/
def lawMarkupUptoCard : Claim7 := { stood := { row := lawMarkupUptoRow, standIns := [], harness := (true, "9a2a51c011514aa558fb192268802a81d11e09c5a01da441d9aba5d677b200ce"), looks := false }, kinds := [], alts := [], laidByText := true, laidKinds := [.data, .data, .data, .widerDeep, .data, .pinned], laidTests := true, laidLooks := .later }
def LawMarkupUptoCardSaid : Prop := Claim7.holds Tryd.pinned (.plain (OpenSpec.upto lawMarkupSpec)) lawMarkupUptoCard
end Rows
end Go.Proofs.YtkcgmimldjeaiaaDoor
