/-
  DERIVED. GIVEN WITH THE SEED: THE CARDS: each row of YtboooefaogfapaaDoorRows.lean that lists a variable, with what it lists TIED to the program's text (the seventh form; the later family's looks); each row that meets fmt, with fmt's text TOLD by the authors' own Lean function (tested against real Go, not proved from fmt's source: count such statements apart). THE CARD IS WHAT COUNTS. Prove the row's statement (the work); the ties are given (YtboooefaogfapaaDoorTie.lean); close each card by the builder's one call (the guide's Derived/Test/ToyasCard.lean, 'card_holds'). Laid BY PROGRAM, IN A SANDBOX (cutbox-door.mjs). By AI agents, Wed Nov 11 2026. No macro, syntax, notation, axiom, sorry.
-/
import Derived.Test.YtboooefaogfapaaDoorRows
import GoSem.ClaimSeven
namespace Go.Proofs.YtboooefaogfapaaDoor
namespace Rows

/-- THE TIED CARD OF 'scrublaw.LawBalance'. -/
def lawBalanceCard : Claim7 := { stood := { row := lawBalanceRow, standIns := [], harness := (true, "30f7618a3cb5fbeb50adb290d27a3573aac5aed311724fdbd2353af2ad9db676"), looks := false }, kinds := [], alts := [], laidByText := true, laidKinds := [.data, .data, .data, .data, .widerDeep], laidTests := true, laidLooks := .later }
def LawBalanceCardSaid : Prop := Claim7.holds Tryd.pinned (.plain (OpenSpec.ofChange lawBalanceSpec)) lawBalanceCard

/-- THE TIED CARD OF 'scrublaw.LawChars'. -/
def lawCharsCard : Claim7 := { stood := { row := lawCharsRow, standIns := [], harness := (true, "30f7618a3cb5fbeb50adb290d27a3573aac5aed311724fdbd2353af2ad9db676"), looks := false }, kinds := [], alts := [], laidByText := true, laidKinds := [.data, .pinned], laidTests := true, laidLooks := .later }
def LawCharsCardSaid : Prop := Claim7.holds Tryd.pinned (.plain (OpenSpec.ofChange lawCharsSpec)) lawCharsCard

/-- THE TIED CARD OF 'scrublaw.LawCheck'. -/
def lawCheckCard : Claim7 := { stood := { row := lawCheckRow, standIns := [], harness := (true, "30f7618a3cb5fbeb50adb290d27a3573aac5aed311724fdbd2353af2ad9db676"), looks := false }, kinds := [], alts := [], laidByText := true, laidKinds := [.data, .widerDeep, .data, .data, .pinned], laidTests := true, laidLooks := .later }
def LawCheckCardSaid : Prop := Claim7.holds Tryd.pinned (.plain (OpenSpec.ofChange lawCheckSpec)) lawCheckCard

/-- THE TIED CARD OF 'scrublaw.LawDrop'. -/
def lawDropCard : Claim7 := { stood := { row := lawDropRow, standIns := [], harness := (true, "30f7618a3cb5fbeb50adb290d27a3573aac5aed311724fdbd2353af2ad9db676"), looks := false }, kinds := [], alts := [], laidByText := true, laidKinds := [.widerDeep, .data, .data, .data, .data, .data, .data, .pinned], laidTests := true, laidLooks := .later }
def LawDropCardSaid : Prop := Claim7.holds Tryd.pinned (.plain (OpenSpec.ofChange lawDropSpec)) lawDropCard

/-- THE SECOND FORM's CARD OF 'scrublaw.LawBalance'. -/
def lawBalanceUptoCard : Claim7 := { stood := { row := lawBalanceUptoRow, standIns := [], harness := (true, "30f7618a3cb5fbeb50adb290d27a3573aac5aed311724fdbd2353af2ad9db676"), looks := false }, kinds := [], alts := [], laidByText := true, laidKinds := [.data, .data, .data, .data, .widerDeep], laidTests := true, laidLooks := .later }
def LawBalanceUptoCardSaid : Prop := Claim7.holds Tryd.pinned (.plain (OpenSpec.upto lawBalanceSpec)) lawBalanceUptoCard

/-- THE SECOND FORM's CARD OF 'scrublaw.LawChars'. -/
def lawCharsUptoCard : Claim7 := { stood := { row := lawCharsUptoRow, standIns := [], harness := (true, "30f7618a3cb5fbeb50adb290d27a3573aac5aed311724fdbd2353af2ad9db676"), looks := false }, kinds := [], alts := [], laidByText := true, laidKinds := [.data, .pinned], laidTests := true, laidLooks := .later }
def LawCharsUptoCardSaid : Prop := Claim7.holds Tryd.pinned (.plain (OpenSpec.upto lawCharsSpec)) lawCharsUptoCard

/-- THE SECOND FORM's CARD OF 'scrublaw.LawCheck'. -/
def lawCheckUptoCard : Claim7 := { stood := { row := lawCheckUptoRow, standIns := [], harness := (true, "30f7618a3cb5fbeb50adb290d27a3573aac5aed311724fdbd2353af2ad9db676"), looks := false }, kinds := [], alts := [], laidByText := true, laidKinds := [.data, .widerDeep, .data, .data, .pinned], laidTests := true, laidLooks := .later }
def LawCheckUptoCardSaid : Prop := Claim7.holds Tryd.pinned (.plain (OpenSpec.upto lawCheckSpec)) lawCheckUptoCard

/-- THE SECOND FORM's CARD OF 'scrublaw.LawDrop'. -/
def lawDropUptoCard : Claim7 := { stood := { row := lawDropUptoRow, standIns := [], harness := (true, "30f7618a3cb5fbeb50adb290d27a3573aac5aed311724fdbd2353af2ad9db676"), looks := false }, kinds := [], alts := [], laidByText := true, laidKinds := [.widerDeep, .data, .data, .data, .data, .data, .data, .pinned], laidTests := true, laidLooks := .later }
def LawDropUptoCardSaid : Prop := Claim7.holds Tryd.pinned (.plain (OpenSpec.upto lawDropSpec)) lawDropUptoCard
end Rows
end Go.Proofs.YtboooefaogfapaaDoor
