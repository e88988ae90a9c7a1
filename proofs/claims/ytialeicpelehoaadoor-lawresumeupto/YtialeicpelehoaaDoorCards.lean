/-
  DERIVED. GIVEN WITH THE SEED: THE CARDS: each row of YtialeicpelehoaaDoorRows.lean that lists a variable, with what it lists TIED to the program's text (the seventh form; the later family's looks); each row that meets fmt, with fmt's text TOLD by the authors' own Lean function (tested against real Go, not proved from fmt's source: count such statements apart). THE CARD IS WHAT COUNTS. Prove the row's statement (the work); the ties are given (YtialeicpelehoaaDoorTie.lean); close each card by the builder's one call (the guide's Derived/Test/ToyasCard.lean, 'card_holds'). Laid BY PROGRAM, IN A SANDBOX (cutbox-door.mjs). By AI agents, Wed Nov 11 2026. No macro, syntax, notation, axiom, sorry.
-/
import Derived.Test.YtialeicpelehoaaDoorRows
import GoSem.ClaimSeven
namespace Go.Proofs.YtialeicpelehoaaDoor
namespace Rows

/-- THE TIED CARD OF 'scrublaw.LawPourCut'. -/
def lawPourCutCard : Claim7 := { stood := { row := lawPourCutRow, standIns := [], harness := (true, "78f5c278118d56b8af6a9dc96845f94ec645bab0b378867e285d9dcd04d083d7"), looks := false }, kinds := [], alts := [], laidByText := true, laidKinds := [.data, .pinned], laidTests := true, laidLooks := .later }
def LawPourCutCardSaid : Prop := Claim7.holds Tryd.pinned (.plain (OpenSpec.ofChange lawPourCutSpec)) lawPourCutCard

/-- THE TIED CARD OF 'scrublaw.LawResume'. -/
def lawResumeCard : Claim7 := { stood := { row := lawResumeRow, standIns := [], harness := (true, "78f5c278118d56b8af6a9dc96845f94ec645bab0b378867e285d9dcd04d083d7"), looks := false }, kinds := [], alts := [], laidByText := true, laidKinds := [.data, .data, .data], laidTests := true, laidLooks := .later }
def LawResumeCardSaid : Prop := Claim7.holds Tryd.pinned (.plain (OpenSpec.ofChange lawResumeSpec)) lawResumeCard

/-- THE TIED CARD OF 'scrublaw.LawUnref'. -/
def lawUnrefCard : Claim7 := { stood := { row := lawUnrefRow, standIns := [], harness := (true, "78f5c278118d56b8af6a9dc96845f94ec645bab0b378867e285d9dcd04d083d7"), looks := false }, kinds := [], alts := [], laidByText := true, laidKinds := [.data, .data, .data, .data, .data, .data], laidTests := true, laidLooks := .later }
def LawUnrefCardSaid : Prop := Claim7.holds Tryd.pinned (.plain (OpenSpec.ofChange lawUnrefSpec)) lawUnrefCard

/-- THE SECOND FORM's CARD OF 'scrublaw.LawPourCut'. -/
def lawPourCutUptoCard : Claim7 := { stood := { row := lawPourCutUptoRow, standIns := [], harness := (true, "78f5c278118d56b8af6a9dc96845f94ec645bab0b378867e285d9dcd04d083d7"), looks := false }, kinds := [], alts := [], laidByText := true, laidKinds := [.data, .pinned], laidTests := true, laidLooks := .later }
def LawPourCutUptoCardSaid : Prop := Claim7.holds Tryd.pinned (.plain (OpenSpec.upto lawPourCutSpec)) lawPourCutUptoCard

/-- THE SECOND FORM's CARD OF 'scrublaw.LawResume'. -/
def lawResumeUptoCard : Claim7 := { stood := { row := lawResumeUptoRow, standIns := [], harness := (true, "78f5c278118d56b8af6a9dc96845f94ec645bab0b378867e285d9dcd04d083d7"), looks := false }, kinds := [], alts := [], laidByText := true, laidKinds := [.data, .data, .data], laidTests := true, laidLooks := .later }
def LawResumeUptoCardSaid : Prop := Claim7.holds Tryd.pinned (.plain (OpenSpec.upto lawResumeSpec)) lawResumeUptoCard

/-- THE SECOND FORM's CARD OF 'scrublaw.LawUnref'. -/
def lawUnrefUptoCard : Claim7 := { stood := { row := lawUnrefUptoRow, standIns := [], harness := (true, "78f5c278118d56b8af6a9dc96845f94ec645bab0b378867e285d9dcd04d083d7"), looks := false }, kinds := [], alts := [], laidByText := true, laidKinds := [.data, .data, .data, .data, .data, .data], laidTests := true, laidLooks := .later }
def LawUnrefUptoCardSaid : Prop := Claim7.holds Tryd.pinned (.plain (OpenSpec.upto lawUnrefSpec)) lawUnrefUptoCard
end Rows
end Go.Proofs.YtialeicpelehoaaDoor
