/-
  Parts of the walk, joined: PolKept.
-/
import Derived.Laws.Rows
import Derived.Deep.Cut
import Derived.Deep.RegionWith
import Derived.Deep.AppendLies
import Derived.BigQuiet
import Derived.Test.YtcncbhbdpcpkeaaGreatDoorPJAP
/-
  The statements' keptPolicy: its walk, at a policy that is as it was lent.
-/
namespace Go.Proofs.YtcncbhbdpcpkeaaGreatDoor
open Go.RowKit Go.Lib Own

theorem Words.shape {W : World} {v : Value} {ss : List (List UInt8)} (h : Words W v ss) : ∃ p n c, v = .slice p n c := by
  obtain ⟨p, c, e, _⟩ := h
  exact ⟨p, _, c, e⟩

end Go.Proofs.YtcncbhbdpcpkeaaGreatDoor
