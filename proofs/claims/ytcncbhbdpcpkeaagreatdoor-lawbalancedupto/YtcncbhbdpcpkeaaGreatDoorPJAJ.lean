/-
  Parts of the walk, joined: PolLink, Char.
-/
import Derived.Laws.Tables
import Derived.Lib.Index
import Derived.Lib.Strings
import Derived.Deep.RegionLaw
import Derived.LoopN
import Derived.Lib.AppendStr
import Derived.Lib.FrozenHead
import Derived.Lib.ConvBytes
import Derived.Lib.SlBytesConst
import Derived.Laws.IdiomStrings
import Derived.Lib.IndexBytes
import Derived.Deep.QuietTactic
import Derived.BigQuiet
import Derived.BigCall
import Derived.Test.YtcncbhbdpcpkeaaGreatDoorPJAE
import Derived.Test.YtcncbhbdpcpkeaaGreatDoorPJAD
import Derived.Test.YtcncbhbdpcpkeaaGreatDoorPJAA
import Derived.Test.YtcncbhbdpcpkeaaGreatDoorPJAB
/-
  The reference's CleanURL: its walk.
-/
namespace Go.Proofs.YtcncbhbdpcpkeaaGreatDoor
open Go.RowKit Go.Lib Own

theorem extract_list (s : ByteArray) (i j : Nat) : (s.extract i j).data.toList = (s.data.toList.drop i).take (j - i) := by
  rw [ByteArray.data_extract, Array.toList_extract]
end Go.Proofs.YtcncbhbdpcpkeaaGreatDoor

/-
  scrubref.character: its walk: the character at the front, and its length.
-/
namespace Go.Proofs.YtcncbhbdpcpkeaaGreatDoor
open Go.RowKit Go.Lib

theorem keep {p : Prop} (h : p) : Hid p := h

end Go.Proofs.YtcncbhbdpcpkeaaGreatDoor
