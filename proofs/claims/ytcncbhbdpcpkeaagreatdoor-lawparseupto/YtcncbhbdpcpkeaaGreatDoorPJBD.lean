/-
  Parts of the walk, joined: BalD, Read, WordsA.
-/
import Derived.BigQuiet
import Derived.Test.YtcncbhbdpcpkeaaGreatDoorPJBC
import Derived.Test.YtcncbhbdpcpkeaaGreatDoorPJAV
import Derived.Test.YtcncbhbdpcpkeaaGreatDoorPJAD
import Derived.Test.YtcncbhbdpcpkeaaGreatDoorPJAK
import Derived.Test.YtcncbhbdpcpkeaaGreatDoorPJAA
/-
  The balancer's find, reach and end: their walks.
-/
namespace Go.Proofs.YtcncbhbdpcpkeaaGreatDoor
open Go.RowKit Go.Lib Own

theorem modX_lt (x : List UInt8) : modX x < 10 := by
  by_cases h : elemL x = none
  · unfold modX; rw [h]; exact Nat.succ_pos 9
  · exact (known_lt x h).1
theorem clsX_lt (x : List UInt8) : clsX x < 10 := by
  by_cases h : elemL x = none
  · unfold clsX; rw [h]; exact Nat.succ_pos 9
  · exact (known_lt x h).2
end Go.Proofs.YtcncbhbdpcpkeaaGreatDoor

/-
  scrubref.readBytes: its walk: the text, what is left over, and the CR.
-/
namespace Go.Proofs.YtcncbhbdpcpkeaaGreatDoor
open Go.RowKit Go.Lib

theorem info_u8 : (Tryz.prog.info? 5).map (fun i => (i.zero, i.size, i.bytes)) = some (some (.int .u8 0), 1, 1) := by kernel_rfl

theorem nil_text (W : World) : (convert 65 9 (.slice none 0 0)).run Tryz.prog W = .ok (.string ⟨#[]⟩) W := by
  rw [run_convert_bytes_string W 65 9 5 none 0 0 Tryz.underlying65 Tryz.underlying5 Tryz.underlying9]
  rfl
theorem charL_dec (l : List UInt8) : charL l = if decodeL l = (65533, 1) then (0, 0) else decodeL l := by
  unfold charL charN
  rw [← decodeL_N]

end Go.Proofs.YtcncbhbdpcpkeaaGreatDoor

/-
  Words that can be read, as apartLists wants them.
-/
namespace Go.Proofs.YtcncbhbdpcpkeaaGreatDoor
open Go.RowKit Go.Lib Own

/-- words that can be read, as apartLists wants them -/
theorem words_at {W : World} {p : Option Addr} {n c : Nat} {ss : List (List UInt8)} (h : Words W (.slice p n c) ss) : n = ss.length ∧ WordsAt W W.heap.size p (ss.map bs) := by
  obtain ⟨p', c', e, _, _, hc, _⟩ := h
  cases e
  refine ⟨rfl, ⟨fun j hj => ?_⟩⟩
  rw [List.length_map] at hj
  obtain ⟨b, o, hp, hcell⟩ := hc j ss[j] (List.getElem?_eq_getElem hj)
  refine ⟨b, o, hp, cell_block hcell, ?_⟩
  rw [hcell]
  simp [List.getD, hj]
theorem Words.low {W W' : World} {v : Value} {ss : List (List UInt8)} {B : Nat} (h : Words W v ss) (hB : W.heap.size ≤ B) (hb : Below B W W') : Words W' v ss := h.below (hb.mono hB)

theorem PowB.up {base base2 : Nat} {w : World} (h : PowB base w) (hb : base ≤ base2) : PowB base2 w := ⟨h.1, Nat.lt_of_lt_of_le h.2 hb⟩
end Go.Proofs.YtcncbhbdpcpkeaaGreatDoor
