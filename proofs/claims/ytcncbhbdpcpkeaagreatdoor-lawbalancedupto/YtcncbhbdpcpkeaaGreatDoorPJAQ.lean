/-
  Parts of the walk, joined: StepB, ApartB, RefWrA, OrdL.
-/
import Derived.Lib.Index
import Derived.Lib.Strings
import Derived.Test.YtcncbhbdpcpkeaaGreatDoorShelf
import Derived.Laws.Tables
import Derived.Test.YtcncbhbdpcpkeaaGreatDoorPJAA
import Derived.Test.YtcncbhbdpcpkeaaGreatDoorPJAP
import Derived.Test.YtcncbhbdpcpkeaaGreatDoorPJAD
import Derived.Test.YtcncbhbdpcpkeaaGreatDoorPJAH
import Derived.Test.YtcncbhbdpcpkeaaGreatDoorPJAI
import Derived.Test.YtcncbhbdpcpkeaaGreatDoorPJAO
import Derived.Test.YtcncbhbdpcpkeaaGreatDoorPJAE
import Derived.Test.YtcncbhbdpcpkeaaGreatDoorPJAM
/-
  A step of the reader, in the plain lexer's words; skipBogus, skipComment: their walks.
-/
namespace Go.Proofs.YtcncbhbdpcpkeaaGreatDoor
open Go.RowKit Go.Lib Own

theorem StreamAt.below {W W' : World} {base b o : Nat} {cs : Array Value} {T : TypeId} {evs : List Ev} {pend : List UInt8} (h : StreamAt W base b o cs T evs pend) (hb : Below W.heap.size W W') : StreamAt W' base b o cs T evs pend := by
  obtain ⟨ev, p, v, xs, hev, hin, hrow, hevs, hap⟩ := h.it
  have hg : W.grownBy W' none := ⟨hb.os, hb.tape, hb.output, hb.size, fun k hk _ => hb.block k hk⟩
  exact ⟨ev, p, v, xs, hev, ⟨(hb.block b (Array.getElem?_eq_some_iff.1 hin.at_).1).trans hin.at_, hin.lo, hin.cp, hin.cv, hin.hp, hin.own.kept hg (by cases hv : v.ownBlock <;> simp), hin.ne⟩, hrow.kept hg (Classical.em _), evs_mono (fun a n ys hr => hr.kept hg (Classical.em _)) xs evs hevs, hap⟩
end Go.Proofs.YtcncbhbdpcpkeaaGreatDoor

/-
  The statements' apartLists: its walk.
-/
namespace Go.Proofs.YtcncbhbdpcpkeaaGreatDoor
open Go.RowKit Go.Lib Own

def Dist (vs : List Value) : Prop := ∀ (j k : Nat) (v u : Value), vs[j]? = some v → vs[k]? = some u → j ≠ k → ∀ g, v.ownBlock = some g → u.ownBlock ≠ some g

end Go.Proofs.YtcncbhbdpcpkeaaGreatDoor

/-
  The reference's written, escaped: their walks.
-/
namespace Go.Proofs.YtcncbhbdpcpkeaaGreatDoor
open Go.RowKit Go.Lib Own

/-- the text of bytes that the call owns, marked or not -/
theorem own_textF (W : World) (base : Nat) (v : Value) (l : List UInt8) (h : W.ownsRowF base 5 1 v l.length (byteCells l)) :
    (convert 65 9 v).run Tryz.prog W = .ok (.string (bs l)) W := by
  obtain ⟨hl, h2⟩ := h
  rcases h2 with ⟨rfl, h0⟩ | ⟨g, cap, cur, fz, rfl, _, hg, _, hc, hm, hz, ht⟩
  · have : l = [] := List.eq_nil_of_length_eq_zero h0
    subst this
    exact nil_text W
  · refine run_convert_bytes_back W 65 9 5 ⟨g, 0, none⟩ cap l Tryz.underlying65 Tryz.underlying5 Tryz.underlying9 (fun j hj => ?_)
    have hadd : (⟨g, 0, none⟩ : Addr).add j = ⟨g, j, none⟩ := by unfold Addr.add; split <;> simp_all
    rw [hadd]
    have h3 : cur[j]? = (byteCells l)[j]? := by
      rw [← ht, List.getElem?_take, if_pos (by omega), Array.getElem?_toList]
    simp [World.cell?, hg, h3, byteCells, hj]

end Go.Proofs.YtcncbhbdpcpkeaaGreatDoor

/-
  The statements' ordered, as a plain function on policies: what it makes is valid.
-/
namespace Go.Proofs.YtcncbhbdpcpkeaaGreatDoor
open Go.RowKit Go.Lib Own

/-- brought within bounds, as the statements do it -/
def withinP (n lo hi : Int) : Int := if lo ≤ n ∧ n ≤ hi then n else if Int.tmod n (hi - lo + 1) < 0 then lo + (Int.tmod n (hi - lo + 1) + (hi - lo + 1)) else lo + Int.tmod n (hi - lo + 1)
theorem within_bounds (n lo hi : Int) (h : lo ≤ hi) : lo ≤ withinP n lo hi ∧ withinP n lo hi ≤ hi := by
  have h1 : (0 : Int) < hi - lo + 1 := by omega
  have h2 := Int.tmod_lt_of_pos n h1
  have h3 : -(hi - lo + 1) < Int.tmod n (hi - lo + 1) := by
    have h4 := Int.tmod_lt_of_pos (-n) h1
    rw [Int.neg_tmod] at h4
    omega
  unfold withinP
  split
  · assumption
  · split <;> omega
end Go.Proofs.YtcncbhbdpcpkeaaGreatDoor
