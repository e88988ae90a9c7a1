/-
  Parts of the walk, joined: SameEv.
-/
import Derived.BigQuiet
import Derived.Test.YtcncbhbdpcpkeaaGreatDoorPJAA
import Derived.Test.YtcncbhbdpcpkeaaGreatDoorPJAG
/-
  The statement's comparing of events: its walk, where both hold the same.
-/
namespace Go.Proofs.YtcncbhbdpcpkeaaGreatDoor
open Go.RowKit Go.Lib Own

theorem attrs_at (l : List (List UInt8 × List UInt8)) (k : Nat) (a : List UInt8 × List UInt8) (h : l[k]? = some a) : (attrsV l)[k * 2]? = some (strV a.1) ∧ (attrsV l)[k * 2 + 1]? = some (strV a.2) := by
  induction l generalizing k with
  | nil => simp at h
  | cons b l ih =>
    cases k with
    | zero =>
      simp only [List.getElem?_cons_zero, Option.some.injEq] at h
      subst h
      exact ⟨rfl, rfl⟩
    | succ k =>
      rw [List.getElem?_cons_succ] at h
      obtain ⟨h1, h2⟩ := ih k h
      refine ⟨?_, ?_⟩
      · rw [show (k + 1) * 2 = k * 2 + 1 + 1 by omega]; exact h1
      · rw [show (k + 1) * 2 + 1 = k * 2 + 1 + 1 + 1 by omega]; exact h2
end Go.Proofs.YtcncbhbdpcpkeaaGreatDoor
