/-
  The reader's readByte: its walk.
-/
import Derived.Test.YtkcgmimldjeaiaaDoorReader
namespace Go.Proofs.YtkcgmimldjeaiaaDoor
open Go.RowKit Go.Lib Own

theorem StreamAt.drew {W : World} {base b o : Nat} {cs : Array Value} {T : TypeId} {evs : List Ev} {pend : List UInt8} (h : StreamAt W base b o cs T evs pend) : StreamAt W.drew base b o cs T evs pend := by
  obtain ⟨ev, p, v, xs, hev, hin, hrow, hevs, hap⟩ := h.it
  exact ⟨ev, p, v, xs, hev, ⟨hin.at_, hin.lo, hin.cp, hin.cv, hin.hp, hin.own, hin.ne⟩, hrow, evs_mono (W := W) (W' := W.drew) (fun _ _ _ h => h) xs evs hevs, hap⟩
end Go.Proofs.YtkcgmimldjeaiaaDoor
