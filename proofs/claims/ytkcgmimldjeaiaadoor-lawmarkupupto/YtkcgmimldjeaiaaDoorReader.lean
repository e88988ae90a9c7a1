/-
  The reader's state; unit, beginSkip: their walks.
-/
import Derived.Test.YtkcgmimldjeaiaaDoorPutEv
import Derived.Test.YtkcgmimldjeaiaaDoorOwnEnd
namespace Go.Proofs.YtkcgmimldjeaiaaDoor
open Go.RowKit Go.Lib Own

/-- the reader's nine cells -/
def rdC (win : Int) (data : ByteArray) (pos mode scan : Int) (eat : Bool) (ev p v : Value) : Array Value :=
  #[.int .i64 win, .string data, .int .i64 pos, .int .i64 mode, .int .i64 scan, .bool eat, ev, p, v]
theorem StreamAt.heap {W : World} {base b o : Nat} {cs : Array Value} {T : TypeId} {evs : List Ev} {pend : List UInt8} (h : StreamAt W base b o cs T evs pend) : W.heap[b]? = some (.cells cs T (0, 0)) ∧ base ≤ b := by
  obtain ⟨ev, p, v, xs, hev, hin, hrow, hevs, hap⟩ := h.it
  exact ⟨hin.at_, hin.lo⟩
/-- a cell that is none of the stream's three is stored -/
theorem StreamAt.stored {W : World} {base b o : Nat} {cs : Array Value} {T : TypeId} {evs : List Ev} {pend : List UInt8} (h : StreamAt W base b o cs T evs pend) (hT : StreamT T cs o) (j : Nat) (hj : j < o) (u : Value) : StreamAt (W.setCell ⟨b, j, none⟩ u) base b o (cs.setIfInBounds j u) T evs pend := by
  obtain ⟨ev, p, v, xs, hev, hin, hrow, hevs, hap⟩ := h.it
  have j1 := just_set (j := j) hin.at_ u
  refine ⟨ev, p, v, xs, ?_, ⟨j1.at_, hin.lo, ?_, ?_, hin.hp, ?_, hin.ne⟩, row_just hrow hin.at_ hT.n2 j1.other, evs_mono (fun a n ys hr => row_just hr hin.at_ hT.n1 j1.other) xs evs hevs, hap⟩
  · rw [Array.getElem?_setIfInBounds, if_neg (by omega)]; exact hev
  · rw [Array.getElem?_setIfInBounds, if_neg (by omega)]; exact hin.cp
  · rw [Array.getElem?_setIfInBounds, if_neg (by omega)]; exact hin.cv
  · exact hin.own.kept (row := some b) ⟨j1.os, j1.tape, j1.output, by rw [j1.size]; exact Nat.le_refl _, fun k _ hk => j1.other k (fun e => hk (by rw [e]))⟩ (.inr hin.ne)

end Go.Proofs.YtkcgmimldjeaiaaDoor
