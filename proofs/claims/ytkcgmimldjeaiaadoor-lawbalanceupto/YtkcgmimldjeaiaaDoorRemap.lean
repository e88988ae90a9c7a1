/-
  scrubref.remapped: its walk.
-/
import Derived.Test.YtkcgmimldjeaiaaDoorSet
import Derived.Deep.Cut
import Derived.Great.Walk
import Derived.Great.BuildSlice
namespace Go.Proofs.YtkcgmimldjeaiaaDoor
open Go.RowKit Go.Lib Go.Great

def fromV : List Value := remapT.map fun p => .int .i64 p.1
def toV : List Value := remapT.map fun p => .int .i64 p.2
theorem laid_row (w : World) (t : TypeId) (old cs : Array Value) :
    Below w.heap.size w ((w.alloc (.cells old t)).setRow w.heap.size cs) ∧ ((w.alloc (.cells old t)).setRow w.heap.size cs).heap[w.heap.size]? = some (.cells cs t (0, 0)) ∧ ((w.alloc (.cells old t)).setRow w.heap.size cs).heap.size = w.heap.size + 1 := by
  have hz : ((w.alloc (.cells old t)).setRow w.heap.size cs).heap.size = w.heap.size + 1 := by simp [World.setRow]
  refine ⟨⟨rfl, rfl, rfl, by omega, fun k hk => ?_⟩, setRow_heap _ _ old cs t (0, 0) (heap_alloc_new w _), hz⟩
  rw [setRow_other _ _ _ _ (by omega), alloc_old w _ _ hk]
theorem row_range {W : World} {g : Nat} {cs : List Value} {t : TypeId} {fr : Nat × Nat} (h : W.heap[g]? = some (.cells cs.toArray t fr)) : W.rangeAt g 0 cs := by
  intro j v hv
  rw [Nat.zero_add, cell_of_row W g j cs.toArray t fr h]
  simpa using hv
end Go.Proofs.YtkcgmimldjeaiaaDoor
