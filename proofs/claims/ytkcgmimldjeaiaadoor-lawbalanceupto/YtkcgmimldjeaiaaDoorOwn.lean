/-
  Rows of bytes that a call owns: what appending and converting them takes.
-/
import Derived.Test.YtkcgmimldjeaiaaDoorRow
import Derived.Test.YtkcgmimldjeaiaaDoorGood
import Derived.Lib.BufferWrite
import Derived.Lib.ConvBytes
namespace Go.Proofs.YtkcgmimldjeaiaaDoor.Own
open Go.RowKit Go.Lib

theorem info_u8 : (Tryd.prog.info? 5).map (fun i => (i.zero, i.size, i.bytes)) = some (some (.int .u8 0), 1, 1) := by kernel_rfl
theorem nil_text (W : World) : (convert 50 9 (.slice none 0 0)).run Tryd.prog W = .ok (.string ⟨#[]⟩) W := by
  rw [run_convert_bytes_string W 50 9 5 none 0 0 Tryd.underlying50 Tryd.underlying5 Tryd.underlying9]
  rfl
/-- the text of bytes that the call owns -/
theorem own_text (W : World) (base : Nat) (v : Value) (l : List UInt8) (h : W.ownsRow base 5 1 v l.length (byteCells l)) :
    (convert 50 9 v).run Tryd.prog W = .ok (.string ⟨l.toArray⟩) W := by
  rcases h.2 with ⟨rfl, h0⟩ | ⟨g, cap, cur, rfl, _⟩
  · have : l = [] := List.eq_nil_of_length_eq_zero h0
    subst this
    exact nil_text W
  · exact run_convert_bytes_back W 50 9 5 ⟨g, 0, none⟩ cap l Tryd.underlying50 Tryd.underlying5 Tryd.underlying9 (fun j hj => by
      have hadd : (⟨g, 0, none⟩ : Addr).add j = ⟨g, j, none⟩ := by unfold Addr.add; split <;> simp_all
      rw [hadd, h.cellAt j (by omega)]
      simp [byteCells, hj])
theorem cells_len (L : List UInt8) : (byteCells L).length = L.length * 1 := by simp [byteCells]
theorem cells_new (L : List UInt8) (W : World) : ∀ j u, (byteCells L)[j]? = some u → (W.alloc (.cells (byteCells L).toArray 5)).cell? ((⟨W.heap.size, 0, none⟩ : Addr).add j) = some u := by
  intro j u hj
  have hadd : (⟨W.heap.size, 0, none⟩ : Addr).add j = ⟨W.heap.size, j, none⟩ := by unfold Addr.add; split <;> simp_all
  rw [hadd]
  have hb := heap_alloc_new W (.cells (byteCells L).toArray 5)
  unfold World.cell?
  rw [hb]
  simp [hj]
theorem own_cat {W : World} {base : Nat} {v : Value} {a L : List UInt8} (h : W.ownsRow base 5 1 v (a.length + L.length) (byteCells a ++ byteCells L)) : W.ownsRow base 5 1 v (a ++ L).length (byteCells (a ++ L)) := by
  rw [byteCells_append, List.length_append]; exact h
end Go.Proofs.YtkcgmimldjeaiaaDoor.Own
