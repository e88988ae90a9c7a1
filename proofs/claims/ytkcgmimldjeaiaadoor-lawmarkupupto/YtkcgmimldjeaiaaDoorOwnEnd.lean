/-
  The reader's ownEnd: its walk.
-/
import Derived.Test.YtkcgmimldjeaiaaDoorTagName
import Derived.BigQuiet
namespace Go.Proofs.YtkcgmimldjeaiaaDoor
open Go.RowKit Go.Lib Own

/-- the reader's own six cells, ahead of its stream's three -/
structure RdAt (W : World) (b : Nat) (win : Int) (data : ByteArray) (pos mode scan : Int) (eat : Bool) : Prop where
  c0 : W.cell? ⟨b, 0, none⟩ = some (.int .i64 win)
  c1 : W.cell? ⟨b, 1, none⟩ = some (.string data)
  c2 : W.cell? ⟨b, 2, none⟩ = some (.int .i64 pos)
  c3 : W.cell? ⟨b, 3, none⟩ = some (.int .i64 mode)
  c4 : W.cell? ⟨b, 4, none⟩ = some (.int .i64 scan)
  c5 : W.cell? ⟨b, 5, none⟩ = some (.bool eat)

theorem own_go {o r : List UInt8} {k R : Nat} {x y : UInt8} (hx : r[k]? = some x) (hy : o[k]? = some y) (he : lowC x = y) (h : ownL (o.drop k) (r.drop k) = R) : ownL (o.drop (k + 1)) (r.drop (k + 1)) = R := by
  obtain ⟨h1, h2⟩ := List.getElem?_eq_some_iff.1 hx
  obtain ⟨h3, h4⟩ := List.getElem?_eq_some_iff.1 hy
  rw [List.drop_eq_getElem_cons h1, h2, List.drop_eq_getElem_cons h3, h4, ownL, if_pos he] at h
  exact h
theorem own_no {o r : List UInt8} {k R : Nat} {x y : UInt8} (hx : r[k]? = some x) (hy : o[k]? = some y) (he : lowC x ≠ y) (h : ownL (o.drop k) (r.drop k) = R) : R = 0 := by
  obtain ⟨h1, h2⟩ := List.getElem?_eq_some_iff.1 hx
  obtain ⟨h3, h4⟩ := List.getElem?_eq_some_iff.1 hy
  rw [List.drop_eq_getElem_cons h1, h2, List.drop_eq_getElem_cons h3, h4, ownL, if_neg he] at h
  exact h.symm
theorem own_short {o r : List UInt8} {k R : Nat} (hk : r.length ≤ k) (h : ownL (o.drop k) (r.drop k) = R) : R = 1 := by
  rw [List.drop_of_length_le hk] at h
  rw [← h]
  unfold ownL
  rfl
theorem own_told {o r : List UInt8} {k R : Nat} {x : UInt8} (hx : r[k]? = some x) (hk : o.length ≤ k) (h : ownL (o.drop k) (r.drop k) = R) : R = if endsC x then 2 else 0 := by
  obtain ⟨h1, h2⟩ := List.getElem?_eq_some_iff.1 hx
  rw [List.drop_of_length_le hk, List.drop_eq_getElem_cons h1, h2] at h
  exact h.symm

end Go.Proofs.YtkcgmimldjeaiaaDoor
