/-
  scrubref.referred: its walk.
-/
import Derived.Test.YtkcgmimldjeaiaaDoorNamed
import Derived.Test.YtkcgmimldjeaiaaDoorFindRef
namespace Go.Proofs.YtkcgmimldjeaiaaDoor
open Go.RowKit Go.Lib

theorem str_ne {s : ByteArray} (h : 0 < s.size) : (s.toList == (⟨#[]⟩ : ByteArray).toList) = false := by
  refine beq_eq_false_iff_ne.2 (fun h2 => ?_)
  rw [Lib.toList_data, Lib.toList_data] at h2
  have h3 : s.data.toList.length = 0 := by rw [h2]; rfl
  rw [← size_eq] at h3
  omega
theorem str_full {s : ByteArray} (h : 0 < s.size) : s.toList.isEmpty = false := by
  rw [Lib.toList_data]
  rw [size_eq] at h
  cases hs : s.data.toList with
  | nil => rw [hs] at h; simp at h
  | cons a l => rfl
theorem name_take (L : List UInt8) : (name2 L eitherT closedT).1 = L.take (nameL L).1 ∧ (name2 L eitherT closedT).2 = (nameL L).2 :=
  ⟨(names_eq L eitherT closedT eitherT_ok closedT_ok).1, (names_eq L eitherT closedT eitherT_ok closedT_ok).2.1⟩
theorem goesL_at {L : List UInt8} {n : Nat} {y : UInt8} (h : L[n]? = some y) : goesL (L.drop n) = goesB y := by
  obtain ⟨h1, h2⟩ := List.getElem?_eq_some_iff.1 h
  rw [List.drop_eq_getElem_cons h1, h2]
  rfl
theorem goes_split (z : Int) : goesZ z = ((z == 61) || isLetZ z || isDigZ z) := by
  rw [Bool.eq_iff_iff]
  simp [goesZ, isLetZ, isDigZ]
  omega

end Go.Proofs.YtkcgmimldjeaiaaDoor
