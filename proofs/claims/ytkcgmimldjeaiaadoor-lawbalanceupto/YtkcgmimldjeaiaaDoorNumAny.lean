/-
  The two walks of a numeric reference, each as one statement.
-/
import Derived.Test.YtkcgmimldjeaiaaDoorNumR
namespace Go.Proofs.YtkcgmimldjeaiaaDoor
open Go.RowKit Go.Lib

theorem hexN_at {N : List UInt8} {x : UInt8} (h : N[1]? = some x) : hexN N = (x == 120 || x == 88) := by
  unfold hexN
  rw [h]
  simp
theorem hexN_one {N : List UInt8} (h : N.length = 1) : hexN N = false := by
  unfold hexN
  rw [List.getElem?_eq_none (by omega)]
  rfl
theorem numL_one {N : List UInt8} (h : N.length = 1) : numL N = (0, 0) := by
  have hd : digsN N = [] := by
    unfold digsN fromN
    rw [hexN_one h, if_neg (by simp), List.drop_of_length_le (by omega)]
    rfl
  unfold numL
  rw [if_pos hd]
theorem digN_hex {N : List UInt8} (h : hexN N = true) : fromN N = 2 ∧ baseN N = 16 ∧ digN N = digX := by
  unfold fromN baseN digN
  rw [h]
  simp
theorem digN_dec {N : List UInt8} (h : hexN N = false) : fromN N = 1 ∧ baseN N = 10 ∧ digN N = digD := by
  unfold fromN baseN digN
  rw [h]
  simp
theorem int_beq (x : UInt8) (k : UInt8) : ((x.toNat : Int) == (k.toNat : Int)) = (x == k) := by
  rw [Bool.eq_iff_iff, beq_iff_eq, beq_iff_eq]
  constructor
  · intro h; exact UInt8.toNat_inj.1 (by omega)
  · rintro rfl; rfl
theorem take_extract (s : ByteArray) (k : Nat) : (s.extract 0 k).data.toList = s.data.toList.take k := by
  simp

end Go.Proofs.YtkcgmimldjeaiaaDoor
