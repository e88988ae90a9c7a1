/-
  The lexer's single bytes and the states of a tag: their walks.
-/
import Derived.Test.YtkcgmimldjeaiaaDoorLexEv
import Derived.Test.YtkcgmimldjeaiaaDoorNumAny
import Derived.BigQuiet
namespace Go.Proofs.YtkcgmimldjeaiaaDoor
open Go.RowKit Go.Lib

def spaceZ (z : Int) : Bool := decide (z = 9 ∨ z = 10 ∨ z = 12 ∨ z = 13 ∨ z = 32)
def colZ (z : Int) : Int := if z = 47 then 1 else if z = 62 then 2 else if z = 61 then 3 else if z = 34 then 4 else if z = 39 then 5 else if spaceZ z then 0 else 6
theorem u8_int (c k : UInt8) : ((c.toNat : Int) = (k.toNat : Int)) ↔ c = k := by
  constructor
  · intro h; exact UInt8.toNat_inj.1 (by omega)
  · rintro rfl; rfl
theorem spaceZ_C (c : UInt8) : spaceZ (c.toNat : Int) = spaceC c := by
  have := u8_all (p := fun c => spaceZ (c.toNat : Int) == spaceC c) (by decide +kernel) c
  exact beq_iff_eq.1 this
theorem colZ_C (c : UInt8) : colZ (c.toNat : Int) = (colC c : Int) := by
  have := u8_all (p := fun c => decide (colZ (c.toNat : Int) = (colC c : Int))) (by decide +kernel) c
  exact of_decide_eq_true this
theorem colC_lt (c : UInt8) : colC c < 7 := by unfold colC; (repeat' split) <;> omega

theorem space_any (z : Int) (_h0 : 0 ≤ z) (_h1 : z ≤ 255) (w : World) :
    Calls Tryd.prog 124 #[.int .u8 z] w fun e w' => e = .returned (.bool (spaceZ z)) ∧ w' = w := by
  rcases (show z = 9 ∨ z = 10 ∨ z = 12 ∨ z = 13 ∨ z = 32 ∨ (z ≠ 9 ∧ z ≠ 10 ∧ z ≠ 12 ∧ z ≠ 13 ∧ z ≠ 32) by omega) with rfl | rfl | rfl | rfl | rfl | ⟨n1, n2, n3, n4, n5⟩
  rotate_right
  · have hs : spaceZ z = false := by unfold spaceZ; rw [decide_eq_false_iff_not]; omega
    rw [hs]
    have q1 : (z == 9) = false := beq_eq_false_iff_ne.2 n1
    have q2 : (z == 10) = false := beq_eq_false_iff_ne.2 n2
    have q3 : (z == 12) = false := beq_eq_false_iff_ne.2 n3
    have q4 : (z == 13) = false := beq_eq_false_iff_ne.2 n4
    have q5 : (z == 32) = false := beq_eq_false_iff_ne.2 n5
    go_enter Tryd.func124, Tryd.ntmps124
    go_wp2
    go_ret
    exact ⟨rfl, rfl⟩
  all_goals
    go_enter Tryd.func124, Tryd.ntmps124
    go_wp2
    go_ret
    exact ⟨rfl, rfl⟩
def tagV : List Value := tagTab.flatten.map fun (z : Nat) => .int .u8 (z : Int)
theorem drew_zero (w : World) : w.drewN 0 = w := rfl
theorem pass_step {D : List UInt8} {a s : Nat} {c : UInt8} {R : Nat × Nat} (hc : D[a]? = some c) (hs : s ≠ 0) (h : (a + (passL s (D.drop a)).1, (passL s (D.drop a)).2) = R) : (a + 1 + (passL (nextT s c) (D.drop (a + 1))).1, (passL (nextT s c) (D.drop (a + 1))).2) = R := by
  obtain ⟨h1, h2⟩ := List.getElem?_eq_some_iff.1 hc
  rw [List.drop_eq_getElem_cons h1, h2, passL, if_neg hs] at h
  rw [← h]
  simp only [Prod.mk.injEq, and_true]
  omega
theorem pass_end {D : List UInt8} {a s : Nat} {R : Nat × Nat} (hc : D.length ≤ a ∨ s = 0) (h : (a + (passL s (D.drop a)).1, (passL s (D.drop a)).2) = R) : (a, s) = R := by
  rcases hc with hc | hc
  · rw [List.drop_of_length_le hc] at h
    exact h
  · subst hc
    rw [← h]
    cases D.drop a <;> rfl
end Go.Proofs.YtkcgmimldjeaiaaDoor
