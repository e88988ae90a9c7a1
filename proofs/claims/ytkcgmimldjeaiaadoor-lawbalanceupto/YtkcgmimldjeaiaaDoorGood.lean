/-
  Whether a character is good: what chars.isGood answers, as a plain function, and its walk.
-/
import Derived.Test.YtkcgmimldjeaiaaDoorGen
import Derived.Test.YtkcgmimldjeaiaaDoorProg
import Derived.WalkKit
import Derived.WalkLawsBesides
import Derived.WalkSpells
import Derived.Laws.BitsLemmas
import Derived.Test.YtkcgmimldjeaiaaDoorPlain
namespace Go.Proofs.YtkcgmimldjeaiaaDoor
open Go.RowKit

theorem and65534 (a : Nat) : a &&& 65534 = 2 * (a / 2 % 32768) := by
  have h1 : (a &&& 65534) / 2 = a / 2 % 32768 := by
    rw [Nat.and_div_two]
    exact Nat.and_two_pow_sub_one_eq_mod (a / 2) 15
  have h2 : (a &&& 65534) % 2 = 0 := by
    have := @Nat.and_mod_two_pow a 65534 1
    simpa using this
  omega
theorem last_two (c : Int) (h0 : 0 ≤ c) (h1 : c ≤ 1114111) : (bits BinOp.and IntKind.i32 c 65534 != 65534) = decide (c % 65536 < 65534) := by
  obtain ⟨a, rfl⟩ := Int.eq_ofNat_of_zero_le h0
  have e : bits BinOp.and IntKind.i32 (a : Int) 65534 = ((a &&& 65534 : Nat) : Int) :=
    (bits_nat .i32 31 (by decide) wraps_i32 a 65534 (by omega) (by decide)).1
  rw [e, and65534]
  by_cases h : (a : Int) % 65536 < 65534
  · have : ¬ (((2 * (a / 2 % 32768) : Nat) : Int) = 65534) := by omega
    simp [h]; omega
  · have : (((2 * (a / 2 % 32768) : Nat) : Int) = 65534) := by omega
    simp [h, this]

end Go.Proofs.YtkcgmimldjeaiaaDoor
