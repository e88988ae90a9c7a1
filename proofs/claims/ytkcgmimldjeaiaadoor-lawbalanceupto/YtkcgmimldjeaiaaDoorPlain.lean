/-
  Plain facts on bytes and characters: how a text is decoded, cut and put together. No program is named here.
-/
import Derived.Lib.TrimUEq
import Derived.Lib.DecodeNEq
import Derived.Shelf.Unicode.DecodeSlow
import Derived.Lib.RuneBytes
namespace Go.Proofs.YtkcgmimldjeaiaaDoor
open Go.Lib

/-- a good character, by its number -/
def goodB (c : Int) : Bool :=
  decide (c < 32 ∧ (c = 9 ∨ c = 10 ∨ c = 12) ∨
    32 ≤ c ∧ ¬ (127 ≤ c ∧ c ≤ 159) ∧ ¬ (55296 ≤ c ∧ c ≤ 57343) ∧ ¬ (64976 ≤ c ∧ c ≤ 65007) ∧ c ≤ 1114111 ∧ c % 65536 < 65534)

/-- do n bytes that begin so hold a whole character, or none -/
def fullN (n b0 b1 b2 : Nat) : Bool :=
  decide (0 < n ∧ (firstT b0 % 8 ≤ n ∨ (1 < n ∧ (b1 < accLo (firstT b0 / 16) ∨ accHi (firstT b0 / 16) < b1)) ∨ (2 < n ∧ (b2 < 128 ∨ 191 < b2))))
def fullL (l : List UInt8) : Bool := fullN l.length (l.getD 0 0).toNat (l.getD 1 0).toNat (l.getD 2 0).toNat

set_option maxRecDepth 100000 in
set_option maxHeartbeats 4000000 in
/-- what is no beginning of a character stays what it is, whatever comes behind it -/
theorem stableN (n m b0 b1 b2 b3 c1 c2 c3 : Nat) (hn : 1 ≤ n) (hm : n ≤ m) (l0 : b0 < 256) (l1 : b1 < 256) (l2 : b2 < 256) (l3 : b3 < 256) (m1 : c1 < 256) (m2 : c2 < 256) (m3 : c3 < 256)
    (e1 : 1 < n → c1 = b1) (e2 : 2 < n → c2 = b2) (e3 : 3 < n → c3 = b3) (h : (decodeN n b0 b1 b2 b3).1 ≠ 65533 ∨ fullN n b0 b1 b2 = true) :
    decodeN m b0 c1 c2 c3 = decodeN n b0 b1 b2 b3 := by
  rcases firstT_cases b0 with hX | hX | hX | hX | hX | hX | hX | hX | hX
  · rw [ascii_eq _ _ _ _ _ hX, ascii_eq _ _ _ _ _ hX]
  · rw [bad_eq _ _ _ _ _ (by omega) hX, bad_eq _ _ _ _ _ (by omega) hX]
  all_goals
    have hs := (slow_eq n b0 b1 b2 b3 hn l1 l2 l3 (by omega)).symm
    have ht := (slow_eq m b0 c1 c2 c3 (by omega) m1 m2 m3 (by omega)).symm
    rw [hs] at h ⊢
    rw [ht]
    clear hs ht
    simp only [fullN, hX, decide_eq_true_eq] at h
    simp only [hX, accLo, accHi, Nat.reduceMod, Nat.reduceDiv, Nat.reduceEqDiff, if_true, if_false] at h ⊢
    unfold slowN at h ⊢
    repeat' split at h
    all_goals (repeat' split)
    all_goals first
      | rfl
      | (exfalso; omega)
      | (rw [e1 (by omega)]; done)
      | (rw [e1 (by omega), e2 (by omega)]; done)
      | (rw [e1 (by omega), e2 (by omega), e3 (by omega)]; done)
      | (exfalso; simp at h; omega)
end Go.Proofs.YtkcgmimldjeaiaaDoor
