/-
  What is an unfinished character: by what may come behind it, and by the tables. No program is walked here.
-/
import Derived.Test.YtgcfaannhkmilaaDoorChar
namespace Go.Proofs.YtgcfaannhkmilaaDoor
open Go.Lib

theorem charN_size (n b0 b1 b2 b3 k : Nat) (hk : 2 ≤ k) : (charN n b0 b1 b2 b3).2 = k ↔ (decodeN n b0 b1 b2 b3).2 = k := by
  unfold charN
  split
  · rename_i h; rw [h]; simp only; omega
  · rfl
theorem charN_none (n b0 b1 b2 b3 : Nat) : (charN n b0 b1 b2 b3).2 = 0 ↔ decodeN n b0 b1 b2 b3 = (65533, 1) := by
  unfold charN
  split
  · rename_i h; simp [h]
  · rename_i h
    have : 1 ≤ (decodeN n b0 b1 b2 b3).2 := by
      unfold decodeN
      repeat' split
      all_goals simp only
      all_goals omega
    constructor
    · intro e; omega
    · intro e; exact absurd e h

/-- something may come behind n bytes, 1 to 3, that makes them a character -/
def comes (m b0 b1 b2 : Nat) : Prop :=
  (m = 1 ∧ ((decodeN 2 b0 128 0 0).2 = 2 ∨ (decodeN 2 b0 191 0 0).2 = 2 ∨ (decodeN 3 b0 128 128 0).2 = 3 ∨ (decodeN 3 b0 191 191 0).2 = 3 ∨ (decodeN 4 b0 128 128 128).2 = 4 ∨ (decodeN 4 b0 191 191 191).2 = 4)) ∨
  (m = 2 ∧ ((decodeN 3 b0 b1 128 0).2 = 3 ∨ (decodeN 3 b0 b1 191 0).2 = 3 ∨ (decodeN 4 b0 b1 128 128).2 = 4 ∨ (decodeN 4 b0 b1 191 191).2 = 4)) ∨
  (m = 3 ∧ ((decodeN 4 b0 b1 b2 128).2 = 4 ∨ (decodeN 4 b0 b1 b2 191).2 = 4))

theorem dec_two (n b0 b1 b2 b3 : Nat) : (decodeN n b0 b1 b2 b3).2 = 2 ↔ b0 / 32 = 6 ∧ 1 < n ∧ b1 / 64 = 2 ∧ 128 ≤ b0 % 32 * 64 + b1 % 64 := by
  unfold decodeN
  repeat' split
  all_goals dsimp only
  all_goals omega
theorem dec_three (n b0 b1 b2 b3 : Nat) : (decodeN n b0 b1 b2 b3).2 = 3 ↔ b0 / 16 = 14 ∧ 2 < n ∧ b1 / 64 = 2 ∧ b2 / 64 = 2 ∧ 2048 ≤ b0 % 16 * 4096 + b1 % 64 * 64 + b2 % 64 ∧ ¬ (55296 ≤ b0 % 16 * 4096 + b1 % 64 * 64 + b2 % 64 ∧ b0 % 16 * 4096 + b1 % 64 * 64 + b2 % 64 ≤ 57343) := by
  unfold decodeN
  repeat' split
  all_goals dsimp only
  all_goals omega
theorem dec_four (n b0 b1 b2 b3 : Nat) : (decodeN n b0 b1 b2 b3).2 = 4 ↔ b0 / 8 = 30 ∧ 3 < n ∧ b1 / 64 = 2 ∧ b2 / 64 = 2 ∧ b3 / 64 = 2 ∧ 65536 ≤ b0 % 8 * 262144 + b1 % 64 * 4096 + b2 % 64 * 64 + b3 % 64 ∧ b0 % 8 * 262144 + b1 % 64 * 4096 + b2 % 64 * 64 + b3 % 64 ≤ 1114111 := by
  unfold decodeN
  repeat' split
  all_goals dsimp only
  all_goals omega
theorem dec_none (n b0 b1 b2 b3 : Nat) : decodeN n b0 b1 b2 b3 = (65533, 1) ↔ 128 ≤ b0 ∧ (decodeN n b0 b1 b2 b3).2 ≠ 2 ∧ (decodeN n b0 b1 b2 b3).2 ≠ 3 ∧ (decodeN n b0 b1 b2 b3).2 ≠ 4 := by
  unfold decodeN
  repeat' split
  all_goals rw [Prod.mk.injEq]
  all_goals dsimp only
  all_goals omega
theorem dec_error (n b0 b1 b2 b3 : Nat) : (decodeN n b0 b1 b2 b3).1 = 65533 ↔ decodeN n b0 b1 b2 b3 = (65533, 1) ∨ ((decodeN n b0 b1 b2 b3).2 = 3 ∧ b0 % 16 * 4096 + b1 % 64 * 64 + b2 % 64 = 65533) := by
  unfold decodeN
  repeat' split
  all_goals rw [Prod.mk.injEq]
  all_goals dsimp only
  all_goals omega
theorem first_class (b : Nat) (h : b < 256) : (firstT b = 240 ∧ b < 128) ∨ (firstT b = 241 ∧ (128 ≤ b ∧ b < 194 ∨ 245 ≤ b)) ∨ (firstT b = 2 ∧ 194 ≤ b ∧ b < 224) ∨ (firstT b = 19 ∧ b = 224) ∨ (firstT b = 3 ∧ (225 ≤ b ∧ b < 237 ∨ 238 ≤ b ∧ b < 240)) ∨ (firstT b = 35 ∧ b = 237) ∨ (firstT b = 52 ∧ b = 240) ∨ (firstT b = 4 ∧ 241 ≤ b ∧ b < 244) ∨ (firstT b = 68 ∧ b = 244) := by
  unfold firstT
  repeat' split
  all_goals omega

/-- what may be made a character is no whole one, and nothing rules it out -/
theorem comes_full (m b0 b1 b2 : Nat) (l0 : b0 < 256) (h : comes m b0 b1 b2) : fullN m b0 b1 b2 = false := by
  unfold comes at h
  simp only [dec_two, dec_three, dec_four] at h
  unfold fullN
  rw [decide_eq_false_iff_not]
  rcases first_class b0 l0 with ⟨hX, hr⟩ | ⟨hX, hr⟩ | ⟨hX, hr⟩ | ⟨hX, hr⟩ | ⟨hX, hr⟩ | ⟨hX, hr⟩ | ⟨hX, hr⟩ | ⟨hX, hr⟩ | ⟨hX, hr⟩
  all_goals
    rw [hX]
    simp only [accLo, accHi, Nat.reduceMod, Nat.reduceDiv, Nat.reduceEqDiff, if_true, if_false]
    rcases h with ⟨rfl, h | h | h | h | h | h⟩ | ⟨rfl, h | h | h | h⟩ | ⟨rfl, h | h⟩
    all_goals omega

set_option maxHeartbeats 8000000 in
theorem full_comes (m b0 b1 b2 : Nat) (hm : 1 ≤ m ∧ m ≤ 3) (l0 : b0 < 256) (h : fullN m b0 b1 b2 = false) (h0 : 128 ≤ b0) : comes m b0 b1 b2 := by
  unfold fullN at h
  rw [decide_eq_false_iff_not] at h
  unfold comes
  rcases first_class b0 l0 with ⟨hX, hr⟩ | ⟨hX, hr⟩ | ⟨hX, hr⟩ | ⟨hX, hr⟩ | ⟨hX, hr⟩ | ⟨hX, hr⟩ | ⟨hX, hr⟩ | ⟨hX, hr⟩ | ⟨hX, hr⟩
  all_goals
    rw [hX] at h
    simp only [accLo, accHi, Nat.reduceMod, Nat.reduceDiv, Nat.reduceEqDiff, if_true, if_false] at h
  · omega
  · omega
  · rcases (show m = 1 ∨ m = 2 ∨ m = 3 by omega) with rfl | rfl | rfl
    · exact Or.inl ⟨rfl, Or.inl ((dec_two _ _ _ _ _).2 (by omega))⟩
    · omega
    · omega
  · rcases (show m = 1 ∨ m = 2 ∨ m = 3 by omega) with rfl | rfl | rfl
    · exact Or.inl ⟨rfl, Or.inr (Or.inr (Or.inr (Or.inl ((dec_three _ _ _ _ _).2 (by omega)))))⟩
    · exact Or.inr (Or.inl ⟨rfl, Or.inl ((dec_three _ _ _ _ _).2 (by omega))⟩)
    · omega
  · rcases (show m = 1 ∨ m = 2 ∨ m = 3 by omega) with rfl | rfl | rfl
    · exact Or.inl ⟨rfl, Or.inr (Or.inr (Or.inl ((dec_three _ _ _ _ _).2 (by omega))))⟩
    · exact Or.inr (Or.inl ⟨rfl, Or.inl ((dec_three _ _ _ _ _).2 (by omega))⟩)
    · omega
  · rcases (show m = 1 ∨ m = 2 ∨ m = 3 by omega) with rfl | rfl | rfl
    · exact Or.inl ⟨rfl, Or.inr (Or.inr (Or.inl ((dec_three _ _ _ _ _).2 (by omega))))⟩
    · exact Or.inr (Or.inl ⟨rfl, Or.inl ((dec_three _ _ _ _ _).2 (by omega))⟩)
    · omega
  · rcases (show m = 1 ∨ m = 2 ∨ m = 3 by omega) with rfl | rfl | rfl
    · exact Or.inl ⟨rfl, Or.inr (Or.inr (Or.inr (Or.inr (Or.inr ((dec_four _ _ _ _ _).2 (by omega))))))⟩
    · exact Or.inr (Or.inl ⟨rfl, Or.inr (Or.inr (Or.inl ((dec_four _ _ _ _ _).2 (by omega))))⟩)
    · exact Or.inr (Or.inr ⟨rfl, Or.inl ((dec_four _ _ _ _ _).2 (by omega))⟩)
  · rcases (show m = 1 ∨ m = 2 ∨ m = 3 by omega) with rfl | rfl | rfl
    · exact Or.inl ⟨rfl, Or.inr (Or.inr (Or.inr (Or.inr (Or.inl ((dec_four _ _ _ _ _).2 (by omega))))))⟩
    · exact Or.inr (Or.inl ⟨rfl, Or.inr (Or.inr (Or.inl ((dec_four _ _ _ _ _).2 (by omega))))⟩)
    · exact Or.inr (Or.inr ⟨rfl, Or.inl ((dec_four _ _ _ _ _).2 (by omega))⟩)
  · rcases (show m = 1 ∨ m = 2 ∨ m = 3 by omega) with rfl | rfl | rfl
    · exact Or.inl ⟨rfl, Or.inr (Or.inr (Or.inr (Or.inr (Or.inl ((dec_four _ _ _ _ _).2 (by omega))))))⟩
    · exact Or.inr (Or.inl ⟨rfl, Or.inr (Or.inr (Or.inl ((dec_four _ _ _ _ _).2 (by omega))))⟩)
    · exact Or.inr (Or.inr ⟨rfl, Or.inl ((dec_four _ _ _ _ _).2 (by omega))⟩)

theorem comes_iff (m b0 b1 b2 : Nat) (hm : 1 ≤ m ∧ m ≤ 3) (l0 : b0 < 256) :
    (decodeN m b0 b1 b2 0 = (65533, 1) ∧ comes m b0 b1 b2) ↔ ((decodeN m b0 b1 b2 0).1 = 65533 ∧ fullN m b0 b1 b2 = false) := by
  constructor
  · rintro ⟨h1, h2⟩
    exact ⟨by rw [h1], comes_full m b0 b1 b2 l0 h2⟩
  · rintro ⟨h1, h2⟩
    rw [dec_error] at h1
    rcases h1 with h1 | ⟨h1, _⟩
    · exact ⟨h1, full_comes m b0 b1 b2 hm l0 h2 ((dec_none _ _ _ _ _).1 h1).1⟩
    · exfalso
      rw [dec_three] at h1
      unfold fullN at h2
      rw [decide_eq_false_iff_not] at h2
      rcases first_class b0 l0 with ⟨hX, hr⟩ | ⟨hX, hr⟩ | ⟨hX, hr⟩ | ⟨hX, hr⟩ | ⟨hX, hr⟩ | ⟨hX, hr⟩ | ⟨hX, hr⟩ | ⟨hX, hr⟩ | ⟨hX, hr⟩
      all_goals (rw [hX] at h2; simp only [Nat.reduceMod] at h2; omega)
end Go.Proofs.YtgcfaannhkmilaaDoor
