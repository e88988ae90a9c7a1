/-
  What strings.Cut gives at an ampersand. No program is named here.
-/
import Derived.Test.YtkcgmimldjeaiaaDoorRefText
import Derived.Lib.IndexMore
namespace Go.Proofs.YtkcgmimldjeaiaaDoor
open Go.Lib

theorem index_amp : ∀ (L : List UInt8), (index L [38] = -1 ∧ ∀ c ∈ L, c ≠ 38) ∨ ∃ a b, L = a ++ 38 :: b ∧ (∀ c ∈ a, c ≠ 38) ∧ index L [38] = (a.length : Int)
  | [] => .inl ⟨rfl, fun _ h => by cases h⟩
  | c :: l => by
    by_cases hc : c = 38
    · subst hc
      refine .inr ⟨[], l, rfl, (fun _ h => by cases h), ?_⟩
      unfold index
      rw [if_pos (by simp [List.isPrefixOf])]
      rfl
    · have hp : List.isPrefixOf [38] (c :: l) = false := by simp [List.isPrefixOf]; exact fun h => hc h.symm
      rcases index_amp l with ⟨h1, h2⟩ | ⟨a, b, rfl, h2, h3⟩
      · refine .inl ⟨by unfold index; rw [hp, h1]; rfl, fun d hd => ?_⟩
        rcases List.mem_cons.1 hd with rfl | hd
        · exact hc
        · exact h2 d hd
      · refine .inr ⟨c :: a, b, rfl, fun d hd => ?_, ?_⟩
        · rcases List.mem_cons.1 hd with rfl | hd
          · exact hc
          · exact h2 d hd
        · unfold index
          rw [hp, h3]
          have : ((a.length : Int) == -1) = false := by rw [beq_eq_false_iff_ne]; omega
          simp [this]
theorem cut_amp (L : List UInt8) : (cut L [38] = (L, [], false) ∧ ∀ c ∈ L, c ≠ 38) ∨ ∃ a b, L = a ++ 38 :: b ∧ (∀ c ∈ a, c ≠ 38) ∧ cut L [38] = (a, b, true) := by
  rcases index_amp L with ⟨h1, h2⟩ | ⟨a, b, rfl, h2, h3⟩
  · refine .inl ⟨by unfold cut; rw [h1]; rfl, h2⟩
  · refine .inr ⟨a, b, rfl, h2, ?_⟩
    unfold cut
    rw [h3, if_pos (by omega)]
    have e : (a.length : Int).toNat = a.length := rfl
    rw [e, List.take_left, List.drop_append, List.drop_of_length_le (by omega)]
    simp
end Go.Proofs.YtkcgmimldjeaiaaDoor
