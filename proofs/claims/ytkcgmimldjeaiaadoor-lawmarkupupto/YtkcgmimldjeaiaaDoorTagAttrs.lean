/-
  lexer.tagAttrs: its walk.
-/
import Derived.Test.YtkcgmimldjeaiaaDoorGen
import Derived.Test.YtkcgmimldjeaiaaDoorTagName
import Derived.Test.YtkcgmimldjeaiaaDoorUnref
namespace Go.Proofs.YtkcgmimldjeaiaaDoor
open Go.RowKit Go.Lib Own

def attrsV (l : List (List UInt8 × List UInt8)) : List Value := l.flatMap fun a => [strV a.1, strV a.2]
theorem attrsV_len : ∀ l : List (List UInt8 × List UInt8), (attrsV l).length = l.length * 2
  | [] => rfl
  | a :: l => by
    have := attrsV_len l
    unfold attrsV at this ⊢
    simp only [List.flatMap_cons, List.length_append, List.length_cons, List.length_nil, this]
    omega
theorem attrsV_app (a b : List (List UInt8 × List UInt8)) : attrsV (a ++ b) = attrsV a ++ attrsV b := by
  unfold attrsV
  rw [List.flatMap_append]
theorem attrsV_set (ini : List (List UInt8 × List UInt8)) (a : List UInt8 × List UInt8) (u : List UInt8) : (attrsV (ini ++ [a])).set (ini.length * 2 + 1) (strV u) = attrsV (ini ++ [(a.1, u)]) := by
  rw [attrsV_app, attrsV_app, List.set_append, attrsV_len, if_neg (by omega), Nat.add_sub_cancel_left]
  rfl
theorem info_attr : (Tryd.prog.info? 101).map (fun i => (i.zero, i.size, i.bytes)) = some (some (.agg #[.string ⟨#[]⟩, .string ⟨#[]⟩]), 2, 32) := by kernel_rfl
theorem part_more (L : List UInt8) (f k : Nat) (x : UInt8) (hf : f ≤ k) (h : L[k]? = some x) : (L.take (k + 1)).drop f = (L.take k).drop f ++ [x] := by
  have h1 := (List.getElem?_eq_some_iff.1 h).1
  rw [List.take_add_one, h, List.drop_append_of_le_length (by rw [List.length_take]; omega)]
  rfl
theorem part_slice (s : ByteArray) (f k : Nat) : (s.extract f k).data.toList = (s.data.toList.take k).drop f := by
  simp [List.drop_take]
theorem next_table (s : Nat) (h0 : 3 ≤ s) (h1 : s ≤ 10) (c : UInt8) : ((s = 5 ∨ s = 8 ∨ s = 9 ∨ s = 10) → nextT s c = s ∨ nextT s c ≠ 8 ∧ nextT s c ≠ 9) ∧
    ((nextT s c = 6 ∨ nextT s c = 7 ∨ nextT s c = 8 ∨ nextT s c = 9 ∨ nextT s c = 10) → s = 5 ∨ 6 ≤ s) := by
  have hc := colC_lt c
  have hall : ∀ (i : Fin 8) (k : Fin 7), ((i.val + 3 = 5 ∨ i.val + 3 = 8 ∨ i.val + 3 = 9 ∨ i.val + 3 = 10) → (tagTab.getD i.val []).getD k.val 0 = i.val + 3 ∨ (tagTab.getD i.val []).getD k.val 0 ≠ 8 ∧ (tagTab.getD i.val []).getD k.val 0 ≠ 9) ∧
    (((tagTab.getD i.val []).getD k.val 0 = 6 ∨ (tagTab.getD i.val []).getD k.val 0 = 7 ∨ (tagTab.getD i.val []).getD k.val 0 = 8 ∨ (tagTab.getD i.val []).getD k.val 0 = 9 ∨ (tagTab.getD i.val []).getD k.val 0 = 10) → i.val + 3 = 5 ∨ 6 ≤ i.val + 3) := by decide +kernel
  obtain ⟨i, rfl⟩ : ∃ i, s = i + 3 := ⟨s - 3, by omega⟩
  exact hall ⟨i, by omega⟩ ⟨colC c, hc⟩
/-- the attributes, from byte k on -/
def AttrsAt (L : List UInt8) (k s f : Nat) (acc R : List (List UInt8 × List UInt8)) : Prop := attrsL s ((L.take k).drop f) acc (L.drop k) = R ∧ (passL s (L.drop k)).1 = L.length - k
theorem attrs_same {L : List UInt8} {k s f : Nat} {acc R : List (List UInt8 × List UInt8)} {x : UInt8} (h : AttrsAt L k s f acc R) (hf : f ≤ k) (hx : L[k]? = some x) (hs : s ≠ 0) (hv : nextT s x = s) : AttrsAt L (k + 1) s f acc R := by
  obtain ⟨h1, h2⟩ := h
  obtain ⟨hl, hg⟩ := List.getElem?_eq_some_iff.1 hx
  rw [List.drop_eq_getElem_cons hl, hg] at h1 h2
  rw [attrsL, if_pos hv] at h1
  rw [passL, if_neg hs, hv] at h2
  exact ⟨by rw [part_more L f k x hf hx]; exact h1, by simp only at h2; omega⟩
theorem attrs_next {L : List UInt8} {k s f : Nat} {acc R : List (List UInt8 × List UInt8)} {x : UInt8} (h : AttrsAt L k s f acc R) (hx : L[k]? = some x) (hs : s ≠ 0) (hv : nextT s x ≠ s) :
    AttrsAt L (k + 1) (nextT s x) (if nextT s x = 8 ∨ nextT s x = 9 then k + 1 else k)
      (if s = 5 then acc ++ [(((L.take k).drop f).map lowC, [])] else if s = 8 ∨ s = 9 ∨ s = 10 then acc.dropLast ++ [((acc.getLast?.getD ([], [])).1, unr true ((L.take k).drop f))] else acc) R := by
  obtain ⟨h1, h2⟩ := h
  obtain ⟨hl, hg⟩ := List.getElem?_eq_some_iff.1 hx
  rw [List.drop_eq_getElem_cons hl, hg] at h1 h2
  rw [attrsL, if_neg hv] at h1
  rw [passL, if_neg hs] at h2
  refine ⟨?_, by simp only at h2; omega⟩
  have hpart : (L.take (k + 1)).drop (if nextT s x = 8 ∨ nextT s x = 9 then k + 1 else k) = if nextT s x = 8 ∨ nextT s x = 9 then [] else [x] := by
    split
    · rw [List.drop_of_length_le (by rw [List.length_take]; omega)]
    · rw [part_more L k k x (Nat.le_refl _) hx, List.drop_of_length_le (by rw [List.length_take]; omega)]
      rfl
  rw [hpart]
  exact h1
theorem attrs_live {L : List UInt8} {k s f : Nat} {acc R : List (List UInt8 × List UInt8)} (h : AttrsAt L k s f acc R) (hk : k < L.length) : s ≠ 0 := by
  rintro rfl
  obtain ⟨_, h2⟩ := h
  rw [List.drop_eq_getElem_cons hk] at h2
  simp only [passL, if_true] at h2
  omega
theorem attrs_over {L : List UInt8} {k s f : Nat} {acc R : List (List UInt8 × List UInt8)} (h : AttrsAt L k s f acc R) (hk : L.length ≤ k) : acc = R := by
  obtain ⟨h1, _⟩ := h
  rw [List.drop_of_length_le hk] at h1
  exact h1
end Go.Proofs.YtkcgmimldjeaiaaDoor
