/-
  chars.Unref: its walk.
-/
import Derived.Test.YtkcgmimldjeaiaaDoorReferred
import Derived.Test.YtkcgmimldjeaiaaDoorAmp
namespace Go.Proofs.YtkcgmimldjeaiaaDoor
open Go.RowKit Go.Lib

theorem fold_range (L : List UInt8) : ∀ (T : List (List UInt8 × Int)), (∀ t ∈ T, 0 ≤ t.2 ∧ t.2 ≤ 9000) → ∀ a : Nat × Int, 0 ≤ a.2 ∧ a.2 ≤ 9000 → 0 ≤ (T.foldl (step1 L) a).2 ∧ (T.foldl (step1 L) a).2 ≤ 9000
  | [], _, _, h => h
  | t :: T, hT, a, h => by
    rw [List.foldl_cons]
    refine fold_range L T (fun u hu => hT u (.tail _ hu)) _ ?_
    unfold step1
    split
    · exact hT t (.head _)
    · exact h
theorem name_range (L : List UInt8) : 0 ≤ (nameL L).2 ∧ (nameL L).2 ≤ 9000 := by
  have h := fold_range L (eitherT ++ closedT) (by decide +kernel) (0, 0) (by decide)
  have hsh : ∀ a : Nat × Int, (shut1 L a).2 = a.2 := fun a => by
    unfold shut1
    split <;> rfl
  have e : (nameL L).2 = (name1 L (eitherT ++ closedT)).2 := hsh _
  rw [e]
  exact h
theorem ref_range (attr : Bool) (L : List UInt8) : 0 ≤ (refL attr L).2 ∧ (refL attr L).2 ≤ 1114111 ∧ ¬ (55296 ≤ (refL attr L).2 ∧ (refL attr L).2 ≤ 57343) := by
  unfold refL
  split
  · unfold numL
    split
    · simp
    · exact numb_good _ (by omega)
  · split
    · simp
    · have := name_range L
      omega
theorem ref_le (attr : Bool) (L : List UInt8) : (refL attr L).1 ≤ L.length := by
  unfold refL
  split
  · have h1 : ∀ N : List UInt8, (numL N).1 ≤ N.length := by
      intro N
      unfold numL
      split
      · exact Nat.zero_le _
      · rename_i hd
        have h2 : fromN N + (digsN N).length ≤ N.length := by
          have h3 := (List.takeWhile_prefix (p := digN N) (l := N.drop (fromN N))).length_le
          have h4 : 0 < (digsN N).length := List.length_pos_iff.2 hd
          unfold digsN at h4 ⊢
          rw [List.length_drop] at h3
          omega
        split
        · rename_i h59
          have := (List.getElem?_eq_some_iff.1 h59).1
          simp only
          omega
        · simp only
          omega
    have := h1 (L.take 31)
    rw [List.length_take] at this
    omega
  · split
    · exact Nat.zero_le _
    · exact name_le L

def strLen : Value → Nat
  | .string s => s.size
  | _ => 0
theorem strCells_byte (t : ByteArray) : Lib.strCells t = Lib.byteCells t.data.toList := by
  rfl

theorem rangeAt_low {w w' : World} {b o : Nat} {cs : List Value} (h : w.rangeAt b o cs) (hb : Below w.heap.size w w') : w'.rangeAt b o cs := rangeAt_below h hb
theorem builder_new (w : World) (T e : TypeId) : Lib.IsBuilderF T e w.heap.size w.heap.size (Lib.byteCells []) (w.alloc (.cells #[.pointer none, .slice none 0 0] T)) :=
  Lib.IsBuilderF.of (Or.inl ⟨Nat.le_refl _, .slice none 0 0, heap_alloc_new w _, World.ownsRow_nil _ _ _ _, by simp [Value.ownBlock]⟩)
/-- what holds between two rounds -/
def UnrAt (attr : Bool) (t : ByteArray) (acc R : List UInt8) : Prop := acc ++ unr attr t.data.toList = R

end Go.Proofs.YtkcgmimldjeaiaaDoor
