/-
  Parts of the walk, joined: NumR, FindName, Unref, LexByte, LexName.
-/
import Derived.LoopN
import Derived.Deep.MidRow
import Derived.Deep.Cut
import Derived.Great.Walk
import Derived.Great.BuildSlice
import Derived.Test.YtcncbhbdpcpkeaaGreatDoorShelf
import Derived.BigQuiet
import Derived.Lib.RuneBytes
import Derived.Lib.IndexMore
import Derived.Test.YtcncbhbdpcpkeaaGreatDoorPJAA
import Derived.Test.YtcncbhbdpcpkeaaGreatDoorPJAB
import Derived.Test.YtcncbhbdpcpkeaaGreatDoorPJAD
/-
  scrubref.number: its walk.
-/
namespace Go.Proofs.YtcncbhbdpcpkeaaGreatDoor
open Go.RowKit Go.Lib

theorem u8_all {p : UInt8 → Bool} (h : ∀ n : Fin 256, p (UInt8.ofNat n.val) = true) (c : UInt8) : p c = true := by
  have := h ⟨c.toNat, c.toNat_lt⟩
  simpa using this
end Go.Proofs.YtcncbhbdpcpkeaaGreatDoor

/-
  chars.findName: its walk.
-/
namespace Go.Proofs.YtcncbhbdpcpkeaaGreatDoor
open Go.RowKit Go.Lib Go.Great

theorem flat_at (f : List UInt8 × Int → Value) (g : List UInt8 × Int → Value) : ∀ (T : List (List UInt8 × Int)) (k : Nat) (x : List UInt8 × Int), T[k]? = some x → ((T.flatMap fun t => [f t, g t]).drop (k * 2)).take 2 = [f x, g x]
  | [], k, x, h => by simp at h
  | t :: T, 0, x, h => by
    simp only [List.getElem?_cons_zero, Option.some.injEq] at h
    subst h
    rfl
  | t :: T, k + 1, x, h => by
    rw [List.getElem?_cons_succ] at h
    have := flat_at f g T k x h
    rw [show (k + 1) * 2 = k * 2 + 2 from by omega, List.flatMap_cons, ← List.drop_drop]
    rw [List.drop_drop, show k * 2 + 2 = 2 + k * 2 from by omega, ← List.drop_drop]
    exact this
end Go.Proofs.YtcncbhbdpcpkeaaGreatDoor

/-
  chars.Unref: its walk.
-/
namespace Go.Proofs.YtcncbhbdpcpkeaaGreatDoor
open Go.RowKit Go.Lib

theorem strCells_byte (t : ByteArray) : Lib.strCells t = Lib.byteCells t.data.toList := by
  rfl

theorem builder_new (w : World) (T e : TypeId) : Lib.IsBuilderF T e w.heap.size w.heap.size (Lib.byteCells []) (w.alloc (.cells #[.pointer none, .slice none 0 0] T)) :=
  Lib.IsBuilderF.of (Or.inl ⟨Nat.le_refl _, .slice none 0 0, heap_alloc_new w _, World.ownsRow_nil _ _ _ _, by simp [Value.ownBlock]⟩)
end Go.Proofs.YtcncbhbdpcpkeaaGreatDoor

/-
  The lexer's single bytes and the states of a tag: their walks.
-/
namespace Go.Proofs.YtcncbhbdpcpkeaaGreatDoor
open Go.RowKit Go.Lib

def spaceZ (z : Int) : Bool := decide (z = 9 ∨ z = 10 ∨ z = 12 ∨ z = 13 ∨ z = 32)
theorem spaceZ_C (c : UInt8) : spaceZ (c.toNat : Int) = spaceC c := by
  have := u8_all (p := fun c => spaceZ (c.toNat : Int) == spaceC c) (by decide +kernel) c
  exact beq_iff_eq.1 this
theorem space_any (z : Int) (_h0 : 0 ≤ z) (_h1 : z ≤ 255) (w : World) :
    Calls Tryz.prog 184 #[.int .u8 z] w fun e w' => e = .returned (.bool (spaceZ z)) ∧ w' = w := by
  rcases (show z = 9 ∨ z = 10 ∨ z = 12 ∨ z = 13 ∨ z = 32 ∨ (z ≠ 9 ∧ z ≠ 10 ∧ z ≠ 12 ∧ z ≠ 13 ∧ z ≠ 32) by omega) with rfl | rfl | rfl | rfl | rfl | ⟨n1, n2, n3, n4, n5⟩
  rotate_right
  · have hs : spaceZ z = false := by unfold spaceZ; rw [decide_eq_false_iff_not]; omega
    rw [hs]
    have q1 : (z == 9) = false := beq_eq_false_iff_ne.2 n1
    have q2 : (z == 10) = false := beq_eq_false_iff_ne.2 n2
    have q3 : (z == 12) = false := beq_eq_false_iff_ne.2 n3
    have q4 : (z == 13) = false := beq_eq_false_iff_ne.2 n4
    have q5 : (z == 32) = false := beq_eq_false_iff_ne.2 n5
    go_enter Tryz.func184, Tryz.ntmps184
    go_wp2
    go_ret
    exact ⟨rfl, rfl⟩
  all_goals
    go_enter Tryz.func184, Tryz.ntmps184
    go_wp2
    go_ret
    exact ⟨rfl, rfl⟩
end Go.Proofs.YtcncbhbdpcpkeaaGreatDoor

/-
  The lexer's names: rawName, modeInside, eatsNewline: their walks.
-/
namespace Go.Proofs.YtcncbhbdpcpkeaaGreatDoor
open Go.RowKit Go.Lib

theorem eats_any (s : ByteArray) (w : World) :
    Calls Tryz.prog 80 #[.string s] w fun e w' => e = .returned (.bool (eatsL s.data.toList)) ∧ w' = w := by
  have he : eatsL s.data.toList = (decide (s.toList = [112, 114, 101]) || decide (s.toList = [116, 101, 120, 116, 97, 114, 101, 97])) := by
    rw [Lib.toList_data]
    unfold eatsL
    rw [Bool.eq_iff_iff]
    simp
  rw [he]
  clear he
  by_cases h1 : s.toList = [112, 114, 101]
  · have h2 : ¬ s.toList = [116, 101, 120, 116, 97, 114, 101, 97] := by rw [h1]; decide
    rw [decide_eq_true h1, decide_eq_false h2]
    have q1 : (s.toList == [112, 114, 101]) = true := beq_iff_eq.2 h1
    clear h1 h2
    go_enter Tryz.func80, Tryz.ntmps80
    go_wp2
    go_ret
    refine ⟨ret_bool ?_, rfl⟩
    first | rfl | simp [q1]
  · by_cases h2 : s.toList = [116, 101, 120, 116, 97, 114, 101, 97]
    · rw [decide_eq_false h1, decide_eq_true h2]
      have q1 : (s.toList == [112, 114, 101]) = false := beq_eq_false_iff_ne.2 h1
      have q2 : (s.toList == [116, 101, 120, 116, 97, 114, 101, 97]) = true := beq_iff_eq.2 h2
      clear h2
      go_enter Tryz.func80, Tryz.ntmps80
      go_wp2
      go_ret
      refine ⟨ret_bool ?_, rfl⟩
      first | rfl | simp [q1, q2]
    · rw [decide_eq_false h1, decide_eq_false h2]
      have q1 : (s.toList == [112, 114, 101]) = false := beq_eq_false_iff_ne.2 h1
      have q2 : (s.toList == [116, 101, 120, 116, 97, 114, 101, 97]) = false := beq_eq_false_iff_ne.2 h2
      go_enter Tryz.func80, Tryz.ntmps80
      go_wp2
      go_ret
      refine ⟨ret_bool ?_, rfl⟩
      first | rfl | simp [q1, q2]
end Go.Proofs.YtcncbhbdpcpkeaaGreatDoor
