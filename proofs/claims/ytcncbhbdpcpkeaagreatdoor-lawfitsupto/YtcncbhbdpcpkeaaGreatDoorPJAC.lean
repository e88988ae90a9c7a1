/-
  Parts of the walk, joined: Unref, Ref.
-/
import Derived.Test.YtcncbhbdpcpkeaaGreatDoorShelf
import Derived.Deep.Cut
import Derived.BigQuiet
import Derived.Lib.IndexMore
import Derived.Test.YtcncbhbdpcpkeaaGreatDoorPJAB
import Derived.Test.YtcncbhbdpcpkeaaGreatDoorPJAA
/-
  chars.Unref: its walk.
-/
namespace Go.Proofs.YtcncbhbdpcpkeaaGreatDoor
open Go.RowKit Go.Lib

theorem strCells_byte (t : ByteArray) : Lib.strCells t = Lib.byteCells t.data.toList := by
  rfl

theorem builder_new (w : World) (T e : TypeId) : Lib.IsBuilderF T e w.heap.size w.heap.size (Lib.byteCells []) (w.alloc (.cells #[.pointer none, .slice none 0 0] T)) :=
  Lib.IsBuilderF.of (Or.inl ⟨Nat.le_refl _, .slice none 0 0, heap_alloc_new w _, World.ownsRow_nil _ _ _ _, by simp [Value.ownBlock]⟩)
end Go.Proofs.YtcncbhbdpcpkeaaGreatDoor

/-
  scrubref's guess: its walk.
-/
namespace Go.Proofs.YtcncbhbdpcpkeaaGreatDoor
open Go.RowKit Go.Lib

def guessN (n b0 b1 b2 b3 : Nat) : Nat :=
  if n = 1 then b0 else if n = 2 then b0 % 32 * 64 + b1 % 64 else if n = 3 then (b0 % 16 * 64 + b1 % 64) * 64 + b2 % 64
  else ((b0 % 8 * 64 + b1 % 64) * 64 + b2 % 64) * 64 + b3 % 64

set_option maxHeartbeats 2000000 in
set_option maxRecDepth 100000 in
theorem guess_1 (s : ByteArray) (x0 x1 x2 x3 : UInt8) (hn : 1 ≤ s.size) (h0 : s[0]'(by omega) = x0) (w : World) :
    Calls Tryz.prog 155 #[.string s, .int .i64 1] w fun e w' => e = .returned (.int .i64 (guessN 1 x0.toNat x1.toNat x2.toNat x3.toNat)) ∧ w' = w := by
  have l0 : (x0.toNat : Int) < 256 := by have := x0.toNat_lt; omega
  have l1 : (x1.toNat : Int) < 256 := by have := x1.toNat_lt; omega
  have l2 : (x2.toNat : Int) < 256 := by have := x2.toNat_lt; omega
  have l3 : (x3.toNat : Int) < 256 := by have := x3.toNat_lt; omega
  have i0 : (0 : Int) < (s.size : Int) := by omega
  go_enter Tryz.func155, Tryz.ntmps155
  go_wp2
  refine wp_loop_rounds 1 ?_
  any_goals (rw [rounds_succ]; go_wp2)
  all_goals go_ret
  all_goals refine ⟨ret_int ?_, rfl⟩
  all_goals (simp only [guessN]; simp; done)

set_option maxHeartbeats 2000000 in
set_option maxRecDepth 100000 in
theorem guess_2 (s : ByteArray) (x0 x1 x2 x3 : UInt8) (hn : 2 ≤ s.size) (h0 : s[0]'(by omega) = x0) (h1 : s[1]'(by omega) = x1) (w : World) :
    Calls Tryz.prog 155 #[.string s, .int .i64 2] w fun e w' => e = .returned (.int .i64 (guessN 2 x0.toNat x1.toNat x2.toNat x3.toNat)) ∧ w' = w := by
  have l0 : (x0.toNat : Int) < 256 := by have := x0.toNat_lt; omega
  have l1 : (x1.toNat : Int) < 256 := by have := x1.toNat_lt; omega
  have l2 : (x2.toNat : Int) < 256 := by have := x2.toNat_lt; omega
  have l3 : (x3.toNat : Int) < 256 := by have := x3.toNat_lt; omega
  have i0 : (0 : Int) < (s.size : Int) := by omega
  have i1 : (1 : Int) < (s.size : Int) := by omega
  go_enter Tryz.func155, Tryz.ntmps155
  go_wp2
  refine wp_loop_rounds 2 ?_
  any_goals (rw [rounds_succ]; go_wp2)
  any_goals (rw [rounds_succ]; go_wp2)
  all_goals go_ret
  all_goals refine ⟨ret_int ?_, rfl⟩
  all_goals (simp only [guessN]; simp; done)

set_option maxHeartbeats 2000000 in
set_option maxRecDepth 100000 in
theorem guess_3 (s : ByteArray) (x0 x1 x2 x3 : UInt8) (hn : 3 ≤ s.size) (h0 : s[0]'(by omega) = x0) (h1 : s[1]'(by omega) = x1) (h2 : s[2]'(by omega) = x2) (w : World) :
    Calls Tryz.prog 155 #[.string s, .int .i64 3] w fun e w' => e = .returned (.int .i64 (guessN 3 x0.toNat x1.toNat x2.toNat x3.toNat)) ∧ w' = w := by
  have l0 : (x0.toNat : Int) < 256 := by have := x0.toNat_lt; omega
  have l1 : (x1.toNat : Int) < 256 := by have := x1.toNat_lt; omega
  have l2 : (x2.toNat : Int) < 256 := by have := x2.toNat_lt; omega
  have l3 : (x3.toNat : Int) < 256 := by have := x3.toNat_lt; omega
  have i0 : (0 : Int) < (s.size : Int) := by omega
  have i1 : (1 : Int) < (s.size : Int) := by omega
  have i2 : (2 : Int) < (s.size : Int) := by omega
  go_enter Tryz.func155, Tryz.ntmps155
  go_wp2
  refine wp_loop_rounds 3 ?_
  any_goals (rw [rounds_succ]; go_wp2)
  any_goals (rw [rounds_succ]; go_wp2)
  any_goals (rw [rounds_succ]; go_wp2)
  all_goals go_ret
  all_goals refine ⟨ret_int ?_, rfl⟩
  all_goals (simp only [guessN]; simp; done)

set_option maxHeartbeats 2000000 in
set_option maxRecDepth 100000 in
theorem guess_4 (s : ByteArray) (x0 x1 x2 x3 : UInt8) (hn : 4 ≤ s.size) (h0 : s[0]'(by omega) = x0) (h1 : s[1]'(by omega) = x1) (h2 : s[2]'(by omega) = x2) (h3 : s[3]'(by omega) = x3) (w : World) :
    Calls Tryz.prog 155 #[.string s, .int .i64 4] w fun e w' => e = .returned (.int .i64 (guessN 4 x0.toNat x1.toNat x2.toNat x3.toNat)) ∧ w' = w := by
  have l0 : (x0.toNat : Int) < 256 := by have := x0.toNat_lt; omega
  have l1 : (x1.toNat : Int) < 256 := by have := x1.toNat_lt; omega
  have l2 : (x2.toNat : Int) < 256 := by have := x2.toNat_lt; omega
  have l3 : (x3.toNat : Int) < 256 := by have := x3.toNat_lt; omega
  have i0 : (0 : Int) < (s.size : Int) := by omega
  have i1 : (1 : Int) < (s.size : Int) := by omega
  have i2 : (2 : Int) < (s.size : Int) := by omega
  have i3 : (3 : Int) < (s.size : Int) := by omega
  go_enter Tryz.func155, Tryz.ntmps155
  go_wp2
  refine wp_loop_rounds 4 ?_
  any_goals (rw [rounds_succ]; go_wp2)
  any_goals (rw [rounds_succ]; go_wp2)
  any_goals (rw [rounds_succ]; go_wp2)
  any_goals (rw [rounds_succ]; go_wp2)
  all_goals go_ret
  all_goals refine ⟨ret_int ?_, rfl⟩
  all_goals (simp only [guessN]; simp; done)
end Go.Proofs.YtcncbhbdpcpkeaaGreatDoor
