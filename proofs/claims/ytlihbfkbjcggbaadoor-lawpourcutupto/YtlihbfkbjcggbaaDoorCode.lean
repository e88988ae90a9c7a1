/-
  scrublaw.begun and codeAt: their walks.
-/
import Derived.Test.YtlihbfkbjcggbaaDoorPour
import Derived.Test.YtlihbfkbjcggbaaDoorText
import Derived.LoopN
namespace Go.Proofs.YtlihbfkbjcggbaaDoor
open Go.RowKit Go.Lib

/-- the character at the front of n bytes that begin so, and its length; none: length 0 -/
def codeN (n b0 b1 b2 b3 : Nat) : Nat × Nat :=
  if b0 < 128 then (b0, 1)
  else if b0 < 192 then (0, 0)
  else if b0 < 224 then
    (if 2 ≤ n ∧ (128 ≤ b1 ∧ b1 ≤ 191) ∧ 128 ≤ (b0 - 192) * 64 + (b1 - 128) then ((b0 - 192) * 64 + (b1 - 128), 2) else (0, 0))
  else if b0 < 240 then
    (if 3 ≤ n ∧ (128 ≤ b1 ∧ b1 ≤ 191) ∧ (128 ≤ b2 ∧ b2 ≤ 191) ∧ 2048 ≤ ((b0 - 224) * 64 + (b1 - 128)) * 64 + (b2 - 128)
     then (((b0 - 224) * 64 + (b1 - 128)) * 64 + (b2 - 128), 3) else (0, 0))
  else
    (if 4 ≤ n ∧ (128 ≤ b1 ∧ b1 ≤ 191) ∧ (128 ≤ b2 ∧ b2 ≤ 191) ∧ (128 ≤ b3 ∧ b3 ≤ 191) ∧ 65536 ≤ (((b0 - 240) * 64 + (b1 - 128)) * 64 + (b2 - 128)) * 64 + (b3 - 128) ∧
        (((b0 - 240) * 64 + (b1 - 128)) * 64 + (b2 - 128)) * 64 + (b3 - 128) ≤ 1114111
     then ((((b0 - 240) * 64 + (b1 - 128)) * 64 + (b2 - 128)) * 64 + (b3 - 128), 4) else (0, 0))
def codeL (l : List UInt8) : Nat × Nat := codeN l.length (l.getD 0 0).toNat (l.getD 1 0).toNat (l.getD 2 0).toNat (l.getD 3 0).toNat

theorem ret_two {a b c d : Int} (h1 : a = c) (h2 : b = d) : Ending.returned (.tuple #[.int .i64 a, .int .i64 b]) = .returned (.tuple #[.int .i64 c, .int .i64 d]) := by rw [h1, h2]

theorem begun_any (s : ByteArray) (w : World) (hm : s.size ≤ 9223372036854775807) :
    Calls Tryd.prog 7 #[.string s] w fun e w' => e = .returned (.bool (s.data.toList.head? == some 120)) ∧ w' = w := by
  obtain ⟨b, hb⟩ : ∃ b, (s.data.toList.head? == some 120) = b := ⟨_, rfl⟩
  rw [hb]
  have HB := hid hb
  clear hb
  by_cases h0 : s.size = 0
  · have hz : ¬ ((0 : Int) < (s.size : Int)) := by omega
    go_enter Tryd.func7, Tryd.ntmps7
    go_wp2
    go_ret
    refine ⟨ret_bool ?_, rfl⟩
    rw [← HB.out]
    have : s.data.toList = [] := List.eq_nil_of_length_eq_zero (by rw [← size_eq]; exact h0)
    rw [this]; rfl
  · have hz : (0 : Int) < (s.size : Int) := by omega
    have hs0 : s[0]'(by omega) = s.get! 0 := (Utf8W.get!_of_lt s 0 (by omega)).symm
    generalize hx : s.get! 0 = x at hs0
    go_enter Tryd.func7, Tryd.ntmps7
    go_wp2
    go_ret
    refine ⟨ret_bool ?_, rfl⟩
    rw [← HB.out]
    have e : s.data.toList.head? = some x := by
      rw [← hx, ← getD_get!']
      cases hl : s.data.toList with
      | nil => rw [size_eq, hl] at h0; exact absurd rfl h0
      | cons a r => rfl
    rw [e]
    simp only [Option.some_beq_some]
    rw [Bool.eq_iff_iff, beq_iff_eq, beq_iff_eq, ← UInt8.toNat_inj]
    show _ ↔ x.toNat = 120
    omega

set_option maxHeartbeats 1000000 in
set_option maxRecDepth 100000 in
/-- too few bytes behind the lead byte, or none that leads -/
theorem code_short (s : ByteArray) (i : Nat) (x0 x1 x2 x3 : UInt8) (w : World) (hi : i < s.size) (hm : s.size ≤ 140737488355328) (h0 : s[i]'hi = x0)
    (hx : (128 ≤ (x0.toNat : Int) ∧ (x0.toNat : Int) < 192) ∨ (192 ≤ (x0.toNat : Int) ∧ (x0.toNat : Int) < 224 ∧ (s.size : Int) < i + 2) ∨ (224 ≤ (x0.toNat : Int) ∧ (x0.toNat : Int) < 240 ∧ (s.size : Int) < i + 3) ∨ (240 ≤ (x0.toNat : Int) ∧ (s.size : Int) < i + 4)) :
    Calls Tryd.prog 10 #[.string s, .int .i64 i] w fun e w' => e = .returned (.tuple #[.int .i64 (codeN (s.size - i) x0.toNat x1.toNat x2.toNat x3.toNat).1, .int .i64 (codeN (s.size - i) x0.toNat x1.toNat x2.toNat x3.toNat).2]) ∧ Below w.heap.size w w' := by
  have l0 : (x0.toNat : Int) < 256 := by have := x0.toNat_lt; omega
  have e : codeN (s.size - i) x0.toNat x1.toNat x2.toNat x3.toNat = (0, 0) := by
    unfold codeN
    repeat' split
    all_goals first
      | rfl
      | (exfalso; omega)
  rw [e]
  have hii : (i : Int) < (s.size : Int) := by omega
  rcases hx with hx | hx | hx | hx
  all_goals
    go_enter Tryd.func10, Tryd.ntmps10
    go_wp2
    go_ret2
    exact ⟨rfl, Below.refl _ _⟩

set_option maxHeartbeats 4000000 in
set_option maxRecDepth 100000 in
theorem code_one (s : ByteArray) (i : Nat) (x0 x1 x2 x3 : UInt8) (w : World) (hi : i + 1 ≤ s.size) (hm : s.size ≤ 140737488355328) (h0 : s[i]'(by omega) = x0) 
    (hx : 0 ≤ (x0.toNat : Int)) (hy : (x0.toNat : Int) < 128) :
    Calls Tryd.prog 10 #[.string s, .int .i64 i] w fun e w' => e = .returned (.tuple #[.int .i64 (codeN (s.size - i) x0.toNat x1.toNat x2.toNat x3.toNat).1, .int .i64 (codeN (s.size - i) x0.toNat x1.toNat x2.toNat x3.toNat).2]) ∧ Below w.heap.size w w' := by
  have l0 : (x0.toNat : Int) < 256 := by have := x0.toNat_lt; omega
  have l1 : (x1.toNat : Int) < 256 := by have := x1.toNat_lt; omega
  have l2 : (x2.toNat : Int) < 256 := by have := x2.toNat_lt; omega
  have l3 : (x3.toNat : Int) < 256 := by have := x3.toNat_lt; omega
  obtain ⟨c, hc⟩ : ∃ c, codeN (s.size - i) x0.toNat x1.toNat x2.toNat x3.toNat = c := ⟨_, rfl⟩
  rw [hc]
  have HC := hid hc
  clear hc
  go_enter Tryd.func10, Tryd.ntmps10
  go_wp2
  refine wp_loop_rounds 1 ?_
  any_goals (rw [rounds_succ]; go_wp2)
  all_goals go_ret2
  all_goals refine ⟨ret_two ?_ ?_, by repeat (first | exact Below.refl _ _ | refine Below.alloc ?_ (Nat.le_refl _) _)⟩
  all_goals rw [← HC.out]
  all_goals unfold codeN
  all_goals (repeat' split)
  all_goals first
    | rfl
    | (exfalso; omega)
    | (simp only; omega)

set_option maxHeartbeats 4000000 in
set_option maxRecDepth 100000 in
theorem code_two (s : ByteArray) (i : Nat) (x0 x1 x2 x3 : UInt8) (w : World) (hi : i + 2 ≤ s.size) (hm : s.size ≤ 140737488355328) (h0 : s[i]'(by omega) = x0) (h1 : s[i + 1]'(by omega) = x1)
    (hx : 192 ≤ (x0.toNat : Int)) (hy : (x0.toNat : Int) < 224) :
    Calls Tryd.prog 10 #[.string s, .int .i64 i] w fun e w' => e = .returned (.tuple #[.int .i64 (codeN (s.size - i) x0.toNat x1.toNat x2.toNat x3.toNat).1, .int .i64 (codeN (s.size - i) x0.toNat x1.toNat x2.toNat x3.toNat).2]) ∧ Below w.heap.size w w' := by
  have l0 : (x0.toNat : Int) < 256 := by have := x0.toNat_lt; omega
  have l1 : (x1.toNat : Int) < 256 := by have := x1.toNat_lt; omega
  have l2 : (x2.toNat : Int) < 256 := by have := x2.toNat_lt; omega
  have l3 : (x3.toNat : Int) < 256 := by have := x3.toNat_lt; omega
  obtain ⟨c, hc⟩ : ∃ c, codeN (s.size - i) x0.toNat x1.toNat x2.toNat x3.toNat = c := ⟨_, rfl⟩
  rw [hc]
  have HC := hid hc
  clear hc
  go_enter Tryd.func10, Tryd.ntmps10
  go_wp2
  refine wp_loop_rounds 2 ?_
  any_goals (rw [rounds_succ]; go_wp2)
  any_goals (rw [rounds_succ]; go_wp2)
  all_goals go_ret2
  all_goals refine ⟨ret_two ?_ ?_, by repeat (first | exact Below.refl _ _ | refine Below.alloc ?_ (Nat.le_refl _) _)⟩
  all_goals rw [← HC.out]
  all_goals unfold codeN
  all_goals (repeat' split)
  all_goals first
    | rfl
    | (exfalso; omega)
    | (simp only; omega)

set_option maxHeartbeats 4000000 in
set_option maxRecDepth 100000 in
theorem code_three (s : ByteArray) (i : Nat) (x0 x1 x2 x3 : UInt8) (w : World) (hi : i + 3 ≤ s.size) (hm : s.size ≤ 140737488355328) (h0 : s[i]'(by omega) = x0) (h1 : s[i + 1]'(by omega) = x1) (h2 : s[i + 2]'(by omega) = x2)
    (hx : 224 ≤ (x0.toNat : Int)) (hy : (x0.toNat : Int) < 240) :
    Calls Tryd.prog 10 #[.string s, .int .i64 i] w fun e w' => e = .returned (.tuple #[.int .i64 (codeN (s.size - i) x0.toNat x1.toNat x2.toNat x3.toNat).1, .int .i64 (codeN (s.size - i) x0.toNat x1.toNat x2.toNat x3.toNat).2]) ∧ Below w.heap.size w w' := by
  have l0 : (x0.toNat : Int) < 256 := by have := x0.toNat_lt; omega
  have l1 : (x1.toNat : Int) < 256 := by have := x1.toNat_lt; omega
  have l2 : (x2.toNat : Int) < 256 := by have := x2.toNat_lt; omega
  have l3 : (x3.toNat : Int) < 256 := by have := x3.toNat_lt; omega
  obtain ⟨c, hc⟩ : ∃ c, codeN (s.size - i) x0.toNat x1.toNat x2.toNat x3.toNat = c := ⟨_, rfl⟩
  rw [hc]
  have HC := hid hc
  clear hc
  go_enter Tryd.func10, Tryd.ntmps10
  go_wp2
  refine wp_loop_rounds 3 ?_
  any_goals (rw [rounds_succ]; go_wp2)
  any_goals (rw [rounds_succ]; go_wp2)
  any_goals (rw [rounds_succ]; go_wp2)
  all_goals go_ret2
  all_goals refine ⟨ret_two ?_ ?_, by repeat (first | exact Below.refl _ _ | refine Below.alloc ?_ (Nat.le_refl _) _)⟩
  all_goals rw [← HC.out]
  all_goals unfold codeN
  all_goals (repeat' split)
  all_goals first
    | rfl
    | (exfalso; omega)
    | (simp only; omega)

set_option maxHeartbeats 4000000 in
set_option maxRecDepth 100000 in
theorem code_four (s : ByteArray) (i : Nat) (x0 x1 x2 x3 : UInt8) (w : World) (hi : i + 4 ≤ s.size) (hm : s.size ≤ 140737488355328) (h0 : s[i]'(by omega) = x0) (h1 : s[i + 1]'(by omega) = x1) (h2 : s[i + 2]'(by omega) = x2) (h3 : s[i + 3]'(by omega) = x3)
    (hx : 240 ≤ (x0.toNat : Int)) (hy : (x0.toNat : Int) < 256) :
    Calls Tryd.prog 10 #[.string s, .int .i64 i] w fun e w' => e = .returned (.tuple #[.int .i64 (codeN (s.size - i) x0.toNat x1.toNat x2.toNat x3.toNat).1, .int .i64 (codeN (s.size - i) x0.toNat x1.toNat x2.toNat x3.toNat).2]) ∧ Below w.heap.size w w' := by
  have l0 : (x0.toNat : Int) < 256 := by have := x0.toNat_lt; omega
  have l1 : (x1.toNat : Int) < 256 := by have := x1.toNat_lt; omega
  have l2 : (x2.toNat : Int) < 256 := by have := x2.toNat_lt; omega
  have l3 : (x3.toNat : Int) < 256 := by have := x3.toNat_lt; omega
  obtain ⟨c, hc⟩ : ∃ c, codeN (s.size - i) x0.toNat x1.toNat x2.toNat x3.toNat = c := ⟨_, rfl⟩
  rw [hc]
  have HC := hid hc
  clear hc
  go_enter Tryd.func10, Tryd.ntmps10
  go_wp2
  refine wp_loop_rounds 4 ?_
  any_goals (rw [rounds_succ]; go_wp2)
  any_goals (rw [rounds_succ]; go_wp2)
  any_goals (rw [rounds_succ]; go_wp2)
  any_goals (rw [rounds_succ]; go_wp2)
  all_goals go_ret2
  all_goals refine ⟨ret_two ?_ ?_, by repeat (first | exact Below.refl _ _ | refine Below.alloc ?_ (Nat.le_refl _) _)⟩
  all_goals rw [← HC.out]
  all_goals unfold codeN
  all_goals (repeat' split)
  all_goals first
    | rfl
    | (exfalso; omega)
    | (simp only; omega)

end Go.Proofs.YtlihbfkbjcggbaaDoor
