/-
  scrubref's encode, isCharacter, isGood and guess: their walks.
-/
import Derived.Test.YtboooefaogfapaaDoorGood
import Derived.Test.YtboooefaogfapaaDoorText
import Derived.LoopN
namespace Go.Proofs.YtboooefaogfapaaDoor
open Go.RowKit Go.Lib

def charB (z : Int) : Bool := decide ((0 ≤ z ∧ z < 55296) ∨ (57344 ≤ z ∧ z < 1114112))

set_option maxHeartbeats 1000000 in
theorem isCharacter_any (z : Int) (w : World) :
    Calls Tryd.prog 132 #[.int .i64 z] w fun e w' => e = .returned (.bool (charB z)) ∧ w' = w := by
  go_enter Tryd.func132, Tryd.ntmps132
  go_wp2
  all_goals go_ret
  all_goals refine ⟨ret_bool ?_, rfl⟩
  all_goals (rw [Bool.eq_iff_iff]; simp only [charB, decide_eq_true_iff, Bool.or_eq_true, Bool.false_eq_true, false_iff, true_iff]; omega)

set_option maxHeartbeats 2000000 in
set_option maxRecDepth 100000 in
theorem encode_any (z : Int) (h0 : 0 ≤ z) (h1 : z ≤ 1114111) (h2 : ¬ (55296 ≤ z ∧ z ≤ 57343)) (w : World) :
    Calls Tryd.prog 95 #[.int .i64 z] w fun e w' => e = .returned (.slice (some ⟨w.heap.size, 0, none⟩) (encodeRune z).length (encodeRune z).length) ∧ w' = w.alloc (.cells (byteCells (encodeRune z)).toArray 5) := by
  rw [byteCells_encodeRune, ← runeCells_length]
  unfold runeCells
  by_cases c1 : z < 128
  · rw [encodeRuneZ_one (by omega) (by omega)]
    go_enter Tryd.func95, Tryd.ntmps95
    go_wp2
    go_ret
    refine ⟨rfl, ?_⟩
    have e : ∀ (a b : Array Value), a = b → w.alloc (.cells a 5) = w.alloc (.cells b 5) := fun a b h => by rw [h]
    apply e
    simp
  · by_cases c2 : z < 2048
    · rw [encodeRuneZ_two (by omega) (by omega)]
      go_enter Tryd.func95, Tryd.ntmps95
      go_wp2
      go_ret
      refine ⟨rfl, ?_⟩
      have e : ∀ (a b : Array Value), a = b → w.alloc (.cells a 5) = w.alloc (.cells b 5) := fun a b h => by rw [h]
      apply e
      simp
    · by_cases c3 : z < 65536
      · rw [encodeRuneZ_three (by omega)]
        go_enter Tryd.func95, Tryd.ntmps95
        go_wp2
        go_ret
        refine ⟨rfl, ?_⟩
        have e : ∀ (a b : Array Value), a = b → w.alloc (.cells a 5) = w.alloc (.cells b 5) := fun a b h => by rw [h]
        apply e
        simp
      · rw [encodeRuneZ_four (by omega) (by omega)]
        go_enter Tryd.func95, Tryd.ntmps95
        go_wp2
        go_ret
        refine ⟨rfl, ?_⟩
        have e : ∀ (a b : Array Value), a = b → w.alloc (.cells a 5) = w.alloc (.cells b 5) := fun a b h => by rw [h]
        apply e
        simp

set_option maxHeartbeats 2000000 in
theorem refGood_any (z : Int) (h0 : 0 ≤ z) (h1 : z ≤ 1114111) (w : World) :
    Calls Tryd.prog 94 #[.int .i64 z] w fun e w' => e = .returned (.bool (goodB z)) ∧ w' = w := by
  by_cases hc : charB z = true
  · have hc' : (0 ≤ z ∧ z < 55296) ∨ (57344 ≤ z ∧ z < 1114112) := by unfold charB at hc; rw [decide_eq_true_iff] at hc; exact hc
    go_enter Tryd.func94, Tryd.ntmps94
    go_wp2_with (go_at_call 132; refine (isCharacter_any z _).mono ?_; rintro e w' ⟨rfl, rfl⟩)
    all_goals go_ret
    all_goals refine ⟨ret_bool ?_, rfl⟩
    all_goals rw [Bool.eq_iff_iff]
    all_goals (try simp only [bne_iff_ne, bne_eq_false_iff_eq, ne_eq] at *)
    all_goals (simp only [goodB, decide_eq_true_iff, Bool.and_eq_true, bne_iff_ne, Bool.false_eq_true, false_iff, true_iff]; omega)
  · have hc2 : charB z = false := by simpa using hc
    have hc' : 55296 ≤ z ∧ z ≤ 57343 := by unfold charB at hc2; rw [decide_eq_false_iff_not] at hc2; omega
    have hg : goodB z = false := by unfold goodB; rw [decide_eq_false_iff_not]; omega
    rw [hg]
    clear hc hg
    go_enter Tryd.func94, Tryd.ntmps94
    go_wp2_with (go_at_call 132; refine (isCharacter_any z _).mono ?_; rintro e w' ⟨rfl, rfl⟩)
    go_ret
    exact ⟨rfl, rfl⟩

theorem ret_int {a b : Int} (h : a = b) : Ending.returned (.int .i64 a) = .returned (.int .i64 b) := by rw [h]
def guessN (n b0 b1 b2 b3 : Nat) : Nat :=
  if n = 1 then b0 else if n = 2 then b0 % 32 * 64 + b1 % 64 else if n = 3 then (b0 % 16 * 64 + b1 % 64) * 64 + b2 % 64
  else ((b0 % 8 * 64 + b1 % 64) * 64 + b2 % 64) * 64 + b3 % 64

set_option maxHeartbeats 2000000 in
set_option maxRecDepth 100000 in
theorem guess_1 (s : ByteArray) (x0 x1 x2 x3 : UInt8) (hn : 1 ≤ s.size) (h0 : s[0]'(by omega) = x0) (w : World) :
    Calls Tryd.prog 131 #[.string s, .int .i64 1] w fun e w' => e = .returned (.int .i64 (guessN 1 x0.toNat x1.toNat x2.toNat x3.toNat)) ∧ w' = w := by
  have l0 : (x0.toNat : Int) < 256 := by have := x0.toNat_lt; omega
  have l1 : (x1.toNat : Int) < 256 := by have := x1.toNat_lt; omega
  have l2 : (x2.toNat : Int) < 256 := by have := x2.toNat_lt; omega
  have l3 : (x3.toNat : Int) < 256 := by have := x3.toNat_lt; omega
  have i0 : (0 : Int) < (s.size : Int) := by omega
  go_enter Tryd.func131, Tryd.ntmps131
  go_wp2
  refine wp_loop_rounds 1 ?_
  any_goals (rw [rounds_succ]; go_wp2)
  all_goals go_ret
  all_goals refine ⟨ret_int ?_, rfl⟩
  all_goals (simp only [guessN]; simp; done)

set_option maxHeartbeats 2000000 in
set_option maxRecDepth 100000 in
theorem guess_2 (s : ByteArray) (x0 x1 x2 x3 : UInt8) (hn : 2 ≤ s.size) (h0 : s[0]'(by omega) = x0) (h1 : s[1]'(by omega) = x1) (w : World) :
    Calls Tryd.prog 131 #[.string s, .int .i64 2] w fun e w' => e = .returned (.int .i64 (guessN 2 x0.toNat x1.toNat x2.toNat x3.toNat)) ∧ w' = w := by
  have l0 : (x0.toNat : Int) < 256 := by have := x0.toNat_lt; omega
  have l1 : (x1.toNat : Int) < 256 := by have := x1.toNat_lt; omega
  have l2 : (x2.toNat : Int) < 256 := by have := x2.toNat_lt; omega
  have l3 : (x3.toNat : Int) < 256 := by have := x3.toNat_lt; omega
  have i0 : (0 : Int) < (s.size : Int) := by omega
  have i1 : (1 : Int) < (s.size : Int) := by omega
  go_enter Tryd.func131, Tryd.ntmps131
  go_wp2
  refine wp_loop_rounds 2 ?_
  any_goals (rw [rounds_succ]; go_wp2)
  any_goals (rw [rounds_succ]; go_wp2)
  all_goals go_ret
  all_goals refine ⟨ret_int ?_, rfl⟩
  all_goals (simp only [guessN]; simp; done)

set_option maxHeartbeats 2000000 in
set_option maxRecDepth 100000 in
theorem guess_3 (s : ByteArray) (x0 x1 x2 x3 : UInt8) (hn : 3 ≤ s.size) (h0 : s[0]'(by omega) = x0) (h1 : s[1]'(by omega) = x1) (h2 : s[2]'(by omega) = x2) (w : World) :
    Calls Tryd.prog 131 #[.string s, .int .i64 3] w fun e w' => e = .returned (.int .i64 (guessN 3 x0.toNat x1.toNat x2.toNat x3.toNat)) ∧ w' = w := by
  have l0 : (x0.toNat : Int) < 256 := by have := x0.toNat_lt; omega
  have l1 : (x1.toNat : Int) < 256 := by have := x1.toNat_lt; omega
  have l2 : (x2.toNat : Int) < 256 := by have := x2.toNat_lt; omega
  have l3 : (x3.toNat : Int) < 256 := by have := x3.toNat_lt; omega
  have i0 : (0 : Int) < (s.size : Int) := by omega
  have i1 : (1 : Int) < (s.size : Int) := by omega
  have i2 : (2 : Int) < (s.size : Int) := by omega
  go_enter Tryd.func131, Tryd.ntmps131
  go_wp2
  refine wp_loop_rounds 3 ?_
  any_goals (rw [rounds_succ]; go_wp2)
  any_goals (rw [rounds_succ]; go_wp2)
  any_goals (rw [rounds_succ]; go_wp2)
  all_goals go_ret
  all_goals refine ⟨ret_int ?_, rfl⟩
  all_goals (simp only [guessN]; simp; done)

set_option maxHeartbeats 2000000 in
set_option maxRecDepth 100000 in
theorem guess_4 (s : ByteArray) (x0 x1 x2 x3 : UInt8) (hn : 4 ≤ s.size) (h0 : s[0]'(by omega) = x0) (h1 : s[1]'(by omega) = x1) (h2 : s[2]'(by omega) = x2) (h3 : s[3]'(by omega) = x3) (w : World) :
    Calls Tryd.prog 131 #[.string s, .int .i64 4] w fun e w' => e = .returned (.int .i64 (guessN 4 x0.toNat x1.toNat x2.toNat x3.toNat)) ∧ w' = w := by
  have l0 : (x0.toNat : Int) < 256 := by have := x0.toNat_lt; omega
  have l1 : (x1.toNat : Int) < 256 := by have := x1.toNat_lt; omega
  have l2 : (x2.toNat : Int) < 256 := by have := x2.toNat_lt; omega
  have l3 : (x3.toNat : Int) < 256 := by have := x3.toNat_lt; omega
  have i0 : (0 : Int) < (s.size : Int) := by omega
  have i1 : (1 : Int) < (s.size : Int) := by omega
  have i2 : (2 : Int) < (s.size : Int) := by omega
  have i3 : (3 : Int) < (s.size : Int) := by omega
  go_enter Tryd.func131, Tryd.ntmps131
  go_wp2
  refine wp_loop_rounds 4 ?_
  any_goals (rw [rounds_succ]; go_wp2)
  any_goals (rw [rounds_succ]; go_wp2)
  any_goals (rw [rounds_succ]; go_wp2)
  any_goals (rw [rounds_succ]; go_wp2)
  all_goals go_ret
  all_goals refine ⟨ret_int ?_, rfl⟩
  all_goals (simp only [guessN]; simp; done)
end Go.Proofs.YtboooefaogfapaaDoor
