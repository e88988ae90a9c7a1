/-
  Parts of the walk, joined: Enc.
-/
import Derived.LoopN
import Derived.Test.YtcncbhbdpcpkeaaGreatDoorPJAA
/-
  scrubref's encode, isCharacter, isGood: their walks.
-/
namespace Go.Proofs.YtcncbhbdpcpkeaaGreatDoor
open Go.RowKit Go.Lib

def charB (z : Int) : Bool := decide ((0 ≤ z ∧ z < 55296) ∨ (57344 ≤ z ∧ z < 1114112))

set_option maxHeartbeats 1000000 in
theorem isCharacter_any (z : Int) (w : World) :
    Calls Tryz.prog 156 #[.int .i64 z] w fun e w' => e = .returned (.bool (charB z)) ∧ w' = w := by
  go_enter Tryz.func156, Tryz.ntmps156
  go_wp2
  all_goals go_ret
  all_goals refine ⟨ret_bool ?_, rfl⟩
  all_goals (rw [Bool.eq_iff_iff]; simp only [charB, decide_eq_true_iff, Bool.or_eq_true, Bool.false_eq_true, false_iff, true_iff]; omega)

set_option maxHeartbeats 2000000 in
set_option maxRecDepth 100000 in
theorem encode_any (z : Int) (h0 : 0 ≤ z) (h1 : z ≤ 1114111) (h2 : ¬ (55296 ≤ z ∧ z ≤ 57343)) (w : World) :
    Calls Tryz.prog 157 #[.int .i64 z] w fun e w' => e = .returned (.slice (some ⟨w.heap.size, 0, none⟩) (encodeRune z).length (encodeRune z).length) ∧ w' = w.alloc (.cells (byteCells (encodeRune z)).toArray 5) := by
  rw [byteCells_encodeRune, ← runeCells_length]
  unfold runeCells
  by_cases c1 : z < 128
  · rw [encodeRuneZ_one (by omega) (by omega)]
    go_enter Tryz.func157, Tryz.ntmps157
    go_wp2
    go_ret
    refine ⟨rfl, ?_⟩
    have e : ∀ (a b : Array Value), a = b → w.alloc (.cells a 5) = w.alloc (.cells b 5) := fun a b h => by rw [h]
    apply e
    simp
  · by_cases c2 : z < 2048
    · rw [encodeRuneZ_two (by omega) (by omega)]
      go_enter Tryz.func157, Tryz.ntmps157
      go_wp2
      go_ret
      refine ⟨rfl, ?_⟩
      have e : ∀ (a b : Array Value), a = b → w.alloc (.cells a 5) = w.alloc (.cells b 5) := fun a b h => by rw [h]
      apply e
      simp
    · by_cases c3 : z < 65536
      · rw [encodeRuneZ_three (by omega)]
        go_enter Tryz.func157, Tryz.ntmps157
        go_wp2
        go_ret
        refine ⟨rfl, ?_⟩
        have e : ∀ (a b : Array Value), a = b → w.alloc (.cells a 5) = w.alloc (.cells b 5) := fun a b h => by rw [h]
        apply e
        simp
      · rw [encodeRuneZ_four (by omega) (by omega)]
        go_enter Tryz.func157, Tryz.ntmps157
        go_wp2
        go_ret
        refine ⟨rfl, ?_⟩
        have e : ∀ (a b : Array Value), a = b → w.alloc (.cells a 5) = w.alloc (.cells b 5) := fun a b h => by rw [h]
        apply e
        simp

set_option maxHeartbeats 2000000 in
theorem refGood_all (z : Int) (h0 : 0 ≤ z) (w : World) :
    Calls Tryz.prog 88 #[.int .i64 z] w fun e w' => e = .returned (.bool (goodB z)) ∧ w' = w := by
  by_cases hc : charB z = true
  · have hc' : (0 ≤ z ∧ z < 55296) ∨ (57344 ≤ z ∧ z < 1114112) := by unfold charB at hc; rw [decide_eq_true_iff] at hc; exact hc
    go_enter Tryz.func88, Tryz.ntmps88
    go_wp2_with (go_at_call 156; refine (isCharacter_any z _).mono ?_; rintro e w' ⟨rfl, rfl⟩)
    all_goals go_ret
    all_goals refine ⟨ret_bool ?_, rfl⟩
    all_goals rw [Bool.eq_iff_iff]
    all_goals (try simp only [bne_iff_ne, bne_eq_false_iff_eq, ne_eq] at *)
    all_goals (simp only [goodB, decide_eq_true_iff, Bool.and_eq_true, bne_iff_ne, Bool.false_eq_true, false_iff, true_iff]; omega)
  · have hc2 : charB z = false := by simpa using hc
    have hc' : 55296 ≤ z ∧ z ≤ 57343 ∨ 1114112 ≤ z := by unfold charB at hc2; rw [decide_eq_false_iff_not] at hc2; omega
    have hg : goodB z = false := by unfold goodB; rw [decide_eq_false_iff_not]; omega
    rw [hg]
    clear hc hg
    go_enter Tryz.func88, Tryz.ntmps88
    go_wp2_with (go_at_call 156; refine (isCharacter_any z _).mono ?_; rintro e w' ⟨rfl, rfl⟩)
    go_ret
    exact ⟨rfl, rfl⟩
theorem ret_int {a b : Int} (h : a = b) : Ending.returned (.int .i64 a) = .returned (.int .i64 b) := by rw [h]
end Go.Proofs.YtcncbhbdpcpkeaaGreatDoor
