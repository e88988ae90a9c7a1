/-
  Parts of the walk, joined: Good, Byte, Enc, Hidden, Set, NumR.
-/
import Derived.Test.YtcncbhbdpcpkeaaGreatDoorProg
import Derived.WalkKit
import Derived.WalkLawsBesides
import Derived.WalkSpells
import Derived.Laws.BitsLemmas
import Derived.LoopN
import Derived.Test.YtcncbhbdpcpkeaaGreatDoorShelf
import Derived.Lib.IndexBytes
import Derived.Deep.QuietTactic
import Derived.BigQuiet
import Derived.BigCall
import Derived.Deep.MidRow
import Derived.Deep.Cut
import Derived.Great.Walk
import Derived.Great.BuildSlice
import Derived.Test.YtcncbhbdpcpkeaaGreatDoorPJAA
/-
  Whether a character is good: what chars.isGood answers, as a plain function, and its walk.
-/
namespace Go.Proofs.YtcncbhbdpcpkeaaGreatDoor
open Go.RowKit

theorem and65534 (a : Nat) : a &&& 65534 = 2 * (a / 2 % 32768) := by
  have h1 : (a &&& 65534) / 2 = a / 2 % 32768 := by
    rw [Nat.and_div_two]
    exact Nat.and_two_pow_sub_one_eq_mod (a / 2) 15
  have h2 : (a &&& 65534) % 2 = 0 := by
    have := @Nat.and_mod_two_pow a 65534 1
    simpa using this
  omega
theorem last_two (c : Int) (h0 : 0 ≤ c) (h1 : c ≤ 1114111) : (bits BinOp.and IntKind.i32 c 65534 != 65534) = decide (c % 65536 < 65534) := by
  obtain ⟨a, rfl⟩ := Int.eq_ofNat_of_zero_le h0
  have e : bits BinOp.and IntKind.i32 (a : Int) 65534 = ((a &&& 65534 : Nat) : Int) :=
    (bits_nat .i32 31 (by decide) wraps_i32 a 65534 (by omega) (by decide)).1
  rw [e, and65534]
  by_cases h : (a : Int) % 65536 < 65534
  · have : ¬ (((2 * (a / 2 % 32768) : Nat) : Int) = 65534) := by omega
    simp [h]; omega
  · have : (((2 * (a / 2 % 32768) : Nat) : Int) = 65534) := by omega
    simp [h, this]

set_option maxHeartbeats 400000 in
theorem good_any (c : Int) (h0 : 0 ≤ c) (h1 : c ≤ 1114112) (w : World) :
    Calls Tryz.prog 261 #[.int .i32 c] w fun e w' => e = .returned (.bool (goodB c)) ∧ w' = w := by
  go_enter Tryz.func261, Tryz.ntmps261
  go_wp2
  all_goals go_ret
  all_goals refine ⟨ret_bool ?_, rfl⟩
  all_goals first
    | (rw [last_two c (by omega) (by omega)]; unfold goodB; rw [decide_eq_decide]; omega)
    | (rw [Bool.eq_iff_iff]; simp only [goodB, decide_eq_true_iff, Bool.or_eq_true, beq_iff_eq, Bool.false_eq_true, false_iff, true_iff]; omega)
end Go.Proofs.YtcncbhbdpcpkeaaGreatDoor

/-
  Single bytes: scrub/ascii's functions, scrubref's, and what a digit counts: their walks.
-/
namespace Go.Proofs.YtcncbhbdpcpkeaaGreatDoor
open Go.RowKit Go.Lib

theorem ret_u8 {a b : Int} (h : a = b) : Ending.returned (.int .u8 a) = .returned (.int .u8 b) := by rw [h]
def lowZ (z : Int) : Int := if 65 ≤ z ∧ z ≤ 90 then z + 32 else z
def isDigZ (z : Int) : Bool := decide (48 ≤ z ∧ z ≤ 57)
theorem low_any (z : Int) (h0 : 0 ≤ z) (h1 : z ≤ 255) (w : World) :
    Calls Tryz.prog 295 #[.int .u8 z] w fun e w' => e = .returned (.int .u8 (lowZ z)) ∧ w' = w := by
  go_enter Tryz.func295, Tryz.ntmps295
  go_wp2
  all_goals go_ret
  all_goals refine ⟨ret_u8 ?_, rfl⟩
  all_goals (unfold lowZ; split <;> omega)
theorem dig_any (z : Int) (_h0 : 0 ≤ z) (_h1 : z ≤ 255) (w : World) :
    Calls Tryz.prog 189 #[.int .u8 z] w fun e w' => e = .returned (.bool (isDigZ z)) ∧ w' = w := by
  go_enter Tryz.func189, Tryz.ntmps189
  go_wp2
  all_goals go_ret
  all_goals refine ⟨ret_bool ?_, rfl⟩
  all_goals (rw [Bool.eq_iff_iff]; simp [isDigZ]; omega)
end Go.Proofs.YtcncbhbdpcpkeaaGreatDoor

/-
  scrubref's encode, isCharacter, isGood: their walks.
-/
namespace Go.Proofs.YtcncbhbdpcpkeaaGreatDoor
open Go.RowKit Go.Lib

def charB (z : Int) : Bool := decide ((0 ≤ z ∧ z < 55296) ∨ (57344 ≤ z ∧ z < 1114112))

set_option maxHeartbeats 1000000 in
theorem isCharacter_any (z : Int) (w : World) :
    Calls Tryz.prog 156 #[.int .i64 z] w fun e w' => e = .returned (.bool (charB z)) ∧ w' = w := by
  go_enter Tryz.func156, Tryz.ntmps156
  go_wp2
  all_goals go_ret
  all_goals refine ⟨ret_bool ?_, rfl⟩
  all_goals (rw [Bool.eq_iff_iff]; simp only [charB, decide_eq_true_iff, Bool.or_eq_true, Bool.false_eq_true, false_iff, true_iff]; omega)

set_option maxHeartbeats 2000000 in
set_option maxRecDepth 100000 in
theorem encode_any (z : Int) (h0 : 0 ≤ z) (h1 : z ≤ 1114111) (h2 : ¬ (55296 ≤ z ∧ z ≤ 57343)) (w : World) :
    Calls Tryz.prog 157 #[.int .i64 z] w fun e w' => e = .returned (.slice (some ⟨w.heap.size, 0, none⟩) (encodeRune z).length (encodeRune z).length) ∧ w' = w.alloc (.cells (byteCells (encodeRune z)).toArray 5) := by
  rw [byteCells_encodeRune, ← runeCells_length]
  unfold runeCells
  by_cases c1 : z < 128
  · rw [encodeRuneZ_one (by omega) (by omega)]
    go_enter Tryz.func157, Tryz.ntmps157
    go_wp2
    go_ret
    refine ⟨rfl, ?_⟩
    have e : ∀ (a b : Array Value), a = b → w.alloc (.cells a 5) = w.alloc (.cells b 5) := fun a b h => by rw [h]
    apply e
    simp
  · by_cases c2 : z < 2048
    · rw [encodeRuneZ_two (by omega) (by omega)]
      go_enter Tryz.func157, Tryz.ntmps157
      go_wp2
      go_ret
      refine ⟨rfl, ?_⟩
      have e : ∀ (a b : Array Value), a = b → w.alloc (.cells a 5) = w.alloc (.cells b 5) := fun a b h => by rw [h]
      apply e
      simp
    · by_cases c3 : z < 65536
      · rw [encodeRuneZ_three (by omega)]
        go_enter Tryz.func157, Tryz.ntmps157
        go_wp2
        go_ret
        refine ⟨rfl, ?_⟩
        have e : ∀ (a b : Array Value), a = b → w.alloc (.cells a 5) = w.alloc (.cells b 5) := fun a b h => by rw [h]
        apply e
        simp
      · rw [encodeRuneZ_four (by omega) (by omega)]
        go_enter Tryz.func157, Tryz.ntmps157
        go_wp2
        go_ret
        refine ⟨rfl, ?_⟩
        have e : ∀ (a b : Array Value), a = b → w.alloc (.cells a 5) = w.alloc (.cells b 5) := fun a b h => by rw [h]
        apply e
        simp

set_option maxHeartbeats 2000000 in
theorem refGood_all (z : Int) (h0 : 0 ≤ z) (w : World) :
    Calls Tryz.prog 88 #[.int .i64 z] w fun e w' => e = .returned (.bool (goodB z)) ∧ w' = w := by
  by_cases hc : charB z = true
  · have hc' : (0 ≤ z ∧ z < 55296) ∨ (57344 ≤ z ∧ z < 1114112) := by unfold charB at hc; rw [decide_eq_true_iff] at hc; exact hc
    go_enter Tryz.func88, Tryz.ntmps88
    go_wp2_with (go_at_call 156; refine (isCharacter_any z _).mono ?_; rintro e w' ⟨rfl, rfl⟩)
    all_goals go_ret
    all_goals refine ⟨ret_bool ?_, rfl⟩
    all_goals rw [Bool.eq_iff_iff]
    all_goals (try simp only [bne_iff_ne, bne_eq_false_iff_eq, ne_eq] at *)
    all_goals (simp only [goodB, decide_eq_true_iff, Bool.and_eq_true, bne_iff_ne, Bool.false_eq_true, false_iff, true_iff]; omega)
  · have hc2 : charB z = false := by simpa using hc
    have hc' : 55296 ≤ z ∧ z ≤ 57343 ∨ 1114112 ≤ z := by unfold charB at hc2; rw [decide_eq_false_iff_not] at hc2; omega
    have hg : goodB z = false := by unfold goodB; rw [decide_eq_false_iff_not]; omega
    rw [hg]
    clear hc hg
    go_enter Tryz.func88, Tryz.ntmps88
    go_wp2_with (go_at_call 156; refine (isCharacter_any z _).mono ?_; rintro e w' ⟨rfl, rfl⟩)
    go_ret
    exact ⟨rfl, rfl⟩
theorem ret_int {a b : Int} (h : a = b) : Ending.returned (.int .i64 a) = .returned (.int .i64 b) := by rw [h]
end Go.Proofs.YtcncbhbdpcpkeaaGreatDoor

/-
  strings.Clone: its walk; facts that are kept out of sight.
-/
namespace Go.Proofs.YtcncbhbdpcpkeaaGreatDoor
open Go.RowKit Go.Lib

theorem builder_below {T e : TypeId} {B b : Nat} {bs : List Value} {W W' : World} (h : IsBuilderF T e B b bs W) (hb : Below W.heap.size W W') : IsBuilderF T e B b bs W' := by
  have one : ∀ p, BuilderAtF T e B b p bs W → BuilderAtF T e B b p bs W' := fun p x => by
    have hlt := x.lt
    obtain ⟨h1, v, h2, h3, h4⟩ := x
    refine ⟨h1, v, (hb.block b hlt).trans h2, ?_, h4⟩
    exact h3.kept (row := none) ⟨hb.os, hb.tape, hb.output, hb.size, fun k hk _ => hb.block k hk⟩ (by cases v.ownBlock <;> simp)
  rcases h with h | h
  · exact Or.inl (one _ h)
  · exact Or.inr (one _ h)
end Go.Proofs.YtcncbhbdpcpkeaaGreatDoor

/-
  scrubref's among, past and begins: their walks.
-/
namespace Go.Proofs.YtcncbhbdpcpkeaaGreatDoor
open Go.RowKit Go.Lib

set_option maxHeartbeats 1000000 in
theorem among_any (c : UInt8) (set : ByteArray) (w : World) (hs : set.size ≤ 1000000) :
    Calls Tryz.prog 173 #[.int .u8 c.toNat, .string set] w fun e w' => e = .returned (.bool (set.data.toList.contains c)) ∧ w' = w := by
  obtain ⟨r, hr⟩ : ∃ r, set.data.toList.contains c = r := ⟨_, rfl⟩
  rw [hr]
  have HR := hid hr
  clear hr
  go_enter Tryz.func173, Tryz.ntmps173
  go_wp2
  go_loopw [5] (fun iv wr => ∃ k : Nat, iv = .int .i64 k ∧ k ≤ set.size ∧ wr = w ∧ Hid ((set.data.toList.drop k).contains c = r)) (fun iv _ => set.size - (RowKit.intOf iv).toNat)
  case atStart => exact ⟨0, rfl, Nat.zero_le _, rfl, HR.out⟩
  case round =>
    obtain ⟨k, rfl, hk, rfl, HA⟩ := hrel
    by_cases hp : k < set.size
    · obtain ⟨x, hx⟩ : ∃ x, set[k]'hp = x := ⟨_, rfl⟩
      have hl := getElem_list hp hx
      obtain ⟨h1, h2⟩ := List.getElem?_eq_some_iff.1 hl
      have hd := List.drop_eq_getElem_cons h1
      rw [h2] at hd
      have hcon : (set.data.toList.drop k).contains c = (c == x || (set.data.toList.drop (k + 1)).contains c) := by rw [hd, List.contains_cons]
      clear hl h1 h2 hd
      by_cases hc : c = x
      · subst hc
        have HB : Hid (true = r) := by rw [← HA.out, hcon]; simp [Hid]
        clear hcon HA
        go_wp2
        go_ret
        exact ⟨ret_bool HB.out, rfl⟩
      · have q : ((x.toNat : Int) == (c.toNat : Int)) = false := beq_eq_false_iff_ne.2 (fun h => hc (UInt8.toNat_inj.1 (by omega)))
        have HB : Hid ((set.data.toList.drop (k + 1)).contains c = r) := by
          have e : (c == x) = false := beq_eq_false_iff_ne.2 hc
          have := HA.out
          rw [hcon, e, Bool.false_or] at this
          exact this
        clear hcon HA
        go_wp2
        go_roundw
        case rel => exact ⟨k + 1, rfl, by omega, by first | rfl | trivial, HB⟩
        case measure => simp [RowKit.intOf]; omega
    · have HB : Hid (false = r) := by
        rw [← HA.out, List.drop_of_length_le (by rw [← size_eq]; omega)]
        rfl
      clear HA
      go_wp2
      go_ret
      exact ⟨ret_bool HB.out, rfl⟩

set_option maxHeartbeats 1000000 in
theorem past_any (s : ByteArray) (i : Nat) (set : ByteArray) (w : World) (hi : i ≤ s.size) (hs : s.size ≤ 140737488355328) (ht : set.size ≤ 1000000) :
    Calls Tryz.prog 175 #[.string s, .int .i64 i, .string set] w fun e w' => e = .returned (.int .i64 ((i + ((s.data.toList.drop i).takeWhile set.data.toList.contains).length : Nat) : Int)) ∧ w' = w := by
  obtain ⟨r, hr⟩ : ∃ r, i + ((s.data.toList.drop i).takeWhile set.data.toList.contains).length = r := ⟨_, rfl⟩
  rw [hr]
  have HR := hid hr
  clear hr
  go_enter Tryz.func175, Tryz.ntmps175
  go_wp2
  go_loopw [1] (fun iv wr => ∃ k : Nat, iv = .int .i64 k ∧ k ≤ s.size ∧ wr = w ∧ Hid (k + ((s.data.toList.drop k).takeWhile set.data.toList.contains).length = r)) (fun iv _ => s.size - (RowKit.intOf iv).toNat)
  case atStart => exact ⟨i, rfl, hi, rfl, HR.out⟩
  case round =>
    obtain ⟨k, rfl, hk, rfl, HA⟩ := hrel
    by_cases hp : k < s.size
    · obtain ⟨x, hx⟩ : ∃ x, s[k]'hp = x := ⟨_, rfl⟩
      have hl := getElem_list hp hx
      have hc := fun W => among_any x set W ht
      obtain ⟨b, hb⟩ : ∃ b, set.data.toList.contains x = b := ⟨_, rfl⟩
      rw [hb] at hc
      have HC := hid hc
      cases b
      · have HB : Hid (k = r) := by
          have := HA.out
          rw [while_stop (fun c hc => by rw [hl] at hc; cases hc; exact hb)] at this
          simpa [Hid] using this
        clear hl hb hc HA
        go_wp2_with (go_at_call 173; refine (HC.out _).mono ?_; rintro e w' ⟨rfl, rfl⟩)
        go_ret
        exact ⟨ret_i64 (by have := HB.out; omega), rfl⟩
      · have HB : Hid (k + 1 + ((s.data.toList.drop (k + 1)).takeWhile set.data.toList.contains).length = r) := by
          have := HA.out
          rw [while_step hl hb, List.length_cons] at this
          exact hid (by omega)
        clear hl hb hc HA
        go_wp2_with (go_at_call 173; refine (HC.out _).mono ?_; rintro e w' ⟨rfl, rfl⟩)
        go_roundw
        case rel => exact ⟨k + 1, rfl, by omega, by first | rfl | trivial, HB⟩
        case measure => simp [RowKit.intOf]; omega
    · have HB : Hid (k = r) := by
        have := HA.out
        rw [List.drop_of_length_le (by rw [← size_eq]; omega)] at this
        simpa [Hid] using this
      clear HA
      go_wp2
      go_ret
      exact ⟨ret_i64 (by have := HB.out; omega), rfl⟩

end Go.Proofs.YtcncbhbdpcpkeaaGreatDoor

/-
  scrubref.number: its walk.
-/
namespace Go.Proofs.YtcncbhbdpcpkeaaGreatDoor
open Go.RowKit Go.Lib

theorem u8_all {p : UInt8 → Bool} (h : ∀ n : Fin 256, p (UInt8.ofNat n.val) = true) (c : UInt8) : p c = true := by
  have := h ⟨c.toNat, c.toNat_lt⟩
  simpa using this
end Go.Proofs.YtcncbhbdpcpkeaaGreatDoor
