/-
  The lexer's names: rawName, modeInside, eatsNewline: their walks.
-/
import Derived.Test.YtndglhflbenloaaGreatDoorLexByte
import Derived.Test.YtndglhflbenloaaGreatDoorReferred
namespace Go.Proofs.YtndglhflbenloaaGreatDoor
open Go.RowKit Go.Lib

theorem raw_any (m : Nat) (h1 : 1 ≤ m) (h2 : m ≤ 10) (w : World) :
    Calls Tryz.prog 67 #[.int .i64 m] w fun e w' => e = .returned (.string ⟨(rawL m).toArray⟩) ∧ w' = w := by
  rcases (show m = 1 ∨ m = 2 ∨ m = 3 ∨ m = 4 ∨ m = 5 ∨ m = 6 ∨ m = 7 ∨ m = 8 ∨ m = 9 ∨ m = 10 by omega) with rfl | rfl | rfl | rfl | rfl | rfl | rfl | rfl | rfl | rfl
  all_goals
    go_enter Tryz.func67, Tryz.ntmps67
    go_wp2
    go_ret
    exact ⟨rfl, rfl⟩
theorem ins_step {name : List UInt8} {k r : Nat} {x : List UInt8} (hx : rawNames[k]? = some x) (hn : name ≠ x) (h : insF name (k + 1) (rawNames.drop k) = r) : insF name (k + 2) (rawNames.drop (k + 1)) = r := by
  obtain ⟨h1, h2⟩ := List.getElem?_eq_some_iff.1 hx
  rw [List.drop_eq_getElem_cons h1, h2, insF, if_neg hn] at h
  exact h
theorem ins_hit {name : List UInt8} {k r : Nat} {x : List UInt8} (hx : rawNames[k]? = some x) (hn : name = x) (h : insF name (k + 1) (rawNames.drop k) = r) : k + 1 = r := by
  obtain ⟨h1, h2⟩ := List.getElem?_eq_some_iff.1 hx
  rw [List.drop_eq_getElem_cons h1, h2, insF, if_pos hn] at h
  exact h
theorem str_beq (s : ByteArray) (L : List UInt8) : (s.toList == (⟨L.toArray⟩ : ByteArray).toList) = decide (s.data.toList = L) := by
  rw [Lib.toList_data, Lib.toList_data, Bool.eq_iff_iff, beq_iff_eq, decide_eq_true_eq]
set_option maxHeartbeats 1000000 in
theorem inside_any (s : ByteArray) (w : World) :
    Calls Tryz.prog 107 #[.string s] w fun e w' => e = .returned (.int .i64 (insideL s.data.toList : Int)) ∧ w' = w := by
  obtain ⟨r, hr⟩ : ∃ r, insideL s.data.toList = r := ⟨_, rfl⟩
  rw [hr]
  have HR := hid (fun (_ : True) => hr)
  clear hr
  go_enter Tryz.func107, Tryz.ntmps107
  go_wp2
  go_loopw [3] (fun mv wr => ∃ k : Nat, mv = .int .i64 ((k : Int) + 1) ∧ k ≤ 10 ∧ wr = w ∧ Hid (True → insF s.data.toList (k + 1) (rawNames.drop k) = r)) (fun mv _ => 11 - (RowKit.intOf mv).toNat)
  case atStart => exact ⟨0, rfl, by omega, rfl, HR.out⟩
  case round =>
    obtain ⟨k, rfl, hk, rfl, HA⟩ := hrel
    by_cases hp : k < 10
    · have hx : rawNames[k]? = some (rawL (k + 1)) := by
        have h1 : k < rawNames.length := hp
        unfold rawL
        rw [Nat.add_sub_cancel, List.getD_eq_getElem?_getD, List.getElem?_eq_getElem h1]
        rfl
      have hc := fun W => raw_any (k + 1) (by omega) (by omega) W
      rw [show (((k + 1 : Nat) : Int)) = (k : Int) + 1 from rfl] at hc
      generalize rawL (k + 1) = L at hx hc
      have hq := str_beq s L
      obtain ⟨t, ht⟩ : ∃ t : ByteArray, (⟨L.toArray⟩ : ByteArray) = t := ⟨_, rfl⟩
      rw [ht] at hc hq
      have HC := hid hc
      by_cases hn : s.data.toList = L
      · have hk1 := ins_hit hx hn (HA.out trivial)
        subst hk1
        rw [decide_eq_true hn] at hq
        clear hn ht hx hc HA HR
        go_wp2_with (go_at_call 67; refine (HC.out _).mono ?_; rintro e w' ⟨rfl, rfl⟩)
        go_ret
        exact ⟨rfl, rfl⟩
      · have HB := hid (fun (_ : True) => ins_step hx hn (HA.out trivial))
        rw [decide_eq_false hn] at hq
        clear hn ht hx hc HA
        go_wp2_with (go_at_call 67; refine (HC.out _).mono ?_; rintro e w' ⟨rfl, rfl⟩)
        go_roundw
        case rel => exact ⟨k + 1, by simp, by omega, by first | rfl | trivial, HB.out⟩
        case measure => simp [RowKit.intOf]; omega
    · have hk10 : k = 10 := by omega
      subst hk10
      have h0 : 0 = r := HA.out trivial
      subst h0
      clear HA HR
      go_wp2
      go_ret
      exact ⟨rfl, rfl⟩
theorem eats_any (s : ByteArray) (w : World) :
    Calls Tryz.prog 108 #[.string s] w fun e w' => e = .returned (.bool (eatsL s.data.toList)) ∧ w' = w := by
  have he : eatsL s.data.toList = (decide (s.toList = [112, 114, 101]) || decide (s.toList = [116, 101, 120, 116, 97, 114, 101, 97])) := by
    rw [Lib.toList_data]
    unfold eatsL
    rw [Bool.eq_iff_iff]
    simp
  rw [he]
  clear he
  by_cases h1 : s.toList = [112, 114, 101]
  · have h2 : ¬ s.toList = [116, 101, 120, 116, 97, 114, 101, 97] := by rw [h1]; decide
    rw [decide_eq_true h1, decide_eq_false h2]
    have q1 : (s.toList == [112, 114, 101]) = true := beq_iff_eq.2 h1
    clear h1 h2
    go_enter Tryz.func108, Tryz.ntmps108
    go_wp2
    go_ret
    refine ⟨ret_bool ?_, rfl⟩
    first | rfl | simp [q1]
  · by_cases h2 : s.toList = [116, 101, 120, 116, 97, 114, 101, 97]
    · rw [decide_eq_false h1, decide_eq_true h2]
      have q1 : (s.toList == [112, 114, 101]) = false := beq_eq_false_iff_ne.2 h1
      have q2 : (s.toList == [116, 101, 120, 116, 97, 114, 101, 97]) = true := beq_iff_eq.2 h2
      clear h2
      go_enter Tryz.func108, Tryz.ntmps108
      go_wp2
      go_ret
      refine ⟨ret_bool ?_, rfl⟩
      first | rfl | simp [q1, q2]
    · rw [decide_eq_false h1, decide_eq_false h2]
      have q1 : (s.toList == [112, 114, 101]) = false := beq_eq_false_iff_ne.2 h1
      have q2 : (s.toList == [116, 101, 120, 116, 97, 114, 101, 97]) = false := beq_eq_false_iff_ne.2 h2
      go_enter Tryz.func108, Tryz.ntmps108
      go_wp2
      go_ret
      refine ⟨ret_bool ?_, rfl⟩
      first | rfl | simp [q1, q2]
end Go.Proofs.YtndglhflbenloaaGreatDoor
