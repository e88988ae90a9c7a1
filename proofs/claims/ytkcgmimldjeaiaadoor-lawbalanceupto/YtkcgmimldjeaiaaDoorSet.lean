/-
  scrubref's among, past and begins: their walks.
-/
import Derived.Test.YtkcgmimldjeaiaaDoorFindNum
namespace Go.Proofs.YtkcgmimldjeaiaaDoor
open Go.RowKit Go.Lib

set_option maxHeartbeats 1000000 in
theorem among_any (c : UInt8) (set : ByteArray) (w : World) (hs : set.size ≤ 1000000) :
    Calls Tryd.prog 119 #[.int .u8 c.toNat, .string set] w fun e w' => e = .returned (.bool (set.data.toList.contains c)) ∧ w' = w := by
  obtain ⟨r, hr⟩ : ∃ r, set.data.toList.contains c = r := ⟨_, rfl⟩
  rw [hr]
  have HR := hid hr
  clear hr
  go_enter Tryd.func119, Tryd.ntmps119
  go_wp2
  go_loopw [5] (fun iv wr => ∃ k : Nat, iv = .int .i64 k ∧ k ≤ set.size ∧ wr = w ∧ Hid ((set.data.toList.drop k).contains c = r)) (fun iv _ => set.size - (RowKit.intOf iv).toNat)
  case atStart => exact ⟨0, rfl, Nat.zero_le _, rfl, HR.out⟩
  case round =>
    obtain ⟨k, rfl, hk, rfl, HA⟩ := hrel
    by_cases hp : k < set.size
    · obtain ⟨x, hx⟩ : ∃ x, set[k]'hp = x := ⟨_, rfl⟩
      have hl := getElem_list hp hx
      obtain ⟨h1, h2⟩ := List.getElem?_eq_some_iff.1 hl
      have hd := List.drop_eq_getElem_cons h1
      rw [h2] at hd
      have hcon : (set.data.toList.drop k).contains c = (c == x || (set.data.toList.drop (k + 1)).contains c) := by rw [hd, List.contains_cons]
      clear hl h1 h2 hd
      by_cases hc : c = x
      · subst hc
        have HB : Hid (true = r) := by rw [← HA.out, hcon]; simp [Hid]
        clear hcon HA
        go_wp2
        go_ret
        exact ⟨ret_bool HB.out, rfl⟩
      · have q : ((x.toNat : Int) == (c.toNat : Int)) = false := beq_eq_false_iff_ne.2 (fun h => hc (UInt8.toNat_inj.1 (by omega)))
        have HB : Hid ((set.data.toList.drop (k + 1)).contains c = r) := by
          have e : (c == x) = false := beq_eq_false_iff_ne.2 hc
          have := HA.out
          rw [hcon, e, Bool.false_or] at this
          exact this
        clear hcon HA
        go_wp2
        go_roundw
        case rel => exact ⟨k + 1, rfl, by omega, by first | rfl | trivial, HB⟩
        case measure => simp [RowKit.intOf]; omega
    · have HB : Hid (false = r) := by
        rw [← HA.out, List.drop_of_length_le (by rw [← size_eq]; omega)]
        rfl
      clear HA
      go_wp2
      go_ret
      exact ⟨ret_bool HB.out, rfl⟩

set_option maxHeartbeats 1000000 in
theorem past_any (s : ByteArray) (i : Nat) (set : ByteArray) (w : World) (hi : i ≤ s.size) (hs : s.size ≤ 140737488355328) (ht : set.size ≤ 1000000) :
    Calls Tryd.prog 84 #[.string s, .int .i64 i, .string set] w fun e w' => e = .returned (.int .i64 ((i + ((s.data.toList.drop i).takeWhile set.data.toList.contains).length : Nat) : Int)) ∧ w' = w := by
  obtain ⟨r, hr⟩ : ∃ r, i + ((s.data.toList.drop i).takeWhile set.data.toList.contains).length = r := ⟨_, rfl⟩
  rw [hr]
  have HR := hid hr
  clear hr
  go_enter Tryd.func84, Tryd.ntmps84
  go_wp2
  go_loopw [1] (fun iv wr => ∃ k : Nat, iv = .int .i64 k ∧ k ≤ s.size ∧ wr = w ∧ Hid (k + ((s.data.toList.drop k).takeWhile set.data.toList.contains).length = r)) (fun iv _ => s.size - (RowKit.intOf iv).toNat)
  case atStart => exact ⟨i, rfl, hi, rfl, HR.out⟩
  case round =>
    obtain ⟨k, rfl, hk, rfl, HA⟩ := hrel
    by_cases hp : k < s.size
    · obtain ⟨x, hx⟩ : ∃ x, s[k]'hp = x := ⟨_, rfl⟩
      have hl := getElem_list hp hx
      have hc := fun W => among_any x set W ht
      obtain ⟨b, hb⟩ : ∃ b, set.data.toList.contains x = b := ⟨_, rfl⟩
      rw [hb] at hc
      have HC := hid hc
      cases b
      · have HB : Hid (k = r) := by
          have := HA.out
          rw [while_stop (fun c hc => by rw [hl] at hc; cases hc; exact hb)] at this
          simpa [Hid] using this
        clear hl hb hc HA
        go_wp2_with (go_at_call 119; refine (HC.out _).mono ?_; rintro e w' ⟨rfl, rfl⟩)
        go_ret
        exact ⟨ret_i64 (by have := HB.out; omega), rfl⟩
      · have HB : Hid (k + 1 + ((s.data.toList.drop (k + 1)).takeWhile set.data.toList.contains).length = r) := by
          have := HA.out
          rw [while_step hl hb, List.length_cons] at this
          exact hid (by omega)
        clear hl hb hc HA
        go_wp2_with (go_at_call 119; refine (HC.out _).mono ?_; rintro e w' ⟨rfl, rfl⟩)
        go_roundw
        case rel => exact ⟨k + 1, rfl, by omega, by first | rfl | trivial, HB⟩
        case measure => simp [RowKit.intOf]; omega
    · have HB : Hid (k = r) := by
        have := HA.out
        rw [List.drop_of_length_le (by rw [← size_eq]; omega)] at this
        simpa [Hid] using this
      clear HA
      go_wp2
      go_ret
      exact ⟨ret_i64 (by have := HB.out; omega), rfl⟩

end Go.Proofs.YtkcgmimldjeaiaaDoor
