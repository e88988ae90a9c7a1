/-
  Parts of the walk, joined: Set, NumR, FindName, Unref, LexEv, LexName, RefSet, PolMem.
-/
import Derived.Deep.MidRow
import Derived.Deep.Cut
import Derived.Great.Walk
import Derived.Great.BuildSlice
import Derived.Test.YtcncbhbdpcpkeaaGreatDoorShelf
import Derived.BigQuiet
import Derived.Lib.IndexMore
import Derived.Laws.Tables
import Derived.Lib.Index
import Derived.Lib.Strings
import Derived.Deep.RegionLaw
import Derived.Test.YtcncbhbdpcpkeaaGreatDoorPJAA
import Derived.Test.YtcncbhbdpcpkeaaGreatDoorPJAB
import Derived.Test.YtcncbhbdpcpkeaaGreatDoorPJAE
/-
  scrubref's among, past and begins: their walks.
-/
namespace Go.Proofs.YtcncbhbdpcpkeaaGreatDoor
open Go.RowKit Go.Lib

set_option maxHeartbeats 1000000 in
theorem among_any (c : UInt8) (set : ByteArray) (w : World) (hs : set.size ≤ 1000000) :
    Calls Tryz.prog 173 #[.int .u8 c.toNat, .string set] w fun e w' => e = .returned (.bool (set.data.toList.contains c)) ∧ w' = w := by
  obtain ⟨r, hr⟩ : ∃ r, set.data.toList.contains c = r := ⟨_, rfl⟩
  rw [hr]
  have HR := hid hr
  clear hr
  go_enter Tryz.func173, Tryz.ntmps173
  go_wp2
  go_loopw [5] (fun iv wr => ∃ k : Nat, iv = .int .i64 k ∧ k ≤ set.size ∧ wr = w ∧ Hid ((set.data.toList.drop k).contains c = r)) (fun iv _ => set.size - (RowKit.intOf iv).toNat)
  case atStart => exact ⟨0, rfl, Nat.zero_le _, rfl, HR.out⟩
  case round =>
    obtain ⟨k, rfl, hk, rfl, HA⟩ := hrel
    by_cases hp : k < set.size
    · obtain ⟨x, hx⟩ : ∃ x, set[k]'hp = x := ⟨_, rfl⟩
      have hl := getElem_list hp hx
      obtain ⟨h1, h2⟩ := List.getElem?_eq_some_iff.1 hl
      have hd := List.drop_eq_getElem_cons h1
      rw [h2] at hd
      have hcon : (set.data.toList.drop k).contains c = (c == x || (set.data.toList.drop (k + 1)).contains c) := by rw [hd, List.contains_cons]
      clear hl h1 h2 hd
      by_cases hc : c = x
      · subst hc
        have HB : Hid (true = r) := by rw [← HA.out, hcon]; simp [Hid]
        clear hcon HA
        go_wp2
        go_ret
        exact ⟨ret_bool HB.out, rfl⟩
      · have q : ((x.toNat : Int) == (c.toNat : Int)) = false := beq_eq_false_iff_ne.2 (fun h => hc (UInt8.toNat_inj.1 (by omega)))
        have HB : Hid ((set.data.toList.drop (k + 1)).contains c = r) := by
          have e : (c == x) = false := beq_eq_false_iff_ne.2 hc
          have := HA.out
          rw [hcon, e, Bool.false_or] at this
          exact this
        clear hcon HA
        go_wp2
        go_roundw
        case rel => exact ⟨k + 1, rfl, by omega, by first | rfl | trivial, HB⟩
        case measure => simp [RowKit.intOf]; omega
    · have HB : Hid (false = r) := by
        rw [← HA.out, List.drop_of_length_le (by rw [← size_eq]; omega)]
        rfl
      clear HA
      go_wp2
      go_ret
      exact ⟨ret_bool HB.out, rfl⟩

set_option maxHeartbeats 1000000 in
theorem past_any (s : ByteArray) (i : Nat) (set : ByteArray) (w : World) (hi : i ≤ s.size) (hs : s.size ≤ 140737488355328) (ht : set.size ≤ 1000000) :
    Calls Tryz.prog 175 #[.string s, .int .i64 i, .string set] w fun e w' => e = .returned (.int .i64 ((i + ((s.data.toList.drop i).takeWhile set.data.toList.contains).length : Nat) : Int)) ∧ w' = w := by
  obtain ⟨r, hr⟩ : ∃ r, i + ((s.data.toList.drop i).takeWhile set.data.toList.contains).length = r := ⟨_, rfl⟩
  rw [hr]
  have HR := hid hr
  clear hr
  go_enter Tryz.func175, Tryz.ntmps175
  go_wp2
  go_loopw [1] (fun iv wr => ∃ k : Nat, iv = .int .i64 k ∧ k ≤ s.size ∧ wr = w ∧ Hid (k + ((s.data.toList.drop k).takeWhile set.data.toList.contains).length = r)) (fun iv _ => s.size - (RowKit.intOf iv).toNat)
  case atStart => exact ⟨i, rfl, hi, rfl, HR.out⟩
  case round =>
    obtain ⟨k, rfl, hk, rfl, HA⟩ := hrel
    by_cases hp : k < s.size
    · obtain ⟨x, hx⟩ : ∃ x, s[k]'hp = x := ⟨_, rfl⟩
      have hl := getElem_list hp hx
      have hc := fun W => among_any x set W ht
      obtain ⟨b, hb⟩ : ∃ b, set.data.toList.contains x = b := ⟨_, rfl⟩
      rw [hb] at hc
      have HC := hid hc
      cases b
      · have HB : Hid (k = r) := by
          have := HA.out
          rw [while_stop (fun c hc => by rw [hl] at hc; cases hc; exact hb)] at this
          simpa [Hid] using this
        clear hl hb hc HA
        go_wp2_with (go_at_call 173; refine (HC.out _).mono ?_; rintro e w' ⟨rfl, rfl⟩)
        go_ret
        exact ⟨ret_i64 (by have := HB.out; omega), rfl⟩
      · have HB : Hid (k + 1 + ((s.data.toList.drop (k + 1)).takeWhile set.data.toList.contains).length = r) := by
          have := HA.out
          rw [while_step hl hb, List.length_cons] at this
          exact hid (by omega)
        clear hl hb hc HA
        go_wp2_with (go_at_call 173; refine (HC.out _).mono ?_; rintro e w' ⟨rfl, rfl⟩)
        go_roundw
        case rel => exact ⟨k + 1, rfl, by omega, by first | rfl | trivial, HB⟩
        case measure => simp [RowKit.intOf]; omega
    · have HB : Hid (k = r) := by
        have := HA.out
        rw [List.drop_of_length_le (by rw [← size_eq]; omega)] at this
        simpa [Hid] using this
      clear HA
      go_wp2
      go_ret
      exact ⟨ret_i64 (by have := HB.out; omega), rfl⟩

theorem begins_any (s t : ByteArray) (w : World) :
    Calls Tryz.prog 218 #[.string s, .string t] w fun e w' => e = .returned (.bool (t.data.toList.isPrefixOf s.data.toList)) ∧ w' = w := by
  have hp : t.data.toList.isPrefixOf s.data.toList = (decide (t.size ≤ s.size) && ((s.data.toList.take t.size) == t.data.toList)) := by
    have := hasPrefix_of_take s.data.toList t.data.toList
    rw [← size_eq, ← size_eq] at this
    exact this.symm
  rw [hp]
  go_enter Tryz.func218, Tryz.ntmps218
  go_wp2
  · rename_i h
    go_ret
    refine ⟨?_, rfl⟩
    show Ending.returned (Value.bool ((s.extract 0 t.size).toList == t.toList)) = _
    rw [Lib.extract_toList, Lib.toList_data]
    simp [h]
  · rename_i h
    go_ret
    refine ⟨?_, rfl⟩
    show Ending.returned (Value.bool false) = _
    simp [h]
end Go.Proofs.YtcncbhbdpcpkeaaGreatDoor

/-
  scrubref.number: its walk.
-/
namespace Go.Proofs.YtcncbhbdpcpkeaaGreatDoor
open Go.RowKit Go.Lib

theorem u8_all {p : UInt8 → Bool} (h : ∀ n : Fin 256, p (UInt8.ofNat n.val) = true) (c : UInt8) : p c = true := by
  have := h ⟨c.toNat, c.toNat_lt⟩
  simpa using this
end Go.Proofs.YtcncbhbdpcpkeaaGreatDoor

/-
  chars.findName: its walk.
-/
namespace Go.Proofs.YtcncbhbdpcpkeaaGreatDoor
open Go.RowKit Go.Lib Go.Great

theorem flat_at (f : List UInt8 × Int → Value) (g : List UInt8 × Int → Value) : ∀ (T : List (List UInt8 × Int)) (k : Nat) (x : List UInt8 × Int), T[k]? = some x → ((T.flatMap fun t => [f t, g t]).drop (k * 2)).take 2 = [f x, g x]
  | [], k, x, h => by simp at h
  | t :: T, 0, x, h => by
    simp only [List.getElem?_cons_zero, Option.some.injEq] at h
    subst h
    rfl
  | t :: T, k + 1, x, h => by
    rw [List.getElem?_cons_succ] at h
    have := flat_at f g T k x h
    rw [show (k + 1) * 2 = k * 2 + 2 from by omega, List.flatMap_cons, ← List.drop_drop]
    rw [List.drop_drop, show k * 2 + 2 = 2 + k * 2 from by omega, ← List.drop_drop]
    exact this
end Go.Proofs.YtcncbhbdpcpkeaaGreatDoor

/-
  chars.Unref: its walk.
-/
namespace Go.Proofs.YtcncbhbdpcpkeaaGreatDoor
open Go.RowKit Go.Lib

theorem strCells_byte (t : ByteArray) : Lib.strCells t = Lib.byteCells t.data.toList := by
  rfl

theorem builder_new (w : World) (T e : TypeId) : Lib.IsBuilderF T e w.heap.size w.heap.size (Lib.byteCells []) (w.alloc (.cells #[.pointer none, .slice none 0 0] T)) :=
  Lib.IsBuilderF.of (Or.inl ⟨Nat.le_refl _, .slice none 0 0, heap_alloc_new w _, World.ownsRow_nil _ _ _ _, by simp [Value.ownBlock]⟩)
end Go.Proofs.YtcncbhbdpcpkeaaGreatDoor

/-
  The lexer's events as a plain list: texts that meet, joined; and what is told at the end of a text.
-/
namespace Go.Proofs.YtcncbhbdpcpkeaaGreatDoor

inductive Ev where
  | text (b : List UInt8)
  | start (name : List UInt8) (attrs : List (List UInt8 × List UInt8))
  | stop (name : List UInt8)
/-! ## the stream: events, and the text that was put behind the last of them -/

/-! ## what a run puts out is full -/

/-! ## the end of a text -/

end Go.Proofs.YtcncbhbdpcpkeaaGreatDoor

/-
  The lexer's names: rawName, modeInside, eatsNewline: their walks.
-/
namespace Go.Proofs.YtcncbhbdpcpkeaaGreatDoor
open Go.RowKit Go.Lib

theorem eats_any (s : ByteArray) (w : World) :
    Calls Tryz.prog 80 #[.string s] w fun e w' => e = .returned (.bool (eatsL s.data.toList)) ∧ w' = w := by
  have he : eatsL s.data.toList = (decide (s.toList = [112, 114, 101]) || decide (s.toList = [116, 101, 120, 116, 97, 114, 101, 97])) := by
    rw [Lib.toList_data]
    unfold eatsL
    rw [Bool.eq_iff_iff]
    simp
  rw [he]
  clear he
  by_cases h1 : s.toList = [112, 114, 101]
  · have h2 : ¬ s.toList = [116, 101, 120, 116, 97, 114, 101, 97] := by rw [h1]; decide
    rw [decide_eq_true h1, decide_eq_false h2]
    have q1 : (s.toList == [112, 114, 101]) = true := beq_iff_eq.2 h1
    clear h1 h2
    go_enter Tryz.func80, Tryz.ntmps80
    go_wp2
    go_ret
    refine ⟨ret_bool ?_, rfl⟩
    first | rfl | simp [q1]
  · by_cases h2 : s.toList = [116, 101, 120, 116, 97, 114, 101, 97]
    · rw [decide_eq_false h1, decide_eq_true h2]
      have q1 : (s.toList == [112, 114, 101]) = false := beq_eq_false_iff_ne.2 h1
      have q2 : (s.toList == [116, 101, 120, 116, 97, 114, 101, 97]) = true := beq_iff_eq.2 h2
      clear h2
      go_enter Tryz.func80, Tryz.ntmps80
      go_wp2
      go_ret
      refine ⟨ret_bool ?_, rfl⟩
      first | rfl | simp [q1, q2]
    · rw [decide_eq_false h1, decide_eq_false h2]
      have q1 : (s.toList == [112, 114, 101]) = false := beq_eq_false_iff_ne.2 h1
      have q2 : (s.toList == [116, 101, 120, 116, 97, 114, 101, 97]) = false := beq_eq_false_iff_ne.2 h2
      go_enter Tryz.func80, Tryz.ntmps80
      go_wp2
      go_ret
      refine ⟨ret_bool ?_, rfl⟩
      first | rfl | simp [q1, q2]
end Go.Proofs.YtcncbhbdpcpkeaaGreatDoor

/-
  scrubref's until and lowered: their walks.
-/
namespace Go.Proofs.YtcncbhbdpcpkeaaGreatDoor
open Go.RowKit Go.Lib Own

set_option maxHeartbeats 1000000 in
theorem until_any (s : ByteArray) (i : Nat) (set : ByteArray) (w : World) (hi : i ≤ s.size) (hs : s.size ≤ 140737488355328) (ht : set.size ≤ 1000000) :
    Calls Tryz.prog 111 #[.string s, .int .i64 i, .string set] w fun e w' => e = .returned (.int .i64 ((i + ((s.data.toList.drop i).takeWhile fun c => !set.data.toList.contains c).length : Nat) : Int)) ∧ w' = w := by
  obtain ⟨r, hr⟩ : ∃ r, i + ((s.data.toList.drop i).takeWhile fun c => !set.data.toList.contains c).length = r := ⟨_, rfl⟩
  rw [hr]
  have HR := hid hr
  clear hr
  go_enter Tryz.func111, Tryz.ntmps111
  go_wp2
  go_loopw [1] (fun iv wr => ∃ k : Nat, iv = .int .i64 k ∧ k ≤ s.size ∧ wr = w ∧ Hid (k + ((s.data.toList.drop k).takeWhile fun c => !set.data.toList.contains c).length = r)) (fun iv _ => s.size - (RowKit.intOf iv).toNat)
  case atStart => exact ⟨i, rfl, hi, rfl, HR.out⟩
  case round =>
    obtain ⟨k, rfl, hk, rfl, HA⟩ := hrel
    by_cases hp : k < s.size
    · obtain ⟨x, hx⟩ : ∃ x, s[k]'hp = x := ⟨_, rfl⟩
      have hl := getElem_list hp hx
      have hc := fun W => among_any x set W ht
      obtain ⟨b, hb⟩ : ∃ b, set.data.toList.contains x = b := ⟨_, rfl⟩
      rw [hb] at hc
      have HC := hid hc
      cases b
      · have HB : Hid (k + 1 + ((s.data.toList.drop (k + 1)).takeWhile fun c => !set.data.toList.contains c).length = r) := by
          have := HA.out
          rw [while_step hl (by rw [hb]; rfl), List.length_cons] at this
          exact hid (by omega)
        clear hl hb hc HA
        go_wp2_with (go_at_call 173; refine (HC.out _).mono ?_; rintro e w' ⟨rfl, rfl⟩)
        go_roundw
        case rel => exact ⟨k + 1, rfl, by omega, by first | rfl | trivial, HB⟩
        case measure => simp [RowKit.intOf]; omega
      · have HB : Hid (k = r) := by
          have := HA.out
          rw [while_stop (fun c hc => by rw [hl] at hc; cases hc; rw [hb]; rfl)] at this
          simpa [Hid] using this
        clear hl hb hc HA
        go_wp2_with (go_at_call 173; refine (HC.out _).mono ?_; rintro e w' ⟨rfl, rfl⟩)
        go_ret
        exact ⟨ret_i64 (by have := HB.out; omega), rfl⟩
    · have HB : Hid (k = r) := by
        have := HA.out
        rw [List.drop_of_length_le (by rw [← size_eq]; omega)] at this
        simpa [Hid] using this
      clear HA
      go_wp2
      go_ret
      exact ⟨ret_i64 (by have := HB.out; omega), rfl⟩

end Go.Proofs.YtcncbhbdpcpkeaaGreatDoor

/-
  Lists of words and policies that can be read, whoever made them.
-/
namespace Go.Proofs.YtcncbhbdpcpkeaaGreatDoor
open Go.RowKit Go.Lib Own

set_option maxHeartbeats 1000000 in
theorem holds_any (v : Value) (ss : List (List UInt8)) (x : ByteArray) (w : World) (h : Words w v ss) (_hl : ss.length ≤ 100000000) :
    Calls Tryz.prog 45 #[v, .string x] w fun e w' => e = .returned (.bool (ss.contains x.toList)) ∧ w' = w := by
  obtain ⟨p, c, rfl, hc, hm, hcell, _⟩ := h
  obtain ⟨R, hR⟩ : ∃ R, ss.contains x.toList = R := ⟨_, rfl⟩
  have HR := hid (fun (_ : True) => hR)
  have H := hid hcell
  rw [hR]
  clear hcell hR
  go_enter Tryz.func45, Tryz.ntmps45
  go_wp2
  go_loopw [5] (fun iv wr => ∃ k : Nat, iv = .int .i64 k ∧ k ≤ ss.length ∧ wr = w ∧ Hid (True → (ss.drop k).contains x.toList = R)) (fun iv _ => ss.length - (RowKit.intOf iv).toNat)
  case atStart => exact ⟨0, rfl, Nat.zero_le _, rfl, HR.out⟩
  case round =>
    obtain ⟨k, rfl, hk, rfl, HK⟩ := hrel
    by_cases hkl : k < ss.length
    · obtain ⟨s, hs⟩ : ∃ s, ss[k]? = some s := ⟨_, List.getElem?_eq_getElem hkl⟩
      obtain ⟨b, o, rfl, hc1⟩ := H.out k s hs
      have hd := HK.out trivial
      rw [drop_at hs, List.contains_cons] at hd
      have hbt := bs_toList s
      obtain ⟨S, hS⟩ : ∃ S, bs s = S := ⟨_, rfl⟩
      rw [hS] at hbt hc1
      by_cases q : (x.toList == s) = true
      · have q2 : (S.toList == x.toList) = true := by rw [hbt]; rw [beq_iff_eq] at q ⊢; exact q.symm
        rw [q, Bool.true_or] at hd
        subst hd
        clear hs hbt q H HK HR
        go_wp2
        go_ret
        exact ⟨rfl, rfl⟩
      · have q2 : (S.toList == x.toList) = false := by rw [hbt]; rw [Bool.not_eq_true] at q; rw [← q, Bool.eq_iff_iff, beq_iff_eq, beq_iff_eq]; exact eq_comm
        rw [Bool.not_eq_true] at q
        rw [q, Bool.false_or] at hd
        have HD := hid (fun (_ : True) => hd)
        clear hs hbt q H HK HR hd
        go_wp2
        go_roundw
        case rel => exact ⟨k + 1, rfl, by omega, by first | rfl | trivial, HD⟩
        case measure => simp [RowKit.intOf]; omega
    · have hd := HK.out trivial
      rw [List.drop_of_length_le (by omega)] at hd
      have : R = false := by rw [← hd]; rfl
      subst this
      clear hd HK HR H
      go_wp2
      go_ret
      exact ⟨rfl, rfl⟩

end Go.Proofs.YtcncbhbdpcpkeaaGreatDoor
