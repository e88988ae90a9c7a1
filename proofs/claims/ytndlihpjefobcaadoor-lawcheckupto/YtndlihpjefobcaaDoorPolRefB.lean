/-
  The reference's Check: words, rules, schemes, drops: their walks.
-/
import Derived.Test.YtndlihpjefobcaaDoorPolRef
namespace Go.Proofs.YtndlihpjefobcaaDoor
open Go.RowKit Go.Lib Own

/-- the reference's attributes -/
def attrT : List (List UInt8) := [[119, 105, 100, 116, 104], [116, 105, 116, 108, 101], [115, 116, 97, 114, 116], [115, 114, 99], [114, 111, 119, 115, 112, 97, 110], [114, 101, 108], [108, 97, 110, 103], [105, 100], [104, 114, 101, 102], [104, 101, 105, 103, 104, 116], [100, 105, 114], [99, 111, 108, 115, 112, 97, 110], [99, 108, 97, 115, 115], [99, 105, 116, 101], [97, 108, 116]]
def attrTabV : List Value := attrT.map fun s => .string (bs s)
def AttrTab (w : World) : Prop := w.rangeAt 2 0 attrTabV
theorem AttrTab.below {w w' : World} (h : AttrTab w) (hb : Below w.heap.size w w') : AttrTab w' := rangeAt_below h hb
theorem AttrTab.at {w : World} (h : AttrTab w) (k : Nat) (s : List UInt8) (hs : attrT[k]? = some s) : w.cell? ⟨2, k, none⟩ = some (.string (bs s)) := by
  have := h k (.string (bs s)) (by unfold attrTabV; rw [List.getElem?_map, hs]; rfl)
  rwa [Nat.zero_add] at this

set_option maxHeartbeats 1000000 in
theorem knownAttr_any (x : ByteArray) (w : World) (h : AttrTab w) :
    Calls Tryd.prog 56 #[.string x] w fun e w' => e = .returned (.bool (attrT.contains x.toList)) ∧ w' = w := by
  obtain ⟨R, hR⟩ : ∃ R, attrT.contains x.toList = R := ⟨_, rfl⟩
  have HR := hid (fun (_ : True) => hR)
  have H := hid h
  rw [hR]
  clear h hR
  go_enter Tryd.func56, Tryd.ntmps56
  go_wp2
  go_loopw [3] (fun iv wr => ∃ k : Nat, iv = .int .i64 k ∧ k ≤ 15 ∧ wr = w ∧ Hid (True → (attrT.drop k).contains x.toList = R)) (fun iv _ => 15 - (RowKit.intOf iv).toNat)
  case atStart => exact ⟨0, rfl, Nat.zero_le _, rfl, HR.out⟩
  case round =>
    obtain ⟨k, rfl, hk, rfl, HK⟩ := hrel
    by_cases hkl : k < 15
    · obtain ⟨s, hs⟩ : ∃ s, attrT[k]? = some s := ⟨_, List.getElem?_eq_getElem (show k < attrT.length from hkl)⟩
      have hc1 := H.out.at k s hs
      have hd := HK.out trivial
      rw [drop_at hs, List.contains_cons] at hd
      have hbt := bs_toList s
      obtain ⟨S, hS⟩ : ∃ S, bs s = S := ⟨_, rfl⟩
      rw [hS] at hbt hc1
      by_cases q : (x.toList == s) = true
      · have q2 : (S.toList == x.toList) = true := by rw [hbt]; rw [beq_iff_eq] at q ⊢; exact q.symm
        rw [q, Bool.true_or] at hd
        subst hd
        clear hs hbt q H HK HR
        go_wp2
        go_ret
        exact ⟨rfl, rfl⟩
      · have q2 : (S.toList == x.toList) = false := by rw [hbt]; rw [Bool.not_eq_true] at q; rw [← q, Bool.eq_iff_iff, beq_iff_eq, beq_iff_eq]; exact eq_comm
        rw [Bool.not_eq_true] at q
        rw [q, Bool.false_or] at hd
        have HD := hid (fun (_ : True) => hd)
        clear hs hbt q H HK HR hd
        go_wp2
        go_roundw
        case rel => exact ⟨k + 1, rfl, by omega, by first | rfl | trivial, HD⟩
        case measure => simp [RowKit.intOf]; omega
    · obtain rfl : k = 15 := by omega
      have hd := HK.out trivial
      have : R = false := by rw [← hd]; rfl
      subst this
      clear hd HK HR H
      go_wp2
      go_ret
      exact ⟨rfl, rfl⟩

def smallL : List UInt8 := [97, 98, 99, 100, 101, 102, 103, 104, 105, 106, 107, 108, 109, 110, 111, 112, 113, 114, 115, 116, 117, 118, 119, 120, 121, 122]
def digitL : List UInt8 := [48, 49, 50, 51, 52, 53, 54, 55, 56, 57]
/-- a word: a small letter first, then bytes of the set -/
def isWordL (set : List UInt8) (L : List UInt8) : Bool := decide (1 ≤ L.length) && (decide (L.length ≤ 32) && (smallL.contains (L.headD 0) && L.all set.contains))
theorem all_while {p : UInt8 → Bool} : ∀ L : List UInt8, (L.takeWhile p).length = L.length ↔ L.all p = true
  | [] => by simp
  | c :: L => by
    cases hc : p c with
    | true =>
      have := all_while (p := p) L
      simp only [List.takeWhile_cons, hc, if_true, List.length_cons, List.all_cons, Bool.true_and, Nat.add_right_cancel_iff]
      exact this
    | false => simp [hc]

set_option maxHeartbeats 1000000 in
set_option maxRecDepth 100000 in
theorem refWord_any (x set : ByteArray) (w : World) (hx : x.size ≤ 100000000) (ht : set.size ≤ 1000000) :
    Calls Tryd.prog 57 #[.string x, .string set] w fun e w' => e = .returned (.bool (isWordL set.toList x.toList)) ∧ w' = w := by
  have hxl : x.toList = x.data.toList := Lib.toList_data x
  have htl : set.toList = set.data.toList := Lib.toList_data set
  have hsz := size_eq x
  rw [hxl, htl]
  by_cases h1 : x.size < 1
  · have hr : isWordL set.data.toList x.data.toList = false := by
      unfold isWordL
      rw [decide_eq_false (by omega), Bool.false_and]
    rw [hr]
    clear hr hxl htl hsz
    go_enter Tryd.func57, Tryd.ntmps57
    go_wp2
    go_ret
    exact ⟨rfl, rfl⟩
  · by_cases h2 : x.size > 32
    · have hr : isWordL set.data.toList x.data.toList = false := by
        unfold isWordL
        rw [decide_eq_false (p := x.data.toList.length ≤ 32) (by omega), Bool.false_and, Bool.and_false]
      rw [hr]
      clear hr hxl htl hsz
      go_enter Tryd.func57, Tryd.ntmps57
      go_wp2
      go_ret
      exact ⟨rfl, rfl⟩
    · have hp : 0 < x.size := by omega
      obtain ⟨c, hc⟩ : ∃ c, x[0]'hp = c := ⟨_, rfl⟩
      have hl := getElem_list hp hc
      have hhd : x.data.toList.headD 0 = c := by
        cases hq : x.data.toList with
        | nil => rw [hq] at hl; simp at hl
        | cons a r => rw [hq] at hl; simpa using hl
      have ham := fun W => among_any c (bs smallL) W (by rw [bs_size]; decide)
      rw [bs_data] at ham
      have hpa := fun W => past_any x 0 set W (Nat.zero_le _) (by omega) ht
      rw [List.drop_zero, Nat.zero_add] at hpa
      have hw : isWordL set.data.toList x.data.toList = (smallL.contains c && x.data.toList.all set.data.toList.contains) := by
        unfold isWordL
        rw [decide_eq_true (p := 1 ≤ x.data.toList.length) (by omega), decide_eq_true (p := x.data.toList.length ≤ 32) (by omega), hhd, Bool.true_and, Bool.true_and]
      rw [hw]
      have hall := all_while (p := set.data.toList.contains) x.data.toList
      obtain ⟨A, hA⟩ : ∃ A, x.data.toList.all set.data.toList.contains = A := ⟨_, rfl⟩
      obtain ⟨n, hn⟩ : ∃ n, (x.data.toList.takeWhile set.data.toList.contains).length = n := ⟨_, rfl⟩
      obtain ⟨B, hB⟩ : ∃ B, smallL.contains c = B := ⟨_, rfl⟩
      rw [hB] at ham ⊢
      rw [hn] at hpa hall
      rw [hA] at hall ⊢
      rw [← hsz] at hall
      have HA := hid ham
      have HP := hid hpa
      clear ham hpa hl hhd hw hA hn hB hxl htl hsz
      unfold bs at HA
      cases B
      · clear hall
        go_enter Tryd.func57, Tryd.ntmps57
        go_wp2_with (go_at_call 32; refine (HA.out _).mono ?_; rintro e w' ⟨rfl, rfl⟩)
        go_ret
        exact ⟨rfl, rfl⟩
      · by_cases hnx : n = x.size
        · obtain rfl : A = true := hall.1 hnx
          subst hnx
          clear hall
          go_enter Tryd.func57, Tryd.ntmps57
          go_wp2_with (first | (go_at_call 32; refine (HA.out _).mono ?_; rintro e w' ⟨rfl, rfl⟩) | (go_at_call 11; refine (HP.out _).mono ?_; rintro e w' ⟨rfl, rfl⟩))
          go_ret
          exact ⟨ret_bool (by simp), rfl⟩
        · obtain rfl : A = false := by
            cases A
            · rfl
            · exact absurd (hall.2 rfl) hnx
          have q : ((n : Int) == (x.size : Int)) = false := by rw [beq_eq_false_iff_ne]; omega
          clear hall
          go_enter Tryd.func57, Tryd.ntmps57
          go_wp2_with (first | (go_at_call 32; refine (HA.out _).mono ?_; rintro e w' ⟨rfl, rfl⟩) | (go_at_call 11; refine (HP.out _).mono ?_; rintro e w' ⟨rfl, rfl⟩))
          go_ret
          exact ⟨ret_bool (by simp), rfl⟩
end Go.Proofs.YtndlihpjefobcaaDoor
