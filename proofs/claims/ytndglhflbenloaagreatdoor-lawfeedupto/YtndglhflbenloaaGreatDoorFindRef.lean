/-
  chars.goesOn, findReference: their walks.
-/
import Derived.Test.YtndglhflbenloaaGreatDoorFindName
namespace Go.Proofs.YtndglhflbenloaaGreatDoor
open Go.RowKit Go.Lib

def goesZ (z : Int) : Bool := decide (z = 61 ∨ 48 ≤ z ∧ z ≤ 57 ∨ 65 ≤ z ∧ z ≤ 90 ∨ 97 ≤ z ∧ z ≤ 122)
theorem goesZ_B (c : UInt8) : goesZ (c.toNat : Int) = goesB c := by
  unfold goesZ goesB
  apply decide_eq_decide.2
  omega
theorem goesOn_any (s : ByteArray) (w : World) :
    Calls Tryz.prog 91 #[.string s] w fun e w' => e = .returned (.bool (goesL s.data.toList)) ∧ w' = w := by
  by_cases h0 : 0 < s.size
  · obtain ⟨x, hx⟩ : ∃ x, s[0]'h0 = x := ⟨_, rfl⟩
    have hl := getElem_list h0 hx
    have hg : goesL s.data.toList = goesB x := by
      cases hd : s.data.toList with
      | nil => rw [hd] at hl; cases hl
      | cons a l =>
        rw [hd] at hl
        simp only [List.getElem?_cons_zero, Option.some.injEq] at hl
        subst hl
        rfl
    rw [hg, ← goesZ_B]
    have hlt := x.toNat_lt
    have hc := fun W => let_any (x.toNat : Int) (by omega) (by omega) W
    have hd := fun W => dig_any (x.toNat : Int) (by omega) (by omega) W
    have hne : (s.toList == (⟨#[]⟩ : ByteArray).toList) = false := by
      refine beq_eq_false_iff_ne.2 (fun h => ?_)
      rw [Lib.toList_data, Lib.toList_data] at h
      have h2 : s.data.toList.length = 0 := by rw [h]; rfl
      rw [← size_eq] at h2
      omega
    obtain ⟨z, hz⟩ : ∃ z : Int, (x.toNat : Int) = z := ⟨_, rfl⟩
    have hz0 : 0 ≤ z := by omega
    have hz1 : z ≤ 255 := by omega
    rw [hz] at hc hd ⊢
    have hzl : isLetZ z = decide (65 ≤ z ∧ z ≤ 90 ∨ 97 ≤ z ∧ z ≤ 122) := rfl
    have hzd : isDigZ z = decide (48 ≤ z ∧ z ≤ 57) := rfl
    have hzg : goesZ z = ((z == 61) || isLetZ z || isDigZ z) := by
      rw [hzl, hzd, Bool.eq_iff_iff]
      simp [goesZ]
      omega
    rw [hzg]
    generalize isLetZ z = b1 at hc ⊢
    generalize isDigZ z = b2 at hd ⊢
    obtain ⟨b0, hb0⟩ : ∃ b0, (z == 61) = b0 := ⟨_, rfl⟩
    rw [hb0]
    clear hzl hzd hzg hg hl
    go_enter Tryz.func91, Tryz.ntmps91
    go_wp2_with (first | (go_at_call 101; refine (hc _).mono ?_; rintro e w' ⟨rfl, rfl⟩) | (go_at_call 103; refine (hd _).mono ?_; rintro e w' ⟨rfl, rfl⟩))
    all_goals go_ret
    all_goals refine ⟨ret_bool ?_, rfl⟩
    all_goals simp_all
  · have hs : s = ⟨#[]⟩ := by
      apply ByteArray.ext
      exact Array.eq_empty_of_size_eq_zero (by have : s.size = s.data.size := rfl; omega)
    subst hs
    go_enter Tryz.func91, Tryz.ntmps91
    go_wp2
    go_ret
    exact ⟨rfl, rfl⟩
theorem name_le (L : List UInt8) : (nameL L).1 ≤ L.length := (names_eq L eitherT closedT eitherT_ok closedT_ok).2.2
theorem prefix_one (L : List UInt8) (c : UInt8) : Lib.hasPrefix L [c] = (L[0]? == some c) := by
  unfold Lib.hasPrefix
  cases L with
  | nil => rfl
  | cons a l =>
    simp only [List.isPrefixOf, Bool.and_true, List.getElem?_cons_zero, Option.some_beq_some]
    exact BEq.comm

set_option maxHeartbeats 1000000 in
set_option maxRecDepth 100000 in
theorem findRef_any (s : ByteArray) (attr : Bool) (w : World) (hs : s.size ≤ 140737488355328) (hT : ChTabs w) :
    Calls Tryz.prog 64 #[.string s, .bool attr] w fun e w' => e = .returned (.tuple #[.int .i64 ((refL attr s.data.toList).1 : Int), .int .i32 (refL attr s.data.toList).2]) ∧ Below w.heap.size w w' := by
  have hpf := fun W => Tryz.strings_HasPrefix s ⟨#[35]⟩ W
  rw [show (⟨#[35]⟩ : ByteArray).data.toList = [35] from rfl, prefix_one] at hpf
  cases h35 : (s.data.toList[0]? == some 35)
  · rw [h35] at hpf
    have HP := hid hpf
    have hne : ¬ s.data.toList[0]? = some 35 := by simpa using h35
    have hr : refL attr s.data.toList = if attr = true ∧ 0 < (nameL s.data.toList).1 ∧ s.data.toList[(nameL s.data.toList).1 - 1]? ≠ some 59 ∧ goesL (s.data.toList.drop (nameL s.data.toList).1) = true then (0, 0) else nameL s.data.toList := by
      unfold refL; rw [if_neg hne]
    have hfn := fun W hTW => findName_any s W hs hTW
    have hnl := name_le s.data.toList
    rw [← size_eq] at hnl
    rw [hr]
    clear hr hne h35 hpf
    obtain ⟨R, hR⟩ : ∃ R, nameL s.data.toList = R := ⟨_, rfl⟩
    rw [hR] at hfn hnl ⊢
    clear hR
    obtain ⟨n, c⟩ := R
    simp only at hfn hnl ⊢
    have HN := hid hfn
    have HT := hid hT
    clear hfn hT
    cases attr
    · rw [if_neg (by simp)]
      go_enter Tryz.func64, Tryz.ntmps64
      go_wp2_with (first | (go_at_call 88; refine (HP.out _).mono ?_; rintro e W0 ⟨rfl, rfl⟩) | (go_at_call 90; refine (HN.out _ HT.out).mono ?_; rintro e W1 ⟨rfl, b1⟩))
      refine bodyPost_ret (v := .tuple #[.int .i64 (n : Int), .int .i32 c]) ?_ rfl ⟨rfl, by assumption⟩
      simp [results, Tryz.results64, go_sem]
    · by_cases h0 : n = 0
      · subst h0
        rw [if_neg (by simp)]
        go_enter Tryz.func64, Tryz.ntmps64
        go_wp2_with (first | (go_at_call 88; refine (HP.out _).mono ?_; rintro e W0 ⟨rfl, rfl⟩) | (go_at_call 90; refine (HN.out _ HT.out).mono ?_; rintro e W1 ⟨rfl, b1⟩))
        refine bodyPost_ret (v := .tuple #[.int .i64 0, .int .i32 c]) ?_ rfl ⟨rfl, by assumption⟩
        simp [results, Tryz.results64, go_sem]
      · obtain ⟨m, rfl⟩ : ∃ m, n = m + 1 := ⟨n - 1, by omega⟩
        have hm : m < s.size := by omega
        obtain ⟨x, hx⟩ : ∃ x, s[m]'hm = x := ⟨_, rfl⟩
        have hxl := getElem_list hm hx
        rw [show m + 1 - 1 = m from rfl, hxl]
        by_cases hx9 : x = 59
        · rw [if_neg (by rw [hx9]; simp)]
          have q : ((x.toNat : Int) != 59) = false := by rw [hx9]; rfl
          clear hx9 hxl
          go_enter Tryz.func64, Tryz.ntmps64
          go_wp2_with (first | (go_at_call 88; refine (HP.out _).mono ?_; rintro e W0 ⟨rfl, rfl⟩) | (go_at_call 90; refine (HN.out _ HT.out).mono ?_; rintro e W1 ⟨rfl, b1⟩))
          refine bodyPost_ret (v := .tuple #[.int .i64 ((m + 1 : Nat) : Int), .int .i32 c]) ?_ rfl ⟨rfl, by assumption⟩
          simp [results, Tryz.results64, go_sem]
        · have q : ((x.toNat : Int) != 59) = true := bne_iff_ne.2 (fun h => hx9 (UInt8.toNat_inj.1 (by simp; omega)))
          have hgo := fun W => goesOn_any (s.extract (m + 1) s.size) W
          rw [show (s.extract (m + 1) s.size).data.toList = s.data.toList.drop (m + 1) from extract_to_end s (m + 1)] at hgo
          cases hb : goesL (s.data.toList.drop (m + 1))
          · rw [hb] at hgo
            rw [if_neg (by simp)]
            have HG := hid hgo
            clear hx9 hxl hgo hb
            go_enter Tryz.func64, Tryz.ntmps64
            go_wp2_with (first | (go_at_call 88; refine (HP.out _).mono ?_; rintro e W0 ⟨rfl, rfl⟩) | (go_at_call 90; refine (HN.out _ HT.out).mono ?_; rintro e W1 ⟨rfl, b1⟩) | (go_at_call 91; refine (HG.out _).mono ?_; rintro e W2 ⟨rfl, rfl⟩))
            refine bodyPost_ret (v := .tuple #[.int .i64 ((m + 1 : Nat) : Int), .int .i32 c]) ?_ rfl ⟨rfl, by assumption⟩
            simp [results, Tryz.results64, go_sem]
          · rw [hb] at hgo
            rw [if_pos ⟨rfl, by omega, fun h => hx9 (Option.some.inj h), rfl⟩]
            have HG := hid hgo
            clear hx9 hxl hgo hb
            go_enter Tryz.func64, Tryz.ntmps64
            go_wp2_with (first | (go_at_call 88; refine (HP.out _).mono ?_; rintro e W0 ⟨rfl, rfl⟩) | (go_at_call 90; refine (HN.out _ HT.out).mono ?_; rintro e W1 ⟨rfl, b1⟩) | (go_at_call 91; refine (HG.out _).mono ?_; rintro e W2 ⟨rfl, rfl⟩))
            refine bodyPost_ret (v := .tuple #[.int .i64 0, .int .i32 0]) ?_ rfl ⟨rfl, by assumption⟩
            simp [results, Tryz.results64, go_sem]
  · rw [h35] at hpf
    have HP := hid hpf
    have h35' : s.data.toList[0]? = some 35 := by simpa using h35
    have hr : refL attr s.data.toList = numL (s.data.toList.take 31) := by unfold refL; rw [if_pos h35']
    have h1 : 1 ≤ s.size := by
      rw [size_eq]
      exact (List.getElem?_eq_some_iff.1 h35').1
    obtain ⟨k, hk⟩ : ∃ k, min s.size 31 = k := ⟨_, rfl⟩
    have hmin : min (s.size : Int) 31 = (k : Int) := by omega
    obtain ⟨t, ht⟩ : ∃ t, s.extract 0 k = t := ⟨_, rfl⟩
    have htz : t.size = k := by rw [← ht, ByteArray.size_extract]; omega
    have htl : t.data.toList = s.data.toList.take 31 := by
      rw [← ht, take_extract, ← hk, size_eq]
      rcases Nat.le_total s.data.toList.length 31 with h | h
      · rw [Nat.min_eq_left h, List.take_length, List.take_of_length_le h]
      · rw [Nat.min_eq_right h]
    have hfn := fun W hTW => findNumber_any t W (by omega) (by omega) hTW
    rw [hr]
    rw [htl] at hfn
    generalize numL (s.data.toList.take 31) = R at hfn ⊢
    have HN := hid hfn
    have HT := hid hT
    clear hfn hT hr htl h35' hpf
    have hk1 : k ≤ s.size := by omega
    have hk2 : k ≤ 31 := by omega
    clear hk htz
    go_enter Tryz.func64, Tryz.ntmps64
    go_wp2_with (first | (go_at_call 88; refine (HP.out _).mono ?_; rintro e W0 ⟨rfl, rfl⟩) | (go_at_call 89; refine (HN.out _ HT.out).mono ?_; rintro e W1 ⟨rfl, rfl⟩))
    refine bodyPost_ret (v := .tuple #[.int .i64 (R.1 : Int), .int .i32 R.2]) ?_ rfl ⟨rfl, Below.refl _ _⟩
    simp [results, Tryz.results64, go_sem]
end Go.Proofs.YtndglhflbenloaaGreatDoor
