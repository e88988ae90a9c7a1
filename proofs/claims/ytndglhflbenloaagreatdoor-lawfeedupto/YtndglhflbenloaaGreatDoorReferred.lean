/-
  scrubref.referred: its walk.
-/
import Derived.Test.YtndglhflbenloaaGreatDoorNamed
import Derived.Test.YtndglhflbenloaaGreatDoorFindRef
namespace Go.Proofs.YtndglhflbenloaaGreatDoor
open Go.RowKit Go.Lib

theorem str_ne {s : ByteArray} (h : 0 < s.size) : (s.toList == (⟨#[]⟩ : ByteArray).toList) = false := by
  refine beq_eq_false_iff_ne.2 (fun h2 => ?_)
  rw [Lib.toList_data, Lib.toList_data] at h2
  have h3 : s.data.toList.length = 0 := by rw [h2]; rfl
  rw [← size_eq] at h3
  omega
theorem str_full {s : ByteArray} (h : 0 < s.size) : s.toList.isEmpty = false := by
  rw [Lib.toList_data]
  rw [size_eq] at h
  cases hs : s.data.toList with
  | nil => rw [hs] at h; simp at h
  | cons a l => rfl
theorem name_take (L : List UInt8) : (name2 L eitherT closedT).1 = L.take (nameL L).1 ∧ (name2 L eitherT closedT).2 = (nameL L).2 :=
  ⟨(names_eq L eitherT closedT eitherT_ok closedT_ok).1, (names_eq L eitherT closedT eitherT_ok closedT_ok).2.1⟩
theorem goesL_at {L : List UInt8} {n : Nat} {y : UInt8} (h : L[n]? = some y) : goesL (L.drop n) = goesB y := by
  obtain ⟨h1, h2⟩ := List.getElem?_eq_some_iff.1 h
  rw [List.drop_eq_getElem_cons h1, h2]
  rfl
theorem goes_split (z : Int) : goesZ z = ((z == 61) || isLetZ z || isDigZ z) := by
  rw [Bool.eq_iff_iff]
  simp [goesZ, isLetZ, isDigZ]
  omega

set_option maxHeartbeats 4000000 in
set_option maxRecDepth 100000 in
theorem referred_any (s : ByteArray) (attr : Bool) (w : World) (hs : s.size ≤ 140737488355328) (hT : RefTabs w) :
    Calls Tryz.prog 70 #[.string s, .bool attr] w fun e w' => ∃ v : Int, e = .returned (.tuple #[.int .i64 v, .int .i64 ((refL attr s.data.toList).1 : Int)]) ∧ ((refL attr s.data.toList).1 ≠ 0 → v = (refL attr s.data.toList).2) ∧ Below w.heap.size w w' := by
  cases h35 : (s.data.toList[0]? == some 35)
  · have hne : ¬ s.data.toList[0]? = some 35 := by simpa using h35
    have hr : refL attr s.data.toList = if attr = true ∧ 0 < (nameL s.data.toList).1 ∧ s.data.toList[(nameL s.data.toList).1 - 1]? ≠ some 59 ∧ goesL (s.data.toList.drop (nameL s.data.toList).1) = true then (0, 0) else nameL s.data.toList := by
      unfold refL; rw [if_neg hne]
    have h0 : ¬ 0 < s.size ∨ ∃ (h : 0 < s.size) (x : UInt8), s[0]'h = x ∧ ((x.toNat : Int) == 35) = false := by
      by_cases h : 0 < s.size
      · refine .inr ⟨h, _, rfl, beq_eq_false_iff_ne.2 (fun h2 => hne ?_)⟩
        rw [getElem_list h rfl]
        exact congrArg some (UInt8.toNat_inj.1 (by simp; omega))
      · exact .inl h
    have hnm := fun W hTW => named_any s W hTW
    obtain ⟨ht1, ht2⟩ := name_take s.data.toList
    have hnl := name_le s.data.toList
    rw [ht1, ht2] at hnm
    rw [hr]
    clear hr hne h35 ht1 ht2
    obtain ⟨R, hR⟩ : ∃ R, nameL s.data.toList = R := ⟨_, rfl⟩
    rw [hR] at hnm hnl ⊢
    clear hR
    obtain ⟨n, c⟩ := R
    simp only at hnm hnl ⊢
    obtain ⟨nb, hnb⟩ : ∃ nb : ByteArray, (⟨(s.data.toList.take n).toArray⟩ : ByteArray) = nb := ⟨_, rfl⟩
    rw [hnb] at hnm
    have hnz : nb.size = n := by
      rw [size_eq, ← hnb]
      simp only [List.length_take]
      omega
    rw [← size_eq] at hnl
    have HN := hid hnm
    have HT := hid hT
    clear hnm hT
    by_cases hn0 : n = 0
    · subst hn0
      have hnb0 : nb = ⟨#[]⟩ := by rw [← hnb]; rfl
      subst hnb0
      rw [if_neg (by simp)]
      clear hnb hnz
      rcases h0 with h0 | ⟨h0, x0, hx0, q0⟩
      all_goals
        go_enter Tryz.func70, Tryz.ntmps70
        go_wp2_with (go_at_call 95; refine (HN.out _ HT.out).mono ?_; rintro e W1 ⟨rfl, rfl⟩)
        refine bodyPost_ret (v := .tuple #[.int .i64 0, .int .i64 0]) ?_ rfl ⟨0, rfl, fun h => absurd rfl h, Below.refl _ _⟩
        simp [results, Tryz.results70, go_sem]
    · obtain ⟨m, rfl⟩ : ∃ m, n = m + 1 := ⟨n - 1, by omega⟩
      have hss : 0 < s.size := by omega
      obtain ⟨h0, x0, hx0, q0⟩ := h0.resolve_left (fun h => h hss)
      have hm : m < s.size := by omega
      have hmn : m < nb.size := by omega
      have hnn := str_ne (s := nb) (by omega)
      have hnn2 := str_full (s := nb) (by omega)
      obtain ⟨x, hx⟩ : ∃ x, nb[m]'hmn = x := ⟨_, rfl⟩
      have hxl : s.data.toList[m]? = some x := by
        have := getElem_list hmn hx
        rw [← hnb] at this
        rw [← this]
        show s.data.toList[m]? = (s.data.toList.take (m + 1))[m]?
        rw [List.getElem?_take_of_lt (by omega)]
      rw [show m + 1 - 1 = m from rfl, hxl]
      clear hnb hm hss
      obtain ⟨b1, hb1⟩ : ∃ b1, ((x.toNat : Int) != 59) = b1 := ⟨_, rfl⟩
      have hx9 : (some x ≠ some 59) ↔ b1 = true := by
        rw [← hb1, bne_iff_ne]
        constructor
        · intro h h2; exact h (congrArg some (UInt8.toNat_inj.1 (by simp; omega)))
        · intro h h2; exact h (by rw [Option.some.inj h2]; rfl)
      simp only [hx9]
      by_cases hlt : m + 1 < s.size
      · obtain ⟨y, hy⟩ : ∃ y, s[m + 1]'hlt = y := ⟨_, rfl⟩
        rw [goesL_at (getElem_list hlt hy), ← goesZ_B, goes_split]
        have hyl := y.toNat_lt
        have hc := fun W => refLet_any (y.toNat : Int) (by omega) (by omega) W
        have hd := fun W => refDig_any (y.toNat : Int) (by omega) (by omega) W
        obtain ⟨z, hz⟩ : ∃ z : Int, (y.toNat : Int) = z := ⟨_, rfl⟩
        rw [hz] at hc hd ⊢
        generalize isLetZ z = b3 at hc ⊢
        generalize isDigZ z = b4 at hd ⊢
        obtain ⟨b2, hb2⟩ : ∃ b2, (z == 61) = b2 := ⟨_, rfl⟩
        rw [hb2]
        have HC := hid hc
        have HD := hid hd
        clear hc hd hxl hx9 hyl
        cases attr <;> cases b1 <;> cases b2 <;> cases b3 <;> cases b4
        all_goals simp only [Bool.or_true, Bool.or_false, Bool.false_eq_true, and_false, and_true, if_false, if_true, Nat.zero_lt_succ]
        all_goals
          go_enter Tryz.func70, Tryz.ntmps70
          go_wp2_with (first | (go_at_call 95; refine (HN.out _ HT.out).mono ?_; rintro e W1 ⟨rfl, rfl⟩) | (go_at_call 84; refine (HC.out _).mono ?_; rintro e W1 ⟨rfl, rfl⟩) | (go_at_call 96; refine (HD.out _).mono ?_; rintro e W1 ⟨rfl, rfl⟩))
        all_goals first
          | (refine bodyPost_ret (v := .tuple #[.int .i64 c, .int .i64 ((m + 1 : Nat) : Int)]) ?_ rfl ⟨c, rfl, fun _ => rfl, Below.refl _ _⟩; simp [results, Tryz.results70, go_sem]; done)
          | (refine bodyPost_ret (v := .tuple #[.int .i64 0, .int .i64 0]) ?_ rfl ⟨0, rfl, fun h => absurd rfl h, Below.refl _ _⟩; simp [results, Tryz.results70, go_sem]; done)
      · have hgl : goesL (s.data.toList.drop (m + 1)) = false := by
          rw [List.drop_of_length_le (by rw [← size_eq]; omega)]
          rfl
        rw [hgl, if_neg (by simp)]
        clear hxl hx9 hgl
        cases attr <;> cases b1
        all_goals
          go_enter Tryz.func70, Tryz.ntmps70
          go_wp2_with (go_at_call 95; refine (HN.out _ HT.out).mono ?_; rintro e W1 ⟨rfl, rfl⟩)
          refine bodyPost_ret (v := .tuple #[.int .i64 c, .int .i64 ((m + 1 : Nat) : Int)]) ?_ rfl ⟨c, rfl, fun _ => rfl, Below.refl _ _⟩
          simp [results, Tryz.results70, go_sem]
  · have h35' : s.data.toList[0]? = some 35 := by simpa using h35
    have hr : refL attr s.data.toList = numL (s.data.toList.take 31) := by unfold refL; rw [if_pos h35']
    have h1 : 1 ≤ s.size := by
      rw [size_eq]
      exact (List.getElem?_eq_some_iff.1 h35').1
    have h1' : 0 < s.size := h1
    obtain ⟨x, hx⟩ : ∃ x, s[0]'h1' = x := ⟨_, rfl⟩
    have q : ((x.toNat : Int) == 35) = true := by
      have := getElem_list h1' hx
      rw [this] at h35'
      rw [Option.some.inj h35']
      rfl
    have hfn := fun W => number_any s W h1 hs
    rw [hr]
    generalize numL (s.data.toList.take 31) = R at hfn ⊢
    have HN := hid hfn
    clear hfn hr h35' h35
    go_enter Tryz.func70, Tryz.ntmps70
    go_wp2_with (go_at_call 94; refine (HN.out _).mono ?_; rintro e W1 ⟨rfl, b1⟩)
    refine bodyPost_ret (v := .tuple #[.int .i64 R.2, .int .i64 (R.1 : Int)]) ?_ rfl ⟨R.2, rfl, fun _ => rfl, by assumption⟩
    simp [results, Tryz.results70, go_sem]
end Go.Proofs.YtndglhflbenloaaGreatDoor
