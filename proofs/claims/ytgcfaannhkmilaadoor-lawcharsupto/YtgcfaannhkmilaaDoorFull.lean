/-
  utf8.FullRuneInString: its walk.
-/
import Derived.Test.YtgcfaannhkmilaaDoorHidden
namespace Go.Proofs.YtgcfaannhkmilaaDoor
open Go.RowKit Go.Lib

set_option maxHeartbeats 4000000 in
set_option maxRecDepth 100000 in
theorem full_any (s : ByteArray) (w : World) (hT : Utf8Tabs 0 1 w) (h0 : 0 < s.size) :
    Calls Tryd.prog 12 #[.string s] w fun e w' => e = .returned (.bool (fullL s.data.toList)) ∧ Below w.heap.size w w' := by
  have hz0 : ¬ ((s.size : Int) = 0) := by omega
  have hz1 : (0 : Int) < (s.size : Int) := by omega
  obtain ⟨x0, hx0⟩ : ∃ x0, s.get! 0 = x0 := ⟨_, rfl⟩
  obtain ⟨x1, hx1⟩ : ∃ x1, s.get! 1 = x1 := ⟨_, rfl⟩
  obtain ⟨x2, hx2⟩ : ∃ x2, s.get! 2 = x2 := ⟨_, rfl⟩
  have hs0 : s[0]'(by omega) = x0 := by rw [← hx0]; exact (Utf8W.get!_of_lt s 0 (by omega)).symm
  have hfull : fullL s.data.toList = fullN s.size x0.toNat x1.toNat x2.toNat := by
    unfold fullL
    rw [getD_get!', getD_get!', getD_get!', ← size_eq, hx0, hx1, hx2]
  rw [hfull]
  clear hfull
  have l0 := x0.toNat_lt; have l1 := x1.toNat_lt; have l2 := x2.toNat_lt
  have hc0 := hT.1 x0.toNat (by omega)
  obtain ⟨r, hr⟩ : ∃ r, fullN s.size x0.toNat x1.toNat x2.toNat = r := ⟨_, rfl⟩
  rw [hr]
  have HR : Hid (fullN s.size x0.toNat x1.toNat x2.toNat = r) := hr
  clear hr
  rcases Lib.firstT_cases x0.toNat with hX | hX | hX | hX | hX | hX | hX | hX | hX
  all_goals rw [hX] at hc0
  · have HX : Hid (firstT x0.toNat = 240) := hX
    clear hT hX
    go_enter Tryd.func12, Tryd.ntmps12
    go_wp2
    go_ret
    exact ⟨ret_bool (by rw [← HR.out]; simp only [fullN, HX.out]; symm; rw [decide_eq_true_iff]; omega), Below.refl _ _⟩
  · have HX : Hid (firstT x0.toNat = 241) := hX
    clear hT hX
    go_enter Tryd.func12, Tryd.ntmps12
    go_wp2
    go_ret
    exact ⟨ret_bool (by rw [← HR.out]; simp only [fullN, HX.out]; symm; rw [decide_eq_true_iff]; omega), Below.refl _ _⟩
  · have ha0 : w.cell? ⟨1, 0, none⟩ = some (.int .u8 128) := (hT.2 0 (by omega)).1
    have ha1 : w.cell? ⟨1, 1, none⟩ = some (.int .u8 191) := (hT.2 0 (by omega)).2
    have HX : Hid (firstT x0.toNat = 2) := hX
    clear hT hX
    by_cases hn : 2 ≤ s.size
    · have hnz : ¬ (s.size : Int) < 2 := by omega
      go_enter Tryd.func12, Tryd.ntmps12
      go_wp2
      go_ret
      exact ⟨ret_bool (by rw [← HR.out]; simp only [fullN, HX.out, accLo, accHi, Nat.reduceEqDiff, Nat.reduceDiv, if_true, if_false]; symm; first | rw [decide_eq_true_iff]; omega | rw [decide_eq_false_iff_not]; omega), Below.refl _ _⟩
    · have hnz : (s.size : Int) < 2 := by omega
      by_cases h1 : s.size = 1
      · have hg1 : decide ((1 : Int) < (s.size : Int)) = false := by simp; omega
        have hg2 : decide ((2 : Int) < (s.size : Int)) = false := by simp; omega
        go_enter Tryd.func12, Tryd.ntmps12
        go_wp2
        go_quiet (fail)
        go_wp2
        go_ret
        exact ⟨ret_bool (by rw [← HR.out]; simp only [fullN, HX.out, accLo, accHi, Nat.reduceEqDiff, Nat.reduceDiv, if_true, if_false]; symm; first | rw [decide_eq_true_iff]; omega | rw [decide_eq_false_iff_not]; omega), below_drewN ((Below.refl _ _).alloc (Nat.le_refl _) _) _⟩
      · exfalso; omega
  · have ha0 : w.cell? ⟨1, 2, none⟩ = some (.int .u8 160) := (hT.2 1 (by omega)).1
    have ha1 : w.cell? ⟨1, 3, none⟩ = some (.int .u8 191) := (hT.2 1 (by omega)).2
    have HX : Hid (firstT x0.toNat = 19) := hX
    clear hT hX
    by_cases hn : 3 ≤ s.size
    · have hnz : ¬ (s.size : Int) < 3 := by omega
      go_enter Tryd.func12, Tryd.ntmps12
      go_wp2
      go_ret
      exact ⟨ret_bool (by rw [← HR.out]; simp only [fullN, HX.out, accLo, accHi, Nat.reduceEqDiff, Nat.reduceDiv, if_true, if_false]; symm; first | rw [decide_eq_true_iff]; omega | rw [decide_eq_false_iff_not]; omega), Below.refl _ _⟩
    · have hnz : (s.size : Int) < 3 := by omega
      by_cases h1 : s.size = 1
      · have hg1 : decide ((1 : Int) < (s.size : Int)) = false := by simp; omega
        have hg2 : decide ((2 : Int) < (s.size : Int)) = false := by simp; omega
        go_enter Tryd.func12, Tryd.ntmps12
        go_wp2
        go_quiet (fail)
        go_wp2
        go_ret
        exact ⟨ret_bool (by rw [← HR.out]; simp only [fullN, HX.out, accLo, accHi, Nat.reduceEqDiff, Nat.reduceDiv, if_true, if_false]; symm; first | rw [decide_eq_true_iff]; omega | rw [decide_eq_false_iff_not]; omega), below_drewN ((Below.refl _ _).alloc (Nat.le_refl _) _) _⟩
      · have hz2 : (1 : Int) < (s.size : Int) := by omega
        have hs1 : s[1]'(by omega) = x1 := by rw [← hx1]; exact (Utf8W.get!_of_lt s 1 (by omega)).symm
        by_cases c1 : (x1.toNat : Int) < 160
        · have q1 : decide ((x1.toNat : Int) < 160) = true := by simpa using c1
          go_enter Tryd.func12, Tryd.ntmps12
          go_wp2
          go_quiet (fail)
          go_wp2
          go_ret
          exact ⟨ret_bool (by rw [← HR.out]; simp only [fullN, HX.out, accLo, accHi, Nat.reduceEqDiff, Nat.reduceDiv, if_true, if_false]; symm; first | rw [decide_eq_true_iff]; omega | rw [decide_eq_false_iff_not]; omega), below_drewN ((Below.refl _ _).alloc (Nat.le_refl _) _) _⟩
        · have q1 : decide ((x1.toNat : Int) < 160) = false := by simpa using c1
          by_cases c2 : 191 < (x1.toNat : Int)
          · have q2 : decide ((191 : Int) < (x1.toNat : Int)) = true := by simpa using c2
            go_enter Tryd.func12, Tryd.ntmps12
            go_wp2
            go_quiet (fail)
            go_wp2
            go_ret
            exact ⟨ret_bool (by rw [← HR.out]; simp only [fullN, HX.out, accLo, accHi, Nat.reduceEqDiff, Nat.reduceDiv, if_true, if_false]; symm; first | rw [decide_eq_true_iff]; omega | rw [decide_eq_false_iff_not]; omega), below_drewN ((Below.refl _ _).alloc (Nat.le_refl _) _) _⟩
          · have q2 : decide ((191 : Int) < (x1.toNat : Int)) = false := by simpa using c2
            have hg2 : decide ((2 : Int) < (s.size : Int)) = false := by simp; omega
            go_enter Tryd.func12, Tryd.ntmps12
            go_wp2
            go_quiet (fail)
            go_wp2
            go_ret
            exact ⟨ret_bool (by rw [← HR.out]; simp only [fullN, HX.out, accLo, accHi, Nat.reduceEqDiff, Nat.reduceDiv, if_true, if_false]; symm; first | rw [decide_eq_true_iff]; omega | rw [decide_eq_false_iff_not]; omega), below_drewN ((Below.refl _ _).alloc (Nat.le_refl _) _) _⟩
  · have ha0 : w.cell? ⟨1, 0, none⟩ = some (.int .u8 128) := (hT.2 0 (by omega)).1
    have ha1 : w.cell? ⟨1, 1, none⟩ = some (.int .u8 191) := (hT.2 0 (by omega)).2
    have HX : Hid (firstT x0.toNat = 3) := hX
    clear hT hX
    by_cases hn : 3 ≤ s.size
    · have hnz : ¬ (s.size : Int) < 3 := by omega
      go_enter Tryd.func12, Tryd.ntmps12
      go_wp2
      go_ret
      exact ⟨ret_bool (by rw [← HR.out]; simp only [fullN, HX.out, accLo, accHi, Nat.reduceEqDiff, Nat.reduceDiv, if_true, if_false]; symm; first | rw [decide_eq_true_iff]; omega | rw [decide_eq_false_iff_not]; omega), Below.refl _ _⟩
    · have hnz : (s.size : Int) < 3 := by omega
      by_cases h1 : s.size = 1
      · have hg1 : decide ((1 : Int) < (s.size : Int)) = false := by simp; omega
        have hg2 : decide ((2 : Int) < (s.size : Int)) = false := by simp; omega
        go_enter Tryd.func12, Tryd.ntmps12
        go_wp2
        go_quiet (fail)
        go_wp2
        go_ret
        exact ⟨ret_bool (by rw [← HR.out]; simp only [fullN, HX.out, accLo, accHi, Nat.reduceEqDiff, Nat.reduceDiv, if_true, if_false]; symm; first | rw [decide_eq_true_iff]; omega | rw [decide_eq_false_iff_not]; omega), below_drewN ((Below.refl _ _).alloc (Nat.le_refl _) _) _⟩
      · have hz2 : (1 : Int) < (s.size : Int) := by omega
        have hs1 : s[1]'(by omega) = x1 := by rw [← hx1]; exact (Utf8W.get!_of_lt s 1 (by omega)).symm
        by_cases c1 : (x1.toNat : Int) < 128
        · have q1 : decide ((x1.toNat : Int) < 128) = true := by simpa using c1
          go_enter Tryd.func12, Tryd.ntmps12
          go_wp2
          go_quiet (fail)
          go_wp2
          go_ret
          exact ⟨ret_bool (by rw [← HR.out]; simp only [fullN, HX.out, accLo, accHi, Nat.reduceEqDiff, Nat.reduceDiv, if_true, if_false]; symm; first | rw [decide_eq_true_iff]; omega | rw [decide_eq_false_iff_not]; omega), below_drewN ((Below.refl _ _).alloc (Nat.le_refl _) _) _⟩
        · have q1 : decide ((x1.toNat : Int) < 128) = false := by simpa using c1
          by_cases c2 : 191 < (x1.toNat : Int)
          · have q2 : decide ((191 : Int) < (x1.toNat : Int)) = true := by simpa using c2
            go_enter Tryd.func12, Tryd.ntmps12
            go_wp2
            go_quiet (fail)
            go_wp2
            go_ret
            exact ⟨ret_bool (by rw [← HR.out]; simp only [fullN, HX.out, accLo, accHi, Nat.reduceEqDiff, Nat.reduceDiv, if_true, if_false]; symm; first | rw [decide_eq_true_iff]; omega | rw [decide_eq_false_iff_not]; omega), below_drewN ((Below.refl _ _).alloc (Nat.le_refl _) _) _⟩
          · have q2 : decide ((191 : Int) < (x1.toNat : Int)) = false := by simpa using c2
            have hg2 : decide ((2 : Int) < (s.size : Int)) = false := by simp; omega
            go_enter Tryd.func12, Tryd.ntmps12
            go_wp2
            go_quiet (fail)
            go_wp2
            go_ret
            exact ⟨ret_bool (by rw [← HR.out]; simp only [fullN, HX.out, accLo, accHi, Nat.reduceEqDiff, Nat.reduceDiv, if_true, if_false]; symm; first | rw [decide_eq_true_iff]; omega | rw [decide_eq_false_iff_not]; omega), below_drewN ((Below.refl _ _).alloc (Nat.le_refl _) _) _⟩
  · have ha0 : w.cell? ⟨1, 4, none⟩ = some (.int .u8 128) := (hT.2 2 (by omega)).1
    have ha1 : w.cell? ⟨1, 5, none⟩ = some (.int .u8 159) := (hT.2 2 (by omega)).2
    have HX : Hid (firstT x0.toNat = 35) := hX
    clear hT hX
    by_cases hn : 3 ≤ s.size
    · have hnz : ¬ (s.size : Int) < 3 := by omega
      go_enter Tryd.func12, Tryd.ntmps12
      go_wp2
      go_ret
      exact ⟨ret_bool (by rw [← HR.out]; simp only [fullN, HX.out, accLo, accHi, Nat.reduceEqDiff, Nat.reduceDiv, if_true, if_false]; symm; first | rw [decide_eq_true_iff]; omega | rw [decide_eq_false_iff_not]; omega), Below.refl _ _⟩
    · have hnz : (s.size : Int) < 3 := by omega
      by_cases h1 : s.size = 1
      · have hg1 : decide ((1 : Int) < (s.size : Int)) = false := by simp; omega
        have hg2 : decide ((2 : Int) < (s.size : Int)) = false := by simp; omega
        go_enter Tryd.func12, Tryd.ntmps12
        go_wp2
        go_quiet (fail)
        go_wp2
        go_ret
        exact ⟨ret_bool (by rw [← HR.out]; simp only [fullN, HX.out, accLo, accHi, Nat.reduceEqDiff, Nat.reduceDiv, if_true, if_false]; symm; first | rw [decide_eq_true_iff]; omega | rw [decide_eq_false_iff_not]; omega), below_drewN ((Below.refl _ _).alloc (Nat.le_refl _) _) _⟩
      · have hz2 : (1 : Int) < (s.size : Int) := by omega
        have hs1 : s[1]'(by omega) = x1 := by rw [← hx1]; exact (Utf8W.get!_of_lt s 1 (by omega)).symm
        by_cases c1 : (x1.toNat : Int) < 128
        · have q1 : decide ((x1.toNat : Int) < 128) = true := by simpa using c1
          go_enter Tryd.func12, Tryd.ntmps12
          go_wp2
          go_quiet (fail)
          go_wp2
          go_ret
          exact ⟨ret_bool (by rw [← HR.out]; simp only [fullN, HX.out, accLo, accHi, Nat.reduceEqDiff, Nat.reduceDiv, if_true, if_false]; symm; first | rw [decide_eq_true_iff]; omega | rw [decide_eq_false_iff_not]; omega), below_drewN ((Below.refl _ _).alloc (Nat.le_refl _) _) _⟩
        · have q1 : decide ((x1.toNat : Int) < 128) = false := by simpa using c1
          by_cases c2 : 159 < (x1.toNat : Int)
          · have q2 : decide ((159 : Int) < (x1.toNat : Int)) = true := by simpa using c2
            go_enter Tryd.func12, Tryd.ntmps12
            go_wp2
            go_quiet (fail)
            go_wp2
            go_ret
            exact ⟨ret_bool (by rw [← HR.out]; simp only [fullN, HX.out, accLo, accHi, Nat.reduceEqDiff, Nat.reduceDiv, if_true, if_false]; symm; first | rw [decide_eq_true_iff]; omega | rw [decide_eq_false_iff_not]; omega), below_drewN ((Below.refl _ _).alloc (Nat.le_refl _) _) _⟩
          · have q2 : decide ((159 : Int) < (x1.toNat : Int)) = false := by simpa using c2
            have hg2 : decide ((2 : Int) < (s.size : Int)) = false := by simp; omega
            go_enter Tryd.func12, Tryd.ntmps12
            go_wp2
            go_quiet (fail)
            go_wp2
            go_ret
            exact ⟨ret_bool (by rw [← HR.out]; simp only [fullN, HX.out, accLo, accHi, Nat.reduceEqDiff, Nat.reduceDiv, if_true, if_false]; symm; first | rw [decide_eq_true_iff]; omega | rw [decide_eq_false_iff_not]; omega), below_drewN ((Below.refl _ _).alloc (Nat.le_refl _) _) _⟩
  · have ha0 : w.cell? ⟨1, 6, none⟩ = some (.int .u8 144) := (hT.2 3 (by omega)).1
    have ha1 : w.cell? ⟨1, 7, none⟩ = some (.int .u8 191) := (hT.2 3 (by omega)).2
    have HX : Hid (firstT x0.toNat = 52) := hX
    clear hT hX
    by_cases hn : 4 ≤ s.size
    · have hnz : ¬ (s.size : Int) < 4 := by omega
      go_enter Tryd.func12, Tryd.ntmps12
      go_wp2
      go_ret
      exact ⟨ret_bool (by rw [← HR.out]; simp only [fullN, HX.out, accLo, accHi, Nat.reduceEqDiff, Nat.reduceDiv, if_true, if_false]; symm; first | rw [decide_eq_true_iff]; omega | rw [decide_eq_false_iff_not]; omega), Below.refl _ _⟩
    · have hnz : (s.size : Int) < 4 := by omega
      by_cases h1 : s.size = 1
      · have hg1 : decide ((1 : Int) < (s.size : Int)) = false := by simp; omega
        have hg2 : decide ((2 : Int) < (s.size : Int)) = false := by simp; omega
        go_enter Tryd.func12, Tryd.ntmps12
        go_wp2
        go_quiet (fail)
        go_wp2
        go_ret
        exact ⟨ret_bool (by rw [← HR.out]; simp only [fullN, HX.out, accLo, accHi, Nat.reduceEqDiff, Nat.reduceDiv, if_true, if_false]; symm; first | rw [decide_eq_true_iff]; omega | rw [decide_eq_false_iff_not]; omega), below_drewN ((Below.refl _ _).alloc (Nat.le_refl _) _) _⟩
      · have hz2 : (1 : Int) < (s.size : Int) := by omega
        have hs1 : s[1]'(by omega) = x1 := by rw [← hx1]; exact (Utf8W.get!_of_lt s 1 (by omega)).symm
        by_cases c1 : (x1.toNat : Int) < 144
        · have q1 : decide ((x1.toNat : Int) < 144) = true := by simpa using c1
          go_enter Tryd.func12, Tryd.ntmps12
          go_wp2
          go_quiet (fail)
          go_wp2
          go_ret
          exact ⟨ret_bool (by rw [← HR.out]; simp only [fullN, HX.out, accLo, accHi, Nat.reduceEqDiff, Nat.reduceDiv, if_true, if_false]; symm; first | rw [decide_eq_true_iff]; omega | rw [decide_eq_false_iff_not]; omega), below_drewN ((Below.refl _ _).alloc (Nat.le_refl _) _) _⟩
        · have q1 : decide ((x1.toNat : Int) < 144) = false := by simpa using c1
          by_cases c2 : 191 < (x1.toNat : Int)
          · have q2 : decide ((191 : Int) < (x1.toNat : Int)) = true := by simpa using c2
            go_enter Tryd.func12, Tryd.ntmps12
            go_wp2
            go_quiet (fail)
            go_wp2
            go_ret
            exact ⟨ret_bool (by rw [← HR.out]; simp only [fullN, HX.out, accLo, accHi, Nat.reduceEqDiff, Nat.reduceDiv, if_true, if_false]; symm; first | rw [decide_eq_true_iff]; omega | rw [decide_eq_false_iff_not]; omega), below_drewN ((Below.refl _ _).alloc (Nat.le_refl _) _) _⟩
          · have q2 : decide ((191 : Int) < (x1.toNat : Int)) = false := by simpa using c2
            by_cases h2 : s.size = 2
            · have hg2 : decide ((2 : Int) < (s.size : Int)) = false := by simp; omega
              go_enter Tryd.func12, Tryd.ntmps12
              go_wp2
              go_quiet (fail)
              go_wp2
              go_ret
              exact ⟨ret_bool (by rw [← HR.out]; simp only [fullN, HX.out, accLo, accHi, Nat.reduceEqDiff, Nat.reduceDiv, if_true, if_false]; symm; first | rw [decide_eq_true_iff]; omega | rw [decide_eq_false_iff_not]; omega), below_drewN ((Below.refl _ _).alloc (Nat.le_refl _) _) _⟩
            · have hz3 : (2 : Int) < (s.size : Int) := by omega
              have hs2 : s[2]'(by omega) = x2 := by rw [← hx2]; exact (Utf8W.get!_of_lt s 2 (by omega)).symm
              by_cases c3 : (x2.toNat : Int) < 128
              · have q3 : decide ((x2.toNat : Int) < 128) = true := by simpa using c3
                go_enter Tryd.func12, Tryd.ntmps12
                go_wp2
                go_quiet (fail)
                go_wp2
                go_ret
                exact ⟨ret_bool (by rw [← HR.out]; simp only [fullN, HX.out, accLo, accHi, Nat.reduceEqDiff, Nat.reduceDiv, if_true, if_false]; symm; first | rw [decide_eq_true_iff]; omega | rw [decide_eq_false_iff_not]; omega), below_drewN ((Below.refl _ _).alloc (Nat.le_refl _) _) _⟩
              · have q3 : decide ((x2.toNat : Int) < 128) = false := by simpa using c3
                by_cases c4 : 191 < (x2.toNat : Int)
                · have q4 : decide ((191 : Int) < (x2.toNat : Int)) = true := by simpa using c4
                  go_enter Tryd.func12, Tryd.ntmps12
                  go_wp2
                  go_quiet (fail)
                  go_wp2
                  go_ret
                  exact ⟨ret_bool (by rw [← HR.out]; simp only [fullN, HX.out, accLo, accHi, Nat.reduceEqDiff, Nat.reduceDiv, if_true, if_false]; symm; first | rw [decide_eq_true_iff]; omega | rw [decide_eq_false_iff_not]; omega), below_drewN ((Below.refl _ _).alloc (Nat.le_refl _) _) _⟩
                · have q4 : decide ((191 : Int) < (x2.toNat : Int)) = false := by simpa using c4
                  go_enter Tryd.func12, Tryd.ntmps12
                  go_wp2
                  go_quiet (fail)
                  go_wp2
                  go_ret
                  exact ⟨ret_bool (by rw [← HR.out]; simp only [fullN, HX.out, accLo, accHi, Nat.reduceEqDiff, Nat.reduceDiv, if_true, if_false]; symm; first | rw [decide_eq_true_iff]; omega | rw [decide_eq_false_iff_not]; omega), below_drewN ((Below.refl _ _).alloc (Nat.le_refl _) _) _⟩
  · have ha0 : w.cell? ⟨1, 0, none⟩ = some (.int .u8 128) := (hT.2 0 (by omega)).1
    have ha1 : w.cell? ⟨1, 1, none⟩ = some (.int .u8 191) := (hT.2 0 (by omega)).2
    have HX : Hid (firstT x0.toNat = 4) := hX
    clear hT hX
    by_cases hn : 4 ≤ s.size
    · have hnz : ¬ (s.size : Int) < 4 := by omega
      go_enter Tryd.func12, Tryd.ntmps12
      go_wp2
      go_ret
      exact ⟨ret_bool (by rw [← HR.out]; simp only [fullN, HX.out, accLo, accHi, Nat.reduceEqDiff, Nat.reduceDiv, if_true, if_false]; symm; first | rw [decide_eq_true_iff]; omega | rw [decide_eq_false_iff_not]; omega), Below.refl _ _⟩
    · have hnz : (s.size : Int) < 4 := by omega
      by_cases h1 : s.size = 1
      · have hg1 : decide ((1 : Int) < (s.size : Int)) = false := by simp; omega
        have hg2 : decide ((2 : Int) < (s.size : Int)) = false := by simp; omega
        go_enter Tryd.func12, Tryd.ntmps12
        go_wp2
        go_quiet (fail)
        go_wp2
        go_ret
        exact ⟨ret_bool (by rw [← HR.out]; simp only [fullN, HX.out, accLo, accHi, Nat.reduceEqDiff, Nat.reduceDiv, if_true, if_false]; symm; first | rw [decide_eq_true_iff]; omega | rw [decide_eq_false_iff_not]; omega), below_drewN ((Below.refl _ _).alloc (Nat.le_refl _) _) _⟩
      · have hz2 : (1 : Int) < (s.size : Int) := by omega
        have hs1 : s[1]'(by omega) = x1 := by rw [← hx1]; exact (Utf8W.get!_of_lt s 1 (by omega)).symm
        by_cases c1 : (x1.toNat : Int) < 128
        · have q1 : decide ((x1.toNat : Int) < 128) = true := by simpa using c1
          go_enter Tryd.func12, Tryd.ntmps12
          go_wp2
          go_quiet (fail)
          go_wp2
          go_ret
          exact ⟨ret_bool (by rw [← HR.out]; simp only [fullN, HX.out, accLo, accHi, Nat.reduceEqDiff, Nat.reduceDiv, if_true, if_false]; symm; first | rw [decide_eq_true_iff]; omega | rw [decide_eq_false_iff_not]; omega), below_drewN ((Below.refl _ _).alloc (Nat.le_refl _) _) _⟩
        · have q1 : decide ((x1.toNat : Int) < 128) = false := by simpa using c1
          by_cases c2 : 191 < (x1.toNat : Int)
          · have q2 : decide ((191 : Int) < (x1.toNat : Int)) = true := by simpa using c2
            go_enter Tryd.func12, Tryd.ntmps12
            go_wp2
            go_quiet (fail)
            go_wp2
            go_ret
            exact ⟨ret_bool (by rw [← HR.out]; simp only [fullN, HX.out, accLo, accHi, Nat.reduceEqDiff, Nat.reduceDiv, if_true, if_false]; symm; first | rw [decide_eq_true_iff]; omega | rw [decide_eq_false_iff_not]; omega), below_drewN ((Below.refl _ _).alloc (Nat.le_refl _) _) _⟩
          · have q2 : decide ((191 : Int) < (x1.toNat : Int)) = false := by simpa using c2
            by_cases h2 : s.size = 2
            · have hg2 : decide ((2 : Int) < (s.size : Int)) = false := by simp; omega
              go_enter Tryd.func12, Tryd.ntmps12
              go_wp2
              go_quiet (fail)
              go_wp2
              go_ret
              exact ⟨ret_bool (by rw [← HR.out]; simp only [fullN, HX.out, accLo, accHi, Nat.reduceEqDiff, Nat.reduceDiv, if_true, if_false]; symm; first | rw [decide_eq_true_iff]; omega | rw [decide_eq_false_iff_not]; omega), below_drewN ((Below.refl _ _).alloc (Nat.le_refl _) _) _⟩
            · have hz3 : (2 : Int) < (s.size : Int) := by omega
              have hs2 : s[2]'(by omega) = x2 := by rw [← hx2]; exact (Utf8W.get!_of_lt s 2 (by omega)).symm
              by_cases c3 : (x2.toNat : Int) < 128
              · have q3 : decide ((x2.toNat : Int) < 128) = true := by simpa using c3
                go_enter Tryd.func12, Tryd.ntmps12
                go_wp2
                go_quiet (fail)
                go_wp2
                go_ret
                exact ⟨ret_bool (by rw [← HR.out]; simp only [fullN, HX.out, accLo, accHi, Nat.reduceEqDiff, Nat.reduceDiv, if_true, if_false]; symm; first | rw [decide_eq_true_iff]; omega | rw [decide_eq_false_iff_not]; omega), below_drewN ((Below.refl _ _).alloc (Nat.le_refl _) _) _⟩
              · have q3 : decide ((x2.toNat : Int) < 128) = false := by simpa using c3
                by_cases c4 : 191 < (x2.toNat : Int)
                · have q4 : decide ((191 : Int) < (x2.toNat : Int)) = true := by simpa using c4
                  go_enter Tryd.func12, Tryd.ntmps12
                  go_wp2
                  go_quiet (fail)
                  go_wp2
                  go_ret
                  exact ⟨ret_bool (by rw [← HR.out]; simp only [fullN, HX.out, accLo, accHi, Nat.reduceEqDiff, Nat.reduceDiv, if_true, if_false]; symm; first | rw [decide_eq_true_iff]; omega | rw [decide_eq_false_iff_not]; omega), below_drewN ((Below.refl _ _).alloc (Nat.le_refl _) _) _⟩
                · have q4 : decide ((191 : Int) < (x2.toNat : Int)) = false := by simpa using c4
                  go_enter Tryd.func12, Tryd.ntmps12
                  go_wp2
                  go_quiet (fail)
                  go_wp2
                  go_ret
                  exact ⟨ret_bool (by rw [← HR.out]; simp only [fullN, HX.out, accLo, accHi, Nat.reduceEqDiff, Nat.reduceDiv, if_true, if_false]; symm; first | rw [decide_eq_true_iff]; omega | rw [decide_eq_false_iff_not]; omega), below_drewN ((Below.refl _ _).alloc (Nat.le_refl _) _) _⟩
  · have ha0 : w.cell? ⟨1, 8, none⟩ = some (.int .u8 128) := (hT.2 4 (by omega)).1
    have ha1 : w.cell? ⟨1, 9, none⟩ = some (.int .u8 143) := (hT.2 4 (by omega)).2
    have HX : Hid (firstT x0.toNat = 68) := hX
    clear hT hX
    by_cases hn : 4 ≤ s.size
    · have hnz : ¬ (s.size : Int) < 4 := by omega
      go_enter Tryd.func12, Tryd.ntmps12
      go_wp2
      go_ret
      exact ⟨ret_bool (by rw [← HR.out]; simp only [fullN, HX.out, accLo, accHi, Nat.reduceEqDiff, Nat.reduceDiv, if_true, if_false]; symm; first | rw [decide_eq_true_iff]; omega | rw [decide_eq_false_iff_not]; omega), Below.refl _ _⟩
    · have hnz : (s.size : Int) < 4 := by omega
      by_cases h1 : s.size = 1
      · have hg1 : decide ((1 : Int) < (s.size : Int)) = false := by simp; omega
        have hg2 : decide ((2 : Int) < (s.size : Int)) = false := by simp; omega
        go_enter Tryd.func12, Tryd.ntmps12
        go_wp2
        go_quiet (fail)
        go_wp2
        go_ret
        exact ⟨ret_bool (by rw [← HR.out]; simp only [fullN, HX.out, accLo, accHi, Nat.reduceEqDiff, Nat.reduceDiv, if_true, if_false]; symm; first | rw [decide_eq_true_iff]; omega | rw [decide_eq_false_iff_not]; omega), below_drewN ((Below.refl _ _).alloc (Nat.le_refl _) _) _⟩
      · have hz2 : (1 : Int) < (s.size : Int) := by omega
        have hs1 : s[1]'(by omega) = x1 := by rw [← hx1]; exact (Utf8W.get!_of_lt s 1 (by omega)).symm
        by_cases c1 : (x1.toNat : Int) < 128
        · have q1 : decide ((x1.toNat : Int) < 128) = true := by simpa using c1
          go_enter Tryd.func12, Tryd.ntmps12
          go_wp2
          go_quiet (fail)
          go_wp2
          go_ret
          exact ⟨ret_bool (by rw [← HR.out]; simp only [fullN, HX.out, accLo, accHi, Nat.reduceEqDiff, Nat.reduceDiv, if_true, if_false]; symm; first | rw [decide_eq_true_iff]; omega | rw [decide_eq_false_iff_not]; omega), below_drewN ((Below.refl _ _).alloc (Nat.le_refl _) _) _⟩
        · have q1 : decide ((x1.toNat : Int) < 128) = false := by simpa using c1
          by_cases c2 : 143 < (x1.toNat : Int)
          · have q2 : decide ((143 : Int) < (x1.toNat : Int)) = true := by simpa using c2
            go_enter Tryd.func12, Tryd.ntmps12
            go_wp2
            go_quiet (fail)
            go_wp2
            go_ret
            exact ⟨ret_bool (by rw [← HR.out]; simp only [fullN, HX.out, accLo, accHi, Nat.reduceEqDiff, Nat.reduceDiv, if_true, if_false]; symm; first | rw [decide_eq_true_iff]; omega | rw [decide_eq_false_iff_not]; omega), below_drewN ((Below.refl _ _).alloc (Nat.le_refl _) _) _⟩
          · have q2 : decide ((143 : Int) < (x1.toNat : Int)) = false := by simpa using c2
            by_cases h2 : s.size = 2
            · have hg2 : decide ((2 : Int) < (s.size : Int)) = false := by simp; omega
              go_enter Tryd.func12, Tryd.ntmps12
              go_wp2
              go_quiet (fail)
              go_wp2
              go_ret
              exact ⟨ret_bool (by rw [← HR.out]; simp only [fullN, HX.out, accLo, accHi, Nat.reduceEqDiff, Nat.reduceDiv, if_true, if_false]; symm; first | rw [decide_eq_true_iff]; omega | rw [decide_eq_false_iff_not]; omega), below_drewN ((Below.refl _ _).alloc (Nat.le_refl _) _) _⟩
            · have hz3 : (2 : Int) < (s.size : Int) := by omega
              have hs2 : s[2]'(by omega) = x2 := by rw [← hx2]; exact (Utf8W.get!_of_lt s 2 (by omega)).symm
              by_cases c3 : (x2.toNat : Int) < 128
              · have q3 : decide ((x2.toNat : Int) < 128) = true := by simpa using c3
                go_enter Tryd.func12, Tryd.ntmps12
                go_wp2
                go_quiet (fail)
                go_wp2
                go_ret
                exact ⟨ret_bool (by rw [← HR.out]; simp only [fullN, HX.out, accLo, accHi, Nat.reduceEqDiff, Nat.reduceDiv, if_true, if_false]; symm; first | rw [decide_eq_true_iff]; omega | rw [decide_eq_false_iff_not]; omega), below_drewN ((Below.refl _ _).alloc (Nat.le_refl _) _) _⟩
              · have q3 : decide ((x2.toNat : Int) < 128) = false := by simpa using c3
                by_cases c4 : 191 < (x2.toNat : Int)
                · have q4 : decide ((191 : Int) < (x2.toNat : Int)) = true := by simpa using c4
                  go_enter Tryd.func12, Tryd.ntmps12
                  go_wp2
                  go_quiet (fail)
                  go_wp2
                  go_ret
                  exact ⟨ret_bool (by rw [← HR.out]; simp only [fullN, HX.out, accLo, accHi, Nat.reduceEqDiff, Nat.reduceDiv, if_true, if_false]; symm; first | rw [decide_eq_true_iff]; omega | rw [decide_eq_false_iff_not]; omega), below_drewN ((Below.refl _ _).alloc (Nat.le_refl _) _) _⟩
                · have q4 : decide ((191 : Int) < (x2.toNat : Int)) = false := by simpa using c4
                  go_enter Tryd.func12, Tryd.ntmps12
                  go_wp2
                  go_quiet (fail)
                  go_wp2
                  go_ret
                  exact ⟨ret_bool (by rw [← HR.out]; simp only [fullN, HX.out, accLo, accHi, Nat.reduceEqDiff, Nat.reduceDiv, if_true, if_false]; symm; first | rw [decide_eq_true_iff]; omega | rw [decide_eq_false_iff_not]; omega), below_drewN ((Below.refl _ _).alloc (Nat.le_refl _) _) _⟩
end Go.Proofs.YtgcfaannhkmilaaDoor
