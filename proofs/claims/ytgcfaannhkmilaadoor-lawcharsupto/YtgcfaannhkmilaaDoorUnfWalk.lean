/-
  scrubref.unfinished: its walk.
-/
import Derived.Test.YtgcfaannhkmilaaDoorUnf
namespace Go.Proofs.YtgcfaannhkmilaaDoor
open Go.RowKit Go.Lib

theorem charL_cat (s : ByteArray) (t : Array UInt8) : charL (s ++ ⟨t⟩).data.toList = charL (s.data.toList ++ t.toList) := by
  have : (s ++ (⟨t⟩ : ByteArray)).data.toList = s.data.toList ++ t.toList := by simp
  rw [this]

set_option maxHeartbeats 8000000 in
set_option maxRecDepth 100000 in
theorem unf_three (s : ByteArray) (w : World) (hs : s.size = 3) (c0 cl4 ch4 : Nat × Nat) (h0 : charL s.data.toList = c0) (hl4 : charL (s.data.toList ++ [128]) = cl4) (hh4 : charL (s.data.toList ++ [191]) = ch4) :
    Calls Tryd.prog 18 #[.string s] w fun e w' => e = .returned (.bool (decide (c0.2 = 0 ∧ (cl4.2 = 4 ∨ ch4.2 = 4)))) ∧ Below w.heap.size w w' := by
  have hi : (s.size : Int) = 3 := by omega
  have C0 := fun W => char_walk s W (by omega) (by omega)
  rw [h0] at C0
  have K0 := keep C0
  have Cl4 := fun W => char_walk (s ++ ⟨#[128]⟩) W (by simp only [ByteArray.size_append]; omega) (by simp only [ByteArray.size_append, hs]; decide)
  have el4 : (s ++ ⟨#[128]⟩).data.toList = s.data.toList ++ [128] := by simp
  rw [el4, hl4] at Cl4
  have Kl4 := keep Cl4
  clear Cl4 el4 hl4
  have Ch4 := fun W => char_walk (s ++ ⟨#[191]⟩) W (by simp only [ByteArray.size_append]; omega) (by simp only [ByteArray.size_append, hs]; decide)
  have eh4 : (s ++ ⟨#[191]⟩).data.toList = s.data.toList ++ [191] := by simp
  rw [eh4, hh4] at Ch4
  have Kh4 := keep Ch4
  clear Ch4 eh4 hh4
  clear C0 h0
  obtain ⟨a0, b0⟩ := c0
  obtain ⟨al4, bl4⟩ := cl4
  obtain ⟨ah4, bh4⟩ := ch4
  obtain ⟨r, hr⟩ : ∃ r, decide (b0 = 0 ∧ (bl4 = 4 ∨ bh4 = 4)) = r := ⟨_, rfl⟩
  rw [hr]
  have HR := keep hr
  clear hr
  go_enter Tryd.func18, Tryd.ntmps18
  go_wp2_with fail
  refine (K0.out _).mono ?_
  rintro e W1 ⟨rfl, b1⟩
  by_cases hz : b0 = 0
  · subst hz
    go_wp2_with fail
    refine wp_loop_rounds 2 ?_
    rw [rounds_succ]
    go_wp2_with fail
    refine wp_loop_rounds 2 ?_
    rw [rounds_succ]
    go_wp2_with fail
    rw [rounds_succ]
    go_wp2_with fail
    refine (Kl4.out _).mono ?_
    rintro e W2 ⟨rfl, b2⟩
    replace b1 := b1.trans (b2.mono b1.size)
    clear b2
    go_wp2_with fail
    refine (Kh4.out _).mono ?_
    rintro e W2 ⟨rfl, b2⟩
    replace b1 := b1.trans (b2.mono b1.size)
    clear b2
    by_cases hb : bl4 = 4
    · have q1 : ((bl4 : Int) == 4) = true := beq_iff_eq.2 (by omega)
      have HB := keep hb
      clear hb
      go_wp2
      go_ret
      refine ⟨ret_bool ?_, b1⟩
      rw [← HR.out]; symm; rw [decide_eq_true_iff]; exact ⟨by first | trivial | rfl, by have := HB.out; omega⟩
    · have ql4 : ((bl4 : Int) == 4) = false := beq_eq_false_iff_ne.2 (by omega)
      have Fl4 := keep hb
      clear hb
      by_cases hb : bh4 = 4
      · have q1 : ((bh4 : Int) == 4) = true := beq_iff_eq.2 (by omega)
        have HB := keep hb
        clear hb
        go_wp2
        go_ret
        refine ⟨ret_bool ?_, b1⟩
        rw [← HR.out]; symm; rw [decide_eq_true_iff]; exact ⟨by first | trivial | rfl, by have := HB.out; omega⟩
      · have qh4 : ((bh4 : Int) == 4) = false := beq_eq_false_iff_ne.2 (by omega)
        have Fh4 := keep hb
        clear hb
        go_wp2
        any_goals (rw [rounds_succ]; go_wp2)
        go_ret
        refine ⟨ret_bool ?_, b1⟩
        rw [← HR.out]; symm; rw [decide_eq_false_iff_not]; intro h; have h2 := h.2; have := Fl4.out; have := Fh4.out; omega
  · have hq : (0 : Int) < (b0 : Int) := by omega
    go_wp2
    go_ret
    refine ⟨ret_bool ?_, b1⟩
    rw [← HR.out]; symm; rw [decide_eq_false_iff_not]; omega

set_option maxHeartbeats 8000000 in
set_option maxRecDepth 100000 in
theorem unf_two (s : ByteArray) (w : World) (hs : s.size = 2) (c0 cl3 ch3 cl4 ch4 : Nat × Nat) (h0 : charL s.data.toList = c0) (hl3 : charL (s.data.toList ++ [128]) = cl3) (hh3 : charL (s.data.toList ++ [191]) = ch3) (hl4 : charL (s.data.toList ++ [128, 128]) = cl4) (hh4 : charL (s.data.toList ++ [191, 191]) = ch4) :
    Calls Tryd.prog 18 #[.string s] w fun e w' => e = .returned (.bool (decide (c0.2 = 0 ∧ (cl3.2 = 3 ∨ ch3.2 = 3 ∨ cl4.2 = 4 ∨ ch4.2 = 4)))) ∧ Below w.heap.size w w' := by
  have hi : (s.size : Int) = 2 := by omega
  have C0 := fun W => char_walk s W (by omega) (by omega)
  rw [h0] at C0
  have K0 := keep C0
  have Cl3 := fun W => char_walk (s ++ ⟨#[128]⟩) W (by simp only [ByteArray.size_append]; omega) (by simp only [ByteArray.size_append, hs]; decide)
  have el3 : (s ++ ⟨#[128]⟩).data.toList = s.data.toList ++ [128] := by simp
  rw [el3, hl3] at Cl3
  have Kl3 := keep Cl3
  clear Cl3 el3 hl3
  have Ch3 := fun W => char_walk (s ++ ⟨#[191]⟩) W (by simp only [ByteArray.size_append]; omega) (by simp only [ByteArray.size_append, hs]; decide)
  have eh3 : (s ++ ⟨#[191]⟩).data.toList = s.data.toList ++ [191] := by simp
  rw [eh3, hh3] at Ch3
  have Kh3 := keep Ch3
  clear Ch3 eh3 hh3
  have Cl4 := fun W => char_walk ((s ++ ⟨#[128]⟩) ++ ⟨#[128]⟩) W (by simp only [ByteArray.size_append]; omega) (by simp only [ByteArray.size_append, hs]; decide)
  have el4 : ((s ++ ⟨#[128]⟩) ++ ⟨#[128]⟩).data.toList = s.data.toList ++ [128, 128] := by simp
  rw [el4, hl4] at Cl4
  have Kl4 := keep Cl4
  clear Cl4 el4 hl4
  have Ch4 := fun W => char_walk ((s ++ ⟨#[191]⟩) ++ ⟨#[191]⟩) W (by simp only [ByteArray.size_append]; omega) (by simp only [ByteArray.size_append, hs]; decide)
  have eh4 : ((s ++ ⟨#[191]⟩) ++ ⟨#[191]⟩).data.toList = s.data.toList ++ [191, 191] := by simp
  rw [eh4, hh4] at Ch4
  have Kh4 := keep Ch4
  clear Ch4 eh4 hh4
  clear C0 h0
  obtain ⟨a0, b0⟩ := c0
  obtain ⟨al3, bl3⟩ := cl3
  obtain ⟨ah3, bh3⟩ := ch3
  obtain ⟨al4, bl4⟩ := cl4
  obtain ⟨ah4, bh4⟩ := ch4
  obtain ⟨r, hr⟩ : ∃ r, decide (b0 = 0 ∧ (bl3 = 3 ∨ bh3 = 3 ∨ bl4 = 4 ∨ bh4 = 4)) = r := ⟨_, rfl⟩
  rw [hr]
  have HR := keep hr
  clear hr
  go_enter Tryd.func18, Tryd.ntmps18
  go_wp2_with fail
  refine (K0.out _).mono ?_
  rintro e W1 ⟨rfl, b1⟩
  by_cases hz : b0 = 0
  · subst hz
    go_wp2_with fail
    refine wp_loop_rounds 3 ?_
    rw [rounds_succ]
    go_wp2_with fail
    refine wp_loop_rounds 2 ?_
    rw [rounds_succ]
    go_wp2_with fail
    rw [rounds_succ]
    go_wp2_with fail
    refine (Kl3.out _).mono ?_
    rintro e W2 ⟨rfl, b2⟩
    replace b1 := b1.trans (b2.mono b1.size)
    clear b2
    go_wp2_with fail
    refine (Kh3.out _).mono ?_
    rintro e W2 ⟨rfl, b2⟩
    replace b1 := b1.trans (b2.mono b1.size)
    clear b2
    by_cases hb : bl3 = 3
    · have q1 : ((bl3 : Int) == 3) = true := beq_iff_eq.2 (by omega)
      have HB := keep hb
      clear hb
      go_wp2
      go_ret
      refine ⟨ret_bool ?_, b1⟩
      rw [← HR.out]; symm; rw [decide_eq_true_iff]; exact ⟨by first | trivial | rfl, by have := HB.out; omega⟩
    · have ql3 : ((bl3 : Int) == 3) = false := beq_eq_false_iff_ne.2 (by omega)
      have Fl3 := keep hb
      clear hb
      by_cases hb : bh3 = 3
      · have q1 : ((bh3 : Int) == 3) = true := beq_iff_eq.2 (by omega)
        have HB := keep hb
        clear hb
        go_wp2
        go_ret
        refine ⟨ret_bool ?_, b1⟩
        rw [← HR.out]; symm; rw [decide_eq_true_iff]; exact ⟨by first | trivial | rfl, by have := HB.out; omega⟩
      · have qh3 : ((bh3 : Int) == 3) = false := beq_eq_false_iff_ne.2 (by omega)
        have Fh3 := keep hb
        clear hb
        go_wp2_with fail
        rw [rounds_succ]
        go_wp2_with fail
        refine wp_loop_rounds 3 ?_
        rw [rounds_succ]
        go_wp2_with fail
        rw [rounds_succ]
        go_wp2_with fail
        rw [rounds_succ]
        go_wp2_with fail
        refine (Kl4.out _).mono ?_
        rintro e W2 ⟨rfl, b2⟩
        replace b1 := b1.trans (b2.mono b1.size)
        clear b2
        go_wp2_with fail
        refine (Kh4.out _).mono ?_
        rintro e W2 ⟨rfl, b2⟩
        replace b1 := b1.trans (b2.mono b1.size)
        clear b2
        by_cases hb : bl4 = 4
        · have q1 : ((bl4 : Int) == 4) = true := beq_iff_eq.2 (by omega)
          have HB := keep hb
          clear hb
          go_wp2
          go_ret
          refine ⟨ret_bool ?_, b1⟩
          rw [← HR.out]; symm; rw [decide_eq_true_iff]; exact ⟨by first | trivial | rfl, by have := HB.out; omega⟩
        · have ql4 : ((bl4 : Int) == 4) = false := beq_eq_false_iff_ne.2 (by omega)
          have Fl4 := keep hb
          clear hb
          by_cases hb : bh4 = 4
          · have q1 : ((bh4 : Int) == 4) = true := beq_iff_eq.2 (by omega)
            have HB := keep hb
            clear hb
            go_wp2
            go_ret
            refine ⟨ret_bool ?_, b1⟩
            rw [← HR.out]; symm; rw [decide_eq_true_iff]; exact ⟨by first | trivial | rfl, by have := HB.out; omega⟩
          · have qh4 : ((bh4 : Int) == 4) = false := beq_eq_false_iff_ne.2 (by omega)
            have Fh4 := keep hb
            clear hb
            go_wp2
            any_goals (rw [rounds_succ]; go_wp2)
            go_ret
            refine ⟨ret_bool ?_, b1⟩
            rw [← HR.out]; symm; rw [decide_eq_false_iff_not]; intro h; have h2 := h.2; have := Fl3.out; have := Fh3.out; have := Fl4.out; have := Fh4.out; omega
  · have hq : (0 : Int) < (b0 : Int) := by omega
    go_wp2
    go_ret
    refine ⟨ret_bool ?_, b1⟩
    rw [← HR.out]; symm; rw [decide_eq_false_iff_not]; omega

set_option maxHeartbeats 8000000 in
set_option maxRecDepth 100000 in
theorem unf_one (s : ByteArray) (w : World) (hs : s.size = 1) (c0 cl2 ch2 cl3 ch3 cl4 ch4 : Nat × Nat) (h0 : charL s.data.toList = c0) (hl2 : charL (s.data.toList ++ [128]) = cl2) (hh2 : charL (s.data.toList ++ [191]) = ch2) (hl3 : charL (s.data.toList ++ [128, 128]) = cl3) (hh3 : charL (s.data.toList ++ [191, 191]) = ch3) (hl4 : charL (s.data.toList ++ [128, 128, 128]) = cl4) (hh4 : charL (s.data.toList ++ [191, 191, 191]) = ch4) :
    Calls Tryd.prog 18 #[.string s] w fun e w' => e = .returned (.bool (decide (c0.2 = 0 ∧ (cl2.2 = 2 ∨ ch2.2 = 2 ∨ cl3.2 = 3 ∨ ch3.2 = 3 ∨ cl4.2 = 4 ∨ ch4.2 = 4)))) ∧ Below w.heap.size w w' := by
  have hi : (s.size : Int) = 1 := by omega
  have C0 := fun W => char_walk s W (by omega) (by omega)
  rw [h0] at C0
  have K0 := keep C0
  have Cl2 := fun W => char_walk (s ++ ⟨#[128]⟩) W (by simp only [ByteArray.size_append]; omega) (by simp only [ByteArray.size_append, hs]; decide)
  have el2 : (s ++ ⟨#[128]⟩).data.toList = s.data.toList ++ [128] := by simp
  rw [el2, hl2] at Cl2
  have Kl2 := keep Cl2
  clear Cl2 el2 hl2
  have Ch2 := fun W => char_walk (s ++ ⟨#[191]⟩) W (by simp only [ByteArray.size_append]; omega) (by simp only [ByteArray.size_append, hs]; decide)
  have eh2 : (s ++ ⟨#[191]⟩).data.toList = s.data.toList ++ [191] := by simp
  rw [eh2, hh2] at Ch2
  have Kh2 := keep Ch2
  clear Ch2 eh2 hh2
  have Cl3 := fun W => char_walk ((s ++ ⟨#[128]⟩) ++ ⟨#[128]⟩) W (by simp only [ByteArray.size_append]; omega) (by simp only [ByteArray.size_append, hs]; decide)
  have el3 : ((s ++ ⟨#[128]⟩) ++ ⟨#[128]⟩).data.toList = s.data.toList ++ [128, 128] := by simp
  rw [el3, hl3] at Cl3
  have Kl3 := keep Cl3
  clear Cl3 el3 hl3
  have Ch3 := fun W => char_walk ((s ++ ⟨#[191]⟩) ++ ⟨#[191]⟩) W (by simp only [ByteArray.size_append]; omega) (by simp only [ByteArray.size_append, hs]; decide)
  have eh3 : ((s ++ ⟨#[191]⟩) ++ ⟨#[191]⟩).data.toList = s.data.toList ++ [191, 191] := by simp
  rw [eh3, hh3] at Ch3
  have Kh3 := keep Ch3
  clear Ch3 eh3 hh3
  have Cl4 := fun W => char_walk (((s ++ ⟨#[128]⟩) ++ ⟨#[128]⟩) ++ ⟨#[128]⟩) W (by simp only [ByteArray.size_append]; omega) (by simp only [ByteArray.size_append, hs]; decide)
  have el4 : (((s ++ ⟨#[128]⟩) ++ ⟨#[128]⟩) ++ ⟨#[128]⟩).data.toList = s.data.toList ++ [128, 128, 128] := by simp
  rw [el4, hl4] at Cl4
  have Kl4 := keep Cl4
  clear Cl4 el4 hl4
  have Ch4 := fun W => char_walk (((s ++ ⟨#[191]⟩) ++ ⟨#[191]⟩) ++ ⟨#[191]⟩) W (by simp only [ByteArray.size_append]; omega) (by simp only [ByteArray.size_append, hs]; decide)
  have eh4 : (((s ++ ⟨#[191]⟩) ++ ⟨#[191]⟩) ++ ⟨#[191]⟩).data.toList = s.data.toList ++ [191, 191, 191] := by simp
  rw [eh4, hh4] at Ch4
  have Kh4 := keep Ch4
  clear Ch4 eh4 hh4
  clear C0 h0
  obtain ⟨a0, b0⟩ := c0
  obtain ⟨al2, bl2⟩ := cl2
  obtain ⟨ah2, bh2⟩ := ch2
  obtain ⟨al3, bl3⟩ := cl3
  obtain ⟨ah3, bh3⟩ := ch3
  obtain ⟨al4, bl4⟩ := cl4
  obtain ⟨ah4, bh4⟩ := ch4
  obtain ⟨r, hr⟩ : ∃ r, decide (b0 = 0 ∧ (bl2 = 2 ∨ bh2 = 2 ∨ bl3 = 3 ∨ bh3 = 3 ∨ bl4 = 4 ∨ bh4 = 4)) = r := ⟨_, rfl⟩
  rw [hr]
  have HR := keep hr
  clear hr
  go_enter Tryd.func18, Tryd.ntmps18
  go_wp2_with fail
  refine (K0.out _).mono ?_
  rintro e W1 ⟨rfl, b1⟩
  by_cases hz : b0 = 0
  · subst hz
    go_wp2_with fail
    refine wp_loop_rounds 4 ?_
    rw [rounds_succ]
    go_wp2_with fail
    refine wp_loop_rounds 2 ?_
    rw [rounds_succ]
    go_wp2_with fail
    rw [rounds_succ]
    go_wp2_with fail
    refine (Kl2.out _).mono ?_
    rintro e W2 ⟨rfl, b2⟩
    replace b1 := b1.trans (b2.mono b1.size)
    clear b2
    go_wp2_with fail
    refine (Kh2.out _).mono ?_
    rintro e W2 ⟨rfl, b2⟩
    replace b1 := b1.trans (b2.mono b1.size)
    clear b2
    by_cases hb : bl2 = 2
    · have q1 : ((bl2 : Int) == 2) = true := beq_iff_eq.2 (by omega)
      have HB := keep hb
      clear hb
      go_wp2
      go_ret
      refine ⟨ret_bool ?_, b1⟩
      rw [← HR.out]; symm; rw [decide_eq_true_iff]; exact ⟨by first | trivial | rfl, by have := HB.out; omega⟩
    · have ql2 : ((bl2 : Int) == 2) = false := beq_eq_false_iff_ne.2 (by omega)
      have Fl2 := keep hb
      clear hb
      by_cases hb : bh2 = 2
      · have q1 : ((bh2 : Int) == 2) = true := beq_iff_eq.2 (by omega)
        have HB := keep hb
        clear hb
        go_wp2
        go_ret
        refine ⟨ret_bool ?_, b1⟩
        rw [← HR.out]; symm; rw [decide_eq_true_iff]; exact ⟨by first | trivial | rfl, by have := HB.out; omega⟩
      · have qh2 : ((bh2 : Int) == 2) = false := beq_eq_false_iff_ne.2 (by omega)
        have Fh2 := keep hb
        clear hb
        go_wp2_with fail
        rw [rounds_succ]
        go_wp2_with fail
        refine wp_loop_rounds 3 ?_
        rw [rounds_succ]
        go_wp2_with fail
        rw [rounds_succ]
        go_wp2_with fail
        rw [rounds_succ]
        go_wp2_with fail
        refine (Kl3.out _).mono ?_
        rintro e W2 ⟨rfl, b2⟩
        replace b1 := b1.trans (b2.mono b1.size)
        clear b2
        go_wp2_with fail
        refine (Kh3.out _).mono ?_
        rintro e W2 ⟨rfl, b2⟩
        replace b1 := b1.trans (b2.mono b1.size)
        clear b2
        by_cases hb : bl3 = 3
        · have q1 : ((bl3 : Int) == 3) = true := beq_iff_eq.2 (by omega)
          have HB := keep hb
          clear hb
          go_wp2
          go_ret
          refine ⟨ret_bool ?_, b1⟩
          rw [← HR.out]; symm; rw [decide_eq_true_iff]; exact ⟨by first | trivial | rfl, by have := HB.out; omega⟩
        · have ql3 : ((bl3 : Int) == 3) = false := beq_eq_false_iff_ne.2 (by omega)
          have Fl3 := keep hb
          clear hb
          by_cases hb : bh3 = 3
          · have q1 : ((bh3 : Int) == 3) = true := beq_iff_eq.2 (by omega)
            have HB := keep hb
            clear hb
            go_wp2
            go_ret
            refine ⟨ret_bool ?_, b1⟩
            rw [← HR.out]; symm; rw [decide_eq_true_iff]; exact ⟨by first | trivial | rfl, by have := HB.out; omega⟩
          · have qh3 : ((bh3 : Int) == 3) = false := beq_eq_false_iff_ne.2 (by omega)
            have Fh3 := keep hb
            clear hb
            go_wp2_with fail
            rw [rounds_succ]
            go_wp2_with fail
            refine wp_loop_rounds 4 ?_
            rw [rounds_succ]
            go_wp2_with fail
            rw [rounds_succ]
            go_wp2_with fail
            rw [rounds_succ]
            go_wp2_with fail
            rw [rounds_succ]
            go_wp2_with fail
            refine (Kl4.out _).mono ?_
            rintro e W2 ⟨rfl, b2⟩
            replace b1 := b1.trans (b2.mono b1.size)
            clear b2
            go_wp2_with fail
            refine (Kh4.out _).mono ?_
            rintro e W2 ⟨rfl, b2⟩
            replace b1 := b1.trans (b2.mono b1.size)
            clear b2
            by_cases hb : bl4 = 4
            · have q1 : ((bl4 : Int) == 4) = true := beq_iff_eq.2 (by omega)
              have HB := keep hb
              clear hb
              go_wp2
              go_ret
              refine ⟨ret_bool ?_, b1⟩
              rw [← HR.out]; symm; rw [decide_eq_true_iff]; exact ⟨by first | trivial | rfl, by have := HB.out; omega⟩
            · have ql4 : ((bl4 : Int) == 4) = false := beq_eq_false_iff_ne.2 (by omega)
              have Fl4 := keep hb
              clear hb
              by_cases hb : bh4 = 4
              · have q1 : ((bh4 : Int) == 4) = true := beq_iff_eq.2 (by omega)
                have HB := keep hb
                clear hb
                go_wp2
                go_ret
                refine ⟨ret_bool ?_, b1⟩
                rw [← HR.out]; symm; rw [decide_eq_true_iff]; exact ⟨by first | trivial | rfl, by have := HB.out; omega⟩
              · have qh4 : ((bh4 : Int) == 4) = false := beq_eq_false_iff_ne.2 (by omega)
                have Fh4 := keep hb
                clear hb
                go_wp2
                any_goals (rw [rounds_succ]; go_wp2)
                go_ret
                refine ⟨ret_bool ?_, b1⟩
                rw [← HR.out]; symm; rw [decide_eq_false_iff_not]; intro h; have h2 := h.2; have := Fl2.out; have := Fh2.out; have := Fl3.out; have := Fh3.out; have := Fl4.out; have := Fh4.out; omega
  · have hq : (0 : Int) < (b0 : Int) := by omega
    go_wp2
    go_ret
    refine ⟨ret_bool ?_, b1⟩
    rw [← HR.out]; symm; rw [decide_eq_false_iff_not]; omega

end Go.Proofs.YtgcfaannhkmilaaDoor
