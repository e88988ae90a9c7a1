/-
  scrublaw.codeAt at every place, and goodText: their walks.
-/
import Derived.Test.YtlihbfkbjcggbaaDoorCode
namespace Go.Proofs.YtlihbfkbjcggbaaDoor
open Go.RowKit Go.Lib

theorem codeL_drop (s : ByteArray) (i : Nat) : codeL (s.data.toList.drop i) = codeN (s.size - i) (s.get! i).toNat (s.get! (i + 1)).toNat (s.get! (i + 2)).toNat (s.get! (i + 3)).toNat := by
  unfold codeL
  rw [List.length_drop, getD_dropU, getD_dropU, getD_dropU, getD_dropU, getD_get!', getD_get!', getD_get!', getD_get!', ← size_eq, Nat.add_zero]

theorem code_any (s : ByteArray) (i : Nat) (w : World) (hi : i < s.size) (hm : s.size ≤ 140737488355328) :
    Calls Tryd.prog 10 #[.string s, .int .i64 i] w fun e w' => e = .returned (.tuple #[.int .i64 (codeL (s.data.toList.drop i)).1, .int .i64 (codeL (s.data.toList.drop i)).2]) ∧ Below w.heap.size w w' := by
  rw [codeL_drop]
  have g : ∀ k (h : i + k < s.size), s[i + k]'h = s.get! (i + k) := fun k h => (Utf8W.get!_of_lt s (i + k) h).symm
  have g0 : s[i]'hi = s.get! i := (Utf8W.get!_of_lt s i hi).symm
  have l0 := (s.get! i).toNat_lt
  by_cases h1 : ((s.get! i).toNat : Int) < 128
  · exact code_one s i _ _ _ _ w (by omega) hm g0 (by omega) h1
  · by_cases h2 : ((s.get! i).toNat : Int) < 192
    · exact code_short s i _ _ _ _ w hi hm g0 (by omega)
    · by_cases h3 : ((s.get! i).toNat : Int) < 224
      · by_cases h4 : i + 2 ≤ s.size
        · exact code_two s i _ _ _ _ w h4 hm g0 (g 1 (by omega)) (by omega) h3
        · exact code_short s i _ _ _ _ w hi hm g0 (by omega)
      · by_cases h5 : ((s.get! i).toNat : Int) < 240
        · by_cases h4 : i + 3 ≤ s.size
          · exact code_three s i _ _ _ _ w h4 hm g0 (g 1 (by omega)) (g 2 (by omega)) (by omega) h5
          · exact code_short s i _ _ _ _ w hi hm g0 (by omega)
        · by_cases h4 : i + 4 ≤ s.size
          · exact code_four s i _ _ _ _ w h4 hm g0 (g 1 (by omega)) (g 2 (by omega)) (g 3 (by omega)) (by omega) (by omega)
          · exact code_short s i _ _ _ _ w hi hm g0 (by omega)

theorem codeL_le (l : List UInt8) (h : l ≠ []) : (codeL l).1 ≤ 1114111 ∧ (codeL l).2 ≤ l.length ∧ (codeL l).2 ≤ 4 := by
  have hl : 1 ≤ l.length := by cases l with | nil => exact absurd rfl h | cons a r => simp
  unfold codeL codeN
  have h0 := byte_lt l 0
  repeat' split
  all_goals (simp only; omega)

/-- is it all good characters -/
def goodTextL : Nat → List UInt8 → Bool
  | 0, _ => true
  | f + 1, l => if l = [] then true else if (codeL l).2 = 0 ∨ goodB (codeL l).1 = false then false else goodTextL f (l.drop (codeL l).2)
def gt (l : List UInt8) : Bool := goodTextL l.length l
theorem goodTextL_fuel : ∀ (f g : Nat) (l : List UInt8), l.length ≤ f → l.length ≤ g → goodTextL f l = goodTextL g l
  | 0, 0, _, _, _ => rfl
  | 0, g + 1, l, hf, _ => by
    have : l = [] := List.eq_nil_of_length_eq_zero (by omega)
    simp [goodTextL, this]
  | f + 1, 0, l, _, hg => by
    have : l = [] := List.eq_nil_of_length_eq_zero (by omega)
    simp [goodTextL, this]
  | f + 1, g + 1, l, hf, hg => by
    by_cases h0 : l = []
    · simp [goodTextL, h0]
    · by_cases h1 : (codeL l).2 = 0 ∨ goodB (codeL l).1 = false
      · simp only [goodTextL, h0, if_false, h1, if_true]
      · have hw := codeL_le l h0
        have ih := goodTextL_fuel f g (l.drop (codeL l).2) (by simp; omega) (by simp; omega)
        simp only [goodTextL, h0, if_false, h1, ih]
theorem gt_nil : gt [] = true := rfl
theorem gt_bad (l : List UInt8) (h0 : l ≠ []) (h : (codeL l).2 = 0 ∨ goodB (codeL l).1 = false) : gt l = false := by
  unfold gt
  cases l with
  | nil => exact absurd rfl h0
  | cons a r => simp only [List.length_cons, goodTextL, h, if_true]; simp
theorem gt_step (l : List UInt8) (h0 : l ≠ []) (h1 : (codeL l).2 ≠ 0) (h2 : goodB (codeL l).1 = true) : gt l = gt (l.drop (codeL l).2) := by
  have hw := codeL_le l h0
  have e : goodTextL (l.length - 1) (l.drop (codeL l).2) = gt (l.drop (codeL l).2) := goodTextL_fuel _ _ _ (by simp; omega) (Nat.le_refl _)
  have e1 : l.length = (l.length - 1) + 1 := by omega
  have h3 : ¬ ((codeL l).2 = 0 ∨ goodB (codeL l).1 = false) := by rw [h2]; simp [h1]
  conv => lhs; unfold gt; rw [e1]
  simp only [goodTextL, h0, if_false, h3, e]

set_option maxHeartbeats 4000000 in
set_option maxRecDepth 10000 in
theorem goodText_any (s : ByteArray) (w : World) (hm : s.size ≤ 140737488355328) :
    Calls Tryd.prog 8 #[.string s] w fun e w' => e = .returned (.bool (gt s.data.toList)) ∧ Below w.heap.size w w' := by
  obtain ⟨r, hr⟩ : ∃ r, gt s.data.toList = r := ⟨_, rfl⟩
  rw [hr]
  have HR := hid hr
  clear hr
  go_enter Tryd.func8, Tryd.ntmps8
  go_wp2
  go_loopw [3] (fun iv wr => ∃ pos : Nat, iv = .int .i64 pos ∧ pos ≤ s.size ∧ Hid (gt (s.data.toList.drop pos) = r) ∧ Below w.heap.size w wr) (fun iv _ => s.size - (RowKit.intOf iv).toNat)
  case atStart => exact ⟨0, rfl, Nat.zero_le _, HR.out, Below.refl _ _⟩
  case round =>
    obtain ⟨pos, rfl, hps, HG, hbw⟩ := hrel
    by_cases hp : pos < s.size
    · have hne : s.data.toList.drop pos ≠ [] := by
        intro h0
        have := congrArg List.length h0
        rw [List.length_drop, ← size_eq] at this
        simp at this; omega
      have hle := codeL_le _ hne
      have hcode := code_any s pos wr hp hm
      have hbad := gt_bad _ hne
      have hstep := gt_step _ hne
      rw [List.length_drop, ← size_eq] at hle
      obtain ⟨c, n, hcn⟩ : ∃ c n, codeL (s.data.toList.drop pos) = (c, n) := ⟨_, _, rfl⟩
      rw [hcn] at hle hcode hbad hstep
      rw [List.drop_drop] at hstep
      simp only at hle hbad hstep
      obtain ⟨hc1, hn1, hn2⟩ := hle
      obtain ⟨z, hz⟩ : ∃ z : Int, (c : Int) = z := ⟨_, rfl⟩
      rw [hz] at hcode hbad hstep
      have hz0 : 0 ≤ z := by omega
      have hz1 : z ≤ 1114111 := by omega
      clear hz hc1
      have HC := hid hcode
      have HB := hid hbad
      have HS := hid hstep
      clear hcode hbad hstep hne hcn
      by_cases hn : n = 0
      · subst hn
        have HX := hid ((HB.out (Or.inl rfl)).symm.trans HG.out)
        clear HB HS HG
        go_wp2_with (go_at_call 10; refine HC.out.mono ?_; rintro e W1 ⟨rfl, b1⟩; have hbw1 := hbw.trans (b1.mono hbw.size); clear b1 HC)
        go_ret
        exact ⟨ret_bool HX.out, (by assumption)⟩
      · have qn : ((n : Int) == 0) = false := beq_eq_false_iff_ne.2 (by omega)
        rcases (show z = 9 ∨ z = 10 ∨ z = 12 ∨ (z < 32 ∧ z ≠ 9 ∧ z ≠ 10 ∧ z ≠ 12) ∨ (32 ≤ z ∧ z < 127) ∨ (127 ≤ z ∧ z < 160) ∨ (160 ≤ z ∧ z < 55296) ∨ (55296 ≤ z ∧ z < 57344) ∨ (57344 ≤ z ∧ z < 64976) ∨ (64976 ≤ z ∧ z < 65008) ∨ 65008 ≤ z by omega) with rfl | rfl | rfl | hc | hc | hc | hc | hc | hc | hc | hc
        · skip
          have HX := hid ((HS.out (by omega) (by decide)).symm.trans HG.out)
          clear HB HS HG
          go_wp2_with (go_at_call 10; refine HC.out.mono ?_; rintro e W1 ⟨rfl, b1⟩; have hbw1 := hbw.trans (b1.mono hbw.size); clear b1 HC)
          go_roundw
          case rel => exact ⟨pos + n, by go_num, by omega, HX.out, (by assumption)⟩
          case measure => simp [RowKit.intOf]; omega
        · skip
          have HX := hid ((HS.out (by omega) (by decide)).symm.trans HG.out)
          clear HB HS HG
          go_wp2_with (go_at_call 10; refine HC.out.mono ?_; rintro e W1 ⟨rfl, b1⟩; have hbw1 := hbw.trans (b1.mono hbw.size); clear b1 HC)
          go_roundw
          case rel => exact ⟨pos + n, by go_num, by omega, HX.out, (by assumption)⟩
          case measure => simp [RowKit.intOf]; omega
        · skip
          have HX := hid ((HS.out (by omega) (by decide)).symm.trans HG.out)
          clear HB HS HG
          go_wp2_with (go_at_call 10; refine HC.out.mono ?_; rintro e W1 ⟨rfl, b1⟩; have hbw1 := hbw.trans (b1.mono hbw.size); clear b1 HC)
          go_roundw
          case rel => exact ⟨pos + n, by go_num, by omega, HX.out, (by assumption)⟩
          case measure => simp [RowKit.intOf]; omega
        · skip
          have q9 : (z == 9) = false := beq_eq_false_iff_ne.2 (by omega)
          have q10 : (z == 10) = false := beq_eq_false_iff_ne.2 (by omega)
          have q12 : (z == 12) = false := beq_eq_false_iff_ne.2 (by omega)
          have i2 : z < 32 := by omega
          have HX := hid ((HB.out (Or.inr (by unfold goodB; rw [decide_eq_false_iff_not]; omega))).symm.trans HG.out)
          clear HB HS HG hc
          go_wp2_with (go_at_call 10; refine HC.out.mono ?_; rintro e W1 ⟨rfl, b1⟩; have hbw1 := hbw.trans (b1.mono hbw.size); clear b1 HC)
          go_ret
          exact ⟨ret_bool HX.out, (by assumption)⟩
        · skip
          have i1 : 32 ≤ z := by omega
          have i2 : z < 127 := by omega
          have hl : z % 65536 < 65534 := by omega
          have HX := hid ((HS.out (by omega) (by unfold goodB; rw [decide_eq_true_iff]; omega)).symm.trans HG.out)
          clear HB HS HG hc
          go_wp2_with (go_at_call 10; refine HC.out.mono ?_; rintro e W1 ⟨rfl, b1⟩; have hbw1 := hbw.trans (b1.mono hbw.size); clear b1 HC)
          go_roundw
          case rel => exact ⟨pos + n, by go_num, by omega, HX.out, (by assumption)⟩
          case measure => simp [RowKit.intOf]; omega
        · skip
          have i1 : 127 ≤ z := by omega
          have i2 : z < 160 := by omega
          have HX := hid ((HB.out (Or.inr (by unfold goodB; rw [decide_eq_false_iff_not]; omega))).symm.trans HG.out)
          clear HB HS HG hc
          go_wp2_with (go_at_call 10; refine HC.out.mono ?_; rintro e W1 ⟨rfl, b1⟩; have hbw1 := hbw.trans (b1.mono hbw.size); clear b1 HC)
          go_ret
          exact ⟨ret_bool HX.out, (by assumption)⟩
        · skip
          have i1 : 160 ≤ z := by omega
          have i2 : z < 55296 := by omega
          have hl : z % 65536 < 65534 := by omega
          have HX := hid ((HS.out (by omega) (by unfold goodB; rw [decide_eq_true_iff]; omega)).symm.trans HG.out)
          clear HB HS HG hc
          go_wp2_with (go_at_call 10; refine HC.out.mono ?_; rintro e W1 ⟨rfl, b1⟩; have hbw1 := hbw.trans (b1.mono hbw.size); clear b1 HC)
          go_roundw
          case rel => exact ⟨pos + n, by go_num, by omega, HX.out, (by assumption)⟩
          case measure => simp [RowKit.intOf]; omega
        · skip
          have i1 : 55296 ≤ z := by omega
          have i2 : z < 57344 := by omega
          have HX := hid ((HB.out (Or.inr (by unfold goodB; rw [decide_eq_false_iff_not]; omega))).symm.trans HG.out)
          clear HB HS HG hc
          go_wp2_with (go_at_call 10; refine HC.out.mono ?_; rintro e W1 ⟨rfl, b1⟩; have hbw1 := hbw.trans (b1.mono hbw.size); clear b1 HC)
          go_ret
          exact ⟨ret_bool HX.out, (by assumption)⟩
        · skip
          have i1 : 57344 ≤ z := by omega
          have i2 : z < 64976 := by omega
          have hl : z % 65536 < 65534 := by omega
          have HX := hid ((HS.out (by omega) (by unfold goodB; rw [decide_eq_true_iff]; omega)).symm.trans HG.out)
          clear HB HS HG hc
          go_wp2_with (go_at_call 10; refine HC.out.mono ?_; rintro e W1 ⟨rfl, b1⟩; have hbw1 := hbw.trans (b1.mono hbw.size); clear b1 HC)
          go_roundw
          case rel => exact ⟨pos + n, by go_num, by omega, HX.out, (by assumption)⟩
          case measure => simp [RowKit.intOf]; omega
        · skip
          have i1 : 64976 ≤ z := by omega
          have i2 : z < 65008 := by omega
          have HX := hid ((HB.out (Or.inr (by unfold goodB; rw [decide_eq_false_iff_not]; omega))).symm.trans HG.out)
          clear HB HS HG hc
          go_wp2_with (go_at_call 10; refine HC.out.mono ?_; rintro e W1 ⟨rfl, b1⟩; have hbw1 := hbw.trans (b1.mono hbw.size); clear b1 HC)
          go_ret
          exact ⟨ret_bool HX.out, (by assumption)⟩
        · skip
          have i1 : 65008 ≤ z := by omega
          by_cases hl : z % 65536 < 65534
          · skip
            have HX := hid ((HS.out (by omega) (by unfold goodB; rw [decide_eq_true_iff]; omega)).symm.trans HG.out)
            clear HB HS HG hc
            go_wp2_with (go_at_call 10; refine HC.out.mono ?_; rintro e W1 ⟨rfl, b1⟩; have hbw1 := hbw.trans (b1.mono hbw.size); clear b1 HC)
            go_roundw
            case rel => exact ⟨pos + n, by go_num, by omega, HX.out, (by assumption)⟩
            case measure => simp [RowKit.intOf]; omega
          · have hl2 : 65534 ≤ z % 65536 := by omega
            have HX := hid ((HB.out (Or.inr (by unfold goodB; rw [decide_eq_false_iff_not]; omega))).symm.trans HG.out)
            clear HB HS HG hc
            go_wp2_with (go_at_call 10; refine HC.out.mono ?_; rintro e W1 ⟨rfl, b1⟩; have hbw1 := hbw.trans (b1.mono hbw.size); clear b1 HC)
            go_ret
            exact ⟨ret_bool HX.out, (by assumption)⟩
    · go_wp2
      go_ret
      refine ⟨ret_bool ?_, hbw⟩
      rw [← HG.out, List.drop_eq_nil_of_le (by rw [← size_eq]; omega), gt_nil]
end Go.Proofs.YtlihbfkbjcggbaaDoor
