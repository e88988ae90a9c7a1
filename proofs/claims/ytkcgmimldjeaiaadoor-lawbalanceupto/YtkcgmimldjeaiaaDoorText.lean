/-
  The decoder as a plain function on bytes, that it may be cut anywhere, and what its texts are. No program is named here.
-/
import Derived.Test.YtkcgmimldjeaiaaDoorPlain
namespace Go.Proofs.YtkcgmimldjeaiaaDoor
open Go.Lib

theorem byte_lt (l : List UInt8) (j : Nat) : (l.getD j 0).toNat < 256 := (l.getD j 0).toNat_lt
theorem width_le (l : List UInt8) (h : l ≠ []) : 1 ≤ (decodeL l).2 ∧ (decodeL l).2 ≤ l.length := by
  rw [decodeL_N]
  have : 1 ≤ l.length := by cases l with | nil => exact absurd rfl h | cons a r => simp
  unfold decodeN
  repeat' split
  all_goals simp only
  all_goals omega
theorem rune_le (l : List UInt8) : (decodeL l).1 ≤ 1114111 := by
  rw [decodeL_N]
  have h0 := byte_lt l 0
  unfold decodeN
  repeat' split
  all_goals simp only
  all_goals omega

theorem full_more (a b : List UInt8) (h : fullL a = true) : fullL (a ++ b) = true := by
  unfold fullL fullN at *
  simp only [decide_eq_true_eq] at *
  have g : ∀ j, j < a.length → (a ++ b).getD j 0 = a.getD j 0 := fun j hj => by simp [List.getD, List.getElem?_append_left hj]
  rw [g 0 (by omega), List.length_append]
  rcases h with ⟨h0, h1 | ⟨h1, h2⟩ | ⟨h1, h2⟩⟩
  · omega
  · rw [g 1 (by omega)]; omega
  · rw [g 2 (by omega)]; omega

theorem stableL (a b : List UInt8) (ha : a ≠ []) (h : (decodeL a).1 ≠ 65533 ∨ fullL a = true) : decodeL (a ++ b) = decodeL a := by
  have hl : 1 ≤ a.length := by cases a with | nil => exact absurd rfl ha | cons x r => simp
  have g : ∀ j, j < a.length → (a ++ b).getD j 0 = a.getD j 0 := fun j hj => by simp [List.getD, List.getElem?_append_left hj]
  rw [decodeL_N] at h
  rw [decodeL_N, decodeL_N, g 0 (by omega)]
  exact stableN _ _ _ _ _ _ _ _ _ hl (by simp) (byte_lt _ _) (byte_lt _ _) (byte_lt _ _) (byte_lt _ _) (byte_lt _ _) (byte_lt _ _) (byte_lt _ _)
    (fun hj => by rw [g 1 hj]) (fun hj => by rw [g 2 hj]) (fun hj => by rw [g 3 hj]) h

/-- what one character gives -/
def unitL (cr : Bool) (c : Nat) : List UInt8 :=
  if c = 13 then [10] else if c = 10 ∧ cr = true then [] else if goodB c = true then encodeRune c else encodeRune 65533
/-- the rest is an unfinished character, and more may come -/
def stopL (more : Bool) (l : List UInt8) : Bool := more && ((decodeL l).1 == 65533 && !fullL l)
/-- the text, what is left over, and whether the last character was a CR -/
def readL (more : Bool) : Nat → Bool → List UInt8 → List UInt8 × List UInt8 × Bool
  | 0, cr, _ => ([], [], cr)
  | f + 1, cr, l =>
    if l = [] then ([], [], cr)
    else if stopL more l = true then ([], l, cr)
    else (unitL cr (decodeL l).1 ++ (readL more f ((decodeL l).1 == 13) (l.drop (decodeL l).2)).1, (readL more f ((decodeL l).1 == 13) (l.drop (decodeL l).2)).2)
def rd (more : Bool) (cr : Bool) (l : List UInt8) : List UInt8 × List UInt8 × Bool := readL more l.length cr l

theorem readL_fuel (more : Bool) : ∀ (f g : Nat) (cr : Bool) (l : List UInt8), l.length ≤ f → l.length ≤ g → readL more f cr l = readL more g cr l
  | 0, 0, _, _, _, _ => rfl
  | 0, g + 1, cr, l, hf, _ => by
    have : l = [] := List.eq_nil_of_length_eq_zero (by omega)
    simp [readL, this]
  | f + 1, 0, cr, l, _, hg => by
    have : l = [] := List.eq_nil_of_length_eq_zero (by omega)
    simp [readL, this]
  | f + 1, g + 1, cr, l, hf, hg => by
    by_cases h0 : l = []
    · simp [readL, h0]
    · have hw := width_le l h0
      have ih := readL_fuel more f g ((decodeL l).1 == 13) (l.drop (decodeL l).2) (by simp; omega) (by simp; omega)
      simp only [readL, h0, if_false, ih]
theorem rd_nil (more cr : Bool) : rd more cr [] = ([], [], cr) := rfl
theorem rd_stop (more cr : Bool) (l : List UInt8) (h0 : l ≠ []) (h : stopL more l = true) : rd more cr l = ([], l, cr) := by
  unfold rd
  cases l with
  | nil => exact absurd rfl h0
  | cons a r => simp [readL, h]
theorem rd_step (more cr : Bool) (l : List UInt8) (h0 : l ≠ []) (h : stopL more l = false) :
    rd more cr l = (unitL cr (decodeL l).1 ++ (rd more ((decodeL l).1 == 13) (l.drop (decodeL l).2)).1, (rd more ((decodeL l).1 == 13) (l.drop (decodeL l).2)).2) := by
  have hw := width_le l h0
  have e : ∀ c, readL more (l.length - 1) c (l.drop (decodeL l).2) = rd more c (l.drop (decodeL l).2) :=
    fun c => readL_fuel more _ _ c _ (by simp; omega) (Nat.le_refl _)
  have e1 : l.length = (l.length - 1) + 1 := by omega
  conv => lhs; unfold rd; rw [e1]
  simp only [readL, h0, if_false, h, e, Bool.false_eq_true]

/-- THE CUT: bytes may be read in pieces -/
theorem rd_cut (more : Bool) (b : List UInt8) : ∀ (n : Nat) (cr : Bool) (a : List UInt8), a.length ≤ n →
    rd more cr (a ++ b) = ((rd true cr a).1 ++ (rd more (rd true cr a).2.2 ((rd true cr a).2.1 ++ b)).1, (rd more (rd true cr a).2.2 ((rd true cr a).2.1 ++ b)).2)
  | 0, cr, a, h => by
    have : a = [] := List.eq_nil_of_length_eq_zero (by omega)
    subst this
    simp [rd_nil]
  | n + 1, cr, a, h => by
    by_cases h0 : a = []
    · subst h0; simp [rd_nil]
    · by_cases hs : stopL true a = true
      · rw [rd_stop true cr a h0 hs]; simp
      · have hs' : stopL true a = false := by simpa using hs
        have hst : (decodeL a).1 ≠ 65533 ∨ fullL a = true := by
          by_cases h1 : (decodeL a).1 = 65533
          · right; simpa [stopL, h1] using hs'
          · exact Or.inl h1
        have he := stableL a b h0 hst
        have hs2 : stopL more (a ++ b) = false := by
          unfold stopL
          rw [he]
          rcases hst with h1 | h1
          · simp [h1]
          · simp [full_more a b h1]
        have hw := width_le a h0
        rw [rd_step more cr (a ++ b) (by simp [h0]) hs2, rd_step true cr a h0 hs', he]
        have hd : (a ++ b).drop (decodeL a).2 = a.drop (decodeL a).2 ++ b := List.drop_append_of_le_length hw.2
        rw [hd, rd_cut more b n _ (a.drop (decodeL a).2) (by simp; omega)]
        simp

theorem rd_len (more : Bool) : ∀ (n : Nat) (cr : Bool) (l : List UInt8), l.length ≤ n → (rd more cr l).1.length ≤ 4 * l.length ∧ (rd more cr l).2.1.length ≤ l.length
  | 0, cr, l, h => by
    have : l = [] := List.eq_nil_of_length_eq_zero (by omega)
    subst this; simp [rd_nil]
  | n + 1, cr, l, h => by
    by_cases h0 : l = []
    · subst h0; simp [rd_nil]
    · by_cases hs : stopL more l = true
      · rw [rd_stop more cr l h0 hs]; simp
      · rw [rd_step more cr l h0 (by simpa using hs)]
        have hw := width_le l h0
        have ih := rd_len more n ((decodeL l).1 == 13) (l.drop (decodeL l).2) (by simp; omega)
        have hu : (unitL cr (decodeL l).1).length ≤ 4 := by
          have e := fun r => (encodeRuneZ_length r).2
          unfold unitL
          repeat' split
          all_goals first | simp; done | (simp only [encodeRune, List.length_map]; exact e _)
        simp only [List.length_append, List.length_drop] at ih ⊢
        omega
end Go.Proofs.YtkcgmimldjeaiaaDoor
