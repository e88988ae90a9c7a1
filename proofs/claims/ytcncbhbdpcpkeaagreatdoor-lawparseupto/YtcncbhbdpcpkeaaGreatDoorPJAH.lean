/-
  Parts of the walk, joined: Same, PolLink.
-/
import Derived.Test.YtcncbhbdpcpkeaaGreatDoorPJAG
import Derived.Test.YtcncbhbdpcpkeaaGreatDoorPJAF
/-
  What is decoded is good text, and good text is decoded to itself. No program is walked here.
-/
namespace Go.Proofs.YtcncbhbdpcpkeaaGreatDoor
open Go.Lib

theorem byte_of {x : Int} (_h0 : 0 ≤ x) (h1 : x < 256) : (x.toNat.toUInt8).toNat = x.toNat := by
  simp; omega

theorem goodB_le {c : Int} (h : goodB c = true) : c ≤ 1114111 ∧ ¬ (55296 ≤ c ∧ c ≤ 57343) := by
  unfold goodB at h
  rw [decide_eq_true_iff] at h
  omega

theorem code_enc (c : Nat) (r : List UInt8) (h : goodB c = true) : codeL (encodeRune c ++ r) = (c, (encodeRune c).length) := by
  have hb := goodB_le h
  unfold encodeRune
  by_cases h1 : c ≤ 127
  · rw [encodeRuneZ_one (by omega) (by omega)]
    have e0 := byte_of (x := (c : Int)) (by omega) (by omega)
    simp only [List.map_cons, List.map_nil, List.cons_append, List.nil_append, codeL, List.length_cons, List.length_nil, List.getD_cons_zero, e0]
    unfold codeN
    rw [if_pos (by omega)]; simp
  · by_cases h2 : c ≤ 2047
    · rw [encodeRuneZ_two (by omega) (by omega)]
      have e0 := byte_of (x := 192 + (c : Int) / 64) (by omega) (by omega)
      have e1 := byte_of (x := 128 + (c : Int) % 64) (by omega) (by omega)
      simp only [List.map_cons, List.map_nil, List.cons_append, List.nil_append, codeL, List.length_cons, List.length_nil, List.getD_cons_zero, List.getD_cons_succ, e0, e1]
      unfold codeN
      rw [if_neg (by omega), if_neg (by omega), if_pos (by omega), if_pos (by omega)]
      simp only [Prod.mk.injEq, and_true]; omega
    · by_cases h3 : c ≤ 65535
      · rw [encodeRuneZ_three (by omega)]
        have e0 := byte_of (x := 224 + (c : Int) / 4096) (by omega) (by omega)
        have e1 := byte_of (x := 128 + (c : Int) / 64 % 64) (by omega) (by omega)
        have e2 := byte_of (x := 128 + (c : Int) % 64) (by omega) (by omega)
        simp only [List.map_cons, List.map_nil, List.cons_append, List.nil_append, codeL, List.length_cons, List.length_nil, List.getD_cons_zero, List.getD_cons_succ, e0, e1, e2]
        unfold codeN
        rw [if_neg (by omega), if_neg (by omega), if_neg (by omega), if_pos (by omega), if_pos (by omega)]
        simp only [Prod.mk.injEq, and_true]; omega
      · rw [encodeRuneZ_four (by omega) (by omega)]
        have e0 := byte_of (x := 240 + (c : Int) / 262144) (by omega) (by omega)
        have e1 := byte_of (x := 128 + (c : Int) / 4096 % 64) (by omega) (by omega)
        have e2 := byte_of (x := 128 + (c : Int) / 64 % 64) (by omega) (by omega)
        have e3 := byte_of (x := 128 + (c : Int) % 64) (by omega) (by omega)
        simp only [List.map_cons, List.map_nil, List.cons_append, List.nil_append, codeL, List.length_cons, List.length_nil, List.getD_cons_zero, List.getD_cons_succ, e0, e1, e2, e3]
        unfold codeN
        rw [if_neg (by omega), if_neg (by omega), if_neg (by omega), if_neg (by omega), if_pos (by omega)]
        simp only [Prod.mk.injEq, and_true]; omega
theorem enc_len (c : Int) : 1 ≤ (encodeRune c).length := by
  have := (encodeRuneZ_length c).1
  simpa [encodeRune] using this
theorem gt_enc (c : Nat) (r : List UInt8) (h : goodB c = true) : gt (encodeRune c ++ r) = gt r := by
  have he := code_enc c r h
  have hl := enc_len c
  have hne : encodeRune c ++ r ≠ [] := by
    intro h0
    have := congrArg List.length h0
    rw [List.length_append, List.length_nil] at this; omega
  rw [gt_step _ hne (by rw [he]; simp only; omega) (by rw [he]; exact h), he]
  simp

theorem gt_unit (cr : Bool) (c : Nat) (r : List UInt8) : gt (unitL cr c ++ r) = gt r := by
  unfold unitL
  repeat' split
  · have e : ([10] : List UInt8) = encodeRune ((10 : Nat) : Int) := by decide
    rw [e]; exact gt_enc 10 r (by decide)
  · rfl
  · exact gt_enc c r (by assumption)
  · exact gt_enc 65533 r (by decide)
theorem gt_rd (more : Bool) : ∀ (n : Nat) (cr : Bool) (l : List UInt8), l.length ≤ n → gt (rd more cr l).1 = true
  | 0, cr, l, h => by
    have : l = [] := List.eq_nil_of_length_eq_zero (by omega)
    subst this; rfl
  | n + 1, cr, l, h => by
    by_cases h0 : l = []
    · subst h0; rfl
    · by_cases hs : stopL more l = true
      · rw [rd_stop more cr l h0 hs]; rfl
      · rw [rd_step more cr l h0 (by simpa using hs)]
        have hw := width_le l h0
        simp only [gt_unit]
        exact gt_rd more n _ _ (by simp; omega)

theorem code_dec (n b0 b1 b2 b3 : Nat) (h1 : (codeN n b0 b1 b2 b3).2 ≠ 0) (h2 : goodB (codeN n b0 b1 b2 b3).1 = true) (l0 : b0 < 256) : decodeN n b0 b1 b2 b3 = codeN n b0 b1 b2 b3 := by
  have hb := goodB_le h2
  clear h2
  unfold codeN at h1 hb ⊢
  unfold decodeN
  by_cases a1 : b0 < 128
  · rw [if_pos a1, if_pos a1]
  · rw [if_neg a1] at h1 hb ⊢
    rw [if_neg a1]
    by_cases a2 : b0 < 192
    · rw [if_pos a2] at h1; exact absurd rfl h1
    · rw [if_neg a2] at h1 hb ⊢
      by_cases a3 : b0 < 224
      · rw [if_pos a3] at h1 hb ⊢
        by_cases q : 2 ≤ n ∧ (128 ≤ b1 ∧ b1 ≤ 191) ∧ 128 ≤ (b0 - 192) * 64 + (b1 - 128)
        · rw [if_pos q] at hb ⊢
          rw [if_pos (by omega), if_pos (by omega), Prod.mk.injEq]
          omega
        · rw [if_neg q] at h1; exact absurd rfl h1
      · rw [if_neg a3] at h1 hb ⊢
        rw [if_neg (show ¬ (b0 / 32 = 6 ∧ _) from fun h => by omega)]
        by_cases a4 : b0 < 240
        · rw [if_pos a4] at h1 hb ⊢
          by_cases q : 3 ≤ n ∧ (128 ≤ b1 ∧ b1 ≤ 191) ∧ (128 ≤ b2 ∧ b2 ≤ 191) ∧ 2048 ≤ ((b0 - 224) * 64 + (b1 - 128)) * 64 + (b2 - 128)
          · rw [if_pos q] at hb ⊢
            simp only at hb
            rw [if_pos (by omega), if_pos (by omega), Prod.mk.injEq]
            omega
          · rw [if_neg q] at h1; exact absurd rfl h1
        · rw [if_neg a4] at h1 hb ⊢
          rw [if_neg (show ¬ (b0 / 16 = 14 ∧ _) from fun h => by omega)]
          by_cases q : 4 ≤ n ∧ (128 ≤ b1 ∧ b1 ≤ 191) ∧ (128 ≤ b2 ∧ b2 ≤ 191) ∧ (128 ≤ b3 ∧ b3 ≤ 191) ∧ 65536 ≤ (((b0 - 240) * 64 + (b1 - 128)) * 64 + (b2 - 128)) * 64 + (b3 - 128) ∧ (((b0 - 240) * 64 + (b1 - 128)) * 64 + (b2 - 128)) * 64 + (b3 - 128) ≤ 1114111
          · rw [if_pos q] at hb ⊢
            simp only at hb
            rw [if_pos (by omega), if_pos (by omega), Prod.mk.injEq]
            omega
          · rw [if_neg q] at h1; exact absurd rfl h1

theorem u8_ext {a b : UInt8} (h : a.toNat = b.toNat) : a = b := UInt8.toNat_inj.1 h

/-- a character that stands there is written as it stands there -/
theorem enc_take (b0 b1 b2 b3 : UInt8) (n : Nat) (h1 : (codeN n b0.toNat b1.toNat b2.toNat b3.toNat).2 ≠ 0) (h2 : goodB (codeN n b0.toNat b1.toNat b2.toNat b3.toNat).1 = true) :
    encodeRune (codeN n b0.toNat b1.toNat b2.toNat b3.toNat).1 = [b0, b1, b2, b3].take (codeN n b0.toNat b1.toNat b2.toNat b3.toNat).2 := by
  have hb := goodB_le h2
  have l0 := b0.toNat_lt; have l1 := b1.toNat_lt; have l2 := b2.toNat_lt; have l3 := b3.toNat_lt
  clear h2
  unfold codeN at h1 hb ⊢
  unfold encodeRune
  by_cases a1 : b0.toNat < 128
  · rw [if_pos a1]
    simp only [List.take_succ_cons, List.take_zero]
    rw [encodeRuneZ_one (by omega) (by omega)]
    simp only [List.map_cons, List.map_nil, List.cons.injEq, and_true]
    exact u8_ext (by rw [byte_of (by omega) (by omega)]; omega)
  · rw [if_neg a1] at h1 hb ⊢
    by_cases a2 : b0.toNat < 192
    · rw [if_pos a2] at h1; exact absurd rfl h1
    · rw [if_neg a2] at h1 hb ⊢
      by_cases a3 : b0.toNat < 224
      · rw [if_pos a3] at h1 hb ⊢
        by_cases q : 2 ≤ n ∧ (128 ≤ b1.toNat ∧ b1.toNat ≤ 191) ∧ 128 ≤ (b0.toNat - 192) * 64 + (b1.toNat - 128)
        · rw [if_pos q] at hb ⊢
          simp only [List.take_succ_cons, List.take_zero] at hb ⊢
          rw [encodeRuneZ_two (by omega) (by omega)]
          simp only [List.map_cons, List.map_nil, List.cons.injEq, and_true]
          refine ⟨?_, ?_⟩ <;> exact u8_ext (by rw [byte_of (by omega) (by omega)]; omega)
        · rw [if_neg q] at h1; exact absurd rfl h1
      · rw [if_neg a3] at h1 hb ⊢
        by_cases a4 : b0.toNat < 240
        · rw [if_pos a4] at h1 hb ⊢
          by_cases q : 3 ≤ n ∧ (128 ≤ b1.toNat ∧ b1.toNat ≤ 191) ∧ (128 ≤ b2.toNat ∧ b2.toNat ≤ 191) ∧ 2048 ≤ ((b0.toNat - 224) * 64 + (b1.toNat - 128)) * 64 + (b2.toNat - 128)
          · rw [if_pos q] at hb ⊢
            simp only [List.take_succ_cons, List.take_zero] at hb ⊢
            rw [encodeRuneZ_three (by omega)]
            simp only [List.map_cons, List.map_nil, List.cons.injEq, and_true]
            refine ⟨?_, ?_, ?_⟩ <;> exact u8_ext (by rw [byte_of (by omega) (by omega)]; omega)
          · rw [if_neg q] at h1; exact absurd rfl h1
        · rw [if_neg a4] at h1 hb ⊢
          by_cases q : 4 ≤ n ∧ (128 ≤ b1.toNat ∧ b1.toNat ≤ 191) ∧ (128 ≤ b2.toNat ∧ b2.toNat ≤ 191) ∧ (128 ≤ b3.toNat ∧ b3.toNat ≤ 191) ∧ 65536 ≤ (((b0.toNat - 240) * 64 + (b1.toNat - 128)) * 64 + (b2.toNat - 128)) * 64 + (b3.toNat - 128) ∧ (((b0.toNat - 240) * 64 + (b1.toNat - 128)) * 64 + (b2.toNat - 128)) * 64 + (b3.toNat - 128) ≤ 1114111
          · rw [if_pos q] at hb ⊢
            simp only [List.take_succ_cons, List.take_zero] at hb ⊢
            rw [encodeRuneZ_four (by omega) (by omega)]
            simp only [List.map_cons, List.map_nil, List.cons.injEq, and_true]
            refine ⟨?_, ?_, ?_, ?_⟩ <;> exact u8_ext (by rw [byte_of (by omega) (by omega)]; omega)
          · rw [if_neg q] at h1; exact absurd rfl h1

theorem four_take (l : List UInt8) (k : Nat) (h : k ≤ l.length) (h4 : k ≤ 4) : [l.getD 0 0, l.getD 1 0, l.getD 2 0, l.getD 3 0].take k = l.take k :=
  match l, k, h, h4 with
  | _, 0, _, _ => by simp
  | a :: _, 1, _, _ => by simp
  | a :: b :: _, 2, _, _ => by simp
  | a :: b :: c :: _, 3, _, _ => by simp
  | a :: b :: c :: d :: _, 4, _, _ => by simp
  | _ :: _ :: _ :: _ :: _, k + 5, _, h4 => by omega
  | [], k + 1, h, _ => by simp at h
  | [_], k + 2, h, _ => by simp at h
  | [_, _], k + 3, h, _ => by simp at h
  | [_, _, _], k + 4, h, _ => by simp at h

/-- good text is decoded to itself -/
theorem rd_good : ∀ (n : Nat) (l : List UInt8), l.length ≤ n → gt l = true → rd false false l = (l, [], false)
  | 0, l, h, _ => by
    have : l = [] := List.eq_nil_of_length_eq_zero (by omega)
    subst this; rfl
  | n + 1, l, h, hg => by
    by_cases h0 : l = []
    · subst h0; rfl
    · have hle := codeL_le l h0
      by_cases hbad : (codeL l).2 = 0 ∨ goodB (codeL l).1 = false
      · rw [gt_bad l h0 hbad] at hg; exact absurd hg (by decide)
      · have h1 : (codeL l).2 ≠ 0 := fun h => hbad (Or.inl h)
        have h2 : goodB (codeL l).1 = true := by
          cases hb : goodB (codeL l).1
          · exact absurd (Or.inr hb) hbad
          · rfl
        rw [gt_step l h0 h1 h2] at hg
        have hd : decodeL l = codeL l := by
          rw [decodeL_N]
          exact code_dec _ _ _ _ _ h1 h2 (byte_lt l 0)
        have he : encodeRune (codeL l).1 = l.take (codeL l).2 := by
          have := enc_take (l.getD 0 0) (l.getD 1 0) (l.getD 2 0) (l.getD 3 0) l.length h1 h2
          exact this.trans (four_take l _ hle.2.1 hle.2.2)
        have h13 : (codeL l).1 ≠ 13 := by
          intro h; rw [h] at h2; revert h2; decide
        have hu : unitL false (codeL l).1 = encodeRune (codeL l).1 := by
          unfold unitL
          rw [if_neg h13, if_neg (by simp), if_pos h2]
        have e13 : ((codeL l).1 == 13) = false := beq_eq_false_iff_ne.2 h13
        rw [rd_step false false l h0 rfl, hd, hu, e13, rd_good n _ (by simp; omega) hg, he]
        simp

end Go.Proofs.YtcncbhbdpcpkeaaGreatDoor

/-
  The reference's CleanURL: its walk.
-/
namespace Go.Proofs.YtcncbhbdpcpkeaaGreatDoor
open Go.RowKit Go.Lib Own

theorem extract_list (s : ByteArray) (i j : Nat) : (s.extract i j).data.toList = (s.data.toList.drop i).take (j - i) := by
  rw [ByteArray.data_extract, Array.toList_extract]
end Go.Proofs.YtcncbhbdpcpkeaaGreatDoor
