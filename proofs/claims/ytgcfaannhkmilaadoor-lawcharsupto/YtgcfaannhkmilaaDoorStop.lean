/-
  scrubref.unfinished answers what the decoder's own look answers.
-/
import Derived.Test.YtgcfaannhkmilaaDoorUnfWalk
namespace Go.Proofs.YtgcfaannhkmilaaDoor
open Go.RowKit Go.Lib

theorem u8_128 : (128 : UInt8).toNat = 128 := rfl
theorem u8_191 : (191 : UInt8).toNat = 191 := rfl
theorem u8_0 : (0 : UInt8).toNat = 0 := rfl

theorem stop_one (x0 : UInt8) :
    decide ((charL [x0]).2 = 0 ∧ ((charL ([x0] ++ [128])).2 = 2 ∨ (charL ([x0] ++ [191])).2 = 2 ∨ (charL ([x0] ++ [128, 128])).2 = 3 ∨ (charL ([x0] ++ [191, 191])).2 = 3 ∨ (charL ([x0] ++ [128, 128, 128])).2 = 4 ∨ (charL ([x0] ++ [191, 191, 191])).2 = 4)) = stopL true [x0] := by
  have h := comes_iff 1 x0.toNat 0 0 (by omega) x0.toNat_lt
  rw [Bool.eq_iff_iff]
  unfold stopL fullL
  rw [decodeL_N]
  simp only [charL, List.length_cons, List.length_nil, List.cons_append, List.nil_append, List.getD_cons_zero, List.getD_cons_succ, List.getD_nil, u8_128, u8_191, u8_0, Nat.zero_add, Nat.reduceAdd, decide_eq_true_iff, Bool.true_and, Bool.and_eq_true, Bool.not_eq_true', beq_iff_eq]
  rw [← h, charN_none, charN_size _ _ _ _ _ 2 (by omega), charN_size _ _ _ _ _ 2 (by omega), charN_size _ _ _ _ _ 3 (by omega), charN_size _ _ _ _ _ 3 (by omega), charN_size _ _ _ _ _ 4 (by omega), charN_size _ _ _ _ _ 4 (by omega)]
  unfold comes
  simp
theorem stop_two (x0 x1 : UInt8) :
    decide ((charL [x0, x1]).2 = 0 ∧ ((charL ([x0, x1] ++ [128])).2 = 3 ∨ (charL ([x0, x1] ++ [191])).2 = 3 ∨ (charL ([x0, x1] ++ [128, 128])).2 = 4 ∨ (charL ([x0, x1] ++ [191, 191])).2 = 4)) = stopL true [x0, x1] := by
  have h := comes_iff 2 x0.toNat x1.toNat 0 (by omega) x0.toNat_lt
  rw [Bool.eq_iff_iff]
  unfold stopL fullL
  rw [decodeL_N]
  simp only [charL, List.length_cons, List.length_nil, List.cons_append, List.nil_append, List.getD_cons_zero, List.getD_cons_succ, List.getD_nil, u8_128, u8_191, u8_0, Nat.zero_add, Nat.reduceAdd, decide_eq_true_iff, Bool.true_and, Bool.and_eq_true, Bool.not_eq_true', beq_iff_eq]
  rw [← h, charN_none, charN_size _ _ _ _ _ 3 (by omega), charN_size _ _ _ _ _ 3 (by omega), charN_size _ _ _ _ _ 4 (by omega), charN_size _ _ _ _ _ 4 (by omega)]
  unfold comes
  simp
theorem stop_three (x0 x1 x2 : UInt8) :
    decide ((charL [x0, x1, x2]).2 = 0 ∧ ((charL ([x0, x1, x2] ++ [128])).2 = 4 ∨ (charL ([x0, x1, x2] ++ [191])).2 = 4)) = stopL true [x0, x1, x2] := by
  have h := comes_iff 3 x0.toNat x1.toNat x2.toNat (by omega) x0.toNat_lt
  rw [Bool.eq_iff_iff]
  unfold stopL fullL
  rw [decodeL_N]
  simp only [charL, List.length_cons, List.length_nil, List.cons_append, List.nil_append, List.getD_cons_zero, List.getD_cons_succ, List.getD_nil, u8_128, u8_191, u8_0, Nat.zero_add, Nat.reduceAdd, decide_eq_true_iff, Bool.true_and, Bool.and_eq_true, Bool.not_eq_true', beq_iff_eq]
  rw [← h, charN_none, charN_size _ _ _ _ _ 4 (by omega), charN_size _ _ _ _ _ 4 (by omega)]
  unfold comes
  simp

theorem unfinished_any (s : ByteArray) (w : World) (h1 : 1 ≤ s.size) (h3 : s.size ≤ 3) :
    Calls Tryd.prog 18 #[.string s] w fun e w' => e = .returned (.bool (stopL true s.data.toList)) ∧ Below w.heap.size w w' := by
  obtain ⟨l, hl⟩ : ∃ l, s.data.toList = l := ⟨_, rfl⟩
  have hsz : s.size = l.length := by rw [size_eq, hl]
  match l, hl, hsz with
  | [x0], hl, hsz =>
    have := unf_one s w (by simpa using hsz) _ _ _ _ _ _ _ rfl rfl rfl rfl rfl rfl rfl
    rw [hl] at this ⊢
    rw [stop_one] at this
    exact this
  | [x0, x1], hl, hsz =>
    have := unf_two s w (by simpa using hsz) _ _ _ _ _ rfl rfl rfl rfl rfl
    rw [hl] at this ⊢
    rw [stop_two] at this
    exact this
  | [x0, x1, x2], hl, hsz =>
    have := unf_three s w (by simpa using hsz) _ _ _ rfl rfl rfl
    rw [hl] at this ⊢
    rw [stop_three] at this
    exact this
  | [], _, hsz => have : s.size = 0 := hsz; omega
  | _ :: _ :: _ :: _ :: _, _, hsz => simp only [List.length_cons] at hsz; omega
end Go.Proofs.YtgcfaannhkmilaaDoor
