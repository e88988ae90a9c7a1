/-
  The two walks of a numeric reference, each as one statement.
-/
import Derived.Test.YtndglhflbenloaaGreatDoorNumR
namespace Go.Proofs.YtndglhflbenloaaGreatDoor
open Go.RowKit Go.Lib

theorem hexN_at {N : List UInt8} {x : UInt8} (h : N[1]? = some x) : hexN N = (x == 120 || x == 88) := by
  unfold hexN
  rw [h]
  simp
theorem hexN_one {N : List UInt8} (h : N.length = 1) : hexN N = false := by
  unfold hexN
  rw [List.getElem?_eq_none (by omega)]
  rfl
theorem numL_one {N : List UInt8} (h : N.length = 1) : numL N = (0, 0) := by
  have hd : digsN N = [] := by
    unfold digsN fromN
    rw [hexN_one h, if_neg (by simp), List.drop_of_length_le (by omega)]
    rfl
  unfold numL
  rw [if_pos hd]
theorem digN_hex {N : List UInt8} (h : hexN N = true) : fromN N = 2 ∧ baseN N = 16 ∧ digN N = digX := by
  unfold fromN baseN digN
  rw [h]
  simp
theorem digN_dec {N : List UInt8} (h : hexN N = false) : fromN N = 1 ∧ baseN N = 10 ∧ digN N = digD := by
  unfold fromN baseN digN
  rw [h]
  simp
theorem int_beq (x : UInt8) (k : UInt8) : ((x.toNat : Int) == (k.toNat : Int)) = (x == k) := by
  rw [Bool.eq_iff_iff, beq_iff_eq, beq_iff_eq]
  constructor
  · intro h; exact UInt8.toNat_inj.1 (by omega)
  · rintro rfl; rfl
theorem take_extract (s : ByteArray) (k : Nat) : (s.extract 0 k).data.toList = s.data.toList.take k := by
  simp

theorem findNumber_any (s : ByteArray) (w : World) (hs : s.size ≤ 31) (h1 : 1 ≤ s.size) (hT : ChTabs w) :
    Calls Tryz.prog 89 #[.string s] w fun e w' => e = .returned (.tuple #[.int .i64 ((numL s.data.toList).1 : Int), .int .i32 (numL s.data.toList).2]) ∧ w' = w := by
  by_cases h2 : 1 < s.size
  · have hx := getElem_list h2 rfl
    have hh := hexN_at hx
    have hl := low_or ((s[1]'h2).toNat : Int)
    have he := digEnd s.data.toList
    have i1 := int_beq (s[1]'h2) 120
    have i2 := int_beq (s[1]'h2) 88
    cases hb : hexN s.data.toList
    · obtain ⟨e1, e2, e3⟩ := digN_dec hb
      rw [e1, e2, e3] at he
      refine findNumber_dec s _ w hs h1 h2 (s[1]'h2) rfl ?_ he hT
      rw [hb] at hh
      have hh := Bool.or_eq_false_iff.1 hh.symm
      rw [hh.1] at i1
      rw [hh.2] at i2
      have i1 := beq_eq_false_iff_ne.1 i1
      have i2 := beq_eq_false_iff_ne.1 i2
      refine beq_eq_false_iff_ne.2 ?_
      change ¬ _ = ((120 : Nat) : Int) at i1
      change ¬ _ = ((88 : Nat) : Int) at i2
      omega
    · obtain ⟨e1, e2, e3⟩ := digN_hex hb
      rw [e1, e2, e3] at he
      refine findNumber_hex s _ w hs h1 h2 (s[1]'h2) rfl ?_ he hT
      rw [hb] at hh
      refine beq_iff_eq.2 ?_
      rcases Bool.or_eq_true_iff.1 hh.symm with h | h
      · rw [h] at i1
        have i1 := beq_iff_eq.1 i1
        change _ = ((120 : Nat) : Int) at i1
        omega
      · rw [h] at i2
        have i2 := beq_iff_eq.1 i2
        change _ = ((88 : Nat) : Int) at i2
        omega
  · rw [numL_one (by rw [← size_eq]; omega)]
    exact findNumber_one s w (by omega)

theorem number_any (s : ByteArray) (w : World) (h1 : 1 ≤ s.size) (hm : s.size ≤ 140737488355328) :
    Calls Tryz.prog 94 #[.string s] w fun e w' => e = .returned (.tuple #[.int .i64 (numL (s.data.toList.take 31)).2, .int .i64 ((numL (s.data.toList.take 31)).1 : Int)]) ∧ Below w.heap.size w w' := by
  by_cases hs : s.size ≤ 31
  · rw [List.take_of_length_le (by rw [← size_eq]; omega)]
    by_cases h2 : 1 < s.size
    · have hx := getElem_list h2 rfl
      have hh := hexN_at hx
      have he := digEndS s.data.toList
      have i1 := int_beq (s[1]'h2) 120
      have i2 := int_beq (s[1]'h2) 88
      rw [show ((120 : UInt8).toNat : Int) = 120 from rfl] at i1
      rw [show ((88 : UInt8).toNat : Int) = 88 from rfl] at i2
      cases hb : hexN s.data.toList
      · obtain ⟨e1, e2, e3⟩ := digN_dec hb
        rw [e1, e2, e3] at he
        rw [hb] at hh
        have hh := Bool.or_eq_false_iff.1 hh.symm
        rw [hh.1] at i1
        rw [hh.2] at i2
        exact number_dec s _ w hs h2 _ rfl i1 i2 he
      · obtain ⟨e1, e2, e3⟩ := digN_hex hb
        rw [e1, e2, e3] at he
        rw [hb] at hh
        cases h : (s[1]'h2 == 120)
        · rw [h, Bool.false_or] at hh
          rw [h] at i1
          rw [← hh] at i2
          exact number_hexb s _ w hs h2 _ rfl i1 i2 he
        · rw [h] at i1
          exact number_hexa s _ w hs h2 _ rfl i1 he
    · rw [numL_one (by rw [← size_eq]; omega)]
      refine (number_one s w (by omega)).mono ?_
      rintro e w' ⟨rfl, rfl⟩
      exact ⟨rfl, Below.refl _ _⟩
  · obtain ⟨t, ht⟩ : ∃ t, s.extract 0 31 = t := ⟨_, rfl⟩
    have htz : t.size = 31 := by rw [← ht, ByteArray.size_extract]; omega
    have htl : t.data.toList = s.data.toList.take 31 := by rw [← ht]; exact take_extract s 31
    rw [← htl]
    have h2 : 1 < t.size := by omega
    have hx := getElem_list h2 rfl
    have hh := hexN_at hx
    have he := digEndS t.data.toList
    have i1 := int_beq (t[1]'h2) 120
    have i2 := int_beq (t[1]'h2) 88
    rw [show ((120 : UInt8).toNat : Int) = 120 from rfl] at i1
    rw [show ((88 : UInt8).toNat : Int) = 88 from rfl] at i2
    cases hb : hexN t.data.toList
    · obtain ⟨e1, e2, e3⟩ := digN_dec hb
      rw [e1, e2, e3] at he
      rw [hb] at hh
      have hh := Bool.or_eq_false_iff.1 hh.symm
      rw [hh.1] at i1
      rw [hh.2] at i2
      exact number_dec_long s t _ w (by omega) hm ht htz h2 _ rfl i1 i2 he
    · obtain ⟨e1, e2, e3⟩ := digN_hex hb
      rw [e1, e2, e3] at he
      rw [hb] at hh
      cases h : (t[1]'h2 == 120)
      · rw [h, Bool.false_or] at hh
        rw [h] at i1
        rw [← hh] at i2
        exact number_hexb_long s t _ w (by omega) hm ht htz h2 _ rfl i1 i2 he
      · rw [h] at i1
        exact number_hexa_long s t _ w (by omega) hm ht htz h2 _ rfl i1 he
end Go.Proofs.YtndglhflbenloaaGreatDoor
