/-
  Parts of the walk, joined: Char.
-/
import Derived.Lib.IndexBytes
import Derived.Deep.QuietTactic
import Derived.BigQuiet
import Derived.BigCall
import Derived.Test.YtcncbhbdpcpkeaaGreatDoorPJAC
import Derived.Test.YtcncbhbdpcpkeaaGreatDoorPJAF
/-
  scrubref.character: its walk: the character at the front, and its length.
-/
namespace Go.Proofs.YtcncbhbdpcpkeaaGreatDoor
open Go.RowKit Go.Lib

/-- the character at the front of n bytes that begin so, and its length; none: length 0 -/
def charN (n b0 b1 b2 b3 : Nat) : Nat × Nat := if decodeN n b0 b1 b2 b3 = (65533, 1) then (0, 0) else decodeN n b0 b1 b2 b3
def charL (l : List UInt8) : Nat × Nat := charN l.length (l.getD 0 0).toNat (l.getD 1 0).toNat (l.getD 2 0).toNat (l.getD 3 0).toNat

theorem keep {p : Prop} (h : p) : Hid p := h

/-- the bytes of a number are those that stand there -/
def hitN (k n b0 b1 b2 b3 : Nat) : Prop :=
  if k = 1 then b0 < 128
  else if k = 2 then 2 ≤ n ∧ 128 ≤ b0 % 32 * 64 + b1 % 64 ∧ b0 / 32 = 6 ∧ b1 / 64 = 2
  else if k = 3 then 3 ≤ n ∧ 2048 ≤ (b0 % 16 * 64 + b1 % 64) * 64 + b2 % 64 ∧ charB (((b0 % 16 * 64 + b1 % 64) * 64 + b2 % 64 : Nat) : Int) = true ∧ b0 / 16 = 14 ∧ b1 / 64 = 2 ∧ b2 / 64 = 2
  else 4 ≤ n ∧ 65536 ≤ ((b0 % 8 * 64 + b1 % 64) * 64 + b2 % 64) * 64 + b3 % 64 ∧ ((b0 % 8 * 64 + b1 % 64) * 64 + b2 % 64) * 64 + b3 % 64 ≤ 1114111 ∧ b0 / 8 = 30 ∧ b1 / 64 = 2 ∧ b2 / 64 = 2 ∧ b3 / 64 = 2

theorem charB_iff (z : Int) : charB z = true ↔ (0 ≤ z ∧ z < 55296) ∨ (57344 ≤ z ∧ z < 1114112) := by unfold charB; rw [decide_eq_true_iff]

set_option maxHeartbeats 1000000 in
theorem char_hit (k n b0 b1 b2 b3 : Nat) (hk : 1 ≤ k ∧ k ≤ 4) (hn : k ≤ n) (l0 : b0 < 256) (l1 : b1 < 256) (_l2 : b2 < 256) (_l3 : b3 < 256) (h : hitN k n b0 b1 b2 b3) : charN n b0 b1 b2 b3 = (guessN k b0 b1 b2 b3, k) := by
  rcases (show k = 1 ∨ k = 2 ∨ k = 3 ∨ k = 4 by omega) with rfl | rfl | rfl | rfl
  all_goals simp only [hitN, guessN, charB_iff, Nat.reduceEqDiff, if_true, if_false] at h ⊢
  · have e : decodeN n b0 b1 b2 b3 = (b0, 1) := by unfold decodeN; rw [if_pos h]
    unfold charN
    rw [e, if_neg (by simp only [Prod.mk.injEq]; omega)]
  · have e : decodeN n b0 b1 b2 b3 = (b0 % 32 * 64 + b1 % 64, 2) := by
      unfold decodeN
      rw [if_neg (by omega), if_pos (by omega), if_pos (by omega)]
    unfold charN
    rw [e, if_neg (by simp)]
  · have e : decodeN n b0 b1 b2 b3 = ((b0 % 16 * 64 + b1 % 64) * 64 + b2 % 64, 3) := by
      unfold decodeN
      rw [if_neg (by omega), if_neg (by omega), if_pos (by omega), if_pos (by omega), Prod.mk.injEq]
      omega
    unfold charN
    rw [e, if_neg (by simp)]
  · have e : decodeN n b0 b1 b2 b3 = (((b0 % 8 * 64 + b1 % 64) * 64 + b2 % 64) * 64 + b3 % 64, 4) := by
      unfold decodeN
      rw [if_neg (by omega), if_neg (by omega), if_neg (by omega), if_pos (by omega), if_pos (by omega), Prod.mk.injEq]
      omega
    unfold charN
    rw [e, if_neg (by simp)]
set_option maxHeartbeats 1000000 in
theorem char_miss (n b0 b1 b2 b3 : Nat) (l0 : b0 < 256) (l1 : b1 < 256) (_l2 : b2 < 256) (_l3 : b3 < 256) (h : ∀ k, 1 ≤ k → k ≤ 4 → k ≤ n → ¬ hitN k n b0 b1 b2 b3) (hn : 1 ≤ n) : charN n b0 b1 b2 b3 = (0, 0) := by
  have h1 := h 1 (by omega) (by omega) hn
  have h2 := fun e => h 2 (by omega) (by omega) e
  have h3 := fun e => h 3 (by omega) (by omega) e
  have h4 := fun e => h 4 (by omega) (by omega) e
  simp only [hitN, charB_iff, Nat.reduceEqDiff, if_true, if_false] at h1 h2 h3 h4
  unfold charN
  rw [if_pos]
  unfold decodeN
  rw [if_neg (by omega)]
  repeat' split
  all_goals first | rfl | (exfalso; omega)

set_option maxHeartbeats 1000000 in
theorem hit_of (k n : Nat) (b0 b1 b2 b3 : UInt8) (hk : 1 ≤ k ∧ k ≤ 4) (hn : k ≤ n) (hc : charB (guessN k b0.toNat b1.toNat b2.toNat b3.toNat : Nat) = true) :
    hitN k n b0.toNat b1.toNat b2.toNat b3.toNat ↔ encodeRune (guessN k b0.toNat b1.toNat b2.toNat b3.toNat : Nat) = [b0, b1, b2, b3].take k := by
  have l0 := b0.toNat_lt; have l1 := b1.toNat_lt; have l2 := b2.toNat_lt; have l3 := b3.toNat_lt
  have bo : ∀ {x : Int}, 0 ≤ x → x < 256 → (x.toNat.toUInt8).toNat = x.toNat := fun _ h1 => by simp; omega
  have ue : ∀ {a b : UInt8}, a = b ↔ a.toNat = b.toNat := UInt8.toNat_inj.symm
  have hv := (charB_iff _).1 hc
  have hlen := fun (z : Int) => encodeRuneZ_length z
  rcases (show k = 1 ∨ k = 2 ∨ k = 3 ∨ k = 4 by omega) with rfl | rfl | rfl | rfl
  all_goals simp only [guessN, Nat.reduceEqDiff, if_true, if_false] at hv hc ⊢
  all_goals simp only [hitN, Nat.reduceEqDiff, if_true, if_false]
  all_goals unfold encodeRune
  · by_cases c : b0.toNat ≤ 127
    · rw [encodeRuneZ_one (by omega) (by omega)]
      simp only [List.map_cons, List.map_nil, List.take_succ_cons, List.take_zero, List.cons.injEq, and_true, ue]
      rw [bo (by omega) (by omega)]
      omega
    · refine ⟨fun h => absurd h (by omega), fun h => ?_⟩
      have := congrArg List.length h
      rw [List.length_map, encodeRuneZ_two (by omega) (by omega)] at this
      simp at this
  · generalize hvv : b0.toNat % 32 * 64 + b1.toNat % 64 = v at *
    by_cases c : v ≤ 127
    · refine ⟨fun h => absurd h (by omega), fun h => ?_⟩
      have := congrArg List.length h
      rw [List.length_map, encodeRuneZ_one (by omega) (by omega)] at this
      simp at this
    · rw [encodeRuneZ_two (by omega) (by omega)]
      simp only [List.map_cons, List.map_nil, List.take_succ_cons, List.take_zero, List.cons.injEq, and_true, ue]
      rw [bo (by omega) (by omega), bo (by omega) (by omega)]
      omega
  · generalize hvv : (b0.toNat % 16 * 64 + b1.toNat % 64) * 64 + b2.toNat % 64 = v at *
    simp only [hc, true_and]
    by_cases c : v ≤ 127
    · refine ⟨fun h => absurd h (by omega), fun h => ?_⟩
      have := congrArg List.length h
      rw [List.length_map, encodeRuneZ_one (by omega) (by omega)] at this
      simp at this
    · by_cases c2 : v ≤ 2047
      · refine ⟨fun h => absurd h (by omega), fun h => ?_⟩
        have := congrArg List.length h
        rw [List.length_map, encodeRuneZ_two (by omega) (by omega)] at this
        simp at this
      · rw [encodeRuneZ_three (by omega)]
        simp only [List.map_cons, List.map_nil, List.take_succ_cons, List.take_zero, List.cons.injEq, and_true, ue]
        rw [bo (by omega) (by omega), bo (by omega) (by omega), bo (by omega) (by omega)]
        omega
  · generalize hvv : ((b0.toNat % 8 * 64 + b1.toNat % 64) * 64 + b2.toNat % 64) * 64 + b3.toNat % 64 = v at *
    by_cases c : v ≤ 127
    · refine ⟨fun h => absurd h (by omega), fun h => ?_⟩
      have := congrArg List.length h
      rw [List.length_map, encodeRuneZ_one (by omega) (by omega)] at this
      simp at this
    · by_cases c2 : v ≤ 2047
      · refine ⟨fun h => absurd h (by omega), fun h => ?_⟩
        have := congrArg List.length h
        rw [List.length_map, encodeRuneZ_two (by omega) (by omega)] at this
        simp at this
      · by_cases c3 : v ≤ 65535
        · refine ⟨fun h => absurd h (by omega), fun h => ?_⟩
          have := congrArg List.length h
          rw [List.length_map, encodeRuneZ_three (by omega)] at this
          simp at this
        · rw [encodeRuneZ_four (by omega) (by omega)]
          simp only [List.map_cons, List.map_nil, List.take_succ_cons, List.take_zero, List.cons.injEq, and_true, ue]
          rw [bo (by omega) (by omega), bo (by omega) (by omega), bo (by omega) (by omega), bo (by omega) (by omega)]
          omega

theorem first_four (l : List UInt8) (k : Nat) (h : k ≤ l.length) (h4 : k ≤ 4) : [l.getD 0 0, l.getD 1 0, l.getD 2 0, l.getD 3 0].take k = l.take k :=
  match l, k, h, h4 with
  | _, 0, _, _ => by simp
  | a :: _, 1, _, _ => by simp
  | a :: b :: _, 2, _, _ => by simp
  | a :: b :: c :: _, 3, _, _ => by simp
  | a :: b :: c :: d :: _, 4, _, _ => by simp
  | _ :: _ :: _ :: _ :: _, k + 5, _, h4 => by omega
  | [], k + 1, h, _ => by simp at h
  | [_], k + 2, h, _ => by simp at h
  | [_, _], k + 3, h, _ => by simp at h
  | [_, _, _], k + 4, h, _ => by simp at h

theorem back_text (W : World) (g c : Nat) (l : List UInt8) (h : ownsN W 5 g l.length c (byteCells l)) :
    (convert 65 9 (.slice (some ⟨g, 0, none⟩) l.length c)).run Tryz.prog W = .ok (.string ⟨l.toArray⟩) W :=
  run_convert_bytes_back W 65 9 5 ⟨g, 0, none⟩ c l Tryz.underlying65 Tryz.underlying5 Tryz.underlying9 (fun j hj => by
    have hadd : (⟨g, 0, none⟩ : Addr).add j = ⟨g, j, none⟩ := by unfold Addr.add; split <;> simp_all
    rw [hadd, h.cell j hj]
    simp [byteCells, hj])
theorem owns_new (W : World) (l : List UInt8) (h : l.length ≤ 4) : ownsN (W.alloc (.cells (byteCells l).toArray 5)) 5 W.heap.size l.length l.length (byteCells l) :=
  ⟨_, (0, 0), heap_alloc_new W _, Or.inr rfl, Nat.le_refl _, by unfold maxLen; omega, by simp [byteCells], by simp [byteCells], by simp [byteCells, List.take_of_length_le]⟩
theorem enc_text (W : World) (l : List UInt8) (h : l.length ≤ 4) (n : Nat) :
    (convert 65 9 (.slice (some ⟨W.heap.size, 0, none⟩) l.length l.length)).run Tryz.prog ((W.alloc (.cells (byteCells l).toArray 5)).drewN n) = .ok (.string ⟨l.toArray⟩) ((W.alloc (.cells (byteCells l).toArray 5)).drewN n) :=
  back_text _ _ _ l ((owns_new W l h).kept rfl)

theorem next_miss {k n b0 b1 b2 b3 : Nat} (h : ∀ j, 1 ≤ j → j < k → j ≤ n → ¬ hitN j n b0 b1 b2 b3) (hk : ¬ hitN k n b0 b1 b2 b3) : ∀ j, 1 ≤ j → j < k + 1 → j ≤ n → ¬ hitN j n b0 b1 b2 b3 := by
  intro j h1 h2 h3
  by_cases e : j = k
  · subst e; exact hk
  · exact h j h1 (by omega) h3
theorem hit_char {k n b0 b1 b2 b3 : Nat} (hk : 1 ≤ k ∧ k ≤ 4) (h : hitN k n b0 b1 b2 b3) (l0 : b0 < 256) : charB ((guessN k b0 b1 b2 b3 : Nat) : Int) = true := by
  rw [charB_iff]
  rcases (show k = 1 ∨ k = 2 ∨ k = 3 ∨ k = 4 by omega) with rfl | rfl | rfl | rfl
  all_goals simp only [hitN, guessN, charB_iff, Nat.reduceEqDiff, if_true, if_false] at h ⊢
  all_goals omega

set_option maxHeartbeats 8000000 in
set_option maxRecDepth 100000 in
theorem char_walk (s : ByteArray) (w : World) (h1 : 1 ≤ s.size) (hm : s.size ≤ 140737488355328) :
    Calls Tryz.prog 87 #[.string s] w fun e w' => e = .returned (.tuple #[.int .i64 (charL s.data.toList).1, .int .i64 (charL s.data.toList).2]) ∧ Below w.heap.size w w' := by
  obtain ⟨x0, hx0⟩ : ∃ x0, s.get! 0 = x0 := ⟨_, rfl⟩
  obtain ⟨x1, hx1⟩ : ∃ x1, s.get! 1 = x1 := ⟨_, rfl⟩
  obtain ⟨x2, hx2⟩ : ∃ x2, s.get! 2 = x2 := ⟨_, rfl⟩
  obtain ⟨x3, hx3⟩ : ∃ x3, s.get! 3 = x3 := ⟨_, rfl⟩
  have hch : charL s.data.toList = charN s.size x0.toNat x1.toNat x2.toNat x3.toNat := by
    unfold charL
    rw [getD_get!', getD_get!', getD_get!', getD_get!', ← size_eq, hx0, hx1, hx2, hx3]
  rw [hch]
  clear hch
  have g0 : ∀ h : 0 < s.size, s[0]'h = x0 := fun h => by rw [← hx0]; exact (Utf8W.get!_of_lt s 0 h).symm
  have g1 : ∀ h : 1 < s.size, s[1]'h = x1 := fun h => by rw [← hx1]; exact (Utf8W.get!_of_lt s 1 h).symm
  have g2 : ∀ h : 2 < s.size, s[2]'h = x2 := fun h => by rw [← hx2]; exact (Utf8W.get!_of_lt s 2 h).symm
  have g3 : ∀ h : 3 < s.size, s[3]'h = x3 := fun h => by rw [← hx3]; exact (Utf8W.get!_of_lt s 3 h).symm
  have htk : ∀ k, k ≤ 4 → k ≤ s.size → (s.extract 0 k).data.toList = [x0, x1, x2, x3].take k := fun k h4 hk => by
    rw [extract_data, List.drop_zero, Nat.sub_zero, ← hx0, ← hx1, ← hx2, ← hx3, ← getD_get!', ← getD_get!', ← getD_get!', ← getD_get!']
    exact (first_four s.data.toList k (by rw [← size_eq]; exact hk) h4).symm
  have l0 := x0.toNat_lt; have l1 := x1.toNat_lt; have l2 := x2.toNat_lt; have l3 := x3.toNat_lt
  obtain ⟨r, hr⟩ : ∃ r, charN s.size x0.toNat x1.toNat x2.toNat x3.toNat = r := ⟨_, rfl⟩
  rw [hr]
  have HR := keep hr
  have HM := keep (char_miss s.size x0.toNat x1.toNat x2.toNat x3.toNat l0 l1 l2 l3)
  have HT := keep htk
  clear hr htk hx0 hx1 hx2 hx3
  go_enter Tryz.func87, Tryz.ntmps87
  go_wp2
  go_loopw [4] (fun iv wr => ∃ k : Nat, 1 ≤ k ∧ k ≤ 5 ∧ iv = .int .i64 k ∧ Hid (∀ j, 1 ≤ j → j < k → j ≤ s.size → ¬ hitN j s.size x0.toNat x1.toNat x2.toNat x3.toNat) ∧ Below w.heap.size w wr) (fun iv _ => 5 - (RowKit.intOf iv).toNat)
  case atStart => exact ⟨1, by omega, by omega, rfl, fun j a b => absurd a (by omega), Below.refl _ _⟩
  case round =>
    obtain ⟨k, hk1, hk5, rfl, HN, hbw⟩ := hrel
    rcases (show k = 1 ∨ k = 2 ∨ k = 3 ∨ k = 4 ∨ k = 5 by omega) with rfl | rfl | rfl | rfl | rfl
    · by_cases hk : 1 ≤ s.size
      · have hki : (1 : Int) ≤ (s.size : Int) := by omega
        have HG := keep (fun W => guess_1 s x0 x1 x2 x3 hk (g0 (by omega)) W)
        have HO := keep (hit_of 1 s.size x0 x1 x2 x3 (by omega) hk)
        have HH := keep (fun h => char_hit 1 s.size x0.toNat x1.toNat x2.toNat x3.toNat (by omega) hk l0 l1 l2 l3 h)
        have HC := keep (fun h => hit_char (k := 1) (n := s.size) (b0 := x0.toNat) (b1 := x1.toNat) (b2 := x2.toNat) (b3 := x3.toNat) (by omega) h l0)
        obtain ⟨v, hv⟩ : ∃ v, guessN 1 x0.toNat x1.toNat x2.toNat x3.toNat = v := ⟨_, rfl⟩
        have hvl : guessN 1 x0.toNat x1.toNat x2.toNat x3.toNat ≤ 100000000 := by simp only [guessN, Nat.reduceEqDiff, if_true]; omega
        obtain ⟨z, hz⟩ : ∃ z : Int, (v : Int) = z := ⟨_, rfl⟩
        have hgs := HG.out
        have hho := HO.out
        have hhh := HH.out
        have hhc := HC.out
        rw [hv] at hgs hho hhh hhc
        rw [hz] at hgs hho hhc
        have HZ := keep hz
        have HG2 := keep hgs
        have HO2 := keep hho
        have HH2 := keep hhh
        have HC2 := keep hhc
        have hz0 : 0 ≤ z := by omega
        clear hgs hho hhh hhc hv hz hvl HG HO HH HC g0 g1 g2 g3
        by_cases hc : charB z = true
        · have hzc := (charB_iff z).1 hc
          have henc := fun W => encode_any z hz0 (by omega) (by omega) W
          have hlen := encodeRuneZ_length z
          obtain ⟨L, hL⟩ : ∃ L, encodeRune z = L := ⟨_, rfl⟩
          have hll : L.length ≤ 4 := by rw [← hL]; simp only [encodeRune, List.length_map]; exact hlen.2
          rw [hL] at henc
          have HE := keep henc
          have HL := keep hL
          clear henc hlen hL hzc
          go_wp2_with fail
          refine (HG2.out _).mono ?_
          rintro e w' ⟨rfl, rfl⟩
          go_wp2_with fail
          refine (isCharacter_any z _).mono ?_
          rintro e w' ⟨rfl, rfl⟩
          go_wp2_with fail
          refine (HE.out _).mono ?_
          rintro e w' ⟨rfl, rfl⟩
          by_cases hm2 : L.length = 1
          · have hq : ((L.length : Int) == 1) = true := beq_iff_eq.2 (by omega)
            have hcv := enc_text w' L hll
            rw [hm2] at hcv
            have hts := HT.out 1 (by omega) hk
            by_cases heq : L = [x0, x1, x2, x3].take 1
            · have hse : s.extract 0 1 = ⟨L.toArray⟩ := by rw [heq, ← hts]
              have HX := keep (HH2.out ((HO2.out hc).2 (HL.out.trans heq)))
              have hbw2 := hbw.alloc hbw.size (.cells (byteCells L).toArray 5)
              clear HN HM HT HO2 HH2 HC2 heq hts
              go_wp2
              go_quiet (fail)
              go_wp2
              go_ret2
              refine ⟨?_, below_drewN hbw2 _⟩
              have e := HR.out.symm.trans HX.out
              rw [e, ← HZ.out]
              rfl
            · have hne : (L == (s.extract 0 1).toList) = false := by
                rw [toList_data, hts]
                exact beq_eq_false_iff_ne.2 heq
              have hnh : ¬ hitN 1 s.size x0.toNat x1.toNat x2.toNat x3.toNat := fun h => heq (HL.out.symm.trans ((HO2.out hc).1 h))
              have HX := keep (next_miss HN.out hnh)
              have hbw2 := hbw.alloc hbw.size (.cells (byteCells L).toArray 5)
              clear HN HM HT HO2 HH2 HC2 hnh heq hts
              go_wp2
              go_quiet (fail)
              go_wp2
              go_roundw
              case rel => exact ⟨1 + 1, by omega, by omega, by go_num, HX.out, below_drewN hbw2 _⟩
              case measure => simp [RowKit.intOf]
          · have hq : ((L.length : Int) == 1) = false := beq_eq_false_iff_ne.2 (by omega)
            have hnh : ¬ hitN 1 s.size x0.toNat x1.toNat x2.toNat x3.toNat := fun h => hm2 (by
              have := (HO2.out hc).1 h
              rw [HL.out] at this
              rw [this, List.length_take]; rfl)
            have HX := keep (next_miss HN.out hnh)
            have hbw2 := hbw.alloc hbw.size (.cells (byteCells L).toArray 5)
            clear HN HM HT HO2 HH2 HC2 hnh hm2
            go_wp2
            go_quiet (fail)
            go_wp2
            go_roundw
            case rel => exact ⟨1 + 1, by omega, by omega, by go_num, HX.out, below_drewN hbw2 _⟩
            case measure => simp [RowKit.intOf]
        · have hnh : ¬ hitN 1 s.size x0.toNat x1.toNat x2.toNat x3.toNat := fun h => hc (HC2.out h)
          have HX := keep (next_miss HN.out hnh)
          have hcf : charB z = false := by simpa using hc
          clear HN HM HT HO2 HH2 HC2 hnh hc
          go_wp2_with fail
          refine (HG2.out _).mono ?_
          rintro e w' ⟨rfl, rfl⟩
          go_wp2_with fail
          refine (isCharacter_any z _).mono ?_
          rintro e w' ⟨rfl, rfl⟩
          go_wp2
          go_roundw
          case rel => exact ⟨1 + 1, by omega, by omega, by go_num, HX.out, hbw⟩
          case measure => simp [RowKit.intOf]
      · have hki : ¬ ((1 : Int) ≤ (s.size : Int)) := by omega
        have HX := keep (HM.out (fun j a b c => HN.out j a (by omega) c) h1)
        clear HN HM HT g0 g1 g2 g3
        go_wp2
        go_ret2
        refine ⟨?_, hbw⟩
        rw [← HR.out, HX.out]
        rfl
    · by_cases hk : 2 ≤ s.size
      · have hki : (2 : Int) ≤ (s.size : Int) := by omega
        have HG := keep (fun W => guess_2 s x0 x1 x2 x3 hk (g0 (by omega)) (g1 (by omega)) W)
        have HO := keep (hit_of 2 s.size x0 x1 x2 x3 (by omega) hk)
        have HH := keep (fun h => char_hit 2 s.size x0.toNat x1.toNat x2.toNat x3.toNat (by omega) hk l0 l1 l2 l3 h)
        have HC := keep (fun h => hit_char (k := 2) (n := s.size) (b0 := x0.toNat) (b1 := x1.toNat) (b2 := x2.toNat) (b3 := x3.toNat) (by omega) h l0)
        obtain ⟨v, hv⟩ : ∃ v, guessN 2 x0.toNat x1.toNat x2.toNat x3.toNat = v := ⟨_, rfl⟩
        have hvl : guessN 2 x0.toNat x1.toNat x2.toNat x3.toNat ≤ 100000000 := by simp only [guessN, Nat.reduceEqDiff, if_true, if_false]; omega
        obtain ⟨z, hz⟩ : ∃ z : Int, (v : Int) = z := ⟨_, rfl⟩
        have hgs := HG.out
        have hho := HO.out
        have hhh := HH.out
        have hhc := HC.out
        rw [hv] at hgs hho hhh hhc
        rw [hz] at hgs hho hhc
        have HZ := keep hz
        have HG2 := keep hgs
        have HO2 := keep hho
        have HH2 := keep hhh
        have HC2 := keep hhc
        have hz0 : 0 ≤ z := by omega
        clear hgs hho hhh hhc hv hz hvl HG HO HH HC g0 g1 g2 g3
        by_cases hc : charB z = true
        · have hzc := (charB_iff z).1 hc
          have henc := fun W => encode_any z hz0 (by omega) (by omega) W
          have hlen := encodeRuneZ_length z
          obtain ⟨L, hL⟩ : ∃ L, encodeRune z = L := ⟨_, rfl⟩
          have hll : L.length ≤ 4 := by rw [← hL]; simp only [encodeRune, List.length_map]; exact hlen.2
          rw [hL] at henc
          have HE := keep henc
          have HL := keep hL
          clear henc hlen hL hzc
          go_wp2_with fail
          refine (HG2.out _).mono ?_
          rintro e w' ⟨rfl, rfl⟩
          go_wp2_with fail
          refine (isCharacter_any z _).mono ?_
          rintro e w' ⟨rfl, rfl⟩
          go_wp2_with fail
          refine (HE.out _).mono ?_
          rintro e w' ⟨rfl, rfl⟩
          by_cases hm2 : L.length = 2
          · have hq : ((L.length : Int) == 2) = true := beq_iff_eq.2 (by omega)
            have hcv := enc_text w' L hll
            rw [hm2] at hcv
            have hts := HT.out 2 (by omega) hk
            by_cases heq : L = [x0, x1, x2, x3].take 2
            · have hse : s.extract 0 2 = ⟨L.toArray⟩ := by rw [heq, ← hts]
              have HX := keep (HH2.out ((HO2.out hc).2 (HL.out.trans heq)))
              have hbw2 := hbw.alloc hbw.size (.cells (byteCells L).toArray 5)
              clear HN HM HT HO2 HH2 HC2 heq hts
              go_wp2
              go_quiet (fail)
              go_wp2
              go_ret2
              refine ⟨?_, below_drewN hbw2 _⟩
              have e := HR.out.symm.trans HX.out
              rw [e, ← HZ.out]
              rfl
            · have hne : (L == (s.extract 0 2).toList) = false := by
                rw [toList_data, hts]
                exact beq_eq_false_iff_ne.2 heq
              have hnh : ¬ hitN 2 s.size x0.toNat x1.toNat x2.toNat x3.toNat := fun h => heq (HL.out.symm.trans ((HO2.out hc).1 h))
              have HX := keep (next_miss HN.out hnh)
              have hbw2 := hbw.alloc hbw.size (.cells (byteCells L).toArray 5)
              clear HN HM HT HO2 HH2 HC2 hnh heq hts
              go_wp2
              go_quiet (fail)
              go_wp2
              go_roundw
              case rel => exact ⟨2 + 1, by omega, by omega, by go_num, HX.out, below_drewN hbw2 _⟩
              case measure => simp [RowKit.intOf]
          · have hq : ((L.length : Int) == 2) = false := beq_eq_false_iff_ne.2 (by omega)
            have hnh : ¬ hitN 2 s.size x0.toNat x1.toNat x2.toNat x3.toNat := fun h => hm2 (by
              have := (HO2.out hc).1 h
              rw [HL.out] at this
              rw [this, List.length_take]; rfl)
            have HX := keep (next_miss HN.out hnh)
            have hbw2 := hbw.alloc hbw.size (.cells (byteCells L).toArray 5)
            clear HN HM HT HO2 HH2 HC2 hnh hm2
            go_wp2
            go_quiet (fail)
            go_wp2
            go_roundw
            case rel => exact ⟨2 + 1, by omega, by omega, by go_num, HX.out, below_drewN hbw2 _⟩
            case measure => simp [RowKit.intOf]
        · have hnh : ¬ hitN 2 s.size x0.toNat x1.toNat x2.toNat x3.toNat := fun h => hc (HC2.out h)
          have HX := keep (next_miss HN.out hnh)
          have hcf : charB z = false := by simpa using hc
          clear HN HM HT HO2 HH2 HC2 hnh hc
          go_wp2_with fail
          refine (HG2.out _).mono ?_
          rintro e w' ⟨rfl, rfl⟩
          go_wp2_with fail
          refine (isCharacter_any z _).mono ?_
          rintro e w' ⟨rfl, rfl⟩
          go_wp2
          go_roundw
          case rel => exact ⟨2 + 1, by omega, by omega, by go_num, HX.out, hbw⟩
          case measure => simp [RowKit.intOf]
      · have hki : ¬ ((2 : Int) ≤ (s.size : Int)) := by omega
        have HX := keep (HM.out (fun j a b c => HN.out j a (by omega) c) h1)
        clear HN HM HT g0 g1 g2 g3
        go_wp2
        go_ret2
        refine ⟨?_, hbw⟩
        rw [← HR.out, HX.out]
        rfl
    · by_cases hk : 3 ≤ s.size
      · have hki : (3 : Int) ≤ (s.size : Int) := by omega
        have HG := keep (fun W => guess_3 s x0 x1 x2 x3 hk (g0 (by omega)) (g1 (by omega)) (g2 (by omega)) W)
        have HO := keep (hit_of 3 s.size x0 x1 x2 x3 (by omega) hk)
        have HH := keep (fun h => char_hit 3 s.size x0.toNat x1.toNat x2.toNat x3.toNat (by omega) hk l0 l1 l2 l3 h)
        have HC := keep (fun h => hit_char (k := 3) (n := s.size) (b0 := x0.toNat) (b1 := x1.toNat) (b2 := x2.toNat) (b3 := x3.toNat) (by omega) h l0)
        obtain ⟨v, hv⟩ : ∃ v, guessN 3 x0.toNat x1.toNat x2.toNat x3.toNat = v := ⟨_, rfl⟩
        have hvl : guessN 3 x0.toNat x1.toNat x2.toNat x3.toNat ≤ 100000000 := by simp only [guessN, Nat.reduceEqDiff, if_true, if_false]; omega
        obtain ⟨z, hz⟩ : ∃ z : Int, (v : Int) = z := ⟨_, rfl⟩
        have hgs := HG.out
        have hho := HO.out
        have hhh := HH.out
        have hhc := HC.out
        rw [hv] at hgs hho hhh hhc
        rw [hz] at hgs hho hhc
        have HZ := keep hz
        have HG2 := keep hgs
        have HO2 := keep hho
        have HH2 := keep hhh
        have HC2 := keep hhc
        have hz0 : 0 ≤ z := by omega
        clear hgs hho hhh hhc hv hz hvl HG HO HH HC g0 g1 g2 g3
        by_cases hc : charB z = true
        · have hzc := (charB_iff z).1 hc
          have henc := fun W => encode_any z hz0 (by omega) (by omega) W
          have hlen := encodeRuneZ_length z
          obtain ⟨L, hL⟩ : ∃ L, encodeRune z = L := ⟨_, rfl⟩
          have hll : L.length ≤ 4 := by rw [← hL]; simp only [encodeRune, List.length_map]; exact hlen.2
          rw [hL] at henc
          have HE := keep henc
          have HL := keep hL
          clear henc hlen hL hzc
          go_wp2_with fail
          refine (HG2.out _).mono ?_
          rintro e w' ⟨rfl, rfl⟩
          go_wp2_with fail
          refine (isCharacter_any z _).mono ?_
          rintro e w' ⟨rfl, rfl⟩
          go_wp2_with fail
          refine (HE.out _).mono ?_
          rintro e w' ⟨rfl, rfl⟩
          by_cases hm2 : L.length = 3
          · have hq : ((L.length : Int) == 3) = true := beq_iff_eq.2 (by omega)
            have hcv := enc_text w' L hll
            rw [hm2] at hcv
            have hts := HT.out 3 (by omega) hk
            by_cases heq : L = [x0, x1, x2, x3].take 3
            · have hse : s.extract 0 3 = ⟨L.toArray⟩ := by rw [heq, ← hts]
              have HX := keep (HH2.out ((HO2.out hc).2 (HL.out.trans heq)))
              have hbw2 := hbw.alloc hbw.size (.cells (byteCells L).toArray 5)
              clear HN HM HT HO2 HH2 HC2 heq hts
              go_wp2
              go_quiet (fail)
              go_wp2
              go_ret2
              refine ⟨?_, below_drewN hbw2 _⟩
              have e := HR.out.symm.trans HX.out
              rw [e, ← HZ.out]
              rfl
            · have hne : (L == (s.extract 0 3).toList) = false := by
                rw [toList_data, hts]
                exact beq_eq_false_iff_ne.2 heq
              have hnh : ¬ hitN 3 s.size x0.toNat x1.toNat x2.toNat x3.toNat := fun h => heq (HL.out.symm.trans ((HO2.out hc).1 h))
              have HX := keep (next_miss HN.out hnh)
              have hbw2 := hbw.alloc hbw.size (.cells (byteCells L).toArray 5)
              clear HN HM HT HO2 HH2 HC2 hnh heq hts
              go_wp2
              go_quiet (fail)
              go_wp2
              go_roundw
              case rel => exact ⟨3 + 1, by omega, by omega, by go_num, HX.out, below_drewN hbw2 _⟩
              case measure => simp [RowKit.intOf]
          · have hq : ((L.length : Int) == 3) = false := beq_eq_false_iff_ne.2 (by omega)
            have hnh : ¬ hitN 3 s.size x0.toNat x1.toNat x2.toNat x3.toNat := fun h => hm2 (by
              have := (HO2.out hc).1 h
              rw [HL.out] at this
              rw [this, List.length_take]; rfl)
            have HX := keep (next_miss HN.out hnh)
            have hbw2 := hbw.alloc hbw.size (.cells (byteCells L).toArray 5)
            clear HN HM HT HO2 HH2 HC2 hnh hm2
            go_wp2
            go_quiet (fail)
            go_wp2
            go_roundw
            case rel => exact ⟨3 + 1, by omega, by omega, by go_num, HX.out, below_drewN hbw2 _⟩
            case measure => simp [RowKit.intOf]
        · have hnh : ¬ hitN 3 s.size x0.toNat x1.toNat x2.toNat x3.toNat := fun h => hc (HC2.out h)
          have HX := keep (next_miss HN.out hnh)
          have hcf : charB z = false := by simpa using hc
          clear HN HM HT HO2 HH2 HC2 hnh hc
          go_wp2_with fail
          refine (HG2.out _).mono ?_
          rintro e w' ⟨rfl, rfl⟩
          go_wp2_with fail
          refine (isCharacter_any z _).mono ?_
          rintro e w' ⟨rfl, rfl⟩
          go_wp2
          go_roundw
          case rel => exact ⟨3 + 1, by omega, by omega, by go_num, HX.out, hbw⟩
          case measure => simp [RowKit.intOf]
      · have hki : ¬ ((3 : Int) ≤ (s.size : Int)) := by omega
        have HX := keep (HM.out (fun j a b c => HN.out j a (by omega) c) h1)
        clear HN HM HT g0 g1 g2 g3
        go_wp2
        go_ret2
        refine ⟨?_, hbw⟩
        rw [← HR.out, HX.out]
        rfl
    · by_cases hk : 4 ≤ s.size
      · have hki : (4 : Int) ≤ (s.size : Int) := by omega
        have HG := keep (fun W => guess_4 s x0 x1 x2 x3 hk (g0 (by omega)) (g1 (by omega)) (g2 (by omega)) (g3 (by omega)) W)
        have HO := keep (hit_of 4 s.size x0 x1 x2 x3 (by omega) hk)
        have HH := keep (fun h => char_hit 4 s.size x0.toNat x1.toNat x2.toNat x3.toNat (by omega) hk l0 l1 l2 l3 h)
        have HC := keep (fun h => hit_char (k := 4) (n := s.size) (b0 := x0.toNat) (b1 := x1.toNat) (b2 := x2.toNat) (b3 := x3.toNat) (by omega) h l0)
        obtain ⟨v, hv⟩ : ∃ v, guessN 4 x0.toNat x1.toNat x2.toNat x3.toNat = v := ⟨_, rfl⟩
        have hvl : guessN 4 x0.toNat x1.toNat x2.toNat x3.toNat ≤ 100000000 := by simp only [guessN, Nat.reduceEqDiff, if_false]; omega
        obtain ⟨z, hz⟩ : ∃ z : Int, (v : Int) = z := ⟨_, rfl⟩
        have hgs := HG.out
        have hho := HO.out
        have hhh := HH.out
        have hhc := HC.out
        rw [hv] at hgs hho hhh hhc
        rw [hz] at hgs hho hhc
        have HZ := keep hz
        have HG2 := keep hgs
        have HO2 := keep hho
        have HH2 := keep hhh
        have HC2 := keep hhc
        have hz0 : 0 ≤ z := by omega
        clear hgs hho hhh hhc hv hz hvl HG HO HH HC g0 g1 g2 g3
        by_cases hc : charB z = true
        · have hzc := (charB_iff z).1 hc
          have henc := fun W => encode_any z hz0 (by omega) (by omega) W
          have hlen := encodeRuneZ_length z
          obtain ⟨L, hL⟩ : ∃ L, encodeRune z = L := ⟨_, rfl⟩
          have hll : L.length ≤ 4 := by rw [← hL]; simp only [encodeRune, List.length_map]; exact hlen.2
          rw [hL] at henc
          have HE := keep henc
          have HL := keep hL
          clear henc hlen hL hzc
          go_wp2_with fail
          refine (HG2.out _).mono ?_
          rintro e w' ⟨rfl, rfl⟩
          go_wp2_with fail
          refine (isCharacter_any z _).mono ?_
          rintro e w' ⟨rfl, rfl⟩
          go_wp2_with fail
          refine (HE.out _).mono ?_
          rintro e w' ⟨rfl, rfl⟩
          by_cases hm2 : L.length = 4
          · have hq : ((L.length : Int) == 4) = true := beq_iff_eq.2 (by omega)
            have hcv := enc_text w' L hll
            rw [hm2] at hcv
            have hts := HT.out 4 (by omega) hk
            by_cases heq : L = [x0, x1, x2, x3].take 4
            · have hse : s.extract 0 4 = ⟨L.toArray⟩ := by rw [heq, ← hts]
              have HX := keep (HH2.out ((HO2.out hc).2 (HL.out.trans heq)))
              have hbw2 := hbw.alloc hbw.size (.cells (byteCells L).toArray 5)
              clear HN HM HT HO2 HH2 HC2 heq hts
              go_wp2
              go_quiet (fail)
              go_wp2
              go_ret2
              refine ⟨?_, below_drewN hbw2 _⟩
              have e := HR.out.symm.trans HX.out
              rw [e, ← HZ.out]
              rfl
            · have hne : (L == (s.extract 0 4).toList) = false := by
                rw [toList_data, hts]
                exact beq_eq_false_iff_ne.2 heq
              have hnh : ¬ hitN 4 s.size x0.toNat x1.toNat x2.toNat x3.toNat := fun h => heq (HL.out.symm.trans ((HO2.out hc).1 h))
              have HX := keep (next_miss HN.out hnh)
              have hbw2 := hbw.alloc hbw.size (.cells (byteCells L).toArray 5)
              clear HN HM HT HO2 HH2 HC2 hnh heq hts
              go_wp2
              go_quiet (fail)
              go_wp2
              go_roundw
              case rel => exact ⟨4 + 1, by omega, by omega, by go_num, HX.out, below_drewN hbw2 _⟩
              case measure => simp [RowKit.intOf]
          · have hq : ((L.length : Int) == 4) = false := beq_eq_false_iff_ne.2 (by omega)
            have hnh : ¬ hitN 4 s.size x0.toNat x1.toNat x2.toNat x3.toNat := fun h => hm2 (by
              have := (HO2.out hc).1 h
              rw [HL.out] at this
              rw [this, List.length_take]; rfl)
            have HX := keep (next_miss HN.out hnh)
            have hbw2 := hbw.alloc hbw.size (.cells (byteCells L).toArray 5)
            clear HN HM HT HO2 HH2 HC2 hnh hm2
            go_wp2
            go_quiet (fail)
            go_wp2
            go_roundw
            case rel => exact ⟨4 + 1, by omega, by omega, by go_num, HX.out, below_drewN hbw2 _⟩
            case measure => simp [RowKit.intOf]
        · have hnh : ¬ hitN 4 s.size x0.toNat x1.toNat x2.toNat x3.toNat := fun h => hc (HC2.out h)
          have HX := keep (next_miss HN.out hnh)
          have hcf : charB z = false := by simpa using hc
          clear HN HM HT HO2 HH2 HC2 hnh hc
          go_wp2_with fail
          refine (HG2.out _).mono ?_
          rintro e w' ⟨rfl, rfl⟩
          go_wp2_with fail
          refine (isCharacter_any z _).mono ?_
          rintro e w' ⟨rfl, rfl⟩
          go_wp2
          go_roundw
          case rel => exact ⟨4 + 1, by omega, by omega, by go_num, HX.out, hbw⟩
          case measure => simp [RowKit.intOf]
      · have hki : ¬ ((4 : Int) ≤ (s.size : Int)) := by omega
        have HX := keep (HM.out (fun j a b c => HN.out j a (by omega) c) h1)
        clear HN HM HT g0 g1 g2 g3
        go_wp2
        go_ret2
        refine ⟨?_, hbw⟩
        rw [← HR.out, HX.out]
        rfl
    · have HX := keep (HM.out (fun j a b c => HN.out j a (by omega) c) h1)
      clear HN HM HT g0 g1 g2 g3
      go_wp2
      go_ret2
      refine ⟨?_, hbw⟩
      rw [← HR.out, HX.out]
      rfl
end Go.Proofs.YtcncbhbdpcpkeaaGreatDoor
