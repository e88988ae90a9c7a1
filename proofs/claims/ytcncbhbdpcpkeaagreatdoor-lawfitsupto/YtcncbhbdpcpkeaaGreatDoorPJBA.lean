/-
  Parts of the walk, joined: Same, PolOpen.
-/
import Derived.Test.YtcncbhbdpcpkeaaGreatDoorRows
import Derived.Lib.LaidU8
import Derived.SliceStrings
import Derived.Lib.SmallJoins
import Derived.Deep.SlicePairs
import Derived.ChangeMaps5
import Derived.ChangeSame
import Derived.Test.YtcncbhbdpcpkeaaGreatDoorPJAT
import Derived.Test.YtcncbhbdpcpkeaaGreatDoorPJAJ
/-
  What is decoded is good text, and good text is decoded to itself. No program is walked here.
-/
namespace Go.Proofs.YtcncbhbdpcpkeaaGreatDoor
open Go.Lib

theorem byte_of {x : Int} (_h0 : 0 ≤ x) (h1 : x < 256) : (x.toNat.toUInt8).toNat = x.toNat := by
  simp; omega

theorem goodB_le {c : Int} (h : goodB c = true) : c ≤ 1114111 ∧ ¬ (55296 ≤ c ∧ c ≤ 57343) := by
  unfold goodB at h
  rw [decide_eq_true_iff] at h
  omega

theorem code_enc (c : Nat) (r : List UInt8) (h : goodB c = true) : codeL (encodeRune c ++ r) = (c, (encodeRune c).length) := by
  have hb := goodB_le h
  unfold encodeRune
  by_cases h1 : c ≤ 127
  · rw [encodeRuneZ_one (by omega) (by omega)]
    have e0 := byte_of (x := (c : Int)) (by omega) (by omega)
    simp only [List.map_cons, List.map_nil, List.cons_append, List.nil_append, codeL, List.length_cons, List.length_nil, List.getD_cons_zero, e0]
    unfold codeN
    rw [if_pos (by omega)]; simp
  · by_cases h2 : c ≤ 2047
    · rw [encodeRuneZ_two (by omega) (by omega)]
      have e0 := byte_of (x := 192 + (c : Int) / 64) (by omega) (by omega)
      have e1 := byte_of (x := 128 + (c : Int) % 64) (by omega) (by omega)
      simp only [List.map_cons, List.map_nil, List.cons_append, List.nil_append, codeL, List.length_cons, List.length_nil, List.getD_cons_zero, List.getD_cons_succ, e0, e1]
      unfold codeN
      rw [if_neg (by omega), if_neg (by omega), if_pos (by omega), if_pos (by omega)]
      simp only [Prod.mk.injEq, and_true]; omega
    · by_cases h3 : c ≤ 65535
      · rw [encodeRuneZ_three (by omega)]
        have e0 := byte_of (x := 224 + (c : Int) / 4096) (by omega) (by omega)
        have e1 := byte_of (x := 128 + (c : Int) / 64 % 64) (by omega) (by omega)
        have e2 := byte_of (x := 128 + (c : Int) % 64) (by omega) (by omega)
        simp only [List.map_cons, List.map_nil, List.cons_append, List.nil_append, codeL, List.length_cons, List.length_nil, List.getD_cons_zero, List.getD_cons_succ, e0, e1, e2]
        unfold codeN
        rw [if_neg (by omega), if_neg (by omega), if_neg (by omega), if_pos (by omega), if_pos (by omega)]
        simp only [Prod.mk.injEq, and_true]; omega
      · rw [encodeRuneZ_four (by omega) (by omega)]
        have e0 := byte_of (x := 240 + (c : Int) / 262144) (by omega) (by omega)
        have e1 := byte_of (x := 128 + (c : Int) / 4096 % 64) (by omega) (by omega)
        have e2 := byte_of (x := 128 + (c : Int) / 64 % 64) (by omega) (by omega)
        have e3 := byte_of (x := 128 + (c : Int) % 64) (by omega) (by omega)
        simp only [List.map_cons, List.map_nil, List.cons_append, List.nil_append, codeL, List.length_cons, List.length_nil, List.getD_cons_zero, List.getD_cons_succ, e0, e1, e2, e3]
        unfold codeN
        rw [if_neg (by omega), if_neg (by omega), if_neg (by omega), if_neg (by omega), if_pos (by omega)]
        simp only [Prod.mk.injEq, and_true]; omega
theorem enc_len (c : Int) : 1 ≤ (encodeRune c).length := by
  have := (encodeRuneZ_length c).1
  simpa [encodeRune] using this
theorem gt_enc (c : Nat) (r : List UInt8) (h : goodB c = true) : gt (encodeRune c ++ r) = gt r := by
  have he := code_enc c r h
  have hl := enc_len c
  have hne : encodeRune c ++ r ≠ [] := by
    intro h0
    have := congrArg List.length h0
    rw [List.length_append, List.length_nil] at this; omega
  rw [gt_step _ hne (by rw [he]; simp only; omega) (by rw [he]; exact h), he]
  simp

theorem gt_unit (cr : Bool) (c : Nat) (r : List UInt8) : gt (unitL cr c ++ r) = gt r := by
  unfold unitL
  repeat' split
  · have e : ([10] : List UInt8) = encodeRune ((10 : Nat) : Int) := by decide
    rw [e]; exact gt_enc 10 r (by decide)
  · rfl
  · exact gt_enc c r (by assumption)
  · exact gt_enc 65533 r (by decide)
theorem gt_rd (more : Bool) : ∀ (n : Nat) (cr : Bool) (l : List UInt8), l.length ≤ n → gt (rd more cr l).1 = true
  | 0, cr, l, h => by
    have : l = [] := List.eq_nil_of_length_eq_zero (by omega)
    subst this; rfl
  | n + 1, cr, l, h => by
    by_cases h0 : l = []
    · subst h0; rfl
    · by_cases hs : stopL more l = true
      · rw [rd_stop more cr l h0 hs]; rfl
      · rw [rd_step more cr l h0 (by simpa using hs)]
        have hw := width_le l h0
        simp only [gt_unit]
        exact gt_rd more n _ _ (by simp; omega)

theorem code_dec (n b0 b1 b2 b3 : Nat) (h1 : (codeN n b0 b1 b2 b3).2 ≠ 0) (h2 : goodB (codeN n b0 b1 b2 b3).1 = true) (l0 : b0 < 256) : decodeN n b0 b1 b2 b3 = codeN n b0 b1 b2 b3 := by
  have hb := goodB_le h2
  clear h2
  unfold codeN at h1 hb ⊢
  unfold decodeN
  by_cases a1 : b0 < 128
  · rw [if_pos a1, if_pos a1]
  · rw [if_neg a1] at h1 hb ⊢
    rw [if_neg a1]
    by_cases a2 : b0 < 192
    · rw [if_pos a2] at h1; exact absurd rfl h1
    · rw [if_neg a2] at h1 hb ⊢
      by_cases a3 : b0 < 224
      · rw [if_pos a3] at h1 hb ⊢
        by_cases q : 2 ≤ n ∧ (128 ≤ b1 ∧ b1 ≤ 191) ∧ 128 ≤ (b0 - 192) * 64 + (b1 - 128)
        · rw [if_pos q] at hb ⊢
          rw [if_pos (by omega), if_pos (by omega), Prod.mk.injEq]
          omega
        · rw [if_neg q] at h1; exact absurd rfl h1
      · rw [if_neg a3] at h1 hb ⊢
        rw [if_neg (show ¬ (b0 / 32 = 6 ∧ _) from fun h => by omega)]
        by_cases a4 : b0 < 240
        · rw [if_pos a4] at h1 hb ⊢
          by_cases q : 3 ≤ n ∧ (128 ≤ b1 ∧ b1 ≤ 191) ∧ (128 ≤ b2 ∧ b2 ≤ 191) ∧ 2048 ≤ ((b0 - 224) * 64 + (b1 - 128)) * 64 + (b2 - 128)
          · rw [if_pos q] at hb ⊢
            simp only at hb
            rw [if_pos (by omega), if_pos (by omega), Prod.mk.injEq]
            omega
          · rw [if_neg q] at h1; exact absurd rfl h1
        · rw [if_neg a4] at h1 hb ⊢
          rw [if_neg (show ¬ (b0 / 16 = 14 ∧ _) from fun h => by omega)]
          by_cases q : 4 ≤ n ∧ (128 ≤ b1 ∧ b1 ≤ 191) ∧ (128 ≤ b2 ∧ b2 ≤ 191) ∧ (128 ≤ b3 ∧ b3 ≤ 191) ∧ 65536 ≤ (((b0 - 240) * 64 + (b1 - 128)) * 64 + (b2 - 128)) * 64 + (b3 - 128) ∧ (((b0 - 240) * 64 + (b1 - 128)) * 64 + (b2 - 128)) * 64 + (b3 - 128) ≤ 1114111
          · rw [if_pos q] at hb ⊢
            simp only at hb
            rw [if_pos (by omega), if_pos (by omega), Prod.mk.injEq]
            omega
          · rw [if_neg q] at h1; exact absurd rfl h1

theorem u8_ext {a b : UInt8} (h : a.toNat = b.toNat) : a = b := UInt8.toNat_inj.1 h

/-- a character that stands there is written as it stands there -/
theorem enc_take (b0 b1 b2 b3 : UInt8) (n : Nat) (h1 : (codeN n b0.toNat b1.toNat b2.toNat b3.toNat).2 ≠ 0) (h2 : goodB (codeN n b0.toNat b1.toNat b2.toNat b3.toNat).1 = true) :
    encodeRune (codeN n b0.toNat b1.toNat b2.toNat b3.toNat).1 = [b0, b1, b2, b3].take (codeN n b0.toNat b1.toNat b2.toNat b3.toNat).2 := by
  have hb := goodB_le h2
  have l0 := b0.toNat_lt; have l1 := b1.toNat_lt; have l2 := b2.toNat_lt; have l3 := b3.toNat_lt
  clear h2
  unfold codeN at h1 hb ⊢
  unfold encodeRune
  by_cases a1 : b0.toNat < 128
  · rw [if_pos a1]
    simp only [List.take_succ_cons, List.take_zero]
    rw [encodeRuneZ_one (by omega) (by omega)]
    simp only [List.map_cons, List.map_nil, List.cons.injEq, and_true]
    exact u8_ext (by rw [byte_of (by omega) (by omega)]; omega)
  · rw [if_neg a1] at h1 hb ⊢
    by_cases a2 : b0.toNat < 192
    · rw [if_pos a2] at h1; exact absurd rfl h1
    · rw [if_neg a2] at h1 hb ⊢
      by_cases a3 : b0.toNat < 224
      · rw [if_pos a3] at h1 hb ⊢
        by_cases q : 2 ≤ n ∧ (128 ≤ b1.toNat ∧ b1.toNat ≤ 191) ∧ 128 ≤ (b0.toNat - 192) * 64 + (b1.toNat - 128)
        · rw [if_pos q] at hb ⊢
          simp only [List.take_succ_cons, List.take_zero] at hb ⊢
          rw [encodeRuneZ_two (by omega) (by omega)]
          simp only [List.map_cons, List.map_nil, List.cons.injEq, and_true]
          refine ⟨?_, ?_⟩ <;> exact u8_ext (by rw [byte_of (by omega) (by omega)]; omega)
        · rw [if_neg q] at h1; exact absurd rfl h1
      · rw [if_neg a3] at h1 hb ⊢
        by_cases a4 : b0.toNat < 240
        · rw [if_pos a4] at h1 hb ⊢
          by_cases q : 3 ≤ n ∧ (128 ≤ b1.toNat ∧ b1.toNat ≤ 191) ∧ (128 ≤ b2.toNat ∧ b2.toNat ≤ 191) ∧ 2048 ≤ ((b0.toNat - 224) * 64 + (b1.toNat - 128)) * 64 + (b2.toNat - 128)
          · rw [if_pos q] at hb ⊢
            simp only [List.take_succ_cons, List.take_zero] at hb ⊢
            rw [encodeRuneZ_three (by omega)]
            simp only [List.map_cons, List.map_nil, List.cons.injEq, and_true]
            refine ⟨?_, ?_, ?_⟩ <;> exact u8_ext (by rw [byte_of (by omega) (by omega)]; omega)
          · rw [if_neg q] at h1; exact absurd rfl h1
        · rw [if_neg a4] at h1 hb ⊢
          by_cases q : 4 ≤ n ∧ (128 ≤ b1.toNat ∧ b1.toNat ≤ 191) ∧ (128 ≤ b2.toNat ∧ b2.toNat ≤ 191) ∧ (128 ≤ b3.toNat ∧ b3.toNat ≤ 191) ∧ 65536 ≤ (((b0.toNat - 240) * 64 + (b1.toNat - 128)) * 64 + (b2.toNat - 128)) * 64 + (b3.toNat - 128) ∧ (((b0.toNat - 240) * 64 + (b1.toNat - 128)) * 64 + (b2.toNat - 128)) * 64 + (b3.toNat - 128) ≤ 1114111
          · rw [if_pos q] at hb ⊢
            simp only [List.take_succ_cons, List.take_zero] at hb ⊢
            rw [encodeRuneZ_four (by omega) (by omega)]
            simp only [List.map_cons, List.map_nil, List.cons.injEq, and_true]
            refine ⟨?_, ?_, ?_, ?_⟩ <;> exact u8_ext (by rw [byte_of (by omega) (by omega)]; omega)
          · rw [if_neg q] at h1; exact absurd rfl h1

theorem four_take (l : List UInt8) (k : Nat) (h : k ≤ l.length) (h4 : k ≤ 4) : [l.getD 0 0, l.getD 1 0, l.getD 2 0, l.getD 3 0].take k = l.take k :=
  match l, k, h, h4 with
  | _, 0, _, _ => by simp
  | a :: _, 1, _, _ => by simp
  | a :: b :: _, 2, _, _ => by simp
  | a :: b :: c :: _, 3, _, _ => by simp
  | a :: b :: c :: d :: _, 4, _, _ => by simp
  | _ :: _ :: _ :: _ :: _, k + 5, _, h4 => by omega
  | [], k + 1, h, _ => by simp at h
  | [_], k + 2, h, _ => by simp at h
  | [_, _], k + 3, h, _ => by simp at h
  | [_, _, _], k + 4, h, _ => by simp at h

/-- good text is decoded to itself -/
theorem rd_good : ∀ (n : Nat) (l : List UInt8), l.length ≤ n → gt l = true → rd false false l = (l, [], false)
  | 0, l, h, _ => by
    have : l = [] := List.eq_nil_of_length_eq_zero (by omega)
    subst this; rfl
  | n + 1, l, h, hg => by
    by_cases h0 : l = []
    · subst h0; rfl
    · have hle := codeL_le l h0
      by_cases hbad : (codeL l).2 = 0 ∨ goodB (codeL l).1 = false
      · rw [gt_bad l h0 hbad] at hg; exact absurd hg (by decide)
      · have h1 : (codeL l).2 ≠ 0 := fun h => hbad (Or.inl h)
        have h2 : goodB (codeL l).1 = true := by
          cases hb : goodB (codeL l).1
          · exact absurd (Or.inr hb) hbad
          · rfl
        rw [gt_step l h0 h1 h2] at hg
        have hd : decodeL l = codeL l := by
          rw [decodeL_N]
          exact code_dec _ _ _ _ _ h1 h2 (byte_lt l 0)
        have he : encodeRune (codeL l).1 = l.take (codeL l).2 := by
          have := enc_take (l.getD 0 0) (l.getD 1 0) (l.getD 2 0) (l.getD 3 0) l.length h1 h2
          exact this.trans (four_take l _ hle.2.1 hle.2.2)
        have h13 : (codeL l).1 ≠ 13 := by
          intro h; rw [h] at h2; revert h2; decide
        have hu : unitL false (codeL l).1 = encodeRune (codeL l).1 := by
          unfold unitL
          rw [if_neg h13, if_neg (by simp), if_pos h2]
        have e13 : ((codeL l).1 == 13) = false := beq_eq_false_iff_ne.2 h13
        rw [rd_step false false l h0 rfl, hd, hu, e13, rd_good n _ (by simp; omega) hg, he]
        simp

end Go.Proofs.YtcncbhbdpcpkeaaGreatDoor

/-
  From what a row says of a policy and of words to what lies in memory.
-/
namespace Go.Proofs.YtcncbhbdpcpkeaaGreatDoor
open Go.RowKit Go.Lib Go.ChangeShapes Go.WideShapes Go.Joins Go.Deep Go.ChangeAt

section
variable {H : Type} {enc : TypeId × Value → H} {W : World}

theorem bulk_pos (d : DataW H) : 1 ≤ Rows.uptoBulk d := by
  cases d with
  | lit l => cases l <;> simp [Rows.uptoBulk]
  | _ => simp [Rows.uptoBulk]
theorem bulkAll_mem : ∀ (l : List (DataW H)) (d : DataW H), d ∈ l → Rows.uptoBulk d ≤ Rows.uptoBulkAll l
  | [], d, h => by simp at h
  | x :: r, d, h => by
    simp only [Rows.uptoBulkAll]
    rcases List.mem_cons.1 h with rfl | h1
    · omega
    · have := bulkAll_mem r d h1
      omega
theorem bulkAll_len : ∀ l : List (DataW H), l.length ≤ Rows.uptoBulkAll l
  | [] => by simp
  | x :: r => by
    have h1 := bulkAll_len r
    have h2 := bulk_pos x
    simp only [Rows.uptoBulkAll, List.length_cons]
    omega
theorem add_none (b o : Nat) (n : Nat) : (⟨b, o, none⟩ : Addr).add n = ⟨b, o + n, none⟩ := by unfold Addr.add; split <;> simp_all
theorem add_zero' (a : Addr) : a.add 0 = a := by simp [Addr.add]

/-- a []string that is read -/
theorem words_ofB (B : Nat) {held : Bool} {fuel : Nat} {v : Value} {x : DataW H × List MemPlace} (h : DataW.trod enc Tryz.prog W 0 (fun _ => true) held fuel 41 [v] = some x) (hb : Rows.uptoBulk x.1 ≤ B) :
    ∃ ss, Words W v ss ∧ ss.length ≤ B ∧ ∀ s ∈ ss, s.length ≤ B := by
  rcases open_strings Tryz.underlying41 Tryz.underlying9 (by kernel_rfl) h with ⟨hcs, hx⟩ | ⟨a, len, cap, ss, hcs, _, hl, hm9, hz, hx, hcell, hsz⟩
  · obtain rfl := (List.cons.inj hcs).1
    exact ⟨[], Words.nil W, by simp, fun s hs => by simp at hs⟩
  · obtain rfl := (List.cons.inj hcs).1
    subst hx
    simp only [if_true] at hz
    have hlen : ((ss.take len).map fun s => s.data.toList).length = len := by rw [List.length_map, List.length_take]; omega
    simp only [Rows.uptoBulk] at hb
    have hb1 := bulkAll_len (H := H) (strs (ss.take len))
    have hsl : (strs (H := H) (ss.take len)).length = len := by unfold strs; rw [List.length_map, List.length_take]; omega
    rw [hsl] at hb1
    refine ⟨(ss.take len).map fun s => s.data.toList, ⟨some a, cap, by rw [hlen], by rw [hlen]; exact hl, by unfold maxLen at hm9; omega, fun j s hj => ?_, fun h => by cases h⟩, by omega, fun s hs => ?_⟩
    · have hjl : j < len := by rw [← hlen]; exact (List.getElem?_eq_some_iff.1 hj).1
      rw [List.getElem?_map] at hj
      obtain ⟨s0, hs0, rfl⟩ := Option.map_eq_some_iff.1 hj
      rw [List.getElem?_take_of_lt hjl] at hs0
      have hc0 := hcell 0 (by omega)
      have hc := hcell j (by omega)
      obtain ⟨b, o, sp⟩ := a
      rw [add_zero'] at hc0
      obtain rfl := cell_spot hc0
      rw [add_none] at hc
      refine ⟨b, o, rfl, ?_⟩
      rw [hc, List.getD_eq_getElem?_getD, hs0]
      rfl
    · obtain ⟨s0, hs0, rfl⟩ := List.mem_map.1 hs
      have hm := bulkAll_mem (H := H) (strs (ss.take len)) (.lit (.string s0.data.toList)) (List.mem_map.2 ⟨s0, hs0, rfl⟩)
      simp only [Rows.uptoBulk] at hm
      omega
theorem words_of {held : Bool} {fuel : Nat} {v : Value} {x : DataW H × List MemPlace} (h : DataW.trod enc Tryz.prog W 0 (fun _ => true) held fuel 41 [v] = some x) (hb : Rows.uptoBulk x.1 ≤ 1048576) :
    ∃ ss, Words W v ss ∧ ss.length ≤ 1048576 ∧ ∀ s ∈ ss, s.length ≤ 1048576 := words_ofB 1048576 h hb
theorem sum_bulk {D : Nat → DataW H} {f : Nat → Nat} : ∀ l : List Nat, (∀ i ∈ l, f i ≤ Rows.uptoBulk (D i)) → (l.map f).sum ≤ Rows.uptoBulkAll (l.map D)
  | [], _ => by simp
  | i :: l, h => by
    have h1 := sum_bulk l (fun j hj => h j (List.mem_cons_of_mem _ hj))
    have h2 := h i (List.mem_cons_self ..)
    simp only [List.map_cons, List.sum_cons, Rows.uptoBulkAll]
    omega
/-- how many words all rules list -/
def attrsN (rs : List RuleP) : Nat := (rs.map fun r => r.2.length).sum
/-- a []Rule that is read -/
theorem rules_ofS {held : Bool} {fuel : Nat} {v : Value} {x : DataW H × List MemPlace} (h : DataW.trod enc Tryz.prog W 0 (fun _ => true) held fuel 40 [v] = some x) (hb : Rows.uptoBulk x.1 ≤ 1048576) :
    ∃ rs, RulesR W v rs ∧ rs.length ≤ 1048576 ∧ (∀ r ∈ rs, r.2.length ≤ 1048576 ∧ r.1.length ≤ 1048576 ∧ ∀ a ∈ r.2, a.length ≤ 1048576) ∧ attrsN rs ≤ 1048576 := by
  rcases open_slice_pairs Tryz.underlying40 Tryz.underlying97 (by kernel_rfl) rfl rfl (by kernel_rfl) (by kernel_rfl) h with ⟨hcs, hx⟩ | ⟨a, len, cap, m, n, V0, V1, D0, D1, P0, P1, hcs, _, hl, hm9, hm, hx, hall⟩
  · obtain rfl := (List.cons.inj hcs).1
    exact ⟨[], ⟨none, 0, rfl, Nat.le_refl _, by omega, fun j r hj => by simp at hj⟩, by simp, fun r hr => by simp at hr, by simp [attrsN]⟩
  · obtain rfl := (List.cons.inj hcs).1
    subst hx
    simp only [if_true] at hm
    subst hm
    simp only [Rows.uptoBulk] at hb
    have hb1 := bulkAll_len (H := H) ((List.range len).map fun i => .agg [D0 i, D1 i])
    rw [List.length_map, List.length_range] at hb1
    have each : ∀ i, i < len → ∃ q : RuleP, V0 i = .string (bs q.1) ∧ Words W (V1 i) q.2 ∧ q.2.length ≤ 1048576 ∧ q.1.length ≤ 1048576 ∧ (∀ a ∈ q.2, a.length ≤ 1048576) ∧ q.2.length ≤ Rows.uptoBulk (.agg [D0 i, D1 i]) := fun i hi => by
      obtain ⟨_, _, h0, h1⟩ := hall i (by omega)
      have hbi := bulkAll_mem (H := H) ((List.range len).map fun i => .agg [D0 i, D1 i]) (.agg [D0 i, D1 i]) (List.mem_map.2 ⟨i, by simpa using hi, rfl⟩)
      simp only [Rows.uptoBulk, Rows.uptoBulkAll] at hbi
      obtain ⟨s, e0, e1, _⟩ := DataW.trod_string Tryz.underlying9 h0
      obtain ⟨ss, w1, w2, w3⟩ := words_ofB (Rows.uptoBulk (D1 i)) h1 (Nat.le_refl _)
      simp only [Prod.mk.injEq] at e1
      rw [e1.1] at hbi
      simp only [Rows.uptoBulk] at hbi
      exact ⟨(s.data.toList, ss), (List.cons.inj e0).1, w1, Nat.le_trans w2 (by omega), by show s.data.toList.length ≤ _; omega, fun a ha => Nat.le_trans (w3 a ha) (by omega), by simp only [Rows.uptoBulk, Rows.uptoBulkAll]; show ss.length ≤ _; omega⟩
    obtain ⟨Q, hQ⟩ := choose_lt each
    have hlen : ((List.range len).map Q).length = len := by simp
    refine ⟨(List.range len).map Q, ⟨some a, m, by rw [hlen], by rw [hlen]; exact hl, by unfold maxLen at hm9; omega, fun j r hj => ?_⟩, by rw [hlen]; omega, fun r hr => ?_, ?_⟩
    · have hjl : j < len := by rw [← hlen]; exact (List.getElem?_eq_some_iff.1 hj).1
      rw [List.getElem?_map, List.getElem?_range hjl] at hj
      obtain rfl := Option.some.inj hj
      obtain ⟨hc0, _, _, _⟩ := hall 0 (by omega)
      obtain ⟨k0, k1, _, _⟩ := hall j (by omega)
      obtain ⟨q0, q1, _⟩ := hQ j hjl
      obtain ⟨b, o, sp⟩ := a
      rw [Nat.zero_mul, add_zero'] at hc0
      obtain rfl := cell_spot hc0
      rw [add_none] at k0 k1
      exact ⟨b, o, V1 j, rfl, by rw [k0, q0], by rw [Nat.add_assoc]; exact k1, q1⟩
    · obtain ⟨i, hi, rfl⟩ := List.mem_map.1 hr
      obtain ⟨_, _, q2, q3, q4, _⟩ := hQ i (by simpa using hi)
      exact ⟨q2, q3, q4⟩
    · have h1 := sum_bulk (D := fun i => .agg [D0 i, D1 i]) (f := fun i => (Q i).2.length) (List.range len) (fun i hi => (hQ i (by simpa using hi)).2.2.2.2.2)
      unfold attrsN
      rw [List.map_map]
      exact Nat.le_trans h1 (by omega)
theorem i64_wf {n : Int} (h : (Lit.int .i64 n).wf = true) : -9223372036854775808 ≤ n ∧ n ≤ 9223372036854775807 := by
  simp only [Lit.wf, Bool.and_eq_true, decide_eq_true_eq] at h
  first | exact h | simpa [IntKind.min, IntKind.max] using h
theorem array5 {α : Type} {cs : Array α} (h : cs.size = 5) : ∃ c0 c1 c2 c3 c4, cs = #[c0, c1, c2, c3, c4] := by
  obtain ⟨l⟩ := cs
  match l, h with
  | [c0, c1, c2, c3, c4], _ => exact ⟨c0, c1, c2, c3, c4, rfl⟩
set_option maxRecDepth 100000 in
/-- a policy that is read -/
theorem policy_ofS {r : Reach} {b0 : Nat} {held : Bool} {v : Value} {d : DataW H} {p : List MemPlace} (hv : Value.okWide Tryz.prog W r b0 43 v) (h : DataW.Trod enc Tryz.prog W 0 (fun _ => true) held 43 v d p) (hb : Rows.uptoBulk d ≤ 1048576) :
    ∃ (vr vs vd : Value) (P : PolP), v = .agg (polC vr vs vd P) ∧ PolR W vr vs vd P ∧ P.Few ∧ attrsN P.rules ≤ 1048576 := by
  obtain ⟨cs, rfl, hsz⟩ := okWide_struct Tryz.underlying43 hv
  obtain ⟨c0, c1, c2, c3, c4, rfl⟩ := array5 (hsz.trans (by kernel_rfl))
  obtain ⟨fuel, hf⟩ := h
  obtain ⟨xs, n, _, hx, hl, hlen, hfs⟩ := DataW.trod_struct Tryz.underlying43 hf
  match xs, hlen with
  | [y0, y1, y2, y3, y4], _ =>
    have k22 : Tryz.prog.cellsOf 40 = 1 := by kernel_rfl
    have k23 : Tryz.prog.cellsOf 41 = 1 := by kernel_rfl
    have k3 : Tryz.prog.cellsOf 3 = 1 := by kernel_rfl
    have g0 : DataW.trod enc Tryz.prog W 0 (fun _ => true) held n 40 [c0] = some y0 := by
      have := hfs 0 _ rfl
      simpa [Value.cells, k22] using this
    have g1 : DataW.trod enc Tryz.prog W 0 (fun _ => true) held n 41 [c1] = some y1 := by
      have := hfs 1 _ rfl
      simpa [Value.cells, k23] using this
    have g2 : DataW.trod enc Tryz.prog W 0 (fun _ => true) held n 41 [c2] = some y2 := by
      have := hfs 2 _ rfl
      simpa [Value.cells, k23] using this
    have g3 : DataW.trod enc Tryz.prog W 0 (fun _ => true) held n 3 [c3] = some y3 := by
      have := hfs 3 _ rfl
      simpa [Value.cells, k3] using this
    have g4 : DataW.trod enc Tryz.prog W 0 (fun _ => true) held n 3 [c4] = some y4 := by
      have := hfs 4 _ rfl
      simpa [Value.cells, k3] using this
    simp only [Prod.mk.injEq, List.map_cons, List.map_nil] at hx
    rw [hx.1] at hb
    simp only [Rows.uptoBulk, Rows.uptoBulkAll] at hb
    obtain ⟨rs, r1, r2, r3, r4⟩ := rules_ofS g0 (by omega)
    obtain ⟨ss, s1, s2, s3⟩ := words_of g1 (by omega)
    obtain ⟨ds, d1, d2, d3⟩ := words_of g2 (by omega)
    obtain ⟨z3, e3, _, h3⟩ := DataW.trod_int Tryz.underlying3 g3
    obtain ⟨z4, e4, _, h4⟩ := DataW.trod_int Tryz.underlying3 g4
    obtain rfl := (List.cons.inj e3).1
    obtain rfl := (List.cons.inj e4).1
    refine ⟨c0, c1, c2, ⟨rs, ss, ds, z3, z4⟩, rfl, ⟨r1, s1, d1⟩, ?_, r4⟩
    exact ⟨Nat.le_trans r2 (by omega), Nat.le_trans s2 (by omega), Nat.le_trans d2 (by omega), fun r hr => Nat.le_trans (r3 r hr).1 (by omega), fun r hr => ⟨Nat.le_trans (r3 r hr).2.1 (by omega), fun a ha => Nat.le_trans ((r3 r hr).2.2 a ha) (by omega)⟩, fun x hx => Nat.le_trans (s3 x hx) (by omega), fun x hx => Nat.le_trans (d3 x hx) (by omega), (i64_wf h3).1, (i64_wf h3).2, (i64_wf h4).1, (i64_wf h4).2⟩
set_option maxRecDepth 100000 in
theorem policy_of {r : Reach} {b0 : Nat} {held : Bool} {v : Value} {d : DataW H} {p : List MemPlace} (hv : Value.okWide Tryz.prog W r b0 43 v) (h : DataW.Trod enc Tryz.prog W 0 (fun _ => true) held 43 v d p) (hb : Rows.uptoBulk d ≤ 1048576) :
    ∃ (vr vs vd : Value) (P : PolP), v = .agg (polC vr vs vd P) ∧ PolR W vr vs vd P ∧ P.Few := by
  obtain ⟨vr, vs, vd, P, h1, h2, h3, _⟩ := policy_ofS hv h hb
  exact ⟨vr, vs, vd, P, h1, h2, h3⟩
end
end Go.Proofs.YtcncbhbdpcpkeaaGreatDoor
