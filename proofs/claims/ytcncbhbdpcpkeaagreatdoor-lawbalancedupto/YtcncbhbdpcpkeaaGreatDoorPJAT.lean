/-
  Parts of the walk, joined: Same, WrAll.
-/
import Derived.Test.YtcncbhbdpcpkeaaGreatDoorPJAG
import Derived.Test.YtcncbhbdpcpkeaaGreatDoorPJAO
import Derived.Test.YtcncbhbdpcpkeaaGreatDoorPJAF
/-
  What is decoded is good text, and good text is decoded to itself. No program is walked here.
-/
namespace Go.Proofs.YtcncbhbdpcpkeaaGreatDoor
open Go.Lib

theorem byte_of {x : Int} (_h0 : 0 ≤ x) (h1 : x < 256) : (x.toNat.toUInt8).toNat = x.toNat := by
  simp; omega

theorem goodB_le {c : Int} (h : goodB c = true) : c ≤ 1114111 ∧ ¬ (55296 ≤ c ∧ c ≤ 57343) := by
  unfold goodB at h
  rw [decide_eq_true_iff] at h
  omega

theorem code_enc (c : Nat) (r : List UInt8) (h : goodB c = true) : codeL (encodeRune c ++ r) = (c, (encodeRune c).length) := by
  have hb := goodB_le h
  unfold encodeRune
  by_cases h1 : c ≤ 127
  · rw [encodeRuneZ_one (by omega) (by omega)]
    have e0 := byte_of (x := (c : Int)) (by omega) (by omega)
    simp only [List.map_cons, List.map_nil, List.cons_append, List.nil_append, codeL, List.length_cons, List.length_nil, List.getD_cons_zero, e0]
    unfold codeN
    rw [if_pos (by omega)]; simp
  · by_cases h2 : c ≤ 2047
    · rw [encodeRuneZ_two (by omega) (by omega)]
      have e0 := byte_of (x := 192 + (c : Int) / 64) (by omega) (by omega)
      have e1 := byte_of (x := 128 + (c : Int) % 64) (by omega) (by omega)
      simp only [List.map_cons, List.map_nil, List.cons_append, List.nil_append, codeL, List.length_cons, List.length_nil, List.getD_cons_zero, List.getD_cons_succ, e0, e1]
      unfold codeN
      rw [if_neg (by omega), if_neg (by omega), if_pos (by omega), if_pos (by omega)]
      simp only [Prod.mk.injEq, and_true]; omega
    · by_cases h3 : c ≤ 65535
      · rw [encodeRuneZ_three (by omega)]
        have e0 := byte_of (x := 224 + (c : Int) / 4096) (by omega) (by omega)
        have e1 := byte_of (x := 128 + (c : Int) / 64 % 64) (by omega) (by omega)
        have e2 := byte_of (x := 128 + (c : Int) % 64) (by omega) (by omega)
        simp only [List.map_cons, List.map_nil, List.cons_append, List.nil_append, codeL, List.length_cons, List.length_nil, List.getD_cons_zero, List.getD_cons_succ, e0, e1, e2]
        unfold codeN
        rw [if_neg (by omega), if_neg (by omega), if_neg (by omega), if_pos (by omega), if_pos (by omega)]
        simp only [Prod.mk.injEq, and_true]; omega
      · rw [encodeRuneZ_four (by omega) (by omega)]
        have e0 := byte_of (x := 240 + (c : Int) / 262144) (by omega) (by omega)
        have e1 := byte_of (x := 128 + (c : Int) / 4096 % 64) (by omega) (by omega)
        have e2 := byte_of (x := 128 + (c : Int) / 64 % 64) (by omega) (by omega)
        have e3 := byte_of (x := 128 + (c : Int) % 64) (by omega) (by omega)
        simp only [List.map_cons, List.map_nil, List.cons_append, List.nil_append, codeL, List.length_cons, List.length_nil, List.getD_cons_zero, List.getD_cons_succ, e0, e1, e2, e3]
        unfold codeN
        rw [if_neg (by omega), if_neg (by omega), if_neg (by omega), if_neg (by omega), if_pos (by omega)]
        simp only [Prod.mk.injEq, and_true]; omega
theorem enc_len (c : Int) : 1 ≤ (encodeRune c).length := by
  have := (encodeRuneZ_length c).1
  simpa [encodeRune] using this
theorem gt_enc (c : Nat) (r : List UInt8) (h : goodB c = true) : gt (encodeRune c ++ r) = gt r := by
  have he := code_enc c r h
  have hl := enc_len c
  have hne : encodeRune c ++ r ≠ [] := by
    intro h0
    have := congrArg List.length h0
    rw [List.length_append, List.length_nil] at this; omega
  rw [gt_step _ hne (by rw [he]; simp only; omega) (by rw [he]; exact h), he]
  simp

theorem gt_unit (cr : Bool) (c : Nat) (r : List UInt8) : gt (unitL cr c ++ r) = gt r := by
  unfold unitL
  repeat' split
  · have e : ([10] : List UInt8) = encodeRune ((10 : Nat) : Int) := by decide
    rw [e]; exact gt_enc 10 r (by decide)
  · rfl
  · exact gt_enc c r (by assumption)
  · exact gt_enc 65533 r (by decide)
theorem gt_rd (more : Bool) : ∀ (n : Nat) (cr : Bool) (l : List UInt8), l.length ≤ n → gt (rd more cr l).1 = true
  | 0, cr, l, h => by
    have : l = [] := List.eq_nil_of_length_eq_zero (by omega)
    subst this; rfl
  | n + 1, cr, l, h => by
    by_cases h0 : l = []
    · subst h0; rfl
    · by_cases hs : stopL more l = true
      · rw [rd_stop more cr l h0 hs]; rfl
      · rw [rd_step more cr l h0 (by simpa using hs)]
        have hw := width_le l h0
        simp only [gt_unit]
        exact gt_rd more n _ _ (by simp; omega)

theorem code_dec (n b0 b1 b2 b3 : Nat) (h1 : (codeN n b0 b1 b2 b3).2 ≠ 0) (h2 : goodB (codeN n b0 b1 b2 b3).1 = true) (l0 : b0 < 256) : decodeN n b0 b1 b2 b3 = codeN n b0 b1 b2 b3 := by
  have hb := goodB_le h2
  clear h2
  unfold codeN at h1 hb ⊢
  unfold decodeN
  by_cases a1 : b0 < 128
  · rw [if_pos a1, if_pos a1]
  · rw [if_neg a1] at h1 hb ⊢
    rw [if_neg a1]
    by_cases a2 : b0 < 192
    · rw [if_pos a2] at h1; exact absurd rfl h1
    · rw [if_neg a2] at h1 hb ⊢
      by_cases a3 : b0 < 224
      · rw [if_pos a3] at h1 hb ⊢
        by_cases q : 2 ≤ n ∧ (128 ≤ b1 ∧ b1 ≤ 191) ∧ 128 ≤ (b0 - 192) * 64 + (b1 - 128)
        · rw [if_pos q] at hb ⊢
          rw [if_pos (by omega), if_pos (by omega), Prod.mk.injEq]
          omega
        · rw [if_neg q] at h1; exact absurd rfl h1
      · rw [if_neg a3] at h1 hb ⊢
        rw [if_neg (show ¬ (b0 / 32 = 6 ∧ _) from fun h => by omega)]
        by_cases a4 : b0 < 240
        · rw [if_pos a4] at h1 hb ⊢
          by_cases q : 3 ≤ n ∧ (128 ≤ b1 ∧ b1 ≤ 191) ∧ (128 ≤ b2 ∧ b2 ≤ 191) ∧ 2048 ≤ ((b0 - 224) * 64 + (b1 - 128)) * 64 + (b2 - 128)
          · rw [if_pos q] at hb ⊢
            simp only at hb
            rw [if_pos (by omega), if_pos (by omega), Prod.mk.injEq]
            omega
          · rw [if_neg q] at h1; exact absurd rfl h1
        · rw [if_neg a4] at h1 hb ⊢
          rw [if_neg (show ¬ (b0 / 16 = 14 ∧ _) from fun h => by omega)]
          by_cases q : 4 ≤ n ∧ (128 ≤ b1 ∧ b1 ≤ 191) ∧ (128 ≤ b2 ∧ b2 ≤ 191) ∧ (128 ≤ b3 ∧ b3 ≤ 191) ∧ 65536 ≤ (((b0 - 240) * 64 + (b1 - 128)) * 64 + (b2 - 128)) * 64 + (b3 - 128) ∧ (((b0 - 240) * 64 + (b1 - 128)) * 64 + (b2 - 128)) * 64 + (b3 - 128) ≤ 1114111
          · rw [if_pos q] at hb ⊢
            simp only at hb
            rw [if_pos (by omega), if_pos (by omega), Prod.mk.injEq]
            omega
          · rw [if_neg q] at h1; exact absurd rfl h1

theorem u8_ext {a b : UInt8} (h : a.toNat = b.toNat) : a = b := UInt8.toNat_inj.1 h

/-- a character that stands there is written as it stands there -/
theorem enc_take (b0 b1 b2 b3 : UInt8) (n : Nat) (h1 : (codeN n b0.toNat b1.toNat b2.toNat b3.toNat).2 ≠ 0) (h2 : goodB (codeN n b0.toNat b1.toNat b2.toNat b3.toNat).1 = true) :
    encodeRune (codeN n b0.toNat b1.toNat b2.toNat b3.toNat).1 = [b0, b1, b2, b3].take (codeN n b0.toNat b1.toNat b2.toNat b3.toNat).2 := by
  have hb := goodB_le h2
  have l0 := b0.toNat_lt; have l1 := b1.toNat_lt; have l2 := b2.toNat_lt; have l3 := b3.toNat_lt
  clear h2
  unfold codeN at h1 hb ⊢
  unfold encodeRune
  by_cases a1 : b0.toNat < 128
  · rw [if_pos a1]
    simp only [List.take_succ_cons, List.take_zero]
    rw [encodeRuneZ_one (by omega) (by omega)]
    simp only [List.map_cons, List.map_nil, List.cons.injEq, and_true]
    exact u8_ext (by rw [byte_of (by omega) (by omega)]; omega)
  · rw [if_neg a1] at h1 hb ⊢
    by_cases a2 : b0.toNat < 192
    · rw [if_pos a2] at h1; exact absurd rfl h1
    · rw [if_neg a2] at h1 hb ⊢
      by_cases a3 : b0.toNat < 224
      · rw [if_pos a3] at h1 hb ⊢
        by_cases q : 2 ≤ n ∧ (128 ≤ b1.toNat ∧ b1.toNat ≤ 191) ∧ 128 ≤ (b0.toNat - 192) * 64 + (b1.toNat - 128)
        · rw [if_pos q] at hb ⊢
          simp only [List.take_succ_cons, List.take_zero] at hb ⊢
          rw [encodeRuneZ_two (by omega) (by omega)]
          simp only [List.map_cons, List.map_nil, List.cons.injEq, and_true]
          refine ⟨?_, ?_⟩ <;> exact u8_ext (by rw [byte_of (by omega) (by omega)]; omega)
        · rw [if_neg q] at h1; exact absurd rfl h1
      · rw [if_neg a3] at h1 hb ⊢
        by_cases a4 : b0.toNat < 240
        · rw [if_pos a4] at h1 hb ⊢
          by_cases q : 3 ≤ n ∧ (128 ≤ b1.toNat ∧ b1.toNat ≤ 191) ∧ (128 ≤ b2.toNat ∧ b2.toNat ≤ 191) ∧ 2048 ≤ ((b0.toNat - 224) * 64 + (b1.toNat - 128)) * 64 + (b2.toNat - 128)
          · rw [if_pos q] at hb ⊢
            simp only [List.take_succ_cons, List.take_zero] at hb ⊢
            rw [encodeRuneZ_three (by omega)]
            simp only [List.map_cons, List.map_nil, List.cons.injEq, and_true]
            refine ⟨?_, ?_, ?_⟩ <;> exact u8_ext (by rw [byte_of (by omega) (by omega)]; omega)
          · rw [if_neg q] at h1; exact absurd rfl h1
        · rw [if_neg a4] at h1 hb ⊢
          by_cases q : 4 ≤ n ∧ (128 ≤ b1.toNat ∧ b1.toNat ≤ 191) ∧ (128 ≤ b2.toNat ∧ b2.toNat ≤ 191) ∧ (128 ≤ b3.toNat ∧ b3.toNat ≤ 191) ∧ 65536 ≤ (((b0.toNat - 240) * 64 + (b1.toNat - 128)) * 64 + (b2.toNat - 128)) * 64 + (b3.toNat - 128) ∧ (((b0.toNat - 240) * 64 + (b1.toNat - 128)) * 64 + (b2.toNat - 128)) * 64 + (b3.toNat - 128) ≤ 1114111
          · rw [if_pos q] at hb ⊢
            simp only [List.take_succ_cons, List.take_zero] at hb ⊢
            rw [encodeRuneZ_four (by omega) (by omega)]
            simp only [List.map_cons, List.map_nil, List.cons.injEq, and_true]
            refine ⟨?_, ?_, ?_, ?_⟩ <;> exact u8_ext (by rw [byte_of (by omega) (by omega)]; omega)
          · rw [if_neg q] at h1; exact absurd rfl h1

theorem four_take (l : List UInt8) (k : Nat) (h : k ≤ l.length) (h4 : k ≤ 4) : [l.getD 0 0, l.getD 1 0, l.getD 2 0, l.getD 3 0].take k = l.take k :=
  match l, k, h, h4 with
  | _, 0, _, _ => by simp
  | a :: _, 1, _, _ => by simp
  | a :: b :: _, 2, _, _ => by simp
  | a :: b :: c :: _, 3, _, _ => by simp
  | a :: b :: c :: d :: _, 4, _, _ => by simp
  | _ :: _ :: _ :: _ :: _, k + 5, _, h4 => by omega
  | [], k + 1, h, _ => by simp at h
  | [_], k + 2, h, _ => by simp at h
  | [_, _], k + 3, h, _ => by simp at h
  | [_, _, _], k + 4, h, _ => by simp at h

/-- good text is decoded to itself -/
theorem rd_good : ∀ (n : Nat) (l : List UInt8), l.length ≤ n → gt l = true → rd false false l = (l, [], false)
  | 0, l, h, _ => by
    have : l = [] := List.eq_nil_of_length_eq_zero (by omega)
    subst this; rfl
  | n + 1, l, h, hg => by
    by_cases h0 : l = []
    · subst h0; rfl
    · have hle := codeL_le l h0
      by_cases hbad : (codeL l).2 = 0 ∨ goodB (codeL l).1 = false
      · rw [gt_bad l h0 hbad] at hg; exact absurd hg (by decide)
      · have h1 : (codeL l).2 ≠ 0 := fun h => hbad (Or.inl h)
        have h2 : goodB (codeL l).1 = true := by
          cases hb : goodB (codeL l).1
          · exact absurd (Or.inr hb) hbad
          · rfl
        rw [gt_step l h0 h1 h2] at hg
        have hd : decodeL l = codeL l := by
          rw [decodeL_N]
          exact code_dec _ _ _ _ _ h1 h2 (byte_lt l 0)
        have he : encodeRune (codeL l).1 = l.take (codeL l).2 := by
          have := enc_take (l.getD 0 0) (l.getD 1 0) (l.getD 2 0) (l.getD 3 0) l.length h1 h2
          exact this.trans (four_take l _ hle.2.1 hle.2.2)
        have h13 : (codeL l).1 ≠ 13 := by
          intro h; rw [h] at h2; revert h2; decide
        have hu : unitL false (codeL l).1 = encodeRune (codeL l).1 := by
          unfold unitL
          rw [if_neg h13, if_neg (by simp), if_pos h2]
        have e13 : ((codeL l).1 == 13) = false := beq_eq_false_iff_ne.2 h13
        rw [rd_step false false l h0 rfl, hd, hu, e13, rd_good n _ (by simp; omega) hg, he]
        simp

end Go.Proofs.YtcncbhbdpcpkeaaGreatDoor

/-
  markup.Write: its walk.
-/
namespace Go.Proofs.YtcncbhbdpcpkeaaGreatDoor
open Go.RowKit Go.Lib Own

/-- the cells of a markup.writer -/
def mwC (eat : Bool) (p v : Value) : Array Value := #[.bool eat, p, v]
theorem mw_lies : liesAt Tryz.prog Tryz.prog.depth 77 ((mwC false (.pointer none) (.slice none 0 0)).size / Tryz.prog.cellsOf 77) 1 67 1 = true := by kernel_rfl
/-- a markup.writer at block b -/
structure MwAt (w : World) (base b : Nat) (eat : Bool) (acc : List UInt8) : Prop where
  it : ∃ p v, InB w base b 1 (mwC eat p v) 77 p v acc
theorem takeW_len (eat : Bool) (e : EvP) : (takeW eat e).2.length ≤ 6 * (e.n.length + e.t.length + bulkA e.a) + 3 := by
  have h1 := attrs_len e.a
  have h2 := esc_len false _ e.t (Nat.le_refl _)
  have h3 : (openL e.n e.a).length = 2 + e.n.length + (e.a.flatMap attrL).length := by unfold openL; simp only [List.length_append, List.length_cons, List.length_nil]; omega
  have h4 : (etagL e.n).length = 3 + e.n.length := by unfold etagL; simp only [List.length_append, List.length_cons, List.length_nil]; omega
  unfold takeW textW
  split
  · simp only; omega
  · split
    · simp only; omega
    · split
      · split
        · simp
        · simp only [List.length_append]
          split
          · simp only [List.length_cons, List.length_nil]; omega
          · simp only [List.length_nil]; omega
      · simp

set_option maxHeartbeats 4000000 in
set_option maxRecDepth 100000 in
theorem mwTake_any (base b : Nat) (eat : Bool) (acc : List UInt8) (e : EvP) (u : Value) (m : Int) (w0 w : World) (h : MwAt w base b eat acc) (hu0 : AttrsR w0 u e.a) (hb0 : Below w0.heap.size w0 w) (hlo : w0.heap.size ≤ base) (hs : e.n.length + e.t.length + bulkA e.a ≤ 100000000)
    (hm0 : w0.cell? ⟨4, 0, none⟩ = some (.int .i64 m)) (hal : acc.length ≤ 100000000000) :
    Calls Tryz.prog 32 #[.pointer (some ⟨b, 0, none⟩), .agg (evC e u)] w fun r w' => r = .returned (.tuple #[]) ∧ MwAt w' base b (takeW eat e).1 (acc ++ (takeW eat e).2) ∧ Below w0.heap.size w0 w' := by
  obtain ⟨p, v, hI⟩ := h.it
  have hlo2 : w0.heap.size ≤ b := Nat.le_trans hlo hI.lo
  have hbs := block_lt hI.at_
  have hB := (Below.refl w.heap.size w).alloc (Nat.le_refl _) (.cells (evC e u) 60)
  have hn := heap_alloc_new w (.cells (evC e u) 60)
  obtain ⟨W1, hW1⟩ : ∃ W1, w.alloc (.cells (evC e u) 60) = W1 := ⟨_, rfl⟩
  rw [hW1] at hB hn
  have hI1 : EatAt W1 b 0 (mwC eat p v) 77 eat := ⟨(hB.block b hbs).trans hI.at_, rfl⟩
  have hI2 : EatAt W1.drew b 0 (mwC eat p v) 77 eat := ⟨hI1.at_, hI1.c⟩
  have hbw := hb0.trans (hB.mono hb0.size)
  have htk := wTake_any b 0 (mwC eat p v) 77 eat e u m w0 W1.drew hI2 hu0 hbw.drew hlo2 hs hm0
  have hlen := takeW_len eat e
  generalize takeW eat e = tw at htk hlen ⊢
  obtain ⟨t1, t2⟩ := tw
  simp only at htk hlen ⊢
  have hown1 : W1.ownsRowF base 5 1 v acc.length (byteCells acc) := hI.own.kept (row := none) ⟨hB.os, hB.tape, hB.output, hB.size, fun k hk _ => hB.block k hk⟩ (by cases v.ownBlock <;> simp)
  have hwr : ∀ W, W.heap[b]? = some (.cells ((mwC eat p v).setIfInBounds 0 (.bool t1)) 77 (0, 0)) → W1.drew.grownBy W (some b) → InB W base b 1 (mwC t1 p v) 77 p v acc := fun W ha hg =>
    ⟨ha, hI.lo, rfl, rfl, hI.hp, (show W1.drew.ownsRowF base 5 1 v acc.length (byteCells acc) from hown1).kept hg (.inr hI.ne), hI.ne⟩
  have hws := fun W h1 => write_in base b 1 (mwC t1 p v) 77 p v acc (bs t2) W h1 mw_lies (by decide) (by rw [bs_size]; omega)
  rw [bs_data] at hws
  obtain ⟨c0, c1, c2, c3⟩ := evC_at (show W1.drew.heap[w.heap.size]? = _ from hn)
  have HTK := hid htk
  have HWR := hid hwr
  have HWS := hid hws
  have HBW := hid hbw
  have hlb := hI.lo
  have fin : ∀ W W', W1.drew.grownBy W (some b) → Below base W W' → Below w0.heap.size w0 W' := fun W W' hg hb => by
    have h1 : Below w0.heap.size w0 W := Below.grown hbw.drew hg hbw.size (fun k hk => by cases hk; exact hlo2)
    exact h1.trans (hb.mono hlo)
  have FIN := hid fin
  obtain ⟨up, uc, rfl⟩ := hu0.len
  unfold evC at hW1 ⊢
  unfold evC at HTK
  clear htk hwr hws hbw fin hn hI hI1 hI2 hB hown1 hu0 h hlen
  go_enter Tryz.func32, Tryz.ntmps32
  go_wp2_with fail
  go_region_with (first | (go_at_call 70; refine HTK.out.mono ?_; rintro r W2 ⟨rfl, a2, g2⟩; have H2 := hid (HWR.out W2 a2 g2); have HG2 := hid g2; clear a2 g2) | (go_at_call 69; refine (HWS.out _ H2.out).mono ?_; rintro r W3 ⟨rfl, v', i3, b3, k3⟩))
  all_goals (go_end0; exact ⟨rfl, ⟨_, v', i3⟩, FIN.out _ _ HG2.out b3⟩)

theorem write_step (eat : Bool) (e : EvP) (r : List EvP) : writeW eat (e :: r) = (takeW eat e).2 ++ writeW (takeW eat e).1 r := rfl
theorem writeW_len : ∀ (es : List EvP) (eat : Bool), (writeW eat es).length ≤ 6 * bulkE es
  | [], _ => by simp [writeW]
  | e :: r, eat => by
    have h1 := takeW_len eat e
    have h2 := writeW_len r (takeW eat e).1
    rw [write_step, List.length_append, bulkE_cons]
    omega

set_option maxHeartbeats 4000000 in
set_option maxRecDepth 100000 in
theorem write_any (ev : Value) (es : List EvP) (m : Int) (w : World) (h : EvsR w ev es) (hs : bulkE es ≤ 100000000) (hm : w.cell? ⟨4, 0, none⟩ = some (.int .i64 m)) :
    Calls Tryz.prog 10 #[ev] w fun e w' => e = .returned (.string (bs (writeW false es))) ∧ Below w.heap.size w w' := by
  obtain ⟨p, c, rfl, hl, hcm, hcell⟩ := h
  have hlen := bulkE_len es
  have hwl := writeW_len es false
  obtain ⟨R, hR⟩ : ∃ R, writeW false es = R := ⟨_, rfl⟩
  rw [hR] at hwl ⊢
  have hb1 := (Below.refl w.heap.size w).alloc (Nat.le_refl _) (.cells (mwC false (.pointer none) (.slice none 0 0)) 77)
  have hn1 := heap_alloc_new w (.cells (mwC false (.pointer none) (.slice none 0 0)) 77)
  have H0 : Hid (MwAt (w.alloc (.cells (mwC false (.pointer none) (.slice none 0 0)) 77)) w.heap.size w.heap.size false [] ∧ Below w.heap.size w (w.alloc (.cells (mwC false (.pointer none) (.slice none 0 0)) 77))) :=
    ⟨⟨_, _, ⟨hn1, Nat.le_refl _, rfl, rfl, .inl rfl, ⟨rfl, .inl ⟨rfl, rfl⟩⟩, by simp [Value.ownBlock]⟩⟩, hb1⟩
  have HC := hid hcell
  have HM := hid hm
  have HS := hid hs
  have HWL := hid hwl
  have HR := hid (fun (_ : True) => hR)
  have hln : es.length ≤ 100000000 := by omega
  unfold mwC at H0
  clear hcell hm hs hwl hR hb1 hn1 hlen
  go_enter Tryz.func10, Tryz.ntmps10
  go_wp2_with fail
  go_loopw [8] (fun iv wr => ∃ (k : Nat) (eat : Bool) (acc : List UInt8), iv = .int .i64 k ∧ k ≤ es.length ∧ Hid (MwAt wr w.heap.size w.heap.size eat acc ∧ Below w.heap.size w wr) ∧ Hid (True → acc ++ writeW eat (es.drop k) = R)) (fun iv _ => es.length - (RowKit.intOf iv).toNat)
  case atStart => exact ⟨0, false, [], rfl, Nat.zero_le _, H0, HR⟩
  case round =>
    obtain ⟨k, eat, acc, rfl, hk, HX, HK⟩ := hrel
    by_cases hkl : k < es.length
    · obtain ⟨e, he⟩ : ∃ e, es[k]? = some e := ⟨_, List.getElem?_eq_getElem hkl⟩
      obtain ⟨b, o, u, rfl, q0, q1, q2, q3, q4⟩ := HC.out k e he
      have hab := bulkE_get he
      have hd := HK.out trivial
      rw [drop_at he, write_step] at hd
      have hdl := congrArg List.length hd
      have hHS := HS.out
      have hWL := HWL.out
      simp only [List.length_append] at hdl
      have hbx := HX.out.2
      have hlo := cell_block q0
      replace q0 := cell_low q0 hbx hlo
      replace q1 := cell_low q1 hbx hlo
      replace q2 := cell_low q2 hbx hlo
      replace q3 := cell_low q3 hbx hlo
      obtain ⟨up, uc, rfl⟩ := q4.len
      have hB1 := (Below.refl wr.heap.size wr).alloc (Nat.le_refl _) (.cells (evC e (.slice up e.a.length uc)) 60)
      have htk := mwTake_any w.heap.size w.heap.size eat acc e (.slice up e.a.length uc) m w (wr.alloc (.cells (evC e (.slice up e.a.length uc)) 60)) (by
        obtain ⟨p', v', hI⟩ := HX.out.1.it
        exact ⟨p', v', ⟨(hB1.block _ (block_lt hI.at_)).trans hI.at_, hI.lo, hI.cp, hI.cv, hI.hp, hI.own.kept (row := none) ⟨hB1.os, hB1.tape, hB1.output, hB1.size, fun k hk _ => hB1.block k hk⟩ (by cases v'.ownBlock <;> simp), hI.ne⟩⟩) q4 (hbx.trans (hB1.mono hbx.size)) (Nat.le_refl _) (by omega) HM.out (by omega)
      generalize takeW eat e = tw at htk hd
      obtain ⟨t1, t2⟩ := tw
      simp only at htk hd
      unfold evC at htk
      have HTK := hid htk
      have HD := hid (fun (_ : True) => hd)
      clear htk hd hdl hHS hWL hbx hlo hab he q4 HK HC hB1 H0
      go_wp2_with (go_at_call 32; refine HTK.out.mono ?_; rintro r W2 ⟨rfl, a2, b2⟩)
      have HZ := hid (And.intro a2 b2)
      have HE := hid (fun (_ : True) => (by have := HD.out trivial; rwa [← List.append_assoc] at this : (acc ++ t2) ++ writeW t1 (es.drop (k + 1)) = R))
      clear a2 b2 HX HTK HD q0 q1 q2 q3
      go_roundw
      case rel => first | exact ⟨k + 1, _, _, rfl, by omega, HZ, HE⟩ | ((repeat apply Exists.intro); exact ⟨⟨k + 1, _, _, rfl, by omega, HZ, HE⟩, rfl⟩)
      case measure => simp [RowKit.intOf]; omega
    · obtain rfl : acc = R := by
        have := HK.out trivial
        rw [List.drop_of_length_le (by omega)] at this
        rwa [show writeW eat [] = [] from rfl, List.append_nil] at this
      obtain ⟨p', v', hI⟩ := HX.out.1.it
      have HST := hid (string_any_in w.heap.size w.heap.size 1 _ _ p' v' acc wr hI)
      clear HK HC H0 hI
      go_wp2_with (go_at_call 33; refine HST.out.mono ?_; rintro r W2 ⟨rfl, _, b2, _⟩)
      have HY := hid (HX.out.2.trans b2)
      clear b2 HX
      go_ret
      exact ⟨rfl, HY.out⟩
end Go.Proofs.YtcncbhbdpcpkeaaGreatDoor
