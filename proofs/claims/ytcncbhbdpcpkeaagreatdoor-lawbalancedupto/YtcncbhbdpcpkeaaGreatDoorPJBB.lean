/-
  Parts of the walk, joined: ParX, ParC.
-/
import Derived.Test.YtcncbhbdpcpkeaaGreatDoorPJBA
import Derived.Test.YtcncbhbdpcpkeaaGreatDoorPJAE
/-
  markup.findReference: its walk.
-/
namespace Go.Proofs.YtcncbhbdpcpkeaaGreatDoor
open Go.RowKit Go.Lib Own Go.Great

def mrefT : List (List UInt8 × Int) := [(ampE, 38), (ltE, 60), (gtE, 62), (quotE, 34), (nbspE, 160)]
def mrefV : List Value := mrefT.flatMap fun t => [strV t.1, .int .i32 t.2]
/-- the table lies where its variable does -/
def MRefTab (w : World) : Prop := w.rangeAt 2 0 mrefV
theorem MRefTab.below {w w' : World} (h : MRefTab w) (hb : Below w.heap.size w w') : MRefTab w' := rangeAt_below h hb
theorem mref_len : mrefV.length = 10 := by decide +kernel
theorem index_mref (k : Nat) (x : List UInt8 × Int) (h : mrefT[k]? = some x) (W : World) :
    (Instr.index 248 (.agg mrefV.toArray) (.int .i64 (k : Int))).run Tryz.prog W = .ok (.agg #[strV x.1, .int .i32 x.2]) W := by
  have h5 : k < 5 := (List.getElem?_eq_some_iff.1 h).1
  have hn : (0 ≤ (k : Int) ∧ (k : Int) < 5) := by omega
  have ha : (mrefV.drop (k * 2)).take 2 = [strV x.1, .int .i32 x.2] := flat_at (fun t => strV t.1) (fun t => .int .i32 t.2) mrefT k x h
  simp [Instr.index, run_underlying Tryz.underlying248, asIntOf, h5, go_sem, ha]
/-- the reference that a text begins with -/
def mrefF : List (List UInt8 × Int) → List UInt8 → List UInt8 × Int
  | [], _ => ([], 0)
  | t :: r, l => if t.1.isPrefixOf l = true then t else mrefF r l
theorem mrefF_step {k : Nat} {x : List UInt8 × Int} (h : mrefT[k]? = some x) (l : List UInt8) : mrefF (mrefT.drop k) l = if x.1.isPrefixOf l = true then x else mrefF (mrefT.drop (k + 1)) l := by
  obtain ⟨h1, h2⟩ := List.getElem?_eq_some_iff.1 h
  rw [List.drop_eq_getElem_cons h1, h2]
  rfl
set_option maxHeartbeats 2000000 in
set_option maxRecDepth 100000 in
theorem findRefM_any (s : ByteArray) (w : World) (hT : MRefTab w) :
    Calls Tryz.prog 194 #[.string s] w fun e w' => e = .returned (.agg #[.string (bs (mrefF mrefT s.data.toList).1), .int .i32 (mrefF mrefT s.data.toList).2]) ∧ Below w.heap.size w w' := by
  have HT := hid hT
  clear hT
  obtain ⟨R, hR⟩ : ∃ R, mrefF mrefT s.data.toList = R := ⟨_, rfl⟩
  rw [hR]
  have HR := hid (fun (_ : True) => hR)
  clear hR
  obtain ⟨R1, R2⟩ := R
  obtain ⟨BR, hBR⟩ : ∃ BR, bs R1 = BR := ⟨_, rfl⟩
  rw [hBR]
  have HBR := hid (fun (_ : True) => hBR)
  clear hBR
  go_enter Tryz.func194, Tryz.ntmps194
  go_upto_region 1 with fail
  apply wp_region_lit
  refine wpList_load_mid rfl 248 _ rfl 2 0 rfl mrefV (.array 5 224) (rangeAt_below HT.out ((Below.refl _ _).alloc (Nat.le_refl _) _)) Tryz.underlying248 rfl (by rw [mref_len]; kernel_rfl) ?_
  go_wp2
  go_loopw [6] (fun iv wr => ∃ k : Nat, iv = .int .i64 k ∧ k ≤ 5 ∧ wr.heap[w.heap.size]? = some (.cells #[.string ⟨#[]⟩, .int .i32 0] 224 (0, 0)) ∧ Below w.heap.size w wr ∧ Hid (True → mrefF (mrefT.drop k) s.data.toList = (R1, R2))) (fun iv _ => 5 - (RowKit.intOf iv).toNat)
  case atStart => exact ⟨0, rfl, by omega, heap_alloc_new w _, (Below.refl _ _).alloc (Nat.le_refl _) _, HR.out⟩
  case round =>
    clear HR
    obtain ⟨k, rfl, hk, hres, hbw, HA⟩ := hrel
    have hsz := block_lt hres
    by_cases hp : k < 5
    · obtain ⟨x, hx⟩ : ∃ x, mrefT[k]? = some x := ⟨_, List.getElem?_eq_getElem hp⟩
      have hst := HA.out trivial
      rw [mrefF_step hx] at hst
      have hix := fun W => index_mref k x hx W
      obtain ⟨N, C⟩ := x
      have hpf := fun W => Tryz.strings_HasPrefix s ⟨N.toArray⟩ W
      rw [show (⟨N.toArray⟩ : ByteArray).data.toList = N from rfl] at hpf
      unfold Lib.hasPrefix at hpf
      generalize hB : N.isPrefixOf s.data.toList = b at hpf hst
      unfold strV at hix
      (try simp only at hix)
      have hbN : (⟨N.toArray⟩ : ByteArray) = bs N := rfl
      rw [hbN] at hix hpf
      (try simp only at hst)
      generalize hbn : bs N = bN at hix hpf
      have HP := hid hpf
      cases b with
      | true =>
        rw [if_pos rfl] at hst
        obtain ⟨rfl, rfl⟩ := Prod.mk.inj hst
        have hbr := HBR.out trivial
        rw [hbn] at hbr
        subst hbr
        clear hst hpf hx HA hB hbn HBR
        have hj := (just_put (j := 0) hres (.string bN) rfl).andThen (just_put (j := 1) (just_put (j := 0) hres (.string bN) rfl).at_ (.int .i32 C) rfl)
        have hbj := hbw.trans (just_low hj (Nat.le_refl _))
        have HJ := hid (And.intro ((alloc_old _ (.cells #[.string bN, .int .i32 C] 224) _ (block_lt hj.at_)).trans hj.at_) (hbj.alloc hbj.size (.cells #[.string bN, .int .i32 C] 224)))
        have q0 := cell_at hres (j := 0) rfl
        have q1 := cell_at hres (j := 1) rfl
        have y0 := free_at hres 0
        have y1 := free_at hres 1
        clear hj hbj
        go_wp2_with (go_at_call 226; refine (HP.out _).mono ?_; rintro e w' ⟨rfl, rfl⟩)
        obtain ⟨hat8, hb8⟩ := HJ.out
        refine bodyPost_ret (v := .agg #[.string bN, .int .i32 C]) ?_ rfl ⟨rfl, hb8⟩
        exact results_cell_row rfl _ _ _ _ _ _ _ rfl hat8 Tryz.underlying224 rfl (by kernel_rfl)
      | false =>
        rw [if_neg (by simp)] at hst
        have HS := hid (fun (_ : True) => hst)
        clear hst hpf hx HA hB hbn
        go_wp2_with (go_at_call 226; refine (HP.out _).mono ?_; rintro e w' ⟨rfl, rfl⟩)
        go_roundw
        case rel => exact ⟨k + 1, rfl, by omega, (alloc_old _ _ _ hsz).trans hres, hbw.alloc hbw.size _, HS.out⟩
        case measure => simp [RowKit.intOf]; omega
    · obtain rfl : k = 5 := by omega
      have hst := HA.out trivial
      have h0 : mrefF (mrefT.drop 5) s.data.toList = ([], 0) := rfl
      rw [h0] at hst
      obtain ⟨rfl, rfl⟩ := Prod.mk.inj hst
      have hbr := HBR.out trivial
      obtain rfl : (⟨#[]⟩ : ByteArray) = BR := hbr
      clear hst h0 HA HBR
      have hj := (just_put (j := 0) hres (.string ⟨#[]⟩) rfl).andThen (just_put (j := 1) (just_put (j := 0) hres (.string ⟨#[]⟩) rfl).at_ (.int .i32 0) rfl)
      have HJ := hid (And.intro hj.at_ (hbw.trans (just_low hj (Nat.le_refl _))))
      have q0 := cell_at hres (j := 0) rfl
      have q1 := cell_at hres (j := 1) rfl
      have y0 := free_at hres 0
      have y1 := free_at hres 1
      clear hj
      go_wp2_with fail
      obtain ⟨hat8, hb8⟩ := HJ.out
      refine bodyPost_ret (v := .agg #[.string ⟨#[]⟩, .int .i32 0]) ?_ rfl ⟨rfl, hb8⟩
      exact results_cell_row rfl _ _ _ _ _ _ _ rfl hat8 Tryz.underlying224 rfl (by kernel_rfl)
end Go.Proofs.YtcncbhbdpcpkeaaGreatDoor

/-
  Where the token reader's decoder stands: plain facts.
-/
namespace Go.Proofs.YtcncbhbdpcpkeaaGreatDoor
open Go.RowKit Go.Lib Own

theorem gt_front {l : List UInt8} (hg : gt l = true) (h0 : l ≠ []) : ∃ (c : Nat) (r : List UInt8), l = encodeRune c ++ r ∧ goodB c = true ∧ gt r = true ∧ decodeL l = (c, (encodeRune c).length) := by
  have hle := codeL_le l h0
  by_cases hbad : (codeL l).2 = 0 ∨ goodB (codeL l).1 = false
  · rw [gt_bad l h0 hbad] at hg; exact absurd hg (by decide)
  · have g1 : (codeL l).2 ≠ 0 := fun h => hbad (Or.inl h)
    have g2 : goodB (codeL l).1 = true := by
      cases hb : goodB (codeL l).1
      · exact absurd (Or.inr hb) hbad
      · rfl
    rw [gt_step l h0 g1 g2] at hg
    have hd : decodeL l = codeL l := by
      rw [decodeL_N]
      exact code_dec _ _ _ _ _ g1 g2 (byte_lt l 0)
    have he : encodeRune (codeL l).1 = l.take (codeL l).2 := by
      have := enc_take (l.getD 0 0) (l.getD 1 0) (l.getD 2 0) (l.getD 3 0) l.length g1 g2
      exact this.trans (four_take l _ hle.2.1 hle.2.2)
    refine ⟨(codeL l).1, l.drop (codeL l).2, by rw [he, List.take_append_drop], g2, hg, ?_⟩
    rw [hd, he, List.length_take, Nat.min_eq_left hle.2.1]
theorem unit_amp {l : List UInt8} (h : l.head? = some 38) : unitP l = if (mrefF mrefT l).1 = [] then none else some (encodeRune (mrefF mrefT l).2, (mrefF mrefT l).1.length) := by
  have h38 : (codeL l).1 = 38 := by
    cases l with
    | nil => cases h
    | cons c r =>
      cases h
      unfold codeL codeN
      rw [if_pos (show ((38 :: r : List UInt8).getD 0 0).toNat < 128 by show (38 : Nat) < 128; omega)]
      rfl
  have hm : mrefF mrefT l = if ampE.isPrefixOf l = true then (ampE, 38) else if ltE.isPrefixOf l = true then (ltE, 60) else if gtE.isPrefixOf l = true then (gtE, 62) else if quotE.isPrefixOf l = true then (quotE, 34) else if nbspE.isPrefixOf l = true then (nbspE, 160) else ([], 0) := rfl
  rw [hm]
  unfold unitP
  by_cases h1 : ampE.isPrefixOf l = true
  · rw [if_pos h1, if_pos h1, if_neg (by decide)]; decide
  rw [if_neg h1, if_neg h1]
  by_cases h2 : ltE.isPrefixOf l = true
  · rw [if_pos h2, if_pos h2, if_neg (by decide)]; decide
  rw [if_neg h2, if_neg h2]
  by_cases h3 : gtE.isPrefixOf l = true
  · rw [if_pos h3, if_pos h3, if_neg (by decide)]; decide
  rw [if_neg h3, if_neg h3]
  by_cases h4 : quotE.isPrefixOf l = true
  · rw [if_pos h4, if_pos h4, if_neg (by decide)]; decide
  rw [if_neg h4, if_neg h4]
  by_cases h5 : nbspE.isPrefixOf l = true
  · rw [if_pos h5, if_pos h5, if_neg (by decide)]; decide
  rw [if_neg h5, if_neg h5, if_pos (.inr (.inl h38)), if_pos rfl]
theorem mref_some {l : List UInt8} (h : (mrefF mrefT l).1 ≠ []) : ∃ r, l = (mrefF mrefT l).1 ++ r ∧ ((mrefF mrefT l).1.all (fun c => decide (c.toNat < 128)) = true) ∧ gt (mrefF mrefT l).1 = true ∧ (mrefF mrefT l).1.length ≤ 6 ∧ (0 ≤ (mrefF mrefT l).2 ∧ (mrefF mrefT l).2 ≤ 160) ∧ (encodeRune (mrefF mrefT l).2).length ≤ (mrefF mrefT l).1.length := by
  have hall : ∀ t ∈ mrefT, t.1.all (fun c => decide (c.toNat < 128)) = true ∧ gt t.1 = true ∧ t.1.length ≤ 6 ∧ (0 ≤ t.2 ∧ t.2 ≤ 160) ∧ (encodeRune t.2).length ≤ t.1.length := by decide +kernel
  have key : ∀ T : List (List UInt8 × Int), (mrefF T l).1 ≠ [] → mrefF T l ∈ T ∧ (mrefF T l).1.isPrefixOf l = true := by
    intro T
    induction T with
    | nil => intro h; exact absurd rfl h
    | cons t r ih =>
      unfold mrefF
      split
      · rename_i hp; exact fun _ => ⟨List.mem_cons_self .., hp⟩
      · intro h2; exact ⟨List.mem_cons_of_mem _ (ih h2).1, (ih h2).2⟩
  obtain ⟨h1, h2⟩ := key mrefT h
  obtain ⟨r, hr⟩ := List.isPrefixOf_iff_prefix.1 h2
  exact ⟨r, hr.symm, hall _ h1⟩
/-- a text that is read is good -/
theorem decP_good : ∀ (n : Nat) (l b : List UInt8), l.length ≤ n → decP l = some b → gt l = true
  | 0, l, b, h, hd => by
    have : l = [] := List.eq_nil_of_length_eq_zero (by omega)
    subst this; rfl
  | m + 1, l, b, h, hd => by
    by_cases h0 : l = []
    · subst h0; rfl
    · rw [decP_step h0] at hd
      cases hu : unitP l with
      | none => rw [hu] at hd; cases hd
      | some x =>
        obtain ⟨c, n⟩ := x
        have hl := unit_len hu h0
        rw [hu] at hd
        simp only at hd
        cases hr : decP (l.drop n) with
        | none => rw [hr] at hd; cases hd
        | some q =>
          have ih := decP_good m _ _ (by simp; omega) hr
          by_cases h38 : l.head? = some 38
          · rw [unit_amp h38] at hu
            split at hu
            · cases hu
            · rename_i hne
              simp only [Option.some.injEq, Prod.mk.injEq] at hu
              obtain ⟨r, h1, h2, h3, _⟩ := mref_some hne
              rw [← hu.2] at ih
              generalize mrefF mrefT l = M at *
              subst h1
              rw [gt_app h3]
              rw [List.drop_left] at ih
              exact ih
          · rw [unit_other h38] at hu
            split at hu
            · cases hu
            · rename_i h1
              simp only [Option.some.injEq, Prod.mk.injEq] at hu
              have g1 : (codeL l).2 ≠ 0 := fun e => h1 (.inl e)
              have g2 : goodB (codeL l).1 = true := by
                cases hb : goodB (codeL l).1
                · exact absurd (.inr (.inr hb)) h1
                · rfl
              rw [gt_step l h0 g1 g2, hu.2]
              exact ih

/-- where the decoder stands: at pos, with all up to beh read -/
structure DecInv (raw : List UInt8) (pos beh : Nat) (acc : List UInt8) : Prop where
  eq : decP raw = (decP (raw.drop (max pos beh))).map (acc ++ ·)
  good : gt (raw.drop (max pos beh)) = true
  low : ∀ j, pos ≤ j → j < beh → ∃ c, raw[j]? = some c ∧ c.toNat < 128
  le : beh ≤ raw.length
  len : acc.length ≤ max pos beh
theorem DecInv.start {raw : List UInt8} (h : gt raw = true) : DecInv raw 0 0 [] :=
  ⟨by show decP raw = (decP (raw.drop 0)).map _; rw [List.drop_zero]; cases decP raw <;> rfl, by show gt (raw.drop 0) = true; rw [List.drop_zero]; exact h, fun j _ h2 => absurd h2 (Nat.not_lt_zero _), Nat.zero_le _, Nat.zero_le _⟩
theorem decode_low {l : List UInt8} {c : UInt8} (h : l.head? = some c) (hc : c.toNat < 128) : decodeL l = (c.toNat, 1) := by
  cases l with
  | nil => cases h
  | cons d r =>
    cases h
    rw [decodeL_N]
    unfold decodeN
    rw [if_pos (by simpa using hc)]
    rfl
theorem head_drop (raw : List UInt8) (pos : Nat) : (raw.drop pos).head? = raw[pos]? := by rw [List.head?_drop]
theorem DecInv.skip {raw : List UInt8} {pos beh : Nat} {acc : List UInt8} (h : DecInv raw pos beh acc) (hp : pos < beh) : (∃ c : UInt8, c.toNat < 128 ∧ decodeL (raw.drop pos) = (c.toNat, 1)) ∧ DecInv raw (pos + 1) beh acc := by
  obtain ⟨c, h1, h2⟩ := h.low pos (Nat.le_refl _) hp
  have e : max (pos + 1) beh = max pos beh := by omega
  refine ⟨⟨c, h2, decode_low (by rw [head_drop]; exact h1) h2⟩, ⟨by rw [e]; exact h.eq, by rw [e]; exact h.good, fun j h3 h4 => h.low j (by omega) h4, h.le, by rw [e]; exact h.len⟩⟩
theorem DecInv.done {raw : List UInt8} {pos beh : Nat} {acc : List UInt8} (h : DecInv raw pos beh acc) (hp : pos = raw.length) : decP raw = some acc := by
  have h1 := h.eq
  have h2 := h.le
  rw [List.drop_of_length_le (by omega), decP_nil] at h1
  rw [h1]
  simp
/-- a character that is no & -/
theorem DecInv.char {raw : List UInt8} {pos beh c n : Nat} {acc : List UInt8} (h : DecInv raw pos beh acc) (hp : beh ≤ pos) (hl : pos < raw.length) (hd : decodeL (raw.drop pos) = (c, n)) (hc : c ≠ 38) : DecInv raw (pos + n) beh (acc ++ encodeRune c) ∧ pos + n ≤ raw.length := by
  have e : max pos beh = pos := by omega
  have hne : raw.drop pos ≠ [] := by rw [ne_eq, List.drop_eq_nil_iff]; omega
  have hg := h.good
  have heq := h.eq
  rw [e] at hg heq
  obtain ⟨c', r, h1, h2, h3, h4⟩ := gt_front hg hne
  rw [hd] at h4
  simp only [Prod.mk.injEq] at h4
  obtain ⟨rfl, rfl⟩ := h4
  have hr : raw.drop (pos + (encodeRune (c : Int)).length) = r := by rw [← List.drop_drop, h1, List.drop_left]
  have hlen : (raw.drop pos).length = (encodeRune (c : Int)).length + r.length := by rw [h1, List.length_append]
  rw [List.length_drop] at hlen
  have e2 : max (pos + (encodeRune (c : Int)).length) beh = pos + (encodeRune (c : Int)).length := by omega
  have h5 := h.len
  rw [e] at h5
  refine ⟨⟨?_, by rw [e2, hr]; exact h3, fun j h6 h7 => by omega, h.le, by rw [e2, List.length_append]; omega⟩, by omega⟩
  rw [e2, hr, heq, h1, dec_enc h2 hc, Option.map_map]
  congr 1
  funext x
  simp
/-- an & that begins no reference -/
theorem DecInv.bad {raw : List UInt8} {pos beh n : Nat} {acc : List UInt8} (h : DecInv raw pos beh acc) (hp : beh ≤ pos) (hl : pos < raw.length) (hd : decodeL (raw.drop pos) = (38, n)) (hm : (mrefF mrefT (raw.drop pos)).1 = []) : decP raw = none := by
  have e : max pos beh = pos := by omega
  have hne : raw.drop pos ≠ [] := by rw [ne_eq, List.drop_eq_nil_iff]; omega
  have hg := h.good
  have heq := h.eq
  rw [e] at hg heq
  obtain ⟨c', r, h1, h2, h3, h4⟩ := gt_front hg hne
  rw [hd] at h4
  simp only [Prod.mk.injEq] at h4
  obtain ⟨rfl, _⟩ := h4
  have h38 : (raw.drop pos).head? = some 38 := by rw [h1, enc_one (by decide)]; rfl
  rw [heq, decP_step hne, unit_amp h38, if_pos hm]
  rfl
/-- an & that begins one -/
theorem DecInv.ref {raw : List UInt8} {pos beh n : Nat} {acc : List UInt8} (h : DecInv raw pos beh acc) (hp : beh ≤ pos) (hl : pos < raw.length) (hd : decodeL (raw.drop pos) = (38, n)) (hm : (mrefF mrefT (raw.drop pos)).1 ≠ []) :
    n = 1 ∧ DecInv raw (pos + 1) (pos + (mrefF mrefT (raw.drop pos)).1.length) (acc ++ encodeRune (mrefF mrefT (raw.drop pos)).2) := by
  have e : max pos beh = pos := by omega
  have hne : raw.drop pos ≠ [] := by rw [ne_eq, List.drop_eq_nil_iff]; omega
  have hg := h.good
  have heq := h.eq
  rw [e] at hg heq
  obtain ⟨c', r, h1, h2, h3, h4⟩ := gt_front hg hne
  rw [hd] at h4
  simp only [Prod.mk.injEq] at h4
  obtain ⟨rfl, hn⟩ := h4
  have h38 : (raw.drop pos).head? = some 38 := by rw [h1, enc_one (by decide)]; rfl
  obtain ⟨q, k1, k2, k3, k4, k5, k6⟩ := mref_some hm
  have hpos : 1 ≤ (mrefF mrefT (raw.drop pos)).1.length := by have := List.length_pos_iff.2 hm; omega
  have hu := unit_amp h38
  rw [if_neg hm] at hu
  generalize mrefF mrefT (raw.drop pos) = M at *
  have hq : raw.drop (pos + M.1.length) = q := by rw [← List.drop_drop, k1, List.drop_left]
  have hlen : (raw.drop pos).length = M.1.length + q.length := by rw [k1, List.length_append]
  rw [List.length_drop] at hlen
  have e2 : max (pos + 1) (pos + M.1.length) = pos + M.1.length := by omega
  have h5 := h.len
  rw [e] at h5
  refine ⟨by rw [hn]; decide, ⟨?_, ?_, fun j h6 h7 => ?_, by omega, by rw [e2, List.length_append]; omega⟩⟩
  · rw [e2, heq, decP_step hne, hu]
    simp only
    rw [List.drop_drop, Option.map_map]
    congr 1
    funext x
    simp
  · rw [e2, hq]
    rw [k1, gt_app k3] at hg
    exact hg
  · have hj : raw[j]? = M.1[j - pos]? := by
      have h8 : (raw.drop pos)[j - pos]? = raw[j]? := by rw [List.getElem?_drop]; congr 1; omega
      rw [← h8, k1, List.getElem?_append_left (by omega)]
    obtain ⟨c, hc⟩ : ∃ c, M.1[j - pos]? = some c := ⟨_, List.getElem?_eq_getElem (by omega)⟩
    rw [List.all_eq_true] at k2
    exact ⟨c, hj.trans hc, of_decide_eq_true (k2 c (List.mem_of_getElem? hc))⟩
end Go.Proofs.YtcncbhbdpcpkeaaGreatDoor
