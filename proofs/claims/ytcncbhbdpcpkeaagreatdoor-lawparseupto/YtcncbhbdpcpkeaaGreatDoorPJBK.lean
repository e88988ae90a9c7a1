/-
  Parts of the walk, joined: RefBN, RpA, RpB, SerC, FreshN, PolOpen.
-/
import Derived.BigQuiet
import Derived.Test.YtcncbhbdpcpkeaaGreatDoorRows
import Derived.Lib.LaidU8
import Derived.SliceStrings
import Derived.Lib.SmallJoins
import Derived.Deep.SlicePairs
import Derived.ChangeMaps5
import Derived.ChangeSame
import Derived.Test.YtcncbhbdpcpkeaaGreatDoorPJAT
import Derived.Test.YtcncbhbdpcpkeaaGreatDoorPJAO
import Derived.Test.YtcncbhbdpcpkeaaGreatDoorPJAU
import Derived.Test.YtcncbhbdpcpkeaaGreatDoorPJAF
import Derived.Test.YtcncbhbdpcpkeaaGreatDoorPJAE
import Derived.Test.YtcncbhbdpcpkeaaGreatDoorPJBD
import Derived.Test.YtcncbhbdpcpkeaaGreatDoorPJAG
import Derived.Test.YtcncbhbdpcpkeaaGreatDoorPJAQ
import Derived.Test.YtcncbhbdpcpkeaaGreatDoorPJAJ
import Derived.Test.YtcncbhbdpcpkeaaGreatDoorPJBJ
import Derived.Test.YtcncbhbdpcpkeaaGreatDoorPJBC
import Derived.Test.YtcncbhbdpcpkeaaGreatDoorPJAX
import Derived.Test.YtcncbhbdpcpkeaaGreatDoorPJBA
import Derived.Test.YtcncbhbdpcpkeaaGreatDoorPJAL
import Derived.Test.YtcncbhbdpcpkeaaGreatDoorPJAN
/-
  The reference's isTable, modelAt, impliedCount, closes: their walks.
-/
namespace Go.Proofs.YtcncbhbdpcpkeaaGreatDoor
open Go.RowKit Go.Lib Own

theorem table_class (x : List UInt8) : tableX x = (x == [116, 97, 98, 108, 101] || (clsX x == 5 || (clsX x == 6 || clsX x == 7))) := by
  refine elem_all (fun x => tableX x = (x == [116, 97, 98, 108, 101] || (clsX x == 5 || (clsX x == 6 || clsX x == 7)))) (by decide +kernel) (fun x h1 _ => ?_) x
  have h3 : clsX x = 0 := by unfold clsX; rw [h1]; rfl
  have h4 : modX x = 0 := by unfold modX; rw [h1]; rfl
  have h5 : (x == [116, 97, 98, 108, 101]) = false := by
    rw [Bool.eq_false_iff]
    intro e
    rw [beq_iff_eq] at e
    subst e
    exact absurd h1 (by decide +kernel)
  unfold tableX
  rw [h3, h4, h5]
  rfl
theorem clsX_le (x : List UInt8) : clsX x ≤ 7 := by
  by_cases h : elemL x = none
  · unfold clsX; rw [h]; exact Nat.zero_le _
  · exact (known_bd x h).2.1
set_option maxHeartbeats 4000000 in
set_option maxRecDepth 100000 in
theorem refTable_any (x : ByteArray) (w : World) :
    Calls Tryz.prog 219 #[.string x] w fun e w' => e = .returned (.bool (tableX x.toList)) ∧ w' = w := by
  have hcl := fun W => classOf_any x W
  rw [class_word] at hcl
  have hle := clsX_le x.toList
  have htc := table_class x.toList
  obtain ⟨R, hR⟩ : ∃ R, tableX x.toList = R := ⟨_, rfl⟩
  rw [hR] at htc ⊢
  obtain ⟨T, hT⟩ : ∃ b, (x.toList == [116, 97, 98, 108, 101]) = b := ⟨_, rfl⟩
  rw [hT] at htc
  generalize clsX x.toList = c at hcl hle htc
  have HC := hid hcl
  clear hcl hR
  rcases (show c = 0 ∨ c = 1 ∨ c = 2 ∨ c = 3 ∨ c = 4 ∨ c = 5 ∨ c = 6 ∨ c = 7 by omega) with rfl | rfl | rfl | rfl | rfl | rfl | rfl | rfl
  all_goals cases T
  all_goals simp only [Bool.true_or, Bool.false_or] at htc
  all_goals subst htc
  all_goals unfold bs at HC
  all_goals go_enter Tryz.func219, Tryz.ntmps219
  all_goals go_wp2_with fail
  all_goals refine (HC.out _).mono ?_
  all_goals rintro e W1 ⟨rfl, rfl⟩
  all_goals go_wp2_with fail
  all_goals go_ret
  all_goals exact ⟨rfl, rfl⟩
end Go.Proofs.YtcncbhbdpcpkeaaGreatDoor

/-
  The reference's unitAt: what it answers, its walk.
-/
namespace Go.Proofs.YtcncbhbdpcpkeaaGreatDoor
open Go.RowKit Go.Lib Own

theorem dec_code (n b0 b1 b2 b3 : Nat) (h : decodeN n b0 b1 b2 b3 ≠ (65533, 1)) (l0 : b0 < 256) (l1 : b1 < 256) (l2 : b2 < 256) (l3 : b3 < 256) : codeN n b0 b1 b2 b3 = decodeN n b0 b1 b2 b3 := by
  unfold decodeN at h ⊢
  unfold codeN
  by_cases a1 : b0 < 128
  · rw [if_pos a1, if_pos a1]
  · rw [if_neg a1] at h ⊢
    rw [if_neg a1]
    by_cases a2 : b0 / 32 = 6 ∧ (1 < n ∧ b1 / 64 = 2)
    · rw [if_pos a2] at h ⊢
      by_cases q : b0 % 32 * 64 + b1 % 64 ≥ 128
      · rw [if_pos q, if_neg (show ¬ b0 < 192 by omega), if_pos (show b0 < 224 by omega), if_pos (by omega), Prod.mk.injEq]
        omega
      · rw [if_neg q] at h; exact absurd rfl h
    · rw [if_neg a2] at h ⊢
      by_cases a3 : b0 / 16 = 14 ∧ (1 < n ∧ b1 / 64 = 2) ∧ (2 < n ∧ b2 / 64 = 2)
      · rw [if_pos a3] at h ⊢
        split at h
        · rename_i q
          rw [if_pos q, if_neg (show ¬ b0 < 192 by omega), if_neg (show ¬ b0 < 224 by omega), if_pos (show b0 < 240 by omega), if_pos (by omega), Prod.mk.injEq]
          omega
        · exact absurd rfl h
      · rw [if_neg a3] at h ⊢
        by_cases a4 : b0 / 8 = 30 ∧ (1 < n ∧ b1 / 64 = 2) ∧ (2 < n ∧ b2 / 64 = 2) ∧ (3 < n ∧ b3 / 64 = 2)
        · rw [if_pos a4] at h ⊢
          split at h
          · rename_i q
            rw [if_pos q, if_neg (show ¬ b0 < 192 by omega), if_neg (show ¬ b0 < 224 by omega), if_neg (show ¬ b0 < 240 by omega), if_pos (by omega), Prod.mk.injEq]
            omega
          · exact absurd rfl h
        · rw [if_neg a4] at h; exact absurd rfl h
theorem codeN_one {n b0 b1 b2 b3 c : Nat} (h : codeN n b0 b1 b2 b3 = (c, 1)) (hc : 128 ≤ c) : False := by
  have h1 := congrArg Prod.fst h
  have h2 := congrArg Prod.snd h
  clear h
  unfold codeN at h1 h2
  by_cases a1 : b0 < 128
  · rw [if_pos a1] at h1
    simp only at h1
    omega
  · rw [if_neg a1] at h2
    by_cases a2 : b0 < 192
    · rw [if_pos a2] at h2; exact absurd h2 (by simp)
    · rw [if_neg a2] at h2
      by_cases a3 : b0 < 224
      · rw [if_pos a3] at h2
        split at h2 <;> exact absurd h2 (by simp)
      · rw [if_neg a3] at h2
        by_cases a4 : b0 < 240
        · rw [if_pos a4] at h2
          split at h2 <;> exact absurd h2 (by simp)
        · rw [if_neg a4] at h2
          split at h2 <;> exact absurd h2 (by simp)
theorem char_code (l : List UInt8) : ((codeL l).2 = 0 ∨ (codeL l).1 = 38 ∨ goodB (codeL l).1 = false ↔ (charL l).2 = 0 ∨ (charL l).1 = 38 ∨ goodB (charL l).1 = false) ∧ (¬ ((charL l).2 = 0 ∨ (charL l).1 = 38 ∨ goodB (charL l).1 = false) → charL l = codeL l) := by
  have l0 := (l.getD 0 0).toNat_lt
  have l1 := (l.getD 1 0).toNat_lt
  have l2 := (l.getD 2 0).toNat_lt
  have l3 := (l.getD 3 0).toNat_lt
  unfold charL codeL charN
  generalize (l.getD 0 0).toNat = b0 at *
  generalize (l.getD 1 0).toNat = b1 at *
  generalize (l.getD 2 0).toNat = b2 at *
  generalize (l.getD 3 0).toNat = b3 at *
  by_cases h : decodeN l.length b0 b1 b2 b3 = (65533, 1)
  · rw [if_pos h]
    refine ⟨⟨fun _ => .inl rfl, fun _ => Classical.byContradiction fun hn => ?_⟩, fun hn => absurd (.inl rfl) hn⟩
    have h1 : (codeN l.length b0 b1 b2 b3).2 ≠ 0 := fun e => hn (.inl e)
    have h2 : goodB (codeN l.length b0 b1 b2 b3).1 = true := by
      cases hg : goodB (codeN l.length b0 b1 b2 b3).1 with
      | true => rfl
      | false => exact absurd (.inr (.inr hg)) hn
    have h3 := code_dec _ _ _ _ _ h1 h2 l0
    rw [h] at h3
    exact codeN_one h3.symm (by decide)
  · rw [if_neg h, dec_code _ _ _ _ _ h l0 l1 l2 l3]
    exact ⟨Iff.rfl, fun _ => rfl⟩
/-- unitP by what the reference asks -/
theorem unitP_char (l : List UInt8) : unitP l = if ampE.isPrefixOf l = true then some ([38], 5) else if ltE.isPrefixOf l = true then some ([60], 4) else if gtE.isPrefixOf l = true then some ([62], 4) else if quotE.isPrefixOf l = true then some ([34], 6) else if nbspE.isPrefixOf l = true then some ([194, 160], 6)
    else if (charL l).2 = 0 ∨ (charL l).1 = 38 ∨ goodB (charL l).1 = false then none else some (l.take (charL l).2, (charL l).2) := by
  have h := char_code l
  unfold unitP
  by_cases hc : (charL l).2 = 0 ∨ (charL l).1 = 38 ∨ goodB (charL l).1 = false
  · rw [if_pos hc, if_pos (h.1.2 hc)]
  · rw [if_neg hc, if_neg (fun e => hc (h.1.1 e)), h.2 hc]
/-- what unitAt answers -/
def unitV (l : List UInt8) : List UInt8 × Nat := (unitP l).getD ([], 0)
theorem charL_le (l : List UInt8) (h0 : l ≠ []) : (charL l).2 ≤ l.length := by
  by_cases hc : (charL l).2 = 0 ∨ (charL l).1 = 38 ∨ goodB (charL l).1 = false
  · rw [charL_dec]
    split
    · exact Nat.zero_le _
    · exact (width_le l h0).2
  · rw [(char_code l).2 hc]; exact (codeL_le l h0).2.1
set_option maxHeartbeats 4000000 in
set_option maxRecDepth 100000 in
theorem unitAt_any (l : List UInt8) (w : World) (h0 : l ≠ []) (hs : l.length ≤ 4000000) :
    Calls Tryz.prog 174 #[.string (bs l)] w fun e w' => e = .returned (.tuple #[.string (bs (unitV l).1), .int .i64 (unitV l).2]) ∧ Below w.heap.size w w' := by
  have hlp := List.length_pos_iff.2 h0
  have b1 := fun W => begins_any (bs l) ⟨#[38, 97, 109, 112, 59]⟩ W
  have b2 := fun W => begins_any (bs l) ⟨#[38, 108, 116, 59]⟩ W
  have b3 := fun W => begins_any (bs l) ⟨#[38, 103, 116, 59]⟩ W
  have b4 := fun W => begins_any (bs l) ⟨#[38, 113, 117, 111, 116, 59]⟩ W
  have b5 := fun W => begins_any (bs l) ⟨#[38, 110, 98, 115, 112, 59]⟩ W
  have hch := fun W => char_walk (bs l) W (by rw [bs_size]; omega) (by rw [bs_size]; omega)
  rw [bs_data] at b1 b2 b3 b4 b5 hch
  rw [show (⟨#[38, 97, 109, 112, 59]⟩ : ByteArray).data.toList = ampE from rfl] at b1
  rw [show (⟨#[38, 108, 116, 59]⟩ : ByteArray).data.toList = ltE from rfl] at b2
  rw [show (⟨#[38, 103, 116, 59]⟩ : ByteArray).data.toList = gtE from rfl] at b3
  rw [show (⟨#[38, 113, 117, 111, 116, 59]⟩ : ByteArray).data.toList = quotE from rfl] at b4
  rw [show (⟨#[38, 110, 98, 115, 112, 59]⟩ : ByteArray).data.toList = nbspE from rfl] at b5
  obtain ⟨R, hR⟩ : ∃ R, unitV l = R := ⟨_, rfl⟩
  rw [hR]
  unfold unitV at hR
  rw [unitP_char] at hR
  have hgd := fun W => refGood_all ((charL l).1 : Int) (by omega) W
  have hle := charL_le l h0
  have hsl := take_bs l (charL l).2
  have hsz := bs_size l
  generalize ampE.isPrefixOf l = A1 at b1 hR
  generalize ltE.isPrefixOf l = A2 at b2 hR
  generalize gtE.isPrefixOf l = A3 at b3 hR
  generalize quotE.isPrefixOf l = A4 at b4 hR
  generalize nbspE.isPrefixOf l = A5 at b5 hR
  generalize (charL l).1 = V at hch hR hgd
  generalize (charL l).2 = S at hch hR hle hsl
  obtain ⟨T, hT⟩ : ∃ T, bs (l.take S) = T := ⟨_, rfl⟩
  have HT := hid (fun (_ : True) => hT)
  rw [hT] at hsl
  clear hT
  obtain ⟨B, hB⟩ : ∃ B, bs l = B := ⟨_, rfl⟩
  rw [hB] at b1 b2 b3 b4 b5 hch hsl hsz ⊢
  rw [← hsz] at hle
  have h1 := hid b1
  have h2 := hid b2
  have h3 := hid b3
  have h4 := hid b4
  have h5 := hid b5
  have HC := hid hch
  have HG := hid hgd
  have HR := hid (fun (_ : True) => hR)
  clear b1 b2 b3 b4 b5 hch hgd hR hB
  go_enter Tryz.func174, Tryz.ntmps174
  go_wp2_with fail
  refine (h1.out _).mono ?_
  rintro e W1 ⟨rfl, rfl⟩
  cases A1 with
  | true =>
    have hr := HR.out trivial
    simp only [if_true, Option.getD_some] at hr
    subst hr
    clear HR HC HG
    go_wp2_with fail
    go_ret2
    exact ⟨rfl, Below.refl _ _⟩
  | false =>
    go_wp2_with fail
    refine (h2.out _).mono ?_
    rintro e W2 ⟨rfl, rfl⟩
    cases A2 with
    | true =>
      have hr := HR.out trivial
      simp only [if_true, if_false, Bool.false_eq_true, Option.getD_some] at hr
      subst hr
      clear HR HC HG
      go_wp2_with fail
      go_ret2
      exact ⟨rfl, Below.refl _ _⟩
    | false =>
      go_wp2_with fail
      refine (h3.out _).mono ?_
      rintro e W3 ⟨rfl, rfl⟩
      cases A3 with
      | true =>
        have hr := HR.out trivial
        simp only [if_true, if_false, Bool.false_eq_true, Option.getD_some] at hr
        subst hr
        clear HR HC HG
        go_wp2_with fail
        go_ret2
        exact ⟨rfl, Below.refl _ _⟩
      | false =>
        go_wp2_with fail
        refine (h4.out _).mono ?_
        rintro e W4 ⟨rfl, rfl⟩
        cases A4 with
        | true =>
          have hr := HR.out trivial
          simp only [if_true, if_false, Bool.false_eq_true, Option.getD_some] at hr
          subst hr
          clear HR HC HG
          go_wp2_with fail
          go_ret2
          exact ⟨rfl, Below.refl _ _⟩
        | false =>
          go_wp2_with fail
          refine (h5.out _).mono ?_
          rintro e W5 ⟨rfl, rfl⟩
          cases A5 with
          | true =>
            have hr := HR.out trivial
            simp only [if_true, if_false, Bool.false_eq_true, Option.getD_some] at hr
            subst hr
            clear HR HC HG
            go_wp2_with fail
            go_ret2
            exact ⟨rfl, Below.refl _ _⟩
          | false =>
            go_wp2_with fail
            refine (HC.out _).mono ?_
            rintro e W6 ⟨rfl, hb6⟩
            have HB := hid hb6
            have hr := HR.out trivial
            simp only [if_false, Bool.false_eq_true] at hr
            clear hb6 HC HR
            have hr1 := hid (fun (_ : True) (hh : S = 0 ∨ V = 38 ∨ goodB (V : Int) = false) => (show (([], 0) : List UInt8 × Nat) = R by rw [← hr, if_pos hh]; rfl))
            have hr2 := hid (fun (_ : True) (hh : ¬ (S = 0 ∨ V = 38 ∨ goodB (V : Int) = false)) => (show (l.take S, S) = R by rw [← hr, if_neg hh]; rfl))
            clear hr
            by_cases c1 : S = 0
            · have hr := hr1.out trivial (.inl c1)
              have z1 : ((S : Int) == 0) = true := beq_iff_eq.2 (by omega)
              subst hr
              clear hr1 hr2 HG c1 HT
              go_wp2_with fail
              go_ret2
              exact ⟨rfl, HB.out⟩
            · have z1 : ((S : Int) == 0) = false := beq_eq_false_iff_ne.2 (by omega)
              by_cases c2 : V = 38
              · have hr := hr1.out trivial (.inr (.inl c2))
                have z2 : ((V : Int) == 38) = true := beq_iff_eq.2 (by omega)
                subst hr
                clear hr1 hr2 HG c1 c2 HT
                go_wp2_with fail
                go_ret2
                exact ⟨rfl, HB.out⟩
              · have z2 : ((V : Int) == 38) = false := beq_eq_false_iff_ne.2 (by omega)
                go_wp2_with fail
                refine (HG.out _).mono ?_
                rintro e W7 ⟨rfl, rfl⟩
                cases hg : goodB (V : Int) with
                | false =>
                  have hr := hr1.out trivial (.inr (.inr hg))
                  subst hr
                  clear hr1 hr2 HG c1 c2 HT hg
                  go_wp2_with fail
                  go_ret2
                  exact ⟨rfl, HB.out⟩
                | true =>
                  have hr := hr2.out trivial (fun hh => hh.elim c1 (fun hh => hh.elim c2 (fun hh => by rw [hg] at hh; cases hh)))
                  subst hr
                  clear hr1 hr2 HG c1 c2 hg
                  go_wp2_with fail
                  go_ret2
                  exact ⟨by rw [HT.out trivial]; rfl, HB.out⟩
end Go.Proofs.YtcncbhbdpcpkeaaGreatDoor

/-
  The reference's unitsOf: its walk.
-/
namespace Go.Proofs.YtcncbhbdpcpkeaaGreatDoor
open Go.RowKit Go.Lib Own

/-- what unitsOf answers -/
def unitsV : Option (List UInt8) → List UInt8 × Bool
  | some t => (t, true)
  | none => ([], false)
theorem map_nil_app (o : Option (List UInt8)) : o.map ([] ++ ·) = o := by cases o <;> rfl
set_option maxHeartbeats 4000000 in
set_option maxRecDepth 100000 in
theorem unitsOf_any (l : List UInt8) (w : World) (hs : l.length ≤ 4000000) :
    Calls Tryz.prog 112 #[.string (bs l)] w fun e w' => e = .returned (.tuple #[.string (bs (unitsV (decP l)).1), .bool (unitsV (decP l)).2]) ∧ Below w.heap.size w w' := by
  obtain ⟨R, hR⟩ : ∃ R, decP l = R := ⟨_, rfl⟩
  rw [hR]
  have hRl : ∀ t, R = some t → t.length ≤ 4000000 := fun t ht => by
    have := (decP_len _ l t (Nat.le_refl _) (hR.trans ht)).1
    omega
  have HR : Hid ((decP (l.drop 0)).map ([] ++ ·) = R) := hid ((map_nil_app _).trans hR)
  obtain ⟨i0, hi, hz0, hz1, hz2⟩ := info_parts info_u8
  have hsz := bs_size l
  have hdr := fun k => drop_bs (bs l) k
  rw [bs_data, hsz] at hdr
  have HU := hid (fun k (hk : k < l.length) W => unitAt_any (l.drop k) W (fun e => by have := congrArg List.length e; rw [List.length_drop] at this; simp at this; omega) (by rw [List.length_drop]; omega))
  obtain ⟨B, hB⟩ : ∃ B, bs l = B := ⟨_, rfl⟩
  rw [hB] at hsz hdr ⊢
  have HD := hid hdr
  have HL := hid hRl
  clear hR hB hdr hRl
  go_enter Tryz.func112, Tryz.ntmps112
  go_wp2_with fail
  go_loopw [4, 5] (fun bv iv wr => ∃ (k : Nat) (acc : List UInt8), iv = .int .i64 k ∧ k ≤ l.length ∧ acc.length ≤ k ∧ Hid (wr.ownsRowF w.heap.size 5 1 bv acc.length (byteCells acc) ∧ Below w.heap.size w wr) ∧ Hid ((decP (l.drop k)).map (acc ++ ·) = R)) (fun _ iv _ => l.length - (RowKit.intOf iv).toNat)
  case atStart => exact ⟨0, [], rfl, Nat.zero_le _, Nat.zero_le _, hid ⟨World.ownsRowF_of (World.ownsRow_nil _ _ _ _), Below.refl _ _⟩, HR⟩
  case round =>
    clear HR
    obtain ⟨k, acc, rfl, hk, hak, HX, HK⟩ := hrel
    obtain ⟨bp, bc, rfl⟩ := row_shapeF HX.out.1
    by_cases hkl : k < l.length
    · have hne : l.drop k ≠ [] := fun e => by have := congrArg List.length e; rw [List.length_drop] at this; simp at this; omega
      have hst := HK.out
      rw [decP_step hne] at hst
      have hx := HD.out k
      have hc := HU.out k hkl wr
      have hul := fun b n (h : unitP (l.drop k) = some (b, n)) => unit_len h hne
      rw [List.length_drop] at hul
      obtain ⟨T, hT⟩ : ∃ T, bs (l.drop k) = T := ⟨_, rfl⟩
      rw [hT] at hx hc
      unfold unitV at hc
      cases hu : unitP (l.drop k) with
      | none =>
        rw [hu] at hst hc
        simp only [Option.map_none, Option.getD_none] at hst hc
        subst hst
        have HC := hid hc
        have HBW := hid HX.out.2
        clear hc HU HD HK HX hul hT hne hu HL
        go_wp2_with fail
        refine HC.out.mono ?_
        rintro e W1 ⟨rfl, hb1⟩
        have HZ := hid (HBW.out.trans (hb1.mono HBW.out.size))
        clear hb1 HC HBW
        go_wp2_with fail
        go_ret2
        exact ⟨rfl, HZ.out⟩
      | some x =>
        obtain ⟨b, n⟩ := x
        have hln := hul b n hu
        rw [hu] at hst hc
        simp only [Option.getD_some] at hst hc
        rw [List.drop_drop, Option.map_map] at hst
        have HST := hid (fun (_ : True) => (by rw [← hst]; congr 1; funext t; simp [List.append_assoc] : (decP (l.drop (k + n))).map ((acc ++ b) ++ ·) = R))
        obtain ⟨S, hS⟩ : ∃ S, bs b = S := ⟨_, rfl⟩
        have hSz : S.size = b.length := by rw [← hS, bs_size]
        rw [hS] at hc
        have HC := hid hc
        have HSS := hid hS
        have z1 : ((n : Int) == 0) = false := beq_eq_false_iff_ne.2 (by omega)
        clear hc hst HU HD HK hul hT hne hu HL hS
        go_wp2_with fail
        refine HC.out.mono ?_
        rintro e W1 ⟨rfl, hb1⟩
        have hown : W1.ownsRowF w.heap.size 5 1 (.slice bp acc.length bc) acc.length (byteCells acc) := HX.out.1.kept (row := none) ⟨hb1.os, hb1.tape, hb1.output, hb1.size, fun k hk _ => hb1.block k hk⟩ (by cases (Value.slice bp acc.length bc).ownBlock <;> simp)
        have hbw := HX.out.2.trans (hb1.mono HX.out.2.size)
        have hbs := hbw.size
        clear hb1 HX HC
        go_wp2_with (at_builtin; refine Lib.wpList_append_own_stringF _ rfl _ _ 65 9 rfl w.heap.size 5 i0 Tryz.underlying65 Tryz.underlying9 hi hz0 hz1 hz2 _ _ _ rfl hown S rfl (by unfold maxLen; omega) (by omega) hbs ?_)
        intro v' w2 hown2 hgrow _
        have hZ : w2.ownsRowF w.heap.size 5 1 v' (acc ++ b).length (byteCells (acc ++ b)) := by
          rw [List.length_append, Lib.byteCells_append]
          have : strCells S = byteCells b := by rw [← HSS.out]; exact strCells_byte _
          rw [← this]
          exact hown2
        have hbw2 := hbw.grown hgrow hbs (fun k hk => (hown.lt k hk).1)
        have HZ := hid (And.intro hZ hbw2)
        have hw1 : IntKind.i64.wrap ((k : Int) + (n : Int)) = (k : Int) + (n : Int) := by rw [IntKind.wrap_i64]; omega
        clear hZ hbw2 hown2 hgrow hown hbw
        go_wp2_with fail
        go_roundw
        case rel => exact ⟨k + n, acc ++ b, by go_num, by omega, by rw [List.length_append]; omega, HZ, hid (HST.out trivial)⟩
        case measure => simp [RowKit.intOf]; omega
    · have hr := HK.out
      rw [List.drop_of_length_le (by omega), decP_nil, Option.map_some, List.append_nil] at hr
      subst hr
      have ht := own_textF wr _ _ acc HX.out.1
      have z1 : decide ((k : Int) < (l.length : Int)) = false := decide_eq_false (by omega)
      have z2 : decide (k < l.length) = false := decide_eq_false hkl
      have HZ := hid HX.out.2
      clear HK HU HD HX HL
      go_wp2_with fail
      go_ret2
      exact ⟨rfl, HZ.out⟩
end Go.Proofs.YtcncbhbdpcpkeaaGreatDoor

/-
  The tree's writer closes elements: its walk.
-/
namespace Go.Proofs.YtcncbhbdpcpkeaaGreatDoor
open Go.RowKit Go.Lib Own

theorem TwAt.cut {K : Nat → Array Value → Prop} {w : World} {base b n k c : Nat} {eat : Bool} {acc : List UInt8} {op : List (List UInt8)} {p : Option Addr} (h : TwAt K w base b eat acc op (.slice p n c)) (hk : k ≤ op.length) (hn : n = op.length) : TwAt K (w.setCell ⟨b, 3, none⟩ (.slice p k c)) base b eat acc (op.take k) (.slice p k c) := by
  subst hn
  obtain ⟨q, v, hI⟩ := h.it
  have hj := just_put (j := 3) hI.at_ (.slice p k c) rfl
  have hrow := row_shorter h.row (k := k) (by omega)
  have hneo := row_ne h.row hI.at_ (by decide)
  refine ⟨⟨q, v, ⟨hj.at_, hI.lo, rfl, rfl, hI.hp, hI.own.kept hj.grown (.inr hI.ne), hI.ne⟩⟩, ?_, fun E cs hk => (hj.other E (blk_ne (h.kp E cs hk) hI.at_ (by decide))).trans (h.kp E cs hk)⟩
  rw [List.length_take, Nat.min_eq_left hk, List.map_take]
  have h2 : w.ownsRow base 9 1 (.slice p k c) k ((op.map fun x => Value.string (bs x)).take k) := by
    rw [Nat.mul_one] at hrow
    exact hrow
  exact row_just h2 hI.at_ (by decide) hj.other
theorem closeE_step {c n : Nat} {op : List (List UInt8)} {x : List UInt8} (hx : op[n]? = some x) (hc : c ≤ n) : closeE c (op.take (n + 1)) = .stop x :: closeE c (op.take n) := by
  have hlt := (List.getElem?_eq_some_iff.1 hx).1
  have h1 : (op.take (n + 1)).getLast? = some x := by
    rw [List.getLast?_eq_getElem?, List.length_take, Nat.min_eq_left (by omega), Nat.add_sub_cancel, List.getElem?_take, if_pos (by omega), hx]
  have h2 := (closeE_snoc0 h1 (k := c) (by rw [List.length_take]; omega)).1
  rw [h2, List.dropLast_eq_take, List.length_take, Nat.min_eq_left (by omega), Nat.add_sub_cancel, List.take_take, Nat.min_eq_left (by omega)]
theorem TwAt.cutB {K : Nat → Array Value → Prop} {w0 w : World} {base b n k c : Nat} {eat : Bool} {acc : List UInt8} {op : List (List UInt8)} {p : Option Addr} (h : TwAt K w base b eat acc op (.slice p n c)) (hb : Below w0.heap.size w0 w) (hlo : w0.heap.size ≤ base) : Below w0.heap.size w0 (w.setCell ⟨b, 3, none⟩ (.slice p k c)) := by
  obtain ⟨q, v, hI⟩ := h.it
  exact hb.trans (just_low (just_put (j := 3) hI.at_ (.slice p k c) rfl) (Nat.le_trans hlo hI.lo))
theorem TwAt.free {K : Nat → Array Value → Prop} {w : World} {base b : Nat} {eat : Bool} {acc : List UInt8} {op : List (List UInt8)} {ov : Value} (h : TwAt K w base b eat acc op ov) : w.cell? ⟨b, 3, none⟩ = some ov ∧ w.frozen? ⟨b, 3, none⟩ = false := by
  obtain ⟨q, v, hI⟩ := h.it
  exact ⟨cell_at hI.at_ (j := 3) rfl, free_at hI.at_ 3⟩
theorem closeE_none {c : Nat} {op : List (List UInt8)} (h : op.length ≤ c) : closeE c op = [] := by
  unfold closeE
  rw [List.drop_of_length_le h]
  rfl
/-- what closeTo leaves -/
structure CloseOut (K : Nat → Array Value → Prop) (w0 w' : World) (base b c : Nat) (eat : Bool) (acc : List UInt8) (op : List (List UInt8)) : Prop where
  it : ∃ eat' acc' ov', TwAt K w' base b eat' acc' (op.take c) ov' ∧ (∀ rest, acc ++ wEv eat (closeE c op ++ rest) = acc' ++ wEv eat' rest) ∧ Below w0.heap.size w0 w'
set_option maxHeartbeats 4000000 in
set_option maxRecDepth 100000 in
theorem serClose_any (K : Nat → Array Value → Prop) (w0 : World) (base b c : Nat) (eat : Bool) (acc : List UInt8) (op : List (List UInt8)) (ov : Value) (m : Int) (w : World) (h : TwAt K w base b eat acc op ov) (hb0 : Below w0.heap.size w0 w) (hlo : w0.heap.size ≤ base) (hs : ∀ x ∈ op, x.length ≤ 100000000)
    (hm0 : w0.cell? ⟨4, 0, none⟩ = some (.int .i64 m)) (hal : (acc ++ wEv eat (closeE c op)).length ≤ 100000000000) (hop : op.length ≤ 100000000) (hc : c ≤ 100000000) :
    Calls Tryz.prog 56 #[.pointer (some ⟨b, 0, none⟩), .int .i64 c] w fun r w' => r = .returned (.tuple #[]) ∧ CloseOut K w0 w' base b c eat acc op := by
  obtain ⟨q, v, hI⟩ := h.it
  obtain ⟨p, oc, rfl⟩ := row_shape h.row
  have c3 : w.cell? ⟨b, 3, none⟩ = some (.slice p op.length oc) := cell_at hI.at_ (j := 3) rfl
  have H0 := hid (And.intro h hb0)
  have HS := hid hs
  have HM := hid hm0
  have HAL := hid hal
  have HLO := hid hlo
  have hw0 : IntKind.i64.wrap ((op.length : Int) - 1) = (op.length : Int) - 1 := by rw [IntKind.wrap_i64]; omega
  clear h hb0 hs hm0 hal hI hlo
  go_enter Tryz.func56, Tryz.ntmps56
  go_wp2_with fail
  clear c3 hw0
  go_loopw [4] (fun iv wr => ∃ (k : Nat) (eat' : Bool) (acc' : List UInt8) (ov' : Value), iv = .int .i64 ((k : Int) - 1) ∧ k ≤ op.length ∧ (k = op.length ∨ c ≤ k) ∧ Hid (TwAt K wr base b eat' acc' (op.take k) ov' ∧ Below w0.heap.size w0 wr ∧ ∀ rest, acc ++ wEv eat (closeE c op ++ rest) = acc' ++ wEv eat' (closeE c (op.take k) ++ rest))) (fun iv _ => (RowKit.intOf iv + 1).toNat)
  case atStart => exact ⟨op.length, eat, acc, _, rfl, Nat.le_refl _, .inl rfl, hid ⟨by rw [List.take_length]; exact H0.out.1, H0.out.2, fun rest => by rw [List.take_length]⟩⟩
  case round =>
    clear H0
    obtain ⟨k, eat', acc', ov', rfl, hk, hkc, HX⟩ := hrel
    by_cases hck : c < k
    · obtain ⟨n, rfl⟩ : ∃ n, k = n + 1 := ⟨k - 1, by omega⟩
      obtain ⟨x, hx⟩ : ∃ x, op[n]? = some x := ⟨_, List.getElem?_eq_getElem (by omega)⟩
      have w1 : ((n + 1 : Nat) : Int) - 1 = (n : Int) := by omega
      have w2 : IntKind.i64.wrap ((n : Int) - 1) = (n : Int) - 1 := by rw [IntKind.wrap_i64]; omega
      rw [w1]
      have d1 : decide ((c : Int) ≤ (n : Int)) = true := decide_eq_true (by omega)
      have d2 : decide ((n : Int) ≥ (c : Int)) = true := decide_eq_true (by omega)
      have d3 : decide (c ≤ n) = true := decide_eq_true (by omega)
      have hstep := closeE_step hx (show c ≤ n by omega)
      have hln : (op.take (n + 1)).length = n + 1 := by rw [List.length_take]; omega
      have hxx : (op.take (n + 1))[n]? = some x := by rw [List.getElem?_take, if_pos (by omega), hx]
      obtain ⟨q, v, hI⟩ := HX.out.1.it
      have hrow := HX.out.1.row
      obtain ⟨g, cap, e3, _, _, hcell⟩ := row_at hrow (by omega)
      subst e3
      rw [hln] at hcell
      have k0 := (hcell n (by omega)).trans (show ((op.take (n + 1)).map fun x => Value.string (bs x))[n]? = some (.string (bs x)) by rw [List.getElem?_map, hxx]; rfl)
      have hcap := (row_cap hrow).2
      have c3 : wr.cell? ⟨b, 3, none⟩ = some (.slice (some ⟨g, 0, none⟩) (n + 1) cap) := by
        have := cell_at hI.at_ (j := 3) rfl
        rw [hln] at this
        exact this
      have hxl : x.length ≤ 100000000 := HS.out x (List.mem_of_getElem? hx)
      have hfin := HX.out.2.2
      have hacc : acc'.length ≤ 100000000000 := by
        have h1 := HX.out.2.2 []
        have h2 := HAL.out
        rw [List.append_nil] at h1
        rw [h1, List.length_append] at h2
        omega
      have hta := twTake_any K base b eat' acc' (op.take (n + 1)) _ ⟨2, x, [], []⟩ (.slice none 0 0) m w0 wr.drew (HX.out.1.below (below_drewN (Below.refl _ _) 1)) (AttrsR.nil w0) HX.out.2.1.drew HLO.out (by show x.length + 0 + 0 ≤ _; omega) HM.out hacc
      rw [show takeW eat' ⟨2, x, [], []⟩ = (false, etagL x) from rfl] at hta
      unfold evC at hta
      rw [hln] at hta
      have HT := hid hta
      have HST := hid (And.intro hstep hfin)
      have hz : (⟨#[]⟩ : ByteArray) = bs [] := rfl
      rw [hln] at hcap
      clear hta hstep hfin hacc hxl hcell hrow hI hxx HX hx HAL HS
      simp only [← hz] at HT
      clear hz
      go_wp2_with fail
      go_region_with (go_at_call 32; refine HT.out.mono ?_; rintro r W2 ⟨rfl, h2, hb2⟩)
      all_goals
        have hcut := h2.cut (k := n) (by rw [hln]; omega) hln.symm
        rw [List.take_take, Nat.min_eq_left (by omega)] at hcut
        have hcb := h2.cutB (k := n) hb2 HLO.out
        obtain ⟨c3b, f3b⟩ := h2.free
        have HZ := hid (And.intro hcut (And.intro hcb (fun rest => (by rw [HST.out.2 rest, HST.out.1, List.cons_append, wEv_stop, List.append_assoc] : acc ++ wEv eat (closeE c op ++ rest) = (acc' ++ etagL x) ++ wEv false (closeE c (op.take n) ++ rest)))))
        clear hcut hcb h2 hb2 HST HT c3
        go_wp2_with fail
        go_roundw
        case rel => exact ⟨n, _, _, _, rfl, by omega, .inr (by omega), HZ⟩
        case measure => simp [RowKit.intOf]
    · have d1 : decide ((c : Int) ≤ (k : Int) - 1) = false := decide_eq_false (by omega)
      have d2 : decide ((k : Int) - 1 ≥ (c : Int)) = false := decide_eq_false (by omega)
      have HZ : Hid (CloseOut K w0 wr base b c eat acc op) := hid ⟨_, _, _, by
        have h1 := HX.out.1
        have h2 : op.take c = op.take k := by
          rcases hkc with rfl | hkc
          · rw [List.take_length, List.take_of_length_le (by omega)]
          · rw [show c = k by omega]
        rw [h2]
        exact h1, fun rest => by rw [HX.out.2.2 rest, closeE_none (by rw [List.length_take]; omega), List.nil_append], HX.out.2.1⟩
      clear HX HS HM HAL
      go_wp2_with fail
      go_end0
      exact ⟨rfl, HZ.out⟩
end Go.Proofs.YtcncbhbdpcpkeaaGreatDoor

/-
  The statements' freshNodes: its walk.
-/
namespace Go.Proofs.YtcncbhbdpcpkeaaGreatDoor
open Go.RowKit Go.Lib Own

theorem rows_ne4 {W : World} {B1 B2 : Nat} {e1 e2 : TypeId} {z1 z2 n1 n2 : Nat} {v1 v2 : Value} {xs1 xs2 : List Value} (h1 : W.ownsRow B1 e1 z1 v1 n1 xs1) (h2 : W.ownsRow B2 e2 z2 v2 n2 xs2) (hne : e1 ≠ e2) : v1.ownBlock = none ∨ v1.ownBlock ≠ v2.ownBlock := by
  cases h : v1.ownBlock with
  | none => exact .inl rfl
  | some g => exact .inr (fun e => rows_ne2 h1 h2 hne g h e.symm)
/-- what freshNodes holds on its way -/
structure FrN (w W : World) (base : Nat) (gv : Value) (prs : List (EvP × Value)) (lgv : Value) (i : Nat) : Prop where
  be : Below base w W
  got : MadeN W base gv prs
  lg : W.ownsRow w.heap.size 36 1 lgv i ((prs.map Prod.snd).take i)
  kv : ∀ k, k < w.heap.size → W.heap[k]? = w.heap[k]?
theorem FrN.list {w W w2 : World} {base : Nat} {prs : List (EvP × Value)} {gv lgv lgv2 v : Value} {i : Nat} {X : Obj} (h : FrN w W base gv prs lgv i) (hb : base ≤ w.heap.size) (hv : (prs.map Prod.snd)[i]? = some v)
    (h2 : w2.ownsRow w.heap.size 36 1 lgv2 (i + 1) ((prs.map Prod.snd).take i ++ [v])) (hg : (W.alloc X).grownBy w2 lgv.ownBlock) : FrN w w2 base gv prs lgv2 (i + 1) := by
  have hbs := h.be.size
  have hlg := h.lg.alloc X
  refine ⟨h.be.trans (((Below.refl base W).alloc (by omega) X).grown hg (by simp; omega) (fun k hk => Nat.le_trans hb (hlg.lt k hk).1)), ?_, ?_, fun k hk => (hg.block k (by simp; omega) (fun e => by have := (hlg.lt k e.symm).1; omega)).trans ((alloc_old W X k (by omega)).trans (h.kv k hk))⟩
  · exact h.got.keep (fun v n xs hr => (hr.alloc X).kept hg (rows_ne4 (hr.alloc X) hlg (by decide))) (fun v n xs hr => (hr.alloc X).kept hg (rows_ne4 (hr.alloc X) hlg (by decide)))
  · rw [List.take_add_one, hv]
    exact h2

set_option maxHeartbeats 4000000 in
set_option maxRecDepth 100000 in
theorem freshV_any (base : Nat) (gv dv : Value) (prs : List (EvP × Value)) (a : Option Addr) (mc : Nat) (ss : List ByteArray) (w : World) (hg : MadeN w base gv prs) (hd : EvsR w dv (prs.map Prod.fst))
    (hJ : prs.length ≤ 5000000) (hA : ∀ x ∈ prs, x.1.a.length ≤ 5000000) (hb : base ≤ w.heap.size) (hs : ss.length ≤ 5000000) (hw : WordsAt w base a ss) (hP : PowB base w) :
    Calls Tryz.prog 24 #[gv, dv, .slice a ss.length mc] w fun e w' => e = .returned (.bool true) ∧ Below base w w' ∧ KeepV (prs.map Prod.snd) w w' := by
  have hsame := sameNodesR_any gv dv (prs.map Prod.fst) w hg.evs hd
  obtain ⟨p, c, rfl⟩ := row_shape hg.row
  obtain ⟨dp, dn, dc, rfl⟩ := hd.shape
  obtain ⟨li0, lhi, lhz0, lhz1, lhz2⟩ := info_parts info_list
  have hend : ∀ (lv : Value) (W : World), FrN w W base (.slice p prs.length c) prs lv prs.length → Calls Tryz.prog 62 #[lv, .slice a ss.length mc] W fun e w' => e = .returned (.bool true) ∧ Below base w w' ∧ KeepV (prs.map Prod.snd) w w' := fun lv W h => by
    have hl := h.lg
    have hbs := h.be.size
    rw [List.take_of_length_le (by rw [List.length_map]; exact Nat.le_refl _)] at hl
    have hfam : Fam W base (prs.map Prod.snd) (fun k => (prs[k]?.map fun x => x.1.a.length).getD 0) 0 := ⟨fun k v hk => by
      rw [List.getElem?_map] at hk
      obtain ⟨x, hx, rfl⟩ := Option.map_eq_some_iff.1 hk
      refine ⟨fun h => absurd h (Nat.not_lt_zero _), attrsV x.1.a, ?_⟩
      simp only [hx, Option.map_some, Option.getD_some]
      exact h.got.own k x hx⟩
    have := apartV_any base lv (prs.map Prod.snd) (fun k => (prs[k]?.map fun x => x.1.a.length).getD 0) a mc ss W (by rw [List.length_map]; exact row_lo2 hl hb) hfam h.got.ap (fun k hk => by
      rw [List.length_map] at hk
      simp only [List.getElem?_eq_getElem hk, Option.map_some, Option.getD_some]
      exact hA _ (List.getElem_mem hk)) (by rw [List.length_map]; exact hJ) (by omega) hs (hw.below h.be) (hP.below h.be)
    exact this.mono fun e w' h2 => ⟨h2.1, h.be.trans h2.2.1, fun k hk hne => (h2.2.2.2 k (by omega) hne).trans (h.kv k hk)⟩
  have H0 : ∀ nd, FrN w (w.drewN nd) base (.slice p prs.length c) prs (.slice none 0 0) 0 := fun nd => ⟨below_drewN (Below.refl base w) nd, hg.drewN nd, World.ownsRow_nil _ _ _ _, fun _ _ => rfl⟩
  have HS := hid hsame
  have H0 := hid H0
  have HEND := hid hend
  clear hsame hend hg hd hA hw hP
  go_enter Tryz.func24, Tryz.ntmps24
  go_wp2_with fail
  refine HS.out.mono ?_
  rintro e w1 ⟨rfl, nd, rfl⟩
  go_wp2_with fail
  go_loopw [7, 15] (fun lgv iv wr => ∃ (i : Nat), iv = .int .i64 i ∧ i ≤ prs.length ∧ Hid (FrN w wr base (.slice p prs.length c) prs lgv i)) (fun _ iv _ => prs.length - (RowKit.intOf iv).toNat)
  case atStart => exact ⟨0, rfl, Nat.zero_le _, hid (H0.out nd)⟩
  case round =>
    obtain ⟨i, rfl, hi, HX⟩ := hrel
    obtain ⟨lgp, lgc, rfl⟩ := row_shape HX.out.lg
    by_cases hiN : i < prs.length
    · obtain ⟨x, hx⟩ : ∃ x, prs[i]? = some x := ⟨_, List.getElem?_eq_getElem hiN⟩
      have hv : (prs.map Prod.snd)[i]? = some x.2 := by rw [List.getElem?_map, hx]; rfl
      obtain ⟨xp, xc, hxe⟩ := row_shape (HX.out.got.own i x hx)
      rw [hxe] at hv
      obtain ⟨g, cap, e0, hg1, hg2, hgc⟩ := row_at HX.out.got.row (by omega)
      cases e0
      have hec := (ecells_at prs i x hx).2.2.1
      have hel : i * 4 + 2 < (ecells prs).length := (List.getElem?_eq_some_iff.1 hec).1
      have c2 := (hgc (i * 4 + 2) (by omega)).trans hec
      rw [hxe] at c2
      have hlg := HX.out.lg
      have hbs := HX.out.be.size
      have HV := hid hv
      clear hv hgc hec hel hx hxe H0
      go_wp2_with (at_builtin; refine wpList_append_own _ rfl (.tmp 18) (.tmp 24) 50 rfl w.heap.size 36 li0 (.slice none 0 0) 1 24 Tryz.underlying50 lhi lhz0 lhz1 lhz2 rfl (by decide) _ _ _ rfl (hlg.alloc _) ⟨_, 0, none⟩ 1 1 [.slice xp x.1.a.length xc] rfl rfl (cells_newV _ _ _) (by simp [Value.oneCell']) (by unfold maxLen; omega) (by omega) (by simp; omega) ?_)
      intro v' w2 hown2 hgrow2 _
      have F2 := hid (HX.out.list hb HV.out hown2 hgrow2)
      clear hown2 hgrow2 HX HV hlg
      go_wp2_with fail
      go_roundw
      case rel => first | exact ⟨i + 1, rfl, by omega, F2⟩ | ((repeat apply Exists.intro); exact ⟨⟨i + 1, rfl, by omega, F2⟩, rfl⟩)
      case measure => simp [RowKit.intOf]; omega
    · obtain rfl : i = prs.length := by omega
      have HE := hid (HEND.out _ _ HX.out)
      clear HX HEND H0
      go_wp2_with fail
      refine HE.out.mono ?_
      rintro e w3 ⟨rfl, b3⟩
      have HZ := hid b3
      clear b3 HE
      go_wp2_with fail
      go_ret
      exact ⟨rfl, HZ.out⟩
end Go.Proofs.YtcncbhbdpcpkeaaGreatDoor

/-
  From what a row says of a policy and of words to what lies in memory.
-/
namespace Go.Proofs.YtcncbhbdpcpkeaaGreatDoor
open Go.RowKit Go.Lib Go.ChangeShapes Go.WideShapes Go.Joins Go.Deep Go.ChangeAt

section
variable {H : Type} {enc : TypeId × Value → H} {W : World}

theorem bulk_pos (d : DataW H) : 1 ≤ Rows.uptoBulk d := by
  cases d with
  | lit l => cases l <;> simp [Rows.uptoBulk]
  | _ => simp [Rows.uptoBulk]
theorem bulkAll_mem : ∀ (l : List (DataW H)) (d : DataW H), d ∈ l → Rows.uptoBulk d ≤ Rows.uptoBulkAll l
  | [], d, h => by simp at h
  | x :: r, d, h => by
    simp only [Rows.uptoBulkAll]
    rcases List.mem_cons.1 h with rfl | h1
    · omega
    · have := bulkAll_mem r d h1
      omega
theorem bulkAll_len : ∀ l : List (DataW H), l.length ≤ Rows.uptoBulkAll l
  | [] => by simp
  | x :: r => by
    have h1 := bulkAll_len r
    have h2 := bulk_pos x
    simp only [Rows.uptoBulkAll, List.length_cons]
    omega
theorem add_none (b o : Nat) (n : Nat) : (⟨b, o, none⟩ : Addr).add n = ⟨b, o + n, none⟩ := by unfold Addr.add; split <;> simp_all
theorem add_zero' (a : Addr) : a.add 0 = a := by simp [Addr.add]

/-- a []string that is read -/
theorem words_ofB (B : Nat) {held : Bool} {fuel : Nat} {v : Value} {x : DataW H × List MemPlace} (h : DataW.trod enc Tryz.prog W 0 (fun _ => true) held fuel 41 [v] = some x) (hb : Rows.uptoBulk x.1 ≤ B) :
    ∃ ss, Words W v ss ∧ ss.length ≤ B ∧ ∀ s ∈ ss, s.length ≤ B := by
  rcases open_strings Tryz.underlying41 Tryz.underlying9 (by kernel_rfl) h with ⟨hcs, hx⟩ | ⟨a, len, cap, ss, hcs, _, hl, hm9, hz, hx, hcell, hsz⟩
  · obtain rfl := (List.cons.inj hcs).1
    exact ⟨[], Words.nil W, by simp, fun s hs => by simp at hs⟩
  · obtain rfl := (List.cons.inj hcs).1
    subst hx
    simp only [if_true] at hz
    have hlen : ((ss.take len).map fun s => s.data.toList).length = len := by rw [List.length_map, List.length_take]; omega
    simp only [Rows.uptoBulk] at hb
    have hb1 := bulkAll_len (H := H) (strs (ss.take len))
    have hsl : (strs (H := H) (ss.take len)).length = len := by unfold strs; rw [List.length_map, List.length_take]; omega
    rw [hsl] at hb1
    refine ⟨(ss.take len).map fun s => s.data.toList, ⟨some a, cap, by rw [hlen], by rw [hlen]; exact hl, by unfold maxLen at hm9; omega, fun j s hj => ?_, fun h => by cases h⟩, by omega, fun s hs => ?_⟩
    · have hjl : j < len := by rw [← hlen]; exact (List.getElem?_eq_some_iff.1 hj).1
      rw [List.getElem?_map] at hj
      obtain ⟨s0, hs0, rfl⟩ := Option.map_eq_some_iff.1 hj
      rw [List.getElem?_take_of_lt hjl] at hs0
      have hc0 := hcell 0 (by omega)
      have hc := hcell j (by omega)
      obtain ⟨b, o, sp⟩ := a
      rw [add_zero'] at hc0
      obtain rfl := cell_spot hc0
      rw [add_none] at hc
      refine ⟨b, o, rfl, ?_⟩
      rw [hc, List.getD_eq_getElem?_getD, hs0]
      rfl
    · obtain ⟨s0, hs0, rfl⟩ := List.mem_map.1 hs
      have hm := bulkAll_mem (H := H) (strs (ss.take len)) (.lit (.string s0.data.toList)) (List.mem_map.2 ⟨s0, hs0, rfl⟩)
      simp only [Rows.uptoBulk] at hm
      omega
theorem words_of {held : Bool} {fuel : Nat} {v : Value} {x : DataW H × List MemPlace} (h : DataW.trod enc Tryz.prog W 0 (fun _ => true) held fuel 41 [v] = some x) (hb : Rows.uptoBulk x.1 ≤ 1048576) :
    ∃ ss, Words W v ss ∧ ss.length ≤ 1048576 ∧ ∀ s ∈ ss, s.length ≤ 1048576 := words_ofB 1048576 h hb
end
end Go.Proofs.YtcncbhbdpcpkeaaGreatDoor
