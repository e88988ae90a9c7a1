/-
  The reader's readMarkup: its walk.
-/
import Derived.Test.YtolbahmihkdmiaaDoorStepTag
import Derived.Test.YtolbahmihkdmiaaDoorStepRef
namespace Go.Proofs.YtolbahmihkdmiaaDoor
open Go.RowKit Go.Lib Own

/-- what holds ahead of a step -/
structure StepPre (base b win : Nat) (data : ByteArray) (pos : Nat) (st : LS) (evs : List Ev) (pend : List UInt8) (m : Int) (w : World) : Prop where
  h : Rdr w base b win data pos st.mode st.scan st.eat evs pend
  hd : data.size ≤ 10000000
  hp : pos < data.size
  hwin : win ≤ 4096
  hel : evs.length ≤ 8000000
  hpl : pend.length ≤ 40000000
  hT : LexTabs base w m
theorem StepAt.shift {w w1 w' : World} {base b : Nat} {win : Int} {data : ByteArray} {pos i : Nat} {evs : List Ev} {pend : List UInt8} {e : Ending} {R : Res} (h : StepAt w1 w' base b win data (pos + i) evs pend e R) (hb : Below base w w1) : StepAt w w' base b win data pos evs pend e (R.shift i) := by
  cases R with
  | more n st =>
    obtain ⟨h1, h2, h3⟩ := h
    exact ⟨h1, by rw [← Nat.add_assoc]; exact h2, hb.trans h3⟩
  | done n st it =>
    obtain ⟨h1, h2, h3⟩ := h
    exact ⟨h1, by rw [← Nat.add_assoc]; exact h2, hb.trans h3⟩
theorem StepAt.after {w w1 w' : World} {base b : Nat} {win : Int} {data : ByteArray} {pos : Nat} {evs : List Ev} {pend : List UInt8} {e : Ending} {R : Res} (h : StepAt w1 w' base b win data pos evs pend e R) (hb : Below base w w1) : StepAt w w' base b win data pos evs pend e R := by
  have := StepAt.shift (i := 0) h hb
  rwa [shift_zero] at this
theorem StepAt.bool {w w' : World} {base b : Nat} {win : Int} {data : ByteArray} {pos : Nat} {evs : List Ev} {pend : List UInt8} {e : Ending} {R : Res} (h : StepAt w w' base b win data pos evs pend e R) : ∃ c, e = .returned (.bool c) := by
  cases R with
  | more n st => exact ⟨_, h.1⟩
  | done n st it => exact ⟨_, h.1⟩
theorem LexTabs.drewN {base : Nat} {w : World} {m : Int} (h : LexTabs base w m) (n : Nat) : LexTabs base (w.drewN n) m := h.below (below_drewN (Below.refl base w) n)
/-- a byte that is a text unit -/
theorem byte_told (base b : Nat) (win : Int) (data : ByteArray) (pos mode : Nat) (eat : Bool) (evs : List Ev) (pend : List UInt8) (w : World) (h : Rdr w base b win data pos mode 0 eat evs pend) (hlen : pend.length ≤ 40000000) (hd : data.size ≤ 10000000)
    (hp : pos < data.size) (x : UInt8) (hx : data.data.toList[pos]? = some x) :
    Calls Tryd.prog 24 #[.pointer (some ⟨b, 0, none⟩)] w fun e w' => e = .returned (.tuple #[]) ∧ StepAt w w' base b win data pos evs pend (.returned (.bool true)) (byteRes ⟨mode, 0, eat⟩ x) := by
  refine (readByte_any base b win data pos mode 0 eat evs pend w h (by omega) hd hp x hx).mono ?_
  rintro e w' ⟨rfl, h2, h3⟩
  refine ⟨rfl, ?_⟩
  unfold byteRes
  refine ⟨rfl, ?_, h3⟩
  rw [put_unit]
  exact h2

theorem prefix_of (L X : List UInt8) : Lib.hasPrefix L X = decide (X <+: L) := by
  rw [Bool.eq_iff_iff, decide_eq_true_iff]
  exact List.isPrefixOf_iff_prefix

set_option maxHeartbeats 8000000 in
set_option maxRecDepth 100000 in
theorem readMarkup_any (base b win : Nat) (data : ByteArray) (pos mode : Nat) (eat : Bool) (evs : List Ev) (pend : List UInt8) (m : Int) (w : World) (H : StepPre base b win data pos ⟨mode, 0, eat⟩ evs pend m w) (h60 : data.data.toList[pos]? = some 60) :
    Calls Tryd.prog 48 #[.pointer (some ⟨b, 0, none⟩)] w fun e w' => StepAt w w' base b win data pos evs pend e (markupRes win ⟨mode, 0, eat⟩ (data.data.toList.drop pos)) := by
  obtain ⟨h, hd, hp, hwin, hel, hpl, hT⟩ := H
  simp only at h
  obtain ⟨⟨c0, c1, c2, c3, c4, c5⟩, hf, _⟩ := h.cells
  obtain ⟨t, ht⟩ : ∃ t : ByteArray, data.extract pos data.size = t := ⟨_, rfl⟩
  have htl : t.data.toList = data.data.toList.drop pos := by rw [← ht]; exact extract_to_end data pos
  have htz : t.size = data.size - pos := by rw [← ht, ByteArray.size_extract]; omega
  have hL0 : (data.data.toList.drop pos)[0]? = some 60 := by rw [List.getElem?_drop]; exact h60
  have htag := fun k hk hpk W hW hTW => readTag_any base b win data pos k mode eat evs pend m W hW hd hk hpk hwin hel hTW
  have hbyte := fun W hW => byte_told base b win data pos mode eat evs pend W hW hpl hd hp 60 h60
  have hskip := fun q W hW => beginSkip_any base b win data pos mode 0 eat evs pend W hW hd (by omega) q
  rw [← htl] at hL0 htag ⊢
  have hTL : t.toList = t.data.toList := Lib.toList_data t
  have HR := hid h
  have HT := hid hT
  have HTG := hid htag
  have HBY := hid hbyte
  have HSK := hid hskip
  have hw1 : IntKind.i64.wrap ((pos : Int) + 1) = ((pos + 1 : Nat) : Int) := by rw [IntKind.wrap_i64]; omega
  have hw2 : IntKind.i64.wrap ((pos : Int) + 2) = ((pos + 2 : Nat) : Int) := by rw [IntKind.wrap_i64]; omega
  clear htag hbyte hskip h hT hf htl
  by_cases hshort : t.data.toList = [60] ∨ t.data.toList = [60, 47] ∨ t.data.toList = [60, 33] ∨ t.data.toList = [60, 33, 45]
  · have hres : markupRes win ⟨mode, 0, eat⟩ t.data.toList = .more 0 ⟨mode, 0, eat⟩ := by unfold markupRes; rw [if_pos hshort]
    rw [hres]
    clear HTG HBY HSK hres
    have hq : ∀ X : List UInt8, (t.toList == X) = (t.data.toList == X) := fun X => by rw [hTL]
    have q1 := hq [60]
    have q2 := hq [60, 47]
    have q3 := hq [60, 33]
    have q4 := hq [60, 33, 45]
    clear hq hTL
    have hor : (t.toList == [60]) = true ∨ ((t.toList == [60]) = false ∧ (t.toList == [60, 47]) = true) ∨ ((t.toList == [60]) = false ∧ (t.toList == [60, 47]) = false ∧ (t.toList == [60, 33]) = true) ∨ ((t.toList == [60]) = false ∧ (t.toList == [60, 47]) = false ∧ (t.toList == [60, 33]) = false ∧ (t.toList == [60, 33, 45]) = true) := by
      rw [q1, q2, q3, q4]
      rcases hshort with e | e | e | e <;> rw [e] <;> decide
    clear q1 q2 q3 q4 hshort hL0 hw1 hw2
    rcases hor with q1 | ⟨q1, q2⟩ | ⟨q1, q2, q3⟩ | ⟨q1, q2, q3, q4⟩
    all_goals
      go_enter Tryd.func48, Tryd.ntmps48
      go_wp2_with fail
      go_quiet (fail)
      go_wp2
      go_ret
      exact ⟨rfl, HR.out.drewN _, below_drewN (Below.refl base w) _⟩
  · have hsz : 2 ≤ t.size := by
      rw [size_eq]
      rcases hl : t.data.toList with _ | ⟨x, _ | ⟨y, r⟩⟩
      · rw [hl] at hL0; simp at hL0
      · rw [hl] at hL0 hshort
        simp only [List.getElem?_cons_zero, Option.some.injEq] at hL0
        exact absurd (.inl (by rw [hL0])) hshort
      · simp
    have h1s : 1 < t.size := by omega
    obtain ⟨x1, hx1⟩ : ∃ x1, t[1]'h1s = x1 := ⟨_, rfl⟩
    have hl1 := getElem_list h1s hx1
    have hg1 : t.data.toList.getD 1 0 = x1 := by rw [List.getD_eq_getElem?_getD, hl1]; rfl
    have q1 : (t.toList == [60]) = false := by rw [hTL]; exact beq_eq_false_iff_ne.2 (fun e => hshort (.inl e))
    have q2 : (t.toList == [60, 47]) = false := by rw [hTL]; exact beq_eq_false_iff_ne.2 (fun e => hshort (.inr (.inl e)))
    have q3 : (t.toList == [60, 33]) = false := by rw [hTL]; exact beq_eq_false_iff_ne.2 (fun e => hshort (.inr (.inr (.inl e))))
    have q4 : (t.toList == [60, 33, 45]) = false := by rw [hTL]; exact beq_eq_false_iff_ne.2 (fun e => hshort (.inr (.inr (.inr e))))
    have hlt := x1.toNat_lt
    have hlet := fun W => let_any (x1.toNat : Int) (by omega) (by omega) W
    rw [let_C] at hlet
    have hpf := fun W => Tryd.strings_HasPrefix t ⟨#[60, 33, 45, 45]⟩ W
    rw [show (⟨#[60, 33, 45, 45]⟩ : ByteArray).data.toList = [60, 33, 45, 45] from rfl, prefix_of] at hpf
    have hlen3 : x1 = 47 → 2 < t.size := fun e => by
      rw [size_eq]
      rcases hl : t.data.toList with _ | ⟨x, _ | ⟨y, _ | ⟨z, r⟩⟩⟩
      · rw [hl] at hL0; simp at hL0
      · rw [hl] at hl1; simp at hl1
      · rw [hl] at hL0 hl1 hshort
        simp only [List.getElem?_cons_zero, List.getElem?_cons_succ, Option.some.injEq] at hL0 hl1
        exact absurd (.inr (.inl (by rw [hL0, hl1, e]))) hshort
      · simp
    have hpre1 : [60, 33, 45, 45] <+: t.data.toList → x1 = 33 := fun h => by
      obtain ⟨r, hr⟩ := h
      rw [← hr] at hl1
      simpa using hl1.symm
    have HRES : markupRes win ⟨mode, 0, eat⟩ t.data.toList = if letterC x1 = true then tagL win 1 t.data.toList ⟨mode, 0, eat⟩ else if x1 = 47 ∧ letterC (t.data.toList.getD 2 0) = true then tagL win 2 t.data.toList ⟨mode, 0, eat⟩ else if [60, 33, 45, 45] <+: t.data.toList then .done 2 ⟨mode, 1, false⟩ [] else if x1 = 33 ∨ x1 = 63 ∨ x1 = 47 then .done 2 ⟨mode, 2, false⟩ [] else byteRes ⟨mode, 0, eat⟩ 60 := by unfold markupRes; rw [if_neg hshort, hg1]
    rw [HRES]
    clear HRES hg1 hshort hTL hL0
    by_cases hc1 : letterC x1 = true
    · rw [if_pos hc1]
      rw [hc1] at hlet
      clear hc1 hpf hlen3 hpre1 hl1 HBY HSK
      go_enter Tryd.func48, Tryd.ntmps48
      go_wp2_with fail
      go_quiet (fail)
      go_wp2_with (first | (go_at_call 63; refine (hlet _).mono ?_; rintro e w' ⟨rfl, rfl⟩) | (go_at_call 50; refine (HTG.out 1 (.inl rfl) (by omega) _ (by exact HR.out.drewN nq) (by exact HT.out.drewN nq)).mono ?_; rintro e w3 h3; obtain ⟨c, rfl⟩ := h3.bool))
      go_ret
      exact StepAt.after h3 (below_drewN (Below.refl base w) nq)
    · rw [if_neg hc1]
      have hc1F : letterC x1 = false := by simpa using hc1
      have g1 : isLetZ (x1.toNat : Int) = false := (let_C x1).trans hc1F
      rw [hc1F] at hlet
      clear hc1 hc1F
      by_cases h47 : x1 = 47
      · have h2s := hlen3 h47
        obtain ⟨x2, hx2⟩ : ∃ x2, t[2]'h2s = x2 := ⟨_, rfl⟩
        have hl2 := getElem_list h2s hx2
        have hg2 : t.data.toList.getD 2 0 = x2 := by rw [List.getD_eq_getElem?_getD, hl2]; rfl
        have hlt2 := x2.toNat_lt
        have hlet2 := fun W => let_any (x2.toNat : Int) (by omega) (by omega) W
        rw [let_C] at hlet2
        rw [hg2]
        have hnp : ¬ [60, 33, 45, 45] <+: t.data.toList := fun h => by have := hpre1 h; rw [h47] at this; revert this; decide
        rw [decide_eq_false hnp] at hpf
        have r47 : ((x1.toNat : Int) == 47) = true := by rw [h47]; rfl
        have r33 : ((x1.toNat : Int) == 33) = false := by rw [h47]; rfl
        have r63 : ((x1.toNat : Int) == 63) = false := by rw [h47]; rfl
        clear hlen3 hpre1 hl1 hg2 hl2
        by_cases hc2 : letterC x2 = true
        · rw [if_pos ⟨h47, hc2⟩]
          have g2 : isLetZ (x2.toNat : Int) = true := (let_C x2).trans hc2
          clear hc2 hpf hnp HBY HSK h47 hlet hlet2
          go_enter Tryd.func48, Tryd.ntmps48
          go_wp2_with fail
          go_quiet (fail)
          go_wp2_with (first | (go_at_call 63; refine (let_any _ (by omega) (by omega) _).mono ?_; rintro e w' ⟨rfl, rfl⟩) | (go_at_call 50; refine (HTG.out 2 (.inr rfl) (by omega) _ (by exact HR.out.drewN nq) (by exact HT.out.drewN nq)).mono ?_; rintro e w3 h3; obtain ⟨c, rfl⟩ := h3.bool))
          go_ret
          exact StepAt.after h3 (below_drewN (Below.refl base w) nq)
        · rw [if_neg (fun h => hc2 h.2), if_neg hnp, if_pos (.inr (.inr h47))]
          have hc2F : letterC x2 = false := by simpa using hc2
          have g2 : isLetZ (x2.toNat : Int) = false := (let_C x2).trans hc2F
          clear hc2 hc2F hnp HBY HTG h47 hlet hlet2
          go_enter Tryd.func48, Tryd.ntmps48
          go_wp2_with fail
          go_quiet (fail)
          go_wp2_with (first | (go_at_call 63; refine (let_any _ (by omega) (by omega) _).mono ?_; rintro e w' ⟨rfl, rfl⟩) | (go_at_call 53; refine (hpf _).mono ?_; rintro e w' ⟨rfl, rfl⟩) | (go_at_call 64; refine (HSK.out 2 _ (by exact HR.out.drewN nq)).mono ?_; rintro e w3 ⟨rfl, h3, b3⟩))
          go_ret
          exact ⟨rfl, h3, (below_drewN (Below.refl base w) nq).trans b3⟩
      · rw [if_neg (fun h => h47 h.1)]
        have r47 : ((x1.toNat : Int) == 47) = false := beq_eq_false_iff_ne.2 (fun e => h47 (UInt8.toNat_inj.1 (by simp; omega)))
        clear hlen3
        by_cases hp4 : [60, 33, 45, 45] <+: t.data.toList
        · rw [if_pos hp4]
          rw [decide_eq_true hp4] at hpf
          clear hp4 hpre1 hl1 HBY HTG
          go_enter Tryd.func48, Tryd.ntmps48
          go_wp2_with fail
          go_quiet (fail)
          go_wp2_with (first | (go_at_call 63; refine (hlet _).mono ?_; rintro e w' ⟨rfl, rfl⟩) | (go_at_call 53; refine (hpf _).mono ?_; rintro e w' ⟨rfl, rfl⟩) | (go_at_call 64; refine (HSK.out 1 _ (by exact HR.out.drewN nq)).mono ?_; rintro e w3 ⟨rfl, h3, b3⟩))
          go_ret
          exact ⟨rfl, h3, (below_drewN (Below.refl base w) nq).trans b3⟩
        · rw [if_neg hp4]
          rw [decide_eq_false hp4] at hpf
          clear hp4 hpre1 hl1
          have hcase : (((x1.toNat : Int) == 33) = true ∧ (x1 = 33 ∨ x1 = 63 ∨ x1 = 47)) ∨ (((x1.toNat : Int) == 33) = false ∧ ((x1.toNat : Int) == 63) = true ∧ (x1 = 33 ∨ x1 = 63 ∨ x1 = 47)) ∨ (((x1.toNat : Int) == 33) = false ∧ ((x1.toNat : Int) == 63) = false ∧ ¬ (x1 = 33 ∨ x1 = 63 ∨ x1 = 47)) := by
            by_cases h33 : x1 = 33
            · exact .inl ⟨by rw [h33]; rfl, .inl h33⟩
            · have r33 : ((x1.toNat : Int) == 33) = false := beq_eq_false_iff_ne.2 (fun e => h33 (UInt8.toNat_inj.1 (by simp; omega)))
              by_cases h63 : x1 = 63
              · exact .inr (.inl ⟨r33, by rw [h63]; rfl, .inr (.inl h63)⟩)
              · exact .inr (.inr ⟨r33, beq_eq_false_iff_ne.2 (fun e => h63 (UInt8.toNat_inj.1 (by simp; omega))), fun h => h.elim h33 (fun h => h.elim h63 h47)⟩)
          clear h47
          rcases hcase with ⟨r1, hc⟩ | ⟨r1, r2, hc⟩ | ⟨r1, r2, hc⟩
          · rw [if_pos hc]
            clear hc HBY HTG
            go_enter Tryd.func48, Tryd.ntmps48
            go_wp2_with fail
            go_quiet (fail)
            go_wp2_with (first | (go_at_call 63; refine (hlet _).mono ?_; rintro e w' ⟨rfl, rfl⟩) | (go_at_call 53; refine (hpf _).mono ?_; rintro e w' ⟨rfl, rfl⟩) | (go_at_call 64; refine (HSK.out 2 _ (by exact HR.out.drewN nq)).mono ?_; rintro e w3 ⟨rfl, h3, b3⟩))
            go_ret
            exact ⟨rfl, h3, (below_drewN (Below.refl base w) nq).trans b3⟩
          · rw [if_pos hc]
            clear hc HBY HTG
            go_enter Tryd.func48, Tryd.ntmps48
            go_wp2_with fail
            go_quiet (fail)
            go_wp2_with (first | (go_at_call 63; refine (hlet _).mono ?_; rintro e w' ⟨rfl, rfl⟩) | (go_at_call 53; refine (hpf _).mono ?_; rintro e w' ⟨rfl, rfl⟩) | (go_at_call 64; refine (HSK.out 2 _ (by exact HR.out.drewN nq)).mono ?_; rintro e w3 ⟨rfl, h3, b3⟩))
            go_ret
            exact ⟨rfl, h3, (below_drewN (Below.refl base w) nq).trans b3⟩
          · rw [if_neg hc]
            clear hc HSK HTG
            go_enter Tryd.func48, Tryd.ntmps48
            go_wp2_with fail
            go_quiet (fail)
            go_wp2_with (first | (go_at_call 63; refine (hlet _).mono ?_; rintro e w' ⟨rfl, rfl⟩) | (go_at_call 53; refine (hpf _).mono ?_; rintro e w' ⟨rfl, rfl⟩) | (go_at_call 24; refine (HBY.out _ (by exact HR.out.drewN nq)).mono ?_; rintro e w3 ⟨rfl, h3⟩))
            go_ret
            exact StepAt.after h3 (below_drewN (Below.refl base w) nq)
end Go.Proofs.YtolbahmihkdmiaaDoor
