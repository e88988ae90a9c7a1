/-
  The reader's readData, readTextarea, skipRaw, step: their walks.
-/
import Derived.Test.YtolbahmihkdmiaaDoorStepMk
import Derived.Test.YtolbahmihkdmiaaDoorStepC
namespace Go.Proofs.YtolbahmihkdmiaaDoor
open Go.RowKit Go.Lib Own

theorem head_at {L : List UInt8} {pos : Nat} {x : UInt8} (h : L[pos]? = some x) : (L.drop pos).getD 0 0 = x := by
  rw [List.getD_eq_getElem?_getD, List.getElem?_drop, Nat.add_zero, h]
  rfl

set_option maxHeartbeats 4000000 in
set_option maxRecDepth 100000 in
theorem readData_any (base b win : Nat) (data : ByteArray) (pos mode : Nat) (eat : Bool) (evs : List Ev) (pend : List UInt8) (m : Int) (w : World) (H : StepPre base b win data pos ⟨mode, 0, eat⟩ evs pend m w) :
    Calls Tryd.prog 28 #[.pointer (some ⟨b, 0, none⟩)] w fun e w' => StepAt w w' base b win data pos evs pend e (dataRes win ⟨mode, 0, eat⟩ (data.data.toList.drop pos)) := by
  have hp := H.hp
  have hd := H.hd
  obtain ⟨x, hx⟩ : ∃ x, data[pos]'hp = x := ⟨_, rfl⟩
  have hlx := getElem_list hp hx
  have hmk := fun W hW => readMarkup_any base b win data pos mode eat evs pend m W hW
  have href := fun W hW hTW hmW => readRef_any base b win data pos mode eat evs pend m W hW hd hp H.hpl hTW hmW
  have hby := fun W hW => byte_told base b win data pos mode eat evs pend W hW H.hpl hd hp x hlx
  obtain ⟨⟨c0, c1, c2, c3, c4, c5⟩, _, _⟩ := H.h.cells
  unfold dataRes
  rw [head_at hlx]
  have HH := hid H
  have HMK := hid hmk
  have HRF := hid href
  have HBY := hid hby
  clear hmk href hby
  by_cases h60 : x = 60
  · rw [if_pos h60]
    have hl60 : data.data.toList[pos]? = some 60 := by rw [hlx, h60]
    have r1 : ((x.toNat : Int) == 60) = true := by rw [h60]; rfl
    have HL := hid hl60
    clear h60 hl60 hlx HRF HBY H
    go_enter Tryd.func28, Tryd.ntmps28
    go_wp2_with fail
    go_quiet (fail)
    go_wp2_with (go_at_call 48; refine (HMK.out _ (by exact ⟨HH.out.h.drewN nq, HH.out.hd, HH.out.hp, HH.out.hwin, HH.out.hel, HH.out.hpl, HH.out.hT.drewN nq⟩) HL.out).mono ?_; rintro e w3 h3; obtain ⟨c, rfl⟩ := h3.bool)
    go_ret
    exact StepAt.after h3 (below_drewN (Below.refl base w) nq)
  · rw [if_neg h60]
    have r1 : ((x.toNat : Int) == 60) = false := beq_eq_false_iff_ne.2 (fun e => h60 (UInt8.toNat_inj.1 (by simp; omega)))
    by_cases h38 : x = 38
    · rw [if_pos h38]
      have r2 : ((x.toNat : Int) == 38) = true := by rw [h38]; rfl
      clear h60 h38 hlx HMK HBY H
      go_enter Tryd.func28, Tryd.ntmps28
      go_wp2_with fail
      go_quiet (fail)
      go_wp2_with (go_at_call 49; refine (HRF.out _ (by exact HH.out.h.drewN nq) (by exact (HH.out.hT.drewN nq).ch) (by exact HH.out.hT.max)).mono ?_; rintro e w3 h3; obtain ⟨c, rfl⟩ := h3.bool)
      go_ret
      exact StepAt.after h3 (below_drewN (Below.refl base w) nq)
    · rw [if_neg h38]
      have r2 : ((x.toNat : Int) == 38) = false := beq_eq_false_iff_ne.2 (fun e => h38 (UInt8.toNat_inj.1 (by simp; omega)))
      clear h60 h38 hlx HMK HRF H
      go_enter Tryd.func28, Tryd.ntmps28
      go_wp2_with fail
      go_quiet (fail)
      go_wp2_with (go_at_call 24; refine (HBY.out _ (by exact HH.out.h.drewN nq)).mono ?_; rintro e w3 ⟨rfl, h3⟩)
      go_ret
      exact StepAt.after h3 (below_drewN (Below.refl base w) nq)

set_option maxHeartbeats 4000000 in
set_option maxRecDepth 100000 in
theorem readTextarea_any (base b win : Nat) (data : ByteArray) (pos : Nat) (eat : Bool) (evs : List Ev) (pend : List UInt8) (m : Int) (w : World) (H : StepPre base b win data pos ⟨1, 0, eat⟩ evs pend m w) :
    Calls Tryd.prog 29 #[.pointer (some ⟨b, 0, none⟩)] w fun e w' => StepAt w w' base b win data pos evs pend e (areaRes win ⟨1, 0, eat⟩ (data.data.toList.drop pos)) := by
  have hp := H.hp
  have hd := H.hd
  obtain ⟨x, hx⟩ : ∃ x, data[pos]'hp = x := ⟨_, rfl⟩
  have hlx := getElem_list hp hx
  have hown := fun W hW => ownEnd_any b win data pos 1 0 eat W hW (by omega) (by omega) hd (by omega)
  have htg := fun hpk W hW hTW => readTag_any base b win data pos 2 1 eat evs pend m W hW hd (.inr rfl) hpk H.hwin H.hel hTW
  have href := fun W hW hTW hmW => readRef_any base b win data pos 1 eat evs pend m W hW hd hp H.hpl hTW hmW
  have hby := fun W hW => byte_told base b win data pos 1 eat evs pend W hW H.hpl hd hp x hlx
  obtain ⟨⟨c0, c1, c2, c3, c4, c5⟩, _, _⟩ := H.h.cells
  have hw2 : IntKind.i64.wrap ((pos : Int) + 2) = ((pos + 2 : Nat) : Int) := by rw [IntKind.wrap_i64]; omega
  unfold areaRes
  rw [head_at hlx]
  have htwo := own_two (60 :: 47 :: rawL 1) (data.data.toList.drop pos)
  have hll : (data.data.toList.drop pos).length = data.size - pos := by rw [List.length_drop, ← size_eq]
  generalize ownL (60 :: 47 :: rawL 1) (data.data.toList.drop pos) = O at hown htwo ⊢
  have HH := hid H
  have HOW := hid hown
  have HTG := hid htg
  have HRF := hid href
  have HBY := hid hby
  clear htg href hby hown
  by_cases h60 : x = 60
  · rw [if_pos h60]
    have r1 : ((x.toNat : Int) == 60) = true := by rw [h60]; rfl
    have r2 : ((x.toNat : Int) == 38) = false := by rw [h60]; rfl
    rw [h60] at HBY
    clear HRF hlx h60 H
    by_cases h1 : O = 1
    · subst h1
      simp only [if_true]
      clear HTG HBY htwo
      go_enter Tryd.func29, Tryd.ntmps29
      go_wp2_with fail
      go_quiet (fail)
      go_wp2_with (go_at_call 23; refine (HOW.out _ (by exact (HH.out.h.drewN nq).cells.1)).mono ?_; rintro e w3 ⟨rfl, nd, rfl⟩)
      go_ret
      exact ⟨rfl, HH.out.h.drewN _, below_drewN (Below.refl base w) _⟩
    · by_cases h2 : O = 2
      · subst h2
        have hsz : pos + 2 ≤ data.size := by have := htwo rfl; simp only [List.length_cons] at this; omega
        simp only [if_neg h1, if_true]
        clear HBY htwo h1 hll
        have HZ := hid hsz
        clear hsz
        go_enter Tryd.func29, Tryd.ntmps29
        go_wp2_with fail
        go_quiet (fail)
        go_wp2_with (first | (go_at_call 23; refine (HOW.out _ (by exact (HH.out.h.drewN nq).cells.1)).mono ?_; rintro e w3 ⟨rfl, nd, rfl⟩) | (go_at_call 50; refine (HTG.out HZ.out _ (by exact HH.out.h.drewN _) (by exact HH.out.hT.drewN _)).mono ?_; rintro e w4 h4; obtain ⟨c, rfl⟩ := h4.bool))
        go_ret
        exact StepAt.after h4 (below_drewN (Below.refl base w) _)
      · simp only [if_neg h1, if_neg h2]
        have q1 : ((O : Int) == 1) = false := beq_eq_false_iff_ne.2 (by omega)
        have q2 : ((O : Int) == 2) = false := beq_eq_false_iff_ne.2 (by omega)
        clear HTG htwo h1 h2 hll
        go_enter Tryd.func29, Tryd.ntmps29
        go_wp2_with fail
        go_quiet (fail)
        go_wp2_with (first | (go_at_call 23; refine (HOW.out _ (by exact (HH.out.h.drewN nq).cells.1)).mono ?_; rintro e w3 ⟨rfl, nd, rfl⟩) | (go_at_call 24; refine (HBY.out _ (by exact HH.out.h.drewN _)).mono ?_; rintro e w4 ⟨rfl, h4⟩))
        go_ret
        exact StepAt.after h4 (below_drewN (Below.refl base w) _)
  · rw [if_neg h60]
    have r1 : ((x.toNat : Int) == 60) = false := beq_eq_false_iff_ne.2 (fun e => h60 (UInt8.toNat_inj.1 (by simp; omega)))
    clear HOW HTG htwo
    by_cases h38 : x = 38
    · rw [if_pos h38]
      have r2 : ((x.toNat : Int) == 38) = true := by rw [h38]; rfl
      clear h60 h38 hlx HBY H
      go_enter Tryd.func29, Tryd.ntmps29
      go_wp2_with fail
      go_quiet (fail)
      go_wp2_with (go_at_call 49; refine (HRF.out _ (by exact HH.out.h.drewN nq) (by exact (HH.out.hT.drewN nq).ch) (by exact HH.out.hT.max)).mono ?_; rintro e w3 h3; obtain ⟨c, rfl⟩ := h3.bool)
      go_ret
      exact StepAt.after h3 (below_drewN (Below.refl base w) nq)
    · rw [if_neg h38]
      have r2 : ((x.toNat : Int) == 38) = false := beq_eq_false_iff_ne.2 (fun e => h38 (UInt8.toNat_inj.1 (by simp; omega)))
      clear h60 h38 hlx HRF H
      go_enter Tryd.func29, Tryd.ntmps29
      go_wp2_with fail
      go_quiet (fail)
      go_wp2_with (go_at_call 24; refine (HBY.out _ (by exact HH.out.h.drewN nq)).mono ?_; rintro e w3 ⟨rfl, h3⟩)
      go_ret
      exact StepAt.after h3 (below_drewN (Below.refl base w) nq)

set_option maxHeartbeats 4000000 in
set_option maxRecDepth 100000 in
theorem skipRaw_any (base b win : Nat) (data : ByteArray) (pos mode : Nat) (eat : Bool) (evs : List Ev) (pend : List UInt8) (m : Int) (w : World) (H : StepPre base b win data pos ⟨mode, 0, eat⟩ evs pend m w) (hm1 : 2 ≤ mode) (hm2 : mode ≤ 10) :
    Calls Tryd.prog 30 #[.pointer (some ⟨b, 0, none⟩)] w fun e w' => StepAt w w' base b win data pos evs pend e (rawRes win ⟨mode, 0, eat⟩ (data.data.toList.drop pos)) := by
  have hp := H.hp
  have hd := H.hd
  have hll : (data.data.toList.drop pos).length = data.size - pos := by rw [List.length_drop, ← size_eq]
  have hsum : pos + (data.data.toList.drop pos).length = data.size := by omega
  have hlt := byte_append 60 (data.data.toList.drop pos) []
  obtain ⟨t, ht⟩ : ∃ t : ByteArray, data.extract pos data.size = t := ⟨_, rfl⟩
  have htl : t.data.toList = data.data.toList.drop pos := by rw [← ht]; exact extract_to_end data pos
  have hcall := fun W => Tryd.strings_IndexByte t 60 W
  rw [htl, show (60 : Int).toNat.toUInt8 = 60 from rfl, indexByte_idx] at hcall
  obtain ⟨⟨c0, c1, c2, c3, c4, c5⟩, hf, _⟩ := H.h.cells
  have f2 := hf 2
  have HH := hid H
  unfold rawRes
  cases hi : byteIdx 60 (data.data.toList.drop pos) with
  | none =>
    rw [hi] at hcall
    have HC := hid hcall
    simp only
    unfold StepAt
    simp only
    rw [hsum]
    clear hcall hlt hi H hf htl hsum hll
    go_enter Tryd.func30, Tryd.ntmps30
    go_wp2_with fail
    go_quiet (first | (go_at_call 46; refine Calls.quiet_of_same (HC.out _)))
    go_wp2
    go_ret
    exact ⟨rfl, ((HH.out.h.drewN _).setPos _).1, (below_drewN (Below.refl base w) _).trans ((HH.out.h.drewN _).setPos _).2⟩
  | some i =>
    rw [hi] at hcall
    have hil : i < data.size - pos := by
      rcases hlt with ⟨j, h1, h2, -⟩ | ⟨h1, -⟩
      · rw [hi] at h1; cases h1; omega
      · rw [hi] at h1; cases h1
    clear hlt
    have HC := hid hcall
    have hng : ¬ (i : Int) < 0 := by omega
    simp only
    by_cases h10 : mode = 10
    · subst h10
      simp only [if_true]
      unfold StepAt
      simp only
      rw [hsum]
      have q10 : (((10 : Nat) : Int) == 10) = true := rfl
      clear hcall hi H hf htl hsum hll
      go_enter Tryd.func30, Tryd.ntmps30
      go_wp2_with fail
      go_quiet (first | (go_at_call 46; refine Calls.quiet_of_same (HC.out _)))
      go_wp2
      go_ret
      exact ⟨rfl, ((HH.out.h.drewN _).setPos _).1, (below_drewN (Below.refl base w) _).trans ((HH.out.h.drewN _).setPos _).2⟩
    · simp only [if_neg h10]
      have q10 : ((mode : Int) == 10) = false := beq_eq_false_iff_ne.2 (by omega)
      have hdr : (data.data.toList.drop pos).drop i = data.data.toList.drop (pos + i) := by rw [List.drop_drop]
      rw [hdr]
      have htwo := own_two (60 :: 47 :: rawL mode) (data.data.toList.drop (pos + i))
      have hll2 : (data.data.toList.drop (pos + i)).length = data.size - (pos + i) := by rw [List.length_drop, ← size_eq]
      rw [hll2] at htwo
      have hpi : pos + i ≤ data.size := by omega
      have hpi2 : pos + i < data.size := by omega
      have w1 : IntKind.i64.wrap ((pos : Int) + (i : Int)) = ((pos + i : Nat) : Int) := by rw [IntKind.wrap_i64]; omega
      obtain ⟨P, hP⟩ : ∃ P, pos + i = P := ⟨_, rfl⟩
      rw [hP] at htwo w1 hpi hpi2 ⊢
      have w2 : IntKind.i64.wrap ((P : Int) + 2) = ((P + 2 : Nat) : Int) := by rw [IntKind.wrap_i64]; omega
      have w3 : IntKind.i64.wrap ((P : Int) + 1) = ((P + 1 : Nat) : Int) := by rw [IntKind.wrap_i64]; omega
      have hown := fun W hW => ownEnd_any b win data P mode 0 eat W hW (by omega) hm2 hd hpi
      have htg := fun hpk W hW hTW => readTag_any base b win data P 2 mode eat evs pend m W hW hd (.inr rfl) hpk H.hwin H.hel hTW
      generalize hO : ownL (60 :: 47 :: rawL mode) (data.data.toList.drop P) = O at hown htwo ⊢
      have HOW := hid hown
      have HTG := hid htg
      clear hcall hi H hf htl hsum hll hown htg hdr hll2 hO hpi
      by_cases h1 : O = 1
      · subst h1
        simp only [if_true]
        unfold StepAt
        simp only
        rw [hP]
        clear HTG htwo
        go_enter Tryd.func30, Tryd.ntmps30
        go_wp2_with fail
        go_quiet (first | (go_at_call 46; refine Calls.quiet_of_same (HC.out _)))
        go_wp2_with (go_at_call 23; refine (HOW.out _ (by exact ((HH.out.h.drewN nq).setPos _).1.cells.1)).mono ?_; rintro e w3 ⟨rfl, nd, rfl⟩)
        go_ret
        exact ⟨rfl, ((HH.out.h.drewN _).setPos _).1.drewN _, below_drewN ((below_drewN (Below.refl base w) _).trans ((HH.out.h.drewN _).setPos _).2) _⟩
      · by_cases h2 : O = 2
        · subst h2
          have hsz : P + 2 ≤ data.size := by have := htwo rfl; simp only [List.length_cons] at this; omega
          have HZ := hid hsz
          simp only [if_neg h1, if_true]
          clear htwo h1 hsz
          go_enter Tryd.func30, Tryd.ntmps30
          go_wp2_with fail
          go_quiet (first | (go_at_call 46; refine Calls.quiet_of_same (HC.out _)))
          go_wp2_with (first | (go_at_call 23; refine (HOW.out _ (by exact ((HH.out.h.drewN nq).setPos _).1.cells.1)).mono ?_; rintro e w3 ⟨rfl, nd, rfl⟩) | (go_at_call 50; refine (HTG.out HZ.out _ (by exact (((HH.out.h.drewN nq).setPos P).1.drewN nd)) (by exact (((HH.out.hT.drewN nq).below ((HH.out.h.drewN nq).setPos P).2).drewN nd))).mono ?_; rintro e w4 h4; obtain ⟨c, rfl⟩ := h4.bool))
          go_ret
          subst hP
          exact StepAt.shift h4 (below_drewN ((below_drewN (Below.refl base w) _).trans ((HH.out.h.drewN _).setPos _).2) _)
        · simp only [if_neg h1, if_neg h2]
          have q1 : ((O : Int) == 1) = false := beq_eq_false_iff_ne.2 (by omega)
          have q2 : ((O : Int) == 2) = false := beq_eq_false_iff_ne.2 (by omega)
          unfold StepAt
          simp only
          rw [show pos + (i + 1) = P + 1 by omega]
          clear HTG htwo h1 h2
          go_enter Tryd.func30, Tryd.ntmps30
          go_wp2_with fail
          go_quiet (first | (go_at_call 46; refine Calls.quiet_of_same (HC.out _)))
          go_wp2_with (go_at_call 23; refine (HOW.out _ (by exact ((HH.out.h.drewN nq).setPos _).1.cells.1)).mono ?_; rintro e w3 ⟨rfl, nd, rfl⟩)
          go_ret
          have hr := ((HH.out.h.drewN nq).setPos (P : Int)).1.drewN nd
          have hb := below_drewN ((below_drewN (Below.refl base w) nq).trans ((HH.out.h.drewN nq).setPos (P : Int)).2) nd
          exact ⟨rfl, (hr.setPos _).1, hb.trans (hr.setPos _).2⟩

set_option maxHeartbeats 4000000 in
set_option maxRecDepth 100000 in
theorem step_any (base b win : Nat) (data : ByteArray) (pos : Nat) (st : LS) (evs : List Ev) (pend : List UInt8) (m : Int) (w : World) (H : StepPre base b win data pos st evs pend m w) (hs : st.scan ≤ 10) (hm : st.mode ≤ 10) :
    Calls Tryd.prog 18 #[.pointer (some ⟨b, 0, none⟩)] w fun e w' => StepAt w w' base b win data pos evs pend e (stepL win st (data.data.toList.drop pos)) := by
  obtain ⟨mode, scan, eat⟩ := st
  simp only at hs hm
  obtain ⟨⟨c0, c1, c2, c3, c4, c5⟩, _, _⟩ := H.h.cells
  have hd := H.hd
  have hp := H.hp
  simp only at c3 c4 c5
  unfold stepL
  simp only
  by_cases h1 : scan = 1
  · subst h1
    simp only [if_true]
    have hc := skipComment_any base b win data pos mode eat evs pend m w H.h hd (by omega) H.hT.max
    have HC := hid hc
    have q1 : (((1 : Nat) : Int) == 1) = true := rfl
    clear hc H
    go_enter Tryd.func18, Tryd.ntmps18
    go_wp2_with (go_at_call 25; refine HC.out.mono ?_; rintro e w3 h3; obtain ⟨c, rfl⟩ := h3.bool)
    go_ret
    exact h3
  · by_cases h2 : scan = 2
    · subst h2
      simp only [if_neg h1, if_true]
      have hc := skipBogus_any base b win data pos mode eat evs pend w H.h hd (by omega)
      have HC := hid hc
      have q1 : (((2 : Nat) : Int) == 1) = false := rfl
      have q2 : (((2 : Nat) : Int) == 2) = true := rfl
      clear hc H h1
      go_enter Tryd.func18, Tryd.ntmps18
      go_wp2_with (go_at_call 26; refine HC.out.mono ?_; rintro e w3 h3; obtain ⟨c, rfl⟩ := h3.bool)
      go_ret
      exact h3
    · by_cases h0 : scan = 0
      · subst h0
        simp only [if_neg h1, if_neg h2, ne_eq, not_true, if_false]
        have q1 : (((0 : Nat) : Int) == 1) = false := rfl
        have q2 : (((0 : Nat) : Int) == 2) = false := rfl
        have q3 : (((0 : Nat) : Int) != 0) = false := rfl
        by_cases m0 : mode = 0
        · subst m0
          simp only [if_true]
          have hc := readData_any base b win data pos 0 eat evs pend m w H
          have HC := hid hc
          clear hc H h1 h2
          go_enter Tryd.func18, Tryd.ntmps18
          go_wp2_with (go_at_call 28; refine HC.out.mono ?_; rintro e w3 h3; obtain ⟨c, rfl⟩ := h3.bool)
          go_ret
          exact h3
        · by_cases m1 : mode = 1
          · subst m1
            simp only [if_neg m0, if_true]
            have hc := readTextarea_any base b win data pos eat evs pend m w H
            have HC := hid hc
            clear hc H h1 h2 m0
            go_enter Tryd.func18, Tryd.ntmps18
            go_wp2_with (go_at_call 29; refine HC.out.mono ?_; rintro e w3 h3; obtain ⟨c, rfl⟩ := h3.bool)
            go_ret
            exact h3
          · simp only [if_neg m0, if_neg m1]
            have hc := skipRaw_any base b win data pos mode eat evs pend m w H (by omega) hm
            have r0 : ((mode : Int) == 0) = false := beq_eq_false_iff_ne.2 (by omega)
            have r1 : ((mode : Int) == 1) = false := beq_eq_false_iff_ne.2 (by omega)
            have HC := hid hc
            clear hc H h1 h2 m0 m1
            go_enter Tryd.func18, Tryd.ntmps18
            go_wp2_with (go_at_call 30; refine HC.out.mono ?_; rintro e w3 h3; obtain ⟨c, rfl⟩ := h3.bool)
            go_ret
            exact h3
      · simp only [if_neg h1, if_neg h2, ne_eq, h0, not_false_eq_true, if_true]
        have hc := skipTag_any base b win data pos scan mode eat evs pend w H.h H.hT.tag hd (by omega) (by omega)
        have q1 : ((scan : Int) == 1) = false := beq_eq_false_iff_ne.2 (by omega)
        have q2 : ((scan : Int) == 2) = false := beq_eq_false_iff_ne.2 (by omega)
        have q3 : ((scan : Int) != 0) = true := by rw [bne, beq_eq_false_iff_ne.2 (by omega)]; rfl
        have HC := hid hc
        clear hc H h1 h2 h0
        go_enter Tryd.func18, Tryd.ntmps18
        go_wp2_with (go_at_call 27; refine HC.out.mono ?_; rintro e w3 ⟨rfl, h3, b3⟩)
        go_ret
        exact ⟨rfl, h3, b3⟩
end Go.Proofs.YtolbahmihkdmiaaDoor
