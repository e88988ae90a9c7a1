/-
  Parts of the walk, joined: FtR.
-/
import Derived.Deep.RegionHeld3
import Derived.Test.YtcncbhbdpcpkeaaGreatDoorPJBO
import Derived.Test.YtcncbhbdpcpkeaaGreatDoorPJBL
import Derived.Test.YtcncbhbdpcpkeaaGreatDoorPJAZ
import Derived.Test.YtcncbhbdpcpkeaaGreatDoorPJBD
/-
  The reference's fitsRule: its walk.
-/
namespace Go.Proofs.YtcncbhbdpcpkeaaGreatDoor
open Go.RowKit Go.Lib Own

theorem ruleL_few {P : PolP} (hF : P.Few) {n : List UInt8} {l : List (List UInt8)} (h : ruleL P.rules n = some l) : l.length ≤ 2000000 := by
  have : ∀ rs : List RuleP, (∀ r ∈ rs, r.2.length ≤ 2000000) → ruleL rs n = some l → l.length ≤ 2000000 := by
    intro rs
    induction rs with
    | nil => intro _ h; cases h
    | cons r rs ih =>
      intro ha h
      rw [ruleL_cons] at h
      split at h
      · cases h; exact ha r (List.mem_cons_self ..)
      · exact ih (fun x hx => ha x (List.mem_cons_of_mem _ hx)) h
  exact this _ hF.attrs h
theorem cmpA_step {K al : List AttrP} {k : Nat} {x y : AttrP} (h : K[k]? = some x) (h2 : al[k]? = some y) : cmpA (K.drop k) (al.drop k) = ((x.2 == y.2 && gt x.2) && cmpA (K.drop (k + 1)) (al.drop (k + 1))) := by
  rw [drop_at h, drop_at h2]
  rfl
theorem cmpA_done {K al : List AttrP} {k : Nat} (h : K.length ≤ k) : cmpA (K.drop k) (al.drop k) = true := by
  rw [List.drop_of_length_le h]
  rfl
set_option maxHeartbeats 8000000 in
set_option maxRecDepth 100000 in
theorem fitsRule_any (vr vs vd : Value) (P : PolP) (n : EvP) (u : Value) (w : World) (h : PolR w vr vs vd P) (hF : P.Few) (hu : AttrsR w u n.a) (hs : n.n.length + n.t.length + bulkA n.a ≤ 2000000) :
    Calls Tryz.prog 44 #[.agg (polC vr vs vd P), .agg (evC n u)] w fun e w' => e = .returned (.bool (ruleFits P n)) ∧ Below w.heap.size w w' := by
  obtain ⟨up, uc, rfl⟩ := hu.len
  obtain ⟨r1, r2, r3, rfl⟩ := h.rules.shape
  obtain ⟨s1, s2, s3, rfl⟩ := h.schemes.shape
  obtain ⟨t1, t2, t3, rfl⟩ := h.drop.shape
  obtain ⟨W1, hW1⟩ : ∃ W1, (w.alloc (.cells (polC (.slice r1 r2 r3) (.slice s1 s2 s3) (.slice t1 t2 t3) P) 43)).alloc (.cells (evC n (.slice up n.a.length uc)) 38) = W1 := ⟨_, rfl⟩
  have hb1 : Below w.heap.size w W1 := by rw [← hW1]; exact ((Below.refl w.heap.size w).alloc (Nat.le_refl _) _).alloc (by simp) _
  have n0 : W1.heap[w.heap.size]? = some (.cells (polC (.slice r1 r2 r3) (.slice s1 s2 s3) (.slice t1 t2 t3) P) 43 (0, 0)) := by rw [← hW1]; exact (Go.Lib.alloc_old _ _ _ (by simp)).trans (heap_alloc_new w _)
  have n1 : W1.heap[w.heap.size + 1]? = some (.cells (evC n (.slice up n.a.length uc)) 38 (0, 0)) := by rw [← hW1]; exact heap_two_new w _ _ _
  have hp1 := h.below hb1
  have hu1 := hu.below hb1
  have hro := fun W (hW : Below W1.heap.size W1 W) => ruleOf_any _ _ _ P (bs n.n) W (hp1.below hW)
  have hka := fun W (hW : Below W1.heap.size W1 W) ru listed (hr : Words W ru listed) (hll : listed.length ≤ 100000000) => keptAttrs_any _ _ _ P ru listed (.slice up n.a.length uc) n.a W (hp1.below hW) hF.schemes hr hll (hu1.below hW) (by omega)
  have htf := fun W (hW : Below W1.heap.size W1 W) => tagFits_any ⟨1, n.n, n.a, []⟩ (.slice up n.a.length uc) P.window W rfl (hu1.below hW) (by simp only [List.length_nil]; omega)
  obtain ⟨p0, p1, p2, p3, p4⟩ := polC_at (P := P) n0
  obtain ⟨d0, d1, d2, d3⟩ := evC_at n1
  have HH := hid (And.intro hb1 (And.intro n0 n1))
  rw [bs_toList] at hro
  have HRO := hid hro
  have HKA := hid hka
  have HTF := hid htf
  have HU := hid hu1
  have HS := hid hs
  have hbn : bs ([] : List UInt8) = ⟨#[]⟩ := rfl
  unfold evC at hW1 HTF ⊢
  unfold polC at hW1 HRO HKA ⊢
  simp only [hbn] at HTF
  clear hro hka htf hu1 hp1 hb1 n0 n1 h hu hs hbn
  unfold ruleFits
  cases hrl : ruleL P.rules n.n with
  | none =>
    rw [hrl] at HRO
    simp only
    clear HTF HU HS hrl
    go_enter Tryz.func44, Tryz.ntmps44
    go_wp2_with fail
    clear hW1
    refine (HRO.out _ (Below.refl _ _)).mono ?_
    rintro e W2 ⟨v, rfl, hv, hb2⟩
    obtain rfl : v = .tuple #[.slice none 0 0, .bool false] := hv
    have HK2 := hid (HKA.out W2 hb2 _ [] (Words.nil W2) (by simp))
    have HB2 := hid (And.intro (HH.out.1.trans (hb2.mono HH.out.1.size)) hb2)
    replace p0 := cell_kept p0 hb2
    replace p1 := cell_kept p1 hb2
    replace p2 := cell_kept p2 hb2
    replace p3 := cell_kept p3 hb2
    replace p4 := cell_kept p4 hb2
    replace d2 := cell_kept d2 hb2
    clear hb2 HKA HRO
    go_wp2_with fail
    refine HK2.out.mono ?_
    rintro e W3 ⟨kv, rfl, hrow, hb3⟩
    obtain ⟨kp, kc, rfl⟩ := row_shape hrow
    have HZ := hid (HB2.out.1.trans (hb3.mono HB2.out.1.size))
    clear hb3 hrow HK2 HB2 p0 p1 p2 p3 p4 d2
    go_wp2_with fail
    go_ret
    exact ⟨rfl, HZ.out⟩
  | some l =>
    have hll := ruleL_few hF hrl
    rw [hrl] at HRO
    simp only
    have hcmp := cmpA_kept P.schemes l n.a
    obtain ⟨K, hK⟩ : ∃ K, keptA P.schemes l [] n.a = K := ⟨_, rfl⟩
    rw [hK] at hcmp ⊢
    obtain ⟨R, hR⟩ : ∃ R, (decide (K = n.a) && (n.a.all (fun a => gt a.2) && decide (((openL n.n n.a).length : Int) ≤ P.window))) = R := ⟨_, rfl⟩
    rw [hR]
    have HR := hid hR
    have HKK := hid hK
    have HCM := hid hcmp
    clear hrl hR hK hcmp
    go_enter Tryz.func44, Tryz.ntmps44
    go_wp2_with fail
    clear hW1
    refine (HRO.out _ (Below.refl _ _)).mono ?_
    rintro e W2 ⟨v, rfl, ⟨lv, rfl, hlw⟩, hb2⟩
    have HK2 := hid (HKA.out W2 hb2 _ l (hlw.below hb2) (by omega))
    rw [HKK.out] at HK2
    have HB2 := hid (And.intro (HH.out.1.trans (hb2.mono HH.out.1.size)) hb2)
    replace p0 := cell_kept p0 hb2
    replace p1 := cell_kept p1 hb2
    replace p2 := cell_kept p2 hb2
    replace p3 := cell_kept p3 hb2
    replace p4 := cell_kept p4 hb2
    replace d1 := cell_kept d1 hb2
    replace d2 := cell_kept d2 hb2
    obtain ⟨lp, ln, lc, rfl⟩ := hlw.shape
    clear hb2 HKA HRO hlw hll d0 d3
    go_wp2_with fail
    refine HK2.out.mono ?_
    rintro e W3 ⟨kv, rfl, hrow, hb3⟩
    obtain ⟨kp, kc, rfl⟩ := row_shape hrow
    have HA := hid (attrsR_row hrow)
    have HB3 := hid (And.intro (HB2.out.1.trans (hb3.mono HB2.out.1.size)) (HB2.out.2.trans (hb3.mono HB2.out.2.size)))
    replace p0 := cell_kept p0 hb3
    replace p1 := cell_kept p1 hb3
    replace p2 := cell_kept p2 hb3
    replace p3 := cell_kept p3 hb3
    replace p4 := cell_kept p4 hb3
    replace d1 := cell_kept d1 hb3
    replace d2 := cell_kept d2 hb3
    clear hb3 hrow HK2 HB2 HKK
    by_cases hl : K.length = n.a.length
    · have z0 : ((K.length : Int) != (n.a.length : Int)) = false := by rw [hl]; simp
      have HCP := hid (HCM.out hl)
      have HL := hid hl
      obtain ⟨C, hC⟩ : ∃ C, cmpA K n.a = C := ⟨_, rfl⟩
      have HC : Hid (cmpA (K.drop 0) (n.a.drop 0) = C) := hid hC
      have HCP2 := hid (HCP.out.symm.trans hC)
      have HRC : Hid ((C && decide (((openL n.n n.a).length : Int) ≤ P.window)) = R) := hid (by rw [← HCP2.out, Bool.and_assoc]; exact HR.out)
      clear hl HCM hC HCP HCP2 HR
      go_wp2_with fail
      clear z0
      obtain ⟨kp', kc', ek, hk1, hk2, hkc, _⟩ := HA.out
      cases ek
      obtain ⟨ap', ac', ea, ha1, ha2, hac, _⟩ := HU.out
      cases ea
      have HKC := hid hkc
      have HAC := hid hac
      clear hkc hac HA HU
      go_loopw [8] (fun iv wr => ∃ k : Nat, iv = .int .i64 k ∧ k ≤ K.length ∧ Hid (Below W3.heap.size W3 wr) ∧ Hid (cmpA (K.drop k) (n.a.drop k) = C)) (fun iv _ => K.length - (RowKit.intOf iv).toNat)
      case atStart => exact ⟨0, rfl, Nat.zero_le _, hid (Below.refl _ _), HC⟩
      case round =>
        clear HC
        obtain ⟨k, rfl, hk, HB, HK⟩ := hrel
        replace d2 := cell_kept d2 HB.out
        by_cases hkl : k < K.length
        · obtain ⟨x, hx⟩ : ∃ x, K[k]? = some x := ⟨_, List.getElem?_eq_getElem hkl⟩
          obtain ⟨y, hy⟩ : ∃ y, n.a[k]? = some y := ⟨_, List.getElem?_eq_getElem (by have := HL.out; omega)⟩
          have hka : k < n.a.length := by have := HL.out; omega
          obtain ⟨g, o, rfl, x0, x1⟩ := HKC.out k x hx
          obtain ⟨g2, o2, rfl, y0, y1⟩ := HAC.out k y hy
          replace x1 := cell_kept x1 HB.out
          replace y1 := cell_low y1 (HB3.out.2.trans (HB.out.mono HB3.out.2.size)) (cell_block y1)
          have hst := cmpA_step hx hy
          rw [HK.out] at hst
          have hbl := bulkA_get hy
          have hss := HS.out
          have q1 : ((bs x.2).toList == (bs y.2).toList) = decide (x.2 = y.2) := by rw [bs_toList, bs_toList, Bool.eq_iff_iff, beq_iff_eq, decide_eq_true_iff]
          by_cases he : x.2 = y.2
          · have hgd := fun W => refGoodText_any x.2 W (by rw [he]; omega)
            rw [decide_eq_true he] at q1
            rw [show (x.2 == y.2) = true from beq_iff_eq.2 he, Bool.true_and] at hst
            generalize gt x.2 = GX at hst hgd
            generalize bs x.2 = BX at x1 q1 hgd
            generalize bs y.2 = BY at y1 q1
            have HST := hid hst
            have HGD := hid hgd
            have HB0 := HB
            clear hx hy hst hgd hbl hss he x0 y0 HK HKC HAC
            go_wp2_with fail
            go_region_held3 (fun w' => w'.cell? ⟨w.heap.size + 1, 2, none⟩ = some (.slice (some ⟨g2, o2, none⟩) n.a.length uc) ∧ w'.cell? ⟨g, o + k * 2 + 1, none⟩ = some (.string BX) ∧ w'.cell? ⟨g2, o2 + k * 2 + 1, none⟩ = some (.string BY)) (go_keep) (first | (go_at_call 41; refine (HGD.out _).mono ?_; rintro e W6 ⟨rfl, hb6⟩; have HB6 := hid ((below_drewN (Below.refl wr.heap.size wr) 1).trans (hb6.mono (by simp))); have g0 := cell_kept d2 HB6.out; have g1 := cell_kept x1 HB6.out; have g2' := cell_kept y1 HB6.out; clear hb6))
            have HW6 := hid (HB0.out.trans (HB6.out.mono HB0.out.size))
            have HZ6 := hid (HB3.out.1.trans (HW6.out.mono HB3.out.1.size))
            clear g0 g1 g2' x1 y1 d1 d2 q1 HB HGD
            cases GX with
            | false =>
              have hr := HST.out
              rw [Bool.false_and] at hr
              subst hr
              have hr2 := HRC.out
              rw [Bool.false_and] at hr2
              subst hr2
              go_wp2_with fail
              go_ret
              exact ⟨rfl, HZ6.out⟩
            | true =>
              have HN := hid ((Bool.true_and _).symm.trans HST.out.symm)
              go_wp2_with fail
              go_roundw
              case rel => exact ⟨k + 1, rfl, by omega, HW6, HN⟩
              case measure => simp [RowKit.intOf]; omega
          · rw [decide_eq_false he] at q1
            rw [show (x.2 == y.2) = false from beq_eq_false_iff_ne.2 he, Bool.false_and, Bool.false_and] at hst
            subst hst
            have hr2 := HRC.out
            rw [Bool.false_and] at hr2
            subst hr2
            have HZ := hid (HB3.out.1.trans (HB.out.mono HB3.out.1.size))
            generalize bs x.2 = BX at x1 q1
            generalize bs y.2 = BY at y1 q1
            clear hx hy hbl hss he x0 y0 HK HKC HAC
            go_wp2_with fail
            go_quiet (fail)
            go_wp2_with fail
            go_ret
            exact ⟨rfl, below_drewN HZ.out nq⟩
        · have hr := HK.out
          rw [cmpA_done (by omega)] at hr
          subst hr
          have hr2 := HRC.out
          rw [Bool.true_and] at hr2
          subst hr2
          have HT6 := hid (HTF.out wr (HB3.out.2.trans (HB.out.mono HB3.out.2.size)))
          have HZ := hid (HB3.out.1.trans (HB.out.mono HB3.out.1.size))
          replace d1 := cell_kept d1 HB.out
          replace p0 := cell_kept p0 HB.out
          replace p4 := cell_kept p4 HB.out
          clear HK HKC HAC HB HTF
          go_wp2_with fail
          refine HT6.out.mono ?_
          rintro e W6 ⟨rfl, hb6⟩
          have HZ6 := hid (HZ.out.trans (hb6.mono HZ.out.size))
          clear hb6
          go_wp2_with fail
          go_ret
          exact ⟨rfl, HZ6.out⟩
    · have e1 : decide (K = n.a) = false := decide_eq_false (fun e => hl (by rw [e]))
      have hr := HR.out
      rw [e1, Bool.false_and] at hr
      subst hr
      have z0 : ((K.length : Int) != (n.a.length : Int)) = true := by rw [bne_iff_ne]; omega
      clear hl HCM e1 HR HA
      go_wp2_with fail
      go_ret
      exact ⟨rfl, HB3.out.1⟩
end Go.Proofs.YtcncbhbdpcpkeaaGreatDoor
