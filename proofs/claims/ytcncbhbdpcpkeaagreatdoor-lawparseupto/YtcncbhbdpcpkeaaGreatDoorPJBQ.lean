/-
  Parts of the walk, joined: RpJ.
-/
import Derived.Test.YtcncbhbdpcpkeaaGreatDoorPJBP
/-
  The reference's startVerdict: its walk (written by tools/genstart.py).
-/
namespace Go.Proofs.YtcncbhbdpcpkeaaGreatDoor
open Go.RowKit Go.Lib Own

theorem walls2N (W : World) (n : Nat) (h : W.heap.size = n) : Words (W.alloc (.cells #[.string ⟨#[116, 100]⟩, .string ⟨#[116, 104]⟩] 9)) (.slice (some ⟨n, 0, none⟩) 2 2) tdTh := by
  subst h
  exact walls2 W
set_option maxHeartbeats 32000000 in
set_option maxRecDepth 100000 in
theorem startV_any (ov : Value) (op : List (List UInt8)) (x : List UInt8) (w : World) (h : Words w ov op) (hfw : op.length ≤ 900000) (hop : modI op ≠ 3 → OpenP op) :
    Calls Tryz.prog 117 #[ov, .string (bs x)] w fun e w' => e = .returned (.int .i64 (judgeP op x : Nat)) ∧ Below w.heap.size w w' := by
  have hW := h
  obtain ⟨p, c, rfl, hlc, hcm, hcell, _⟩ := h
  have htv := tabVerdict_any _ op x w hW (by omega)
  have hcl := fun W => classOf_any (bs x) W
  rw [bs_toList] at hcl
  have hia := fun (h3 : modI op ≠ 3) => refItem_any _ op w hW (by omega) (hop h3)
  have hpn := fun W wv (hw : Words W (.slice p op.length c) op) (hv : Words W wv tabTdTh) => reaches_any _ op pN wv tabTdTh W hw hv (by omega) (by decide)
  have han := fun W wv (hw : Words W (.slice p op.length c) op) (hv : Words W wv tdTh) => reaches_any _ op aN wv tdTh W hw hv (by omega) (by decide)
  rw [show bs pN = ⟨#[112]⟩ from rfl] at hpn
  rw [show bs aN = ⟨#[97]⟩ from rfl] at han
  have hhx := fun W => refHead_any x W
  have hhi := fun W => refHead_any (op.getLast?.getD []) W
  have hmi : (modI op == 3) = decide (op.getLast?.getD [] = areaN) := by
    have e : modI op = modX (op.getLast?.getD []) := by
      unfold modI
      cases op.getLast? with
      | none => exact mod_nil.symm
      | some x => rfl
    rw [e, Bool.eq_iff_iff, beq_iff_eq, decide_eq_true_iff]
    exact (area_mod _).symm
  have hta : ((bs (op.getLast?.getD [])).toList == [116, 101, 120, 116, 97, 114, 101, 97]) = (modI op == 3) := by rw [hmi, bs_toList, Bool.eq_iff_iff, beq_iff_eq, decide_eq_true_iff]; rfl
  have hcn : ((bs (classW (classL x))).toList == []) = decide (elemL x = none) := by rw [bs_toList, Bool.eq_iff_iff, beq_iff_eq, decide_eq_true_iff]; exact class_none x
  have hcf : ((bs (classW (classL x))).toList == [102, 108, 111, 119]) = decide (clsX x = 1) := by rw [bs_toList, Bool.eq_iff_iff, beq_iff_eq, decide_eq_true_iff]; exact flow_cls x
  have hxl : elemL x ≠ none → ((bs x).toList == [108, 105]) = decide (clsX x = 4) := fun hk => by rw [bs_toList, Bool.eq_iff_iff, beq_iff_eq, decide_eq_true_iff]; exact (li_cls x hk).symm
  have hxa : ((bs x).toList == [97]) = decide (x = aN) := by rw [bs_toList, Bool.eq_iff_iff, beq_iff_eq, decide_eq_true_iff]; rfl
  have hx14 : decide (clsX x = 4) = true → decide (clsX x = 1) = true → False := fun h1 h2 => by have := of_decide_eq_true h1; have := of_decide_eq_true h2; omega
  -- the innermost's name as the walk reads it
  have hI : (op.length = 0 ∧ bs (op.getLast?.getD []) = ⟨#[]⟩) ∨ ∃ n b o, op.length = n + 1 ∧ p = some (⟨b, o, none⟩ : Addr) ∧ w.cell? ⟨b, o + n, none⟩ = some (.string (bs (op.getLast?.getD []))) := by
    by_cases h0 : op = []
    · subst h0; exact .inl ⟨rfl, rfl⟩
    · have hl : 0 < op.length := List.length_pos_iff.2 h0
      obtain ⟨y, hy⟩ : ∃ y, op[op.length - 1]? = some y := ⟨_, List.getElem?_eq_getElem (by omega)⟩
      obtain ⟨b, o, hp, hc⟩ := hcell _ y hy
      exact .inr ⟨op.length - 1, b, o, by omega, hp, by rw [List.getLast?_eq_getElem?, hy]; exact hc⟩
  have HJ1 := hid (fun (_ : True) => @judge_in op x)
  have HJ3 := hid (fun (_ : True) => @judge_un op x)
  have HJ4 := hid (fun (_ : True) => @judge_deep op x)
  have HJV := hid (fun (_ : True) => @judge_tv op x)
  have HOB := hid (fun (_ : True) => judgeO_B op x)
  have hmd : (modI op == 3) = false → modI op ≠ 3 := beq_eq_false_iff_ne.1
  generalize tvZ (innT op) (tableX x) (tableX x && decide (modX x ≠ 5)) (clsX x) = Z at htv HJV
  generalize decide (x = aN) = AX at hxa HOB
  generalize headX x = HXX at hhx HOB
  generalize headX (op.getLast?.getD []) = HII at hhi HOB
  generalize itemR op.reverse = IN at hia HOB
  generalize nearR pN tabTdTh op.reverse = PN at hpn HOB
  generalize nearR aN tdTh op.reverse = AN at han HOB
  generalize decide (clsX x = 1) = T1 at hcf hx14 HOB
  generalize decide (clsX x = 4) = T4 at hxl hx14 HOB
  generalize bs (op.getLast?.getD []) = IB at hhi hta hI
  generalize bs (classW (classL x)) = CW at hcl hcn hcf
  generalize bs x = BX at htv hcl hhx hxl hxa ⊢
  generalize judgeP op x = JP at HJ1 HJ3 HJ4 HJV ⊢
  generalize judgeO op x = JO at HJV HOB
  have HTV := hid htv
  have HCL := hid hcl
  have HIA := hid hia
  have HPN := hid hpn
  have HAN := hid han
  have HHX := hid hhx
  have HHI := hid hhi
  have HWW := hid hW
  clear htv hcl hia hpn han hhx hhi hW hcell hmi hop hlc
  rcases hI with ⟨hn, rfl⟩ | ⟨n, b, o, hn, rfl, hcI⟩
  case' inl =>
    have g1 : decide ((op.length : Int) > 0) = false := decide_eq_false (by omega)
    have g2 : decide ((0 : Int) < (op.length : Int)) = false := decide_eq_false (by omega)
    have g3 : decide (0 < op.length) = false := decide_eq_false (by omega)
    clear hn
  case' inr =>
    have g1 : decide ((op.length : Int) > 0) = true := decide_eq_true (by omega)
    have g2 : decide ((0 : Int) < (op.length : Int)) = true := decide_eq_true (by omega)
    have g3 : decide (0 < op.length) = true := decide_eq_true (by omega)
    have wn : IntKind.i64.wrap ((op.length : Int) - 1) = (n : Int) := by rw [IntKind.wrap_i64]; omega
    have hln : n < op.length := by omega
    clear hn
  all_goals
    cases hm : (modI op == 3) with
    | true =>
      rw [hm] at hta
      have hr := HJ1.out trivial hm
      subst hr
      clear HJ1 HJ3 HJ4 HJV HOB hmd
      first
        | (exact absurd hta (by rw [show (⟨#[]⟩ : ByteArray).toList = [] from bs_toList []]; decide))
        | (go_enter Tryz.func117, Tryz.ntmps117; go_wp2_with fail; go_ret; exact ⟨rfl, Below.refl _ _⟩)
    | false =>
      rw [hm] at hta
      by_cases hk : elemL x = none
      · rw [decide_eq_true hk] at hcn
        have hr := HJ3.out trivial hm hk
        subst hr
        clear HJ1 HJ3 HJ4 HJV HOB hmd hxl hk
        go_enter Tryz.func117, Tryz.ntmps117
        go_wp2_with fail
        refine (HCL.out _).mono ?_
        rintro e W' ⟨rfl, rfl⟩
        go_wp2_with fail
        go_ret
        exact ⟨rfl, Below.refl _ _⟩
      · rw [decide_eq_false hk] at hcn
        have hli := hxl hk
        by_cases hd : 256 ≤ op.length
        · have hr := HJ4.out trivial hm hk hd
          subst hr
          have d1 : decide ((op.length : Int) ≥ 256) = true := decide_eq_true (by omega)
          have d2 : decide ((256 : Int) ≤ (op.length : Int)) = true := decide_eq_true (by omega)
          have d3 : decide (256 ≤ op.length) = true := decide_eq_true hd
          try rw [hn] at d1 d2 d3
          clear HJ1 HJ3 HJ4 HJV HOB hmd hxl hk hd
          go_enter Tryz.func117, Tryz.ntmps117
          go_wp2_with fail
          refine (HCL.out _).mono ?_
          rintro e W' ⟨rfl, rfl⟩
          go_wp2_with fail
          go_ret
          exact ⟨rfl, Below.refl _ _⟩
        · have hjv := HJV.out trivial hm hk hd
          have d1 : decide ((op.length : Int) ≥ 256) = false := decide_eq_false (by omega)
          have d2 : decide ((256 : Int) ≤ (op.length : Int)) = false := decide_eq_false (by omega)
          have d3 : decide (256 ≤ op.length) = false := decide_eq_false hd
          try rw [hn] at d1 d2 d3
          clear HJ1 HJ3 HJ4 HJV hxl hk hd
          by_cases hz : 0 ≤ Z
          · rw [if_pos hz] at hjv
            have hzz : Z = (JP : Int) := by omega
            subst hzz
            have z1 : decide ((0 : Int) ≤ (JP : Int)) = true := decide_eq_true (by omega)
            have z2 : decide ((JP : Int) ≥ 0) = true := decide_eq_true (by omega)
            clear hjv hz HOB
            go_enter Tryz.func117, Tryz.ntmps117
            go_wp2_with fail
            refine (HCL.out _).mono ?_
            rintro e W' ⟨rfl, rfl⟩
            go_wp2_with fail
            refine (HTV.out).mono ?_
            rintro e W' ⟨rfl, rfl⟩
            go_wp2_with fail
            go_ret
            exact ⟨rfl, Below.refl _ _⟩
          · rw [if_neg hz] at hjv
            have z1 : decide ((0 : Int) ≤ Z) = false := decide_eq_false hz
            have z2 : decide (Z ≥ 0) = false := decide_eq_false hz
            clear hz
            have HW1 := hid (fun (X : Obj) => HWW.out.below ((Below.refl w.heap.size w).alloc (Nat.le_refl _) X))
            have HW2 := hid (fun (X Y : Obj) => (HWW.out.below ((Below.refl w.heap.size w).alloc (Nat.le_refl _) X)).below ((Below.refl _ _).alloc (Nat.le_refl _) Y))
            go_enter Tryz.func117, Tryz.ntmps117
            go_wp2_with fail
            refine (HCL.out _).mono ?_
            rintro e W' ⟨rfl, rfl⟩
            go_wp2_with fail
            refine (HTV.out).mono ?_
            rintro e W' ⟨rfl, rfl⟩
            cases T4 with
            | true =>
              obtain rfl : T1 = false := by cases T1 with | false => rfl | true => exact (hx14 rfl rfl).elim
              go_wp2_with fail
              refine (HIA.out (hmd hm)).mono ?_
              rintro e W' ⟨rfl, rfl⟩
              cases IN with
              | true =>
                have hr := HOB.out trivial
                rw [judge_i] at hr
                rw [hr] at hjv
                subst hjv
                clear HOB hr
                go_wp2_with fail
                go_ret
                exact ⟨rfl, Below.refl _ _⟩
              | false =>
                go_wp2_with fail
                refine (HCL.out _).mono ?_
                rintro e W' ⟨rfl, rfl⟩
                go_wp2_with fail
                refine (HPN.out _ _ (HW1.out _) (walls3 _)).mono ?_
                rintro e W' ⟨rfl, rfl⟩
                cases PN with
                | true =>
                  have hr := HOB.out trivial
                  rw [judge_p (.inr rfl) (.inl rfl)] at hr
                  rw [hr] at hjv
                  subst hjv
                  clear HOB hr
                  go_wp2_with fail
                  go_ret
                  exact ⟨rfl, (Below.refl _ _).alloc (Nat.le_refl _) _⟩
                | false =>
                  go_wp2_with fail
                  refine (HHX.out _).mono ?_
                  rintro e W' ⟨rfl, rfl⟩
                  cases HXX with
                  | true =>
                    go_wp2_with fail
                    refine (HHI.out _).mono ?_
                    rintro e W' ⟨rfl, rfl⟩
                    cases HII with
                    | true =>
                      have hr := HOB.out trivial
                      rw [judge_h ⟨.inr rfl, .inr rfl⟩] at hr
                      rw [hr] at hjv
                      subst hjv
                      clear HOB hr
                      go_wp2_with fail
                      go_ret
                      exact ⟨rfl, (Below.refl _ _).alloc (Nat.le_refl _) _⟩
                    | false =>
                      cases AX with
                      | true =>
                        go_wp2_with fail
                        refine (HAN.out _ _ (HW2.out _ _) (walls2N _ _ (by simp))).mono ?_
                        rintro e W' ⟨rfl, rfl⟩
                        cases AN with
                        | true =>
                          have hr := HOB.out trivial
                          rw [judge_a ⟨.inr rfl, .inr rfl⟩ (.inr rfl)] at hr
                          rw [hr] at hjv
                          subst hjv
                          clear HOB hr
                          go_wp2_with fail
                          go_ret
                          exact ⟨rfl, ((Below.refl _ _).alloc (Nat.le_refl _) _).alloc (by simp) _⟩
                        | false =>
                          have hr := HOB.out trivial
                          rw [judge_end ⟨.inr rfl, .inr rfl⟩ (.inr rfl) (.inr rfl)] at hr
                          rw [hr] at hjv
                          subst hjv
                          clear HOB hr
                          go_wp2_with fail
                          go_ret
                          exact ⟨rfl, ((Below.refl _ _).alloc (Nat.le_refl _) _).alloc (by simp) _⟩
                      | false =>
                        have hr := HOB.out trivial
                        rw [judge_end ⟨.inr rfl, .inr rfl⟩ (.inr rfl) (.inl rfl)] at hr
                        rw [hr] at hjv
                        subst hjv
                        clear HOB hr
                        go_wp2_with fail
                        go_ret
                        exact ⟨rfl, (Below.refl _ _).alloc (Nat.le_refl _) _⟩
                  | false =>
                    cases AX with
                    | true =>
                      go_wp2_with fail
                      refine (HAN.out _ _ (HW2.out _ _) (walls2N _ _ (by simp))).mono ?_
                      rintro e W' ⟨rfl, rfl⟩
                      cases AN with
                      | true =>
                        have hr := HOB.out trivial
                        rw [judge_a ⟨.inr rfl, .inr rfl⟩ (.inl rfl)] at hr
                        rw [hr] at hjv
                        subst hjv
                        clear HOB hr
                        go_wp2_with fail
                        go_ret
                        exact ⟨rfl, ((Below.refl _ _).alloc (Nat.le_refl _) _).alloc (by simp) _⟩
                      | false =>
                        have hr := HOB.out trivial
                        rw [judge_end ⟨.inr rfl, .inr rfl⟩ (.inl rfl) (.inr rfl)] at hr
                        rw [hr] at hjv
                        subst hjv
                        clear HOB hr
                        go_wp2_with fail
                        go_ret
                        exact ⟨rfl, ((Below.refl _ _).alloc (Nat.le_refl _) _).alloc (by simp) _⟩
                    | false =>
                      have hr := HOB.out trivial
                      rw [judge_end ⟨.inr rfl, .inr rfl⟩ (.inl rfl) (.inl rfl)] at hr
                      rw [hr] at hjv
                      subst hjv
                      clear HOB hr
                      go_wp2_with fail
                      go_ret
                      exact ⟨rfl, (Below.refl _ _).alloc (Nat.le_refl _) _⟩
            | false =>
              go_wp2_with fail
              refine (HCL.out _).mono ?_
              rintro e W' ⟨rfl, rfl⟩
              cases T1 with
              | true =>
                go_wp2_with fail
                refine (HPN.out _ _ (HW1.out _) (walls3 _)).mono ?_
                rintro e W' ⟨rfl, rfl⟩
                cases PN with
                | true =>
                  have hr := HOB.out trivial
                  rw [judge_p (.inl rfl) (.inr rfl)] at hr
                  rw [hr] at hjv
                  subst hjv
                  clear HOB hr
                  go_wp2_with fail
                  go_ret
                  exact ⟨rfl, (Below.refl _ _).alloc (Nat.le_refl _) _⟩
                | false =>
                  go_wp2_with fail
                  refine (HHX.out _).mono ?_
                  rintro e W' ⟨rfl, rfl⟩
                  cases HXX with
                  | true =>
                    go_wp2_with fail
                    refine (HHI.out _).mono ?_
                    rintro e W' ⟨rfl, rfl⟩
                    cases HII with
                    | true =>
                      have hr := HOB.out trivial
                      rw [judge_h ⟨.inl rfl, .inr rfl⟩] at hr
                      rw [hr] at hjv
                      subst hjv
                      clear HOB hr
                      go_wp2_with fail
                      go_ret
                      exact ⟨rfl, (Below.refl _ _).alloc (Nat.le_refl _) _⟩
                    | false =>
                      cases AX with
                      | true =>
                        go_wp2_with fail
                        refine (HAN.out _ _ (HW2.out _ _) (walls2N _ _ (by simp))).mono ?_
                        rintro e W' ⟨rfl, rfl⟩
                        cases AN with
                        | true =>
                          have hr := HOB.out trivial
                          rw [judge_a ⟨.inl rfl, .inr rfl⟩ (.inr rfl)] at hr
                          rw [hr] at hjv
                          subst hjv
                          clear HOB hr
                          go_wp2_with fail
                          go_ret
                          exact ⟨rfl, ((Below.refl _ _).alloc (Nat.le_refl _) _).alloc (by simp) _⟩
                        | false =>
                          have hr := HOB.out trivial
                          rw [judge_end ⟨.inl rfl, .inr rfl⟩ (.inr rfl) (.inr rfl)] at hr
                          rw [hr] at hjv
                          subst hjv
                          clear HOB hr
                          go_wp2_with fail
                          go_ret
                          exact ⟨rfl, ((Below.refl _ _).alloc (Nat.le_refl _) _).alloc (by simp) _⟩
                      | false =>
                        have hr := HOB.out trivial
                        rw [judge_end ⟨.inl rfl, .inr rfl⟩ (.inr rfl) (.inl rfl)] at hr
                        rw [hr] at hjv
                        subst hjv
                        clear HOB hr
                        go_wp2_with fail
                        go_ret
                        exact ⟨rfl, (Below.refl _ _).alloc (Nat.le_refl _) _⟩
                  | false =>
                    cases AX with
                    | true =>
                      go_wp2_with fail
                      refine (HAN.out _ _ (HW2.out _ _) (walls2N _ _ (by simp))).mono ?_
                      rintro e W' ⟨rfl, rfl⟩
                      cases AN with
                      | true =>
                        have hr := HOB.out trivial
                        rw [judge_a ⟨.inl rfl, .inr rfl⟩ (.inl rfl)] at hr
                        rw [hr] at hjv
                        subst hjv
                        clear HOB hr
                        go_wp2_with fail
                        go_ret
                        exact ⟨rfl, ((Below.refl _ _).alloc (Nat.le_refl _) _).alloc (by simp) _⟩
                      | false =>
                        have hr := HOB.out trivial
                        rw [judge_end ⟨.inl rfl, .inr rfl⟩ (.inl rfl) (.inr rfl)] at hr
                        rw [hr] at hjv
                        subst hjv
                        clear HOB hr
                        go_wp2_with fail
                        go_ret
                        exact ⟨rfl, ((Below.refl _ _).alloc (Nat.le_refl _) _).alloc (by simp) _⟩
                    | false =>
                      have hr := HOB.out trivial
                      rw [judge_end ⟨.inl rfl, .inr rfl⟩ (.inl rfl) (.inl rfl)] at hr
                      rw [hr] at hjv
                      subst hjv
                      clear HOB hr
                      go_wp2_with fail
                      go_ret
                      exact ⟨rfl, (Below.refl _ _).alloc (Nat.le_refl _) _⟩
              | false =>
                go_wp2_with fail
                refine (HHX.out _).mono ?_
                rintro e W' ⟨rfl, rfl⟩
                cases HXX with
                | true =>
                  go_wp2_with fail
                  refine (HHI.out _).mono ?_
                  rintro e W' ⟨rfl, rfl⟩
                  cases HII with
                  | true =>
                    have hr := HOB.out trivial
                    rw [judge_h ⟨.inl rfl, .inl ⟨rfl, rfl⟩⟩] at hr
                    rw [hr] at hjv
                    subst hjv
                    clear HOB hr
                    go_wp2_with fail
                    go_ret
                    exact ⟨rfl, Below.refl _ _⟩
                  | false =>
                    cases AX with
                    | true =>
                      go_wp2_with fail
                      refine (HAN.out _ _ (HW1.out _) (walls2N _ _ rfl)).mono ?_
                      rintro e W' ⟨rfl, rfl⟩
                      cases AN with
                      | true =>
                        have hr := HOB.out trivial
                        rw [judge_a ⟨.inl rfl, .inl ⟨rfl, rfl⟩⟩ (.inr rfl)] at hr
                        rw [hr] at hjv
                        subst hjv
                        clear HOB hr
                        go_wp2_with fail
                        go_ret
                        exact ⟨rfl, (Below.refl _ _).alloc (Nat.le_refl _) _⟩
                      | false =>
                        have hr := HOB.out trivial
                        rw [judge_end ⟨.inl rfl, .inl ⟨rfl, rfl⟩⟩ (.inr rfl) (.inr rfl)] at hr
                        rw [hr] at hjv
                        subst hjv
                        clear HOB hr
                        go_wp2_with fail
                        go_ret
                        exact ⟨rfl, (Below.refl _ _).alloc (Nat.le_refl _) _⟩
                    | false =>
                      have hr := HOB.out trivial
                      rw [judge_end ⟨.inl rfl, .inl ⟨rfl, rfl⟩⟩ (.inr rfl) (.inl rfl)] at hr
                      rw [hr] at hjv
                      subst hjv
                      clear HOB hr
                      go_wp2_with fail
                      go_ret
                      exact ⟨rfl, Below.refl _ _⟩
                | false =>
                  cases AX with
                  | true =>
                    go_wp2_with fail
                    refine (HAN.out _ _ (HW1.out _) (walls2N _ _ rfl)).mono ?_
                    rintro e W' ⟨rfl, rfl⟩
                    cases AN with
                    | true =>
                      have hr := HOB.out trivial
                      rw [judge_a ⟨.inl rfl, .inl ⟨rfl, rfl⟩⟩ (.inl rfl)] at hr
                      rw [hr] at hjv
                      subst hjv
                      clear HOB hr
                      go_wp2_with fail
                      go_ret
                      exact ⟨rfl, (Below.refl _ _).alloc (Nat.le_refl _) _⟩
                    | false =>
                      have hr := HOB.out trivial
                      rw [judge_end ⟨.inl rfl, .inl ⟨rfl, rfl⟩⟩ (.inl rfl) (.inr rfl)] at hr
                      rw [hr] at hjv
                      subst hjv
                      clear HOB hr
                      go_wp2_with fail
                      go_ret
                      exact ⟨rfl, (Below.refl _ _).alloc (Nat.le_refl _) _⟩
                  | false =>
                    have hr := HOB.out trivial
                    rw [judge_end ⟨.inl rfl, .inl ⟨rfl, rfl⟩⟩ (.inl rfl) (.inl rfl)] at hr
                    rw [hr] at hjv
                    subst hjv
                    clear HOB hr
                    go_wp2_with fail
                    go_ret
                    exact ⟨rfl, Below.refl _ _⟩
end Go.Proofs.YtcncbhbdpcpkeaaGreatDoor
