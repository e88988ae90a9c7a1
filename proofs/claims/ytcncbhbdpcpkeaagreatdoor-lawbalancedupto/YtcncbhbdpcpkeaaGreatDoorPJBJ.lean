/-
  Parts of the walk, joined: ParQ, ParS.
-/
import Derived.Shelf.Strings.SlTrimAscii
import Derived.Test.YtcncbhbdpcpkeaaGreatDoorPJBI
import Derived.Test.YtcncbhbdpcpkeaaGreatDoorPJAX
/-
  The parser's isHeading and judgeByOpen: their walks.
-/
namespace Go.Proofs.YtcncbhbdpcpkeaaGreatDoor
open Go.RowKit Go.Lib Own

set_option maxRecDepth 100000 in
theorem headTwo (S : ByteArray) (a c : UInt8) (w : World) (h2 : S.size = 2) (x0 : S[0]'(by omega) = a) (x1 : S[1]'(by omega) = c) (R : Bool) (hR : (a == 104 && (decide (49 ≤ c.toNat) && decide (c.toNat ≤ 54))) = R) :
    Calls Tryz.prog 201 #[.string S] w fun e w' => e = .returned (.bool R) ∧ w' = w := by
  by_cases ha : a = 104
  · have q0 : ((a.toNat : Int) == 104) = true := by rw [ha]; rfl
    by_cases hc : 49 ≤ c.toNat
    · have q1 : decide ((49 : Int) ≤ (c.toNat : Int)) = true := decide_eq_true (by omega)
      have p1 : (49 : Int) ≤ (c.toNat : Int) := by omega
      by_cases hd : c.toNat ≤ 54
      · have q2 : decide ((c.toNat : Int) ≤ 54) = true := decide_eq_true (by omega)
        have p2 : (c.toNat : Int) ≤ 54 := by omega
        have e : true = R := by rw [← hR, ha, decide_eq_true hc, decide_eq_true hd]; rfl
        subst e
        clear hR ha hc hd
        go_enter Tryz.func201, Tryz.ntmps201
        go_wp2
        go_ret
        exact ⟨rfl, rfl⟩
      · have q2 : decide ((c.toNat : Int) ≤ 54) = false := decide_eq_false (by omega)
        have p2 : ¬ (c.toNat : Int) ≤ 54 := by omega
        have e : false = R := by rw [← hR, decide_eq_false hd, Bool.and_false, Bool.and_false]
        subst e
        clear hR ha hc hd
        go_enter Tryz.func201, Tryz.ntmps201
        go_wp2
        go_ret
        exact ⟨rfl, rfl⟩
    · have q1 : decide ((49 : Int) ≤ (c.toNat : Int)) = false := decide_eq_false (by omega)
      have p1 : ¬ (49 : Int) ≤ (c.toNat : Int) := by omega
      have e : false = R := by rw [← hR, decide_eq_false hc, Bool.false_and, Bool.and_false]
      subst e
      clear hR ha hc
      go_enter Tryz.func201, Tryz.ntmps201
      go_wp2
      go_ret
      exact ⟨rfl, rfl⟩
  · have q0 : ((a.toNat : Int) == 104) = false := by
      rw [beq_eq_false_iff_ne]
      intro e
      have k : (104 : UInt8).toNat = 104 := rfl
      exact ha (UInt8.toNat_inj.1 (by omega))
    have e : false = R := by rw [← hR, show (a == 104) = false from beq_eq_false_iff_ne.2 ha, Bool.false_and]
    subst e
    clear hR ha
    go_enter Tryz.func201, Tryz.ntmps201
    go_wp2
    go_ret
    exact ⟨rfl, rfl⟩
theorem isHead_any (l : List UInt8) (w : World) : Calls Tryz.prog 201 #[.string (bs l)] w fun e w' => e = .returned (.bool (headX l)) ∧ w' = w := by
  by_cases hl : l.length = 2
  · match l, hl with
    | [a, c], _ => exact headTwo (bs [a, c]) a c w rfl rfl rfl _ rfl
  · have e : headX l = false := by unfold headX; rw [show (l.length == 2) = false from beq_eq_false_iff_ne.2 hl, Bool.false_and]
    rw [e]
    have hs := bs_size l
    have q : (((bs l).size : Int) == 2) = false := beq_eq_false_iff_ne.2 (by omega)
    generalize bs l = S at q ⊢
    clear hs hl e
    go_enter Tryz.func201, Tryz.ntmps201
    go_wp2
    go_ret
    exact ⟨rfl, rfl⟩
def tdTh : List (List UInt8) := [tdN, thN]
def tabTdTh : List (List UInt8) := [tblN, tdN, thN]
theorem walls3 (W : World) : Words (W.alloc (.cells #[.string ⟨#[116, 97, 98, 108, 101]⟩, .string ⟨#[116, 100]⟩, .string ⟨#[116, 104]⟩] 9)) (.slice (some ⟨W.heap.size, 0, none⟩) 3 3) tabTdTh :=
  Words.row (base := W.heap.size) ⟨rfl, .inr ⟨W.heap.size, 3, _, rfl, Nat.le_refl _, heap_alloc_new W _, Nat.le_refl _, by decide, rfl, rfl⟩⟩
theorem walls2 (W : World) : Words (W.alloc (.cells #[.string ⟨#[116, 100]⟩, .string ⟨#[116, 104]⟩] 9)) (.slice (some ⟨W.heap.size, 0, none⟩) 2 2) tdTh :=
  Words.row (base := W.heap.size) ⟨rfl, .inr ⟨W.heap.size, 2, _, rfl, Nat.le_refl _, heap_alloc_new W _, Nat.le_refl _, by decide, rfl, rfl⟩⟩
/-- the judgement by what is open, in bits -/
def judgeB (it inear fl pnear hx hi ax anear : Bool) : Nat := if it = true ∧ inear = true then 6 else if (it = true ∨ fl = true) ∧ pnear = true then 6 else if hx = true ∧ hi = true then 6 else if ax = true ∧ anear = true then 7 else 0
theorem judgeO_B (op : List (List UInt8)) (x : List UInt8) : judgeO op x = judgeB (decide (clsX x = 4)) (itemR op.reverse) (decide (clsX x = 1)) (nearR pN tabTdTh op.reverse) (headX x) (headX (op.getLast?.getD [])) (decide (x = aN)) (nearR aN tdTh op.reverse) := by
  unfold judgeO judgeB
  simp only [decide_eq_true_eq]
  rfl
/-- the first two tests fall -/
def NoTwo (it inear fl pnear : Bool) : Prop := (it = false ∨ inear = false) ∧ ((it = false ∧ fl = false) ∨ pnear = false)
theorem judge_i {fl pnear hx hi ax anear : Bool} : judgeB true true fl pnear hx hi ax anear = 6 := rfl
theorem judge_p {it inear fl hx hi ax anear : Bool} (h1 : it = false ∨ inear = false) (h2 : it = true ∨ fl = true) : judgeB it inear fl true hx hi ax anear = 6 := by
  unfold judgeB
  rw [if_neg (fun h => by rcases h1 with e | e <;> rw [e] at h <;> simp at h), if_pos ⟨h2, rfl⟩]
theorem judge_two {it inear fl pnear hx hi ax anear : Bool} (h : NoTwo it inear fl pnear) : judgeB it inear fl pnear hx hi ax anear = if hx = true ∧ hi = true then 6 else if ax = true ∧ anear = true then 7 else 0 := by
  unfold judgeB
  obtain ⟨h1, h2⟩ := h
  rw [if_neg (fun h => by rcases h1 with e | e <;> rw [e] at h <;> simp at h), if_neg (fun h => by
    rcases h2 with ⟨e, e2⟩ | e
    · rw [e, e2] at h; simp at h
    · rw [e] at h; simp at h)]
theorem judge_h {it inear fl pnear ax anear : Bool} (h : NoTwo it inear fl pnear) : judgeB it inear fl pnear true true ax anear = 6 := by rw [judge_two h]; rfl
theorem judge_a {it inear fl pnear hx hi : Bool} (h : NoTwo it inear fl pnear) (h2 : hx = false ∨ hi = false) : judgeB it inear fl pnear hx hi true true = 7 := by
  rw [judge_two h, if_neg (fun k => by rcases h2 with e | e <;> rw [e] at k <;> simp at k)]
  rfl
theorem judge_end {it inear fl pnear hx hi ax anear : Bool} (h : NoTwo it inear fl pnear) (h2 : hx = false ∨ hi = false) (h3 : ax = false ∨ anear = false) : judgeB it inear fl pnear hx hi ax anear = 0 := by
  rw [judge_two h, if_neg (fun k => by rcases h2 with e | e <;> rw [e] at k <;> simp at k), if_neg (fun k => by rcases h3 with e | e <;> rw [e] at k <;> simp at k)]
set_option maxHeartbeats 16000000 in
set_option maxRecDepth 100000 in
theorem judgeOpen_any (base b : Nat) (op : List (List UInt8)) (ov nv : Value) (eat : Bool) (x : List UInt8) (w : World) (h : PrR w base b op ov nv eat) :
    Calls Tryz.prog 146 #[.pointer (some ⟨b, 0, none⟩), elemV x] w fun e w' => e = .returned (.int .i64 (judgeO op x : Nat)) ∧ Below w.heap.size w w' := by
  rw [judgeO_B]
  have hin := fun W (hW : PrR W base b op ov nv eat) => inner_any base b op ov nv eat W hW
  have hit := fun W (hW : PrR W base b op ov nv eat) => isItem_any base b op ov nv eat W hW
  have hpn := fun W wv (hW : PrR W base b op ov nv eat) (hv : Words W wv tabTdTh) => isNear_any base b op ov nv eat pN wv tabTdTh W hW hv
  have han := fun W wv (hW : PrR W base b op ov nv eat) (hv : Words W wv tdTh) => isNear_any base b op ov nv eat aN wv tdTh W hW hv
  have hhx := fun W => isHead_any x W
  have hhi := fun W => isHead_any (op.getLast?.getD []) W
  have ep : bs pN = ⟨#[112]⟩ := rfl
  have ea : bs aN = ⟨#[97]⟩ := rfl
  rw [ep] at hpn
  rw [ea] at han
  unfold elemV at hin ⊢
  have hqa : ((bs x).toList == [97]) = decide (x = aN) := by rw [bs_toList, Bool.eq_iff_iff, beq_iff_eq, decide_eq_true_iff]; rfl
  generalize decide (x = aN) = AX at hqa ⊢
  generalize headX x = HXX at hhx ⊢
  generalize headX (op.getLast?.getD []) = HII at hhi ⊢
  generalize itemR op.reverse = IN at hit ⊢
  generalize nearR pN tabTdTh op.reverse = PN at hpn ⊢
  generalize nearR aN tdTh op.reverse = AN at han ⊢
  generalize bs (op.getLast?.getD []) = IB at hin hhi
  generalize ((clsX (op.getLast?.getD []) : Nat) : Int) = IC at hin
  generalize ((modX (op.getLast?.getD []) : Nat) : Int) = IM at hin
  generalize bs x = BX at hhx hqa ⊢
  generalize ((modX x : Nat) : Int) = MX
  obtain ⟨T4, hT4⟩ : ∃ T4, decide (clsX x = 4) = T4 := ⟨_, rfl⟩
  obtain ⟨T1, hT1⟩ : ∃ T1, decide (clsX x = 1) = T1 := ⟨_, rfl⟩
  have q4 : ((clsX x : Int) == 4) = T4 := by rw [← hT4, Bool.eq_iff_iff, beq_iff_eq, decide_eq_true_iff]; omega
  have q1 : ((clsX x : Int) == 1) = T1 := by rw [← hT1, Bool.eq_iff_iff, beq_iff_eq, decide_eq_true_iff]; omega
  have q41 : T4 = true → T1 = true → False := fun h1 h2 => by rw [h1] at hT4; rw [h2] at hT1; have := of_decide_eq_true hT4; have := of_decide_eq_true hT1; omega
  rw [hT4, hT1]
  generalize ((clsX x : Nat) : Int) = CX at q4 q1 ⊢
  have hn0 := heap_alloc_new w (.cells #[.string BX, .int .i64 CX, .int .i64 MX] 172)
  have hb0 : Below w.heap.size w (w.alloc (.cells #[.string BX, .int .i64 CX, .int .i64 MX] 172)) := (Below.refl _ _).alloc (Nat.le_refl _) _
  obtain ⟨R, hR⟩ : ∃ R, judgeB T4 IN T1 PN HXX HII AX AN = R := ⟨_, rfl⟩
  rw [hR]
  have HIN := hid hin
  have HIT := hid hit
  have HPN := hid hpn
  have HAN := hid han
  have HHX := hid hhx
  have HHI := hid hhi
  have HP := hid (And.intro (h.below hb0) (And.intro hn0 hb0))
  have HR := hid (fun (_ : True) => hR)
  have HW0 := hid (fun (_ : True) => (rfl : w.alloc (.cells #[.string BX, .int .i64 CX, .int .i64 MX] 172) = _))
  clear hin hit hpn han hhx hhi ep ea hT4 hT1 hn0 hb0 hR h
  go_enter Tryz.func146, Tryz.ntmps146
  go_upto_region 1 with fail
  generalize w.alloc (.cells #[.string BX, .int .i64 CX, .int .i64 MX] 172) = W0 at HP ⊢
  have HS := HP
  have HP0 := HP
  clear HP HW0
  have x0 := cell_at HS.out.2.1 (j := 0) rfl
  have x1 := cell_at HS.out.2.1 (j := 1) rfl
  have x2 := cell_at HS.out.2.1 (j := 2) rfl
  cases T4 with
  | true =>
    have hit := HIT.out _ HS.out.1
    have HIC := hid hit
    clear hit
    go_wp2_with fail
    refine HIC.out.mono ?_
    rintro e W3' ⟨rfl, hbn⟩

    replace x0 := cell_kept x0 hbn
    replace x1 := cell_kept x1 hbn
    replace x2 := cell_kept x2 hbn
    have HS := hid (And.intro (HS.out.1.below hbn) (And.intro ((hbn.block _ (block_lt HS.out.2.1)).trans HS.out.2.1) (HS.out.2.2.trans (hbn.mono HS.out.2.2.size))))
    clear hbn

    clear HIC
    cases IN with
    | true =>
      have hR := HR.out trivial
      rw [judge_i] at hR
      subst hR
      clear HR
      go_wp2_with fail
      go_ret
      exact ⟨rfl, HS.out.2.2⟩
    | false =>
      have hbn := (Below.refl W3'.heap.size W3').alloc (Nat.le_refl _) (.cells #[.string ⟨#[116, 97, 98, 108, 101]⟩, .string ⟨#[116, 100]⟩, .string ⟨#[116, 104]⟩] 9)
      have hwl := walls3 W3'
      have hcall := HPN.out _ _ (HS.out.1.below hbn) hwl
      have HCALL := hid hcall
      have o0 := x0
      have o1 := x1
      have o2 := x2
      replace x0 := cell_kept x0 hbn
      replace x1 := cell_kept x1 hbn
      replace x2 := cell_kept x2 hbn
      have HS := hid (And.intro (HS.out.1.below hbn) (And.intro ((hbn.block _ (block_lt HS.out.2.1)).trans HS.out.2.1) (HS.out.2.2.trans (hbn.mono HS.out.2.2.size))))
      clear hcall hwl hbn
      go_upto_region 4 with fail
      go_wp2_with fail
      clear o0 o1 o2
      refine HCALL.out.mono ?_
      rintro e W5 ⟨rfl, n5, hw5⟩
      have hbn := below_drewN (Below.refl (W3'.alloc (.cells #[.string ⟨#[116, 97, 98, 108, 101]⟩, .string ⟨#[116, 100]⟩, .string ⟨#[116, 104]⟩] 9)).heap.size (W3'.alloc (.cells #[.string ⟨#[116, 97, 98, 108, 101]⟩, .string ⟨#[116, 100]⟩, .string ⟨#[116, 104]⟩] 9))) n5
      rw [← hw5] at hbn

      replace x0 := cell_kept x0 hbn
      replace x1 := cell_kept x1 hbn
      replace x2 := cell_kept x2 hbn
      have HS := hid (And.intro (HS.out.1.below hbn) (And.intro ((hbn.block _ (block_lt HS.out.2.1)).trans HS.out.2.1) (HS.out.2.2.trans (hbn.mono HS.out.2.2.size))))
      clear hbn

      clear hw5 HCALL
      cases PN with
      | true =>
        have hR := HR.out trivial
        rw [judge_p (.inr rfl) (.inl rfl)] at hR
        subst hR
        clear HR
        go_wp2_with fail
        go_ret
        exact ⟨rfl, HS.out.2.2⟩
      | false =>
        have hhd := HHX.out W5
        have HHD := hid hhd
        clear hhd
        cases HXX with
        | false =>
          go_wp2_with fail
          refine HHD.out.mono ?_
          rintro e W6 ⟨rfl, hw6⟩
          subst hw6
          clear HHD
          cases AX with
          | false =>
            have HB := hid HS.out.2.2
            have hR := HR.out trivial
            rw [judge_end (⟨.inr rfl, .inr rfl⟩) (.inl rfl) (.inl rfl)] at hR
            subst hR
            clear HR
            go_wp2_with fail
            go_ret
            exact ⟨rfl, HB.out⟩
          | true =>
            have hbn := (Below.refl W6.heap.size W6).alloc (Nat.le_refl _) (.cells #[.string ⟨#[116, 100]⟩, .string ⟨#[116, 104]⟩] 9)
            have hwl := walls2 W6
            have hcall := HAN.out _ _ (HS.out.1.below hbn) hwl
            have HCALL := hid hcall
            have HB := hid (HS.out.2.2.trans (hbn.mono HS.out.2.2.size))
            clear hcall hwl hbn
            cases AN with
            | true =>
              have hR := HR.out trivial
              rw [judge_a (⟨.inr rfl, .inr rfl⟩) (.inl rfl)] at hR
              subst hR
              clear HR
              go_wp2_with fail
              refine HCALL.out.mono ?_
              rintro e W9 ⟨rfl, n9, rfl⟩
              go_wp2_with fail
              go_ret
              exact ⟨rfl, below_drewN HB.out n9⟩
            | false =>
              have hR := HR.out trivial
              rw [judge_end (⟨.inr rfl, .inr rfl⟩) (.inl rfl) (.inr rfl)] at hR
              subst hR
              clear HR
              go_wp2_with fail
              refine HCALL.out.mono ?_
              rintro e W9 ⟨rfl, n9, rfl⟩
              go_wp2_with fail
              go_ret
              exact ⟨rfl, below_drewN HB.out n9⟩
        | true =>
          have hin := HIN.out _ HS.out.1
          have HIC := hid hin
          clear hin
          go_wp2_with fail
          refine HHD.out.mono ?_
          rintro e W6 ⟨rfl, hw6⟩
          subst hw6
          clear HHD
          go_wp2_with fail
          refine HIC.out.mono ?_
          rintro e W7 ⟨rfl, hbn⟩

          replace x0 := cell_kept x0 hbn
          replace x1 := cell_kept x1 hbn
          replace x2 := cell_kept x2 hbn
          have HS := hid (And.intro (HS.out.1.below hbn) (And.intro ((hbn.block _ (block_lt HS.out.2.1)).trans HS.out.2.1) (HS.out.2.2.trans (hbn.mono HS.out.2.2.size))))
          clear hbn

          have hf0 := fun W => (field_el (.string IB) (.int .i64 IC) (.int .i64 IM) W).1
          have hhd := HHI.out W7
          have HHD := hid hhd
          clear hhd HIC
          go_wp2_with fail
          refine HHD.out.mono ?_
          rintro e W8 ⟨rfl, hw8⟩
          subst hw8
          clear HHD hf0
          cases HII with
          | true =>
            have hR := HR.out trivial
            rw [judge_h (⟨.inr rfl, .inr rfl⟩)] at hR
            subst hR
            clear HR
            go_wp2_with fail
            go_ret
            exact ⟨rfl, HS.out.2.2⟩
          | false =>
            cases AX with
            | false =>
              have HB := hid HS.out.2.2
              have hR := HR.out trivial
              rw [judge_end (⟨.inr rfl, .inr rfl⟩) (.inr rfl) (.inl rfl)] at hR
              subst hR
              clear HR
              go_wp2_with fail
              go_ret
              exact ⟨rfl, HB.out⟩
            | true =>
              have hbn := (Below.refl W8.heap.size W8).alloc (Nat.le_refl _) (.cells #[.string ⟨#[116, 100]⟩, .string ⟨#[116, 104]⟩] 9)
              have hwl := walls2 W8
              have hcall := HAN.out _ _ (HS.out.1.below hbn) hwl
              have HCALL := hid hcall
              have HB := hid (HS.out.2.2.trans (hbn.mono HS.out.2.2.size))
              clear hcall hwl hbn
              cases AN with
              | true =>
                have hR := HR.out trivial
                rw [judge_a (⟨.inr rfl, .inr rfl⟩) (.inr rfl)] at hR
                subst hR
                clear HR
                go_wp2_with fail
                refine HCALL.out.mono ?_
                rintro e W9 ⟨rfl, n9, rfl⟩
                go_wp2_with fail
                go_ret
                exact ⟨rfl, below_drewN HB.out n9⟩
              | false =>
                have hR := HR.out trivial
                rw [judge_end (⟨.inr rfl, .inr rfl⟩) (.inr rfl) (.inr rfl)] at hR
                subst hR
                clear HR
                go_wp2_with fail
                refine HCALL.out.mono ?_
                rintro e W9 ⟨rfl, n9, rfl⟩
                go_wp2_with fail
                go_ret
                exact ⟨rfl, below_drewN HB.out n9⟩
  | false =>
    cases T1 with
    | true =>
      have hbn := (Below.refl W0.heap.size W0).alloc (Nat.le_refl _) (.cells #[.string ⟨#[116, 97, 98, 108, 101]⟩, .string ⟨#[116, 100]⟩, .string ⟨#[116, 104]⟩] 9)
      have hwl := walls3 W0
      have hcall := HPN.out _ _ (HS.out.1.below hbn) hwl
      have HCALL := hid hcall
      have o0 := x0
      have o1 := x1
      have o2 := x2
      replace x0 := cell_kept x0 hbn
      replace x1 := cell_kept x1 hbn
      replace x2 := cell_kept x2 hbn
      have HS := hid (And.intro (HS.out.1.below hbn) (And.intro ((hbn.block _ (block_lt HS.out.2.1)).trans HS.out.2.1) (HS.out.2.2.trans (hbn.mono HS.out.2.2.size))))
      clear hcall hwl hbn
      go_upto_region 4 with fail
      go_wp2_with fail
      clear o0 o1 o2
      refine HCALL.out.mono ?_
      rintro e W5 ⟨rfl, n5, hw5⟩
      have hbn := below_drewN (Below.refl (W0.alloc (.cells #[.string ⟨#[116, 97, 98, 108, 101]⟩, .string ⟨#[116, 100]⟩, .string ⟨#[116, 104]⟩] 9)).heap.size (W0.alloc (.cells #[.string ⟨#[116, 97, 98, 108, 101]⟩, .string ⟨#[116, 100]⟩, .string ⟨#[116, 104]⟩] 9))) n5
      rw [← hw5] at hbn

      replace x0 := cell_kept x0 hbn
      replace x1 := cell_kept x1 hbn
      replace x2 := cell_kept x2 hbn
      have HS := hid (And.intro (HS.out.1.below hbn) (And.intro ((hbn.block _ (block_lt HS.out.2.1)).trans HS.out.2.1) (HS.out.2.2.trans (hbn.mono HS.out.2.2.size))))
      clear hbn

      clear hw5 HCALL
      cases PN with
      | true =>
        have hR := HR.out trivial
        rw [judge_p (.inl rfl) (.inr rfl)] at hR
        subst hR
        clear HR
        go_wp2_with fail
        go_ret
        exact ⟨rfl, HS.out.2.2⟩
      | false =>
        have hhd := HHX.out W5
        have HHD := hid hhd
        clear hhd
        cases HXX with
        | false =>
          go_wp2_with fail
          refine HHD.out.mono ?_
          rintro e W6 ⟨rfl, hw6⟩
          subst hw6
          clear HHD
          cases AX with
          | false =>
            have HB := hid HS.out.2.2
            have hR := HR.out trivial
            rw [judge_end (⟨.inl rfl, .inr rfl⟩) (.inl rfl) (.inl rfl)] at hR
            subst hR
            clear HR
            go_wp2_with fail
            go_ret
            exact ⟨rfl, HB.out⟩
          | true =>
            have hbn := (Below.refl W6.heap.size W6).alloc (Nat.le_refl _) (.cells #[.string ⟨#[116, 100]⟩, .string ⟨#[116, 104]⟩] 9)
            have hwl := walls2 W6
            have hcall := HAN.out _ _ (HS.out.1.below hbn) hwl
            have HCALL := hid hcall
            have HB := hid (HS.out.2.2.trans (hbn.mono HS.out.2.2.size))
            clear hcall hwl hbn
            cases AN with
            | true =>
              have hR := HR.out trivial
              rw [judge_a (⟨.inl rfl, .inr rfl⟩) (.inl rfl)] at hR
              subst hR
              clear HR
              go_wp2_with fail
              refine HCALL.out.mono ?_
              rintro e W9 ⟨rfl, n9, rfl⟩
              go_wp2_with fail
              go_ret
              exact ⟨rfl, below_drewN HB.out n9⟩
            | false =>
              have hR := HR.out trivial
              rw [judge_end (⟨.inl rfl, .inr rfl⟩) (.inl rfl) (.inr rfl)] at hR
              subst hR
              clear HR
              go_wp2_with fail
              refine HCALL.out.mono ?_
              rintro e W9 ⟨rfl, n9, rfl⟩
              go_wp2_with fail
              go_ret
              exact ⟨rfl, below_drewN HB.out n9⟩
        | true =>
          have hin := HIN.out _ HS.out.1
          have HIC := hid hin
          clear hin
          go_wp2_with fail
          refine HHD.out.mono ?_
          rintro e W6 ⟨rfl, hw6⟩
          subst hw6
          clear HHD
          go_wp2_with fail
          refine HIC.out.mono ?_
          rintro e W7 ⟨rfl, hbn⟩

          replace x0 := cell_kept x0 hbn
          replace x1 := cell_kept x1 hbn
          replace x2 := cell_kept x2 hbn
          have HS := hid (And.intro (HS.out.1.below hbn) (And.intro ((hbn.block _ (block_lt HS.out.2.1)).trans HS.out.2.1) (HS.out.2.2.trans (hbn.mono HS.out.2.2.size))))
          clear hbn

          have hf0 := fun W => (field_el (.string IB) (.int .i64 IC) (.int .i64 IM) W).1
          have hhd := HHI.out W7
          have HHD := hid hhd
          clear hhd HIC
          go_wp2_with fail
          refine HHD.out.mono ?_
          rintro e W8 ⟨rfl, hw8⟩
          subst hw8
          clear HHD hf0
          cases HII with
          | true =>
            have hR := HR.out trivial
            rw [judge_h (⟨.inl rfl, .inr rfl⟩)] at hR
            subst hR
            clear HR
            go_wp2_with fail
            go_ret
            exact ⟨rfl, HS.out.2.2⟩
          | false =>
            cases AX with
            | false =>
              have HB := hid HS.out.2.2
              have hR := HR.out trivial
              rw [judge_end (⟨.inl rfl, .inr rfl⟩) (.inr rfl) (.inl rfl)] at hR
              subst hR
              clear HR
              go_wp2_with fail
              go_ret
              exact ⟨rfl, HB.out⟩
            | true =>
              have hbn := (Below.refl W8.heap.size W8).alloc (Nat.le_refl _) (.cells #[.string ⟨#[116, 100]⟩, .string ⟨#[116, 104]⟩] 9)
              have hwl := walls2 W8
              have hcall := HAN.out _ _ (HS.out.1.below hbn) hwl
              have HCALL := hid hcall
              have HB := hid (HS.out.2.2.trans (hbn.mono HS.out.2.2.size))
              clear hcall hwl hbn
              cases AN with
              | true =>
                have hR := HR.out trivial
                rw [judge_a (⟨.inl rfl, .inr rfl⟩) (.inr rfl)] at hR
                subst hR
                clear HR
                go_wp2_with fail
                refine HCALL.out.mono ?_
                rintro e W9 ⟨rfl, n9, rfl⟩
                go_wp2_with fail
                go_ret
                exact ⟨rfl, below_drewN HB.out n9⟩
              | false =>
                have hR := HR.out trivial
                rw [judge_end (⟨.inl rfl, .inr rfl⟩) (.inr rfl) (.inr rfl)] at hR
                subst hR
                clear HR
                go_wp2_with fail
                refine HCALL.out.mono ?_
                rintro e W9 ⟨rfl, n9, rfl⟩
                go_wp2_with fail
                go_ret
                exact ⟨rfl, below_drewN HB.out n9⟩
    | false =>
      have hhd := HHX.out W0
      have HHD := hid hhd
      clear hhd
      cases HXX with
      | false =>
        go_wp2_with fail
        refine HHD.out.mono ?_
        rintro e W6 ⟨rfl, hw6⟩
        subst hw6
        clear HHD
        cases AX with
        | false =>
          have HB := hid HS.out.2.2
          have hR := HR.out trivial
          rw [judge_end (⟨.inl rfl, .inl ⟨rfl, rfl⟩⟩) (.inl rfl) (.inl rfl)] at hR
          subst hR
          clear HR
          go_wp2_with fail
          go_ret
          exact ⟨rfl, HB.out⟩
        | true =>
          have hbn := (Below.refl W6.heap.size W6).alloc (Nat.le_refl _) (.cells #[.string ⟨#[116, 100]⟩, .string ⟨#[116, 104]⟩] 9)
          have hwl := walls2 W6
          have hcall := HAN.out _ _ (HS.out.1.below hbn) hwl
          have HCALL := hid hcall
          have HB := hid (HS.out.2.2.trans (hbn.mono HS.out.2.2.size))
          clear hcall hwl hbn
          cases AN with
          | true =>
            have hR := HR.out trivial
            rw [judge_a (⟨.inl rfl, .inl ⟨rfl, rfl⟩⟩) (.inl rfl)] at hR
            subst hR
            clear HR
            go_wp2_with fail
            refine HCALL.out.mono ?_
            rintro e W9 ⟨rfl, n9, rfl⟩
            go_wp2_with fail
            go_ret
            exact ⟨rfl, below_drewN HB.out n9⟩
          | false =>
            have hR := HR.out trivial
            rw [judge_end (⟨.inl rfl, .inl ⟨rfl, rfl⟩⟩) (.inl rfl) (.inr rfl)] at hR
            subst hR
            clear HR
            go_wp2_with fail
            refine HCALL.out.mono ?_
            rintro e W9 ⟨rfl, n9, rfl⟩
            go_wp2_with fail
            go_ret
            exact ⟨rfl, below_drewN HB.out n9⟩
      | true =>
        have hin := HIN.out _ HS.out.1
        have HIC := hid hin
        clear hin
        go_wp2_with fail
        refine HHD.out.mono ?_
        rintro e W6 ⟨rfl, hw6⟩
        subst hw6
        clear HHD
        go_wp2_with fail
        refine HIC.out.mono ?_
        rintro e W7 ⟨rfl, hbn⟩

        replace x0 := cell_kept x0 hbn
        replace x1 := cell_kept x1 hbn
        replace x2 := cell_kept x2 hbn
        have HS := hid (And.intro (HS.out.1.below hbn) (And.intro ((hbn.block _ (block_lt HS.out.2.1)).trans HS.out.2.1) (HS.out.2.2.trans (hbn.mono HS.out.2.2.size))))
        clear hbn

        have hf0 := fun W => (field_el (.string IB) (.int .i64 IC) (.int .i64 IM) W).1
        have hhd := HHI.out W7
        have HHD := hid hhd
        clear hhd HIC
        go_wp2_with fail
        refine HHD.out.mono ?_
        rintro e W8 ⟨rfl, hw8⟩
        subst hw8
        clear HHD hf0
        cases HII with
        | true =>
          have hR := HR.out trivial
          rw [judge_h (⟨.inl rfl, .inl ⟨rfl, rfl⟩⟩)] at hR
          subst hR
          clear HR
          go_wp2_with fail
          go_ret
          exact ⟨rfl, HS.out.2.2⟩
        | false =>
          cases AX with
          | false =>
            have HB := hid HS.out.2.2
            have hR := HR.out trivial
            rw [judge_end (⟨.inl rfl, .inl ⟨rfl, rfl⟩⟩) (.inr rfl) (.inl rfl)] at hR
            subst hR
            clear HR
            go_wp2_with fail
            go_ret
            exact ⟨rfl, HB.out⟩
          | true =>
            have hbn := (Below.refl W8.heap.size W8).alloc (Nat.le_refl _) (.cells #[.string ⟨#[116, 100]⟩, .string ⟨#[116, 104]⟩] 9)
            have hwl := walls2 W8
            have hcall := HAN.out _ _ (HS.out.1.below hbn) hwl
            have HCALL := hid hcall
            have HB := hid (HS.out.2.2.trans (hbn.mono HS.out.2.2.size))
            clear hcall hwl hbn
            cases AN with
            | true =>
              have hR := HR.out trivial
              rw [judge_a (⟨.inl rfl, .inl ⟨rfl, rfl⟩⟩) (.inr rfl)] at hR
              subst hR
              clear HR
              go_wp2_with fail
              refine HCALL.out.mono ?_
              rintro e W9 ⟨rfl, n9, rfl⟩
              go_wp2_with fail
              go_ret
              exact ⟨rfl, below_drewN HB.out n9⟩
            | false =>
              have hR := HR.out trivial
              rw [judge_end (⟨.inl rfl, .inl ⟨rfl, rfl⟩⟩) (.inr rfl) (.inr rfl)] at hR
              subst hR
              clear HR
              go_wp2_with fail
              refine HCALL.out.mono ?_
              rintro e W9 ⟨rfl, n9, rfl⟩
              go_wp2_with fail
              go_ret
              exact ⟨rfl, below_drewN HB.out n9⟩
end Go.Proofs.YtcncbhbdpcpkeaaGreatDoor

/-
  The parser in memory, and its addText: its walk.
-/
namespace Go.Proofs.YtcncbhbdpcpkeaaGreatDoor
open Go.RowKit Go.Lib Own

structure PrS (K : Nat → Array Value → Prop) (w0 W : World) (b : Nat) (op : List (List UInt8)) (prs : List (EvP × Value)) (eat : Bool) (ov nv : Value) : Prop where
  at_ : W.heap[b]? = some (.cells #[ov, nv, .bool eat] 82 (0, 0))
  row : OpenR W w0.heap.size ov op
  nodes : MadeN W w0.heap.size nv prs
  few : op.length ≤ 900000
  be : Below w0.heap.size w0 W
  kt : KindsTab w0
  lo : w0.heap.size ≤ b
  kp : ∀ E cs, K E cs → W.heap[E]? = some (.cells cs 60 (0, 0))
theorem ev_ne {W : World} {E b : Nat} {cs cs2 : Array Value} {t t2 : TypeId} {f f2 : Nat × Nat} (h : W.heap[E]? = some (.cells cs t f)) (h2 : W.heap[b]? = some (.cells cs2 t2 f2)) (hne : t ≠ t2) : E ≠ b := by
  rintro rfl
  rw [h] at h2
  cases h2
  exact hne rfl
variable {K : Nat → Array Value → Prop} {w0 W W' : World} {b : Nat} {op : List (List UInt8)} {prs : List (EvP × Value)} {eat : Bool} {ov nv : Value}
theorem PrS.rd (h : PrS K w0 W b op prs eat ov nv) : PrR W w0.heap.size b op ov nv eat := ⟨h.at_, h.row, h.few⟩
theorem PrS.below (h : PrS K w0 W b op prs eat ov nv) (hb : Below W.heap.size W W') : PrS K w0 W' b op prs eat ov nv :=
  ⟨(hb.block b (block_lt h.at_)).trans h.at_, row_below h.row hb, h.nodes.below hb, h.few, h.be.trans (hb.mono h.be.size), h.kt, h.lo, fun E cs hk => (hb.block E (block_lt (h.kp E cs hk))).trans (h.kp E cs hk)⟩
theorem PrS.kinds (h : PrS K w0 W b op prs eat ov nv) : KindsTab W := h.kt.below h.be
theorem PrS.base (h : PrS K w0 W b op prs eat ov nv) : w0.heap.size ≤ W.heap.size := h.be.size
/-- one node more -/
theorem PrS.node {w10 : World} {X : Obj} {x : EvP × Value} {nv' : Value} (h : PrS K w0 W b op prs eat ov nv) (hx : W.ownsRow w0.heap.size 122 2 x.2 x.1.a.length (attrsV x.1.a)) (hn : ∀ g, x.2.ownBlock = some g → ∀ (k : Nat) y, prs[k]? = some y → y.2.ownBlock ≠ some g)
    (hg : (W.alloc X).grownBy w10 nv.ownBlock) (hv : w10.ownsRow w0.heap.size 38 4 nv' (prs.length + 1) (ecells prs ++ [.int .i64 x.1.k, .string (bs x.1.n), x.2, .string (bs x.1.t)])) :
    PrS K w0 (w10.setCell ⟨b, 1, none⟩ nv') b op (prs ++ [x]) eat ov nv' := by
  have hbl := block_lt h.at_
  have hne := row_ne h.nodes.row h.at_ (by decide)
  have hb4 := (alloc_old W X b hbl).trans h.at_
  have hb10 := (hg.block b (by simp; omega) (fun e => hne e.symm)).trans hb4
  have hj := just_put (j := 1) hb10 nv' rfl
  have hm := MadeN.more h.nodes hx hn hg hv
  have hbase := h.be.size
  refine ⟨hj.at_, ?_, hm.keep (fun _ _ _ hr => row_just hr hb10 (by decide) hj.other) (fun _ _ _ hr => row_just hr hb10 (by decide) hj.other), h.few, ?_, h.kt, h.lo, ?_⟩
  · exact row_just ((h.row.alloc X).kept hg (rows_ne3 (h.row.alloc X) (h.nodes.row.alloc X) (by decide))) hb10 (by decide) hj.other
  · exact ((h.be.alloc hbase X).grown hg (by simp; omega) (fun k hk => (h.nodes.row.lt k hk).1)).trans (just_low hj h.lo)
  · intro E cs hk
    have hE := h.kp E cs hk
    exact (hj.other E (fun e => ev_ne hE h.at_ (by decide) e)).trans (grown_at hg ((alloc_old W X E (block_lt hE)).trans hE) (row_ne (h.nodes.row.alloc X) ((alloc_old W X E (block_lt hE)).trans hE) (by decide)))
/-- one element more -/
theorem PrS.push {w10 : World} {X : Obj} {x : List UInt8} {ov' : Value} (h : PrS K w0 W b op prs eat ov nv) (hf : op.length + 1 ≤ 900000)
    (hg : (W.alloc X).grownBy w10 ov.ownBlock) (hv : w10.ownsRow w0.heap.size 172 3 ov' (op.length + 1) (elems op ++ [.string (bs x), .int .i64 (clsX x : Nat), .int .i64 (modX x : Nat)])) :
    PrS K w0 (w10.setCell ⟨b, 0, none⟩ ov') b (op ++ [x]) prs eat ov' nv := by
  have hbl := block_lt h.at_
  have hne := row_ne h.row h.at_ (by decide)
  have hb4 := (alloc_old W X b hbl).trans h.at_
  have hb10 := (hg.block b (by simp; omega) (fun e => hne e.symm)).trans hb4
  have hj := just_put (j := 0) hb10 ov' rfl
  have hbase := h.be.size
  refine ⟨hj.at_, ?_, ?_, by rw [List.length_append, List.length_singleton]; exact hf, ?_, h.kt, h.lo, ?_⟩
  · unfold OpenR
    rw [List.length_append, List.length_singleton, elems_app]
    exact row_just hv hb10 (by decide) hj.other
  · have hm : MadeN w10 w0.heap.size nv prs := h.nodes.keep (fun _ _ _ hr => (hr.alloc X).kept hg (rows_ne3 (hr.alloc X) (h.row.alloc X) (by decide))) (fun _ _ _ hr => (hr.alloc X).kept hg (rows_ne3 (hr.alloc X) (h.row.alloc X) (by decide)))
    exact hm.keep (fun _ _ _ hr => row_just hr hb10 (by decide) hj.other) (fun _ _ _ hr => row_just hr hb10 (by decide) hj.other)
  · exact ((h.be.alloc hbase X).grown hg (by simp; omega) (fun k hk => (h.row.lt k hk).1)).trans (just_low hj h.lo)
  · intro E cs hk
    have hE := h.kp E cs hk
    exact (hj.other E (fun e => ev_ne hE h.at_ (by decide) e)).trans (grown_at hg ((alloc_old W X E (block_lt hE)).trans hE) (row_ne (h.row.alloc X) ((alloc_old W X E (block_lt hE)).trans hE) (by decide)))
/-- the innermost is shut -/
theorem PrS.shut {p : Option Addr} {n c : Nat} (h : PrS K w0 W b op prs eat (.slice p n c) nv) (hn : n = op.length) (h0 : 1 ≤ op.length) : PrS K w0 (W.setCell ⟨b, 0, none⟩ (.slice p (n - 1) c)) b op.dropLast prs eat (.slice p (n - 1) c) nv := by
  have hj := just_put (j := 0) h.at_ (.slice p (n - 1) c) rfl
  have hfr := h.row.front (k := n - 1) (by omega) hn
  have hdl : op.dropLast = op.take (n - 1) := by rw [hn, List.dropLast_eq_take]
  rw [hdl]
  refine ⟨hj.at_, row_just hfr h.at_ (by decide) hj.other, h.nodes.keep (fun _ _ _ hr => row_just hr h.at_ (by decide) hj.other) (fun _ _ _ hr => row_just hr h.at_ (by decide) hj.other), by rw [List.length_take]; have := h.few; omega, h.be.trans (just_low hj h.lo), h.kt, h.lo, fun E cs hk => (hj.other E (fun e => ev_ne (h.kp E cs hk) h.at_ (by decide) e)).trans (h.kp E cs hk)⟩
/-- a box more that stays -/
theorem PrS.more (h : PrS K w0 W b op prs eat ov nv) {E : Nat} {cs : Array Value} (hE : W.heap[E]? = some (.cells cs 60 (0, 0))) : PrS (fun k c => K k c ∨ (k = E ∧ c = cs)) w0 W b op prs eat ov nv :=
  ⟨h.at_, h.row, h.nodes, h.few, h.be, h.kt, h.lo, fun k c hk => by
    rcases hk with hk | ⟨rfl, rfl⟩
    · exact h.kp k c hk
    · exact hE⟩
theorem PrS.less {K2 : Nat → Array Value → Prop} (h : PrS K w0 W b op prs eat ov nv) (hk : ∀ k c, K2 k c → K k c) : PrS K2 w0 W b op prs eat ov nv :=
  ⟨h.at_, h.row, h.nodes, h.few, h.be, h.kt, h.lo, fun k c h2 => h.kp k c (hk k c h2)⟩
/-- the flag is set -/
theorem PrS.flag (h : PrS K w0 W b op prs eat ov nv) (e : Bool) : PrS K w0 (W.setCell ⟨b, 2, none⟩ (.bool e)) b op prs e ov nv := by
  have hj := just_put (j := 2) h.at_ (.bool e) rfl
  exact ⟨hj.at_, row_just h.row h.at_ (by decide) hj.other, h.nodes.keep (fun _ _ _ hr => row_just hr h.at_ (by decide) hj.other) (fun _ _ _ hr => row_just hr h.at_ (by decide) hj.other), h.few, h.be.trans (just_low hj h.lo), h.kt, h.lo, fun E cs hk => (hj.other E (fun e => ev_ne (h.kp E cs hk) h.at_ (by decide) e)).trans (h.kp E cs hk)⟩
theorem trim_all (l : List UInt8) : (Lib.trimS l [9, 10, 12, 32] = []) ↔ l.all wsP = true := by
  have hc : ∀ c : UInt8, ([9, 10, 12, 32] : List UInt8).contains c = wsP c := fun c => by
    have := u8_all (p := fun c => ([9, 10, 12, 32] : List UInt8).contains c == wsP c) (by decide +kernel) c
    exact beq_iff_eq.1 this
  have hd : ∀ m : List UInt8, m.dropWhile (([9, 10, 12, 32] : List UInt8).contains ·) = [] ↔ m.all wsP = true := by
    intro m
    rw [List.all_eq_true]
    induction m with
    | nil => simp
    | cons a r ih =>
      rw [List.dropWhile_cons, hc a]
      cases h : wsP a with
      | true => rw [if_pos rfl, ih]; simp [h]
      | false =>
        rw [if_neg (by simp)]
        constructor
        · intro e; cases e
        · intro e; have := e a (List.mem_cons_self ..); rw [h] at this; cases this
  unfold Lib.trimS Lib.trimLeftS
  rw [hd]
  have hs : (Lib.trimRightS l [9, 10, 12, 32]).all wsP = true ↔ l.all wsP = true := by
    unfold Lib.trimRightS
    rw [List.all_reverse]
    constructor
    · intro h
      have h2 : l.reverse.dropWhile (([9, 10, 12, 32] : List UInt8).contains ·) = [] := by
        cases hdw : l.reverse.dropWhile (([9, 10, 12, 32] : List UInt8).contains ·) with
        | nil => rfl
        | cons a r =>
          rw [hdw] at h
          have h3 := List.head?_dropWhile_not (([9, 10, 12, 32] : List UInt8).contains ·) l.reverse
          rw [hdw] at h3
          simp only [List.head?_cons] at h3
          rw [hc a] at h3
          rw [List.all_cons, Bool.and_eq_true] at h
          rw [h.1] at h3
          simp at h3
      have := (hd l.reverse).1 h2
      rw [List.all_reverse] at this
      exact this
    · intro h
      rw [← List.all_reverse, ← hd] at h
      rw [h]
      rfl
  exact hs
theorem trim_any (l : List UInt8) (w : World) (hs : l.length ≤ 100000000) : Calls Tryz.prog 151 #[.string (bs l), .string ⟨#[9, 10, 12, 32]⟩] w fun e w' => e = .returned (.string (bs (Lib.trimS l [9, 10, 12, 32]))) ∧ Below w.heap.size w w' :=
  Any.strings_Trim_laid Tryz.lays160 (by kernel_rfl) (bs l) ⟨#[9, 10, 12, 32]⟩ w (by rw [bs_size]; omega) (by decide) (fun j c hj => by
    match j, hj with
    | 0, hj => cases hj; decide
    | 1, hj => cases hj; decide
    | 2, hj => cases hj; decide
    | 3, hj => cases hj; decide
    | n + 4, hj => simp at hj)
end Go.Proofs.YtcncbhbdpcpkeaaGreatDoor
