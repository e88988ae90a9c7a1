/-
  Parts of the walk, joined: FoldD.
-/
import Derived.Test.YtcncbhbdpcpkeaaGreatDoorPJAW
import Derived.Test.YtcncbhbdpcpkeaaGreatDoorPJAO
/-
  The code's folder: a text, a start: walks.
-/
namespace Go.Proofs.YtcncbhbdpcpkeaaGreatDoor
open Go.RowKit Go.Lib Own

theorem FldAt.drewN {W : World} {base b : Nat} {prs : List (EvP × Value)} {d td : Nat} {pend : List UInt8} (h : FldAt W base b prs d td pend) (n : Nat) : FldAt (W.drewN n) base b prs d td pend :=
  h.below (below_drewN (Below.refl _ _) n)
theorem FldTo.from {w w1 w' : World} {base b : Nat} {ns : List EvP} {d td n : Nat} {pend : List UInt8} (h : FldTo w1 w' base b ns d td pend n) (hb : Below base w w1) : FldTo w w' base b ns d td pend n := by
  obtain ⟨prs, h1, h2, h3, h4⟩ := h
  exact ⟨prs, h1, h2, h3, hb.trans h4⟩

set_option maxHeartbeats 4000000 in
set_option maxRecDepth 100000 in
theorem fldText_any (base b : Nat) (prs : List (EvP × Value)) (d td : Nat) (pend : List UInt8) (s : List UInt8) (w : World) (h : FldAt w base b prs d td pend) (hlen : prs.length ≤ 1000000000) (hsz : pend.length + s.length ≤ 100000000000000) :
    Calls Tryz.prog 82 #[.pointer (some ⟨b, 0, none⟩), .string (bs s)] w fun e w' => e = .returned (.tuple #[]) ∧
      (s = [] → w' = w) ∧ (s ≠ [] → td = d → FldTo w w' base b (prs.map Prod.fst) d d (pend ++ s) (prs.length + 1)) ∧ (s ≠ [] → td ≠ d → FldTo w w' base b (prs.map Prod.fst ++ pendN td pend) d d s (prs.length + 1)) := by
  by_cases h0 : s = []
  · subst h0
    go_enter Tryz.func82, Tryz.ntmps82
    have hx : (bs []).toList.isEmpty = true := by rw [bs_toList]; rfl
    go_wp2
    refine bodyPost_ret (v := .tuple #[]) ?_ rfl ⟨rfl, fun _ => rfl, fun q => absurd rfl q, fun q => absurd rfl q⟩
    simp [results, Tryz.results82]
  · have hx : (bs s).toList.isEmpty = false := by rw [bs_toList]; cases s with | nil => exact absurd rfl h0 | cons _ _ => rfl
    obtain ⟨nv, p, v, hin, hm⟩ := h.it
    -- the text is written behind what is there
    have hput : ∀ (W : World) (prs2 : List (EvP × Value)) (td2 : Nat) (q : List UInt8), FldAt W base b prs2 d td2 q → q.length + s.length ≤ 100000000000000 → Calls Tryz.prog 69 #[.pointer (some ⟨b, 2, none⟩), .string (bs s)] (W.setCell ⟨b, 4, none⟩ (.int .i64 d)) fun e w' => e = .returned (.tuple #[.int .i64 (bs s).size, .nilIface]) ∧ FldAt w' base b prs2 d d (q ++ s) ∧ Below base W w' := by
      intro W prs2 td2 q hW hq
      obtain ⟨nv, p, v, hin, hm⟩ := hW.it
      have j := just_put (j := 4) (cs2 := fldC nv d d p v) hin.at_ (.int .i64 (d : Int)) (by simp [fldC])
      have hin2 : InB (W.setCell ⟨b, 4, none⟩ (.int .i64 d)) base b 2 (fldC nv d d p v) 87 p v q := ⟨j.at_, hin.lo, rfl, rfl, hin.hp, hin.own.kept (row := some b) (just_grown j) (.inr hin.ne), hin.ne⟩
      have hm2 := made_just hin.at_ hm j.other
      refine (write_in base b 2 (fldC nv d d p v) 87 p v q (bs s) _ hin2 fld_lies (by decide) (by rw [bs_size]; omega)).mono ?_
      rintro e w' ⟨rfl, v', hi3, hb3, hk3⟩
      exact ⟨rfl, ⟨nv, _, v', hi3, made_others hin2 hm2 hk3⟩, (j.below hin.lo).trans hb3⟩
    obtain ⟨c0, c1, c4, f0, f1, f4⟩ := fld_cells hin.at_
    have hend := fun q => fldEnd_any base b prs d td pend (w.drewN q) (h.drewN q) hlen
    have HE := hid hend
    have HP := hid hput
    have HF := hid h
    have HX := hid h0
    clear hend hput hin hm h c0 f0 f1 h0
    by_cases hd : td = d
    · subst hd
      clear HE
      have hi : ((td : Int) != (td : Int)) = false := by simp
      go_enter Tryz.func82, Tryz.ntmps82
      go_wp2_with fail
      go_quiet (fail)
      go_wp2_with (go_at_call 69; refine (HP.out _ _ _ _ (HF.out.drewN _) (by omega)).mono ?_; rintro e w5 ⟨rfl, h5, b5⟩)
      have HZ := hid (And.intro h5 b5)
      clear h5 b5
      go_end0
      exact ⟨rfl, fun q => absurd q HX.out, fun _ _ => ⟨prs, HZ.out.1, rfl, by omega, ⟨HZ.out.2.os, HZ.out.2.tape, HZ.out.2.output, HZ.out.2.size, HZ.out.2.block⟩⟩, fun _ q => absurd rfl q⟩
    · have hi : ((td : Int) != (d : Int)) = true := by simp; omega
      go_enter Tryz.func82, Tryz.ntmps82
      go_wp2_with fail
      go_quiet (fail)
      go_wp2_with fail
      refine (HE.out nq).mono ?_
      rintro e w2 ⟨rfl, prs2, h2, hn2, hl2, b2⟩
      obtain ⟨nv2, p2, v2, hin2, _⟩ := h2.it
      obtain ⟨-, d1, d4, -, -, g4⟩ := fld_cells hin2.at_
      have H2 := hid h2
      have HB2 := hid (show Below base w w2 from ⟨b2.os, b2.tape, b2.output, b2.size, b2.block⟩)
      clear h2 b2 hin2 HE c1 c4 f4
      go_wp2_with (go_at_call 69; refine (HP.out _ _ _ _ H2.out (by simp only [List.length_nil]; omega)).mono ?_; rintro e w5 ⟨rfl, h5, b5⟩)
      have HZ := hid (And.intro h5 (HB2.out.trans b5))
      clear h5 b5
      go_end0
      exact ⟨rfl, fun q => absurd q HX.out, fun _ q => absurd q hd, fun _ _ => ⟨prs2, HZ.out.1, hn2, hl2, HZ.out.2⟩⟩

/-- what a start makes of a folder -/
def StartTo (w w' : World) (base b : Nat) (prs : List (EvP × Value)) (d td : Nat) (pend n : List UInt8) (al : List AttrP) : Prop :=
  (n = [] → FldTo w w' base b (prs.map Prod.fst) (d + 1) td pend (prs.length + 2)) ∧ (n ≠ [] → FldTo w w' base b (prs.map Prod.fst ++ pendN td pend ++ [⟨d, n, al, []⟩]) (if voidL n = true then d else d + 1) td [] (prs.length + 2))
set_option maxHeartbeats 4000000 in
set_option maxRecDepth 100000 in
theorem fldStart_any (base b : Nat) (prs : List (EvP × Value)) (d td : Nat) (pend : List UInt8) (n : List UInt8) (al : List AttrP) (u : Value) (w0 w : World) (h : FldAt w base b prs d td pend) (hlo : w0.heap.size ≤ base) (hb0 : Below w0.heap.size w0 w) (hT : KindsTab w0) (hu : AttrsR w0 u al) (hal : al.length ≤ 100000000)
    (hlen : prs.length ≤ 900000000) (hdd : d ≤ 1000000000) :
    Calls Tryz.prog 81 #[.pointer (some ⟨b, 0, none⟩), .string (bs n), u] w fun e w' => e = .returned (.tuple #[]) ∧
      StartTo w w' base b prs d td pend n al := by
  obtain ⟨i0, hi, hz0, hz1, hz2⟩ := info_parts info_node
  have hvd := fun W (hb : Below w0.heap.size w0 W) => isVoid_any (bs n) W (hT.below hb)
  rw [bs_toList] at hvd
  -- the depth goes up
  have hup : ∀ (W : World) (prs2 : List (EvP × Value)) (q : List UInt8), FldAt W base b prs2 d td q → FldAt (W.setCell ⟨b, 1, none⟩ (.int .i64 (d + 1 : Nat))) base b prs2 (d + 1) td q ∧ Below base W (W.setCell ⟨b, 1, none⟩ (.int .i64 (d + 1 : Nat))) := by
    intro W prs2 q hW
    obtain ⟨nv, p, v, hin, hm⟩ := hW.it
    have j := just_put (j := 1) (cs2 := fldC nv (d + 1) td p v) hin.at_ (.int .i64 ((d + 1 : Nat) : Int)) (by simp [fldC])
    exact ⟨⟨nv, p, v, ⟨j.at_, hin.lo, rfl, rfl, hin.hp, hin.own.kept (row := some b) (just_grown j) (.inr hin.ne), hin.ne⟩, made_just hin.at_ hm j.other⟩, j.below hin.lo⟩
  have hcast : ((d + 1 : Nat) : Int) = (d : Int) + 1 := by omega
  simp only [hcast] at hup
  have hvd0 : ∀ W, Below base w W → Below w0.heap.size w0 W := fun W hb => hb0.trans (hb.mono hlo)
  have HV := hid hvd
  have HU := hid hup
  have HB := hid hvd0
  have hbs : base ≤ w.heap.size := by obtain ⟨nv, p, v, hin, _⟩ := h.it; have := block_lt hin.at_; have := hin.lo; omega
  by_cases h0 : n = []
  · subst h0
    have hx : (bs []).toList.isEmpty = true := by rw [bs_toList]; rfl
    have hq : voidL [] = false := by decide +kernel
    rw [hq] at HV
    have HF := hid h
    clear hvd hup hvd0 h hu hq hT hb0
    go_enter Tryz.func81, Tryz.ntmps81
    go_wp2_with fail
    refine (HV.out _ (by exact HB.out _ (Below.refl _ _))).mono ?_
    rintro e w2 ⟨rfl, b2⟩
    have h2 := HF.out.below b2
    obtain ⟨nv2, p2, v2, hin2, _⟩ := h2.it
    obtain ⟨-, d1, -, -, g1, -⟩ := fld_cells hin2.at_
    have HZ := hid (HU.out _ _ _ h2)
    have HB2 := hid (b2.mono hbs)
    clear h2 b2 hin2
    go_wp2_with fail
    go_end0
    exact ⟨rfl, fun _ => ⟨prs, HZ.out.1, rfl, by omega, HB2.out.trans HZ.out.2⟩, fun q => absurd rfl q⟩
  · have hx : (bs n).toList.isEmpty = false := by rw [bs_toList]; cases n with | nil => exact absurd rfl h0 | cons _ _ => rfl
    have hend := fldEnd_any base b prs d td pend w h (by omega)
    have HE := hid hend
    have HUR := hid hu
    have HX := hid h0
    obtain ⟨vd, hvd2⟩ : ∃ vd, voidL n = vd := ⟨_, rfl⟩
    rw [hvd2] at HV
    have HVD := hid hvd2
    clear hvd hup hvd0 h hu hend hT h0 hvd2
    go_enter Tryz.func81, Tryz.ntmps81
    go_wp2_with fail
    refine HE.out.mono ?_
    rintro e w2 ⟨rfl, prs2, h2, hn2, hl2, b2⟩
    have hu2 := HUR.out.below (HB.out _ b2)
    have hsz2 := b2.size
    have H2 := hid (And.intro h2 b2)
    clear h2 b2 HE
    go_wp2_with (at_builtin; refine wpList_append_attrs rfl (.const (.slice none 0 0)) (.tmp 11) rfl w2.heap.size (.slice none 0 0) _ [] al rfl rfl (World.ownsRow_nil _ _ _ _) hu2 (Nat.le_refl _) (by simp only [List.length_nil]; omega) ?_)
    intro v3 w3 hrow3 hg3
    obtain ⟨vp, vc, rfl⟩ := row_shape hrow3
    have hb3 : Below w2.heap.size w2 w3 := ⟨hg3.os, hg3.tape, hg3.output, hg3.size, fun k hk => hg3.block k hk (fun e => by cases e)⟩
    have h3 := H2.out.1.below hb3
    obtain ⟨nv2, p2, v2, hin2, hm2⟩ := H2.out.1.it
    have hfr := hm2.fresh (u := .slice vp al.length vc) (fun g hg => (hrow3.lt g hg).1)
    have H3 := hid (And.intro h3 (And.intro (H2.out.2.trans (hb3.mono (by omega))) (And.intro (row_low hrow3 (show base ≤ w2.heap.size by omega)) hfr)))
    clear hrow3 hg3 hb3 h3 H2 hu2 hin2 hm2 hfr nv2 p2 v2
    obtain ⟨nv3, p3, v3, hin3, hm3⟩ := H3.out.1.it
    obtain ⟨c0, c1, -, f0, -, -⟩ := fld_cells hin3.at_
    have hrow := hm3.row
    have hneb : nv3.ownBlock ≠ some b := row_ne hm3.row hin3.at_ (by decide)
    have hbs3 := block_lt hin3.at_
    have HI3 := hid hin3
    have HM3 := hid hm3
    have hbe3 := H3.out.2.1.size
    clear hin3 hm3
    go_upto_region 3 with fail
    go_region_law (refine step_append_lies _ rfl (.tmp 17) (.tmp 25) 29 rfl base 38 i0 (.agg #[.int .i64 0, .string ⟨#[]⟩, .slice none 0 0, .string ⟨#[]⟩]) 4 64 Tryz.underlying29 hi hz0 hz1 hz2 rfl (by decide) nv3 prs2.length (ecells prs2) (by simp [Act.eval]) (by exact hrow.alloc _) ⟨_, 0, none⟩ 1 1 [.int .i64 d, .string (bs n), .slice vp al.length vc, .string ⟨#[]⟩] (by simp [Act.eval]) rfl (cells_newV _ _ _) (by simp [Value.oneCell', bs]) (by omega) (by unfold maxLen; omega) (by omega) (by simp; omega) _ rfl ?_; rintro g cap w10 hrow10 hgrow10 - -; have hb10 : w10.heap[b]? = some (.cells (fldC nv3 d td p3 v3) 87 (0, 0)) := ((hgrow10.block b (by simp; omega) (fun e => hneb e.symm)).trans (alloc_old _ _ b (by exact hbs3))).trans (by exact HI3.out.at_); obtain ⟨ce10, cd10, -, fe10, fd10, -⟩ := fld_cells hb10)
    all_goals
      have j1 := fld_node (nv2 := .slice (some ⟨g, 0, none⟩) (prs2.length + 1) cap) hb10
      have m10 := MadeN.more (W := w3.drew) (x := (⟨d, n, al, []⟩, .slice vp al.length vc)) (HM3.out.drewN 1) (by exact H3.out.2.2.1) (by exact H3.out.2.2.2) hgrow10 hrow10
      have hown9 : (w3.drew.alloc (.cells #[.int .i64 d, .string (bs n), .slice vp al.length vc, .string ⟨#[]⟩] 38)).ownsRowF base 5 1 v3 0 (byteCells []) := (show w3.drew.ownsRowF base 5 1 v3 0 (byteCells []) from HI3.out.own).kept (row := none) (World.grownBy_alloc w3.drew _ none) (by cases v3.ownBlock <;> simp)
      have hown10 := hown9.kept hgrow10 (rowF_ne hown9 (by exact hrow.alloc _) (by decide))
      have h11 : FldAt (w10.setCell ⟨b, 0, none⟩ (.slice (some ⟨g, 0, none⟩) (prs2.length + 1) cap)) base b (prs2 ++ [(⟨d, n, al, []⟩, .slice vp al.length vc)]) d td [] := ⟨_, p3, v3, ⟨j1.at_, HI3.out.lo, rfl, rfl, HI3.out.hp, hown10.kept (row := some b) (just_grown j1) (.inr HI3.out.ne), HI3.out.ne⟩, made_just hb10 m10 j1.other⟩
      have be3 := H3.out.2.1
      have b3' : Below base w w3.drew := ⟨be3.os, be3.tape, be3.output, be3.size, be3.block⟩
      have b10 : Below base w w10 := (b3'.alloc (show base ≤ w3.heap.size by omega) _).grown hgrow10 (by simp; omega) (fun k hk => (hrow.lt k hk).1)
      have b11 := b10.trans (j1.below HI3.out.lo)
      have hns : (prs2 ++ [((⟨d, n, al, []⟩ : EvP), Value.slice vp al.length vc)]).map Prod.fst = prs.map Prod.fst ++ pendN td pend ++ [⟨d, n, al, []⟩] := by rw [List.map_append, hn2]; rfl
      have hnl : (prs2 ++ [((⟨d, n, al, []⟩ : EvP), Value.slice vp al.length vc)]).length ≤ prs.length + 2 := by rw [List.length_append, List.length_singleton]; omega
      generalize prs2 ++ [((⟨d, n, al, []⟩ : EvP), Value.slice vp al.length vc)] = prs3 at h11 hns hnl
      have H11 := hid (And.intro h11 b11)
      clear j1 m10 hown9 hown10 h11 be3 b3' b10 b11 H3 HI3 HM3 hrow hrow10 hgrow10
      generalize w10.setCell ⟨b, 0, none⟩ (.slice (some ⟨g, 0, none⟩) (prs2.length + 1) cap) = w11 at H11 ⊢
      go_wp2_with fail
      refine (HV.out _ (by exact HB.out _ H11.out.2)).mono ?_
      rintro e w12 ⟨rfl, b12⟩
      have h12 := H11.out.1.below b12
      have hs11 := H11.out.2.size
      have b12' := H11.out.2.trans (b12.mono (by omega))
      cases vd with
      | true =>
        have HZ := hid (And.intro h12 b12')
        clear h12 b12 b12' H11
        go_wp2_with fail
        go_end0
        refine ⟨rfl, fun q => absurd q HX.out, fun _ => ?_⟩
        rw [HVD.out, if_pos rfl]
        exact ⟨prs3, HZ.out.1, hns, hnl, HZ.out.2⟩
      | false =>
        obtain ⟨nv5, p5, v5, hin5, _⟩ := h12.it
        obtain ⟨-, d1, -, -, g1, -⟩ := fld_cells hin5.at_
        have hz := HU.out _ _ _ h12
        have HZ := hid (And.intro hz.1 (b12'.trans hz.2))
        clear h12 b12 b12' H11 hin5 hz
        go_wp2_with fail
        go_end0
        refine ⟨rfl, fun q => absurd q HX.out, fun _ => ?_⟩
        rw [HVD.out, if_neg Bool.false_ne_true]
        exact ⟨prs3, HZ.out.1, hns, hnl, HZ.out.2⟩
end Go.Proofs.YtcncbhbdpcpkeaaGreatDoor
