/-
  Parts of the walk, joined: FoldD, FoldE, RefWrC, LendEv, MarkLaw.
-/
import Derived.Test.YtkcgmimldjeaiaaDoorJoinE
import Derived.Test.YtkcgmimldjeaiaaDoorJoinC
import Derived.Test.YtkcgmimldjeaiaaDoorJoinD
/-
  The code's folder: a text, a start: walks.
-/
namespace Go.Proofs.YtkcgmimldjeaiaaDoor
open Go.RowKit Go.Lib Own

theorem FldAt.drewN {W : World} {base b : Nat} {prs : List (EvP × Value)} {d td : Nat} {pend : List UInt8} (h : FldAt W base b prs d td pend) (n : Nat) : FldAt (W.drewN n) base b prs d td pend :=
  h.below (below_drewN (Below.refl _ _) n)
theorem FldTo.from {w w1 w' : World} {base b : Nat} {ns : List EvP} {d td n : Nat} {pend : List UInt8} (h : FldTo w1 w' base b ns d td pend n) (hb : Below base w w1) : FldTo w w' base b ns d td pend n := by
  obtain ⟨prs, h1, h2, h3, h4⟩ := h
  exact ⟨prs, h1, h2, h3, hb.trans h4⟩

set_option maxHeartbeats 4000000 in
set_option maxRecDepth 100000 in
theorem fldText_any (base b : Nat) (prs : List (EvP × Value)) (d td : Nat) (pend : List UInt8) (s : List UInt8) (w : World) (h : FldAt w base b prs d td pend) (hlen : prs.length ≤ 100000000) (hsz : pend.length + s.length ≤ 100000000000000) :
    Calls Tryd.prog 79 #[.pointer (some ⟨b, 0, none⟩), .string (bs s)] w fun e w' => e = .returned (.tuple #[]) ∧
      (s = [] → w' = w) ∧ (s ≠ [] → td = d → FldTo w w' base b (prs.map Prod.fst) d d (pend ++ s) (prs.length + 1)) ∧ (s ≠ [] → td ≠ d → FldTo w w' base b (prs.map Prod.fst ++ pendN td pend) d d s (prs.length + 1)) := by
  by_cases h0 : s = []
  · subst h0
    go_enter Tryd.func79, Tryd.ntmps79
    have hx : (bs []).toList.isEmpty = true := by rw [bs_toList]; rfl
    go_wp2
    refine bodyPost_ret (v := .tuple #[]) ?_ rfl ⟨rfl, fun _ => rfl, fun q => absurd rfl q, fun q => absurd rfl q⟩
    simp [results, Tryd.results79]
  · have hx : (bs s).toList.isEmpty = false := by rw [bs_toList]; cases s with | nil => exact absurd rfl h0 | cons _ _ => rfl
    obtain ⟨nv, p, v, hin, hm⟩ := h.it
    -- the text is written behind what is there
    have hput : ∀ (W : World) (prs2 : List (EvP × Value)) (td2 : Nat) (q : List UInt8), FldAt W base b prs2 d td2 q → q.length + s.length ≤ 100000000000000 → Calls Tryd.prog 76 #[.pointer (some ⟨b, 2, none⟩), .string (bs s)] (W.setCell ⟨b, 4, none⟩ (.int .i64 d)) fun e w' => e = .returned (.tuple #[.int .i64 (bs s).size, .nilIface]) ∧ FldAt w' base b prs2 d d (q ++ s) ∧ Below base W w' := by
      intro W prs2 td2 q hW hq
      obtain ⟨nv, p, v, hin, hm⟩ := hW.it
      have j := just_put (j := 4) (cs2 := fldC nv d d p v) hin.at_ (.int .i64 (d : Int)) (by simp [fldC])
      have hin2 : InB (W.setCell ⟨b, 4, none⟩ (.int .i64 d)) base b 2 (fldC nv d d p v) 95 p v q := ⟨j.at_, hin.lo, rfl, rfl, hin.hp, hin.own.kept (row := some b) (just_grown j) (.inr hin.ne), hin.ne⟩
      have hm2 := made_just hin.at_ hm j.other
      refine (write_in base b 2 (fldC nv d d p v) 95 p v q (bs s) _ hin2 fld_lies (by decide) (by rw [bs_size]; omega)).mono ?_
      rintro e w' ⟨rfl, v', hi3, hb3, hk3⟩
      exact ⟨rfl, ⟨nv, _, v', hi3, made_others hin2 hm2 hk3⟩, (j.below hin.lo).trans hb3⟩
    obtain ⟨c0, c1, c4, f0, f1, f4⟩ := fld_cells hin.at_
    have hend := fun q => fldEnd_any base b prs d td pend (w.drewN q) (h.drewN q) hlen
    have HE := hid hend
    have HP := hid hput
    have HF := hid h
    have HX := hid h0
    clear hend hput hin hm h c0 f0 f1 h0
    by_cases hd : td = d
    · subst hd
      clear HE
      have hi : ((td : Int) != (td : Int)) = false := by simp
      go_enter Tryd.func79, Tryd.ntmps79
      go_wp2_with fail
      go_quiet (fail)
      go_wp2_with (go_at_call 76; refine (HP.out _ _ _ _ (HF.out.drewN _) (by omega)).mono ?_; rintro e w5 ⟨rfl, h5, b5⟩)
      have HZ := hid (And.intro h5 b5)
      clear h5 b5
      go_end0
      exact ⟨rfl, fun q => absurd q HX.out, fun _ _ => ⟨prs, HZ.out.1, rfl, by omega, ⟨HZ.out.2.os, HZ.out.2.tape, HZ.out.2.output, HZ.out.2.size, HZ.out.2.block⟩⟩, fun _ q => absurd rfl q⟩
    · have hi : ((td : Int) != (d : Int)) = true := by simp; omega
      go_enter Tryd.func79, Tryd.ntmps79
      go_wp2_with fail
      go_quiet (fail)
      go_wp2_with fail
      refine (HE.out nq).mono ?_
      rintro e w2 ⟨rfl, prs2, h2, hn2, hl2, b2⟩
      obtain ⟨nv2, p2, v2, hin2, _⟩ := h2.it
      obtain ⟨-, d1, d4, -, -, g4⟩ := fld_cells hin2.at_
      have H2 := hid h2
      have HB2 := hid (show Below base w w2 from ⟨b2.os, b2.tape, b2.output, b2.size, b2.block⟩)
      clear h2 b2 hin2 HE c1 c4 f4
      go_wp2_with (go_at_call 76; refine (HP.out _ _ _ _ H2.out (by simp only [List.length_nil]; omega)).mono ?_; rintro e w5 ⟨rfl, h5, b5⟩)
      have HZ := hid (And.intro h5 (HB2.out.trans b5))
      clear h5 b5
      go_end0
      exact ⟨rfl, fun q => absurd q HX.out, fun _ q => absurd q hd, fun _ _ => ⟨prs2, HZ.out.1, hn2, hl2, HZ.out.2⟩⟩

/-- what a start makes of a folder -/
def StartTo (w w' : World) (base b : Nat) (prs : List (EvP × Value)) (d td : Nat) (pend n : List UInt8) (al : List AttrP) : Prop :=
  (n = [] → FldTo w w' base b (prs.map Prod.fst) (d + 1) td pend (prs.length + 2)) ∧ (n ≠ [] → FldTo w w' base b (prs.map Prod.fst ++ pendN td pend ++ [⟨d, n, al, []⟩]) (if voidL n = true then d else d + 1) td [] (prs.length + 2))
set_option maxHeartbeats 4000000 in
set_option maxRecDepth 100000 in
theorem fldStart_any (base b : Nat) (prs : List (EvP × Value)) (d td : Nat) (pend : List UInt8) (n : List UInt8) (al : List AttrP) (u : Value) (w0 w : World) (h : FldAt w base b prs d td pend) (hlo : w0.heap.size ≤ base) (hb0 : Below w0.heap.size w0 w) (hT : KindsTab w0) (hu : AttrsR w0 u al) (hal : al.length ≤ 100000000)
    (hlen : prs.length ≤ 10000000) (hdd : d ≤ 1000000000) :
    Calls Tryd.prog 78 #[.pointer (some ⟨b, 0, none⟩), .string (bs n), u] w fun e w' => e = .returned (.tuple #[]) ∧
      StartTo w w' base b prs d td pend n al := by
  obtain ⟨i0, hi, hz0, hz1, hz2⟩ := info_parts info_node
  have hvd := fun W (hb : Below w0.heap.size w0 W) => isVoid_any (bs n) W (hT.below hb)
  rw [bs_toList] at hvd
  -- the depth goes up
  have hup : ∀ (W : World) (prs2 : List (EvP × Value)) (q : List UInt8), FldAt W base b prs2 d td q → FldAt (W.setCell ⟨b, 1, none⟩ (.int .i64 (d + 1 : Nat))) base b prs2 (d + 1) td q ∧ Below base W (W.setCell ⟨b, 1, none⟩ (.int .i64 (d + 1 : Nat))) := by
    intro W prs2 q hW
    obtain ⟨nv, p, v, hin, hm⟩ := hW.it
    have j := just_put (j := 1) (cs2 := fldC nv (d + 1) td p v) hin.at_ (.int .i64 ((d + 1 : Nat) : Int)) (by simp [fldC])
    exact ⟨⟨nv, p, v, ⟨j.at_, hin.lo, rfl, rfl, hin.hp, hin.own.kept (row := some b) (just_grown j) (.inr hin.ne), hin.ne⟩, made_just hin.at_ hm j.other⟩, j.below hin.lo⟩
  have hcast : ((d + 1 : Nat) : Int) = (d : Int) + 1 := by omega
  simp only [hcast] at hup
  have hvd0 : ∀ W, Below base w W → Below w0.heap.size w0 W := fun W hb => hb0.trans (hb.mono hlo)
  have HV := hid hvd
  have HU := hid hup
  have HB := hid hvd0
  have hbs : base ≤ w.heap.size := by obtain ⟨nv, p, v, hin, _⟩ := h.it; have := block_lt hin.at_; have := hin.lo; omega
  by_cases h0 : n = []
  · subst h0
    have hx : (bs []).toList.isEmpty = true := by rw [bs_toList]; rfl
    have hq : voidL [] = false := by decide +kernel
    rw [hq] at HV
    have HF := hid h
    clear hvd hup hvd0 h hu hq hT hb0
    go_enter Tryd.func78, Tryd.ntmps78
    go_wp2_with fail
    refine (HV.out _ (by exact HB.out _ (Below.refl _ _))).mono ?_
    rintro e w2 ⟨rfl, b2⟩
    have h2 := HF.out.below b2
    obtain ⟨nv2, p2, v2, hin2, _⟩ := h2.it
    obtain ⟨-, d1, -, -, g1, -⟩ := fld_cells hin2.at_
    have HZ := hid (HU.out _ _ _ h2)
    have HB2 := hid (b2.mono hbs)
    clear h2 b2 hin2
    go_wp2_with fail
    go_end0
    exact ⟨rfl, fun _ => ⟨prs, HZ.out.1, rfl, by omega, HB2.out.trans HZ.out.2⟩, fun q => absurd rfl q⟩
  · have hx : (bs n).toList.isEmpty = false := by rw [bs_toList]; cases n with | nil => exact absurd rfl h0 | cons _ _ => rfl
    have hend := fldEnd_any base b prs d td pend w h (by omega)
    have HE := hid hend
    have HUR := hid hu
    have HX := hid h0
    obtain ⟨vd, hvd2⟩ : ∃ vd, voidL n = vd := ⟨_, rfl⟩
    rw [hvd2] at HV
    have HVD := hid hvd2
    clear hvd hup hvd0 h hu hend hT h0 hvd2
    go_enter Tryd.func78, Tryd.ntmps78
    go_wp2_with fail
    refine HE.out.mono ?_
    rintro e w2 ⟨rfl, prs2, h2, hn2, hl2, b2⟩
    have hu2 := HUR.out.below (HB.out _ b2)
    have hsz2 := b2.size
    have H2 := hid (And.intro h2 b2)
    clear h2 b2 HE
    go_wp2_with (at_builtin; refine wpList_append_attrs rfl (.const (.slice none 0 0)) (.tmp 11) rfl w2.heap.size (.slice none 0 0) _ [] al rfl rfl (World.ownsRow_nil _ _ _ _) hu2 (Nat.le_refl _) (by simp only [List.length_nil]; omega) ?_)
    intro v3 w3 hrow3 hg3
    obtain ⟨vp, vc, rfl⟩ := row_shape hrow3
    have hb3 : Below w2.heap.size w2 w3 := ⟨hg3.os, hg3.tape, hg3.output, hg3.size, fun k hk => hg3.block k hk (fun e => by cases e)⟩
    have h3 := H2.out.1.below hb3
    obtain ⟨nv2, p2, v2, hin2, hm2⟩ := H2.out.1.it
    have hfr := hm2.fresh (u := .slice vp al.length vc) (fun g hg => (hrow3.lt g hg).1)
    have H3 := hid (And.intro h3 (And.intro (H2.out.2.trans (hb3.mono (by omega))) (And.intro (row_low hrow3 (show base ≤ w2.heap.size by omega)) hfr)))
    clear hrow3 hg3 hb3 h3 H2 hu2 hin2 hm2 hfr nv2 p2 v2
    obtain ⟨nv3, p3, v3, hin3, hm3⟩ := H3.out.1.it
    obtain ⟨c0, c1, -, f0, -, -⟩ := fld_cells hin3.at_
    have hrow := hm3.row
    have hneb : nv3.ownBlock ≠ some b := row_ne hm3.row hin3.at_ (by decide)
    have hbs3 := block_lt hin3.at_
    have HI3 := hid hin3
    have HM3 := hid hm3
    have hbe3 := H3.out.2.1.size
    clear hin3 hm3
    go_upto_region 3 with fail
    go_region_law (refine step_append_lies _ rfl (.tmp 17) (.tmp 25) 44 rfl base 84 i0 (.agg #[.int .i64 0, .string ⟨#[]⟩, .slice none 0 0, .string ⟨#[]⟩]) 4 64 Tryd.underlying44 hi hz0 hz1 hz2 rfl (by decide) nv3 prs2.length (ecells prs2) (by simp [Act.eval]) (by exact hrow.alloc _) ⟨_, 0, none⟩ 1 1 [.int .i64 d, .string (bs n), .slice vp al.length vc, .string ⟨#[]⟩] (by simp [Act.eval]) rfl (cells_newV _ _ _) (by simp [Value.oneCell', bs]) (by omega) (by unfold maxLen; omega) (by omega) (by simp; omega) _ rfl ?_; rintro g cap w10 hrow10 hgrow10 - -; have hb10 : w10.heap[b]? = some (.cells (fldC nv3 d td p3 v3) 95 (0, 0)) := ((hgrow10.block b (by simp; omega) (fun e => hneb e.symm)).trans (alloc_old _ _ b (by exact hbs3))).trans (by exact HI3.out.at_); obtain ⟨ce10, cd10, -, fe10, fd10, -⟩ := fld_cells hb10)
    all_goals
      have j1 := fld_node (nv2 := .slice (some ⟨g, 0, none⟩) (prs2.length + 1) cap) hb10
      have m10 := MadeN.more (W := w3.drew) (x := (⟨d, n, al, []⟩, .slice vp al.length vc)) (HM3.out.drewN 1) (by exact H3.out.2.2.1) (by exact H3.out.2.2.2) hgrow10 hrow10
      have hown9 : (w3.drew.alloc (.cells #[.int .i64 d, .string (bs n), .slice vp al.length vc, .string ⟨#[]⟩] 84)).ownsRowF base 5 1 v3 0 (byteCells []) := (show w3.drew.ownsRowF base 5 1 v3 0 (byteCells []) from HI3.out.own).kept (row := none) (World.grownBy_alloc w3.drew _ none) (by cases v3.ownBlock <;> simp)
      have hown10 := hown9.kept hgrow10 (rowF_ne hown9 (by exact hrow.alloc _) (by decide))
      have h11 : FldAt (w10.setCell ⟨b, 0, none⟩ (.slice (some ⟨g, 0, none⟩) (prs2.length + 1) cap)) base b (prs2 ++ [(⟨d, n, al, []⟩, .slice vp al.length vc)]) d td [] := ⟨_, p3, v3, ⟨j1.at_, HI3.out.lo, rfl, rfl, HI3.out.hp, hown10.kept (row := some b) (just_grown j1) (.inr HI3.out.ne), HI3.out.ne⟩, made_just hb10 m10 j1.other⟩
      have be3 := H3.out.2.1
      have b3' : Below base w w3.drew := ⟨be3.os, be3.tape, be3.output, be3.size, be3.block⟩
      have b10 : Below base w w10 := (b3'.alloc (show base ≤ w3.heap.size by omega) _).grown hgrow10 (by simp; omega) (fun k hk => (hrow.lt k hk).1)
      have b11 := b10.trans (j1.below HI3.out.lo)
      have hns : (prs2 ++ [((⟨d, n, al, []⟩ : EvP), Value.slice vp al.length vc)]).map Prod.fst = prs.map Prod.fst ++ pendN td pend ++ [⟨d, n, al, []⟩] := by rw [List.map_append, hn2]; rfl
      have hnl : (prs2 ++ [((⟨d, n, al, []⟩ : EvP), Value.slice vp al.length vc)]).length ≤ prs.length + 2 := by rw [List.length_append, List.length_singleton]; omega
      generalize prs2 ++ [((⟨d, n, al, []⟩ : EvP), Value.slice vp al.length vc)] = prs3 at h11 hns hnl
      have H11 := hid (And.intro h11 b11)
      clear j1 m10 hown9 hown10 h11 be3 b3' b10 b11 H3 HI3 HM3 hrow hrow10 hgrow10
      generalize w10.setCell ⟨b, 0, none⟩ (.slice (some ⟨g, 0, none⟩) (prs2.length + 1) cap) = w11 at H11 ⊢
      go_wp2_with fail
      refine (HV.out _ (by exact HB.out _ H11.out.2)).mono ?_
      rintro e w12 ⟨rfl, b12⟩
      have h12 := H11.out.1.below b12
      have hs11 := H11.out.2.size
      have b12' := H11.out.2.trans (b12.mono (by omega))
      cases vd with
      | true =>
        have HZ := hid (And.intro h12 b12')
        clear h12 b12 b12' H11
        go_wp2_with fail
        go_end0
        refine ⟨rfl, fun q => absurd q HX.out, fun _ => ?_⟩
        rw [HVD.out, if_pos rfl]
        exact ⟨prs3, HZ.out.1, hns, hnl, HZ.out.2⟩
      | false =>
        obtain ⟨nv5, p5, v5, hin5, _⟩ := h12.it
        obtain ⟨-, d1, -, -, g1, -⟩ := fld_cells hin5.at_
        have hz := HU.out _ _ _ h12
        have HZ := hid (And.intro hz.1 (b12'.trans hz.2))
        clear h12 b12 b12' H11 hin5 hz
        go_wp2_with fail
        go_end0
        refine ⟨rfl, fun q => absurd q HX.out, fun _ => ?_⟩
        rw [HVD.out, if_neg Bool.false_ne_true]
        exact ⟨prs3, HZ.out.1, hns, hnl, HZ.out.2⟩
end Go.Proofs.YtkcgmimldjeaiaaDoor

/-
  The code's folder: take, and markup.Fold: walks.
-/
namespace Go.Proofs.YtkcgmimldjeaiaaDoor
open Go.RowKit Go.Lib Own

/-- what an event makes of a folder -/
def TakeTo (w w' : World) (base b : Nat) (prs : List (EvP × Value)) (d td : Nat) (pend : List UInt8) (e : EvP) : Prop :=
  ∃ prs' d' td' pend', FldAt w' base b prs' d' td' pend' ∧ (∀ r, prs'.map Prod.fst ++ restN d' td' pend' r = prs.map Prod.fst ++ restN d td pend (e :: r)) ∧ prs'.length ≤ prs.length + 2 ∧ d' ≤ d + 1 ∧ pend'.length ≤ pend.length + e.t.length ∧ Below base w w'
theorem FldTo.take {w w' : World} {base b : Nat} {prs : List (EvP × Value)} {d td d' td' n : Nat} {pend pend' : List UInt8} {e : EvP} {ns : List EvP} (h : FldTo w w' base b ns d' td' pend' n) (he : ∀ r, ns ++ restN d' td' pend' r = prs.map Prod.fst ++ restN d td pend (e :: r))
    (hn : n ≤ prs.length + 2) (hd : d' ≤ d + 1) (hp : pend'.length ≤ pend.length + e.t.length) : TakeTo w w' base b prs d td pend e := by
  obtain ⟨prs', h1, h2, h3, h4⟩ := h
  exact ⟨prs', d', td', pend', h1, fun r => by rw [h2]; exact he r, by omega, hd, hp, h4⟩
theorem TakeTo.from {w w1 w' : World} {base b : Nat} {prs : List (EvP × Value)} {d td : Nat} {pend : List UInt8} {e : EvP} (h : TakeTo w1 w' base b prs d td pend e) (hb : Below base w w1) : TakeTo w w' base b prs d td pend e := by
  obtain ⟨a, b, c, d, h1, h2, h3, h4, h5, h6⟩ := h
  exact ⟨a, b, c, d, h1, h2, h3, h4, h5, hb.trans h6⟩
theorem start_take {w w' : World} {base b : Nat} {prs : List (EvP × Value)} {d td : Nat} {pend : List UInt8} {e : EvP} (hk : e.k = 1) (h : StartTo w w' base b prs d td pend e.n e.a) : TakeTo w w' base b prs d td pend e := by
  by_cases h0 : e.n = []
  · exact (h.1 h0).take (fun r => by rw [restN_anon d td pend e r hk h0]) (Nat.le_refl _) (Nat.le_refl _) (by omega)
  · exact (h.2 h0).take (fun r => by rw [restN_start d td pend e r hk h0, List.append_assoc, List.append_assoc]; rfl) (Nat.le_refl _) (by split <;> omega) (by simp)
theorem text_take {w w' : World} {base b : Nat} {prs : List (EvP × Value)} {d td : Nat} {pend : List UInt8} {e : EvP} (hk : e.k = 3) (hf : FldAt w base b prs d td pend)
    (h : (e.t = [] → w' = w) ∧ (e.t ≠ [] → td = d → FldTo w w' base b (prs.map Prod.fst) d d (pend ++ e.t) (prs.length + 1)) ∧ (e.t ≠ [] → td ≠ d → FldTo w w' base b (prs.map Prod.fst ++ pendN td pend) d d e.t (prs.length + 1))) : TakeTo w w' base b prs d td pend e := by
  by_cases h0 : e.t = []
  · obtain rfl := h.1 h0
    exact ⟨prs, d, td, pend, hf, fun r => by rw [restN_pass d td pend e r (by omega) (by omega) (fun q => q.2 h0)], by omega, by omega, by omega, Below.refl _ _⟩
  · by_cases hd : td = d
    · exact (h.2.1 h0 hd).take (fun r => by rw [restN_join d td pend e r hk h0 hd]) (by omega) (by omega) (by simp)
    · exact (h.2.2 h0 hd).take (fun r => by rw [restN_part d td pend e r hk h0 hd, List.append_assoc]) (by omega) (by omega) (by omega)

set_option maxHeartbeats 4000000 in
set_option maxRecDepth 100000 in
theorem fldTake_any (base b : Nat) (prs : List (EvP × Value)) (d td : Nat) (pend : List UInt8) (e : EvP) (u : Value) (w0 w : World) (h : FldAt w base b prs d td pend) (hlo : w0.heap.size ≤ base) (hb0 : Below w0.heap.size w0 w) (hT : KindsTab w0) (hu : AttrsR w0 u e.a)
    (hal : e.n.length + e.t.length + bulkA e.a ≤ 100000000) (hlen : prs.length ≤ 10000000) (hdd : d ≤ 1000000000) (hp : pend.length ≤ 50000000000000) :
    Calls Tryd.prog 46 #[.pointer (some ⟨b, 0, none⟩), .agg (evC e u)] w fun r w' => r = .returned (.tuple #[]) ∧ TakeTo w w' base b prs d td pend e := by
  have hbs : base ≤ w.heap.size := by obtain ⟨nv, p, v, hin, _⟩ := h.it; have := block_lt hin.at_; have := hin.lo; omega
  have hatl := bulkA_len e.a
  obtain ⟨W1, hW1⟩ : ∃ W1, w.alloc (.cells (evC e u) 39) = W1 := ⟨_, rfl⟩
  have hB : Below w.heap.size w W1 := by rw [← hW1]; exact (Below.refl w.heap.size w).alloc (Nat.le_refl _) _
  have hn1 : W1.heap[w.heap.size]? = some (.cells (evC e u) 39 (0, 0)) := by rw [← hW1]; exact heap_alloc_new w _
  have h1 := h.below hB
  have hb1 := hb0.trans (hB.mono hb0.size)
  obtain ⟨up, uc, rfl⟩ := hu.len
  have hst := fldStart_any base b prs d td pend e.n e.a (.slice up e.a.length uc) w0 W1 h1 hlo hb1 hT hu (by omega) hlen hdd
  have htx := fldText_any base b prs d td pend e.t W1 h1 (by omega) (by omega)
  obtain ⟨d0, d1, d2, d3⟩ := evC_at hn1
  obtain ⟨nv, p, v, hin, hm⟩ := h1.it
  obtain ⟨-, c1, -, -, f1, -⟩ := fld_cells hin.at_
  have hdn : ∀ m : Nat, FldAt (W1.setCell ⟨b, 1, none⟩ (.int .i64 m)) base b prs m td pend ∧ Below base W1 (W1.setCell ⟨b, 1, none⟩ (.int .i64 m)) := fun m => by
    have j := just_put (j := 1) (cs2 := fldC nv m td p v) hin.at_ (.int .i64 (m : Int)) (by simp [fldC])
    exact ⟨⟨nv, p, v, ⟨j.at_, hin.lo, rfl, rfl, hin.hp, hin.own.kept (row := some b) (just_grown j) (.inr hin.ne), hin.ne⟩, made_just hin.at_ hm j.other⟩, j.below hin.lo⟩
  have HST := hid hst
  have HTX := hid htx
  have HDN := hid hdn
  have HF := hid (And.intro h1 (hB.mono hbs))
  unfold evC at hW1
  unfold evC
  clear hst htx hdn h1 hB hn1 h hb0 hb1 hT hu hin hm hatl
  go_enter Tryd.func46, Tryd.ntmps46
  go_upto_region 1 with fail
  clear hW1
  by_cases k1 : e.k = 1
  · have HK := hid k1
    rw [k1] at d0
    clear HTX HDN c1 f1 k1
    go_wp2_with fail
    refine HST.out.mono ?_
    rintro r w2 ⟨rfl, h2⟩
    have HZ := hid ((start_take HK.out h2).from HF.out.2)
    clear h2
    go_wp2_with fail
    go_end0
    exact ⟨rfl, HZ.out⟩
  have n1 : (e.k == 1) = false := beq_eq_false_iff_ne.2 k1
  by_cases k2 : e.k = 2
  · have HK := hid k2
    have HK1 := hid k1
    rw [k2] at d0 n1
    clear HTX HST k1 k2
    cases d with
    | zero =>
      have hd0 := HDN.out 0
      have HZ := hid hd0
      clear HDN hd0
      go_wp2_with fail
      go_end0
      refine ⟨rfl, prs, 0, td, pend, HZ.out.1, fun r => ?_, by omega, by omega, by omega, HF.out.2.trans HZ.out.2⟩
      rw [restN_stop 0 td pend e r HK.out]
    | succ q =>
      have hd0 := HDN.out q
      have hmx : max (((q + 1 : Nat) : Int) - 1) 0 = (q : Int) := by omega
      have HZ := hid hd0
      clear HDN hd0
      go_wp2_with fail
      go_end0
      refine ⟨rfl, prs, q, td, pend, HZ.out.1, fun r => ?_, by omega, by omega, by omega, HF.out.2.trans HZ.out.2⟩
      rw [restN_stop (q + 1) td pend e r HK.out]
      rfl
  have n2 : (e.k == 2) = false := beq_eq_false_iff_ne.2 k2
  by_cases k3 : e.k = 3
  · have HK := hid k3
    rw [k3] at d0 n1 n2
    clear HST HDN c1 f1 k1 k2 k3
    go_wp2_with fail
    refine HTX.out.mono ?_
    rintro r w2 ⟨rfl, h2⟩
    have HZ := hid ((text_take HK.out HF.out.1 h2).from HF.out.2)
    clear h2
    go_wp2_with fail
    go_end0
    exact ⟨rfl, HZ.out⟩
  have n3 : (e.k == 3) = false := beq_eq_false_iff_ne.2 k3
  have HK := hid (And.intro k1 (And.intro k2 k3))
  clear HST HDN HTX c1 f1 k1 k2 k3
  go_wp2_with fail
  go_end0
  exact ⟨rfl, prs, d, td, pend, HF.out.1, fun r => by rw [restN_pass d td pend e r HK.out.1 HK.out.2.1 (fun q => HK.out.2.2 q.1)], by omega, by omega, by omega, HF.out.2⟩

set_option maxHeartbeats 4000000 in
set_option maxRecDepth 100000 in
theorem fold_any (ev : Value) (es : List EvP) (w : World) (h : EvsR w ev es) (hs : bulkE es ≤ 4000000) (hT : KindsTab w) :
    Calls Tryd.prog 19 #[ev] w fun r w' => ∃ v prs, r = .returned v ∧ MadeN w' w.heap.size v prs ∧ prs.map Prod.fst = foldP es ∧ Below w.heap.size w w' := by
  obtain ⟨p, c, rfl, hl, hcm, hcell⟩ := h
  have hlen := bulkE_len es
  obtain ⟨R, hR⟩ : ∃ R, foldP es = R := ⟨_, rfl⟩
  rw [hR]
  have hb1 := (Below.refl w.heap.size w).alloc (Nat.le_refl _) (.cells (fldC (.slice none 0 0) 0 0 (.pointer none) (.slice none 0 0)) 95)
  have hn1 := heap_alloc_new w (.cells (fldC (.slice none 0 0) 0 0 (.pointer none) (.slice none 0 0)) 95)
  have H0 : Hid (FldAt (w.alloc (.cells (fldC (.slice none 0 0) 0 0 (.pointer none) (.slice none 0 0)) 95)) w.heap.size w.heap.size [] 0 0 [] ∧ Below w.heap.size w (w.alloc (.cells (fldC (.slice none 0 0) 0 0 (.pointer none) (.slice none 0 0)) 95))) :=
    ⟨⟨_, _, _, ⟨hn1, Nat.le_refl _, rfl, rfl, .inl rfl, ⟨rfl, .inl ⟨rfl, rfl⟩⟩, by simp [Value.ownBlock]⟩, MadeN.nil _ _⟩, hb1⟩
  have HC := hid hcell
  have HT := hid hT
  have HS := hid hs
  have HR := hid (fun (_ : True) => (by rw [foldP_eq] at hR; exact hR : ([] : List (EvP × Value)).map Prod.fst ++ restN 0 0 [] es = R))
  have hln : es.length ≤ 4000000 := by omega
  unfold fldC at H0
  clear hcell hs hR hb1 hn1 hlen hT
  go_enter Tryd.func19, Tryd.ntmps19
  go_wp2_with fail
  go_loopw [8] (fun iv wr => ∃ (k : Nat) (prs : List (EvP × Value)) (d td : Nat) (q : List UInt8), iv = .int .i64 k ∧ k ≤ es.length ∧ Hid (FldAt wr w.heap.size w.heap.size prs d td q ∧ Below w.heap.size w wr ∧ prs.length ≤ 2 * k ∧ d ≤ k ∧ q.length ≤ 10000000 * k) ∧ Hid (True → prs.map Prod.fst ++ restN d td q (es.drop k) = R)) (fun iv _ => es.length - (RowKit.intOf iv).toNat)
  case atStart => exact ⟨0, [], 0, 0, [], rfl, Nat.zero_le _, hid ⟨H0.out.1, H0.out.2, by simp, by omega, by simp⟩, HR⟩
  case round =>
    obtain ⟨k, prs, d, td, q, rfl, hk, HX, HK⟩ := hrel
    clear H0 HR
    by_cases hkl : k < es.length
    · obtain ⟨e, he⟩ : ∃ e, es[k]? = some e := ⟨_, List.getElem?_eq_getElem hkl⟩
      obtain ⟨b, o, u, rfl, q0, q1, q2, q3, q4⟩ := HC.out k e he
      have hab := bulkE_get he
      have hd := HK.out trivial
      rw [drop_at he] at hd
      have hHS := HS.out
      obtain ⟨hf, hbx, hpl, hdk, hql⟩ := HX.out
      have hlo := cell_block q0
      replace q0 := cell_low q0 hbx hlo
      replace q1 := cell_low q1 hbx hlo
      replace q2 := cell_low q2 hbx hlo
      replace q3 := cell_low q3 hbx hlo
      obtain ⟨up, uc, rfl⟩ := q4.len
      have hB1 := (Below.refl wr.heap.size wr).alloc (Nat.le_refl _) (.cells (evC e (.slice up e.a.length uc)) 39)
      have hbw1 := hbx.trans (hB1.mono hbx.size)
      have htk := fldTake_any w.heap.size w.heap.size prs d td q e (.slice up e.a.length uc) w (wr.alloc (.cells (evC e (.slice up e.a.length uc)) 39)) (hf.below hB1) (Nat.le_refl _) hbw1 HT.out q4 (by omega) (by omega) (by omega) (by omega)
      unfold evC at htk hbw1
      have HTK := hid htk
      have HB1 := hid hbw1
      have HD := hid (fun (_ : True) => hd)
      have HN := hid (And.intro hpl (And.intro hdk (And.intro hql (show e.t.length ≤ 10000000 by omega))))
      clear htk hd hHS hbx hlo hab he q4 HK HC hB1 hbw1 hf hpl hdk hql HX
      go_wp2_with (go_at_call 46; refine HTK.out.mono ?_; rintro r W2 ⟨rfl, prs', d', td', q', h1, h2, h3, h4, h5, h6⟩)
      have HE := hid (fun (_ : True) => (h2 _).trans (HD.out trivial))
      have HZ := hid (And.intro h1 (And.intro (HB1.out.trans h6) (And.intro (show prs'.length ≤ 2 * (k + 1) by have := HN.out.1; omega) (And.intro (show d' ≤ k + 1 by have := HN.out.2.1; omega) (show q'.length ≤ 10000000 * (k + 1) by have := HN.out.2.2.1; have := HN.out.2.2.2; omega)))))
      clear h1 h2 h3 h4 h5 h6 HB1 HTK HD HN q0 q1 q2 q3
      go_roundw
      case rel => first | exact ⟨k + 1, _, _, _, _, rfl, by omega, HZ, HE⟩ | ((repeat apply Exists.intro); exact ⟨⟨k + 1, _, _, _, _, rfl, by omega, HZ, HE⟩, rfl⟩)
      case measure => simp [RowKit.intOf]; omega
    · have hfin : prs.map Prod.fst ++ pendN td q = R := by
        have := HK.out trivial
        rw [List.drop_of_length_le (by omega), restN_end] at this
        exact this
      obtain ⟨hf, hbx, hpl, hdk, hql⟩ := HX.out
      have HST := hid (fldEnd_any w.heap.size w.heap.size prs d td q wr hf (by omega))
      have HB := hid hbx
      have HFI := hid hfin
      clear HK HC hf hpl hdk hql hfin HX hbx
      go_wp2_with fail
      refine HST.out.mono ?_
      rintro r W2 ⟨rfl, prs2, h2, hn2, hl2, b2⟩
      obtain ⟨nv2, p2, v2, hin2, hm2⟩ := h2.it
      obtain ⟨c0, -, -, -, -, -⟩ := fld_cells hin2.at_
      have HY := hid (And.intro hm2 (And.intro (hn2.trans HFI.out) (HB.out.trans b2)))
      clear b2 h2 hin2 hm2 HB HST
      go_wp2_with fail
      go_ret
      exact ⟨nv2, prs2, rfl, HY.out.1, HY.out.2.1, HY.out.2.2⟩
end Go.Proofs.YtkcgmimldjeaiaaDoor

/-
  The reference's Write, tagFits: their walks.
-/
namespace Go.Proofs.YtkcgmimldjeaiaaDoor
open Go.RowKit Go.Lib Own

theorem evs_single' {W : World} {g : Nat} {e : EvP} {u : Value} {T : TypeId} (h : W.heap[g]? = some (.cells (evC e u) T (0, 0))) (hu : AttrsR W u e.a) : EvsR W (.slice (some ⟨g, 0, none⟩) 1 1) [e] := by
  refine ⟨_, 1, rfl, Nat.le_refl _, by omega, fun j x hj => ?_⟩
  obtain ⟨c0, c1, c2, c3⟩ := evC_at h
  cases j with
  | zero =>
    simp only [List.getElem?_cons_zero, Option.some.injEq] at hj
    subst hj
    exact ⟨g, 0, u, rfl, c0, c1, c2, c3, hu⟩
  | succ j => simp at hj
theorem pieceR_len (e : EvP) (r : List EvP) : (pieceR e r).length ≤ 6 * (e.n.length + e.t.length + bulkA e.a + 1) := by
  have h1 := attrs_len e.a
  have h2 := esc_len false _ e.t (Nat.le_refl _)
  have h3 : (openL e.n e.a).length = 2 + e.n.length + (e.a.flatMap attrL).length := by unfold openL; simp only [List.length_append, List.length_cons, List.length_nil]; omega
  have h4 : (etagL e.n).length = 3 + e.n.length := by unfold etagL; simp only [List.length_append, List.length_cons, List.length_nil]; omega
  have h5 : ∀ c : Prop, [Decidable c] → (if c then [(10 : UInt8)] else []).length ≤ 1 := by intro c _; split <;> simp
  have h6 := h5 (eatsL e.n = true ∧ nlAhead r = true)
  unfold pieceR
  split
  · rw [List.length_append]; omega
  · split
    · omega
    · split
      · omega
      · simp
theorem writeR_len : ∀ es : List EvP, (writeR es).length ≤ 6 * bulkE es
  | [] => by simp [writeR]
  | e :: r => by
    have h1 := pieceR_len e r
    have h2 := writeR_len r
    rw [show writeR (e :: r) = pieceR e r ++ writeR r from rfl, List.length_append, bulkE_cons]
    omega

set_option maxHeartbeats 8000000 in
set_option maxRecDepth 100000 in
theorem refWrite_any (ev : Value) (es : List EvP) (w : World) (h : EvsR w ev es) (hs : bulkE es ≤ 3000000) :
    Calls Tryd.prog 17 #[ev] w fun r w' => r = .returned (.string (bs (writeR es))) ∧ Below w.heap.size w w' := by
  have hE := h
  obtain ⟨p, c, rfl, hl, hcm, hcell⟩ := h
  have hlen := bulkE_len es
  have hwl := writeR_len es
  obtain ⟨R, hR⟩ : ∃ R, writeR es = R := ⟨_, rfl⟩
  rw [hR] at hwl ⊢
  have HR : Hid (True → [] ++ writeR (es.drop 0) = R) := fun _ => hR
  have HE := hid hE
  have HC := hid hcell
  have HS := hid hs
  have HWL := hid (show R.length ≤ 18000000 by omega)
  have hln : es.length ≤ 3000000 := by omega
  have hts : ∀ e ∈ es, e.t.length ≤ 100000000 := fun e he => by
    obtain ⟨k, hk⟩ := List.getElem?_of_mem he
    have := bulkE_get hk
    omega
  have HTS := hid hts
  obtain ⟨i0, hi, hz0, hz1, hz2⟩ := info_parts info_u8
  clear hE hcell hs hwl hR hlen hts
  go_enter Tryd.func17, Tryd.ntmps17
  go_wp2_with fail
  go_loopw [3, 4] (fun bv iv wr => ∃ (k : Nat) (acc : List UInt8), iv = .int .i64 k ∧ k ≤ es.length ∧ Hid (wr.ownsRowF w.heap.size 5 1 bv acc.length (byteCells acc) ∧ Below w.heap.size w wr) ∧ Hid (True → acc ++ writeR (es.drop k) = R)) (fun _ iv _ => es.length - (RowKit.intOf iv).toNat)
  case atStart => exact ⟨0, [], rfl, Nat.zero_le _, hid ⟨World.ownsRowF_of (World.ownsRow_nil _ _ _ _), Below.refl _ _⟩, HR⟩
  case round =>
    obtain ⟨k, acc, rfl, hk, HX, HK⟩ := hrel
    obtain ⟨bp, bc, rfl⟩ := row_shapeF HX.out.1
    clear HR
    by_cases hkl : k < es.length
    · obtain ⟨e, he⟩ : ∃ e, es[k]? = some e := ⟨_, List.getElem?_eq_getElem hkl⟩
      obtain ⟨b, o, u, rfl, q0, q1, q2, q3, q4⟩ := HC.out k e he
      obtain ⟨hown, hbw⟩ := HX.out
      have hab := bulkE_get he
      have hSS := HS.out
      have hq4 := q4.below hbw
      replace q0 := cell_low q0 hbw (cell_block q0)
      replace q1 := cell_low q1 hbw (cell_block q1)
      replace q2 := cell_low q2 hbw (cell_block q2)
      replace q3 := cell_low q3 hbw (cell_block q3)
      obtain ⟨up, uc, rfl⟩ := q4.len
      have hd := HK.out trivial
      rw [drop_at he, show writeR (e :: es.drop (k + 1)) = pieceR e (es.drop (k + 1)) ++ writeR (es.drop (k + 1)) from rfl] at hd
      obtain ⟨W4, hW4⟩ : ∃ W4, wr.alloc (.cells (evC e (.slice up e.a.length uc)) 39) = W4 := ⟨_, rfl⟩
      have hb4 : Below wr.heap.size wr W4 := by rw [← hW4]; exact (Below.refl _ _).alloc (Nat.le_refl _) _
      have hn4 : W4.heap[wr.heap.size]? = some (.cells (evC e (.slice up e.a.length uc)) 39 (0, 0)) := by rw [← hW4]; exact heap_alloc_new _ _
      have hbw4 := hbw.trans (hb4.mono hbw.size)
      have hop := refOpener_any e (.slice up e.a.length uc) W4 (hq4.below hb4) (by omega)
      have hea := fun W => refEatsW_any (bs e.n) W
      rw [bs_toList] at hea
      have hfa := fun W (hb : Below w.heap.size w W) => feedAhead_any (.slice (some ⟨b, o, none⟩) es.length c) es k W (HE.out.below hb) hkl HTS.out
      have hes := fun W => refEscaped_any (bs e.t) false W (by rw [bs_size]; omega)
      rw [bs_data] at hes
      have hdl := congrArg List.length hd
      have hRl := HWL.out
      simp only [List.length_append] at hdl
      have hown4 : W4.ownsRowF w.heap.size 5 1 (.slice bp acc.length bc) acc.length (byteCells acc) := hown.kept (row := none) ⟨hb4.os, hb4.tape, hb4.output, hb4.size, fun k hk _ => hb4.block k hk⟩ (Classical.em _)
      have H4 := hid (And.intro hown4 hbw4)
      -- the end of a round: a text behind the row
      have fin : ∀ (S : ByteArray) (L : List UInt8) (W : World), bs L = S → L = pieceR e (es.drop (k + 1)) → Below W4.heap.size W4 W → ∀ (v' : Value) (W' : World), W'.ownsRowF w.heap.size 5 1 v' (acc.length + S.size) (byteCells acc ++ strCells S) → W.grownBy W' (Value.slice bp acc.length bc).ownBlock →
          Hid (W'.ownsRowF w.heap.size 5 1 v' (acc ++ L).length (byteCells (acc ++ L)) ∧ Below w.heap.size w W') ∧ Hid (True → (acc ++ L) ++ writeR (es.drop (k + 1)) = R) := by
        intro S L W hS hL hb v' W' ho hg
        have hoW : W.ownsRowF w.heap.size 5 1 (.slice bp acc.length bc) acc.length (byteCells acc) := hown4.kept (row := none) ⟨hb.os, hb.tape, hb.output, hb.size, fun k hk _ => hb.block k hk⟩ (Classical.em _)
        refine ⟨⟨?_, (hbw4.trans (hb.mono hbw4.size)).grown hg (Nat.le_trans hbw4.size hb.size) (fun k hk => (hoW.lt k hk).1)⟩, fun _ => by rw [List.append_assoc, hL]; exact hd⟩
        rw [List.length_append, Lib.byteCells_append]
        subst hS
        rw [bs_size, show strCells (bs L) = byteCells L from strCells_byte _] at ho
        exact ho
      have FIN := hid fin
      have hownW : ∀ W, Below W4.heap.size W4 W → W.ownsRowF w.heap.size 5 1 (.slice bp acc.length bc) acc.length (byteCells acc) := fun W hb => hown4.kept (row := none) ⟨hb.os, hb.tape, hb.output, hb.size, fun k hk _ => hb.block k hk⟩ (Classical.em _)
      have HOW := hid hownW
      have hwsz : w.heap.size ≤ W4.heap.size := hbw4.size
      obtain ⟨d0, d1, d2, d3⟩ := evC_at hn4
      have HEA := hid hea
      have HFA := hid hfa
      have HOP := hid hop
      have HES := hid hes
      have HAB := hid (fun (_ : True) => hab)
      have hal : acc.length ≤ 18000000 := by omega
      have hpl : (pieceR e (es.drop (k + 1))).length ≤ 18000000 := by omega
      have HPL := hid hpl
      clear hd hdl hRl hab hSS hq4 q4 hea hfa hop hes fin hownW hown4 hbw4 hn4 hb4 hpl hown hbw HX HK HC he HTS HE HS
      by_cases k1 : e.k = 1
      · have ep : pieceR e (es.drop (k + 1)) = openL e.n e.a ++ (if eatsL e.n = true ∧ nlAhead (es.drop (k + 1)) = true then [10] else []) := by unfold pieceR; rw [if_pos k1]
        have hPL := HPL.out
        rw [ep, List.length_append] at hPL
        have hOL : (openL e.n e.a).length ≤ 18000000 := by omega
        obtain ⟨ea, hea⟩ : ∃ ea, eatsL e.n = ea := ⟨_, rfl⟩
        obtain ⟨fa, hfa⟩ : ∃ fa, nlAhead (es.drop (k + 1)) = fa := ⟨_, rfl⟩
        rw [hea] at HEA ep
        rw [hfa] at HFA ep
        obtain ⟨O, hO⟩ : ∃ O, bs (openL e.n e.a) = O := ⟨_, rfl⟩
        have hOz : O.size ≤ 18000000 := by rw [← hO, bs_size]; exact hOL
        rw [hO] at HOP
        have HO := hid hO
        have HEP := hid ep
        unfold evC at hW4 HOP
        rw [k1] at d0 hW4 q0
        simp only [k1] at HOP
        clear hPL hOL hea hfa ep hO k1
        go_upto_region 8 with fail
        clear hW4 q0 q1 q2 q3
        go_upto_region 9 with fail
        go_wp2_with fail
        refine HOP.out.mono ?_
        rintro r W5 ⟨rfl, b5⟩
        have HB5 := hid b5
        obtain ⟨d0, d1, d2, d3⟩ := (⟨cell_low d0 b5 (cell_block d0), cell_low d1 b5 (cell_block d1), cell_low d2 b5 (cell_block d2), cell_low d3 b5 (cell_block d3)⟩ : W5.cell? ⟨wr.heap.size, 0, none⟩ = some (.int .i64 1) ∧ W5.cell? ⟨wr.heap.size, 1, none⟩ = some (.string (bs e.n)) ∧ W5.cell? ⟨wr.heap.size, 2, none⟩ = some (.slice up e.a.length uc) ∧ W5.cell? ⟨wr.heap.size, 3, none⟩ = some (.string (bs e.t)))
        have hown5 := HOW.out W5 b5
        have hwsz5 : w.heap.size ≤ W5.heap.size := Nat.le_trans hwsz b5.size
        have hbw5 := hid (H4.out.2.trans (b5.mono H4.out.2.size))
        clear b5
        go_wp2_with fail
        refine (HEA.out _).mono ?_
        rintro r W6 ⟨rfl, rfl⟩
        cases ea with
        | false =>
          go_wp2_with (at_builtin; refine Lib.wpList_append_own_stringF _ rfl _ _ 50 9 rfl w.heap.size 5 i0 Tryd.underlying50 Tryd.underlying9 hi hz0 hz1 hz2 _ _ _ rfl hown5 O rfl (by unfold maxLen; omega) (by omega) (by omega) ?_)
          intro v' W' ho hg _
          obtain ⟨HZ, HZ2⟩ := FIN.out O _ W6 HO.out (by rw [HEP.out]; simp) HB5.out v' W' ho hg
          clear ho hg FIN HOW HEA HFA HOP HES hown5
          go_wp2
          go_roundw
          case rel => exact ⟨k + 1, _, rfl, by omega, HZ, HZ2⟩
          case measure => simp [RowKit.intOf]; omega
        | true =>
          go_wp2_with fail
          refine (HFA.out _ hbw5.out).mono ?_
          rintro r W7 ⟨rfl, rfl⟩
          cases fa with
          | false =>
            go_wp2_with (at_builtin; refine Lib.wpList_append_own_stringF _ rfl _ _ 50 9 rfl w.heap.size 5 i0 Tryd.underlying50 Tryd.underlying9 hi hz0 hz1 hz2 _ _ _ rfl hown5 O rfl (by unfold maxLen; omega) (by omega) (by omega) ?_)
            intro v' W' ho hg _
            obtain ⟨HZ, HZ2⟩ := FIN.out O _ W7 HO.out (by rw [HEP.out]; simp) HB5.out v' W' ho hg
            clear ho hg FIN HOW HEA HFA HOP HES hown5
            go_wp2
            go_roundw
            case rel => exact ⟨k + 1, _, rfl, by omega, HZ, HZ2⟩
            case measure => simp [RowKit.intOf]; omega
          | true =>
            obtain ⟨O2, hO2⟩ : ∃ O2, O ++ (⟨#[10]⟩ : ByteArray) = O2 := ⟨_, rfl⟩
            have hO3 : bs (openL e.n e.a ++ [10]) = O2 := by rw [← hO2, ← HO.out, show (⟨#[10]⟩ : ByteArray) = bs [10] from rfl, bs_cat]
            have hO2z : O2.size ≤ 18000001 := by rw [← hO3, bs_size, List.length_append]; have := congrArg ByteArray.size HO.out; rw [bs_size] at this; simp; omega
            have HO3 := hid hO3
            clear hO3
            go_wp2_with (at_builtin; refine Lib.wpList_append_own_stringF _ rfl _ _ 50 9 rfl w.heap.size 5 i0 Tryd.underlying50 Tryd.underlying9 hi hz0 hz1 hz2 _ _ _ rfl hown5 O2 rfl (by unfold maxLen; omega) (by omega) (by omega) ?_)
            intro v' W' ho hg _
            obtain ⟨HZ, HZ2⟩ := FIN.out O2 _ W7 HO3.out (by rw [HEP.out]; simp) HB5.out v' W' ho hg
            clear ho hg FIN HOW HEA HFA HOP HES hown5
            go_wp2
            go_roundw
            case rel => exact ⟨k + 1, _, rfl, by omega, HZ, HZ2⟩
            case measure => simp [RowKit.intOf]; omega
      have n1 := int_ne k1
      by_cases k2 : e.k = 2
      · have ep : pieceR e (es.drop (k + 1)) = etagL e.n := by unfold pieceR; rw [if_neg k1, if_pos k2]
        have hPL := HPL.out
        rw [ep] at hPL
        obtain ⟨N, hN⟩ : ∃ N, bs e.n = N := ⟨_, rfl⟩
        have hNz : N.size ≤ 18000000 := by rw [← hN, bs_size]; unfold etagL at hPL; simp only [List.length_append, List.length_cons, List.length_nil] at hPL; omega
        obtain ⟨O, hO⟩ : ∃ O, (⟨#[60, 47]⟩ : ByteArray) ++ N ++ (⟨#[62]⟩ : ByteArray) = O := ⟨_, rfl⟩
        have hO3 : bs (etagL e.n) = O := by rw [← hO, ← hN, show (⟨#[60, 47]⟩ : ByteArray) = bs [60, 47] from rfl, show (⟨#[62]⟩ : ByteArray) = bs [62] from rfl, bs_cat, bs_cat]; rfl
        have hOz : O.size ≤ 18000000 := by rw [← hO3, bs_size]; exact hPL
        have HO3 := hid hO3
        have HEP := hid ep
        unfold evC at hW4
        rw [k2] at d0 hW4 n1 q0
        rw [hN] at d1 q1
        simp only [hN] at hW4
        have hown5 := HOW.out W4 (Below.refl _ _)
        clear hPL ep hO3 k1 k2
        go_upto_region 8 with fail
        clear hW4 q0 q1 q2 q3 hN
        go_wp2_with (at_builtin; refine Lib.wpList_append_own_stringF _ rfl _ _ 50 9 rfl w.heap.size 5 i0 Tryd.underlying50 Tryd.underlying9 hi hz0 hz1 hz2 _ _ _ rfl hown5 O rfl (by unfold maxLen; omega) (by omega) (by omega) ?_)
        intro v' W' ho hg _
        obtain ⟨HZ, HZ2⟩ := FIN.out O _ W4 HO3.out HEP.out.symm (Below.refl _ _) v' W' ho hg
        clear ho hg FIN HOW HEA HFA HOP HES hown5
        go_wp2
        go_roundw
        case rel => exact ⟨k + 1, _, rfl, by omega, HZ, HZ2⟩
        case measure => simp [RowKit.intOf]; omega
      have n2 := int_ne k2
      by_cases k3 : e.k = 3
      · have ep : pieceR e (es.drop (k + 1)) = escL false e.t := by unfold pieceR; rw [if_neg k1, if_neg k2, if_pos k3]
        have hPL := HPL.out
        rw [ep] at hPL
        obtain ⟨O, hO⟩ : ∃ O, bs (escL false e.t) = O := ⟨_, rfl⟩
        have hOz : O.size ≤ 18000000 := by rw [← hO, bs_size]; exact hPL
        rw [hO] at HES
        have HO3 := hid hO
        have HEP := hid ep
        unfold evC at hW4
        rw [k3] at d0 hW4 n1 n2 q0
        clear hPL ep hO k1 k2 k3
        go_upto_region 8 with fail
        clear hW4 q0 q1 q2 q3
        go_wp2_with fail
        refine (HES.out _).mono ?_
        rintro r W5 ⟨rfl, b5⟩
        have HB5 := hid b5
        have hown5 := HOW.out W5 b5
        have hwsz5 : w.heap.size ≤ W5.heap.size := Nat.le_trans hwsz b5.size
        clear b5
        go_wp2_with (at_builtin; refine Lib.wpList_append_own_stringF _ rfl _ _ 50 9 rfl w.heap.size 5 i0 Tryd.underlying50 Tryd.underlying9 hi hz0 hz1 hz2 _ _ _ rfl hown5 O rfl (by unfold maxLen; omega) (by omega) (by omega) ?_)
        intro v' W' ho hg _
        obtain ⟨HZ, HZ2⟩ := FIN.out O _ W5 HO3.out HEP.out.symm HB5.out v' W' ho hg
        clear ho hg FIN HOW HEA HFA HOP HES hown5
        go_wp2
        go_roundw
        case rel => exact ⟨k + 1, _, rfl, by omega, HZ, HZ2⟩
        case measure => simp [RowKit.intOf]; omega
      · have n3 := int_ne k3
        have ep : pieceR e (es.drop (k + 1)) = [] := by unfold pieceR; rw [if_neg k1, if_neg k2, if_neg k3]
        have HEP := hid ep
        unfold evC at hW4
        have hown5 := HOW.out W4 (Below.refl _ _)
        have hOz : (⟨#[]⟩ : ByteArray).size = 0 := rfl
        clear ep k1 k2 k3
        go_upto_region 8 with fail
        clear hW4 q0 q1 q2 q3
        go_wp2_with (at_builtin; refine Lib.wpList_append_own_stringF _ rfl _ _ 50 9 rfl w.heap.size 5 i0 Tryd.underlying50 Tryd.underlying9 hi hz0 hz1 hz2 _ _ _ rfl hown5 ⟨#[]⟩ rfl (by unfold maxLen; omega) (by omega) (by omega) ?_)
        intro v' W' ho hg _
        obtain ⟨HZ, HZ2⟩ := FIN.out ⟨#[]⟩ _ W4 (show bs [] = ⟨#[]⟩ from rfl) HEP.out.symm (Below.refl _ _) v' W' ho hg
        clear ho hg FIN HOW HEA HFA HOP HES hown5
        go_wp2
        go_roundw
        case rel => exact ⟨k + 1, _, rfl, by omega, HZ, HZ2⟩
        case measure => simp [RowKit.intOf]; omega
    · obtain rfl : acc = R := by
        have := HK.out trivial
        rw [List.drop_of_length_le (by omega)] at this
        rwa [show writeR [] = [] from rfl, List.append_nil] at this
      have ht := own_textF wr _ _ acc HX.out.1
      clear HK HC HE HS HTS
      go_wp2
      go_ret
      exact ⟨rfl, HX.out.2⟩

theorem writeR_start (e : EvP) (h : e.k = 1) : writeR [e] = openL e.n e.a := by
  show pieceR e [] ++ [] = _
  unfold pieceR
  rw [if_pos h, if_neg (fun q => by cases q.2), List.append_nil, List.append_nil]
end Go.Proofs.YtkcgmimldjeaiaaDoor

/-
  The statements' lendEvents, keptEvents: their walks.
-/
namespace Go.Proofs.YtkcgmimldjeaiaaDoor
open Go.RowKit Go.Lib Own

theorem lndTEvents : LndT 39 27 := ⟨by decide, by decide, by decide, by decide, by decide⟩
theorem infoEvent_ : (Tryd.prog.info? 39).map (fun i => (i.zero, i.size, i.bytes)) = some (some (.agg #[.int .i64 0, .string ⟨#[]⟩, .slice none 0 0, .string ⟨#[]⟩]), 4, 64) := by kernel_rfl
/-- what stands behind: a text of each word -/
def moreEvents (ms : List (List UInt8)) : List EvP := ms.map fun s => ⟨3, [], [], s⟩

set_option maxHeartbeats 8000000 in
set_option maxRecDepth 100000 in
theorem lendEvents_any (ev mv : Value) (es : List EvP) (ms : List (List UInt8)) (w : World) (h : EvsR w ev es) (hM : Words w mv ms) (hl : es.length ≤ 2000000) (ha : ∀ e ∈ es, e.a.length ≤ 2000000) (hm : ms.length ≤ 2000000) :
    Calls Tryd.prog 7 #[ev, mv] w fun e w' => ∃ v, e = .returned v ∧ LentE w' v es (moreEvents ms) (namesA ms) ∧ Below w.heap.size w w' := by
  obtain ⟨ep, ec, rfl, hc1, hc2, hcell⟩ := h
  obtain ⟨mp, mc, rfl, hmc, _, hmcell, _⟩ := id hM
  have HC := hid hcell
  have HM := hid hM
  have HMC := hid hmcell
  have HA := hid ha
  have hL0 : LndE 39 27 w ((w.alloc (.cells #[.slice none 0 0, .slice none 0 0, .slice none 0 0] 27)).alloc (.cells #[.slice none 0 0, .slice none 0 0, .slice none 0 0] 27)) (.slice none 0 0) (.slice none 0 0) es (namesA ms) [] [] :=
    ⟨((Below.refl w.heap.size w).alloc (Nat.le_refl _) _).alloc (by simp) _, (Go.Lib.alloc_old _ _ _ (by simp)).trans (heap_alloc_new w _), heap_two_new w _ _ _, World.ownsRow_nil _ _ _ _, World.ownsRow_nil _ _ _ _, fun k v e h1 => by simp at h1, fun k x h1 => by simp at h1⟩
  have HL0 := hid hL0
  clear hcell hM hmcell ha hL0
  go_enter Tryd.func7, Tryd.ntmps7
  go_wp2_with fail
  go_loopw [7, 8, 12] (fun _ _ iv wr => ∃ (k : Nat) (wv av : Value) (prs : List (EvP × Value)) (us : List Value), iv = .int .i64 k ∧ k ≤ es.length ∧ Hid (us.length = k ∧ prs.length = k ∧ prs.map Prod.fst = es.take k) ∧ Hid (LndE 39 27 w wr wv av es (namesA ms) prs us)) (fun _ _ iv _ => es.length - (RowKit.intOf iv).toNat)
  case atStart => exact ⟨0, _, _, [], [], rfl, Nat.zero_le _, hid ⟨rfl, rfl, rfl⟩, HL0⟩
  case round =>
    obtain ⟨k, wv, av, prs, us, rfl, hk, HN, HX⟩ := hrel
    clear HL0
    by_cases hkl : k < es.length
    · obtain ⟨e, he⟩ : ∃ e, es[k]? = some e := ⟨_, List.getElem?_eq_getElem hkl⟩
      obtain ⟨b, o, u, rfl, q0, q1, q2, q3, q4⟩ := HC.out k e he
      have hX := HX.out
      have hbx := hX.be
      replace q0 := cell_low q0 hbx (cell_block q0)
      replace q1 := cell_low q1 hbx (cell_block q1)
      replace q2 := cell_low q2 hbx (cell_block q2)
      replace q3 := cell_low q3 hbx (cell_block q3)
      have hat := HA.out e (List.mem_of_getElem? he)
      obtain ⟨up, uc, rfl⟩ := q4.len
      -- behind the event's box
      obtain ⟨W1, hW1⟩ : ∃ W1, wr.alloc (.cells (evC e (.slice up e.a.length uc)) 39) = W1 := ⟨_, rfl⟩
      have hbel1 : Below wr.heap.size wr W1 := by rw [← hW1]; exact (Below.refl _ _).alloc (Nat.le_refl _) _
      have hn1 : W1.heap[wr.heap.size]? = some (.cells (evC e (.slice up e.a.length uc)) 39 (0, 0)) := by rw [← hW1]; exact heap_alloc_new _ _
      obtain ⟨c0, c1, c2, c3⟩ := evC_at hn1
      have hlong := longAttrs_any (.slice up e.a.length uc) (.slice mp ms.length mc) e.a ms W1 ((q4.below hbx).below hbel1) ((HM.out.below hbx).below hbel1) (by omega) (by omega)
      have HLG := hid hlong
      have HE := hid he
      have H1 := hid (And.intro hn1 hbel1)
      unfold evC at hW1
      clear hlong he hX q4 hn1 hbel1 hbx
      go_upto_region 6 with fail
      clear hW1 q0 q1 q2 q3
      go_wp2_with fail
      refine HLG.out.mono ?_
      rintro r W2 ⟨u', rfl, r1, b2⟩
      obtain ⟨hn1, hbel1⟩ := H1.out
      have hbel2 := hbel1.trans (b2.mono hbel1.size)
      have hX2 := HX.out.below hbel2
      have hn2 := (b2.block _ (block_lt hn1)).trans hn1
      have r2 := row_low r1 (Nat.le_trans HX.out.be.size hbel1.size)
      obtain ⟨up', uc', hu'⟩ := row_shape r2
      subst hu'
      have hown := hX2.a
      rw [HN.out.1] at hown
      obtain ⟨ap, ac, rfl⟩ := row_shape hown
      have hsz2 := hX2.be.size
      have hle := (row_cap r2).2
      have hne : wv.ownBlock ≠ some wr.heap.size := fun hh => by have := (HX.out.r.lt _ hh).2; omega
      have hcl := hX2.be.size
      have hxs := HX.out.be.size
      have hbl : w.heap.size + 1 < wr.heap.size := block_lt HX.out.bx
      obtain ⟨z1, y1⟩ : W2.cell? ⟨w.heap.size + 1, 2, none⟩ = some (.slice ap k ac) ∧ W2.frozen? ⟨w.heap.size + 1, 2, none⟩ = false := ⟨cell_at hX2.bx rfl, free_at hX2.bx 2⟩
      obtain ⟨i0, hi, hz0, hz1, hz2⟩ := info_parts info_list
      have HX2 := hid (And.intro hX2 (And.intro hn2 r2))
      have hlena : (e.a ++ namesA ms).length = e.a.length + ms.length := by rw [List.length_append]; unfold namesA; rw [List.length_map]
      clear hX2 r1 r2 b2 hn1 hbel1 hbel2 HX H1 HLG hn2 c0 c1 c2 c3
      obtain ⟨NL, hNL⟩ : ∃ NL, (e.a ++ namesA ms).length = NL := ⟨_, rfl⟩
      rw [hNL] at hlena hle
      simp only [hNL] at HX2 ⊢
      have hNLb : NL ≤ 4000000 := by omega
      have hle2 : e.a.length ≤ uc' := by omega
      have hNL2 := hid hNL
      clear hlena hNL
      go_wp2_with (at_builtin; refine wpList_append_own _ rfl (.tmp 24) (.tmp 26) 25 rfl w.heap.size 37 i0 (.slice none 0 0) 1 24 Tryd.underlying25 hi hz0 hz1 hz2 rfl (by decide) _ _ _ rfl (hown.alloc _) ⟨_, 0, none⟩ 1 1 [.slice up' NL uc'] rfl rfl (cells_newV _ _ _) (by simp [Value.oneCell']) (by unfold maxLen; omega) (by omega) (by simp; omega) ?_)
      intro v' W3 hown2 hgrow2 _
      obtain ⟨hX2, hn2, r2⟩ := HX2.out
      have hX4 := hX2.attr (e := e) (v' := v') lndTEvents (by rw [hNL2.out]; exact r2) (by rw [HN.out.1]; exact HE.out) hgrow2 (by rw [List.length_append, HN.out.1]; exact hown2)
      obtain ⟨vp, vc, rfl⟩ := row_shape hown2
      have hax := hX2.a.alloc (.cells #[.slice up' NL uc'] 37)
      rw [HN.out.1] at hax
      have hne0 := row_ne hax ((Go.Lib.alloc_old _ _ _ (block_lt hX2.bx)).trans hX2.bx) (by decide)
      have hne1 := row_ne hax ((Go.Lib.alloc_old _ _ _ (block_lt hn2)).trans hn2) (by decide)
      have hbx3 := grown_at hgrow2 ((Go.Lib.alloc_old W2 (.cells #[.slice up' NL uc'] 37) _ (block_lt hX2.bx)).trans hX2.bx) hne0
      have hn3 := grown_at hgrow2 ((Go.Lib.alloc_old W2 (.cells #[.slice up' NL uc'] 37) _ (block_lt hn2)).trans hn2) hne1
      have y3 := free_at hbx3 2
      have z3 := cell_at hbx3 (j := 2) rfl
      have hn4 : (W3.setCell ⟨w.heap.size + 1, 2, none⟩ (.slice vp (k + 1) vc)).heap[wr.heap.size]? = _ := (heap_setCell_other W3 ⟨w.heap.size + 1, 2, none⟩ wr.heap.size (.slice vp (k + 1) vc) (by show wr.heap.size ≠ w.heap.size + 1; omega)).trans hn3
      have HX4 := hid (And.intro hX4 hn4)
      clear hX2 hX4 hn2 r2 hax hne0 hne1 hbx3 hn3 hn4 HX2 hown2 hgrow2 hown z1 y1
      go_upto_region 8 with fail
      obtain ⟨W4, hW4⟩ : ∃ W4, W3.setCell ⟨w.heap.size + 1, 2, none⟩ (.slice vp (k + 1) vc) = W4 := ⟨_, rfl⟩
      simp only [hW4] at HX4 ⊢
      clear hW4 y3 z3
      obtain ⟨c0, c1, c2, c3⟩ := evC_at HX4.out.2
      have y2 := free_at HX4.out.2 2
      have hj := just_put (j := 2) (cs2 := evC e (.slice up' e.a.length uc')) HX4.out.2 (.slice up' e.a.length uc') (by unfold evC; simp)
      have hX5 := HX4.out.1.box lndTEvents HX4.out.2 (by omega) hne hj
      have HX5 := hid (And.intro hX5 hj.at_)
      clear hj hX5 HX4
      go_upto_region 9 with fail
      obtain ⟨W5, hW5⟩ : ∃ W5, W4.setCell ⟨wr.heap.size, 2, none⟩ (.slice up' e.a.length uc') = W5 := ⟨_, rfl⟩
      simp only [hW5] at HX5 ⊢
      clear hW5 y2 c0 c1 c2 c3
      have hX5 := HX5.out.1
      obtain ⟨c0, c1, c2, c3⟩ := evC_at HX5.out.2
      have hown := hX5.r
      rw [HN.out.2.1] at hown
      obtain ⟨wp, wc, rfl⟩ := row_shape hown
      have z1 := cell_at hX5.bx (j := 1) rfl
      have hsz5 := hX5.be.size
      obtain ⟨j0, hj, hj0, hj1, hj2⟩ := info_parts infoEvent_
      go_wp2_with (at_builtin; refine wpList_append_own _ rfl (.tmp 36) (.tmp 38) 22 rfl w.heap.size 39 j0 (.agg #[.int .i64 0, .string ⟨#[]⟩, .slice none 0 0, .string ⟨#[]⟩]) 4 64 Tryd.underlying22 hj hj0 hj1 hj2 rfl (by decide) _ _ _ rfl (hown.alloc _) ⟨_, 0, none⟩ 1 1 [.int .i64 e.k, .string (bs e.n), .slice up' e.a.length uc', .string (bs e.t)] rfl rfl (cells_newV _ _ _) (by simp [Value.oneCell']) (by unfold maxLen; omega) (by omega) (by simp; omega) ?_)
      intro v'' W6 hown6 hgrow6 _
      obtain ⟨vp6, vc6, rfl⟩ := row_shape hown6
      have hX7 := hX5.ev (x := (e, .slice up' e.a.length uc')) (v' := .slice vp6 (k + 1) vc6) lndTEvents (.inr ⟨.slice up' NL uc', by rw [HN.out.2.1, ← HN.out.1, List.getElem?_append_right (Nat.le_refl _), Nat.sub_self]; rfl, by rw [HN.out.2.1]; exact HE.out, rfl⟩) hgrow6 (by rw [List.length_append, HN.out.2.1, ecells_app]; exact hown6)
      have hax := hX5.r.alloc (.cells #[.int .i64 e.k, .string (bs e.n), .slice up' e.a.length uc', .string (bs e.t)] 39)
      have hne0 := row_ne hax ((Go.Lib.alloc_old _ _ _ (block_lt hX5.bx)).trans hX5.bx) (by decide)
      have hbx6 := grown_at hgrow6 ((Go.Lib.alloc_old W5 (.cells #[.int .i64 e.k, .string (bs e.n), .slice up' e.a.length uc', .string (bs e.t)] 39) _ (block_lt hX5.bx)).trans hX5.bx) hne0
      have y3 := free_at hbx6 1
      have z3 := cell_at hbx6 (j := 1) rfl
      have HX7 := hid hX7
      have HN2 : Hid ((us ++ [Value.slice up' NL uc']).length = k + 1 ∧ (prs ++ [(e, Value.slice up' e.a.length uc')]).length = k + 1 ∧ (prs ++ [(e, Value.slice up' e.a.length uc')]).map Prod.fst = es.take (k + 1)) :=
        hid ⟨by rw [List.length_append, HN.out.1]; rfl, by rw [List.length_append, HN.out.2.1]; rfl, by rw [List.map_append, HN.out.2.2, List.take_add_one, HE.out]; rfl⟩
      clear hX5 hX7 hax hne0 hbx6 hown6 hgrow6 hown z1 c0 c1 c2 c3 HX5 HN HE
      go_wp2
      go_roundw
      case rel => exact ⟨k + 1, _, _, _, _, rfl, by omega, HN2, HX7⟩
      case measure => simp [RowKit.intOf]; omega
    · obtain rfl : k = es.length := by omega
      have hN3 := HN.out.2.2
      rw [List.take_length] at hN3
      have HN3 := hid (And.intro HN.out.1 (And.intro HN.out.2.1 hN3))
      clear hkl hk hN3 HN HC HA
      go_wp2_with fail
      go_loopw [9, 44] (fun _ iv wr => ∃ (m : Nat) (wv : Value) (prs : List (EvP × Value)), iv = .int .i64 m ∧ m ≤ ms.length ∧ Hid (us.length = es.length ∧ prs.length = es.length + m ∧ prs.map Prod.fst = es ++ moreEvents (ms.take m)) ∧ Hid (LndE 39 27 w wr wv av es (namesA ms) prs us)) (fun _ iv _ => ms.length - (RowKit.intOf iv).toNat)
      case atStart => exact ⟨0, _, prs, rfl, Nat.zero_le _, hid ⟨HN3.out.1, HN3.out.2.1, by rw [HN3.out.2.2]; exact (List.append_nil _).symm⟩, HX⟩
      case round =>
        clear HX HN3
        obtain ⟨m, wv, prs, rfl, hm', HN, HX⟩ := hrel
        by_cases hml : m < ms.length
        · obtain ⟨q, hq⟩ : ∃ q, ms[m]? = some q := ⟨_, List.getElem?_eq_getElem hml⟩
          obtain ⟨b, o, rfl, d1⟩ := HMC.out m q hq
          have hX := HX.out
          have hbs := hX.be.size
          replace d1 := cell_low d1 hX.be (cell_block d1)
          have hown := hX.r
          rw [HN.out.2.1] at hown
          obtain ⟨wp, wc, rfl⟩ := row_shape hown
          have z1 := cell_at hX.bx (j := 1) rfl
          have hne3 := row_ne hown hX.bx (by decide)
          have hl5 := block_lt hX.bx
          have hlb := cell_block d1
          obtain ⟨j0, hj, hj0, hj1, hj2⟩ := info_parts infoEvent_
          have HN2 : Hid (us.length = es.length ∧ ∀ u, (prs ++ [((⟨3, [], [], q⟩ : EvP), u)]).length = es.length + (m + 1) ∧ (prs ++ [((⟨3, [], [], q⟩ : EvP), u)]).map Prod.fst = es ++ moreEvents (ms.take (m + 1))) :=
            hid ⟨HN.out.1, fun u => ⟨by rw [List.length_append, HN.out.2.1]; rfl, by rw [List.map_append, HN.out.2.2, List.take_add_one, hq]; unfold moreEvents; rw [List.map_append, List.append_assoc]; rfl⟩⟩
          have HPR := hid HN.out.2.1
          have hfl : es.length + m ≤ 4000000 := by omega
          clear hX HN hq
          go_wp2_with fail
          go_region_law (refine step_append_lies _ rfl (.tmp 48) (.tmp 54) 22 rfl w.heap.size 39 j0 (.agg #[.int .i64 0, .string ⟨#[]⟩, .slice none 0 0, .string ⟨#[]⟩]) 4 64 Tryd.underlying22 hj hj0 hj1 hj2 rfl (by decide) (.slice wp (es.length + m) wc) (es.length + m) (ecells prs) (by simp [Act.eval]) (by exact hown.alloc _) ⟨_, 0, none⟩ 1 1 [.int .i64 3, .string ⟨#[]⟩, .slice none 0 0, .string (bs q)] (by simp [Act.eval]) rfl (cells_newV _ _ _) (by simp [Value.oneCell']) (by omega) (by unfold maxLen; omega) (by omega) (by simp; omega) _ rfl ?_; rintro g cap w10 hrow10 hgrow10 - -; have hb10 := grown_at (v := .slice wp (es.length + m) wc) (by exact hgrow10) ((Go.Lib.alloc_old _ _ _ (block_lt HX.out.drew.bx)).trans HX.out.drew.bx) hne3; have ce10 := cell_at (j := 1) hb10 rfl; have fe10 := free_at hb10 1)
          all_goals
            have hG4 := HX.out.drew.ev (x := (⟨3, [], [], q⟩, .slice none 0 0)) (v' := .slice (some ⟨g, 0, none⟩) (es.length + m + 1) cap) lndTEvents (.inl ⟨rfl, rfl⟩) (by exact hgrow10) (by rw [List.length_append, HPR.out, ecells_app]; exact hrow10)
            have HG4 := hid hG4
            clear hG4 hb10 ce10 fe10 hrow10 hgrow10
            go_wp2
            go_roundw
            case rel => exact ⟨m + 1, _, _, rfl, by omega, hid ⟨HN2.out.1, HN2.out.2 _⟩, HG4⟩
            case measure => simp [RowKit.intOf]; omega
        · obtain rfl : m = ms.length := by omega
          have hN3 := HN.out
          rw [List.take_length] at hN3
          have HN3 := hid hN3
          have hX := HX.out
          have hown := hX.r
          rw [hN3.2.1] at hown
          obtain ⟨wp, wc, rfl⟩ := row_shape hown
          obtain ⟨ap, ac, rfl⟩ := row_shape hX.a
          have hcr : es.length ≤ wc := by have := (row_cap hown).2; omega
          have z1 := cell_at hX.bx (j := 1) rfl
          have y0 := free_at hX.bx 0
          have z0 := cell_at hX.bx (j := 0) rfl
          have hB0 := hid hX.b0
          have hBX := hid hX.bx
          have hj := just_put (j := 0) (cs2 := #[.slice wp es.length wc, .slice wp (es.length + ms.length) wc, .slice ap us.length ac]) hX.bx (.slice wp es.length wc) (by simp)
          -- the answer's box, the list's box
          have hb0j := (hj.other w.heap.size (by omega)).trans hX.b0
          have hk8 := three_put hb0j (p0 := .slice wp es.length wc) (p1 := .slice wp (es.length + ms.length) wc) (p2 := .slice ap us.length ac)
          have hbl8 : Below w.heap.size w (((((wr.setCell ⟨w.heap.size + 1, 0, none⟩ (.slice wp es.length wc)).setCell ⟨w.heap.size, 0, none⟩ (.slice wp es.length wc)).setCell ⟨w.heap.size, 1, none⟩ (.slice wp (es.length + ms.length) wc)).setCell ⟨w.heap.size, 2, none⟩ (.slice ap us.length ac))) :=
            (hX.be.trans (just_low hj (by omega))).trans (just_low hk8 (by omega))
          have hrr := ((hX.lst.just lndTEvents hX.bx hj).just lndTEvents hb0j hk8).lent hN3.2.2 hN3.1
          have HF := hid (And.intro hk8.at_ (And.intro hrr hbl8))
          have hatj := hj.at_
          clear hX hk8 hbl8 hrr HX hN3 HN hb0j hown
          have HJ := hid (And.intro hatj hj.other)
          clear hatj hj
          go_upto_region 17 with fail
          have hb0j := (HJ.out.2 w.heap.size (by omega)).trans hB0.out
          have hatj := HJ.out.1
          obtain ⟨W5, hW5⟩ : ∃ W5, wr.setCell ⟨w.heap.size + 1, 0, none⟩ (.slice wp es.length wc) = W5 := ⟨_, rfl⟩
          simp only [hW5] at HF hb0j hatj ⊢
          clear hW5 y0 z0 z1 HJ hB0 hBX
          have z0 := cell_at hatj (j := 0) rfl
          have z1 := cell_at hatj (j := 1) rfl
          have z2 := cell_at hatj (j := 2) rfl
          have x0 := cell_at hb0j (j := 0) rfl
          have x1 := cell_at hb0j (j := 1) rfl
          have x2 := cell_at hb0j (j := 2) rfl
          have y0 := free_at hb0j 0
          have y1 := free_at hb0j 1
          have y2 := free_at hb0j 2
          clear hb0j hatj
          go_wp2_with fail
          obtain ⟨hat8, hl8, hb8⟩ := HF.out
          obtain ⟨W8, hW8⟩ : ∃ W8, ((W5.setCell ⟨w.heap.size, 0, none⟩ (.slice wp es.length wc)).setCell ⟨w.heap.size, 1, none⟩ (.slice wp (es.length + ms.length) wc)).setCell ⟨w.heap.size, 2, none⟩ (.slice ap us.length ac) = W8 := ⟨_, rfl⟩
          simp only [hW8] at hat8 hl8 hb8 ⊢
          clear hW8
          refine bodyPost_ret (v := .agg #[.slice wp es.length wc, .slice wp (es.length + ms.length) wc, .slice ap us.length ac]) ?_ rfl ⟨_, rfl, hl8, hb8⟩
          exact results_cell_row rfl _ _ _ _ _ _ _ rfl hat8 Tryd.underlying27 rfl (by kernel_rfl)

set_option maxHeartbeats 4000000 in
set_option maxRecDepth 100000 in
theorem keptEvents_any (v ev mv : Value) (es : List EvP) (ms : List (List UInt8)) (w : World) (hlt : LentE w v es (moreEvents ms) (namesA ms)) (h : EvsR w ev es) (hM : Words w mv ms) (hl : es.length ≤ 2000000) (ha : ∀ e ∈ es, e.a.length ≤ 2000000) (hm : ms.length ≤ 2000000) :
    Calls Tryd.prog 10 #[v, ev, mv] w fun e w' => e = .returned (.bool true) ∧ Below w.heap.size w w' := by
  obtain ⟨vf, vw, va, rfl, l1, l2, l3⟩ := hlt
  obtain ⟨f1, f2, f3, rfl⟩ := l1.shape
  obtain ⟨w1, w2, w3, rfl⟩ := l2.shape
  obtain ⟨a1, a2, a3, rfl⟩ := l3.shape
  obtain ⟨W0, hW0⟩ : ∃ W0, w.alloc (.cells #[.slice f1 f2 f3, .slice w1 w2 w3, .slice a1 a2 a3] 27) = W0 := ⟨_, rfl⟩
  have hB : Below w.heap.size w W0 := by rw [← hW0]; exact (Below.refl w.heap.size w).alloc (Nat.le_refl _) _
  have b0 : W0.heap[w.heap.size]? = some (.cells #[.slice f1 f2 f3, .slice w1 w2 w3, .slice a1 a2 a3] 27 (0, 0)) := by rw [← hW0]; exact heap_alloc_new w _
  have hlend := lendEvents_any ev mv es ms W0 (h.below hB) (hM.below hB) hl ha hm
  have HL := hid hlend
  have HB := hid (And.intro hB b0)
  have HM := hid (And.intro l2 l3)
  obtain ⟨e1, e2, e3, rfl⟩ := h.shape
  obtain ⟨m1, m2, m3, rfl⟩ := hM.shape
  clear hlend h hM l1 l2 l3 hB b0
  go_enter Tryd.func10, Tryd.ntmps10
  go_upto_region 1 with fail
  clear hW0
  go_wp2_with fail
  refine HL.out.mono ?_
  rintro e W1 ⟨v', rfl, hl', hb1⟩
  obtain ⟨vf, vw, va, rfl, l1, l2, l3⟩ := hl'
  obtain ⟨bf1, bf2, bf3, rfl⟩ := l1.shape
  obtain ⟨bw1, bw2, bw3, rfl⟩ := l2.shape
  obtain ⟨ba1, ba2, ba3, rfl⟩ := l3.shape
  have HL2 := hid (And.intro l2 l3)
  clear l1 l2 l3
  go_upto_region 2 with fail
  have hB0 := HB.out.1
  have hu2 : Below W1.heap.size W1 (W1.alloc (.cells #[.slice bf1 bf2 bf3, .slice bw1 bw2 bw3, .slice ba1 ba2 ba3] 27)) := (Below.refl _ _).alloc (Nat.le_refl _) _
  have hb2 := (hB0.trans (hb1.mono hB0.size)).trans (hu2.mono (Nat.le_trans hB0.size hb1.size))
  have ha2 := (hu2.block _ (Nat.lt_of_lt_of_le (block_lt HB.out.2) hb1.size)).trans ((hb1.block _ (block_lt HB.out.2)).trans HB.out.2)
  have hc2 := heap_alloc_new W1 (.cells #[.slice bf1 bf2 bf3, .slice bw1 bw2 bw3, .slice ba1 ba2 ba3] 27)
  obtain ⟨W2, hW2⟩ : ∃ W2, W1.alloc (.cells #[.slice bf1 bf2 bf3, .slice bw1 bw2 bw3, .slice ba1 ba2 ba3] 27) = W2 := ⟨_, rfl⟩
  simp only [hW2] at hb2 hu2 ha2 hc2 ⊢
  have se := fun n => sameEventsR_any (.slice w1 w2 w3) (.slice bw1 bw2 bw3) (es ++ moreEvents ms) (W2.drewN n) ((HM.out.1.below hb2).drewN n) ((HL2.out.1.below hu2).drewN n)
  have sl := fun n => sameLists_any (.slice a1 a2 a3) (.slice ba1 ba2 ba3) (es.map fun e => e.a ++ namesA ms) (W2.drewN n) ((HM.out.2.below hb2).drewN n) ((HL2.out.2.below hu2).drewN n)
  have SE := hid se
  have SL := hid sl
  have HF := hid hb2
  have z1 := cell_at ha2 (j := 1) rfl
  have z2 := cell_at ha2 (j := 2) rfl
  have x1 := cell_at hc2 (j := 1) rfl
  have x2 := cell_at hc2 (j := 2) rfl
  clear se sl hB0 hb2 hu2 ha2 hc2 hW2 hb1 HB HL HL2 HM
  go_wp2_with fail
  refine (SE.out 0).mono ?_
  rintro e W3 ⟨rfl, n3, rfl⟩
  go_wp2_with fail
  refine (SL.out _).mono ?_
  rintro e W4 ⟨rfl, n4, rfl⟩
  go_wp2_with fail
  go_ret
  exact ⟨rfl, ⟨HF.out.os, HF.out.tape, HF.out.output, HF.out.size, HF.out.block⟩⟩
end Go.Proofs.YtkcgmimldjeaiaaDoor

/-
  The law LawMarkup: its walk.
-/
namespace Go.Proofs.YtkcgmimldjeaiaaDoor
open Go.RowKit Go.Lib Own

theorem PowB.lift {base base2 : Nat} {w : World} (h : PowB base w) (hb : base ≤ base2) : PowB base2 w := ⟨h.1, Nat.lt_of_lt_of_le h.2 hb⟩

set_option maxHeartbeats 16000000 in
set_option maxRecDepth 100000 in
theorem lawMarkup_walk (ev mv : Value) (es : List EvP) (ms : List (List UInt8)) (m : Int) (w : World) (he : EvsR w ev es) (hs : bulkE es ≤ 1100000) (hM : Words w mv ms) (hm : ms.length ≤ 2000000) (hK : KindsTab w) (hP : PowB w.heap.size w)
    (hmx : w.cell? ⟨10, 0, none⟩ = some (.int .i64 m)) :
    Calls Tryd.prog 5 #[ev, mv] w fun e w' => e = .returned (.bool true) ∧ Below w.heap.size w w' := by
  obtain ⟨mp, mn, mc, rfl⟩ := hM.shape
  obtain ⟨ep, en, ec, rfl⟩ := he.shape
  have hlen := bulkE_len es
  have hatt : ∀ e ∈ es, e.a.length ≤ 2000000 := fun e he => by
    obtain ⟨k, hk⟩ := List.getElem?_of_mem he
    have h1 := bulkE_get hk
    have h2 := bulkA_len e.a
    omega
  obtain ⟨hmn, hwa⟩ := words_at hM
  have hfb := fold_bulk es
  have hr1 := fun W (hW : Below w.heap.size w W) => refFold_any _ es W (he.below hW) (by omega)
  have hr2 := fun W (hW : Below w.heap.size w W) => refWrite_any _ es W (he.below hW) (by omega)
  have hr3 := fun W (hW : Below w.heap.size w W) => lendEvents_any _ _ es ms W (he.below hW) (hM.below hW) (by omega) hatt hm
  have hr4 := fun W (hW : Below w.heap.size w W) fv (hx : EvsR W fv es) => write_any fv es m W hx (by omega) (cell_low hmx hW (cell_block hmx))
  simp only [writeW_false] at hr4
  have hr5 := fun W (hW : Below w.heap.size w W) fv (hx : EvsR W fv es) => fold_any fv es W hx (by omega) (hK.below hW)
  have hr6 := fun (W : World) (hW : Below w.heap.size w W) (B : Nat) gv dv prs (hB : w.heap.size ≤ B) (hb : B ≤ W.heap.size) (m1 : MadeN W B gv prs) (hpr : prs.map Prod.fst = foldP es) (m2 : EvsR W dv (foldP es)) =>
    freshN_any B gv dv prs mp mc (ms.map bs) W m1 (by rw [hpr]; exact m2) (by have := congrArg List.length hpr; rw [List.length_map] at this; omega) (fun x hx => by
      have h1 : x.1 ∈ foldP es := by rw [← hpr]; exact List.mem_map_of_mem hx
      obtain ⟨k, hk⟩ := List.getElem?_of_mem h1
      have h1 := bulkE_get hk
      have h2 := bulkA_len x.1.a
      omega) hb (by rw [List.length_map]; omega) ((hwa.below hW).up hB) ((hP.below hW).lift hB)
  simp only [List.length_map, ← hmn] at hr6
  have hr7 := fun W (hW : Below w.heap.size w W) v (hl : LentE W v es (moreEvents ms) (namesA ms)) => keptEvents_any v _ _ es ms W hl (he.below hW) (hM.below hW) (by omega) hatt hm
  have hr8 := fun W v1 v2 l (h1 : EvsR W v1 l) (h2 : EvsR W v2 l) => sameNodesR_any v1 v2 l W h1 h2
  obtain ⟨T, hT⟩ : ∃ T, bs (writeR es) = T := ⟨_, rfl⟩
  simp only [hT] at hr2 hr4
  generalize foldP es = F at hr1 hr5 hr6 hfb
  have H1 := hid hr1
  have H2 := hid hr2
  have H3 := hid hr3
  have H4 := hid hr4
  have H5 := hid hr5
  have H6 := hid hr6
  have H7 := hid hr7
  have H8 := hid hr8
  have HE := hid he
  clear he hs hM hm hK hP hmx hlen hatt hmn hwa hfb hr1 hr2 hr3 hr4 hr5 hr6 hr7 hr8 hT
  go_enter Tryd.func5, Tryd.ntmps5
  go_wp2_with fail
  refine (H1.out _ (Below.refl _ _)).mono ?_
  rintro e w1 ⟨dv, rfl, mdue, hb1⟩
  obtain ⟨dvp, dvn, dvc, rfl⟩ := mdue.shape
  have HK1 := hid hb1
  have HD1 := hid mdue
  clear hb1 mdue
  go_wp2_with fail
  refine (H2.out _ HK1.out).mono ?_
  rintro e w2 ⟨rfl, hb2⟩
  have HK2 := hid (HK1.out.trans (hb2.mono HK1.out.size))
  have HD2 := hid (HD1.out.below hb2)
  clear hb2 HK1 HD1
  go_wp2_with fail
  refine (H3.out _ HK2.out).mono ?_
  rintro e w4 ⟨qv, rfl, hlentE, hb4⟩
  have HQ4 := hid hlentE
  obtain ⟨vf, vw, va, rfl, l1, l2, l3⟩ := hlentE
  obtain ⟨f1, f2, f3, rfl⟩ := l1.shape
  obtain ⟨w1', w2', w3', rfl⟩ := l2.shape
  obtain ⟨a1, a2, a3, rfl⟩ := l3.shape
  obtain ⟨W5, hW5⟩ : ∃ W5, w4.alloc (.cells #[.slice f1 f2 f3, .slice w1' w2' w3', .slice a1 a2 a3] 27) = W5 := ⟨_, rfl⟩
  have hb5 : Below w4.heap.size w4 W5 := by rw [← hW5]; exact (Below.refl _ _).alloc (Nat.le_refl _) _
  have hn5 : W5.heap[w4.heap.size]? = some (.cells #[.slice f1 f2 f3, .slice w1' w2' w3', .slice a1 a2 a3] 27 (0, 0)) := by rw [← hW5]; exact heap_alloc_new _ _
  have hb35 := hb4.trans (hb5.mono hb4.size)
  have HK5 := hid (HK2.out.trans (hb35.mono HK2.out.size))
  have HD5 := hid (HD2.out.below hb35)
  have HQ5 := hid (HQ4.out.below hb5)
  have HX5 := hid (l1.below hb5)
  have HM5 := hid hn5
  clear l1 l2 l3 hb4 hb5 hb35 hn5 HQ4 HK2 HD2
  go_upto_region 4 with fail
  obtain ⟨L5, hL5⟩ : ∃ L5, w4.heap.size = L5 := ⟨_, rfl⟩
  rw [hL5] at HM5
  simp only [hL5]
  clear hW5 hL5
  have y0 := cell_at HM5.out (j := 0) rfl
  go_wp2_with fail
  refine (H4.out _ HK5.out _ HX5.out).mono ?_
  rintro e w6 ⟨rfl, hb6⟩
  have HK6 := hid (HK5.out.trans (hb6.mono HK5.out.size))
  have HD6 := hid (HD5.out.below hb6)
  have HQ6 := hid (HQ5.out.below hb6)
  have HX6 := hid (HX5.out.below hb6)
  have HM6 := hid ((hb6.block _ (block_lt HM5.out)).trans HM5.out)
  clear hb6 HK5 HD5 HQ5 HX5 HM5 y0
  have y0 := cell_at HM6.out (j := 0) rfl
  go_wp2_with fail
  refine (H5.out _ HK6.out _ HX6.out).mono ?_
  rintro e w7 ⟨gv, prs, rfl, mgot, hpr, hb7⟩
  obtain ⟨gp, gc, rfl⟩ := row_shape mgot.row
  have hk7 := HK6.out.trans (hb7.mono HK6.out.size)
  have HFR := hid (H6.out w7 hk7 w6.heap.size _ _ prs HK6.out.size hb7.size mgot hpr (HD6.out.below hb7))
  have HK7 := hid hk7
  have HD7 := hid (HD6.out.below hb7)
  have HQ7 := hid (HQ6.out.below hb7)
  have HM7 := hid ((hb7.block _ (block_lt HM6.out)).trans HM6.out)
  have HS7 := hid (And.intro HK6.out.size (And.intro hb7.size (block_lt HM6.out)))
  have HDB := hid (fun W (hb : Below w6.heap.size w7 W) => And.intro (hk7.trans (hb.mono HK6.out.size)) (And.intro (HD6.out.below (hb7.trans hb)) (And.intro (HQ6.out.below (hb7.trans hb)) (((hb7.trans hb).block _ (block_lt HM6.out)).trans HM6.out))))
  clear hb7 hk7 mgot hpr HK6 HD6 HQ6 HX6 HM6 y0
  go_wp2_with fail
  refine HFR.out.mono ?_
  rintro e w8 ⟨rfl, hb8⟩
  obtain ⟨k8, d8, q8, m8⟩ := HDB.out _ hb8
  have HK8 := hid k8
  have HD8 := hid d8
  have HQ8 := hid q8
  have y0 := cell_at m8 (j := 0) rfl
  have y1 := cell_at m8 (j := 1) rfl
  have y2 := cell_at m8 (j := 2) rfl
  clear k8 d8 q8 m8 hb8 HDB HFR HK7 HD7 HQ7 HM7
  go_wp2_with fail
  refine (H7.out _ HK8.out _ HQ8.out).mono ?_
  rintro e w9 ⟨rfl, hb9⟩
  have HK9 := hid (HK8.out.trans (hb9.mono HK8.out.size))
  have HD9 := hid (HD8.out.below hb9)
  clear hb9 HK8 HD8 HQ8 y0 y1 y2
  go_wp2_with fail
  refine (H4.out _ HK9.out _ (HE.out.below HK9.out)).mono ?_
  rintro e w10 ⟨rfl, hb10⟩
  have HK10 := hid (HK9.out.trans (hb10.mono HK9.out.size))
  have HD10 := hid (HD9.out.below hb10)
  clear hb10 HK9 HD9
  go_wp2_with fail
  refine (H5.out _ HK10.out _ (HE.out.below HK10.out)).mono ?_
  rintro e w11 ⟨pv, prs2, rfl, mpl, hpr2, hb11⟩
  have hpe := mpl.evs
  rw [hpr2] at hpe
  obtain ⟨pp, pc, rfl⟩ := row_shape mpl.row
  have HK11 := hid (HK10.out.trans (hb11.mono HK10.out.size))
  have HSN := hid (H8.out w11 _ _ F hpe (HD10.out.below hb11))
  clear hb11 hpe mpl HK10 HD10
  go_wp2_with fail
  refine HSN.out.mono ?_
  rintro e w12 ⟨rfl, n12, rfl⟩
  go_wp2_with fail
  go_ret
  exact ⟨rfl, below_drewN HK11.out n12⟩
end Go.Proofs.YtkcgmimldjeaiaaDoor
