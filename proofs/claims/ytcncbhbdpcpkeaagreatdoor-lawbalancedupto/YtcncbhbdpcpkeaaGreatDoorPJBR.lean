/-
  Parts of the walk, joined: BalG.
-/
import Derived.Deep.Cut
import Derived.Deep.RegionWith
import Derived.Test.YtcncbhbdpcpkeaaGreatDoorPJBP
import Derived.Test.YtcncbhbdpcpkeaaGreatDoorPJAV
/-
  The balancer's start: its walk.
-/
namespace Go.Proofs.YtcncbhbdpcpkeaaGreatDoor
open Go.RowKit Go.Lib Own

theorem step_append_attrs {w : World} {ops : Array Oper} {o : Oper} {a : Act} {K : Act → World → Prop} {Q : Exit → Act → World → Prop} {E : Prop} (hgd : o.guard = none) (s x : Operand)
    (ho : o.op = .call { callee := .builtin .append, args := #[s, x], argTypes := #[36, 36] }) (base : Nat) (v vx : Value) (l m : List AttrP) (hs : a.eval s = v) (hx : a.eval x = vx)
    (hown : w.ownsRow base 122 2 v l.length (attrsV l)) (hw : AttrsR w vx m) (hbase : base ≤ w.heap.size) (hsz : l.length + m.length ≤ 1000000000)
    (h : ∀ v' w', w'.ownsRow base 122 2 v' (l ++ m).length (attrsV (l ++ m)) → w.grownBy w' v.ownBlock → K (a.put o.dst v') w') : if Region.wanted o (yielded ops a.tmps) = true then Oper.wp Tryz.prog o a w K Q else E := by
  have hwt : Region.wanted o (yielded ops a.tmps) = true := by simp [Region.wanted, hgd]
  rw [if_pos hwt]
  obtain ⟨i0, hi, hz0, hz1, hz2⟩ := info_parts info_attr
  obtain ⟨p, c, rfl, hc, hm, hcell, hnone⟩ := hw
  cases p with
  | none =>
    obtain rfl : c = 0 := hnone rfl
    obtain rfl : m = [] := List.length_eq_zero_iff.1 (by omega)
    have hrun := run_append_owned_none (P := Tryz.prog) (w := w) base 36 o.type 122 i0 2 Tryz.underlying36 hi v l.length (attrsV l) hown
    have hk := h v w (by rw [List.append_nil]; exact hown) ⟨rfl, rfl, rfl, Nat.le_refl _, fun _ _ _ => rfl⟩
    have hx2 : a.eval x = .slice none 0 0 := hx
    unfold Oper.wp
    simp [execOp, ho, resolve, invoke, builtin, hs, hx2, hrun, Result.andThen]
    exact hk
  | some ad =>
    refine wp_append_own (w := w) s x 36 ho base 122 i0 (.agg #[.string ⟨#[]⟩, .string ⟨#[]⟩]) 2 32 Tryz.underlying36 hi hz0 hz1 hz2 rfl (by decide) v l.length (attrsV l) hs hown ad m.length c (attrsV m) hx (attrsV_len m) ?_ (attrsV_one m) (by unfold maxLen; omega) (by omega) hbase ?_
    · intro j u hj
      have hjl := (List.getElem?_eq_some_iff.1 hj).1
      rw [attrsV_len] at hjl
      obtain ⟨t, ht⟩ : ∃ t, m[j / 2]? = some t := ⟨_, List.getElem?_eq_getElem (by omega)⟩
      obtain ⟨b, o', e, hd1, hd2⟩ := hcell _ t ht
      obtain ⟨x1, x2⟩ := attrs_at m _ t ht
      cases e
      have hadd : (⟨b, o', none⟩ : Addr).add j = ⟨b, o' + j, none⟩ := by unfold Addr.add; split <;> simp_all
      rw [hadd]
      rcases (show j = j / 2 * 2 ∨ j = j / 2 * 2 + 1 by omega) with e | e
      · rw [← e] at x1 hd1
        obtain rfl := Option.some.inj (x1.symm.trans hj)
        exact hd1
      · rw [← e] at x2
        rw [Nat.add_assoc, ← e] at hd2
        obtain rfl := Option.some.inj (x2.symm.trans hj)
        exact hd2
    · intro v' w' h2 h3 _
      exact h v' w' (by rw [List.length_append, attrsV_app]; exact h2) h3
theorem findP_lt (c : Nat) (op : List (List UInt8)) (k : Nat) : (findP c op k).2 < 10 := by
  obtain ⟨_, h2⟩ := findP_at c op k
  by_cases h : (findP c op k).2 = 0
  · omega
  · rw [h2 h]
    exact nest_lt _ _
theorem reachP_le (op : List (List UInt8)) (x : List UInt8) : reachP op x ≤ op.length := by
  unfold reachP
  split
  · exact List.idxOf_le_length
  · exact Nat.le_refl _
theorem startP_unknown {d : Nat} {op : List (List UInt8)} {x : List UInt8} {al : List AttrP} (h : elemL x = none) : startP d op x al = (op, []) := by unfold startP; rw [if_pos h]
theorem startP_no {d : Nat} {op : List (List UInt8)} {x : List UInt8} {al : List AttrP} (h : elemL x ≠ none) (h2 : (findP (clsX x) op (reachP op x)).2 = 0 ∨ d < (findP (clsX x) op (reachP op x)).1 + (impP (findP (clsX x) op (reachP op x)).2).length + 1) : startP d op x al = (op, []) := by unfold startP; rw [if_neg h, if_pos h2]
theorem startP_yes {d : Nat} {op : List (List UInt8)} {x : List UInt8} {al : List AttrP} (h : elemL x ≠ none) (h2 : ¬ ((findP (clsX x) op (reachP op x)).2 = 0 ∨ d < (findP (clsX x) op (reachP op x)).1 + (impP (findP (clsX x) op (reachP op x)).2).length + 1)) :
    startP d op x al = (op.take (findP (clsX x) op (reachP op x)).1 ++ impP (findP (clsX x) op (reachP op x)).2 ++ (if modX x = 9 then [] else [x]), closeE (findP (clsX x) op (reachP op x)).1 op ++ openE (impP (findP (clsX x) op (reachP op x)).2) ++ [.start x al]) := by unfold startP; rw [if_neg h, if_neg h2]

set_option maxHeartbeats 16000000 in
set_option maxRecDepth 100000 in
theorem startB_any (w0 : World) (ob b d : Nat) (op : List (List UInt8)) (ov outv : Value) (J : List Ev) (xs : List Value) (x : ByteArray) (av : Value) (al : List AttrP) (w : World) (h : BalS w0 w ob b d op ov outv J xs) (ha : AttrsR w0 av al) (hal : al.length ≤ 60000000) (hl : J.length ≤ 300000000) (hop : op.length ≤ 800000) :
    Calls Tryz.prog 65 #[.pointer (some ⟨b, 0, none⟩), .string x, av] w (BalOut w0 w ob b d ov outv J (startP d op x.toList al)) := by
  obtain ⟨op', oc, rfl⟩ := row_shape h.at_.op
  obtain ⟨ap, ac, rfl⟩ := ha.len
  have hfd := find_any x w h.kinds
  have HF := hid hfd
  clear hfd
  by_cases hk : elemL x.toList = none
  · rw [startP_unknown hk]
    rw [hk] at HF
    have H0 := hid h
    clear h
    go_enter Tryz.func65, Tryz.ntmps65
    go_wp2_with fail
    refine HF.out.mono ?_
    rintro e W1 ⟨rfl, hb1⟩
    have hbz := hb1.trans ((Below.refl W1.heap.size W1).alloc (Nat.le_refl _) (.cells zeroE 172) |>.mono hb1.size)
    have HZ := hid (And.intro (H0.out.below hbz) hbz)
    unfold foundV zeroE at *
    dsimp only
    clear hb1 HF hbz
    go_wp2_with fail
    (try simp only [Exit.inBlock, Exit.then]); refine bodyPost_ret (results_none rfl _ _ _) rfl ?_
    exact ⟨rfl, _, _, xs, by rw [List.append_nil]; exact HZ.out.1, BalF.of_below HZ.out.2⟩
  · rw [elem_some hk] at HF
    obtain ⟨R, hR⟩ : ∃ R, startP d op x.toList al = R := ⟨_, rfl⟩
    rw [hR]
    have HR := hid (And.intro hk hR)
    have H0 := hid h
    have HA := hid ha
    obtain ⟨C, hC⟩ : ∃ C, clsX x.toList = C := ⟨_, rfl⟩
    obtain ⟨M, hM⟩ : ∃ C, modX x.toList = C := ⟨_, rfl⟩
    have hCl : C < 10 := by rw [← hC]; exact clsX_lt _
    have hMl : M < 10 := by rw [← hM]; exact modX_lt _
    have HCM := hid (And.intro hC hM)
    rw [hC, hM] at HF
    clear h ha hk hR hC hM
    go_enter Tryz.func65, Tryz.ntmps65
    go_wp2_with fail
    refine HF.out.mono ?_
    rintro e W1 ⟨rfl, hb1⟩
    unfold foundV elemC
    dsimp only
    go_upto_region 1 with fail
    obtain ⟨W2, hW2⟩ : ∃ W2, W1.alloc (.cells #[.string (bs x.toList), .int .i64 (C : Nat), .int .i64 (M : Nat)] 172) = W2 := ⟨_, rfl⟩
    have hb2 : Below W1.heap.size W1 W2 := by rw [← hW2]; exact (Below.refl _ _).alloc (Nat.le_refl _) _
    have n2 : W2.heap[W1.heap.size]? = some (.cells #[.string (bs x.toList), .int .i64 (C : Nat), .int .i64 (M : Nat)] 172 (0, 0)) := by rw [← hW2]; exact heap_alloc_new _ _
    simp only [hW2]
    clear hW2
    have hb12 : Below w.heap.size w W2 := hb1.trans (hb2.mono hb1.size)
    have h2 := H0.out.below hb12
    obtain ⟨fr1, fr2, fr3⟩ := (H0.out.below hb1).fresh (Nat.le_refl W1.heap.size)
    obtain ⟨EB, hEB⟩ : ∃ n, W1.heap.size = n := ⟨_, rfl⟩
    rw [hEB] at n2 fr1 fr2 fr3
    simp only [hEB]
    have hrc := fun W (hb : Below W2.heap.size W2 W) => reach_any w0 ob b d op _ outv J xs x.toList W (h2.below hb) (by omega)
    have hfc := fun W (hb : Below W2.heap.size W2 W) => findB_any w0 ob b d op _ outv J xs C (reachP op x.toList) W (h2.below hb) (reachP_le op _) hCl (by omega)
    obtain ⟨F, hF⟩ : ∃ F, findP C op (reachP op x.toList) = F := ⟨_, rfl⟩
    obtain ⟨F1, F2⟩ := F
    rw [HCM.out.1, HCM.out.2] at hrc
    rw [hF] at hfc
    have hF1 : F1 ≤ op.length := by have := findP_le C op (reachP op x.toList); rw [hF] at this; exact Nat.le_trans this (reachP_le _ _)
    have hF2 : F2 < 10 := by have := findP_lt C op (reachP op x.toList); rw [hF] at this; exact this
    obtain ⟨RE, hRE⟩ : ∃ n, reachP op x.toList = n := ⟨_, rfl⟩
    rw [hRE] at hrc hfc
    have HRC := hid hrc
    have HFC := hid hfc
    have H2 := hid (And.intro h2 (And.intro hb12 n2))
    have HFF := hid (And.intro hF hRE)
    obtain ⟨BX, hBX⟩ : ∃ n, bs x.toList = n := ⟨_, rfl⟩
    rw [hBX] at n2 HRC
    have HBX := hid hBX
    simp only [hBX]
    clear hrc hfc h2 hb12 hb1 hb2 HF hF hRE hEB hBX
    go_upto_region 2 with fail
    go_cut [8, 9] from 12 (fun kv pv wc => kv = .int .i64 (F1 : Nat) ∧ pv = .int .i64 (F2 : Nat) ∧ Hid (Below W2.heap.size W2 wc))
    case first =>
      have e0 := cell_at n2 (j := 0) rfl
      have e1 := cell_at n2 (j := 1) rfl
      have e2 := cell_at n2 (j := 2) rfl
      have hne := block_lt n2
      clear n2
      go_region_with (first
        | (go_at_call 123; refine (HRC.out _ (by first | exact Below.refl _ _ | exact below_drewN (Below.refl _ _) 1)).mono ?_; rintro e W8 ⟨rfl, b8⟩; have hb8 : Below W2.heap.size W2 W8 := ⟨b8.os, b8.tape, b8.output, b8.size, b8.block⟩; replace e1 := cell_low e1 hb8 hne)
        | (go_at_call 122; refine (HFC.out _ (by exact hb8)).mono ?_; rintro e W9 ⟨rfl, rfl⟩))
      all_goals
        have HB8 := hid hb8
        clear hb8 b8
        go_wp2_with fail
        go_meet
        exact ⟨rfl, rfl, HB8⟩
    case rest =>
      obtain ⟨rfl, rfl, HQ⟩ := hcut
      clear n2 HRC HFC
      have him := implied_any F2 hF2 wc
      have himl := imp_len F2
      have himo := fun x (hx : x ∈ impP F2) => imp_ok hx
      have HI := hid him
      have HO := hid himo
      have hs3 := H2.out.1.below HQ.out
      have n3 := (HQ.out.block _ (block_lt H2.out.2.2)).trans H2.out.2.2
      rw [HBX.out] at n3
      have H3 := hid (And.intro hs3 (And.intro (H2.out.2.1.trans (HQ.out.mono H2.out.2.1.size)) n3))
      clear him himo hs3 n3 H2 HQ
      go_wp2_with fail
      refine HI.out.mono ?_
      rintro e W4 ⟨iv, rfl, hrow, hb4⟩
      have hs4 := H3.out.1.below hb4
      have n4 := (hb4.block _ (block_lt H3.out.2.2)).trans H3.out.2.2
      have hw4 := H3.out.2.1.trans (hb4.mono H3.out.2.1.size)
      obtain ⟨ip, ic, rfl⟩ := row_shape hrow
      have c0 := cell_at hs4.at_.bx (j := 0) rfl
      have H4 := hid (And.intro hs4 (And.intro hw4 (And.intro n4 hrow)))
      have hw1 : IntKind.i64.wrap ((F1 : Int) + ((impP F2).length : Int)) = (F1 : Int) + ((impP F2).length : Int) := by rw [IntKind.wrap_i64]; omega
      have hw2 : IntKind.i64.wrap ((F1 : Int) + ((impP F2).length : Int) + 1) = (F1 : Int) + ((impP F2).length : Int) + 1 := by rw [IntKind.wrap_i64]; omega
      clear hs4 n4 hw4 hrow hb4 HI H3
      have hR1 := HR.out.1
      by_cases hp0 : F2 = 0
      · have hfin : startP d op x.toList al = (op, []) := startP_no hR1 (.inl (by rw [HCM.out.1, HFF.out.2, ← HFF.out.2, HFF.out.1]; exact hp0))
        rw [HR.out.2] at hfin
        subst hfin
        subst hp0
        clear c0 hw1 hw2 hR1
        go_wp2_with fail
        (try simp only [Exit.inBlock, Exit.then]); refine bodyPost_ret (results_none rfl _ _ _) rfl ?_
        exact ⟨rfl, _, _, xs, by rw [List.append_nil]; exact H4.out.1, BalF.of_below H4.out.2.1⟩
      · have q : ((F2 : Int) == 0) = false := by rw [Bool.eq_false_iff]; intro h; rw [beq_iff_eq] at h; omega
        by_cases hdp : d < F1 + (impP F2).length + 1
        · have hfin : startP d op x.toList al = (op, []) := startP_no hR1 (.inr (by rw [HCM.out.1, HFF.out.1]; exact hdp))
          rw [HR.out.2] at hfin
          subst hfin
          have hdd : decide ((d : Int) < (F1 : Int) + ((impP F2).length : Int) + 1) = true := decide_eq_true (by omega)
          have hdd2 : (d : Int) < (F1 : Int) + ((impP F2).length : Int) + 1 := by omega
          clear hR1
          go_wp2_with fail
          (try simp only [Exit.inBlock, Exit.then]); refine bodyPost_ret (results_none rfl _ _ _) rfl ?_
          exact ⟨rfl, _, _, xs, by rw [List.append_nil]; exact H4.out.1, BalF.of_below H4.out.2.1⟩
        · have hfin := startP_yes (d := d) (op := op) (al := al) hR1 (by rw [HCM.out.1, HFF.out.1]; exact fun h => h.elim hp0 hdp)
          obtain ⟨SF, hSF⟩ : ∃ l, (if M = 9 then [] else [x.toList]) = l := ⟨_, rfl⟩
          rw [HR.out.2, HCM.out.1, HCM.out.2, HFF.out.1, hSF] at hfin
          subst hfin
          have HSF := hid hSF
          clear hSF
          have hdd : decide ((d : Int) < (F1 : Int) + ((impP F2).length : Int) + 1) = false := decide_eq_false (by omega)
          have hdd2 : ¬ (d : Int) < (F1 : Int) + ((impP F2).length : Int) + 1 := by omega
          have hct := closeTo_any w0 ob b d op _ outv J xs F1 W4 H4.out.1 hF1 (by omega) (by omega)
          have HC := hid hct
          clear hR1 hct HR
          go_wp2_with fail
          refine HC.out.mono ?_
          rintro e W5 ⟨rfl, ov5, outv5, xs5, hs5, hf5⟩
          have hr5 := hf5.row H4.out.1.at_ H4.out.2.2.2 (by decide) (by decide) (by decide)
          have hlo5 : (op.take F1).length ≤ 800000 := by rw [List.length_take]; omega
          have hlj5 : (J ++ closeE F1 op).length ≤ 360000000 := by rw [List.length_append]; unfold closeE; rw [List.length_map, List.length_reverse, List.length_drop]; omega
          have hoi := openImp_any w0 ob b d (op.take F1) ov5 outv5 _ xs5 _ (impP F2) _ W5 hs5 hr5 (fun x hx => ⟨(HO.out x hx).1, (HO.out x hx).2.1⟩) (by omega) (by omega) (by omega)
          have HOI := hid hoi
          have H5 := hid (And.intro hf5 (And.intro hlo5 hlj5))
          clear hs5 hr5 hoi hf5 HC c0 hw1 hw2 hlo5 hlj5
          go_wp2_with fail
          refine HOI.out.mono ?_
          rintro e W6 ⟨rfl, ov6, outv6, xs6, hs6, hf6⟩
          have hff := H5.out.1.trans hf6
          have n6 := hff.keep H4.out.2.2.1 fr1 fr2 fr3
          have e0 := cell_at n6 (j := 0) rfl
          have e1 := cell_at n6 (j := 1) rfl
          have e2 := cell_at n6 (j := 2) rfl
          have hne := block_lt n6
          have ha6 := HA.out.below hs6.be
          have hlj6 : (J ++ closeE F1 op ++ openE (impP F2)).length ≤ 480000000 := by rw [List.length_append]; unfold openE; rw [List.length_map]; have := H5.out.2.2; omega
          have hlo6 : (op.take F1 ++ impP F2).length ≤ 1000000 := by rw [List.length_append]; have := H5.out.2.1; omega
          have hoe := fun v8 W8 (hb : Below W6.heap.size W6 W8) (hr : W8.ownsRow W6.heap.size 122 2 v8 al.length (attrsV al)) =>
            openEl_any w0.heap.size ob b d _ ov6 outv6 _ xs6 x.toList v8 al W8 (hs6.at_.below hb) (Nat.le_trans hs6.h2 hb.size) (Nat.le_trans hs6.base hb.size) (modX_lt _) (row_low hr hs6.h2) (fun g hg => notIn_new (hr.lt g hg).1 _ _ hs6.at_.out.evs) hlj6 hlo6
          rw [HCM.out.1, HCM.out.2, HBX.out, HSF.out] at hoe
          have HOE := hid hoe
          have H6 := hid (And.intro hs6 ((BalF.of_below H4.out.2.1).trans hff))
          have HA6 := hid ha6
          clear hs6 hf6 hff n6 ha6 hoe HOI H5
          go_wp2_with fail
          go_region_law (first
            | (go_simp; go_at_call 126; refine (HOE.out _ _ (by exact HB8.out) (by exact HR8.out)).mono ?_; rintro e W9 ⟨rfl, ov9, outv9, ha9, hf9⟩)
            | (refine step_append_attrs rfl (.const (.slice none 0 0)) (.tmp 52) rfl W6.heap.size (.slice none 0 0) (.slice ap al.length ac) [] al (by first | rfl | simp [Act.eval]) (by first | rfl | simp [Act.eval]) (World.ownsRow_nil _ _ _ _) (by exact HA6.out) (by exact Nat.le_refl _) (by simp only [List.length_nil]; omega) ?_; intro v8 W8 hr8 hg8; have hb8 : Below W6.heap.size W6 W8 := ⟨hg8.os, hg8.tape, hg8.output, hg8.size, fun k hk => hg8.block k hk (fun e => by cases e)⟩; have HB8 := hid hb8; have HR8 := hid hr8; obtain ⟨p8, c8, e8⟩ := row_shape hr8; subst e8; replace e0 := cell_kept e0 hb8; replace e1 := cell_kept e1 hb8; replace e2 := cell_kept e2 hb8; clear hr8 hg8 hb8))
          all_goals
            have hb8 : Below W6.heap.size W6 _ := HB8.out
            have hs9 := (H6.out.1.below hb8).step ha9 hf9
            rw [List.append_assoc J, List.append_assoc J] at hs9
            have HZ := hid (And.intro hs9 (H6.out.2.trans ((BalF.of_below hb8).trans hf9)))
            clear hs9 hb8 ha9 hf9 HOE H6 HB8 HR8
            go_end0
            exact ⟨rfl, _, _, _, HZ.out.1, HZ.out.2⟩
end Go.Proofs.YtcncbhbdpcpkeaaGreatDoor
