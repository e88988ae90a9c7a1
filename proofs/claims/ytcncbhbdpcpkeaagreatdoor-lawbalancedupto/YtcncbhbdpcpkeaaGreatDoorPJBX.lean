/-
  Parts of the walk, joined: PwC.
-/
import Derived.Deep.RegionHeld3
import Derived.Test.YtcncbhbdpcpkeaaGreatDoorPJBW
import Derived.Test.YtcncbhbdpcpkeaaGreatDoorPJBU
import Derived.Test.YtcncbhbdpcpkeaaGreatDoorPJBN
import Derived.Test.YtcncbhbdpcpkeaaGreatDoorPJBS
import Derived.Test.YtcncbhbdpcpkeaaGreatDoorPJBQ
import Derived.Test.YtcncbhbdpcpkeaaGreatDoorPJAT
import Derived.Test.YtcncbhbdpcpkeaaGreatDoorPJAG
/-
  The law LawBalanced: its walk.
-/
namespace Go.Proofs.YtcncbhbdpcpkeaaGreatDoor
open Go.RowKit Go.Lib Own

/-- a list of events that was made can be read -/
theorem made_evs {W : World} {base : Nat} {v : Value} {R : List Ev} {xs : List Value} (h : MadeE W base v R xs) : EvsR W v (R.map toP) := by
  have hl : (R.map toP).length = R.length := List.length_map _
  have hc : ∀ j e, (R.map toP)[j]? = some e → ∃ g u, (∃ n c, v = .slice (some ⟨g, 0, none⟩) n c) ∧ W.cell? ⟨g, 0 + j * 4, none⟩ = some (.int .i64 e.k) ∧ W.cell? ⟨g, 0 + j * 4 + 1, none⟩ = some (.string (bs e.n)) ∧ W.cell? ⟨g, 0 + j * 4 + 2, none⟩ = some u ∧ W.cell? ⟨g, 0 + j * 4 + 3, none⟩ = some (.string (bs e.t)) ∧ AttrsR W u e.a := fun j e hj => by
    rw [List.getElem?_map] at hj
    obtain ⟨x, hx, rfl⟩ := Option.map_eq_some_iff.1 hj
    have hlt := (List.getElem?_eq_some_iff.1 hx).1
    obtain ⟨a, k0, k1, k2, k3, ha, _⟩ := evs_get xs R j x h.evs hx
    have l3 := (List.getElem?_eq_some_iff.1 k3).1
    obtain ⟨g, cap, rfl, _, _, hcell⟩ := row_at h.row (by omega)
    refine ⟨g, a, ⟨_, _, rfl⟩, ?_, ?_, ?_, ?_, attrsR_row ha⟩
    · rw [Nat.zero_add]; exact (hcell _ (by omega)).trans k0
    · rw [Nat.zero_add]; exact (hcell _ (by omega)).trans k1
    · rw [Nat.zero_add]; exact (hcell _ (by omega)).trans k2
    · rw [Nat.zero_add]; exact (hcell _ (by omega)).trans k3
  rcases h.row.2 with ⟨rfl, h0⟩ | ⟨g, cap, cur, rfl, _, _, h1, h2, _⟩
  · refine ⟨none, 0, by rw [hl, h0], by omega, by omega, fun j e hj => ?_⟩
    have := (List.getElem?_eq_some_iff.1 hj).1
    omega
  · refine ⟨some ⟨g, 0, none⟩, cap, by rw [hl], by omega, by unfold maxLen at h2; omega, fun j e hj => ?_⟩
    obtain ⟨g', u, ⟨n, c, e'⟩, hh⟩ := hc j e hj
    cases e'
    exact ⟨g, 0, u, rfl, hh⟩
theorem plE_bulk (e : EvP) : (plE e).n.length + (plE e).t.length + bulkA (plE e).a + 1 ≤ e.n.length + e.t.length + bulkA e.a + 1 := by
  show e.n.length + (e.t.map pwC).length + 0 + 1 ≤ _
  rw [List.length_map]
  omega
theorem bulk_plain : ∀ es : List EvP, bulkE (es.map plE) ≤ bulkE es
  | [] => Nat.le_refl _
  | e :: r => by
    have ih := bulk_plain r
    have h := plE_bulk e
    rw [List.map_cons, bulkE_cons, bulkE_cons]
    omega
theorem bulk_plWhole (es : List EvP) : bulkE (plWhole es) ≤ bulkE es + 2 := by
  have h := bulk_plain es
  unfold plWhole
  rw [bulkE_cons]
  show 0 + 1 + 0 + 1 + _ ≤ _
  omega
theorem bulk_cut (K : EvP → Nat) : ∀ es : List EvP, bulkE (es.flatMap fun e => cutE (K e) e) ≤ 2 * bulkE es
  | [] => Nat.le_refl _
  | e :: r => by
    have ih := bulk_cut K r
    rw [List.flatMap_cons, bulkE_cons]
    have happ : ∀ a b : List EvP, bulkE (a ++ b) = bulkE a + bulkE b := fun a b => by unfold bulkE; rw [List.map_append, List.sum_append]
    rw [happ]
    have h : bulkE (cutE (K e) e) ≤ 2 * (e.n.length + e.t.length + bulkA e.a + 1) := by
      unfold cutE
      split
      · rw [bulkE_cons, bulkE_cons]
        show 0 + (e.t.take (K e)).length + 0 + 1 + (e.n.length + (e.t.drop (K e)).length + bulkA e.a + 1 + 0) ≤ _
        rw [List.length_take, List.length_drop]
        omega
      · rw [bulkE_cons]
        show _ + 0 ≤ _
        omega
    omega
theorem bulk_plParts (cut : Int) (es : List EvP) : bulkE (plParts cut es) ≤ 2 * bulkE es + 2 := by
  have h := bulk_cut (plK cut) (es.map plE)
  have h2 := bulk_plain es
  unfold plParts
  rw [bulkE_cons]
  show 0 + 1 + 0 + 1 + _ ≤ _
  omega
theorem wEv_begun (q : List UInt8) (r : List Ev) : ∃ s, wEv false (.text (120 :: q) :: r) = 120 :: s := by
  rw [wEv_text (by simp), if_neg (fun h => by cases h.1), List.nil_append, escL, if_neg (fun h => by cases h.1)]
  exact ⟨_, rfl⟩
set_option maxHeartbeats 16000000 in
set_option maxRecDepth 100000 in
theorem lawBalanced_walk (depth cut : Int) (ev : Value) (es : List EvP) (m : Int) (w : World) (he : EvsR w ev es) (hs : bulkE es ≤ 1100000) (hd0 : -9223372036854775808 ≤ depth) (hd1 : depth ≤ 9223372036854775807) (hc0 : -9223372036854775808 ≤ cut) (hc1 : cut ≤ 9223372036854775807)
    (hK : KindsTab w) (hN : NestTab w) (hR : MRefTab w) (hmx : w.cell? ⟨4, 0, none⟩ = some (.int .i64 m)) :
    Calls Tryz.prog 3 #[.int .i64 depth, ev, .int .i64 cut] w fun e w' => e = .returned (.bool true) ∧ Below w.heap.size w w' := by
  obtain ⟨ep, en, ec, rfl⟩ := he.shape
  have hw := within_bounds depth 1 256 (by omega)
  have hwi := fun W => withinG_any depth 1 256 hd0 hd1 (by omega) (by omega) (by omega) W
  obtain ⟨D, hD⟩ : ∃ D : Nat, withinP depth 1 256 = (D : Int) := ⟨(withinP depth 1 256).toNat, by omega⟩
  rw [hD] at hw hwi
  have hpe := fun W (hW : Below w.heap.size w W) => plainEvents_any _ es cut W (he.below hW) hs hc0 hc1
  have hbw := bulk_plWhole es
  have hbp := bulk_plParts cut es
  obtain ⟨R, hRR⟩ : ∃ R, balP D (plWhole es) = R := ⟨_, rfl⟩
  have hbc : ∀ l, balC (D : Int) l = balP D l := fun l => by unfold balC; rw [if_neg (by omega)]; rfl
  have hcutR : balP D (plParts cut es) = R := by rw [← hRR]; exact cut_bal D (plK cut) (es.map plE)
  have hagain : balP D (R.map toP) = R := by rw [← hRR]; exact (bal_taken D _).2
  have hbR : bulkE (R.map toP) ≤ 50000000 := by
    have := bal_bulk D (plWhole es) (plWhole_a es)
    rw [hRR] at this
    omega
  have hwide : (wEv false R).length ≤ 80000000 := by
    have := bal_wide D (plWhole es) (plWhole_a es)
    rw [hRR] at this
    omega
  have hread : parseP (wEv false R) = (0, foldP (R.map toP)) := by rw [← hRR]; exact bal_read (by omega) (plWhole es) (plWhole_a es)
  have hdeep : ∀ n ∈ foldP (R.map toP), n.n ≠ [] → n.k < D := by rw [← hRR]; exact bal_deep D (plWhole es)
  obtain ⟨s, hbeg⟩ : ∃ s, wEv false R = 120 :: s := by
    obtain ⟨q, r, e⟩ := bal_begun D (es.map plE)
    rw [← hRR]
    show ∃ s, wEv false (balP D (xE :: es.map plE)) = _
    rw [e]
    exact wEv_begun q r
  have hr3 := fun W (hW : Below w.heap.size w W) v l (hx : EvsR W v l) (hl : balP D l = R) (hb : bulkE l ≤ 60000000) => balance_any (D : Int) v l W hx hb (hK.below hW) (hN.below hW)
  simp only [hbc] at hr3
  have hr3' : ∀ W (hW : Below w.heap.size w W) v l (hx : EvsR W v l) (hl : balP D l = R) (hb : bulkE l ≤ 60000000), Calls Tryz.prog 8 #[.int .i64 D, v] W (MadeOut W R) := fun W hW v l hx hl hb => by
    have := hr3 W hW v l hx hl hb
    rw [hl] at this
    exact this
  have hr6 := fun (W : World) (B1 B2 : Nat) gv dv xs ys (m1 : MadeE W B1 gv R xs) (m2 : MadeE W B2 dv R ys) => sameEvents_any B1 B2 gv dv xs ys R W m1.row m1.evs m2.row m2.evs
  have hr8 := fun W (hW : Below w.heap.size w W) v (hx : EvsR W v (R.map toP)) => write_any v (R.map toP) m W hx (by omega) (cell_low hmx hW (cell_block hmx))
  have hr9 := fun W (hW : Below w.heap.size w W) => parse_any (wEv false R) m W hwide (hR.below hW) (cell_low hmx hW (cell_block hmx)) (hK.below hW)
  have hrb := fun W => begun_any (bs (wEv false R)) W (by rw [bs_size]; omega)
  rw [bs_data] at hrb
  have hb1 : ((wEv false R).head? == some 120) = true := by rw [hbeg]; rfl
  have hrf := fun W (hW : Below w.heap.size w W) v (hx : EvsR W v (R.map toP)) => fold_any v (R.map toP) W hx (by omega) (hK.below hW)
  have hFb : (foldP (R.map toP)).length ≤ 60000000 := by have := fold_bulk (R.map toP); have := bulkE_len (R.map toP); omega
  obtain ⟨F, hF⟩ : ∃ F, foldP (R.map toP) = F := ⟨_, rfl⟩
  rw [hF] at hread hdeep hrf hFb
  have hrs := fun W v1 v2 (h1 : EvsR W v1 F) (h2 : EvsR W v2 F) => sameNodesR_any v1 v2 F W h1 h2
  have hpo : ∀ w w' e, ParseOut w w' (wEv false R) e → ∃ nv prs, e = .returned (.agg #[.int .i64 0, nv]) ∧ MadeN w' w.heap.size nv prs ∧ prs.map Prod.fst = F ∧ Below w.heap.size w w' := fun w w' e h => by
    have := h.it
    rw [hread] at this
    exact this
  obtain ⟨TX, hTX⟩ : ∃ TX, bs (wEv false R) = TX := ⟨_, rfl⟩
  have hwr : bs (writeW false (R.map toP)) = TX := hTX
  rw [hTX] at hr9
  simp only [hwr] at hr8
  have hb2 : ∀ W, Calls Tryz.prog 12 #[.string TX] W fun e w' => e = .returned (.bool true) ∧ w' = W := fun W => by
    have := hrb W
    rw [hb1, hTX] at this
    exact this
  have HWI := hid hwi
  have HPE := hid hpe
  have HB := hid (fun W hW v l hx hl hb => hr3' W hW v l hx hl hb)
  have HS := hid hr6
  have HW8 := hid hr8
  have HP := hid hr9
  have HBG := hid hb2
  have HFO := hid hrf
  have HSN := hid hrs
  have HPO := hid hpo
  have HAG := hid (And.intro hagain (And.intro hbR (And.intro hcutR (And.intro hRR (And.intro hbw hbp)))))
  have HDP := hid (And.intro hdeep hFb)
  have hDb : 1 ≤ D ∧ D ≤ 256 := by omega
  have hsm : bulkE es ≤ 1100000 := hs
  clear hb1 he hs hd0 hd1 hc0 hc1 hK hN hR hmx hw hwi hpe hbw hbp hRR hbc hcutR hagain hbR hwide hread hdeep hbeg hr3 hr3' hr6 hr8 hr9 hrb hrf hFb hF hrs hpo hwr hTX hb2 hD
  go_enter Tryz.func3, Tryz.ntmps3
  go_wp2_with fail
  refine (HWI.out _).mono ?_
  rintro e w1 ⟨rfl, hw1⟩
  obtain rfl := hw1.symm
  go_wp2_with fail
  refine (HPE.out _ (Below.refl _ _)).mono ?_
  rintro e w2 ⟨v1, v2, rfl, hv1, hv2, hb2⟩
  obtain ⟨p1, n1, c1, rfl⟩ := hv1.shape
  obtain ⟨p2, n2, c2, rfl⟩ := hv2.shape
  have HV := hid (And.intro hb2 (And.intro hv1 hv2))
  clear hb2 hv1 hv2
  go_wp2_with fail
  refine (HB.out _ HV.out.1 _ _ HV.out.2.1 HAG.out.2.2.2.1 (by have := HAG.out.2.2.2.2.1; omega)).mono ?_
  rintro e w3 ⟨nv, xs, rfl, hm3, hb3⟩
  obtain ⟨np, nc, rfl⟩ := row_shape hm3.row
  have H3 := hid (And.intro (HV.out.1.trans (hb3.mono HV.out.1.size)) (And.intro (HV.out.2.2.below hb3) hm3))
  clear hb3 hm3 HV
  go_wp2_with fail
  refine (HB.out _ H3.out.1 _ _ H3.out.2.1 HAG.out.2.2.1 (by have := HAG.out.2.2.2.2.2; omega)).mono ?_
  rintro e w4 ⟨ov, ys, rfl, hm4, hb4⟩
  obtain ⟨op, oc, rfl⟩ := row_shape hm4.row
  have H4 := hid (And.intro (H3.out.1.trans (hb4.mono H3.out.1.size)) (And.intro (H3.out.2.2.below hb4) hm4))
  clear hb4 hm4 H3
  go_wp2_with fail
  refine (HB.out _ H4.out.1 _ _ (made_evs H4.out.2.1) HAG.out.1 (by have := HAG.out.2.1; omega)).mono ?_
  rintro e w5 ⟨gv, zs, rfl, hm5, hb5⟩
  obtain ⟨gp, gc, rfl⟩ := row_shape hm5.row
  have H5 := hid (And.intro (H4.out.1.trans (hb5.mono H4.out.1.size)) (And.intro (H4.out.2.1.below hb5) (And.intro (H4.out.2.2.below hb5) hm5)))
  clear hb5 hm5 H4
  go_wp2_with fail
  refine (HS.out _ _ _ _ _ _ _ H5.out.2.1 H5.out.2.2.1).mono ?_
  rintro e w6 ⟨rfl, q6, rfl⟩
  have H6 := hid (And.intro (below_drewN H5.out.1 q6) (And.intro (H5.out.2.1.below (below_drewN (Below.refl _ _) q6)) (H5.out.2.2.2.below (below_drewN (Below.refl _ _) q6))))
  clear H5
  generalize World.drewN _ q6 = W6 at H6 ⊢
  go_wp2_with fail
  refine (HS.out _ _ _ _ _ _ _ H6.out.2.1 H6.out.2.2).mono ?_
  rintro e w7 ⟨rfl, q7, rfl⟩
  have H7 := hid (And.intro (below_drewN H6.out.1 q7) (H6.out.2.1.below (below_drewN (Below.refl _ _) q7)))
  clear H6
  generalize World.drewN _ q7 = W7 at H7 ⊢
  go_wp2_with fail
  refine (HW8.out _ H7.out.1 _ (made_evs H7.out.2)).mono ?_
  rintro e w8 ⟨rfl, hb8⟩
  have H8 := hid (And.intro (H7.out.1.trans (hb8.mono H7.out.1.size)) (H7.out.2.below hb8))
  clear hb8 H7
  go_wp2_with fail
  refine (HP.out _ H8.out.1).mono ?_
  rintro e w9 ho9
  obtain ⟨rv, prs, rfl, mr, hpr, hb9⟩ := HPO.out _ _ _ ho9
  obtain ⟨rp, rc, rfl⟩ := row_shape mr.row
  have hpl : prs.length = F.length := by have := congrArg List.length hpr; rw [List.length_map] at this; exact this
  rw [hpl]
  clear ho9
  go_upto_region 10 with fail
  obtain ⟨W10, hW10⟩ : ∃ W10, w9.alloc (.cells #[.int .i64 0, .slice rp F.length rc] 31) = W10 := ⟨_, rfl⟩
  have hb10 : Below w9.heap.size w9 W10 := by rw [← hW10]; exact (Below.refl _ _).alloc (Nat.le_refl _) _
  have n10 : W10.heap[w9.heap.size]? = some (.cells #[.int .i64 0, .slice rp F.length rc] 31 (0, 0)) := by rw [← hW10]; exact heap_alloc_new _ _
  simp only [hW10]
  clear hW10
  have hb910 := hb9.trans (hb10.mono hb9.size)
  have hev := (mr.below hb10).evs
  rw [hpr, hpl] at hev
  have H10 := hid (And.intro (H8.out.1.trans (hb910.mono H8.out.1.size)) (And.intro (H8.out.2.below hb910) (And.intro n10 hev)))
  obtain ⟨B9, hB9⟩ : ∃ B, w9.heap.size = B := ⟨_, rfl⟩
  rw [hB9] at H10
  simp only [hB9]
  clear hb9 hb10 n10 hb910 hev mr hpr hB9 H8 hpl
  have hbd : Below W10.heap.size W10 W10.drew := below_drewN (Below.refl W10.heap.size W10) 1
  have H11 := hid (And.intro (H10.out.1.trans (hbd.mono H10.out.1.size)) (And.intro (H10.out.2.1.below hbd) (And.intro H10.out.2.2.1 (H10.out.2.2.2.below hbd))))
  have x0 := cell_at H10.out.2.2.1 (j := 0) rfl
  have x1 := cell_at H10.out.2.2.1 (j := 1) rfl
  clear hbd H10
  go_region_with
    (first
      | (go_at_call 12; refine (HBG.out _).mono ?_; rintro r W ⟨rfl, rfl⟩)
      | (go_at_call 14; refine (HFO.out _ H11.out.1 _ (made_evs H11.out.2.1)).mono ?_; rintro r W12 ⟨fv, prs2, rfl, mf, hpf, hb12⟩; obtain ⟨fp, fc, rfl⟩ := row_shape mf.row; have hevf := mf.evs; rw [hpf] at hevf; have n12 := (hb12.block B9 (block_lt H11.out.2.2.1)).trans H11.out.2.2.1; have H12 := hid (And.intro (H11.out.1.trans (hb12.mono H11.out.1.size)) (And.intro n12 (And.intro (H11.out.2.2.2.below hb12) hevf))); have y0 := cell_at n12 (j := 0) rfl; have y1 := cell_at n12 (j := 1) rfl; clear hb12 n12 hevf mf hpf)
      | (go_at_call 13; refine (HSN.out _ _ _ H12.out.2.2.1 H12.out.2.2.2).mono ?_; rintro r W13 ⟨rfl, q13, hq13⟩; have H13 : Hid (Below w.heap.size w W13 ∧ W13.heap[B9]? = some (.cells #[.int .i64 0, .slice rp F.length rc] 31 (0, 0)) ∧ EvsR W13 (.slice rp F.length rc) F) := hid (by subst hq13; exact ⟨below_drewN H12.out.1 q13, H12.out.2.1, H12.out.2.2.1.drewN q13⟩); clear hq13 H12 y0 y1))
  all_goals
    have x0 := cell_at H13.out.2.1 (j := 0) rfl
    have x1 := cell_at H13.out.2.1 (j := 1) rfl
    clear H11 HWI HPE HB HS HW8 HP HBG HFO HSN HPO HAG
    go_wp2_with fail
    go_loopw [66] (fun iv wr => ∃ k : Nat, iv = .int .i64 k ∧ k ≤ F.length ∧ wr = W13) (fun iv _ => F.length - (RowKit.intOf iv).toNat)
    case atStart => exact ⟨0, rfl, Nat.zero_le _, rfl⟩
    case round =>
      obtain ⟨k, rfl, hk, rfl⟩ := hrel
      by_cases hkl : k < F.length
      · obtain ⟨n, hn⟩ : ∃ n, F[k]? = some n := ⟨_, List.getElem?_eq_getElem hkl⟩
        obtain ⟨p', c', e, hl, hcm, hcell⟩ := H13.out.2.2
        cases e
        obtain ⟨b, o, u, rfl, q0, q1, _, _, _⟩ := hcell k n hn
        have hle : k < rc := by omega
        have hwi : IntKind.i64.wrap ((k : Int) + 1) = (k : Int) + 1 := by rw [IntKind.wrap_i64]; have := HDP.out.2; omega
        have hmem := List.mem_of_getElem? hn
        have hne : ((bs n.n).toList != []) = decide (n.n ≠ []) := by rw [bs_toList, Bool.eq_iff_iff, bne_iff_ne, decide_eq_true_iff]
        have hne2 : ((bs n.n).toList == []) = decide (n.n = []) := by rw [bs_toList, Bool.eq_iff_iff, beq_iff_eq, decide_eq_true_iff]
        have hdp := HDP.out.1 n hmem
        have hq : (n.n = [] ∧ Hid True) ∨ (n.n ≠ [] ∧ Hid (n.k < D)) := by
          by_cases h : n.n = []
          · exact .inl ⟨h, hid trivial⟩
          · exact .inr ⟨h, hid (hdp h)⟩
        obtain ⟨BN, hBN⟩ : ∃ BN, bs n.n = BN := ⟨_, rfl⟩
        rw [hBN] at q1 hne hne2
        clear hBN hdp hmem hn hcell
        rcases hq with ⟨h, _⟩ | ⟨h, hd⟩
        case' inl =>
          rw [decide_eq_false (fun e => e h)] at hne
          rw [decide_eq_true h] at hne2
        case' inr =>
          rw [decide_eq_true h] at hne
          rw [decide_eq_false h] at hne2
          have z1 : decide (n.k ≥ (D : Int)) = false := decide_eq_false (by have := hd.out; omega)
          have z2 : decide ((D : Int) ≤ n.k) = false := decide_eq_false (by have := hd.out; omega)
          clear hd
        all_goals
          clear h
          go_wp2_with fail
          go_roundw
          case rel => first | exact ⟨k + 1, rfl, by omega, rfl⟩ | exact ⟨k + 1, rfl, by omega, trivial⟩ | ((repeat apply Exists.intro); exact ⟨⟨k + 1, rfl, by omega, rfl⟩, rfl⟩)
          case measure => simp [RowKit.intOf]; omega
      · have HZ := hid H13.out.1
        clear H13 HDP
        go_wp2_with fail
        go_ret
        exact ⟨rfl, HZ.out⟩
end Go.Proofs.YtcncbhbdpcpkeaaGreatDoor
