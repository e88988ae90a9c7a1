/-
  Parts of the walk, joined: PolLendB.
-/
import Derived.Laws.Rows
import Derived.Deep.Cut
import Derived.Deep.RegionWith
import Derived.Deep.AppendLies
import Derived.Test.YtcncbhbdpcpkeaaGreatDoorPJAK
/-
  The statements' lendPolicy: its walk.
-/
namespace Go.Proofs.YtcncbhbdpcpkeaaGreatDoor
open Go.RowKit Go.Lib Own

set_option maxHeartbeats 8000000 in
set_option maxRecDepth 100000 in
theorem lendPolicy_any (vr vs vd mv : Value) (P : PolP) (ms : List (List UInt8)) (w : World) (h : PolR w vr vs vd P) (hF : P.Few) (hM : Words w mv ms) (hm : ms.length ≤ 2000000) :
    Calls Tryz.prog 17 #[.agg (polC vr vs vd P), mv] w fun e w' => ∃ v, e = .returned v ∧ LentR w' v P ms ∧ Below w.heap.size w w' := by
  have f1 := hF.rules
  have f2 := hF.schemes
  have f3 := hF.drop
  obtain ⟨rp, rc, rfl, hr1, hr2, hr3⟩ := h.rules
  obtain ⟨sp, sc, rfl, _⟩ := h.schemes
  obtain ⟨dp, dc, rfl, _⟩ := h.drop
  obtain ⟨mp, mc, rfl, _⟩ := hM.len
  have HR3 := hid hr3
  have HP := hid h
  have HF := hid hF
  have HM := hid hM
  have hB : LndB w ((w.alloc (.cells (polC (.slice rp P.rules.length rc) (.slice sp P.schemes.length sc) (.slice dp P.drop.length dc) P) 43)).alloc (.cells zeroL 48)) (polC (.slice rp P.rules.length rc) (.slice sp P.schemes.length sc) (.slice dp P.drop.length dc) P) :=
    ⟨((Below.refl w.heap.size w).alloc (Nat.le_refl _) _).alloc (by simp) _, (Go.Lib.alloc_old _ _ _ (by simp)).trans (heap_alloc_new w _), by have := heap_alloc_new (w.alloc (.cells (polC (.slice rp P.rules.length rc) (.slice sp P.schemes.length sc) (.slice dp P.drop.length dc) P) 43)) (.cells zeroL 48); simpa using this⟩
  have hls := fun W (hW : PolR W (.slice rp P.rules.length rc) (.slice sp P.schemes.length sc) (.slice dp P.drop.length dc) P) hM => longTexts_any (.slice sp P.schemes.length sc) (.slice mp ms.length mc) P.schemes ms W hW.schemes hM (by omega) (by omega)
  have hld := fun W (hW : PolR W (.slice rp P.rules.length rc) (.slice sp P.schemes.length sc) (.slice dp P.drop.length dc) P) hM => longTexts_any (.slice dp P.drop.length dc) (.slice mp ms.length mc) P.drop ms W hW.drop hM (by omega) (by omega)
  have HLS := hid hls
  have HLD := hid hld
  clear hls hld hr3 h hF hM
  unfold polC zeroL at hB
  unfold polC
  go_enter Tryz.func17, Tryz.ntmps17
  go_upto_region 1 with fail
  obtain ⟨W0, hW0⟩ : ∃ W0, ((w.alloc (.cells #[.slice rp P.rules.length rc, .slice sp P.schemes.length sc, .slice dp P.drop.length dc, .int .i64 P.depth, .int .i64 P.window] 43)).alloc (.cells #[.slice none 0 0, .slice none 0 0, .slice none 0 0, .int .i64 0, .int .i64 0, .slice none 0 0, .slice none 0 0, .slice none 0 0, .slice none 0 0] 48)) = W0 := ⟨_, rfl⟩
  rw [hW0] at hB
  simp only [hW0]
  go_cut [5] from 10 (fun lv wc => ∃ b5 sv dv, lv = .pointer (some ⟨b5, 0, none⟩) ∧ Hid (LndB w wc (polC (.slice rp P.rules.length rc) (.slice sp P.schemes.length sc) (.slice dp P.drop.length dc) P) ∧ LndG w wc b5 (.slice none 0 0) (.slice none 0 0) sv dv P.rules (P.schemes ++ ms) (P.drop ++ ms) ms [] []))
  case first =>
    obtain ⟨c0, c1, c2, c3, c4⟩ := polC_at (P := P) hB.b0
    have hlt0 := block_lt hB.b0
    have HB := hid hB
    clear hB hW0
    go_region_with (first
      | (go_at_call_of 49 (Value.slice sp P.schemes.length sc); refine (HLS.out _ (HP.out.below (by first | exact HB.out.drew.be | exact (HB.out.drew.alloc _).be)) (HM.out.below (by first | exact HB.out.drew.be | exact (HB.out.drew.alloc _).be))).mono ?_; rintro e W8 ⟨sv, rfl, r1, b8⟩; rw [List.length_append] at r1; obtain ⟨sp8, sc8, rfl⟩ := row_shape r1; have hB8 : LndB w W8 (polC (.slice rp P.rules.length rc) (.slice sp P.schemes.length sc) (.slice dp P.drop.length dc) P) := LndB.below (by first | exact HB.out.drew | exact HB.out.drew.alloc _) b8; obtain ⟨c0, c1, c2, c3, c4⟩ := polC_at (P := P) hB8.b0; have hlt8 := block_lt hB8.b0; have HB8 := hid hB8; clear hB8; try (have HZ8 : Hid (W8.heap[W0.heap.size]? = some (.cells #[.slice none 0 0, .slice none 0 0, .slice none 0 0, .int .i64 0, .int .i64 0, .slice none 0 0, .slice none 0 0, .slice none 0 0, .slice none 0 0] 48 (0, 0))) := (b8.block _ (alloc_lt W0.drew _)).trans (heap_alloc_new W0.drew (.cells #[.slice none 0 0, .slice none 0 0, .slice none 0 0, .int .i64 0, .int .i64 0, .slice none 0 0, .slice none 0 0, .slice none 0 0, .slice none 0 0] 48)); obtain ⟨z0, z1, z2, z3, z4, z5, z6, z7, z8, y0, y1, y2, y3, y4, y5, y6, y7, y8⟩ := lp_cells HZ8.out))
      | (go_at_call_of 49 (Value.slice dp P.drop.length dc); refine (HLD.out _ (HP.out.below (by first | exact HB8.out.be | exact (HB8.out.alloc _).be)) (HM.out.below (by first | exact HB8.out.be | exact (HB8.out.alloc _).be))).mono ?_; rintro e W9 ⟨dv, rfl, r2, b9⟩; rw [List.length_append] at r2; obtain ⟨sp9, sc9, rfl⟩ := row_shape r2; first | (have HZ9 := hid ((b9.block _ (block_lt HZ8.out)).trans HZ8.out); obtain ⟨z0, z1, z2, z3, z4, z5, z6, z7, z8, y0, y1, y2, y3, y4, y5, y6, y7, y8⟩ := lp_cells HZ9.out) | (have HZ9 : Hid (W9.heap[W8.heap.size]? = some (.cells #[.slice none 0 0, .slice none 0 0, .slice none 0 0, .int .i64 0, .int .i64 0, .slice none 0 0, .slice none 0 0, .slice none 0 0, .slice none 0 0] 48 (0, 0))) := (b9.block _ (alloc_lt W8 _)).trans (heap_alloc_new W8 (.cells #[.slice none 0 0, .slice none 0 0, .slice none 0 0, .int .i64 0, .int .i64 0, .slice none 0 0, .slice none 0 0, .slice none 0 0, .slice none 0 0] 48)); obtain ⟨z0, z1, z2, z3, z4, z5, z6, z7, z8, y0, y1, y2, y3, y4, y5, y6, y7, y8⟩ := lp_cells HZ9.out) | skip))
    all_goals
      have hb9 : LndB w W9 (polC (.slice rp P.rules.length rc) (.slice sp P.schemes.length sc) (.slice dp P.drop.length dc) P) := LndB.below (by first | exact HB8.out | exact HB8.out.alloc _) b9
      have q1 : W9.ownsRow w.heap.size 9 1 (.slice sp8 (P.schemes.length + ms.length) sc8) (P.schemes ++ ms).length (wordsV (P.schemes ++ ms)) := by
        rw [List.length_append]
        first | exact row_below (row_low r1 (by first | exact HB.out.be.size | exact (HB.out.alloc _).be.size)) b9 | exact row_below ((row_low r1 (by first | exact HB.out.be.size | exact (HB.out.alloc _).be.size)).alloc _) b9
      have q2 : W9.ownsRow w.heap.size 9 1 (.slice sp9 (P.drop.length + ms.length) sc9) (P.drop ++ ms).length (wordsV (P.drop ++ ms)) := by
        rw [List.length_append]
        exact row_low r2 (by first | exact HB8.out.be.size | exact (HB8.out.alloc _).be.size)
      have HX := hid (And.intro hb9 (And.intro q1 q2))
      clear hb9 q1 q2 r1 r2 b8 b9
      go_wp2_with fail
      go_meet
      refine ⟨_, .slice sp8 (P.schemes.length + ms.length) sc8, .slice sp9 (P.drop.length + ms.length) sc9, rfl, hid ?_⟩
      first
        | with_reducible exact lnd_new HX.out.1 HX.out.2.1 HX.out.2.2
        | with_reducible exact lnd_set HX.out.1 HZ9.out (by have := block_lt HB8.out.b1; omega) HX.out.2.1 HX.out.2.2
        | with_reducible exact lnd_set HX.out.1 HZ9.out (by have := block_lt HB.out.b1; omega) HX.out.2.1 HX.out.2.2
  case rest =>
    obtain ⟨b5, sv, dv, rfl, HL⟩ := hcut
    obtain ⟨c0, c1, c2, c3, c4⟩ := polC_at (P := P) HL.out.1.b0
    go_wp2_with fail
    go_loopw [6, 7, 8, 22] (fun _ _ _ iv wr => ∃ (k : Nat) (rv av : Value) (prs : List (RuleP × Value)) (us : List Value), iv = .int .i64 k ∧ k ≤ P.rules.length ∧ us.length = k ∧ prs.length = k ∧ Hid (prs.map Prod.fst = P.rules.take k) ∧ Hid (LndB w wr (polC (.slice rp P.rules.length rc) (.slice sp P.schemes.length sc) (.slice dp P.drop.length dc) P) ∧ LndG w wr b5 rv av sv dv P.rules (P.schemes ++ ms) (P.drop ++ ms) ms prs us)) (fun _ _ _ iv _ => P.rules.length - (RowKit.intOf iv).toNat)
    case atStart => exact ⟨0, _, _, [], [], rfl, Nat.zero_le _, rfl, rfl, hid rfl, HL⟩
    case round =>
      obtain ⟨k, rv, av, prs, us, rfl, hk, hus, hprs, HPF, HX⟩ := hrel
      clear HL c0 c1 c2 c3 c4
      obtain ⟨c0, c1, c2, c3, c4⟩ := polC_at (P := P) HX.out.1.b0
      by_cases hkl : k < P.rules.length
      · obtain ⟨q, hq⟩ : ∃ q, P.rules[k]? = some q := ⟨_, List.getElem?_eq_getElem hkl⟩
        obtain ⟨b, o, u, rfl, d1, d2, hwu⟩ := HR3.out k q hq
        replace d1 := cell_low d1 HX.out.1.be (cell_block d1)
        replace d2 := cell_low d2 HX.out.1.be (cell_block d2)
        have hat := HF.out.attrs q (List.mem_of_getElem? hq)
        have hlt := longTexts_any u (.slice mp ms.length mc) q.2 ms wr (hwu.below HX.out.1.be) (HM.out.below HX.out.1.be) (by omega) (by omega)
        obtain ⟨up, uc, rfl, _⟩ := hwu.len
        have HLT := hid hlt
        have HQ := hid hq
        clear hlt hq hwu c1 c2 c3 c4
        go_wp2_with fail
        refine HLT.out.mono ?_
        rintro e w2 ⟨u', rfl, r1, b8⟩
        have hB2 := HX.out.1.below b8
        have hG2 := HX.out.2.below b8
        have r2 := row_low r1 HX.out.1.be.size
        have hsz2 := hB2.be.size
        obtain ⟨ap, ac, rfl⟩ := row_shape hG2.a
        obtain ⟨up', uc', hu'⟩ := row_shape r2
        subst hu'
        obtain ⟨_, _, e2, hle2⟩ := (Words.row (by exact r2)).len
        cases e2
        rw [List.length_append] at r2 hle2
        have HX2 := hid (And.intro hB2 (And.intro hG2 r2))
        obtain ⟨z0, z1, z2, z3, z4, z5, z6, z7, z8, y0, y1, y2, y3, y4, y5, y6, y7, y8⟩ := lp_cells hG2.bx
        obtain ⟨i0, hi, hz0, hz1, hz2⟩ := info_parts info_words
        have hown := hG2.a
        rw [hus] at hown
        clear r1 b8 hB2 hG2 r2 HX HLT c0 d1 d2 z0 z1 z2 z3 z4 z5 z7 z8 y0 y1 y2 y3 y4 y5 y6 y7 y8
        rw [List.length_append]
        go_wp2_with (at_builtin; refine wpList_append_own _ rfl (.tmp 41) (.tmp 43) 46 rfl w.heap.size 41 i0 (.slice none 0 0) 1 24 Tryz.underlying46 hi hz0 hz1 hz2 rfl (by decide) _ _ _ rfl (hown.alloc _) ⟨_, 0, none⟩ 1 1 [.slice up' (q.2.length + ms.length) uc'] rfl rfl (cells_newV _ _ _) (by simp [Value.oneCell']) (by unfold maxLen; omega) (by omega) (by simp; omega) ?_)
        intro v' W2 hown2 hgrow2 _
        obtain ⟨vp, vc, rfl⟩ := row_shape hown2
        have hbx2 := HX2.out.2.1.bx_grown (.cells #[.slice up' (q.2.length + ms.length) uc'] 41) hgrow2 (row_ne hown HX2.out.2.1.bx (by decide))
        have hG3 := HX2.out.2.1.attr (q := q) (v' := .slice vp (k + 1) vc) HX2.out.1 (by rw [List.length_append]; exact HX2.out.2.2) (by rw [hus]; exact HQ.out) (by rw [hus]; exact hgrow2) (by rw [List.length_append, hus]; exact hown2)
        have HG3 := hid hG3
        obtain ⟨z0, z1, z2, z3, z4, z5, z6, z7, z8, y0, y1, y2, y3, y4, y5, y6, y7, y8⟩ := lp_cells hbx2
        clear hbx2 hG3 z0 z1 z2 z3 z4 z5 z7 z8 y0 y1 y2 y3 y4 y5 y7 y8 hown2 hgrow2 hown HX2
        go_upto_region 8 with fail
        obtain ⟨W3, hW3⟩ : ∃ W3, (W2.setCell ⟨b5, 6, none⟩ (.slice vp (k + 1) vc)) = W3 := ⟨_, rfl⟩
        simp only [hW3] at HG3 ⊢
        clear hW3 z6 y6
        have hG3 := HG3.out
        have hbs3 := hG3.1.be.size
        obtain ⟨rp', rc', rfl⟩ := row_shape hG3.2.r
        have hr3w := hG3.2.r
        rw [hprs] at hr3w
        have hne3 := row_ne hr3w hG3.2.bx (by decide)
        obtain ⟨c0, -, -, -, -⟩ := polC_at (P := P) hG3.1.b0
        obtain ⟨b', o', u'', e3, d1, -, -⟩ := HR3.out k q HQ.out
        cases e3
        replace d1 := cell_low d1 hG3.1.be (cell_block d1)
        obtain ⟨z0, z1, z2, z3, z4, z5, z6, z7, z8, y0, y1, y2, y3, y4, y5, y6, y7, y8⟩ := lp_cells hG3.2.bx
        rw [hprs] at z5
        obtain ⟨j0, hj, hj0, hj1, hj2⟩ := info_parts info_rule
        have hle3 : q.2.length ≤ uc' := by omega
        have hl5 := block_lt hG3.2.bx
        have hl0 := block_lt hG3.1.b0
        have hlb := cell_block d1
        clear hG3 z0 z1 z2 z3 z4 z6 z7 z8 y0 y1 y2 y3 y4 y6 y7 y8
        have HX5 : Hid ((us ++ [Value.slice up' (q.2.length + ms.length) uc'])[prs.length]? = some (Value.slice up' (q.2.length + ms.length) uc') ∧ P.rules[prs.length]? = some q ∧ us.length = k ∧ prs.length = k) :=
          hid ⟨by rw [List.getElem?_append_right (by omega), show prs.length - us.length = 0 by omega]; rfl, by rw [hprs]; exact HQ.out, hus, hprs⟩
        go_region_law (refine step_append_lies _ rfl (.tmp 47) (.tmp 58) 40 rfl w.heap.size 97 j0 (.agg #[.string ⟨#[]⟩, .slice none 0 0]) 2 40 Tryz.underlying40 hj hj0 hj1 hj2 rfl (by decide) (.slice rp' k rc') k (rcells prs) (by simp [Act.eval]) (by exact hr3w.alloc _) ⟨_, 0, none⟩ 1 1 [.string (bs q.1), .slice up' q.2.length uc'] (by simp [Act.eval]) rfl (cells_newV _ _ _) (by simp [Value.oneCell']) (by omega) (by unfold maxLen; omega) (by omega) (by simp; omega) _ rfl ?_; rintro g cap w10 hrow10 hgrow10 - -; have hb10 := HG3.out.2.drew.bx_grown (.cells #[.string (bs q.1), .slice up' q.2.length uc'] 97) (by exact hgrow10) hne3; have ce10 := cell_at (j := 5) hb10 rfl; have fe10 := free_at hb10 5)
        all_goals
          have hG4 := HG3.out.2.drew.rule (x := (q, .slice up' q.2.length uc')) (v' := .slice (some ⟨g, 0, none⟩) (k + 1) cap) HG3.out.1.drew (.inr ⟨_, HX5.out.1, HX5.out.2.1, rfl⟩) (by rw [HX5.out.2.2.2]; exact hgrow10) (by rw [rcells_app, List.length_append, HX5.out.2.2.2]; exact hrow10)
          have HG4 := hid hG4
          clear hG4 hb10 ce10 fe10 hrow10 hgrow10
          have HU := hid (fun (_ : True) => And.intro HX5.out.2.2.1 HX5.out.2.2.2)
          go_wp2
          go_roundw
          case rel => exact ⟨k + 1, _, _, prs ++ [(q, .slice up' q.2.length uc')], us ++ [.slice up' (q.2.length + ms.length) uc'], rfl, by omega, by rw [List.length_append, (HU.out trivial).1]; rfl, by rw [List.length_append, (HU.out trivial).2]; rfl, hid (by rw [List.map_append, HPF.out, List.take_add_one, HQ.out]; rfl), HG4⟩
          case measure => simp [RowKit.intOf]; omega
      · obtain rfl : k = P.rules.length := by omega
        rw [List.take_length] at HPF
        clear c0 c1 c2 c3 c4 hkl hk
        go_wp2_with fail
        go_loopw [9, 64] (fun _ iv wr => ∃ (m : Nat) (rv : Value) (prs : List (RuleP × Value)), iv = .int .i64 m ∧ m ≤ ms.length ∧ prs.length = P.rules.length + m ∧ Hid (prs.map Prod.fst = P.rules ++ (ms.take m).map fun s => (s, [])) ∧ Hid (LndB w wr (polC (.slice rp P.rules.length rc) (.slice sp P.schemes.length sc) (.slice dp P.drop.length dc) P) ∧ LndG w wr b5 rv av sv dv P.rules (P.schemes ++ ms) (P.drop ++ ms) ms prs us)) (fun _ iv _ => ms.length - (RowKit.intOf iv).toNat)
        case atStart => exact ⟨0, _, prs, rfl, Nat.zero_le _, by rw [hprs]; rfl, hid (by rw [HPF.out]; exact (List.append_nil _).symm), HX⟩
        case round =>
          clear HX HPF hprs
          obtain ⟨m, rv, prs, rfl, hm', hprs, HPF, HX⟩ := hrel
          by_cases hml : m < ms.length
          · obtain ⟨q, hq⟩ : ∃ q, ms[m]? = some q := ⟨_, List.getElem?_eq_getElem hml⟩
            have hG3 := HX.out
            have hbs3 := hG3.1.be.size
            obtain ⟨rp', rc', rfl⟩ := row_shape hG3.2.r
            have hr3w := hG3.2.r
            rw [hprs] at hr3w
            have hne3 := row_ne hr3w hG3.2.bx (by decide)
            obtain ⟨p', c', e3, _, _, h3, _⟩ := HM.out.below HX.out.1.be
            cases e3
            obtain ⟨b', o', rfl, d1⟩ := h3 m q hq
            clear h3
            obtain ⟨z0, z1, z2, z3, z4, z5, z6, z7, z8, y0, y1, y2, y3, y4, y5, y6, y7, y8⟩ := lp_cells hG3.2.bx
            rw [hprs] at z5
            obtain ⟨j0, hj, hj0, hj1, hj2⟩ := info_parts info_rule
            have hl5 := block_lt hG3.2.bx
            have hl0 := block_lt hG3.1.b0
            have hlb := cell_block d1
            have HPR := hid hprs
            have HQ := hid hq
            clear hG3 z0 z1 z2 z3 z4 z6 z7 z8 y0 y1 y2 y3 y4 y6 y7 y8 hprs hq
            go_wp2_with fail
            go_region_law (refine step_append_lies _ rfl (.tmp 68) (.tmp 74) 40 rfl w.heap.size 97 j0 (.agg #[.string ⟨#[]⟩, .slice none 0 0]) 2 40 Tryz.underlying40 hj hj0 hj1 hj2 rfl (by decide) (.slice rp' (P.rules.length + m) rc') (P.rules.length + m) (rcells prs) (by simp [Act.eval]) (by exact hr3w.alloc _) ⟨_, 0, none⟩ 1 1 [.string (bs q), .slice none 0 0] (by simp [Act.eval]) rfl (cells_newV _ _ _) (by simp [Value.oneCell']) (by omega) (by unfold maxLen; omega) (by omega) (by simp; omega) _ rfl ?_; rintro g cap w10 hrow10 hgrow10 - -; have hb10 := HX.out.2.drew.bx_grown (.cells #[.string (bs q), .slice none 0 0] 97) (by exact hgrow10) hne3; have ce10 := cell_at (j := 5) hb10 rfl; have fe10 := free_at hb10 5)
            all_goals
              have hG4 := HX.out.2.drew.rule (x := ((q, []), .slice none 0 0)) (v' := .slice (some ⟨g, 0, none⟩) (P.rules.length + m + 1) cap) HX.out.1.drew (.inl ⟨rfl, rfl⟩) (by rw [HPR.out]; exact hgrow10) (by rw [rcells_app, List.length_append, HPR.out]; exact hrow10)
              have HG4 := hid hG4
              clear hG4 hb10 ce10 fe10 hrow10 hgrow10
              go_wp2
              go_roundw
              case rel => exact ⟨m + 1, _, prs ++ [((q, []), .slice none 0 0)], rfl, by omega, by rw [List.length_append, HPR.out]; rfl, hid (by rw [List.map_append, HPF.out, List.take_add_one, HQ.out, List.map_append, List.append_assoc]; rfl), HG4⟩
              case measure => simp [RowKit.intOf]; omega
          · obtain rfl : m = ms.length := by omega
            obtain ⟨rp', rc', rfl⟩ := row_shape HX.out.2.r
            obtain ⟨sp', sc', rfl⟩ := row_shape HX.out.2.s
            obtain ⟨dp', dc', rfl⟩ := row_shape HX.out.2.d
            obtain ⟨ap, ac, rfl⟩ := row_shape HX.out.2.a
            have hcr := (row_cap HX.out.2.r).2
            have hcs := (row_cap HX.out.2.s).2
            have hcd := (row_cap HX.out.2.d).2
            have HPR := hid hprs
            have hlo := HX.out.2.lo
            obtain ⟨c0, c1, c2, c3, c4⟩ := polC_at (P := P) HX.out.1.b0
            obtain ⟨z0, z1, z2, z3, z4, z5, z6, z7, z8, y0, y1, y2, y3, y4, y5, y6, y7, y8⟩ := lp_cells HX.out.2.bx
            rw [List.length_append] at hcs hcd z7 z8
            rw [hprs] at hcr z5
            replace hcr : P.rules.length ≤ rc' := by omega
            replace hcs : P.schemes.length ≤ sc' := by omega
            replace hcd : P.drop.length ≤ dc' := by omega
            clear hprs
            go_upto_region 16 with fail
            have hj5 := five_just (p0 := .slice none 0 0) (p1 := .slice none 0 0) (p2 := .slice none 0 0) (p3 := .int .i64 P.depth) (p4 := .int .i64 P.window) HX.out.2.bx
            obtain ⟨W5, hW5⟩ : ∃ W5, (((((wr.setCell ⟨b5, 0, none⟩ (.slice none 0 0)).setCell ⟨b5, 1, none⟩ (.slice none 0 0)).setCell ⟨b5, 2, none⟩ (.slice none 0 0)).setCell ⟨b5, 3, none⟩ (.int .i64 P.depth)).setCell ⟨b5, 4, none⟩ (.int .i64 P.window)) = W5 := ⟨_, rfl⟩
            rw [hW5] at hj5
            simp only [hW5]
            clear hW5 c0 c1 c2 c3 c4 z0 z1 z2 z3 z4 z5 z6 z7 z8 y0 y1 y2 y3 y4 y5 y6 y7 y8
            obtain ⟨c0, c1, c2, -, -⟩ := polC_at (P := P) ((hj5.other _ (by omega)).trans HX.out.1.b0)
            obtain ⟨z0, z1, z2, z3, z4, z5, z6, z7, z8, y0, y1, y2, y3, y4, y5, y6, y7, y8⟩ := lp_cells hj5.at_
            have HJ5 := hid hj5
            rw [HPR.out] at z5
            rw [List.length_append] at z7 z8
            clear hj5 z3 z4 z6 y3 y4 y5 y6 y7 y8
            go_upto_region 19 with fail
            have hj8 := HJ5.out.andThen (three_just (p0 := .slice rp' P.rules.length rc') (p1 := .slice sp' P.schemes.length sc') (p2 := .slice dp' P.drop.length dc') HJ5.out.at_)
            obtain ⟨W8, hW8⟩ : ∃ W8, ((W5.setCell ⟨b5, 0, none⟩ (.slice rp' P.rules.length rc')).setCell ⟨b5, 1, none⟩ (.slice sp' P.schemes.length sc')).setCell ⟨b5, 2, none⟩ (.slice dp' P.drop.length dc') = W8 := ⟨_, rfl⟩
            rw [hW8] at hj8
            simp only [hW8]
            clear hW8 c0 c1 c2 z0 z1 z2 z5 z7 z8 y0 y1 y2 HJ5
            have hb18 := (hj8.other (w.heap.size + 1) (by omega)).trans HX.out.1.b1
            obtain ⟨z0, z1, z2, z3, z4, z5, z6, z7, z8, -⟩ := lp_cells hj8.at_
            obtain ⟨x0, x1, x2, x3, x4, x5, x6, x7, x8, y0, y1, y2, y3, y4, y5, y6, y7, y8⟩ := lp_cells hb18
            have hj9 := nine_just (p0 := .slice rp' P.rules.length rc') (p1 := .slice sp' P.schemes.length sc') (p2 := .slice dp' P.drop.length dc') (p3 := .int .i64 P.depth) (p4 := .int .i64 P.window) (p5 := .slice rp' (P.rules.length + ms.length) rc') (p6 := .slice ap P.rules.length ac) (p7 := .slice sp' (P.schemes.length + ms.length) sc') (p8 := .slice dp' (P.drop.length + ms.length) dc') hb18
            have HJ8 := hid hj8
            have HJ9 := hid hj9
            rw [HPR.out] at z5
            rw [List.take_length] at HPF
            have hR9 := (HX.out.2.rows.just HX.out.2.bx hj8).just hb18 hj9
            rw [HPR.out, hus, List.length_append, List.length_append] at hR9
            have HR9 := hid (And.intro (hR9.lent HPF.out hus) ((HX.out.1.be.trans (just_low hj8 (by omega))).trans (just_low hj9 (by omega))))
            clear hj8 hj9 hb18 hR9
            go_wp2_with fail
            have HQ9 := HJ9.out.at_
            obtain ⟨W9, hW9⟩ : ∃ W9, ((((((((W8.setCell ⟨w.heap.size + 1, 0, none⟩ (.slice rp' P.rules.length rc')).setCell ⟨w.heap.size + 1, 1, none⟩ (.slice sp' P.schemes.length sc')).setCell ⟨w.heap.size + 1, 2, none⟩ (.slice dp' P.drop.length dc')).setCell ⟨w.heap.size + 1, 3, none⟩ (.int .i64 P.depth)).setCell ⟨w.heap.size + 1, 4, none⟩ (.int .i64 P.window)).setCell ⟨w.heap.size + 1, 5, none⟩ (.slice rp' (P.rules.length + ms.length) rc')).setCell ⟨w.heap.size + 1, 6, none⟩ (.slice ap P.rules.length ac)).setCell ⟨w.heap.size + 1, 7, none⟩ (.slice sp' (P.schemes.length + ms.length) sc')).setCell ⟨w.heap.size + 1, 8, none⟩ (.slice dp' (P.drop.length + ms.length) dc') = W9 := ⟨_, rfl⟩
            simp only [hW9] at HQ9 HR9 ⊢
            clear hW9 HJ9
            refine bodyPost_ret (v := .agg #[.slice rp' P.rules.length rc', .slice sp' P.schemes.length sc', .slice dp' P.drop.length dc', .int .i64 P.depth, .int .i64 P.window, .slice rp' (P.rules.length + ms.length) rc', .slice ap P.rules.length ac, .slice sp' (P.schemes.length + ms.length) sc', .slice dp' (P.drop.length + ms.length) dc']) ?_ rfl ⟨_, rfl, HR9.out.1, HR9.out.2⟩
            exact results_cell_row rfl _ _ _ _ _ _ _ rfl HQ9 Tryz.underlying48 rfl (by kernel_rfl)
end Go.Proofs.YtcncbhbdpcpkeaaGreatDoor
