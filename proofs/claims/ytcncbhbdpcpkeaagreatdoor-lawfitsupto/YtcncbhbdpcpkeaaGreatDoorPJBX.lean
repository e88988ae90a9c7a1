/-
  Parts of the walk, joined: FtN.
-/
import Derived.Test.YtcncbhbdpcpkeaaGreatDoorPJBW
import Derived.Test.YtcncbhbdpcpkeaaGreatDoorPJBR
import Derived.Test.YtcncbhbdpcpkeaaGreatDoorPJBD
/-
  The law LawFits: its walk.
-/
namespace Go.Proofs.YtcncbhbdpcpkeaaGreatDoor
open Go.RowKit Go.Lib Own

set_option maxHeartbeats 16000000 in
set_option maxRecDepth 100000 in
theorem lawFits_walk (vr vs vd mv : Value) (P : PolP) (ev : Value) (ns : List EvP) (ms : List (List UInt8)) (m : Int) (w : World) (h : PolR w vr vs vd P) (hF : P.Few) (he : EvsR w ev ns) (hs : bulkE ns ≤ 1100000) (hM : Words w mv ms) (hm : ms.length ≤ 2000000) (hT : AttrTab w) (hK : KindsTab w) (hN : NestTab w) (hV : VAttrTab w)
    (hmx : w.cell? ⟨4, 0, none⟩ = some (.int .i64 m)) :
    Calls Tryz.prog 4 #[.agg (polC vr vs vd P), ev, mv] w fun e w' => e = .returned (.bool true) ∧ Below w.heap.size w w' := by
  obtain ⟨rp, rn, rc, rfl⟩ := h.rules.shape
  obtain ⟨sp, sn, sc, rfl⟩ := h.schemes.shape
  obtain ⟨dp, dn, dc, rfl⟩ := h.drop.shape
  obtain ⟨mp, mn, mc, rfl⟩ := hM.shape
  obtain ⟨ep, en, ec, rfl⟩ := he.shape
  have hlen := bulkE_len ns
  have hatt : ∀ e ∈ ns, e.a.length ≤ 2000000 := fun e he => by
    obtain ⟨k, hk⟩ := List.getElem?_of_mem he
    have h1 := bulkE_get hk
    have h2 := bulkA_len e.a
    omega
  obtain ⟨W0, hW0⟩ : ∃ W0, (w.alloc (.cells (polC (.slice rp rn rc) (.slice sp sn sc) (.slice dp dn dc) P) 43)) = W0 := ⟨_, rfl⟩
  have hB : Below w.heap.size w W0 := by
    rw [← hW0]
    exact (Below.refl w.heap.size w).alloc (Nat.le_refl _) _
  have b0 : W0.heap[w.heap.size]? = some (.cells (polC (.slice rp rn rc) (.slice sp sn sc) (.slice dp dn dc) P) 43 (0, 0)) := by
    rw [← hW0]
    exact heap_alloc_new w _
  have hr1 := fun W (hW : Below w.heap.size w W) => refFits_any _ _ _ P _ ns W (h.below hW) hF (he.below hW) (by omega) (hT.below hW)
  have hr2 := fun W (hW : Below w.heap.size w W) => refSerialize_any _ ns W (he.below hW) (by omega)
  have hr3 := fun W (hW : Below w.heap.size w W) => lendPolicy_any _ _ _ _ P ms W (h.below hW) hF (hM.below hW) hm
  have hr4 := fun W (hW : Below w.heap.size w W) => lendNodes_any _ _ ns ms W (he.below hW) (hM.below hW) (by omega) hatt hm
  have hr5 := fun W (hW : Below w.heap.size w W) a b c x (hq : PolR W a b c P) (hx : EvsR W x ns) => sanFits_any a b c P x ns m W hq hF hx (by omega) (hK.below hW) (hN.below hW) (hV.below hW) (cell_low hmx hW (cell_block hmx))
  have hr6 := fun W (hW : Below w.heap.size w W) x (hx : EvsR W x ns) => serialize_any x ns m W hx (by omega) (cell_low hmx hW (cell_block hmx)) (hK.below hW)
  have hr7 := fun W (hW : Below w.heap.size w W) q (hq : LentR W q P ms) => keptPolicy_any q _ _ _ _ P ms W hq (h.below hW) hF (hM.below hW) hm
  have hr8 := fun W (hW : Below w.heap.size w W) q (hq : LentE W q ns (moreNodes ms) (namesA ms)) => keptNodes_any q _ _ ns ms W hq (he.below hW) (hM.below hW) (by omega) hatt hm
  generalize fitsP P ns = FT at hr1 hr5
  obtain ⟨T, hT2⟩ : ∃ T, bs (serP ns) = T := ⟨_, rfl⟩
  simp only [hT2] at hr2 hr6
  have H1 := hid hr1
  have H2 := hid hr2
  have H3 := hid hr3
  have H4 := hid hr4
  have H5 := hid hr5
  have H6 := hid hr6
  have H7 := hid hr7
  have H8 := hid hr8
  have HB := hid (And.intro hB b0)
  obtain ⟨c0, c1, c2, c3, c4⟩ := polC_at (P := P) b0
  have HP0 := hid (And.intro h he)
  clear h hF hM hm hT hK hN hV hmx hs hlen hatt hB b0 hr1 hr2 hr3 hr4 hr5 hr6 hr7 hr8 he hT2
  unfold polC at hW0 H1 H3 H5 H7 ⊢
  go_enter Tryz.func4, Tryz.ntmps4
  go_upto_region 1 with fail
  clear hW0
  go_wp2_with fail
  refine (H1.out _ HB.out.1).mono ?_
  rintro e w1 ⟨rfl, hb1⟩
  replace c0 := cell_kept c0 hb1
  replace c1 := cell_kept c1 hb1
  replace c2 := cell_kept c2 hb1
  replace c3 := cell_kept c3 hb1
  replace c4 := cell_kept c4 hb1
  have HK1 := hid (HB.out.1.trans (hb1.mono HB.out.1.size))
  clear hb1 H1
  go_wp2_with fail
  refine (H2.out _ HK1.out).mono ?_
  rintro e w2 ⟨rfl, hb2⟩
  replace c0 := cell_kept c0 hb2
  replace c1 := cell_kept c1 hb2
  replace c2 := cell_kept c2 hb2
  replace c3 := cell_kept c3 hb2
  replace c4 := cell_kept c4 hb2
  have HK2 := hid (HK1.out.trans (hb2.mono HK1.out.size))
  clear hb2 H2 HK1
  go_wp2_with fail
  refine (H3.out _ HK2.out).mono ?_
  rintro e w3 ⟨lv, rfl, hlent, hb3⟩
  replace c0 := cell_kept c0 hb3
  replace c1 := cell_kept c1 hb3
  replace c2 := cell_kept c2 hb3
  replace c3 := cell_kept c3 hb3
  replace c4 := cell_kept c4 hb3
  have HE3 := hid hlent
  obtain ⟨br, bs_, bd, bR, bA, bS, bD, rfl, l1, l2, l3, l4, l5⟩ := hlent
  obtain ⟨aR1, aR2, aR3, rfl⟩ := l2.shape
  obtain ⟨aS1, aS2, aS3, rfl⟩ := l4.shape
  obtain ⟨aD1, aD2, aD3, rfl⟩ := l5.shape
  obtain ⟨b01, b02, b03, rfl⟩ := l1.rules.shape
  obtain ⟨b11, b12, b13, rfl⟩ := l1.schemes.shape
  obtain ⟨b21, b22, b23, rfl⟩ := l1.drop.shape
  obtain ⟨aA1, aA3, rfl, _⟩ := l3
  generalize (P.rules.map fun q => q.2 ++ ms).length = aA2 at HE3 ⊢
  have hl1 := l1
  obtain ⟨W4, hW4⟩ : ∃ W4, w3.alloc (.cells #[.slice b01 b02 b03, .slice b11 b12 b13, .slice b21 b22 b23, .int .i64 P.depth, .int .i64 P.window, .slice aR1 aR2 aR3, .slice aA1 aA2 aA3, .slice aS1 aS2 aS3, .slice aD1 aD2 aD3] 48) = W4 := ⟨_, rfl⟩
  have hb4 : Below w3.heap.size w3 W4 := by rw [← hW4]; exact (Below.refl _ _).alloc (Nat.le_refl _) _
  have hn4 : W4.heap[w3.heap.size]? = some (.cells #[.slice b01 b02 b03, .slice b11 b12 b13, .slice b21 b22 b23, .int .i64 P.depth, .int .i64 P.window, .slice aR1 aR2 aR3, .slice aA1 aA2 aA3, .slice aS1 aS2 aS3, .slice aD1 aD2 aD3] 48 (0, 0)) := by rw [← hW4]; exact heap_alloc_new _ _
  have hk3 := HK2.out.trans (hb3.mono HK2.out.size)
  have HK4 := hid (hk3.trans (hb4.mono hk3.size))
  have HE4 := hid (HE3.out.below hb4)
  have HP4 := hid (hl1.below hb4)
  have HN4 := hid hn4
  replace c0 := cell_kept c0 hb4
  replace c1 := cell_kept c1 hb4
  replace c2 := cell_kept c2 hb4
  replace c3 := cell_kept c3 hb4
  replace c4 := cell_kept c4 hb4
  clear l1 l2 l4 l5 hl1 hb3 hb4 hk3 hn4 HE3 HK2 H3
  go_upto_region 4 with fail
  obtain ⟨L4, hL4⟩ : ∃ L4, w3.heap.size = L4 := ⟨_, rfl⟩
  rw [hL4] at HN4
  (try simp only [hL4])
  clear hW4 hL4
  go_wp2_with fail
  refine (H4.out _ HK4.out).mono ?_
  rintro e w5 ⟨qv, rfl, hlentE, hb5⟩
  have HQ5 := hid hlentE
  obtain ⟨vf, vw, va, rfl, l1, l2, l3⟩ := hlentE
  obtain ⟨f1, f2, f3, rfl⟩ := l1.shape
  obtain ⟨w1', w2', w3', rfl⟩ := l2.shape
  obtain ⟨a1, a2, a3, rfl⟩ := l3.shape
  obtain ⟨W6, hW6⟩ : ∃ W6, w5.alloc (.cells #[.slice f1 f2 f3, .slice w1' w2' w3', .slice a1 a2 a3] 52) = W6 := ⟨_, rfl⟩
  have hb6 : Below w5.heap.size w5 W6 := by rw [← hW6]; exact (Below.refl _ _).alloc (Nat.le_refl _) _
  have hn6 : W6.heap[w5.heap.size]? = some (.cells #[.slice f1 f2 f3, .slice w1' w2' w3', .slice a1 a2 a3] 52 (0, 0)) := by rw [← hW6]; exact heap_alloc_new _ _
  have hb46 := hb5.trans (hb6.mono hb5.size)
  have HK6 := hid (HK4.out.trans (hb46.mono HK4.out.size))
  have HE6 := hid (HE4.out.below hb46)
  have HP6 := hid (HP4.out.below hb46)
  have HN6 := hid ((hb46.block _ (block_lt HN4.out)).trans HN4.out)
  have HQ6 := hid (HQ5.out.below hb6)
  have HX6 := hid (l1.below hb6)
  have HM6 := hid hn6
  replace c0 := cell_kept c0 hb46
  replace c1 := cell_kept c1 hb46
  replace c2 := cell_kept c2 hb46
  replace c3 := cell_kept c3 hb46
  replace c4 := cell_kept c4 hb46
  clear l1 l2 l3 hb5 hb6 hb46 hn6 HK4 HE4 HP4 HN4 HQ5 H4
  go_upto_region 5 with fail
  obtain ⟨L6, hL6⟩ : ∃ L6, w5.heap.size = L6 := ⟨_, rfl⟩
  rw [hL6] at HM6
  (try simp only [hL6])
  clear hW6 hL6
  obtain ⟨x0, x1, x2, x3, x4, x5, x6, x7, x8, -⟩ := lp_cells HN6.out
  have y0 := cell_at HM6.out (j := 0) rfl
  have HG := hid (H5.out W6 HK6.out _ _ _ _ HP6.out HX6.out)
  go_wp2_with fail
  refine HG.out.mono ?_
  rintro e w7 ⟨rfl, hb7⟩
  have HK7 := hid (HK6.out.trans (hb7.mono HK6.out.size))
  have HE7 := hid (HE6.out.below hb7)
  have HQ7 := hid (HQ6.out.below hb7)
  have HN7 := hid ((hb7.block _ (block_lt HN6.out)).trans HN6.out)
  have HM7 := hid ((hb7.block _ (block_lt HM6.out)).trans HM6.out)
  have HX7 := hid (HX6.out.below hb7)
  replace c0 := cell_kept c0 hb7
  replace c1 := cell_kept c1 hb7
  replace c2 := cell_kept c2 hb7
  replace c3 := cell_kept c3 hb7
  replace c4 := cell_kept c4 hb7
  clear hb7 HK6 HE6 HQ6 HN6 HM6 HP6 HX6 HG x0 x1 x2 x3 x4 x5 x6 x7 x8 y0
  have y0 := cell_at HM7.out (j := 0) rfl
  go_wp2_with fail
  refine (H6.out _ HK7.out _ HX7.out).mono ?_
  rintro e w8 ⟨rfl, hb8⟩
  have HK8 := hid (HK7.out.trans (hb8.mono HK7.out.size))
  have HE8 := hid (HE7.out.below hb8)
  have HQ8 := hid (HQ7.out.below hb8)
  have HN8 := hid ((hb8.block _ (block_lt HN7.out)).trans HN7.out)
  have HM8 := hid ((hb8.block _ (block_lt HM7.out)).trans HM7.out)
  replace c0 := cell_kept c0 hb8
  replace c1 := cell_kept c1 hb8
  replace c2 := cell_kept c2 hb8
  replace c3 := cell_kept c3 hb8
  replace c4 := cell_kept c4 hb8
  clear hb8 HK7 HE7 HQ7 HN7 HM7 HX7 y0
  obtain ⟨x0, x1, x2, x3, x4, x5, x6, x7, x8, -⟩ := lp_cells HN8.out
  have z1 : (FT != FT) = false := by cases FT <;> rfl
  have z2 : (T.toList == T.toList) = true := beq_self_eq_true _
  go_wp2_with fail
  refine (H7.out _ HK8.out _ HE8.out).mono ?_
  rintro e w9 ⟨rfl, hb9⟩
  have HK9 := hid (HK8.out.trans (hb9.mono HK8.out.size))
  have HQ9 := hid (HQ8.out.below hb9)
  have HM9 := hid ((hb9.block _ (block_lt HM8.out)).trans HM8.out)
  replace c0 := cell_kept c0 hb9
  replace c1 := cell_kept c1 hb9
  replace c2 := cell_kept c2 hb9
  replace c3 := cell_kept c3 hb9
  replace c4 := cell_kept c4 hb9
  clear hb9 HK8 HE8 HQ8 HN8 HM8 x0 x1 x2 x3 x4 x5 x6 x7 x8
  have y0 := cell_at HM9.out (j := 0) rfl
  have y1 := cell_at HM9.out (j := 1) rfl
  have y2 := cell_at HM9.out (j := 2) rfl
  go_wp2_with fail
  refine (H8.out _ HK9.out _ HQ9.out).mono ?_
  rintro e w10 ⟨rfl, hb10⟩
  have HK10 := hid (HK9.out.trans (hb10.mono HK9.out.size))
  replace c0 := cell_kept c0 hb10
  replace c1 := cell_kept c1 hb10
  replace c2 := cell_kept c2 hb10
  replace c3 := cell_kept c3 hb10
  replace c4 := cell_kept c4 hb10
  have HG := hid (H5.out w10 HK10.out _ _ _ _ (HP0.out.1.below HK10.out) (HP0.out.2.below HK10.out))
  clear hb10 HK9 HQ9 HM9 y0 y1 y2
  go_wp2_with fail
  refine HG.out.mono ?_
  rintro e w11 ⟨rfl, hb11⟩
  have HK11 := hid (HK10.out.trans (hb11.mono HK10.out.size))
  clear hb11 HG HK10 c0 c1 c2 c3 c4
  go_wp2_with fail
  refine (H6.out _ HK11.out _ (HP0.out.2.below HK11.out)).mono ?_
  rintro e w12 ⟨rfl, hb12⟩
  have HK12 := hid (HK11.out.trans (hb12.mono HK11.out.size))
  clear hb12 HK11
  go_wp2_with fail
  go_ret
  exact ⟨rfl, HK12.out⟩
end Go.Proofs.YtcncbhbdpcpkeaaGreatDoor
