/-
  Parts of the walk, joined: FtK, SameN, LendNd.
-/
import Derived.Test.YtcncbhbdpcpkeaaGreatDoorPJBQ
import Derived.Test.YtcncbhbdpcpkeaaGreatDoorPJBC
import Derived.Test.YtcncbhbdpcpkeaaGreatDoorPJBD
/-
  The reference's Serialize: its walk.
-/
namespace Go.Proofs.YtcncbhbdpcpkeaaGreatDoor
open Go.RowKit Go.Lib Own

theorem refSerialize_any (v : Value) (ns : List EvP) (w : World) (h : EvsR w v ns) (hs : bulkE ns ≤ 1400000) :
    Calls Tryz.prog 16 #[v] w fun e w' => e = .returned (.string (bs (serP ns))) ∧ Below w.heap.size w w' := by
  obtain ⟨p, c, rfl⟩ := h.len
  have hlen := bulkE_len ns
  have hsp := refShaped_any _ ns w h (by omega)
  have htr := fun W (hW : Below w.heap.size w W) (hsh : shapeB 0 ns = true) => treeEvents_any _ ns W (h.below hW) (by omega) hsh
  have hwr := fun W ev (hE : EvsR W ev ((treeE [] ns).map toP)) => refWrite_any ev _ W hE (by have := bulk_tree ns []; have e : opB [] = 0 := rfl; omega)
  have he : shapeB 0 ns = true → serP ns = writeR ((treeE [] ns).map toP) := fun hsh => by
    unfold serP serL wEv
    rw [if_pos hsh, writeW_false]
  have he2 : shapeB 0 ns = false → serP ns = [] := fun hsh => by unfold serP; rw [hsh]; rfl
  generalize serP ns = R at he he2 ⊢
  obtain ⟨S, hS⟩ : ∃ S, shapeB 0 ns = S := ⟨_, rfl⟩
  rw [hS] at hsp
  have HS := hid hsp
  have HT := hid htr
  have HW := hid hwr
  have HE := hid (fun (_ : True) => And.intro hS (And.intro he he2))
  clear hsp htr hwr he he2 hS h hs hlen
  go_enter Tryz.func16, Tryz.ntmps16
  go_wp2_with fail
  refine HS.out.mono ?_
  rintro e W2 ⟨rfl, hb2⟩
  have HB2 := hid hb2
  clear hb2 HS
  cases S with
  | false =>
    have hr := (HE.out trivial).2.2 (HE.out trivial).1
    subst hr
    clear HE
    go_wp2_with fail
    go_ret
    exact ⟨rfl, HB2.out⟩
  | true =>
    have HR := hid ((HE.out trivial).2.1 (HE.out trivial).1)
    have HT2 := hid (HT.out W2 HB2.out (HE.out trivial).1)
    clear HE HT
    go_wp2_with fail
    refine HT2.out.mono ?_
    rintro e W3 ⟨ev, rfl, hev, hb3⟩
    obtain ⟨ep, ec, rfl⟩ := hev.len
    have HW3 := hid (HW.out W3 _ hev)
    have HB3 := hid (HB2.out.trans (hb3.mono HB2.out.size))
    clear HW HT2 hev hb3 HB2
    generalize ((treeE [] ns).map toP).length = L at HW3 ⊢
    go_wp2_with fail
    refine HW3.out.mono ?_
    rintro e W4 ⟨rfl, hb4⟩
    have HB4 := hid (HB3.out.trans (hb4.mono HB3.out.size))
    clear HB3 hb4 HW3
    rw [← HR.out]
    go_wp2_with fail
    go_ret
    exact ⟨rfl, HB4.out⟩
end Go.Proofs.YtcncbhbdpcpkeaaGreatDoor

/-
  The statements' sameNodes: its walk, at lists that can be read and hold the same.
-/
namespace Go.Proofs.YtcncbhbdpcpkeaaGreatDoor
open Go.RowKit Go.Lib Own

set_option maxHeartbeats 4000000 in
set_option maxRecDepth 10000 in
theorem sameNodesR_any (v1 v2 : Value) (l : List EvP) (w : World) (h1 : EvsR w v1 l) (h2 : EvsR w v2 l) :
    Calls Tryz.prog 13 #[v1, v2] w fun e w' => e = .returned (.bool true) ∧ ∃ n, w' = w.drewN n := by
  obtain ⟨p1, k1, rfl, _, _, a1⟩ := h1
  obtain ⟨p2, k2, rfl, _, _, a2⟩ := h2
  have H1 := hid a1
  have H2 := hid a2
  clear a1 a2
  go_enter Tryz.func13, Tryz.ntmps13
  have q0 : ((l.length : Int) != (l.length : Int)) = false := by simp
  go_wp2
  go_loopw [13] (fun iv wr => ∃ k : Nat, iv = .int .i64 k ∧ k ≤ l.length ∧ Hid (True → ∃ n, wr = w.drewN n)) (fun iv _ => l.length - (RowKit.intOf iv).toNat)
  case atStart => exact ⟨0, rfl, Nat.zero_le _, hid (fun _ => ⟨0, rfl⟩)⟩
  case round =>
    obtain ⟨k, rfl, hk, HQ⟩ := hrel
    by_cases hkl : k < l.length
    · obtain ⟨s, hs⟩ : ∃ s, l[k]? = some s := ⟨_, List.getElem?_eq_getElem hkl⟩
      obtain ⟨g1, o1, a1, rfl, b0, b1, b2, b3, b4⟩ := H1.out k s hs
      obtain ⟨g2, o2, a2, rfl, d0, d1, d2, d3, d4⟩ := H2.out k s hs
      obtain ⟨sp1, sn1, sc1, rfl⟩ := b4.shape
      obtain ⟨sp2, sn2, sc2, rfl⟩ := d4.shape
      have hq := HQ.out trivial
      replace b0 := cell_drew hq b0
      replace b1 := cell_drew hq b1
      replace b2 := cell_drew hq b2
      replace b3 := cell_drew hq b3
      replace d0 := cell_drew hq d0
      replace d1 := cell_drew hq d1
      replace d2 := cell_drew hq d2
      replace d3 := cell_drew hq d3
      have hsame := fun n => sameAttrsR_any _ _ s.a (wr.drewN n) (by obtain ⟨n', rfl⟩ := hq; exact (b4.drewN _).drewN _) (by obtain ⟨n', rfl⟩ := hq; exact (d4.drewN _).drewN _)
      have HS := hid hsame
      clear hsame b4 d4 hq H1 H2 hs
      obtain ⟨u1, hu1⟩ : ∃ u1, bs s.n = u1 := ⟨_, rfl⟩
      obtain ⟨u2, hu2⟩ : ∃ u2, bs s.t = u2 := ⟨_, rfl⟩
      rw [hu1] at b1 d1
      rw [hu2] at b3 d3
      obtain ⟨z, hz⟩ : ∃ z, s.k = z := ⟨_, rfl⟩
      rw [hz] at b0 d0
      have q1 : (z != z) = false := by simp
      clear hu1 hu2 hz
      go_wp2_with fail
      go_quiet (first | (go_at_call 31; refine Calls.quiet_of (HS.out _)))
      go_wp2
      go_roundw
      case rel =>
        obtain ⟨n, hn⟩ := HQ.out trivial
        exact ⟨k + 1, rfl, by omega, hid (fun _ => ⟨n + nq, by rw [hn]; simp⟩)⟩
      case measure => simp [RowKit.intOf]; omega
    · go_wp2
      go_ret
      exact ⟨rfl, HQ.out trivial⟩
end Go.Proofs.YtcncbhbdpcpkeaaGreatDoor

/-
  The statements' lendNodes, keptNodes: their walks.
-/
namespace Go.Proofs.YtcncbhbdpcpkeaaGreatDoor
open Go.RowKit Go.Lib Own

theorem lndTNodes : LndT 38 52 := ⟨by decide, by decide, by decide, by decide, by decide⟩
theorem infoNode_ : (Tryz.prog.info? 38).map (fun i => (i.zero, i.size, i.bytes)) = some (some (.agg #[.int .i64 0, .string ⟨#[]⟩, .slice none 0 0, .string ⟨#[]⟩]), 4, 64) := by kernel_rfl
/-- what stands behind: a text of each word -/
def moreNodes (ms : List (List UInt8)) : List EvP := ms.map fun s => ⟨0, [], [], s⟩

set_option maxHeartbeats 8000000 in
set_option maxRecDepth 100000 in
theorem lendNodes_any (ev mv : Value) (es : List EvP) (ms : List (List UInt8)) (w : World) (h : EvsR w ev es) (hM : Words w mv ms) (hl : es.length ≤ 2000000) (ha : ∀ e ∈ es, e.a.length ≤ 2000000) (hm : ms.length ≤ 2000000) :
    Calls Tryz.prog 18 #[ev, mv] w fun e w' => ∃ v, e = .returned v ∧ LentE w' v es (moreNodes ms) (namesA ms) ∧ Below w.heap.size w w' := by
  obtain ⟨ep, ec, rfl, hc1, hc2, hcell⟩ := h
  obtain ⟨mp, mc, rfl, hmc, _, hmcell, _⟩ := id hM
  have HC := hid hcell
  have HM := hid hM
  have HMC := hid hmcell
  have HA := hid ha
  have hL0 : LndE 38 52 w ((w.alloc (.cells #[.slice none 0 0, .slice none 0 0, .slice none 0 0] 52)).alloc (.cells #[.slice none 0 0, .slice none 0 0, .slice none 0 0] 52)) (.slice none 0 0) (.slice none 0 0) es (namesA ms) [] [] :=
    ⟨((Below.refl w.heap.size w).alloc (Nat.le_refl _) _).alloc (by simp) _, (Go.Lib.alloc_old _ _ _ (by simp)).trans (heap_alloc_new w _), heap_two_new w _ _ _, World.ownsRow_nil _ _ _ _, World.ownsRow_nil _ _ _ _, fun k v e h1 => by simp at h1, fun k x h1 => by simp at h1⟩
  have HL0 := hid hL0
  clear hcell hM hmcell ha hL0
  go_enter Tryz.func18, Tryz.ntmps18
  go_wp2_with fail
  go_loopw [7, 8, 12] (fun _ _ iv wr => ∃ (k : Nat) (wv av : Value) (prs : List (EvP × Value)) (us : List Value), iv = .int .i64 k ∧ k ≤ es.length ∧ Hid (us.length = k ∧ prs.length = k ∧ prs.map Prod.fst = es.take k) ∧ Hid (LndE 38 52 w wr wv av es (namesA ms) prs us)) (fun _ _ iv _ => es.length - (RowKit.intOf iv).toNat)
  case atStart => exact ⟨0, _, _, [], [], rfl, Nat.zero_le _, hid ⟨rfl, rfl, rfl⟩, HL0⟩
  case round =>
    obtain ⟨k, wv, av, prs, us, rfl, hk, HN, HX⟩ := hrel
    clear HL0
    by_cases hkl : k < es.length
    · obtain ⟨e, he⟩ : ∃ e, es[k]? = some e := ⟨_, List.getElem?_eq_getElem hkl⟩
      obtain ⟨b, o, u, rfl, q0, q1, q2, q3, q4⟩ := HC.out k e he
      have hX := HX.out
      have hbx := hX.be
      replace q0 := cell_low q0 hbx (cell_block q0)
      replace q1 := cell_low q1 hbx (cell_block q1)
      replace q2 := cell_low q2 hbx (cell_block q2)
      replace q3 := cell_low q3 hbx (cell_block q3)
      have hat := HA.out e (List.mem_of_getElem? he)
      obtain ⟨up, uc, rfl⟩ := q4.len
      -- behind the event's box
      obtain ⟨W1, hW1⟩ : ∃ W1, wr.alloc (.cells (evC e (.slice up e.a.length uc)) 38) = W1 := ⟨_, rfl⟩
      have hbel1 : Below wr.heap.size wr W1 := by rw [← hW1]; exact (Below.refl _ _).alloc (Nat.le_refl _) _
      have hn1 : W1.heap[wr.heap.size]? = some (.cells (evC e (.slice up e.a.length uc)) 38 (0, 0)) := by rw [← hW1]; exact heap_alloc_new _ _
      obtain ⟨c0, c1, c2, c3⟩ := evC_at hn1
      have hlong := longAttrs_any (.slice up e.a.length uc) (.slice mp ms.length mc) e.a ms W1 ((q4.below hbx).below hbel1) ((HM.out.below hbx).below hbel1) (by omega) (by omega)
      have HLG := hid hlong
      have HE := hid he
      have H1 := hid (And.intro hn1 hbel1)
      unfold evC at hW1
      clear hlong he hX q4 hn1 hbel1 hbx
      go_upto_region 6 with fail
      clear hW1 q0 q1 q2 q3
      go_wp2_with fail
      refine HLG.out.mono ?_
      rintro r W2 ⟨u', rfl, r1, b2⟩
      obtain ⟨hn1, hbel1⟩ := H1.out
      have hbel2 := hbel1.trans (b2.mono hbel1.size)
      have hX2 := HX.out.below hbel2
      have hn2 := (b2.block _ (block_lt hn1)).trans hn1
      have r2 := row_low r1 (Nat.le_trans HX.out.be.size hbel1.size)
      obtain ⟨up', uc', hu'⟩ := row_shape r2
      subst hu'
      have hown := hX2.a
      rw [HN.out.1] at hown
      obtain ⟨ap, ac, rfl⟩ := row_shape hown
      have hsz2 := hX2.be.size
      have hle := (row_cap r2).2
      have hne : wv.ownBlock ≠ some wr.heap.size := fun hh => by have := (HX.out.r.lt _ hh).2; omega
      have hcl := hX2.be.size
      have hxs := HX.out.be.size
      have hbl : w.heap.size + 1 < wr.heap.size := block_lt HX.out.bx
      obtain ⟨z1, y1⟩ : W2.cell? ⟨w.heap.size + 1, 2, none⟩ = some (.slice ap k ac) ∧ W2.frozen? ⟨w.heap.size + 1, 2, none⟩ = false := ⟨cell_at hX2.bx rfl, free_at hX2.bx 2⟩
      obtain ⟨i0, hi, hz0, hz1, hz2⟩ := info_parts info_list
      have HX2 := hid (And.intro hX2 (And.intro hn2 r2))
      have hlena : (e.a ++ namesA ms).length = e.a.length + ms.length := by rw [List.length_append]; unfold namesA; rw [List.length_map]
      clear hX2 r1 r2 b2 hn1 hbel1 hbel2 HX H1 HLG hn2 c0 c1 c2 c3
      obtain ⟨NL, hNL⟩ : ∃ NL, (e.a ++ namesA ms).length = NL := ⟨_, rfl⟩
      rw [hNL] at hlena hle
      simp only [hNL] at HX2 ⊢
      have hNLb : NL ≤ 4000000 := by omega
      have hle2 : e.a.length ≤ uc' := by omega
      have hNL2 := hid hNL
      clear hlena hNL
      go_wp2_with (at_builtin; refine wpList_append_own _ rfl (.tmp 24) (.tmp 26) 50 rfl w.heap.size 36 i0 (.slice none 0 0) 1 24 Tryz.underlying50 hi hz0 hz1 hz2 rfl (by decide) _ _ _ rfl (hown.alloc _) ⟨_, 0, none⟩ 1 1 [.slice up' NL uc'] rfl rfl (cells_newV _ _ _) (by simp [Value.oneCell']) (by unfold maxLen; omega) (by omega) (by simp; omega) ?_)
      intro v' W3 hown2 hgrow2 _
      obtain ⟨hX2, hn2, r2⟩ := HX2.out
      have hX4 := hX2.attr (e := e) (v' := v') lndTNodes (by rw [hNL2.out]; exact r2) (by rw [HN.out.1]; exact HE.out) hgrow2 (by rw [List.length_append, HN.out.1]; exact hown2)
      obtain ⟨vp, vc, rfl⟩ := row_shape hown2
      have hax := hX2.a.alloc (.cells #[.slice up' NL uc'] 36)
      rw [HN.out.1] at hax
      have hne0 := row_ne hax ((Go.Lib.alloc_old _ _ _ (block_lt hX2.bx)).trans hX2.bx) (by decide)
      have hne1 := row_ne hax ((Go.Lib.alloc_old _ _ _ (block_lt hn2)).trans hn2) (by decide)
      have hbx3 := grown_at hgrow2 ((Go.Lib.alloc_old W2 (.cells #[.slice up' NL uc'] 36) _ (block_lt hX2.bx)).trans hX2.bx) hne0
      have hn3 := grown_at hgrow2 ((Go.Lib.alloc_old W2 (.cells #[.slice up' NL uc'] 36) _ (block_lt hn2)).trans hn2) hne1
      have y3 := free_at hbx3 2
      have z3 := cell_at hbx3 (j := 2) rfl
      have hn4 : (W3.setCell ⟨w.heap.size + 1, 2, none⟩ (.slice vp (k + 1) vc)).heap[wr.heap.size]? = _ := (heap_setCell_other W3 ⟨w.heap.size + 1, 2, none⟩ wr.heap.size (.slice vp (k + 1) vc) (by show wr.heap.size ≠ w.heap.size + 1; omega)).trans hn3
      have HX4 := hid (And.intro hX4 hn4)
      clear hX2 hX4 hn2 r2 hax hne0 hne1 hbx3 hn3 hn4 HX2 hown2 hgrow2 hown z1 y1
      go_upto_region 8 with fail
      obtain ⟨W4, hW4⟩ : ∃ W4, W3.setCell ⟨w.heap.size + 1, 2, none⟩ (.slice vp (k + 1) vc) = W4 := ⟨_, rfl⟩
      simp only [hW4] at HX4 ⊢
      clear hW4 y3 z3
      obtain ⟨c0, c1, c2, c3⟩ := evC_at HX4.out.2
      have y2 := free_at HX4.out.2 2
      have hj := just_put (j := 2) (cs2 := evC e (.slice up' e.a.length uc')) HX4.out.2 (.slice up' e.a.length uc') (by unfold evC; simp)
      have hX5 := HX4.out.1.box lndTNodes HX4.out.2 (by omega) hne hj
      have HX5 := hid (And.intro hX5 hj.at_)
      clear hj hX5 HX4
      go_upto_region 9 with fail
      obtain ⟨W5, hW5⟩ : ∃ W5, W4.setCell ⟨wr.heap.size, 2, none⟩ (.slice up' e.a.length uc') = W5 := ⟨_, rfl⟩
      simp only [hW5] at HX5 ⊢
      clear hW5 y2 c0 c1 c2 c3
      have hX5 := HX5.out.1
      obtain ⟨c0, c1, c2, c3⟩ := evC_at HX5.out.2
      have hown := hX5.r
      rw [HN.out.2.1] at hown
      obtain ⟨wp, wc, rfl⟩ := row_shape hown
      have z1 := cell_at hX5.bx (j := 1) rfl
      have hsz5 := hX5.be.size
      obtain ⟨j0, hj, hj0, hj1, hj2⟩ := info_parts infoNode_
      go_wp2_with (at_builtin; refine wpList_append_own _ rfl (.tmp 36) (.tmp 38) 29 rfl w.heap.size 38 j0 (.agg #[.int .i64 0, .string ⟨#[]⟩, .slice none 0 0, .string ⟨#[]⟩]) 4 64 Tryz.underlying29 hj hj0 hj1 hj2 rfl (by decide) _ _ _ rfl (hown.alloc _) ⟨_, 0, none⟩ 1 1 [.int .i64 e.k, .string (bs e.n), .slice up' e.a.length uc', .string (bs e.t)] rfl rfl (cells_newV _ _ _) (by simp [Value.oneCell']) (by unfold maxLen; omega) (by omega) (by simp; omega) ?_)
      intro v'' W6 hown6 hgrow6 _
      obtain ⟨vp6, vc6, rfl⟩ := row_shape hown6
      have hX7 := hX5.ev (x := (e, .slice up' e.a.length uc')) (v' := .slice vp6 (k + 1) vc6) lndTNodes (.inr ⟨.slice up' NL uc', by rw [HN.out.2.1, ← HN.out.1, List.getElem?_append_right (Nat.le_refl _), Nat.sub_self]; rfl, by rw [HN.out.2.1]; exact HE.out, rfl⟩) hgrow6 (by rw [List.length_append, HN.out.2.1, ecells_app]; exact hown6)
      have hax := hX5.r.alloc (.cells #[.int .i64 e.k, .string (bs e.n), .slice up' e.a.length uc', .string (bs e.t)] 38)
      have hne0 := row_ne hax ((Go.Lib.alloc_old _ _ _ (block_lt hX5.bx)).trans hX5.bx) (by decide)
      have hbx6 := grown_at hgrow6 ((Go.Lib.alloc_old W5 (.cells #[.int .i64 e.k, .string (bs e.n), .slice up' e.a.length uc', .string (bs e.t)] 38) _ (block_lt hX5.bx)).trans hX5.bx) hne0
      have y3 := free_at hbx6 1
      have z3 := cell_at hbx6 (j := 1) rfl
      have HX7 := hid hX7
      have HN2 : Hid ((us ++ [Value.slice up' NL uc']).length = k + 1 ∧ (prs ++ [(e, Value.slice up' e.a.length uc')]).length = k + 1 ∧ (prs ++ [(e, Value.slice up' e.a.length uc')]).map Prod.fst = es.take (k + 1)) :=
        hid ⟨by rw [List.length_append, HN.out.1]; rfl, by rw [List.length_append, HN.out.2.1]; rfl, by rw [List.map_append, HN.out.2.2, List.take_add_one, HE.out]; rfl⟩
      clear hX5 hX7 hax hne0 hbx6 hown6 hgrow6 hown z1 c0 c1 c2 c3 HX5 HN HE
      go_wp2
      go_roundw
      case rel => exact ⟨k + 1, _, _, _, _, rfl, by omega, HN2, HX7⟩
      case measure => simp [RowKit.intOf]; omega
    · obtain rfl : k = es.length := by omega
      have hN3 := HN.out.2.2
      rw [List.take_length] at hN3
      have HN3 := hid (And.intro HN.out.1 (And.intro HN.out.2.1 hN3))
      clear hkl hk hN3 HN HC HA
      go_wp2_with fail
      go_loopw [9, 44] (fun _ iv wr => ∃ (m : Nat) (wv : Value) (prs : List (EvP × Value)), iv = .int .i64 m ∧ m ≤ ms.length ∧ Hid (us.length = es.length ∧ prs.length = es.length + m ∧ prs.map Prod.fst = es ++ moreNodes (ms.take m)) ∧ Hid (LndE 38 52 w wr wv av es (namesA ms) prs us)) (fun _ iv _ => ms.length - (RowKit.intOf iv).toNat)
      case atStart => exact ⟨0, _, prs, rfl, Nat.zero_le _, hid ⟨HN3.out.1, HN3.out.2.1, by rw [HN3.out.2.2]; exact (List.append_nil _).symm⟩, HX⟩
      case round =>
        clear HX HN3
        obtain ⟨m, wv, prs, rfl, hm', HN, HX⟩ := hrel
        by_cases hml : m < ms.length
        · obtain ⟨q, hq⟩ : ∃ q, ms[m]? = some q := ⟨_, List.getElem?_eq_getElem hml⟩
          obtain ⟨b, o, rfl, d1⟩ := HMC.out m q hq
          have hX := HX.out
          have hbs := hX.be.size
          replace d1 := cell_low d1 hX.be (cell_block d1)
          have hown := hX.r
          rw [HN.out.2.1] at hown
          obtain ⟨wp, wc, rfl⟩ := row_shape hown
          have z1 := cell_at hX.bx (j := 1) rfl
          have hne3 := row_ne hown hX.bx (by decide)
          have hl5 := block_lt hX.bx
          have hlb := cell_block d1
          obtain ⟨j0, hj, hj0, hj1, hj2⟩ := info_parts infoNode_
          have HN2 : Hid (us.length = es.length ∧ ∀ u, (prs ++ [((⟨0, [], [], q⟩ : EvP), u)]).length = es.length + (m + 1) ∧ (prs ++ [((⟨0, [], [], q⟩ : EvP), u)]).map Prod.fst = es ++ moreNodes (ms.take (m + 1))) :=
            hid ⟨HN.out.1, fun u => ⟨by rw [List.length_append, HN.out.2.1]; rfl, by rw [List.map_append, HN.out.2.2, List.take_add_one, hq]; unfold moreNodes; rw [List.map_append, List.append_assoc]; rfl⟩⟩
          have HPR := hid HN.out.2.1
          have hfl : es.length + m ≤ 4000000 := by omega
          clear hX HN hq
          go_wp2_with fail
          go_region_law (refine step_append_lies _ rfl (.tmp 48) (.tmp 54) 29 rfl w.heap.size 38 j0 (.agg #[.int .i64 0, .string ⟨#[]⟩, .slice none 0 0, .string ⟨#[]⟩]) 4 64 Tryz.underlying29 hj hj0 hj1 hj2 rfl (by decide) (.slice wp (es.length + m) wc) (es.length + m) (ecells prs) (by simp [Act.eval]) (by exact hown.alloc _) ⟨_, 0, none⟩ 1 1 [.int .i64 0, .string ⟨#[]⟩, .slice none 0 0, .string (bs q)] (by simp [Act.eval]) rfl (cells_newV _ _ _) (by simp [Value.oneCell']) (by omega) (by unfold maxLen; omega) (by omega) (by simp; omega) _ rfl ?_; rintro g cap w10 hrow10 hgrow10 - -; have hb10 := grown_at (v := .slice wp (es.length + m) wc) (by exact hgrow10) ((Go.Lib.alloc_old _ _ _ (block_lt HX.out.drew.bx)).trans HX.out.drew.bx) hne3; have ce10 := cell_at (j := 1) hb10 rfl; have fe10 := free_at hb10 1)
          all_goals
            have hG4 := HX.out.drew.ev (x := (⟨0, [], [], q⟩, .slice none 0 0)) (v' := .slice (some ⟨g, 0, none⟩) (es.length + m + 1) cap) lndTNodes (.inl ⟨rfl, rfl⟩) (by exact hgrow10) (by rw [List.length_append, HPR.out, ecells_app]; exact hrow10)
            have HG4 := hid hG4
            clear hG4 hb10 ce10 fe10 hrow10 hgrow10
            go_wp2
            go_roundw
            case rel => exact ⟨m + 1, _, _, rfl, by omega, hid ⟨HN2.out.1, HN2.out.2 _⟩, HG4⟩
            case measure => simp [RowKit.intOf]; omega
        · obtain rfl : m = ms.length := by omega
          have hN3 := HN.out
          rw [List.take_length] at hN3
          have HN3 := hid hN3
          have hX := HX.out
          have hown := hX.r
          rw [hN3.2.1] at hown
          obtain ⟨wp, wc, rfl⟩ := row_shape hown
          obtain ⟨ap, ac, rfl⟩ := row_shape hX.a
          have hcr : es.length ≤ wc := by have := (row_cap hown).2; omega
          have z1 := cell_at hX.bx (j := 1) rfl
          have y0 := free_at hX.bx 0
          have z0 := cell_at hX.bx (j := 0) rfl
          have hB0 := hid hX.b0
          have hBX := hid hX.bx
          have hj := just_put (j := 0) (cs2 := #[.slice wp es.length wc, .slice wp (es.length + ms.length) wc, .slice ap us.length ac]) hX.bx (.slice wp es.length wc) (by simp)
          -- the answer's box, the list's box
          have hb0j := (hj.other w.heap.size (by omega)).trans hX.b0
          have hk8 := three_put hb0j (p0 := .slice wp es.length wc) (p1 := .slice wp (es.length + ms.length) wc) (p2 := .slice ap us.length ac)
          have hbl8 : Below w.heap.size w (((((wr.setCell ⟨w.heap.size + 1, 0, none⟩ (.slice wp es.length wc)).setCell ⟨w.heap.size, 0, none⟩ (.slice wp es.length wc)).setCell ⟨w.heap.size, 1, none⟩ (.slice wp (es.length + ms.length) wc)).setCell ⟨w.heap.size, 2, none⟩ (.slice ap us.length ac))) :=
            (hX.be.trans (just_low hj (by omega))).trans (just_low hk8 (by omega))
          have hrr := ((hX.lst.just lndTNodes hX.bx hj).just lndTNodes hb0j hk8).lent hN3.2.2 hN3.1
          have HF := hid (And.intro hk8.at_ (And.intro hrr hbl8))
          have hatj := hj.at_
          clear hX hk8 hbl8 hrr HX hN3 HN hb0j hown
          have HJ := hid (And.intro hatj hj.other)
          clear hatj hj
          go_upto_region 17 with fail
          have hb0j := (HJ.out.2 w.heap.size (by omega)).trans hB0.out
          have hatj := HJ.out.1
          obtain ⟨W5, hW5⟩ : ∃ W5, wr.setCell ⟨w.heap.size + 1, 0, none⟩ (.slice wp es.length wc) = W5 := ⟨_, rfl⟩
          simp only [hW5] at HF hb0j hatj ⊢
          clear hW5 y0 z0 z1 HJ hB0 hBX
          have z0 := cell_at hatj (j := 0) rfl
          have z1 := cell_at hatj (j := 1) rfl
          have z2 := cell_at hatj (j := 2) rfl
          have x0 := cell_at hb0j (j := 0) rfl
          have x1 := cell_at hb0j (j := 1) rfl
          have x2 := cell_at hb0j (j := 2) rfl
          have y0 := free_at hb0j 0
          have y1 := free_at hb0j 1
          have y2 := free_at hb0j 2
          clear hb0j hatj
          go_wp2_with fail
          obtain ⟨hat8, hl8, hb8⟩ := HF.out
          obtain ⟨W8, hW8⟩ : ∃ W8, ((W5.setCell ⟨w.heap.size, 0, none⟩ (.slice wp es.length wc)).setCell ⟨w.heap.size, 1, none⟩ (.slice wp (es.length + ms.length) wc)).setCell ⟨w.heap.size, 2, none⟩ (.slice ap us.length ac) = W8 := ⟨_, rfl⟩
          simp only [hW8] at hat8 hl8 hb8 ⊢
          clear hW8
          refine bodyPost_ret (v := .agg #[.slice wp es.length wc, .slice wp (es.length + ms.length) wc, .slice ap us.length ac]) ?_ rfl ⟨_, rfl, hl8, hb8⟩
          exact results_cell_row rfl _ _ _ _ _ _ _ rfl hat8 Tryz.underlying52 rfl (by kernel_rfl)

set_option maxHeartbeats 4000000 in
set_option maxRecDepth 100000 in
theorem keptNodes_any (v ev mv : Value) (es : List EvP) (ms : List (List UInt8)) (w : World) (hlt : LentE w v es (moreNodes ms) (namesA ms)) (h : EvsR w ev es) (hM : Words w mv ms) (hl : es.length ≤ 2000000) (ha : ∀ e ∈ es, e.a.length ≤ 2000000) (hm : ms.length ≤ 2000000) :
    Calls Tryz.prog 22 #[v, ev, mv] w fun e w' => e = .returned (.bool true) ∧ Below w.heap.size w w' := by
  obtain ⟨vf, vw, va, rfl, l1, l2, l3⟩ := hlt
  obtain ⟨f1, f2, f3, rfl⟩ := l1.shape
  obtain ⟨w1, w2, w3, rfl⟩ := l2.shape
  obtain ⟨a1, a2, a3, rfl⟩ := l3.shape
  obtain ⟨W0, hW0⟩ : ∃ W0, w.alloc (.cells #[.slice f1 f2 f3, .slice w1 w2 w3, .slice a1 a2 a3] 52) = W0 := ⟨_, rfl⟩
  have hB : Below w.heap.size w W0 := by rw [← hW0]; exact (Below.refl w.heap.size w).alloc (Nat.le_refl _) _
  have b0 : W0.heap[w.heap.size]? = some (.cells #[.slice f1 f2 f3, .slice w1 w2 w3, .slice a1 a2 a3] 52 (0, 0)) := by rw [← hW0]; exact heap_alloc_new w _
  have hlend := lendNodes_any ev mv es ms W0 (h.below hB) (hM.below hB) hl ha hm
  have HL := hid hlend
  have HB := hid (And.intro hB b0)
  have HM := hid (And.intro l2 l3)
  obtain ⟨e1, e2, e3, rfl⟩ := h.shape
  obtain ⟨m1, m2, m3, rfl⟩ := hM.shape
  clear hlend h hM l1 l2 l3 hB b0
  go_enter Tryz.func22, Tryz.ntmps22
  go_upto_region 1 with fail
  clear hW0
  go_wp2_with fail
  refine HL.out.mono ?_
  rintro e W1 ⟨v', rfl, hl', hb1⟩
  obtain ⟨vf, vw, va, rfl, l1, l2, l3⟩ := hl'
  obtain ⟨bf1, bf2, bf3, rfl⟩ := l1.shape
  obtain ⟨bw1, bw2, bw3, rfl⟩ := l2.shape
  obtain ⟨ba1, ba2, ba3, rfl⟩ := l3.shape
  have HL2 := hid (And.intro l2 l3)
  clear l1 l2 l3
  go_upto_region 2 with fail
  have hB0 := HB.out.1
  have hu2 : Below W1.heap.size W1 (W1.alloc (.cells #[.slice bf1 bf2 bf3, .slice bw1 bw2 bw3, .slice ba1 ba2 ba3] 52)) := (Below.refl _ _).alloc (Nat.le_refl _) _
  have hb2 := (hB0.trans (hb1.mono hB0.size)).trans (hu2.mono (Nat.le_trans hB0.size hb1.size))
  have ha2 := (hu2.block _ (Nat.lt_of_lt_of_le (block_lt HB.out.2) hb1.size)).trans ((hb1.block _ (block_lt HB.out.2)).trans HB.out.2)
  have hc2 := heap_alloc_new W1 (.cells #[.slice bf1 bf2 bf3, .slice bw1 bw2 bw3, .slice ba1 ba2 ba3] 52)
  obtain ⟨W2, hW2⟩ : ∃ W2, W1.alloc (.cells #[.slice bf1 bf2 bf3, .slice bw1 bw2 bw3, .slice ba1 ba2 ba3] 52) = W2 := ⟨_, rfl⟩
  simp only [hW2] at hb2 hu2 ha2 hc2 ⊢
  have se := fun n => sameNodesR_any (.slice w1 w2 w3) (.slice bw1 bw2 bw3) (es ++ moreNodes ms) (W2.drewN n) ((HM.out.1.below hb2).drewN n) ((HL2.out.1.below hu2).drewN n)
  have sl := fun n => sameLists_any (.slice a1 a2 a3) (.slice ba1 ba2 ba3) (es.map fun e => e.a ++ namesA ms) (W2.drewN n) ((HM.out.2.below hb2).drewN n) ((HL2.out.2.below hu2).drewN n)
  have SE := hid se
  have SL := hid sl
  have HF := hid hb2
  have z1 := cell_at ha2 (j := 1) rfl
  have z2 := cell_at ha2 (j := 2) rfl
  have x1 := cell_at hc2 (j := 1) rfl
  have x2 := cell_at hc2 (j := 2) rfl
  clear se sl hB0 hb2 hu2 ha2 hc2 hW2 hb1 HB HL HL2 HM
  go_wp2_with fail
  refine (SE.out 0).mono ?_
  rintro e W3 ⟨rfl, n3, rfl⟩
  go_wp2_with fail
  refine (SL.out _).mono ?_
  rintro e W4 ⟨rfl, n4, rfl⟩
  go_wp2_with fail
  go_ret
  exact ⟨rfl, ⟨HF.out.os, HF.out.tape, HF.out.output, HF.out.size, HF.out.block⟩⟩
end Go.Proofs.YtcncbhbdpcpkeaaGreatDoor
