/-
  Parts of the walk, joined: PolKept, LendE.
-/
import Derived.Test.YtcncbhbdpcpkeaaGreatDoorPJAL
import Derived.Test.YtcncbhbdpcpkeaaGreatDoorPJBB
import Derived.Test.YtcncbhbdpcpkeaaGreatDoorPJBC
/-
  The statements' keptPolicy: its walk, at a policy that is as it was lent.
-/
namespace Go.Proofs.YtcncbhbdpcpkeaaGreatDoor
open Go.RowKit Go.Lib Own

theorem RulesR.shape {W : World} {v : Value} {rs : List RuleP} (h : RulesR W v rs) : ∃ p n c, v = .slice p n c := by
  obtain ⟨p, c, e, _⟩ := h
  exact ⟨p, _, c, e⟩
theorem Words.shape {W : World} {v : Value} {ss : List (List UInt8)} (h : Words W v ss) : ∃ p n c, v = .slice p n c := by
  obtain ⟨p, c, e, _⟩ := h
  exact ⟨p, _, c, e⟩

set_option maxHeartbeats 4000000 in
set_option maxRecDepth 100000 in
theorem keptPolicy_any (v vr vs vd mv : Value) (P : PolP) (ms : List (List UInt8)) (w : World) (hl : LentR w v P ms) (h : PolR w vr vs vd P) (hF : P.Few) (hM : Words w mv ms) (hm : ms.length ≤ 2000000) :
    Calls Tryz.prog 21 #[v, .agg (polC vr vs vd P), mv] w fun e w' => e = .returned (.bool true) ∧ Below w.heap.size w w' := by
  obtain ⟨ar, as_, ad, aR, aA, aS, aD, rfl, l1, l2, l3, l4, l5⟩ := hl
  obtain ⟨aAp, aAc, rfl, _, _, l6⟩ := l3
  obtain ⟨aR1, aR2, aR3, rfl⟩ := l2.shape
  obtain ⟨aS1, aS2, aS3, rfl⟩ := l4.shape
  obtain ⟨aD1, aD2, aD3, rfl⟩ := l5.shape
  rw [List.length_map]
  obtain ⟨W0, hW0⟩ : ∃ W0, ((w.alloc (.cells #[ar, as_, ad, .int .i64 P.depth, .int .i64 P.window, .slice aR1 aR2 aR3, .slice aAp P.rules.length aAc, .slice aS1 aS2 aS3, .slice aD1 aD2 aD3] 48)).alloc (.cells (polC vr vs vd P) 43)) = W0 := ⟨_, rfl⟩
  have hB : Below w.heap.size w W0 := by
    rw [← hW0]
    exact ((Below.refl w.heap.size w).alloc (Nat.le_refl _) _).alloc (by simp) _
  have b0 : W0.heap[w.heap.size]? = some (.cells #[ar, as_, ad, .int .i64 P.depth, .int .i64 P.window, .slice aR1 aR2 aR3, .slice aAp P.rules.length aAc, .slice aS1 aS2 aS3, .slice aD1 aD2 aD3] 48 (0, 0)) := by
    rw [← hW0]
    exact (Go.Lib.alloc_old _ _ _ (by simp)).trans (heap_alloc_new w _)
  have b1 : W0.heap[w.heap.size + 1]? = some (.cells (polC vr vs vd P) 43 (0, 0)) := by
    rw [← hW0]
    exact heap_two_new w _ _ _
  have hfr := hF.rules
  have hlend := lendPolicy_any vr vs vd mv P ms W0 (h.below hB) hF (hM.below hB) hm
  have HL := hid hlend
  have HB := hid (And.intro hB b0)
  have HM := hid (And.intro l2 (And.intro l6 (And.intro l4 l5)))
  obtain ⟨c0, c1, c2, c3, c4⟩ := polC_at (P := P) b1
  obtain ⟨mp, mc, rfl, _⟩ := hM.len
  clear hlend h hF hM l1 l2 l6 l4 l5 hB b0 b1
  unfold polC at hW0 HL ⊢
  go_enter Tryz.func21, Tryz.ntmps21
  go_upto_region 1 with fail
  clear hW0
  go_wp2_with fail
  refine HL.out.mono ?_
  rintro e w1 ⟨v', rfl, hl', hb1⟩
  obtain ⟨br, bs_, bd, bR, bA, bS, bD, rfl, l1, l2, l3, l4, l5⟩ := hl'
  obtain ⟨bAp, bAc, rfl, _, _, l6⟩ := l3
  obtain ⟨bR1, bR2, bR3, rfl⟩ := l2.shape
  obtain ⟨bS1, bS2, bS3, rfl⟩ := l4.shape
  obtain ⟨bD1, bD2, bD3, rfl⟩ := l5.shape
  obtain ⟨b01, b02, b03, rfl⟩ := l1.rules.shape
  obtain ⟨b11, b12, b13, rfl⟩ := l1.schemes.shape
  obtain ⟨b21, b22, b23, rfl⟩ := l1.drop.shape
  have HL2 := hid (And.intro l2 (And.intro l6 (And.intro l4 l5)))
  clear l1 l2 l6 l4 l5
  rw [List.length_map]
  go_upto_region 2 with fail
  have hB0 := HB.out.1
  have hb2 : Below w.heap.size w (w1.alloc (.cells #[.slice b01 b02 b03, .slice b11 b12 b13, .slice b21 b22 b23, .int .i64 P.depth, .int .i64 P.window, .slice bR1 bR2 bR3, .slice bAp P.rules.length bAc, .slice bS1 bS2 bS3, .slice bD1 bD2 bD3] 48)) := (hB0.trans (hb1.mono hB0.size)).alloc (Nat.le_trans hB0.size hb1.size) _
  have ha2 := (Go.Lib.alloc_old w1 (.cells #[.slice b01 b02 b03, .slice b11 b12 b13, .slice b21 b22 b23, .int .i64 P.depth, .int .i64 P.window, .slice bR1 bR2 bR3, .slice bAp P.rules.length bAc, .slice bS1 bS2 bS3, .slice bD1 bD2 bD3] 48) w.heap.size (Nat.lt_of_lt_of_le (block_lt HB.out.2) hb1.size)).trans ((hb1.block _ (block_lt HB.out.2)).trans HB.out.2)
  have hc2 := heap_alloc_new w1 (.cells #[.slice b01 b02 b03, .slice b11 b12 b13, .slice b21 b22 b23, .int .i64 P.depth, .int .i64 P.window, .slice bR1 bR2 bR3, .slice bAp P.rules.length bAc, .slice bS1 bS2 bS3, .slice bD1 bD2 bD3] 48)
  have hu2 : Below w1.heap.size w1 (w1.alloc (.cells #[.slice b01 b02 b03, .slice b11 b12 b13, .slice b21 b22 b23, .int .i64 P.depth, .int .i64 P.window, .slice bR1 bR2 bR3, .slice bAp P.rules.length bAc, .slice bS1 bS2 bS3, .slice bD1 bD2 bD3] 48)) := (Below.refl _ _).alloc (Nat.le_refl _) _
  have HB2 := hid hb2
  have HU2 := hid hu2
  obtain ⟨W2, hW2⟩ : ∃ W2, w1.alloc (.cells #[.slice b01 b02 b03, .slice b11 b12 b13, .slice b21 b22 b23, .int .i64 P.depth, .int .i64 P.window, .slice bR1 bR2 bR3, .slice bAp P.rules.length bAc, .slice bS1 bS2 bS3, .slice bD1 bD2 bD3] 48) = W2 := ⟨_, rfl⟩
  simp only [hW2] at HB2 HU2 ha2 hc2 ⊢
  obtain ⟨z0, z1, z2, z3, z4, z5, z6, z7, z8, -⟩ := lp_cells ha2
  obtain ⟨x0, x1, x2, x3, x4, x5, x6, x7, x8, -⟩ := lp_cells hc2
  have HC := hid (fun (_ : True) => And.intro z5 (And.intro z6 (And.intro z7 (And.intro z8 (And.intro x5 (And.intro x6 (And.intro x7 x8)))))))
  clear hB0 hb2 ha2 hc2 hu2 hW2 hb1 HB HL z0 z1 z2 z3 z4 z5 z7 z8 x0 x1 x2 x3 x4 x5 x6 x7 x8
  go_wp2
  clear z6
  go_loopw [8, 16] (fun _ iv wr => ∃ k : Nat, iv = .int .i64 k ∧ k ≤ P.rules.length ∧ Hid (True → ∃ n, wr = W2.drewN n)) (fun _ iv _ => P.rules.length - (RowKit.intOf iv).toNat)
  case atStart => exact ⟨0, rfl, Nat.zero_le _, hid fun _ => ⟨0, rfl⟩⟩
  case round =>
    obtain ⟨k, rfl, hk, HQ⟩ := hrel
    obtain ⟨z5, z6, z7, z8, x5, x6, x7, x8⟩ := HC.out trivial
    replace z5 := cell_drewT HQ z5
    replace z6 := cell_drewT HQ z6
    replace z7 := cell_drewT HQ z7
    replace z8 := cell_drewT HQ z8
    replace x5 := cell_drewT HQ x5
    replace x6 := cell_drewT HQ x6
    replace x7 := cell_drewT HQ x7
    replace x8 := cell_drewT HQ x8
    by_cases hkl : k < P.rules.length
    · obtain ⟨r, hr⟩ : ∃ r, P.rules[k]? = some r := ⟨_, List.getElem?_eq_getElem hkl⟩
      obtain ⟨b, o, u, rfl, e1, e3⟩ := HM.out.2.1 k (r.2 ++ ms) (by rw [List.getElem?_map, hr]; rfl)
      obtain ⟨b', o', u', rfl, f1, f3⟩ := HL2.out.2.1 k (r.2 ++ ms) (by rw [List.getElem?_map, hr]; rfl)
      obtain ⟨p3, n3, m3, rfl⟩ := e3.shape
      obtain ⟨p4, n4, m4, rfl⟩ := f3.shape
      have hsame := fun n => sameTexts_any (.slice p3 n3 m3) (.slice p4 n4 m4) (r.2 ++ ms) (wr.drewN n) (by obtain ⟨n', rfl⟩ := HQ.out trivial; exact ((e3.below HB2.out).drewN _).drewN _) (by obtain ⟨n', rfl⟩ := HQ.out trivial; exact ((f3.below HU2.out).drewN _).drewN _)
      have HS := hid hsame
      replace e1 := cell_drewT HQ (cell_kept e1 HB2.out)
      replace f1 := cell_drewT HQ (cell_kept f1 HU2.out)
      clear hsame hr e3 f3 z5 z7 z8 x5 x7 x8
      go_wp2_with fail
      go_quiet (first | (go_at_call 57; refine Calls.quiet_of (HS.out _)))
      go_wp2
      go_roundw
      case rel =>
        obtain ⟨n, hn⟩ := HQ.out trivial
        exact ⟨k + 1, rfl, by omega, hid (fun _ => ⟨n + nq, by rw [hn]; simp⟩)⟩
      case measure => simp [RowKit.intOf]; omega
    · have hxl := cell_block x5
      have hzl := cell_block z5
      have hsame := fun W (hW : Below W2.heap.size W2 W) => samePolicy_any (.slice aR1 aR2 aR3) (.slice aS1 aS2 aS3) (.slice aD1 aD2 aD3) (.slice bR1 bR2 bR3) (.slice bS1 bS2 bS3) (.slice bD1 bD2 bD3) ⟨P.rules ++ ms.map fun s => (s, []), P.schemes ++ ms, P.drop ++ ms, 0, 0⟩ W ⟨(HM.out.1.below HB2.out).below hW, (HM.out.2.2.1.below HB2.out).below hW, (HM.out.2.2.2.below HB2.out).below hW⟩ ⟨(HL2.out.1.below HU2.out).below hW, (HL2.out.2.2.1.below HU2.out).below hW, (HL2.out.2.2.2.below HU2.out).below hW⟩
      have HS := hid hsame
      clear hsame z6 x6
      go_wp2_with fail
      have hW : Below W2.heap.size W2 (wr.alloc (.cells #[.slice aR1 aR2 aR3, .slice aS1 aS2 aS3, .slice aD1 aD2 aD3, .int .i64 0, .int .i64 0] 43)) := by
        obtain ⟨n, rfl⟩ := HQ.out trivial
        have h0 : Below W2.heap.size W2 (W2.drewN n) := ⟨rfl, rfl, rfl, Nat.le_refl _, fun _ _ => rfl⟩
        exact h0.alloc (Nat.le_refl _) _
      refine (HS.out _ hW).mono ?_
      rintro e w9 ⟨rfl, hb9⟩
      have HB9 := hid (HB2.out.trans ((hW.trans (hb9.mono (by exact hW.size))).mono HB2.out.size))
      clear hW hb9
      go_wp2_with fail
      go_ret
      exact ⟨rfl, HB9.out⟩
end Go.Proofs.YtcncbhbdpcpkeaaGreatDoor

/-
  The statements' longAttrs: its walk; what the memory of lent events or nodes holds.
-/
namespace Go.Proofs.YtcncbhbdpcpkeaaGreatDoor
open Go.RowKit Go.Lib Own

theorem attrsR_row {W : World} {base : Nat} {v : Value} {al : List AttrP} (h : W.ownsRow base 122 2 v al.length (attrsV al)) : AttrsR W v al := by
  have hc : ∀ j a, al[j]? = some a → ∃ b o, (∃ n c, v = .slice (some ⟨b, o, none⟩) n c) ∧ W.cell? ⟨b, o + j * 2, none⟩ = some (.string (bs a.1)) ∧ W.cell? ⟨b, o + j * 2 + 1, none⟩ = some (.string (bs a.2)) := fun j a hj => by
    have hlt := (List.getElem?_eq_some_iff.1 hj).1
    obtain ⟨g, cap, rfl, _, _, hcell⟩ := row_at h (by omega)
    obtain ⟨x1, x2⟩ := attrs_at al j a hj
    exact ⟨g, 0, ⟨_, _, rfl⟩, by rw [Nat.zero_add]; exact (hcell _ (by omega)).trans x1, by rw [Nat.zero_add]; exact (hcell _ (by omega)).trans x2⟩
  rcases h.2 with ⟨rfl, h0⟩ | ⟨g, cap, cur, rfl, _, _, h1, h2, _⟩
  · exact ⟨none, 0, by rw [h0], by omega, by omega, fun j s hj => by have := (List.getElem?_eq_some_iff.1 hj).1; omega, fun _ => rfl⟩
  · refine ⟨some ⟨g, 0, none⟩, cap, rfl, h1, by unfold maxLen at h2; omega, fun j s hj => ?_, fun e => by cases e⟩
    obtain ⟨b, o, ⟨n, c, e⟩, hcell⟩ := hc j s hj
    cases e
    exact ⟨g, 0, rfl, hcell⟩
theorem attrsR_front {W : World} {base : Nat} {v : Value} {a m : List AttrP} (h : W.ownsRow base 122 2 v (a ++ m).length (attrsV (a ++ m))) : AttrsR W (frontV v a.length) a := by
  have h1 := attrsR_row h
  obtain ⟨p, c, rfl⟩ := row_shape h
  have h2 := h1.front a.length (by simp)
  rw [List.take_left'] at h2
  · exact h2
  · rfl
theorem attrsV_one (al : List AttrP) : ∀ u ∈ attrsV al, u.oneCell' = true := by
  intro u hu
  unfold attrsV at hu
  obtain ⟨s, _, hs⟩ := List.mem_flatMap.1 hu
  simp only [List.mem_cons, List.not_mem_nil, or_false] at hs
  rcases hs with rfl | rfl <;> rfl
/-- attributes appended to a row of attributes that the call owns -/
theorem wpList_append_attrs {w : World} {ops : Array Oper} {rest : List Oper} {o : Oper} {a : Act} {Q : Exit → Act → World → Prop} (hgd : o.guard = none) (s x : Operand)
    (ho : o.op = .call { callee := .builtin .append, args := #[s, x], argTypes := #[36, 36] }) (base : Nat) (v vx : Value) (l m : List AttrP) (hs : a.eval s = v) (hx : a.eval x = vx)
    (hown : w.ownsRow base 122 2 v l.length (attrsV l)) (hw : AttrsR w vx m) (hbase : base ≤ w.heap.size) (hsz : l.length + m.length ≤ 1000000000)
    (h : ∀ v' w', w'.ownsRow base 122 2 v' (l ++ m).length (attrsV (l ++ m)) → w.grownBy w' v.ownBlock → wpList Tryz.prog ops Q rest (a.put o.dst v') w') : wpList Tryz.prog ops Q (o :: rest) a w := by
  obtain ⟨i0, hi, hz0, hz1, hz2⟩ := info_parts info_attr
  obtain ⟨p, c, rfl, hc, hm, hcell, hnone⟩ := hw
  cases p with
  | none =>
    obtain rfl : c = 0 := hnone rfl
    obtain rfl : m = [] := List.length_eq_zero_iff.1 (by omega)
    refine wpList_append_own_none hgd s x 36 ho base 122 i0 2 Tryz.underlying36 hi v l.length (attrsV l) hs hown hx ?_
    exact h v w (by rw [List.append_nil]; exact hown) ⟨rfl, rfl, rfl, Nat.le_refl _, fun _ _ _ => rfl⟩
  | some ad =>
    refine wpList_append_own w hgd s x 36 ho base 122 i0 (.agg #[.string ⟨#[]⟩, .string ⟨#[]⟩]) 2 32 Tryz.underlying36 hi hz0 hz1 hz2 rfl (by decide) v l.length (attrsV l) hs hown ad m.length c (attrsV m) hx (attrsV_len m) ?_ (attrsV_one m) (by unfold maxLen; omega) (by omega) hbase ?_
    · intro j u hj
      have hjl := (List.getElem?_eq_some_iff.1 hj).1
      rw [attrsV_len] at hjl
      obtain ⟨t, ht⟩ : ∃ t, m[j / 2]? = some t := ⟨_, List.getElem?_eq_getElem (by omega)⟩
      obtain ⟨b, o', e, hd1, hd2⟩ := hcell _ t ht
      obtain ⟨x1, x2⟩ := attrs_at m _ t ht
      cases e
      have hadd : (⟨b, o', none⟩ : Addr).add j = ⟨b, o' + j, none⟩ := by unfold Addr.add; split <;> simp_all
      rw [hadd]
      rcases (show j = j / 2 * 2 ∨ j = j / 2 * 2 + 1 by omega) with e | e
      · rw [← e] at x1 hd1
        obtain rfl := Option.some.inj (x1.symm.trans hj)
        exact hd1
      · rw [← e] at x2
        rw [Nat.add_assoc, ← e] at hd2
        obtain rfl := Option.some.inj (x2.symm.trans hj)
        exact hd2
    · intro v' w' h2 h3 _
      exact h v' w' (by rw [List.length_append, attrsV_app]; exact h2) h3
/-- the attributes of these names -/
def namesA (ms : List (List UInt8)) : List AttrP := ms.map fun s => (s, [])

set_option maxHeartbeats 2000000 in
set_option maxRecDepth 100000 in
theorem longAttrs_any (v1 v2 : Value) (l : List AttrP) (ms : List (List UInt8)) (w : World) (h1 : AttrsR w v1 l) (h2 : Words w v2 ms) (hl : l.length ≤ 4000000) (hm : ms.length ≤ 4000000) :
    Calls Tryz.prog 50 #[v1, v2] w fun e w' => ∃ v, e = .returned v ∧ w'.ownsRow w.heap.size 122 2 v (l ++ namesA ms).length (attrsV (l ++ namesA ms)) ∧ Below w.heap.size w w' := by
  have H1 := hid h1
  obtain ⟨p1, c1, rfl⟩ := h1.len
  obtain ⟨p2, c2, rfl, hmc, _, hcell, _⟩ := h2
  have H2 := hid hcell
  clear h1 hcell
  obtain ⟨i0, hi, hz0, hz1, hz2⟩ := info_parts info_attr
  go_enter Tryz.func50, Tryz.ntmps50
  have hb0 := heap_alloc_new w (.cells #[] 122)
  have hown0 : (w.alloc (.cells #[] 122)).ownsRow w.heap.size 122 2 (.slice (some ⟨w.heap.size, 0, none⟩) 0 0) ([] : List AttrP).length (attrsV []) := ⟨rfl, .inr ⟨w.heap.size, 0, #[], rfl, Nat.le_refl _, hb0, Nat.le_refl _, by decide, rfl, rfl⟩⟩
  have hbel0 : Below w.heap.size w (w.alloc (.cells #[] 122)) := (Below.refl w.heap.size w).alloc (Nat.le_refl _) _
  have HO := hid hown0
  have HB := hid hbel0
  clear hb0 hown0 hbel0
  go_wp2_with (at_builtin; refine wpList_append_attrs rfl (.tmp 7) (.tmp 8) rfl w.heap.size _ _ [] l rfl rfl (by exact HO.out) (by exact H1.out.below HB.out) HB.out.size (by simp; omega) ?_)
  intro v3 w3 hown3 hgrow3
  have hbel3 : Below w.heap.size w w3 := HB.out.grown hgrow3 HB.out.size (fun k hk => (HO.out.lt k hk).1)
  have HX3 := hid (And.intro hown3 hbel3)
  clear hown3 hgrow3 hbel3 HO HB
  go_wp2_with fail
  go_loopw [5, 12] (fun bv iv wr => ∃ (k : Nat) (acc : List AttrP), iv = .int .i64 k ∧ k ≤ ms.length ∧ Hid (wr.ownsRow w.heap.size 122 2 bv acc.length (attrsV acc) ∧ Below w.heap.size w wr ∧ acc = l ++ namesA (ms.take k))) (fun _ iv _ => ms.length - (RowKit.intOf iv).toNat)
  case atStart => exact ⟨0, l, rfl, Nat.zero_le _, hid ⟨HX3.out.1, HX3.out.2, (List.append_nil l).symm⟩⟩
  case round =>
    obtain ⟨k, acc, rfl, hk, HX⟩ := hrel
    obtain ⟨bp, bc, rfl⟩ := row_shape HX.out.1
    by_cases hkl : k < ms.length
    · obtain ⟨s, hs⟩ : ∃ s, ms[k]? = some s := ⟨_, List.getElem?_eq_getElem hkl⟩
      obtain ⟨b, o, rfl, hc1⟩ := H2.out k s hs
      obtain ⟨hown, hbw, hacc⟩ := HX.out
      have hbs := hbw.size
      replace hc1 := cell_low hc1 hbw (cell_block hc1)
      have hlen : acc.length ≤ 10000000 := by rw [hacc, List.length_append]; unfold namesA; rw [List.length_map, List.length_take]; omega
      have hnext : acc ++ [(s, [])] = l ++ namesA (ms.take (k + 1)) := by
        rw [List.take_add_one, hs, hacc]
        unfold namesA
        rw [List.map_append, List.append_assoc]
        rfl
      have HN := hid hnext
      clear hnext hs hacc HX HX3 H1 H2
      go_wp2_with (at_builtin; refine wpList_append_own _ rfl (.tmp 15) (.tmp 21) 36 rfl w.heap.size 122 i0 (.agg #[.string ⟨#[]⟩, .string ⟨#[]⟩]) 2 32 Tryz.underlying36 hi hz0 hz1 hz2 rfl (by decide) _ acc.length (attrsV acc) rfl (hown.alloc _) ⟨_, 0, none⟩ 1 1 [.string (bs s), .string ⟨#[]⟩] rfl rfl (cells_newV _ _ _) (by simp [Value.oneCell']) (by unfold maxLen; omega) (by omega) (by simp; omega) ?_)
      intro v' w2 hown2 hgrow2 _
      have hbw2 := (hbw.alloc hbs _).grown hgrow2 (by simp; omega) (fun k hk => ((hown.alloc (.cells #[.string (bs s), .string ⟨#[]⟩] 122)).lt k hk).1)
      have hZ : w2.ownsRow w.heap.size 122 2 v' (acc ++ [(s, [])]).length (attrsV (acc ++ [(s, [])])) := by
        rw [List.length_append, attrsV_app]
        exact hown2
      have HZ := hid (And.intro hZ (And.intro hbw2 HN.out))
      clear hZ hbw2 hown2 hgrow2 hown hbw HN
      go_wp2
      go_roundw
      case rel => exact ⟨k + 1, acc ++ [(s, [])], rfl, by omega, HZ⟩
      case measure => simp [RowKit.intOf]; omega
    · obtain rfl : k = ms.length := by omega
      obtain ⟨h1, h2, h3⟩ := HX.out
      rw [List.take_length] at h3
      have HZ := hid (And.intro h1 (And.intro h2 h3))
      clear h1 h2 h3 HX HX3
      go_wp2
      go_ret
      obtain ⟨h1, h2, h3⟩ := HZ.out
      rw [← h3]
      exact ⟨_, rfl, h1, h2⟩

/-! ## cells of events, lists of attributes beside them -/

def ecells (prs : List (EvP × Value)) : List Value := prs.flatMap fun x => [.int .i64 x.1.k, .string (bs x.1.n), x.2, .string (bs x.1.t)]
theorem ecells_app (a b : List (EvP × Value)) : ecells (a ++ b) = ecells a ++ ecells b := List.flatMap_append
theorem ecells_at : ∀ (a : List (EvP × Value)) (k : Nat) (x : EvP × Value), a[k]? = some x → (ecells a)[k * 4]? = some (.int .i64 x.1.k) ∧ (ecells a)[k * 4 + 1]? = some (.string (bs x.1.n)) ∧ (ecells a)[k * 4 + 2]? = some x.2 ∧ (ecells a)[k * 4 + 3]? = some (.string (bs x.1.t))
  | [], k, x, h => by simp at h
  | y :: r, 0, x, h => by
    simp only [List.getElem?_cons_zero, Option.some.injEq] at h
    subst h
    exact ⟨rfl, rfl, rfl, rfl⟩
  | y :: r, k + 1, x, h => by
    rw [List.getElem?_cons_succ] at h
    obtain ⟨h1, h2, h3, h4⟩ := ecells_at r k x h
    exact ⟨by rw [show (k + 1) * 4 = k * 4 + 1 + 1 + 1 + 1 by omega]; exact h1, by rw [show (k + 1) * 4 + 1 = k * 4 + 1 + 1 + 1 + 1 + 1 by omega]; exact h2,
      by rw [show (k + 1) * 4 + 2 = k * 4 + 2 + 1 + 1 + 1 + 1 by omega]; exact h3, by rw [show (k + 1) * 4 + 3 = k * 4 + 3 + 1 + 1 + 1 + 1 by omega]; exact h4⟩
theorem evsR_row {T : TypeId} {W : World} {base : Nat} {v : Value} {prs : List (EvP × Value)} (h : W.ownsRow base T 4 v prs.length (ecells prs)) (ha : ∀ x ∈ prs, AttrsR W x.2 x.1.a) : EvsR W v (prs.map Prod.fst) := by
  have hlen : (prs.map Prod.fst).length = prs.length := List.length_map _
  have hc : ∀ j e, (prs.map Prod.fst)[j]? = some e → ∃ b o u, (∃ n c, v = .slice (some ⟨b, o, none⟩) n c) ∧ W.cell? ⟨b, o + j * 4, none⟩ = some (.int .i64 e.k) ∧ W.cell? ⟨b, o + j * 4 + 1, none⟩ = some (.string (bs e.n)) ∧ W.cell? ⟨b, o + j * 4 + 2, none⟩ = some u ∧ W.cell? ⟨b, o + j * 4 + 3, none⟩ = some (.string (bs e.t)) ∧ AttrsR W u e.a := fun j e hj => by
    rw [List.getElem?_map] at hj
    obtain ⟨x, hx, rfl⟩ := Option.map_eq_some_iff.1 hj
    have hlt := (List.getElem?_eq_some_iff.1 hx).1
    obtain ⟨g, cap, rfl, _, _, hcell⟩ := row_at h (by omega)
    obtain ⟨x1, x2, x3, x4⟩ := ecells_at prs j x hx
    refine ⟨g, 0, x.2, ⟨_, _, rfl⟩, ?_, ?_, ?_, ?_, ha x (List.mem_of_getElem? hx)⟩
    all_goals rw [Nat.zero_add]
    · exact (hcell _ (by omega)).trans x1
    · exact (hcell _ (by omega)).trans x2
    · exact (hcell _ (by omega)).trans x3
    · exact (hcell _ (by omega)).trans x4
  rcases h.2 with ⟨rfl, h0⟩ | ⟨g, cap, cur, rfl, _, _, h1, h2, _⟩
  · exact ⟨none, 0, by rw [hlen, h0], by omega, by omega, fun j s hj => by have := (List.getElem?_eq_some_iff.1 hj).1; omega⟩
  · refine ⟨some ⟨g, 0, none⟩, cap, by rw [hlen], by omega, by unfold maxLen at h2; omega, fun j s hj => ?_⟩
    obtain ⟨b, o, u, ⟨n, c, e⟩, hcell⟩ := hc j s hj
    cases e
    exact ⟨g, 0, u, rfl, hcell⟩
theorem alistsR_row {W : World} {base : Nat} {v : Value} {us : List Value} {ls : List (List AttrP)} (h : W.ownsRow base 36 1 v us.length us) (hl : us.length = ls.length) (ha : ∀ (k : Nat) u l, us[k]? = some u → ls[k]? = some l → AttrsR W u l) : AlistsR W v ls := by
  have hc : ∀ j l, ls[j]? = some l → ∃ b o u, (∃ n c, v = .slice (some ⟨b, o, none⟩) n c) ∧ W.cell? ⟨b, o + j, none⟩ = some u ∧ AttrsR W u l := fun j l hj => by
    have hlt := (List.getElem?_eq_some_iff.1 hj).1
    obtain ⟨g, cap, rfl, _, _, hcell⟩ := row_at h (by omega)
    obtain ⟨u, hu⟩ : ∃ u, us[j]? = some u := ⟨_, List.getElem?_eq_getElem (by omega)⟩
    exact ⟨g, 0, u, ⟨_, _, rfl⟩, by rw [Nat.zero_add]; exact (hcell _ (by omega)).trans hu, ha j u l hu hj⟩
  rcases h.2 with ⟨rfl, h0⟩ | ⟨g, cap, cur, rfl, _, _, h1, h2, _⟩
  · exact ⟨none, 0, by rw [← hl, h0], by omega, by omega, fun j s hj => by have := (List.getElem?_eq_some_iff.1 hj).1; omega⟩
  · refine ⟨some ⟨g, 0, none⟩, cap, by rw [hl], by omega, by unfold maxLen at h2; omega, fun j s hj => ?_⟩
    obtain ⟨b, o, u, ⟨n, c, e⟩, hcell⟩ := hc j s hj
    cases e
    exact ⟨g, 0, u, rfl, hcell⟩
theorem EvsR.front2 {W : World} {p : Option Addr} {n c : Nat} {a b : List EvP} (h : EvsR W (.slice p n c) (a ++ b)) : EvsR W (.slice p a.length c) a := by
  have := h.front a.length (by simp)
  rwa [List.take_left'] at this
  rfl

/-! ## events or nodes that are being lent: the box of the answer, the box of the list, the lists -/

structure LndE (T LT : TypeId) (w W : World) (wv av : Value) (es : List EvP) (mA : List AttrP) (prs : List (EvP × Value)) (us : List Value) : Prop where
  be : Below w.heap.size w W
  b0 : W.heap[w.heap.size]? = some (.cells #[.slice none 0 0, .slice none 0 0, .slice none 0 0] LT (0, 0))
  bx : W.heap[w.heap.size + 1]? = some (.cells #[.slice none 0 0, wv, av] LT (0, 0))
  a : W.ownsRow w.heap.size 36 1 av us.length us
  r : W.ownsRow w.heap.size T 4 wv prs.length (ecells prs)
  u : ∀ (k : Nat) (v : Value) (e : EvP), us[k]? = some v → es[k]? = some e → W.ownsRow w.heap.size 122 2 v (e.a ++ mA).length (attrsV (e.a ++ mA))
  rw : ∀ (k : Nat) (x : EvP × Value), prs[k]? = some x → (x.1.a = [] ∧ x.2 = .slice none 0 0) ∨ ∃ v, us[k]? = some v ∧ es[k]? = some x.1 ∧ x.2 = frontV v x.1.a.length
/-- the types stand apart -/
structure LndT (T LT : TypeId) : Prop where
  t0 : T ≠ 122
  t1 : T ≠ 36
  t2 : LT ≠ T
  t3 : LT ≠ 122
  t4 : LT ≠ 36
section
variable {T LT : TypeId} {w W W2 : World} {wv av : Value} {es : List EvP} {mA : List AttrP} {prs : List (EvP × Value)} {us : List Value}
theorem LndE.below (h : LndE T LT w W wv av es mA prs us) (hb : Below W.heap.size W W2) : LndE T LT w W2 wv av es mA prs us :=
  ⟨h.be.trans (hb.mono h.be.size), (hb.block _ (block_lt h.b0)).trans h.b0, (hb.block _ (block_lt h.bx)).trans h.bx, row_below h.a hb, row_below h.r hb, fun k v e h1 h2 => row_below (h.u k v e h1 h2) hb, h.rw⟩
theorem LndE.drew (h : LndE T LT w W wv av es mA prs us) : LndE T LT w W.drew wv av es mA prs us := ⟨⟨h.be.os, h.be.tape, h.be.output, h.be.size, h.be.block⟩, h.b0, h.bx, h.a, h.r, h.u, h.rw⟩
/-- a box of the element's type that is written into -/
theorem LndE.box {c : Nat} {cs cs2 : Array Value} (ht : LndT T LT) (h : LndE T LT w W wv av es mA prs us) (hc : W.heap[c]? = some (.cells cs T (0, 0))) (hlo : w.heap.size + 2 ≤ c) (hne : wv.ownBlock ≠ some c) (j : Just W W2 c cs2 T) : LndE T LT w W2 wv av es mA prs us :=
  ⟨h.be.trans (just_low j (by omega)), (j.other _ (by omega)).trans h.b0, (j.other _ (by omega)).trans h.bx, row_just h.a hc ht.t1 j.other, row_of_block h.r (fun g hg => j.other g (fun e => hne (by rw [hg, e]))), fun k v e h1 h2 => row_just (h.u k v e h1 h2) hc ht.t0 j.other, h.rw⟩
/-- one more list of attributes -/
theorem LndE.attr {u' v' : Value} {e : EvP} (ht : LndT T LT) (h : LndE T LT w W wv av es mA prs us) (hu : W.ownsRow w.heap.size 122 2 u' (e.a ++ mA).length (attrsV (e.a ++ mA))) (he : es[us.length]? = some e)
    (hg : (W.alloc (.cells #[u'] 36)).grownBy W2 av.ownBlock) (hv : W2.ownsRow w.heap.size 36 1 v' (us ++ [u']).length (us ++ [u'])) :
    LndE T LT w (W2.setCell ⟨w.heap.size + 1, 2, none⟩ v') wv v' es mA prs (us ++ [u']) := by
  have hax := h.a.alloc (.cells #[u'] 36)
  have bxa : (W.alloc (.cells #[u'] 36)).heap[w.heap.size + 1]? = _ := (Go.Lib.alloc_old _ _ _ (block_lt h.bx)).trans h.bx
  have b0a : (W.alloc (.cells #[u'] 36)).heap[w.heap.size]? = _ := (Go.Lib.alloc_old _ _ _ (block_lt h.b0)).trans h.b0
  have bx2 := grown_at hg bxa (row_ne hax bxa ht.t4)
  have b02 := grown_at hg b0a (row_ne hax b0a ht.t4)
  have j := just_put (j := 2) (cs2 := #[.slice none 0 0, wv, v']) bx2 v' (by simp)
  have str : ∀ a n xs, W.ownsRow w.heap.size 122 2 a n xs → (W2.setCell ⟨w.heap.size + 1, 2, none⟩ v').ownsRow w.heap.size 122 2 a n xs := fun a n xs hr =>
    row_just ((hr.alloc _).kept hg (rows_ne (hr.alloc _) hax (by decide))) bx2 ht.t3 j.other
  refine ⟨((h.be.alloc h.be.size _).grown hg (by have := h.be.size; simp; omega) (fun k hk => (hax.lt k hk).1)).trans (just_low j (by omega)), (j.other _ (by omega)).trans b02, j.at_, row_just hv bx2 ht.t4 j.other, row_just ((h.r.alloc _).kept hg (rows_ne (h.r.alloc _) hax ht.t1)) bx2 ht.t2 j.other, fun k v x h1 h2 => ?_, fun k x h1 => ?_⟩
  · by_cases hk : k < us.length
    · rw [List.getElem?_append_left hk] at h1
      exact str _ _ _ (h.u k v x h1 h2)
    · obtain rfl : k = us.length := by have := (List.getElem?_eq_some_iff.1 h1).1; simp at this; omega
      rw [List.getElem?_append_right (Nat.le_refl _), Nat.sub_self] at h1
      obtain rfl := Option.some.inj h1
      obtain rfl := Option.some.inj (he.symm.trans h2)
      exact str _ _ _ hu
  · rcases h.rw k x h1 with h3 | ⟨v, h3, h4, h5⟩
    · exact .inl h3
    · exact .inr ⟨v, by rw [List.getElem?_append_left (List.getElem?_eq_some_iff.1 h3).1]; exact h3, h4, h5⟩
/-- one more event -/
theorem LndE.ev {v' : Value} {x : EvP × Value} {X : Obj} (ht : LndT T LT) (h : LndE T LT w W wv av es mA prs us)
    (hx : (x.1.a = [] ∧ x.2 = .slice none 0 0) ∨ ∃ v, us[prs.length]? = some v ∧ es[prs.length]? = some x.1 ∧ x.2 = frontV v x.1.a.length)
    (hg : (W.alloc X).grownBy W2 wv.ownBlock) (hv : W2.ownsRow w.heap.size T 4 v' (prs ++ [x]).length (ecells (prs ++ [x]))) :
    LndE T LT w (W2.setCell ⟨w.heap.size + 1, 1, none⟩ v') v' av es mA (prs ++ [x]) us := by
  have hax := h.r.alloc X
  have bxa : (W.alloc X).heap[w.heap.size + 1]? = _ := (Go.Lib.alloc_old _ _ _ (block_lt h.bx)).trans h.bx
  have b0a : (W.alloc X).heap[w.heap.size]? = _ := (Go.Lib.alloc_old _ _ _ (block_lt h.b0)).trans h.b0
  have bx2 := grown_at hg bxa (row_ne hax bxa ht.t2)
  have b02 := grown_at hg b0a (row_ne hax b0a ht.t2)
  have j := just_put (j := 1) (cs2 := #[.slice none 0 0, v', av]) bx2 v' (by simp)
  have str : ∀ a n xs, W.ownsRow w.heap.size 122 2 a n xs → (W2.setCell ⟨w.heap.size + 1, 1, none⟩ v').ownsRow w.heap.size 122 2 a n xs := fun a n xs hr =>
    row_just ((hr.alloc _).kept hg (rows_ne (hr.alloc _) hax ht.t0.symm)) bx2 ht.t3 j.other
  refine ⟨((h.be.alloc h.be.size _).grown hg (by have := h.be.size; simp; omega) (fun k hk => (hax.lt k hk).1)).trans (just_low j (by omega)), (j.other _ (by omega)).trans b02, j.at_, row_just ((h.a.alloc _).kept hg (rows_ne (h.a.alloc _) hax ht.t1.symm)) bx2 ht.t4 j.other, row_just hv bx2 ht.t2 j.other, fun k v x h1 h2 => str _ _ _ (h.u k v x h1 h2), fun k y h1 => ?_⟩
  by_cases hk : k < prs.length
  · rw [List.getElem?_append_left hk] at h1
    exact h.rw k y h1
  · obtain rfl : k = prs.length := by have := (List.getElem?_eq_some_iff.1 h1).1; simp at this; omega
    rw [List.getElem?_append_right (Nat.le_refl _), Nat.sub_self] at h1
    obtain rfl := Option.some.inj h1
    exact hx
/-- what was lent can be read -/
theorem LndE.whole (h : LndE T LT w W wv av es mA prs us) : EvsR W wv (prs.map Prod.fst) := by
  refine evsR_row h.r (fun x hx => ?_)
  obtain ⟨k, hk⟩ := List.getElem?_of_mem hx
  rcases h.rw k x hk with ⟨h1, h2⟩ | ⟨v, h1, h2, h3⟩
  · rw [h1, h2]; exact AttrsR.nil W
  · rw [h3]; exact attrsR_front (h.u k v x.1 h1 h2)
theorem LndE.lists (h : LndE T LT w W wv av es mA prs us) (hl : us.length = es.length) : AlistsR W av (es.map fun e => e.a ++ mA) := by
  refine alistsR_row h.a (by rw [hl, List.length_map]) (fun k u l hu hk => ?_)
  rw [List.getElem?_map] at hk
  obtain ⟨e, he, rfl⟩ := Option.map_eq_some_iff.1 hk
  exact attrsR_row (h.u k u e hu he)
end
/-- events or nodes that were lent: the front, the whole, the lists of attributes -/
def LentE (W : World) (v : Value) (es more : List EvP) (mA : List AttrP) : Prop :=
  ∃ vf vw va, v = .agg #[vf, vw, va] ∧ EvsR W vf es ∧ EvsR W vw (es ++ more) ∧ AlistsR W va (es.map fun e => e.a ++ mA)
theorem LentE.below {W W' : World} {v : Value} {es more : List EvP} {mA : List AttrP} (h : LentE W v es more mA) (hb : Below W.heap.size W W') : LentE W' v es more mA := by
  obtain ⟨vf, vw, va, e, h1, h2, h3⟩ := h
  exact ⟨vf, vw, va, e, h1.below hb, h2.below hb, h3.below hb⟩
theorem three_put {W : World} {b : Nat} {T : TypeId} {a0 a1 a2 p0 p1 p2 : Value} (h : W.heap[b]? = some (.cells #[a0, a1, a2] T (0, 0))) :
    Just W (((W.setCell ⟨b, 0, none⟩ p0).setCell ⟨b, 1, none⟩ p1).setCell ⟨b, 2, none⟩ p2) b #[p0, p1, p2] T := by
  have h0 := just_put (j := 0) (cs2 := #[p0, a1, a2]) h p0 (by simp)
  have h1 := just_put (j := 1) (cs2 := #[p0, p1, a2]) h0.at_ p1 (by simp)
  have h2 := just_put (j := 2) (cs2 := #[p0, p1, p2]) h1.at_ p2 (by simp)
  exact (h0.andThen h1).andThen h2
/-- the lists alone -/
structure LndL (T : TypeId) (w W : World) (wv av : Value) (es : List EvP) (mA : List AttrP) (prs : List (EvP × Value)) (us : List Value) : Prop where
  a : W.ownsRow w.heap.size 36 1 av us.length us
  r : W.ownsRow w.heap.size T 4 wv prs.length (ecells prs)
  u : ∀ (k : Nat) (v : Value) (e : EvP), us[k]? = some v → es[k]? = some e → W.ownsRow w.heap.size 122 2 v (e.a ++ mA).length (attrsV (e.a ++ mA))
  rw : ∀ (k : Nat) (x : EvP × Value), prs[k]? = some x → (x.1.a = [] ∧ x.2 = .slice none 0 0) ∨ ∃ v, us[k]? = some v ∧ es[k]? = some x.1 ∧ x.2 = frontV v x.1.a.length
theorem LndE.lst {T LT : TypeId} {w W : World} {wv av : Value} {es : List EvP} {mA : List AttrP} {prs : List (EvP × Value)} {us : List Value} (h : LndE T LT w W wv av es mA prs us) : LndL T w W wv av es mA prs us := ⟨h.a, h.r, h.u, h.rw⟩
theorem LndL.just {T LT : TypeId} {w W W2 : World} {b : Nat} {cs cs2 : Array Value} {wv av : Value} {es : List EvP} {mA : List AttrP} {prs : List (EvP × Value)} {us : List Value} (ht : LndT T LT) (h : LndL T w W wv av es mA prs us) (hb : W.heap[b]? = some (.cells cs LT (0, 0))) (j : Just W W2 b cs2 LT) : LndL T w W2 wv av es mA prs us :=
  ⟨row_just h.a hb ht.t4 j.other, row_just h.r hb ht.t2 j.other, fun k v e h1 h2 => row_just (h.u k v e h1 h2) hb ht.t3 j.other, h.rw⟩
theorem LndL.lent {T : TypeId} {w W : World} {wp ap : Option Addr} {wn wc an ac : Nat} {es more : List EvP} {mA : List AttrP} {prs : List (EvP × Value)} {us : List Value} (h : LndL T w W (.slice wp wn wc) (.slice ap an ac) es mA prs us)
    (hp : prs.map Prod.fst = es ++ more) (hl : us.length = es.length) : LentE W (.agg #[.slice wp es.length wc, .slice wp wn wc, .slice ap an ac]) es more mA := by
  have hw : EvsR W (.slice wp wn wc) (prs.map Prod.fst) := by
    refine evsR_row h.r (fun x hx => ?_)
    obtain ⟨k, hk⟩ := List.getElem?_of_mem hx
    rcases h.rw k x hk with ⟨h1, h2⟩ | ⟨v, h1, h2, h3⟩
    · rw [h1, h2]; exact AttrsR.nil W
    · rw [h3]; exact attrsR_front (h.u k v x.1 h1 h2)
  rw [hp] at hw
  refine ⟨_, _, _, rfl, hw.front2, hw, alistsR_row h.a (by rw [hl, List.length_map]) (fun k u l hu hk => ?_)⟩
  rw [List.getElem?_map] at hk
  obtain ⟨e, he, rfl⟩ := Option.map_eq_some_iff.1 hk
  exact attrsR_row (h.u k u e hu he)
theorem EvsR.drewN {W : World} {v : Value} {l : List EvP} (h : EvsR W v l) (n : Nat) : EvsR (W.drewN n) v l := h
theorem AlistsR.drewN {W : World} {v : Value} {l : List (List AttrP)} (h : AlistsR W v l) (n : Nat) : AlistsR (W.drewN n) v l := h
end Go.Proofs.YtcncbhbdpcpkeaaGreatDoor
