/-
  Parts of the walk, joined: PolLink, LinkTwo, LinkIx, LinkAny, LinkCode, PolCodeD, PolCodeE, PolSame, PolKept, PolRefF, PolLaw, TabsK, PolOpen.
-/
import Derived.Test.YtndlihpjefobcaaDoorLend
import Derived.BigQuiet
import Derived.Test.YtndlihpjefobcaaDoorPolMem
import Derived.Test.YtndlihpjefobcaaDoorPolRefE
import Derived.Test.YtndlihpjefobcaaDoorPolCodeC
import Derived.Test.YtndlihpjefobcaaDoorLacksP
import Derived.Laws.RangeAny
import Derived.Laws.RangeString
import Derived.Lib.OthersKept
import Derived.Lib.QuoteLoop
import Derived.Lib.TrimU
import Derived.Shelf.Strings.IndexAny
import Derived.WalkMore
import Derived.Deep.QuietTactic
import Derived.BigCall
import Derived.Lib.RuneCountTail
import Derived.Shelf.Strings.IndexAnyAll
import Derived.Test.YtndlihpjefobcaaDoorSlW
import Derived.Test.YtndlihpjefobcaaDoorLower
import Derived.Test.YtndlihpjefobcaaDoorRows
import Derived.Test.YtndlihpjefobcaaDoorVoc
import Derived.Test.YtndlihpjefobcaaDoorPolRefB
import Derived.SliceStrings
import Derived.Deep.Strs
import Derived.Lib.LaidU8T
import Derived.Lib.LaidTab
import Derived.Lib.LaidU8
import Derived.OpenShut
import Derived.ChangeSame
import Derived.ChangeArms
import Derived.Test.YtndlihpjefobcaaDoorPolRefC
import Derived.Lib.SmallJoins
import Derived.Deep.SlicePairs
import Derived.ChangeMaps5
/-
  The statements' samePolicy: its walk, at policies that are the same.
-/
namespace Go.Proofs.YtndlihpjefobcaaDoor
open Go.RowKit Go.Lib Own

theorem cell_drewT {W0 wr : World} (hq : Hid (True → ∃ n, wr = W0.drewN n)) {b o : Nat} {v : Value} (h : W0.cell? ⟨b, o, none⟩ = some v) : wr.cell? ⟨b, o, none⟩ = some v := by
  obtain ⟨n, rfl⟩ := hq.out trivial
  exact h

theorem heap_two_new (W : World) (X : Obj) (cs : Array Value) (t : TypeId) : ((W.alloc X).alloc (.cells cs t)).heap[W.heap.size + 1]? = some (.cells cs t (0, 0)) := by
  have := heap_alloc_new (W.alloc X) (.cells cs t)
  simpa using this

set_option maxHeartbeats 4000000 in
set_option maxRecDepth 100000 in
theorem samePolicy_any (vr vs vd vr' vs' vd' : Value) (P : PolP) (w : World) (h1 : PolR w vr vs vd P) (h2 : PolR w vr' vs' vd' P) :
    Calls Tryd.prog 28 #[.agg (polC vr vs vd P), .agg (polC vr' vs' vd' P)] w fun e w' => e = .returned (.bool true) ∧ Below w.heap.size w w' := by
  obtain ⟨rp, rc, rfl, _, _, hr⟩ := h1.rules
  obtain ⟨rp', rc', rfl, _, _, hr'⟩ := h2.rules
  obtain ⟨sp, sc, rfl, _⟩ := h1.schemes.len
  obtain ⟨sp', sc', rfl, _⟩ := h2.schemes.len
  obtain ⟨dp, dc, rfl, _⟩ := h1.drop.len
  obtain ⟨dp', dc', rfl, _⟩ := h2.drop.len
  have hB : Below w.heap.size w ((w.alloc (.cells (polC (.slice rp P.rules.length rc) (.slice sp P.schemes.length sc) (.slice dp P.drop.length dc) P) 25)).alloc (.cells (polC (.slice rp' P.rules.length rc') (.slice sp' P.schemes.length sc') (.slice dp' P.drop.length dc') P) 25)) :=
    ((Below.refl w.heap.size w).alloc (Nat.le_refl _) _).alloc (by simp) _
  have b0 : ((w.alloc (.cells (polC (.slice rp P.rules.length rc) (.slice sp P.schemes.length sc) (.slice dp P.drop.length dc) P) 25)).alloc (.cells (polC (.slice rp' P.rules.length rc') (.slice sp' P.schemes.length sc') (.slice dp' P.drop.length dc') P) 25)).heap[w.heap.size]? = _ := (Go.Lib.alloc_old _ _ _ (by simp)).trans (heap_alloc_new w _)
  have b1 : ((w.alloc (.cells (polC (.slice rp P.rules.length rc) (.slice sp P.schemes.length sc) (.slice dp P.drop.length dc) P) 25)).alloc (.cells (polC (.slice rp' P.rules.length rc') (.slice sp' P.schemes.length sc') (.slice dp' P.drop.length dc') P) 25)).heap[w.heap.size + 1]? = _ := heap_two_new w _ _ _
  have HP1 := hid h1
  have HP2 := hid h2
  have HR1 := hid hr
  have HR2 := hid hr'
  clear h1 h2 hr hr'
  unfold polC at hB b0 b1 ⊢
  go_enter Tryd.func28, Tryd.ntmps28
  go_upto_region 1 with fail
  obtain ⟨W0, hW0⟩ : ∃ W0, ((w.alloc (.cells #[.slice rp P.rules.length rc, .slice sp P.schemes.length sc, .slice dp P.drop.length dc, .int .i64 P.depth, .int .i64 P.window] 25)).alloc (.cells #[.slice rp' P.rules.length rc', .slice sp' P.schemes.length sc', .slice dp' P.drop.length dc', .int .i64 P.depth, .int .i64 P.window] 25)) = W0 := ⟨_, rfl⟩
  rw [hW0] at hB b0 b1
  simp only [hW0]
  clear hW0
  obtain ⟨c0, c1, c2, c3, c4⟩ := polC_at (P := P) b0
  obtain ⟨d0, d1, d2, d3, d4⟩ := polC_at (P := P) b1
  have HC := hid (fun (_ : True) => And.intro c0 (And.intro c1 (And.intro c2 (And.intro d0 (And.intro d1 d2)))))
  have HB := hid hB
  have q0 : ((P.rules.length : Int) != (P.rules.length : Int)) = false := by simp
  have q1 : ((P.depth : Int) != P.depth) = false := by simp
  have q2 : ((P.window : Int) != P.window) = false := by simp
  clear hB b0 b1
  go_wp2
  clear c0 c1 c2 c3 c4 d0 d1 d2 d3 d4 q0 q1 q2
  go_loopw [5, 30] (fun _ iv wr => ∃ k : Nat, iv = .int .i64 k ∧ k ≤ P.rules.length ∧ Hid (True → ∃ n, wr = W0.drewN n)) (fun _ iv _ => P.rules.length - (RowKit.intOf iv).toNat)
  case atStart => exact ⟨0, rfl, Nat.zero_le _, hid fun _ => ⟨0, rfl⟩⟩
  case round =>
    obtain ⟨k, rfl, hk, HQ⟩ := hrel
    obtain ⟨c0, c1, c2, d0, d1, d2⟩ := HC.out trivial
    replace c0 := cell_drewT HQ c0
    replace c1 := cell_drewT HQ c1
    replace c2 := cell_drewT HQ c2
    replace d0 := cell_drewT HQ d0
    replace d1 := cell_drewT HQ d1
    replace d2 := cell_drewT HQ d2
    by_cases hkl : k < P.rules.length
    · obtain ⟨r, hr⟩ : ∃ r, P.rules[k]? = some r := ⟨_, List.getElem?_eq_getElem hkl⟩
      obtain ⟨b, o, u, rfl, e1, e2, e3⟩ := HR1.out k r hr
      obtain ⟨b', o', u', rfl, f1, f2, f3⟩ := HR2.out k r hr
      obtain ⟨p3, n3, rfl, _⟩ := e3.len
      obtain ⟨p4, n4, rfl, _⟩ := f3.len
      have hsame := fun n => sameTexts_any (.slice p3 r.2.length n3) (.slice p4 r.2.length n4) r.2 (wr.drewN n) (by obtain ⟨n', rfl⟩ := HQ.out trivial; exact ((e3.below HB.out).drewN _).drewN _) (by obtain ⟨n', rfl⟩ := HQ.out trivial; exact ((f3.below HB.out).drewN _).drewN _)
      have HS := hid hsame
      replace e1 := cell_drewT HQ (cell_kept e1 HB.out)
      replace e2 := cell_drewT HQ (cell_kept e2 HB.out)
      replace f1 := cell_drewT HQ (cell_kept f1 HB.out)
      replace f2 := cell_drewT HQ (cell_kept f2 HB.out)
      obtain ⟨S, hS⟩ : ∃ S, bs r.1 = S := ⟨_, rfl⟩
      rw [hS] at e1 f1
      clear hsame hr hS e3 f3 c1 c2 d1 d2
      go_wp2_with fail
      go_quiet (first | (go_at_call 27; refine Calls.quiet_of (HS.out _)))
      go_wp2
      go_roundw
      case rel =>
        obtain ⟨n, hn⟩ := HQ.out trivial
        exact ⟨k + 1, rfl, by omega, hid (fun _ => ⟨n + nq, by rw [hn]; simp⟩)⟩
      case measure => simp [RowKit.intOf]; omega
    · have hs1 := fun n => sameTexts_any (.slice sp P.schemes.length sc) (.slice sp' P.schemes.length sc') P.schemes (wr.drewN n) (by obtain ⟨n', rfl⟩ := HQ.out trivial; exact ((HP1.out.schemes.below HB.out).drewN _).drewN _) (by obtain ⟨n', rfl⟩ := HQ.out trivial; exact ((HP2.out.schemes.below HB.out).drewN _).drewN _)
      have hs2 := fun n => sameTexts_any (.slice dp P.drop.length dc) (.slice dp' P.drop.length dc') P.drop (wr.drewN n) (by obtain ⟨n', rfl⟩ := HQ.out trivial; exact ((HP1.out.drop.below HB.out).drewN _).drewN _) (by obtain ⟨n', rfl⟩ := HQ.out trivial; exact ((HP2.out.drop.below HB.out).drewN _).drewN _)
      have HS1 := hid hs1
      have HS2 := hid hs2
      clear hs1 hs2
      go_wp2_with fail
      refine (HS1.out 0).mono ?_
      rintro e w9 ⟨rfl, n9, rfl⟩
      go_wp2_with fail
      refine (HS2.out _).mono ?_
      rintro e w10 ⟨rfl, n10, rfl⟩
      go_wp2_with fail
      go_ret
      exact ⟨rfl, by obtain ⟨n, rfl⟩ := HQ.out trivial; exact ⟨HB.out.os, HB.out.tape, HB.out.output, HB.out.size, HB.out.block⟩⟩
end Go.Proofs.YtndlihpjefobcaaDoor

/-
  The statements' keptPolicy: its walk, at a policy that is as it was lent.
-/
namespace Go.Proofs.YtndlihpjefobcaaDoor
open Go.RowKit Go.Lib Own

theorem RulesR.shape {W : World} {v : Value} {rs : List RuleP} (h : RulesR W v rs) : ∃ p n c, v = .slice p n c := by
  obtain ⟨p, c, e, _⟩ := h
  exact ⟨p, _, c, e⟩
theorem Words.shape {W : World} {v : Value} {ss : List (List UInt8)} (h : Words W v ss) : ∃ p n c, v = .slice p n c := by
  obtain ⟨p, c, e, _⟩ := h
  exact ⟨p, _, c, e⟩

set_option maxHeartbeats 4000000 in
set_option maxRecDepth 100000 in
theorem keptPolicy_any (v vr vs vd mv : Value) (P : PolP) (ms : List (List UInt8)) (w : World) (hl : LentR w v P ms) (h : PolR w vr vs vd P) (hF : P.Few) (hM : Words w mv ms) (hm : ms.length ≤ 2000000) :
    Calls Tryd.prog 9 #[v, .agg (polC vr vs vd P), mv] w fun e w' => e = .returned (.bool true) ∧ Below w.heap.size w w' := by
  obtain ⟨ar, as_, ad, aR, aA, aS, aD, rfl, l1, l2, l3, l4, l5⟩ := hl
  obtain ⟨aAp, aAc, rfl, _, _, l6⟩ := l3
  obtain ⟨aR1, aR2, aR3, rfl⟩ := l2.shape
  obtain ⟨aS1, aS2, aS3, rfl⟩ := l4.shape
  obtain ⟨aD1, aD2, aD3, rfl⟩ := l5.shape
  rw [List.length_map]
  obtain ⟨W0, hW0⟩ : ∃ W0, ((w.alloc (.cells #[ar, as_, ad, .int .i64 P.depth, .int .i64 P.window, .slice aR1 aR2 aR3, .slice aAp P.rules.length aAc, .slice aS1 aS2 aS3, .slice aD1 aD2 aD3] 31)).alloc (.cells (polC vr vs vd P) 25)) = W0 := ⟨_, rfl⟩
  have hB : Below w.heap.size w W0 := by
    rw [← hW0]
    exact ((Below.refl w.heap.size w).alloc (Nat.le_refl _) _).alloc (by simp) _
  have b0 : W0.heap[w.heap.size]? = some (.cells #[ar, as_, ad, .int .i64 P.depth, .int .i64 P.window, .slice aR1 aR2 aR3, .slice aAp P.rules.length aAc, .slice aS1 aS2 aS3, .slice aD1 aD2 aD3] 31 (0, 0)) := by
    rw [← hW0]
    exact (Go.Lib.alloc_old _ _ _ (by simp)).trans (heap_alloc_new w _)
  have b1 : W0.heap[w.heap.size + 1]? = some (.cells (polC vr vs vd P) 25 (0, 0)) := by
    rw [← hW0]
    exact heap_two_new w _ _ _
  have hfr := hF.rules
  have hlend := lendPolicy_any vr vs vd mv P ms W0 (h.below hB) hF (hM.below hB) hm
  have HL := hid hlend
  have HB := hid (And.intro hB b0)
  have HM := hid (And.intro l2 (And.intro l6 (And.intro l4 l5)))
  obtain ⟨c0, c1, c2, c3, c4⟩ := polC_at (P := P) b1
  obtain ⟨mp, mc, rfl, _⟩ := hM.len
  clear hlend h hF hM l1 l2 l6 l4 l5 hB b0 b1
  unfold polC at hW0 HL ⊢
  go_enter Tryd.func9, Tryd.ntmps9
  go_upto_region 1 with fail
  clear hW0
  go_wp2_with fail
  refine HL.out.mono ?_
  rintro e w1 ⟨v', rfl, hl', hb1⟩
  obtain ⟨br, bs_, bd, bR, bA, bS, bD, rfl, l1, l2, l3, l4, l5⟩ := hl'
  obtain ⟨bAp, bAc, rfl, _, _, l6⟩ := l3
  obtain ⟨bR1, bR2, bR3, rfl⟩ := l2.shape
  obtain ⟨bS1, bS2, bS3, rfl⟩ := l4.shape
  obtain ⟨bD1, bD2, bD3, rfl⟩ := l5.shape
  obtain ⟨b01, b02, b03, rfl⟩ := l1.rules.shape
  obtain ⟨b11, b12, b13, rfl⟩ := l1.schemes.shape
  obtain ⟨b21, b22, b23, rfl⟩ := l1.drop.shape
  have HL2 := hid (And.intro l2 (And.intro l6 (And.intro l4 l5)))
  clear l1 l2 l6 l4 l5
  rw [List.length_map]
  go_upto_region 2 with fail
  have hB0 := HB.out.1
  have hb2 : Below w.heap.size w (w1.alloc (.cells #[.slice b01 b02 b03, .slice b11 b12 b13, .slice b21 b22 b23, .int .i64 P.depth, .int .i64 P.window, .slice bR1 bR2 bR3, .slice bAp P.rules.length bAc, .slice bS1 bS2 bS3, .slice bD1 bD2 bD3] 31)) := (hB0.trans (hb1.mono hB0.size)).alloc (Nat.le_trans hB0.size hb1.size) _
  have ha2 := (Go.Lib.alloc_old w1 (.cells #[.slice b01 b02 b03, .slice b11 b12 b13, .slice b21 b22 b23, .int .i64 P.depth, .int .i64 P.window, .slice bR1 bR2 bR3, .slice bAp P.rules.length bAc, .slice bS1 bS2 bS3, .slice bD1 bD2 bD3] 31) w.heap.size (Nat.lt_of_lt_of_le (block_lt HB.out.2) hb1.size)).trans ((hb1.block _ (block_lt HB.out.2)).trans HB.out.2)
  have hc2 := heap_alloc_new w1 (.cells #[.slice b01 b02 b03, .slice b11 b12 b13, .slice b21 b22 b23, .int .i64 P.depth, .int .i64 P.window, .slice bR1 bR2 bR3, .slice bAp P.rules.length bAc, .slice bS1 bS2 bS3, .slice bD1 bD2 bD3] 31)
  have hu2 : Below w1.heap.size w1 (w1.alloc (.cells #[.slice b01 b02 b03, .slice b11 b12 b13, .slice b21 b22 b23, .int .i64 P.depth, .int .i64 P.window, .slice bR1 bR2 bR3, .slice bAp P.rules.length bAc, .slice bS1 bS2 bS3, .slice bD1 bD2 bD3] 31)) := (Below.refl _ _).alloc (Nat.le_refl _) _
  have HB2 := hid hb2
  have HU2 := hid hu2
  obtain ⟨W2, hW2⟩ : ∃ W2, w1.alloc (.cells #[.slice b01 b02 b03, .slice b11 b12 b13, .slice b21 b22 b23, .int .i64 P.depth, .int .i64 P.window, .slice bR1 bR2 bR3, .slice bAp P.rules.length bAc, .slice bS1 bS2 bS3, .slice bD1 bD2 bD3] 31) = W2 := ⟨_, rfl⟩
  simp only [hW2] at HB2 HU2 ha2 hc2 ⊢
  obtain ⟨z0, z1, z2, z3, z4, z5, z6, z7, z8, -⟩ := lp_cells ha2
  obtain ⟨x0, x1, x2, x3, x4, x5, x6, x7, x8, -⟩ := lp_cells hc2
  have HC := hid (fun (_ : True) => And.intro z5 (And.intro z6 (And.intro z7 (And.intro z8 (And.intro x5 (And.intro x6 (And.intro x7 x8)))))))
  clear hB0 hb2 ha2 hc2 hu2 hW2 hb1 HB HL z0 z1 z2 z3 z4 z5 z7 z8 x0 x1 x2 x3 x4 x5 x6 x7 x8
  go_wp2
  clear z6
  go_loopw [8, 16] (fun _ iv wr => ∃ k : Nat, iv = .int .i64 k ∧ k ≤ P.rules.length ∧ Hid (True → ∃ n, wr = W2.drewN n)) (fun _ iv _ => P.rules.length - (RowKit.intOf iv).toNat)
  case atStart => exact ⟨0, rfl, Nat.zero_le _, hid fun _ => ⟨0, rfl⟩⟩
  case round =>
    obtain ⟨k, rfl, hk, HQ⟩ := hrel
    obtain ⟨z5, z6, z7, z8, x5, x6, x7, x8⟩ := HC.out trivial
    replace z5 := cell_drewT HQ z5
    replace z6 := cell_drewT HQ z6
    replace z7 := cell_drewT HQ z7
    replace z8 := cell_drewT HQ z8
    replace x5 := cell_drewT HQ x5
    replace x6 := cell_drewT HQ x6
    replace x7 := cell_drewT HQ x7
    replace x8 := cell_drewT HQ x8
    by_cases hkl : k < P.rules.length
    · obtain ⟨r, hr⟩ : ∃ r, P.rules[k]? = some r := ⟨_, List.getElem?_eq_getElem hkl⟩
      obtain ⟨b, o, u, rfl, e1, e3⟩ := HM.out.2.1 k (r.2 ++ ms) (by rw [List.getElem?_map, hr]; rfl)
      obtain ⟨b', o', u', rfl, f1, f3⟩ := HL2.out.2.1 k (r.2 ++ ms) (by rw [List.getElem?_map, hr]; rfl)
      obtain ⟨p3, n3, m3, rfl⟩ := e3.shape
      obtain ⟨p4, n4, m4, rfl⟩ := f3.shape
      have hsame := fun n => sameTexts_any (.slice p3 n3 m3) (.slice p4 n4 m4) (r.2 ++ ms) (wr.drewN n) (by obtain ⟨n', rfl⟩ := HQ.out trivial; exact ((e3.below HB2.out).drewN _).drewN _) (by obtain ⟨n', rfl⟩ := HQ.out trivial; exact ((f3.below HU2.out).drewN _).drewN _)
      have HS := hid hsame
      replace e1 := cell_drewT HQ (cell_kept e1 HB2.out)
      replace f1 := cell_drewT HQ (cell_kept f1 HU2.out)
      clear hsame hr e3 f3 z5 z7 z8 x5 x7 x8
      go_wp2_with fail
      go_quiet (first | (go_at_call 27; refine Calls.quiet_of (HS.out _)))
      go_wp2
      go_roundw
      case rel =>
        obtain ⟨n, hn⟩ := HQ.out trivial
        exact ⟨k + 1, rfl, by omega, hid (fun _ => ⟨n + nq, by rw [hn]; simp⟩)⟩
      case measure => simp [RowKit.intOf]; omega
    · have hxl := cell_block x5
      have hzl := cell_block z5
      have hsame := fun W (hW : Below W2.heap.size W2 W) => samePolicy_any (.slice aR1 aR2 aR3) (.slice aS1 aS2 aS3) (.slice aD1 aD2 aD3) (.slice bR1 bR2 bR3) (.slice bS1 bS2 bS3) (.slice bD1 bD2 bD3) ⟨P.rules ++ ms.map fun s => (s, []), P.schemes ++ ms, P.drop ++ ms, 0, 0⟩ W ⟨(HM.out.1.below HB2.out).below hW, (HM.out.2.2.1.below HB2.out).below hW, (HM.out.2.2.2.below HB2.out).below hW⟩ ⟨(HL2.out.1.below HU2.out).below hW, (HL2.out.2.2.1.below HU2.out).below hW, (HL2.out.2.2.2.below HU2.out).below hW⟩
      have HS := hid hsame
      clear hsame z6 x6
      go_wp2_with fail
      have hW : Below W2.heap.size W2 (wr.alloc (.cells #[.slice aR1 aR2 aR3, .slice aS1 aS2 aS3, .slice aD1 aD2 aD3, .int .i64 0, .int .i64 0] 25)) := by
        obtain ⟨n, rfl⟩ := HQ.out trivial
        have h0 : Below W2.heap.size W2 (W2.drewN n) := ⟨rfl, rfl, rfl, Nat.le_refl _, fun _ _ => rfl⟩
        exact h0.alloc (Nat.le_refl _) _
      refine (HS.out _ hW).mono ?_
      rintro e w9 ⟨rfl, hb9⟩
      have HB9 := hid (HB2.out.trans ((hW.trans (hb9.mono (by exact hW.size))).mono HB2.out.size))
      clear hW hb9
      go_wp2_with fail
      go_ret
      exact ⟨rfl, HB9.out⟩
end Go.Proofs.YtndlihpjefobcaaDoor

/-
  The reference's CleanURL: its walk.
-/
namespace Go.Proofs.YtndlihpjefobcaaDoor
open Go.RowKit Go.Lib Own

def seenB (c : UInt8) : Bool := decide (31 < (c.toNat : Int)) && ((c.toNat : Int) != 127)
def rtrim (L : List UInt8) : List UInt8 := (L.reverse.dropWhile fun c => c == 32).reverse
theorem rtrim_sp (L : List UInt8) : rtrim (L ++ [32]) = rtrim L := by
  unfold rtrim
  rw [List.reverse_append]
  rfl
theorem rtrim_ne (L : List UInt8) (c : UInt8) (h : c ≠ 32) : rtrim (L ++ [c]) = L ++ [c] := by
  unfold rtrim
  rw [List.reverse_append]
  show (List.dropWhile (fun c => c == 32) (c :: L.reverse)).reverse = _
  rw [List.dropWhile_cons, if_neg (by simpa using h)]
  simp
/-- a link that is stripped -/
def stripL (v : List UInt8) : List UInt8 := rtrim ((v.filter seenB).drop ((v.filter seenB).takeWhile [32].contains).length)
def markT : List UInt8 := [58, 47, 63, 35]
/-- a stripped link, and whether it may stay -/
def linkL (schemes : List (List UInt8)) (v : List UInt8) : List UInt8 × Bool :=
  if (stripL v)[((stripL v).takeWhile fun c => !markT.contains c).length]? = some 58 ∧ schemes.contains (((stripL v).take ((stripL v).takeWhile fun c => !markT.contains c).length).map lowC) = false then ([], false) else (stripL v, true)

theorem filter_step {p : UInt8 → Bool} {l : List UInt8} {k : Nat} {x : UInt8} (h : l[k]? = some x) : (l.take (k + 1)).filter p = (l.take k).filter p ++ (if p x = true then [x] else []) := by
  rw [List.take_add_one, h, List.filter_append]
  congr 1
  show List.filter p [x] = _
  rw [List.filter_cons, List.filter_nil]
theorem extract_list (s : ByteArray) (i j : Nat) : (s.extract i j).data.toList = (s.data.toList.drop i).take (j - i) := by
  rw [ByteArray.data_extract, Array.toList_extract]
theorem while_len {p : UInt8 → Bool} (l : List UInt8) : (l.takeWhile p).length ≤ l.length := by
  induction l with
  | nil => simp
  | cons a l ih =>
    rw [List.takeWhile_cons]
    split
    · simp; omega
    · simp

set_option maxHeartbeats 4000000 in
set_option maxRecDepth 100000 in
theorem refClean_any (sv : Value) (schemes : List (List UInt8)) (v : ByteArray) (w : World) (h : Words w sv schemes) (hl : schemes.length ≤ 2000000) (hv : v.size ≤ 4000000) :
    Calls Tryd.prog 5 #[sv, .string v] w fun e w' => e = .returned (.tuple #[.string (bs (linkL schemes v.data.toList).1), .bool (linkL schemes v.data.toList).2]) ∧ Below w.heap.size w w' := by
  obtain ⟨i0, hi, hz0, hz1, hz2⟩ := info_parts info_u8
  obtain ⟨R, hR⟩ : ∃ R, linkL schemes v.data.toList = R := ⟨_, rfl⟩
  rw [hR]
  have HR := hid (fun (_ : True) => hR)
  have HW := hid h
  obtain ⟨sp, sc, rfl, _⟩ := h.len
  clear h hR
  go_enter Tryd.func5, Tryd.ntmps5
  go_wp2
  go_loopw [6, 7] (fun bv iv wr => ∃ k : Nat, iv = .int .i64 k ∧ k ≤ v.size ∧ Below w.heap.size w wr ∧ Hid (wr.ownsRow w.heap.size 5 1 bv ((v.data.toList.take k).filter seenB).length (byteCells ((v.data.toList.take k).filter seenB))) ∧ ((v.data.toList.take k).filter seenB).length ≤ k) (fun _ iv _ => v.size - (RowKit.intOf iv).toNat)
  case atStart => exact ⟨0, rfl, Nat.zero_le _, Below.refl _ _, World.ownsRow_nil _ _ _ _, by simp⟩
  case round =>
    obtain ⟨k, rfl, hk, hbw, HO, hlz⟩ := hrel
    by_cases hp : k < v.size
    · obtain ⟨x, hx⟩ : ∃ x, v[k]'hp = x := ⟨_, rfl⟩
      have hxl := getElem_list hp hx
      have hst := filter_step (p := seenB) hxl
      obtain ⟨acc, hacc⟩ : ∃ acc, (v.data.toList.take k).filter seenB = acc := ⟨_, rfl⟩
      rw [hacc] at HO hst hlz
      have hbs := hbw.size
      have hown := HO.out
      obtain ⟨bp, bc, rfl⟩ := row_shape hown
      have hx0 := x.toNat_lt
      have hsb : seenB x = (decide (31 < (x.toNat : Int)) && ((x.toNat : Int) != 127)) := rfl
      by_cases q1 : 31 < (x.toNat : Int)
      case' pos => obtain ⟨q2, hq2⟩ : ∃ q2, ((x.toNat : Int) != 127) = q2 := ⟨_, rfl⟩
      case' pos => cases q2
      case' neg => have hs2 : seenB x = false := by rw [hsb, decide_eq_false q1, Bool.false_and]
      case' pos.false => have hs2 : seenB x = false := by rw [hsb, hq2, Bool.and_false]
      case neg | pos.false =>
        rw [hs2, if_neg (by decide), List.append_nil] at hst
        have HST := hid (fun (_ : True) => hst)
        clear hxl hst hacc hown hsb hs2
        go_wp2
        go_roundw
        case rel =>
          have hl2 : ((v.data.toList.take (k + 1)).filter seenB).length ≤ k + 1 := by rw [HST.out trivial]; omega
          have HO2 : Hid (wr.ownsRow w.heap.size 5 1 (.slice bp acc.length bc) ((v.data.toList.take (k + 1)).filter seenB).length (byteCells ((v.data.toList.take (k + 1)).filter seenB))) := by rw [HST.out trivial]; exact HO.out
          exact ⟨k + 1, rfl, by omega, hbw, HO2, hl2⟩
        case measure => simp [RowKit.intOf]; omega
      case pos.true =>
        have hs2 : seenB x = true := by rw [hsb, hq2, decide_eq_true q1]; rfl
        rw [hs2, if_pos rfl] at hst
        have HST := hid (fun (_ : True) => hst)
        have hA1 := hid (cells_len [x])
        have hA2 := hid (cells_new [x])
        have hA3 := hid (byteCells_one [x])
        clear hxl hst hacc hsb hs2
        go_wp2_with (at_builtin; refine wpList_append_own _ rfl (.tmp 29) (.tmp 33) 36 rfl w.heap.size 5 i0 (.int .u8 0) 1 1 Tryd.underlying36 hi hz0 hz1 hz2 rfl (by decide) _ _ _ rfl (hown.alloc _) ⟨_, 0, none⟩ 1 1 (byteCells [x]) rfl hA1.out (by have := hA2.out wr; exact this) hA3.out (by unfold maxLen; omega) (by omega) (by simp; omega) ?_)
        intro v' w2 hown2 hgrow _
        have hlt := hown.lt
        have hbw2 := (hbw.alloc hbs _).grown hgrow (by simp; omega) (fun k hk => (hlt k hk).1)
        have hown3 := hid (own_cat (a := acc) (L := [x]) hown2)
        clear hown2 hgrow hbw hown hlt hbs HO
        go_wp2
        go_roundw
        case rel =>
          have hl2 : ((v.data.toList.take (k + 1)).filter seenB).length ≤ k + 1 := by rw [HST.out trivial, List.length_append, List.length_singleton]; omega
          have HO2 : Hid (w2.ownsRow w.heap.size 5 1 v' ((v.data.toList.take (k + 1)).filter seenB).length (byteCells ((v.data.toList.take (k + 1)).filter seenB))) := by rw [HST.out trivial]; exact hown3.out
          exact ⟨k + 1, rfl, by omega, hbw2, HO2, hl2⟩
        case measure => simp [RowKit.intOf]; omega
    · have hk1 : k = v.size := by omega
      subst hk1
      obtain ⟨F, hF⟩ : ∃ F, v.data.toList.filter seenB = F := ⟨_, rfl⟩
      have hall : v.data.toList.take v.size = v.data.toList := List.take_of_length_le (by rw [← size_eq]; omega)
      rw [hall, hF] at HO hlz
      have ht := own_text wr _ _ F HO.out
      obtain ⟨S, hS⟩ : ∃ S : ByteArray, (⟨F.toArray⟩ : ByteArray) = S := ⟨_, rfl⟩
      have hSF : S.data.toList = F := by rw [← hS]
      have hSz : S.size = F.length := by rw [size_eq, hSF]
      rw [hS] at ht
      have hpa := fun W => past_any S 0 (bs [32]) W (Nat.zero_le _) (by omega) (by rw [bs_size]; decide)
      rw [bs_data, List.drop_zero, Nat.zero_add, hSF] at hpa
      have hwl := while_len (p := [32].contains) F
      obtain ⟨fr, hfr⟩ : ∃ fr, (F.takeWhile [32].contains).length = fr := ⟨_, rfl⟩
      rw [hfr] at hpa hwl
      have hstr : stripL v.data.toList = rtrim (F.drop fr) := by unfold stripL; rw [hF, hfr]
      have HSTR := hid (fun (_ : True) => hstr)
      have HPA := hid hpa
      unfold bs at HPA
      have HSF := hid (And.intro hSF hSz)
      obtain ⟨bp, bc, rfl⟩ := row_shape HO.out
      have hrow := hid (row_shape HO.out)
      clear hall hpa hfr hstr hF hS hSF HO
      rw [← hSz] at hwl hlz
      go_wp2_with (go_at_call 11; refine (HPA.out _).mono ?_; rintro e w2 ⟨rfl, rfl⟩)
      go_loopw [10] (fun iv wr2 => ∃ m : Nat, iv = .int .i64 (fr + m : Nat) ∧ fr + m ≤ S.size ∧ wr2 = w2 ∧ Hid (True → rtrim ((F.drop fr).take m) = rtrim (F.drop fr))) (fun iv _ => (RowKit.intOf iv).toNat)
      case atStart => exact ⟨S.size - fr, by congr 1; omega, by omega, rfl, hid (fun _ => by rw [List.take_of_length_le (by rw [List.length_drop, ← HSF.out.2]; omega)])⟩
      case round =>
        obtain ⟨m, rfl, hm, rfl, HK⟩ := hrel
        by_cases hgo : ∃ j, m = j + 1 ∧ F[fr + j]? = some 32
        · obtain ⟨j, rfl, hf⟩ := hgo
          have hp2 : fr + j < S.size := by omega
          obtain ⟨x, hx⟩ : ∃ x, S[fr + j]'hp2 = x := ⟨_, rfl⟩
          have hxl := getElem_list hp2 hx
          rw [HSF.out.1, hf] at hxl
          obtain rfl : (32 : UInt8) = x := Option.some.inj hxl
          have hs := HK.out trivial
          rw [List.take_add_one, List.getElem?_drop, hf] at hs
          have HS := hid (fun (_ : True) => ((rtrim_sp _).symm.trans hs : rtrim ((F.drop fr).take j) = rtrim (F.drop fr)))
          clear hs hf hxl HK
          go_wp2
          go_roundw
          case rel => exact ⟨j, by congr 1; omega, by omega, by first | rfl | trivial, HS⟩
          case measure => simp [RowKit.intOf]; omega
        · cases m with
          | zero =>
            have hend : rtrim ((F.drop fr).take 0) = (F.drop fr).take 0 := rfl
            have hTl : (S.extract fr (fr + 0)).data.toList = stripL v.data.toList := by
              rw [HSTR.out trivial, extract_list, HSF.out.1, Nat.add_sub_cancel_left, ← HK.out trivial, hend]
            obtain ⟨T, hT⟩ : ∃ T, S.extract fr (fr + 0) = T := ⟨_, rfl⟩
            rw [hT] at hTl
            have hTz : T.size ≤ S.size := by rw [← hT, ByteArray.size_extract]; omega
            have hun := fun W => until_any T 0 (bs markT) W (Nat.zero_le _) (by omega) (by rw [bs_size]; decide)
            rw [bs_data, List.drop_zero, Nat.zero_add, hTl] at hun
            obtain ⟨at_, hat⟩ : ∃ at_, ((stripL v.data.toList).takeWhile fun c => !markT.contains c).length = at_ := ⟨_, rfl⟩
            rw [hat] at hun
            have HUN := hid hun
            unfold bs markT at HUN
            have HTL := hid (And.intro hTl hat)
            clear hun hat hTl HK
            rw [Nat.add_zero] at hT
            clear hgo hend
            have hTe : T = ByteArray.empty := by rw [← hT]; simp
            subst hTe
            have hst0 : stripL v.data.toList = [] := by rw [← HTL.out.1]; rfl
            have hat0 : at_ = 0 := by rw [← HTL.out.2, hst0]; rfl
            subst hat0
            have hlk : linkL schemes v.data.toList = ([], true) := by
              unfold linkL
              rw [hst0]
              rfl
            have HLK := hid (fun (_ : True) => (HR.out trivial).symm.trans hlk)
            have HB := hid hbw
            clear hst0 hlk hT hTz hbw
            have hgt : ¬ ((fr : Int) < (fr : Int)) := by omega
            go_wp2_with (go_at_call 12; refine (HUN.out _).mono ?_; rintro e w3 ⟨rfl, rfl⟩)
            go_ret2
            exact ⟨by rw [HLK.out trivial]; rfl, HB.out⟩
          | succ j =>
            have hp2 : fr + j < S.size := by omega
            obtain ⟨x, hx⟩ : ∃ x, S[fr + j]'hp2 = x := ⟨_, rfl⟩
            have hxl := getElem_list hp2 hx
            rw [HSF.out.1] at hxl
            have hx32 : x ≠ 32 := fun e => hgo ⟨j, rfl, by rw [hxl, e]⟩
            have q3 : ((x.toNat : Int) == 32) = false := by
              rw [beq_eq_false_iff_ne]
              intro e
              exact hx32 (UInt8.toNat_inj.1 (by rw [show (32 : UInt8).toNat = 32 from rfl]; omega))
            have hend : rtrim ((F.drop fr).take (j + 1)) = (F.drop fr).take (j + 1) := by
              rw [List.take_add_one, List.getElem?_drop, hxl]
              exact rtrim_ne _ x hx32
            have hTl : (S.extract fr (fr + (j + 1))).data.toList = stripL v.data.toList := by
              rw [HSTR.out trivial, extract_list, HSF.out.1, Nat.add_sub_cancel_left, ← HK.out trivial, hend]
            obtain ⟨T, hT⟩ : ∃ T, S.extract fr (fr + (j + 1)) = T := ⟨_, rfl⟩
            rw [hT] at hTl
            have hTz : T.size ≤ S.size := by rw [← hT, ByteArray.size_extract]; omega
            have hun := fun W => until_any T 0 (bs markT) W (Nat.zero_le _) (by omega) (by rw [bs_size]; decide)
            rw [bs_data, List.drop_zero, Nat.zero_add, hTl] at hun
            obtain ⟨at_, hat⟩ : ∃ at_, ((stripL v.data.toList).takeWhile fun c => !markT.contains c).length = at_ := ⟨_, rfl⟩
            rw [hat] at hun
            have HUN := hid hun
            unfold bs markT at HUN
            have HTL := hid (And.intro hTl hat)
            clear hun hat hTl HK
            clear hend hxl hx32
            have HB := hid hbw
            obtain ⟨L, hL⟩ : ∃ L, stripL v.data.toList = L := ⟨_, rfl⟩
            have hTL : T.data.toList = L := by rw [HTL.out.1, hL]
            have hat2 : (L.takeWhile fun c => !markT.contains c).length = at_ := by rw [← hL]; exact HTL.out.2
            have hTs : T.size = L.length := by rw [size_eq, hTL]
            have hTbs : T = bs L := by rw [← hTL]; rfl
            have hlk : linkL schemes v.data.toList = if L[at_]? = some 58 ∧ schemes.contains ((L.take at_).map lowC) = false then ([], false) else (L, true) := by
              unfold linkL
              rw [hL, hat2]
            rw [HR.out trivial] at hlk
            have HLK := hid (fun (_ : True) => hlk)
            have HTB := hid (fun (_ : True) => hTbs)
            have hale : at_ ≤ L.length := by rw [← hat2]; exact while_len L
            clear hL hat2 hlk hTbs hbw
            by_cases hal : at_ < T.size
            · obtain ⟨y, hy⟩ : ∃ y, T[at_]'hal = y := ⟨_, rfl⟩
              have hyl := getElem_list hal hy
              rw [hTL] at hyl
              by_cases hy58 : y = 58
              · subst hy58
                have hsl : (T.extract 0 at_).data.toList = L.take at_ := by rw [extract_list, hTL, List.drop_zero, Nat.sub_zero]
                have hlow := fun W => lowered_any (T.extract 0 at_) W (by rw [ByteArray.size_extract]; omega)
                rw [hsl] at hlow
                obtain ⟨X, hX⟩ : ∃ X, (L.take at_).map lowC = X := ⟨_, rfl⟩
                rw [hX] at hlow
                have hho := fun W hW => holds_any (.slice sp schemes.length sc) schemes (bs X) W hW (by omega)
                rw [bs_toList] at hho
                obtain ⟨C, hC⟩ : ∃ C, schemes.contains X = C := ⟨_, rfl⟩
                rw [hC] at hho
                have HEND := hid (fun (_ : True) => (by have := HLK.out trivial; rw [hyl, hX, hC] at this; simpa using this : R = if C = false then ([], false) else (L, true)))
                have HLO := hid hlow
                have HHO := hid hho
                obtain ⟨XB, hXB⟩ : ∃ XB : ByteArray, (⟨X.toArray⟩ : ByteArray) = XB := ⟨_, rfl⟩
                rw [hXB] at HLO
                unfold bs at HHO
                rw [hXB] at HHO
                clear hyl hsl hlow hho hX hC hXB HLK hTL hgo
                have q4 : (((58 : UInt8).toNat : Int) == 58) = true := rfl
                cases C
                · go_wp2_with (first | (go_at_call 12; refine (HUN.out _).mono ?_; rintro e w3 ⟨rfl, rfl⟩) | (go_at_call 13; refine (HLO.out _).mono ?_; rintro e w4 ⟨rfl, b4⟩) | (go_at_call 14; refine (HHO.out _ ((HW.out.below HB.out).below b4)).mono ?_; rintro e w5 ⟨rfl, rfl⟩))
                  go_ret2
                  exact ⟨by rw [HEND.out trivial]; rfl, HB.out.trans (b4.mono HB.out.size)⟩
                · go_wp2_with (first | (go_at_call 12; refine (HUN.out _).mono ?_; rintro e w3 ⟨rfl, rfl⟩) | (go_at_call 13; refine (HLO.out _).mono ?_; rintro e w4 ⟨rfl, b4⟩) | (go_at_call 14; refine (HHO.out _ ((HW.out.below HB.out).below b4)).mono ?_; rintro e w5 ⟨rfl, rfl⟩))
                  go_ret2
                  exact ⟨by rw [HEND.out trivial, HTB.out trivial]; rfl, HB.out.trans (b4.mono HB.out.size)⟩
              · have q4 : ((y.toNat : Int) == 58) = false := by
                  rw [beq_eq_false_iff_ne]
                  intro e
                  exact hy58 (UInt8.toNat_inj.1 (by rw [show (58 : UInt8).toNat = 58 from rfl]; omega))
                have HEND := hid (fun (_ : True) => (by have := HLK.out trivial; rw [hyl, if_neg (by simp [hy58])] at this; exact this : R = (L, true)))
                clear hyl hy58 HLK hTL hgo
                go_wp2_with (go_at_call 12; refine (HUN.out _).mono ?_; rintro e w3 ⟨rfl, rfl⟩)
                go_ret2
                exact ⟨by rw [HEND.out trivial, HTB.out trivial]; rfl, HB.out⟩
            · have HEND := hid (fun (_ : True) => (by have := HLK.out trivial; rw [List.getElem?_eq_none (by omega), if_neg (by simp)] at this; exact this : R = (L, true)))
              clear HLK hTL hgo
              go_wp2_with (go_at_call 12; refine (HUN.out _).mono ?_; rintro e w3 ⟨rfl, rfl⟩)
              go_ret2
              exact ⟨by rw [HEND.out trivial, HTB.out trivial]; rfl, HB.out⟩
end Go.Proofs.YtndlihpjefobcaaDoor

/-
  A link that is stripped stays as it is when it is stripped again.
-/
namespace Go.Proofs.YtndlihpjefobcaaDoor
open Go.RowKit Go.Lib Own

theorem drop_takeW (p : UInt8 → Bool) : ∀ L : List UInt8, L.drop (L.takeWhile p).length = L.dropWhile p
  | [] => rfl
  | x :: r => by
    cases h : p x
    · rw [List.takeWhile_cons, List.dropWhile_cons, h]
      rfl
    · rw [List.takeWhile_cons, List.dropWhile_cons, h]
      exact drop_takeW p r
theorem dropW_stop (p : UInt8 → Bool) : ∀ L : List UInt8, L.dropWhile p = [] ∨ ∃ x r, L.dropWhile p = x :: r ∧ p x = false
  | [] => .inl rfl
  | x :: r => by
    cases h : p x
    · exact .inr ⟨x, r, by rw [List.dropWhile_cons, h]; rfl, h⟩
    · rw [List.dropWhile_cons, h]
      exact dropW_stop p r
theorem dropW_two (p : UInt8 → Bool) (L : List UInt8) : (L.dropWhile p).dropWhile p = L.dropWhile p := by
  rcases dropW_stop p L with h | ⟨x, r, h, hx⟩
  · rw [h]
    rfl
  · rw [h, List.dropWhile_cons, hx]
    rfl
theorem rtrim_two (L : List UInt8) : rtrim (rtrim L) = rtrim L := by
  unfold rtrim
  rw [List.reverse_reverse, dropW_two]
theorem rtrim_front (L : List UInt8) : ∃ t, L = rtrim L ++ t := by
  refine ⟨(L.reverse.takeWhile fun c => c == 32).reverse, ?_⟩
  unfold rtrim
  rw [← List.reverse_append, List.takeWhile_append_dropWhile, List.reverse_reverse]
theorem strip_eq (v : List UInt8) : stripL v = rtrim ((v.filter seenB).dropWhile [32].contains) := by
  unfold stripL
  rw [drop_takeW]
theorem strip_two (v : List UInt8) : stripL (stripL v) = stripL v := by
  have e := strip_eq v
  obtain ⟨t, ht⟩ := rtrim_front ((v.filter seenB).dropWhile [32].contains)
  rw [← e] at ht
  have hin : ∀ c ∈ stripL v, seenB c = true := fun c hc => by
    have h1 : c ∈ (v.filter seenB).dropWhile [32].contains := by
      rw [ht]
      exact List.mem_append_left _ hc
    exact (List.mem_filter.1 ((List.dropWhile_sublist _).subset h1)).2
  have hd : (stripL v).dropWhile [32].contains = stripL v := by
    rcases dropW_stop [32].contains (v.filter seenB) with h | ⟨x, r, h, hx⟩
    · rw [h] at ht
      have : stripL v = [] := (List.append_eq_nil_iff.1 ht.symm).1
      rw [this]
      rfl
    · rw [h] at ht
      cases hs : stripL v with
      | nil => rfl
      | cons y s =>
        rw [hs, List.cons_append] at ht
        obtain rfl := (List.cons.inj ht).1
        rw [List.dropWhile_cons, hx]
        rfl
  rw [strip_eq (stripL v), List.filter_eq_self.2 hin, hd, e]
  exact rtrim_two _
theorem link_two (schemes : List (List UInt8)) (v : List UInt8) (h : (linkL schemes v).2 = true) : linkL schemes (linkL schemes v).1 = linkL schemes v := by
  unfold linkL at h ⊢
  split at h
  · simp at h
  · rename_i h1
    rw [if_neg h1]
    show (if _ then _ else _) = _
    rw [strip_two, if_neg h1]
end Go.Proofs.YtndlihpjefobcaaDoor

/-
  The reference's Check: its walk.
-/
namespace Go.Proofs.YtndlihpjefobcaaDoor
open Go.RowKit Go.Lib Own

set_option maxHeartbeats 4000000 in
set_option maxRecDepth 100000 in
theorem refCheck_any (vr vs vd : Value) (P : PolP) (w : World) (h : PolR w vr vs vd P) (hF : P.Few) (hT : AttrTab w) :
    Calls Tryd.prog 4 #[.agg (polC vr vs vd P)] w fun e w' => e = .returned (.int .i64 (checkP P : Nat)) ∧ Below w.heap.size w w' := by
  have hwr := fun n h1 h10 W hW hTW => wrong_all n h1 h10 vr vs vd P W hW hF hTW
  have hb0 := heap_alloc_new w (.cells (polC vr vs vd P) 25)
  have hbel0 : Below w.heap.size w (w.alloc (.cells (polC vr vs vd P) 25)) := (Below.refl w.heap.size w).alloc (Nat.le_refl _) _
  have HWR := hid hwr
  have HP := hid h
  have HT := hid hT
  have H0 := hid (And.intro hbel0 hb0)
  obtain ⟨R, hR⟩ : ∃ R, checkP P = R := ⟨_, rfl⟩
  rw [hR]
  have HR := hid (fun (_ : True) => (hR : checkFrom P 1 10 = R))
  clear hwr h hF hT hb0 hbel0 hR
  unfold polC at H0 HWR ⊢
  go_enter Tryd.func4, Tryd.ntmps4
  go_wp2
  go_loopw [3] (fun iv wr => ∃ k : Nat, iv = .int .i64 k ∧ 1 ≤ k ∧ k ≤ 11 ∧ Hid (Below w.heap.size w wr ∧ wr.heap[w.heap.size]? = some (.cells #[vr, vs, vd, .int .i64 P.depth, .int .i64 P.window] 25 (0, 0))) ∧ Hid (True → checkFrom P k (11 - k) = R)) (fun iv _ => 11 - (RowKit.intOf iv).toNat)
  case atStart => exact ⟨1, rfl, by omega, by omega, H0, HR.out⟩
  case round =>
    obtain ⟨k, rfl, hk1, hk, HX, HK⟩ := hrel
    obtain ⟨c0, c1, c2, c3, c4⟩ := polC_at (P := P) HX.out.2
    by_cases hkl : k ≤ 10
    · have hcall := HWR.out k hk1 hkl wr (HP.out.below HX.out.1) (HT.out.below HX.out.1)
      have hd := HK.out trivial
      rw [show 11 - k = (11 - (k + 1)) + 1 by omega] at hd
      unfold checkFrom at hd
      obtain ⟨K, hK⟩ : ∃ K, wrongP k P = K := ⟨_, rfl⟩
      rw [hK] at hcall hd
      have HC := hid hcall
      have HD := hid (fun (_ : True) => hd)
      clear hcall hd hK HK HWR H0
      cases K
      · go_wp2_with (go_at_call 10; refine HC.out.mono ?_; rintro e w2 ⟨rfl, b2⟩)
        have HZ := hid (And.intro (HX.out.1.trans (b2.mono HX.out.1.size)) ((b2.block _ (block_lt HX.out.2)).trans HX.out.2))
        have HE := hid (fun (_ : True) => (by simpa using HD.out trivial : checkFrom P (k + 1) (11 - (k + 1)) = R))
        clear b2 HX HC HD c0 c1 c2 c3 c4
        go_wp2
        go_roundw
        case rel => first | exact ⟨k + 1, rfl, by omega, by omega, HZ, HE⟩ | ((repeat apply Exists.intro); exact ⟨⟨k + 1, rfl, by omega, by omega, HZ, HE⟩, rfl⟩)
        case measure => simp [RowKit.intOf]; omega
      · go_wp2_with (go_at_call 10; refine HC.out.mono ?_; rintro e w2 ⟨rfl, b2⟩)
        have HZ := hid (HX.out.1.trans (b2.mono HX.out.1.size))
        have HE := hid (fun (_ : True) => (by simpa using HD.out trivial : k = R))
        clear b2 HX HC HD c0 c1 c2 c3 c4
        go_wp2
        go_ret
        exact ⟨ret_i64 (by rw [HE.out trivial]), HZ.out⟩
    · have hd := HK.out trivial
      rw [show 11 - k = 0 by omega] at hd
      have HE := hid (fun (_ : True) => (hd : 0 = R))
      clear hd HK HWR H0
      go_wp2
      go_ret
      exact ⟨ret_i64 (by rw [← HE.out trivial]; rfl), HX.out.1⟩
end Go.Proofs.YtndlihpjefobcaaDoor

/-
  policy.Check: names and drops: their walks.
-/
namespace Go.Proofs.YtndlihpjefobcaaDoor
open Go.RowKit Go.Lib Own

set_option maxHeartbeats 2000000 in
set_option maxRecDepth 100000 in
theorem ruleNames_any (vr : Value) (rs : List RuleP) (w : World) (h : RulesR w vr rs) (hn : rs.length ≤ 2000000) :
    Calls Tryd.prog 16 #[vr] w fun e w' => ∃ v, e = .returned v ∧ Words w' v (rs.map Prod.fst) ∧ Below w.heap.size w w' := by
  obtain ⟨i0, hi, hz0, hz1, hz2⟩ := info_parts info_str
  obtain ⟨rp, rc, rfl, hr1, hr2, hr3⟩ := h
  have HR := hid hr3
  have H0 : Hid (Below w.heap.size w w ∧ w.ownsRow w.heap.size 9 1 (.slice none 0 0) 0 (((rs.take 0).map Prod.fst).map fun s => .string (bs s))) := ⟨Below.refl _ _, World.ownsRow_nil _ _ _ _⟩
  clear hr3
  go_enter Tryd.func16, Tryd.ntmps16
  go_wp2_with fail
  go_loopw [3, 5, 8] (fun nv _ iv wr => ∃ k : Nat, iv = .int .i64 k ∧ k ≤ rs.length ∧ Hid (Below w.heap.size w wr ∧ wr.ownsRow w.heap.size 9 1 nv k (((rs.take k).map Prod.fst).map fun s => .string (bs s)))) (fun _ _ iv _ => rs.length - (RowKit.intOf iv).toNat)
  case atStart => exact ⟨0, rfl, Nat.zero_le _, H0⟩
  case round =>
    obtain ⟨k, rfl, hk, HX⟩ := hrel
    obtain ⟨np, nc, rfl⟩ := row_shape HX.out.2
    by_cases hkl : k < rs.length
    · obtain ⟨r, hr⟩ : ∃ r, rs[k]? = some r := ⟨_, List.getElem?_eq_getElem hkl⟩
      obtain ⟨b, o, u, rfl, hc1, hc3, hwu⟩ := HR.out k r hr
      have hc2 := cell_low hc1 HX.out.1 (cell_block hc1)
      replace hc3 := cell_low hc3 HX.out.1 (cell_block hc3)
      obtain ⟨up, uc, rfl, _⟩ := hwu.len
      obtain ⟨S, hS⟩ : ∃ S, bs r.1 = S := ⟨_, rfl⟩
      rw [hS] at hc2
      have hown := HX.out.2
      have hbs := HX.out.1.size
      have hst : ((rs.take (k + 1)).map Prod.fst).map (fun s => Value.string (bs s)) = ((rs.take k).map Prod.fst).map (fun s => Value.string (bs s)) ++ [.string S] := by
        rw [List.take_add_one, hr, ← hS]
        simp
      obtain ⟨LK, hLK⟩ : ∃ LK, ((rs.take k).map Prod.fst).map (fun s => Value.string (bs s)) = LK := ⟨_, rfl⟩
      rw [hLK] at hst hown
      have HST := hid (fun (_ : True) => hst)
      clear hr hc1 hS hst H0 hLK hwu
      have hcn : ∀ j u, [Value.string S][j]? = some u → ((wr.alloc (.cells #[.string S, .slice up r.2.length uc] 42)).alloc (.cells #[.string S] 9)).cell? ((⟨wr.heap.size + 1, 0, none⟩ : Addr).add j) = some u := by
        have := cells_newV [.string S] 9 (wr.alloc (.cells #[.string S, .slice up r.2.length uc] 42))
        simpa using this
      have HCN := hid hcn
      clear hcn
      go_wp2_with (at_builtin; refine wpList_append_own _ rfl (.tmp 12) (.tmp 15) 23 rfl w.heap.size 9 i0 (.string ⟨#[]⟩) 1 16 Tryd.underlying23 hi hz0 hz1 hz2 rfl (by decide) _ _ _ rfl ((hown.alloc _).alloc _) ⟨_, 0, none⟩ 1 1 [.string S] rfl rfl HCN.out (by simp [Value.oneCell']) (by unfold maxLen; omega) (by omega) (by simp; omega) ?_)
      intro v' w2 hown2 hgrow2 _
      have hbel2 : Below w.heap.size w w2 := ((HX.out.1.alloc hbs _).alloc (by simp; omega) _).grown hgrow2 (by simp; omega) (fun k hk => (hown.lt k hk).1)
      rw [← HST.out trivial] at hown2
      have HZ := hid (And.intro hbel2 hown2)
      clear hbel2 hown2 hgrow2 hown HX hc2 hc3 HCN
      go_wp2_with fail
      go_roundw
      case rel => first | exact ⟨k + 1, rfl, by omega, HZ⟩ | ((repeat apply Exists.intro); exact ⟨⟨k + 1, rfl, by omega, HZ⟩, rfl⟩)
      case measure => simp [RowKit.intOf]; omega
    · obtain rfl : k = rs.length := by omega
      have hw : Words wr (.slice np rs.length nc) (rs.map Prod.fst) := by
        have := HX.out.2
        rw [List.take_length] at this
        exact Words.row (by rw [List.length_map]; exact this)
      have HW := hid (And.intro hw HX.out.1)
      clear hw HX H0
      go_wp2_with fail
      go_ret
      exact ⟨_, rfl, HW.out.1, HW.out.2⟩

set_option maxHeartbeats 2000000 in
set_option maxRecDepth 100000 in
theorem hasBadDrop_any (vd vn : Value) (ds names : List (List UInt8)) (w : World) (h : Words w vd ds) (hn : Words w vn names) (hs : ∀ s ∈ ds, s.length ≤ 1000000000) (hl : ds.length ≤ 2000000) :
    Calls Tryd.prog 24 #[vd, vn] w fun e w' => e = .returned (.bool ((decide (64 < ds.length) || twiceL ds) || ds.any (wrongDropP names))) ∧ Below w.heap.size w w' := by
  have hb := (Below.refl w.heap.size w).alloc (Nat.le_refl _) (.cells #[vn] 23)
  have hw := heap_alloc_new w (.cells #[vn] 23)
  have htw := hasTwice_any vd ds _ (h.below hb)
  have hcf := slContainsFunc_any 39 #[.pointer (some ⟨w.heap.size, 0, none⟩)] (enters_of Tryd.func39 (by kernel_rfl) rfl) _ vd ds _ (h.below hb) (predDrop _ ds w.heap.size vn names hs (cell_at hw rfl) (hn.below hb))
  obtain ⟨dp, dc, rfl, _⟩ := h.len
  obtain ⟨np, nc, rfl, _⟩ := hn.len
  generalize twiceL ds = b1 at htw ⊢
  generalize ds.any (wrongDropP names) = b2 at hcf ⊢
  have HT := hid htw
  have HC := hid hcf
  have HB := hid hb
  have hmf : ∀ (fn : Fn) (first cap : Array Value) (w : World), (Instr.makeFunc fn first cap).run Tryd.prog w = .ok (.func fn first cap) w := fun _ _ _ _ => rfl
  clear htw hcf h hn hw hb
  by_cases h64 : 64 < ds.length
  · rw [decide_eq_true h64]
    have z : (ds.length : Int) > 64 := by omega
    go_enter Tryd.func24, Tryd.ntmps24
    go_wp2_with fail
    go_ret
    exact ⟨rfl, HB.out⟩
  · rw [decide_eq_false h64]
    have z : ¬ ((ds.length : Int) > 64) := by omega
    cases b1
    · go_enter Tryd.func24, Tryd.ntmps24
      go_wp2_with (first | (go_at_call 19; refine HT.out.mono ?_; rintro e w1 ⟨rfl, rfl⟩) | (go_at_call 17; refine HC.out.mono ?_; rintro e w1 ⟨rfl, b1⟩))
      go_ret
      exact ⟨rfl, HB.out.trans (b1.mono HB.out.size)⟩
    · go_enter Tryd.func24, Tryd.ntmps24
      go_wp2_with (go_at_call 19; refine HT.out.mono ?_; rintro e w1 ⟨rfl, rfl⟩)
      go_ret
      exact ⟨rfl, HB.out⟩
end Go.Proofs.YtndlihpjefobcaaDoor

/-
  policy.Check: its walk.
-/
namespace Go.Proofs.YtndlihpjefobcaaDoor
open Go.RowKit Go.Lib Own

/-- the first line that is true, as the code asks -/
def checkC (P : PolP) : Nat :=
  if P.depth < 1 ∨ 256 < P.depth then 1 else if P.window < 32 ∨ 4096 < P.window then 2 else if (P.rules.map Prod.fst).any (fun s => classL s == 0) = true then 3 else if twiceL (P.rules.map Prod.fst) = true then 4
  else if P.rules.any (fun r => r.2.any fun a => !attrT.contains a) = true then 5 else if P.rules.any (fun r => twiceL r.2) = true then 6 else if (decide (32 < P.schemes.length) || P.schemes.any wrongSchemeP) = true then 7
  else if twiceL P.schemes = true then 8 else if ((decide (64 < P.drop.length) || twiceL P.drop) || P.drop.any (wrongDropP (P.rules.map Prod.fst))) = true then 9 else if partsP (P.rules.map Prod.fst) = true then 10 else 0
theorem anyWrong3 (P : PolP) : anyWrongP 3 P = (P.rules.map Prod.fst).any (fun s => classL s == 0) := by
  unfold anyWrongP
  rw [decide_eq_false (by decide), decide_eq_false (by decide), Bool.false_and, Bool.false_and, Bool.or_false, Bool.or_false, List.any_map]
  rfl
theorem anyWrong5 (P : PolP) : anyWrongP 5 P = P.rules.any (fun r => r.2.any fun a => !attrT.contains a) := by
  unfold anyWrongP
  rw [decide_eq_false (by decide), decide_eq_false (by decide), Bool.false_and, Bool.false_and, Bool.or_false, Bool.or_false]
  congr 1
theorem anyWrong6 (P : PolP) : anyWrongP 6 P = P.rules.any (fun r => twiceL r.2) := by
  unfold anyWrongP
  rw [decide_eq_false (by decide), decide_eq_false (by decide), Bool.false_and, Bool.false_and, Bool.or_false, Bool.or_false]
  rfl
theorem any_false {α : Type} {p : α → Bool} {l : List α} (h : ∀ x, p x = false) : l.any p = false := by
  rw [List.any_eq_false]
  intro x _
  rw [h x]; simp
theorem anyWrong7 (P : PolP) : anyWrongP 7 P = P.schemes.any wrongSchemeP := by
  unfold anyWrongP
  rw [decide_eq_true rfl, decide_eq_false (by decide), Bool.false_and, Bool.or_false, Bool.true_and, any_false (p := wrongRuleP 7) (fun r => rfl), Bool.false_or]
theorem anyWrong9 (P : PolP) : anyWrongP 9 P = P.drop.any (wrongDropP (P.rules.map Prod.fst)) := by
  unfold anyWrongP
  rw [decide_eq_false (by decide), decide_eq_true rfl, Bool.false_and, Bool.false_or, Bool.true_and, any_false (p := wrongRuleP 9) (fun r => rfl), Bool.false_or]
theorem check_same (P : PolP) : checkC P = checkP P := by
  have h1 : wrongP 1 P = decide (P.depth < 1 ∨ 256 < P.depth) := rfl
  have h2 : wrongP 2 P = decide (P.window < 32 ∨ 4096 < P.window) := rfl
  have h3 : wrongP 3 P = (P.rules.map Prod.fst).any (fun s => classL s == 0) := anyWrong3 P
  have h4 : wrongP 4 P = twiceL (P.rules.map Prod.fst) := rfl
  have h5 : wrongP 5 P = P.rules.any (fun r => r.2.any fun a => !attrT.contains a) := anyWrong5 P
  have h6 : wrongP 6 P = P.rules.any (fun r => twiceL r.2) := anyWrong6 P
  have h7 : wrongP 7 P = (decide (32 < P.schemes.length) || P.schemes.any wrongSchemeP) := by show (_ || anyWrongP 7 P) = _; rw [anyWrong7]
  have h8 : wrongP 8 P = twiceL P.schemes := rfl
  have h9 : wrongP 9 P = ((decide (64 < P.drop.length) || twiceL P.drop) || P.drop.any (wrongDropP (P.rules.map Prod.fst))) := by show ((_ || _) || anyWrongP 9 P) = _; rw [anyWrong9]
  have h10 : wrongP 10 P = partsP (P.rules.map Prod.fst) := rfl
  unfold checkC checkP
  rw [← h3, ← h4, ← h5, ← h6, ← h7, ← h8, ← h9, ← h10]
  have d1 : (P.depth < 1 ∨ 256 < P.depth) = (wrongP 1 P = true) := by rw [h1, decide_eq_true_eq]
  have d2 : (P.window < 32 ∨ 4096 < P.window) = (wrongP 2 P = true) := by rw [h2, decide_eq_true_eq]
  simp only [checkFrom, d1, d2]
set_option maxHeartbeats 4000000 in
set_option maxRecDepth 100000 in
theorem check_any (vr vs vd : Value) (P : PolP) (w : World) (h : PolR w vr vs vd P) (hF : P.Few) (hK : KindsTab w) (hV : VAttrTab w) :
    Calls Tryd.prog 7 #[.agg (polC vr vs vd P)] w fun e w' => e = .returned (.int .i64 (checkC P)) ∧ Below w.heap.size w w' := by
  have hb0 := heap_alloc_new w (.cells (polC vr vs vd P) 25)
  have hbel0 : Below w.heap.size w (w.alloc (.cells (polC vr vs vd P) 25)) := (Below.refl w.heap.size w).alloc (Nat.le_refl _) _
  obtain ⟨W1, hW1⟩ : ∃ W1, w.alloc (.cells (polC vr vs vd P) 25) = W1 := ⟨_, rfl⟩
  rw [hW1] at hb0 hbel0
  obtain ⟨rp, rc, hvr, _⟩ := h.rules
  obtain ⟨sp, sc, hvs, _⟩ := h.schemes
  obtain ⟨dp, dc, hvd, _⟩ := h.drop
  subst hvr hvs hvd
  have g0 := hF.d0
  have g1 := hF.d1
  have g2 := hF.w0
  have g3 := hF.w1
  have f2 := hF.schemes
  have hrn := ruleNames_any _ P.rules W1 (h.rules.below hbel0) hF.rules
  -- at a world behind the names: each call
  have hst : ∀ W nv, Words W nv (P.rules.map Prod.fst) → Below w.heap.size w W → W.heap[w.heap.size]? = some (.cells (polC (.slice rp P.rules.length rc) (.slice sp P.schemes.length sc) (.slice dp P.drop.length dc) P) 25 (0, 0)) → True := fun _ _ _ _ _ => trivial
  have cEl := fun W nv (hn : Words W nv (P.rules.map Prod.fst)) hk => slContainsFunc_any 18 #[] (enters_of Tryd.func18 (by kernel_rfl) rfl) _ nv _ W hn (predEl W _ hk)
  have cTw := fun W nv (hn : Words W nv (P.rules.map Prod.fst)) => hasTwice_any nv _ W hn
  have cUn := fun W (hr : RulesR W (.slice rp P.rules.length rc) P.rules) hv => ruContainsFunc_any 21 #[] (enters_of Tryd.func21 (by kernel_rfl) rfl) _ _ _ W hr (predUnk W P.rules hv)
  have cRt := fun W (hr : RulesR W (.slice rp P.rules.length rc) P.rules) => ruContainsFunc_any 22 #[] (enters_of Tryd.func22 (by kernel_rfl) rfl) _ _ _ W hr (predTw W P.rules)
  have cSc := fun W (hr : Words W (.slice sp P.schemes.length sc) P.schemes) => slContainsFunc_any 23 #[] (enters_of Tryd.func23 (by kernel_rfl) rfl) _ _ _ W hr (predSch W P.schemes (fun s hs => Nat.le_trans (hF.slen s hs) (by omega)))
  have cSt := fun W (hr : Words W (.slice sp P.schemes.length sc) P.schemes) => hasTwice_any _ _ W hr
  have cDr := fun W nv (hd : Words W (.slice dp P.drop.length dc) P.drop) (hn : Words W nv (P.rules.map Prod.fst)) => hasBadDrop_any _ nv P.drop _ W hd hn (fun s hs => Nat.le_trans (hF.dlen s hs) (by omega)) hF.drop
  have cPa := fun W nv (hn : Words W nv (P.rules.map Prod.fst)) => lacksParts_any nv _ W hn
  obtain ⟨R, hR⟩ : ∃ R, checkC P = R := ⟨_, rfl⟩
  rw [hR]
  unfold checkC at hR
  generalize (P.rules.map Prod.fst).any (fun s => classL s == 0) = b3 at cEl hR
  generalize twiceL (P.rules.map Prod.fst) = b4 at cTw hR
  generalize P.rules.any (fun r => r.2.any fun a => !attrT.contains a) = b5 at cUn hR
  generalize P.rules.any (fun r => twiceL r.2) = b6 at cRt hR
  generalize P.schemes.any wrongSchemeP = b7 at cSc hR
  generalize twiceL P.schemes = b8 at cSt hR
  generalize ((decide (64 < P.drop.length) || twiceL P.drop) || P.drop.any (wrongDropP (P.rules.map Prod.fst))) = b9 at cDr hR
  generalize partsP (P.rules.map Prod.fst) = b10 at cPa hR
  have HR := hid (fun (_ : True) => hR)
  have HP := hid h
  have HK := hid hK
  have HV := hid hV
  have HRN := hid hrn
  have HEl := hid cEl
  have HTw := hid cTw
  have HUn := hid cUn
  have HRt := hid cRt
  have HSc := hid cSc
  have HSt := hid cSt
  have HDr := hid cDr
  have HPa := hid cPa
  have H0 := hid (And.intro hbel0 hb0)
  clear hst cEl cTw cUn cRt cSc cSt cDr cPa hR h hK hV hrn hF hb0 hbel0
  unfold polC at hW1 ⊢
  go_enter Tryd.func7, Tryd.ntmps7
  have c0 := (polC_at (P := P) H0.out.2).1
  go_wp2_with fail
  refine HRN.out.mono ?_
  rintro e w1 ⟨nv, rfl, hnw, bb1⟩
  have H1 := hid (And.intro (H0.out.1.trans (bb1.mono H0.out.1.size)) (And.intro ((bb1.block _ (block_lt H0.out.2)).trans H0.out.2) hnw))
  obtain ⟨np, nc, hnv, _⟩ := hnw.len
  rw [List.length_map] at hnv
  subst hnv
  clear hnw bb1 HRN c0 H0
  obtain ⟨c0, c1, c2, c3, c4⟩ := polC_at (P := P) H1.out.2.1
  by_cases z1 : P.depth < 1
  · go_wp2_with fail
    go_ret
    exact ⟨ret_int (by rw [← HR.out trivial, if_pos (.inl z1)]; rfl), H1.out.1⟩
  by_cases z2 : 256 < P.depth
  · go_wp2_with fail
    go_ret
    exact ⟨ret_int (by rw [← HR.out trivial, if_pos (.inr z2)]; rfl), H1.out.1⟩
  by_cases z3 : P.window < 32
  · go_wp2_with fail
    go_ret
    exact ⟨ret_int (by rw [← HR.out trivial, if_neg (by omega), if_pos (.inl z3)]; rfl), H1.out.1⟩
  by_cases z4 : 4096 < P.window
  · go_wp2_with fail
    go_ret
    exact ⟨ret_int (by rw [← HR.out trivial, if_neg (by omega), if_pos (.inr z4)]; rfl), H1.out.1⟩
  have HR2 := hid (fun (_ : True) => (by have := HR.out trivial; rwa [if_neg (by omega), if_neg (by omega)] at this))
  go_wp2_with fail
  refine (HEl.out _ _ H1.out.2.2 (HK.out.below H1.out.1)).mono ?_
  rintro e w2 ⟨rfl, bb2⟩
  have H2 := hid (And.intro (H1.out.1.trans (bb2.mono H1.out.1.size)) (And.intro ((bb2.block _ (block_lt H1.out.2.1)).trans H1.out.2.1) (H1.out.2.2.below bb2)))
  clear bb2 c0 c1 c2 c3 c4
  obtain ⟨c0, c1, c2, c3, c4⟩ := polC_at (P := P) H2.out.2.1
  cases b3 with
  | true =>
    go_wp2_with fail
    go_ret
    exact ⟨ret_int (by rw [← HR2.out trivial]; rfl), H2.out.1⟩
  | false =>
    go_wp2_with fail
    refine (HTw.out _ _ H2.out.2.2).mono ?_
    rintro e ww ⟨rfl, rfl⟩
    cases b4 with
    | true =>
      go_wp2_with fail
      go_ret
      exact ⟨ret_int (by rw [← HR2.out trivial]; rfl), H2.out.1⟩
    | false =>
      go_wp2_with fail
      refine (HUn.out _ (HP.out.rules.below H2.out.1) (HV.out.below H2.out.1)).mono ?_
      rintro e w3 ⟨rfl, bb3⟩
      have H3 := hid (And.intro (H2.out.1.trans (bb3.mono H2.out.1.size)) (And.intro ((bb3.block _ (block_lt H2.out.2.1)).trans H2.out.2.1) (H2.out.2.2.below bb3)))
      clear bb3 c0 c1 c2 c3 c4
      obtain ⟨c0, c1, c2, c3, c4⟩ := polC_at (P := P) H3.out.2.1
      cases b5 with
      | true =>
        go_wp2_with fail
        go_ret
        exact ⟨ret_int (by rw [← HR2.out trivial]; rfl), H3.out.1⟩
      | false =>
        go_wp2_with fail
        refine (HRt.out _ (HP.out.rules.below H3.out.1)).mono ?_
        rintro e w4 ⟨rfl, bb4⟩
        have H4 := hid (And.intro (H3.out.1.trans (bb4.mono H3.out.1.size)) (And.intro ((bb4.block _ (block_lt H3.out.2.1)).trans H3.out.2.1) (H3.out.2.2.below bb4)))
        clear bb4 c0 c1 c2 c3 c4
        obtain ⟨c0, c1, c2, c3, c4⟩ := polC_at (P := P) H4.out.2.1
        cases b6 with
        | true =>
          go_wp2_with fail
          go_ret
          exact ⟨ret_int (by rw [← HR2.out trivial]; rfl), H4.out.1⟩
        | false =>
          by_cases z7 : 32 < P.schemes.length
          · have y7 : (P.schemes.length : Int) > 32 := by omega
            go_wp2_with fail
            go_ret
            exact ⟨ret_int (by rw [← HR2.out trivial, decide_eq_true z7]; rfl), H4.out.1⟩
          have y7 : ¬ ((P.schemes.length : Int) > 32) := by omega
          replace HR2 := hid (fun (_ : True) => (by have := HR2.out trivial; rwa [decide_eq_false z7, Bool.false_or] at this))
          go_wp2_with fail
          refine (HSc.out _ (HP.out.schemes.below H4.out.1)).mono ?_
          rintro e w5 ⟨rfl, bb5⟩
          have H5 := hid (And.intro (H4.out.1.trans (bb5.mono H4.out.1.size)) (And.intro ((bb5.block _ (block_lt H4.out.2.1)).trans H4.out.2.1) (H4.out.2.2.below bb5)))
          clear bb5 c0 c1 c2 c3 c4
          obtain ⟨c0, c1, c2, c3, c4⟩ := polC_at (P := P) H5.out.2.1
          cases b7 with
          | true =>
            go_wp2_with fail
            go_ret
            exact ⟨ret_int (by rw [← HR2.out trivial]; rfl), H5.out.1⟩
          | false =>
            go_wp2_with fail
            refine (HSt.out _ (HP.out.schemes.below H5.out.1)).mono ?_
            rintro e ww ⟨rfl, rfl⟩
            cases b8 with
            | true =>
              go_wp2_with fail
              go_ret
              exact ⟨ret_int (by rw [← HR2.out trivial]; rfl), H5.out.1⟩
            | false =>
              go_wp2_with fail
              refine (HDr.out _ _ (HP.out.drop.below H5.out.1) H5.out.2.2).mono ?_
              rintro e w6 ⟨rfl, bb6⟩
              have H6 := hid (And.intro (H5.out.1.trans (bb6.mono H5.out.1.size)) (And.intro ((bb6.block _ (block_lt H5.out.2.1)).trans H5.out.2.1) (H5.out.2.2.below bb6)))
              clear bb6 c0 c1 c2 c3 c4
              obtain ⟨c0, c1, c2, c3, c4⟩ := polC_at (P := P) H6.out.2.1
              cases b9 with
              | true =>
                go_wp2_with fail
                go_ret
                exact ⟨ret_int (by rw [← HR2.out trivial]; rfl), H6.out.1⟩
              | false =>
                go_wp2_with fail
                refine (HPa.out _ _ H6.out.2.2).mono ?_
                rintro e w7 ⟨rfl, bb7⟩
                have H7 := hid (And.intro (H6.out.1.trans (bb7.mono H6.out.1.size)) (And.intro ((bb7.block _ (block_lt H6.out.2.1)).trans H6.out.2.1) (H6.out.2.2.below bb7)))
                clear bb7 c0 c1 c2 c3 c4
                obtain ⟨c0, c1, c2, c3, c4⟩ := polC_at (P := P) H7.out.2.1
                cases b10 with
                | true =>
                  go_wp2_with fail
                  go_ret
                  exact ⟨ret_int (by rw [← HR2.out trivial]; rfl), H7.out.1⟩
                | false =>
                  go_wp2_with fail
                  go_ret
                  exact ⟨ret_int (by rw [← HR2.out trivial]; rfl), H7.out.1⟩
end Go.Proofs.YtndlihpjefobcaaDoor

/-
  strings.IndexRune and IndexAny, of the four marks of a link: their walks at every text.
-/
namespace Go.Proofs.YtndlihpjefobcaaDoor
open Go.RowKit Go.Lib Own

theorem decode_cont (s : ByteArray) (pos : Nat) (h : pos < s.size) (ha : 128 ≤ (s[pos]'h).toNat) : ∀ k, k < (Utf8.decode s pos).2 → ∃ hk : pos + k < s.size, 128 ≤ (s[pos + k]'hk).toNat := by
  have hg : ∀ j (hj : j < s.size), s.get! j = s[j]'hj := fun j hj => by
    show s.data[j]! = s.data[j]
    simp [getElem!_pos, hj]
  have zero : ∃ hk : pos + 0 < s.size, 128 ≤ (s[pos + 0]'hk).toNat := ⟨h, ha⟩
  have cont : ∀ k, (decide (pos + k < s.size) && ((s.get! (pos + k)).toNat / 64 == 2)) = true → ∃ hk : pos + k < s.size, 128 ≤ (s[pos + k]'hk).toNat := fun k hc => by
    rw [Bool.and_eq_true, decide_eq_true_eq, beq_iff_eq] at hc
    refine ⟨hc.1, ?_⟩
    rw [← hg _ hc.1]
    omega
  intro k hk
  have one : (k < 1) → ∃ hk : pos + k < s.size, 128 ≤ (s[pos + k]'hk).toNat := fun h1 => by
    obtain rfl : k = 0 := by omega
    exact zero
  unfold Utf8.decode at hk
  simp only [Nat.add_zero] at hk
  split at hk
  · exact one hk
  · split at hk
    · rename_i _ h2
      simp only [Bool.and_eq_true] at h2
      split at hk
      · simp only at hk
        match k, hk with
        | 0, _ => exact zero
        | 1, _ => exact cont 1 (by simpa using h2.2)
        | k + 2, hk => omega
      · exact one hk
    · split at hk
      · rename_i _ _ h3
        simp only [Bool.and_eq_true] at h3
        split at hk
        · simp only at hk
          match k, hk with
          | 0, _ => exact zero
          | 1, _ => exact cont 1 (by simpa using h3.1.2)
          | 2, _ => exact cont 2 (by simpa using h3.2)
          | k + 3, hk => omega
        · exact one hk
      · split at hk
        · rename_i _ _ _ h4
          simp only [Bool.and_eq_true] at h4
          split at hk
          · simp only at hk
            match k, hk with
            | 0, _ => exact zero
            | 1, _ => exact cont 1 (by simpa using h4.1.1.2)
            | 2, _ => exact cont 2 (by simpa using h4.1.2)
            | 3, _ => exact cont 3 (by simpa using h4.2)
            | k + 4, hk => omega
          · exact one hk
        · exact one hk

/-- a rune as it is encoded: two bytes to four, the last of 128 on -/
theorem enc_high (r : Int) (h : 128 ≤ r) (h1 : r ≤ 1114111) (h2 : ¬ (55296 ≤ r ∧ r ≤ 57343)) : ∃ l, (l = 1 ∨ l = 2 ∨ l = 3) ∧ (Utf8.encode r).size = l + 1 ∧ ∃ (hl : l < (Utf8.encode r).size), 128 ≤ ((Utf8.encode r)[l]'hl).toNat := by
  have hv : Utf8.valid r = true := by
    unfold Utf8.valid
    simp
    omega
  have h8 : ∀ n : Nat, (UInt8.ofNat (128 + n % 64)).toNat = 128 + n % 64 := fun n => by
    rw [UInt8.toNat_ofNat']
    omega
  obtain ⟨n, rfl⟩ : ∃ n : Nat, r = n := ⟨r.toNat, by omega⟩
  unfold Utf8.encode
  rw [hv]
  simp only [if_true, Int.toNat_natCast]
  split
  · omega
  · split
    · exact ⟨1, .inl rfl, rfl, Nat.lt_succ_self _, by show 128 ≤ (UInt8.ofNat (128 + n % 64)).toNat; rw [h8]; omega⟩
    · split
      · exact ⟨2, .inr (.inl rfl), rfl, Nat.lt_succ_self _, by show 128 ≤ (UInt8.ofNat (128 + n % 64)).toNat; rw [h8]; omega⟩
      · exact ⟨3, .inr (.inr rfl), rfl, Nat.lt_succ_self _, by show 128 ≤ (UInt8.ofNat (128 + n % 64)).toNat; rw [h8]; omega⟩
def marksB : ByteArray := ⟨#[58, 47, 63, 35]⟩
set_option maxHeartbeats 2000000 in
set_option maxRecDepth 100000 in
theorem idxRune_high (r : Int) (w : World) (h0 : 128 ≤ r) (h1 : r ≤ 1114111) (h2 : ¬ (55296 ≤ r ∧ r ≤ 57343)) (h3 : r ≠ 65533) :
    Calls Tryd.prog 68 #[.string marksB, .int .i32 r] w fun e w' => e = .returned (.int .i64 (-1)) ∧ Below w.heap.size w w' := by
  have q1 : ¬ r < 128 := by omega
  have q2 : (0 : Int) ≤ r := by omega
  have q3 : (r == 65533) = false := beq_eq_false_iff_ne.2 h3
  have hvr : ∀ W, Calls Tryd.prog 77 #[.int .i32 r] W fun e w' => e = .returned (.bool true) ∧ w' = W := by
    intro W
    by_cases h4 : r < 55296
    · clear h2 h3 q3
      go_enter Tryd.func77, Tryd.ntmps77
      go_wp2_with fail
      go_ret
      exact ⟨rfl, rfl⟩
    · have h5 : 57343 < r := by omega
      clear h2 h3 q3
      go_enter Tryd.func77, Tryd.ntmps77
      go_wp2_with fail
      go_ret
      exact ⟨rfl, rfl⟩
  have HVR := hid hvr
  obtain ⟨l, hl, hsz, hlt, hb⟩ := enc_high r h0 h1 h2
  obtain ⟨E, hE⟩ : ∃ E, Utf8.encode r = E := ⟨_, rfl⟩
  have hbE : ∃ (hl : l < E.size), 128 ≤ (E[l]'hl).toNat := by subst hE; exact ⟨hlt, hb⟩
  have hszE : E.size = l + 1 := by rw [← hE]; exact hsz
  clear hvr h2 h3 hsz hb hlt
  obtain ⟨hlt, hb⟩ := hbE
  obtain ⟨c, hc⟩ : ∃ c, E[l]'hlt = c := ⟨_, rfl⟩
  rw [hc] at hb
  have hcu := UInt8.toNat_lt c
  have d1 : ((((⟨#[58, 47, 63, 35]⟩ : ByteArray)[1]'(by decide)).toNat : Int) != (c.toNat : Int)) = true := bne_iff_ne.2 (by show (47 : Int) ≠ _; omega)
  have d2 : ((((⟨#[58, 47, 63, 35]⟩ : ByteArray)[2]'(by decide)).toNat : Int) != (c.toNat : Int)) = true := bne_iff_ne.2 (by show (63 : Int) ≠ _; omega)
  have d3 : ((((⟨#[58, 47, 63, 35]⟩ : ByteArray)[3]'(by decide)).toNat : Int) != (c.toNat : Int)) = true := bne_iff_ne.2 (by show (35 : Int) ≠ _; omega)
  have hib : ∀ s W, 128 ≤ c.toNat → s.data.toList.contains c = false → Calls Tryd.prog 59 #[.string s, .int .u8 (c.toNat : Int)] W fun e w' => e = .returned (.int .i64 (-1)) ∧ w' = W := by
    intro s W _ h
    have h1 := Tryd.strings_IndexByte s (c.toNat : Int) W
    have hback : ((c.toNat : Int)).toNat.toUInt8 = c := by simp
    rw [hback] at h1
    have h2 := Lib.contains_iff_indexByte s.data.toList c
    rw [h] at h2
    have h3 := Lib.indexByte_ge s.data.toList c
    have h4 : Lib.indexByte s.data.toList c = -1 := by have := of_decide_eq_false h2.symm; omega
    rw [h4] at h1
    exact h1
  have hno : ∀ L : List UInt8, (∀ x ∈ L, x.toNat < 128) → L.contains c = false := fun L h => by
    rw [Bool.eq_false_iff]
    intro h2
    have := h c (List.contains_iff_mem.1 h2)
    omega
  have HIB := hid hib
  have HNO := hid hno
  have y2 : IntKind.i64.wrap 2 = 2 := by decide
  have y3 : IntKind.i64.wrap 3 = 3 := by decide
  have y4 : IntKind.i64.wrap 4 = 4 := by decide
  clear hib hno
  unfold marksB
  rcases hl with rfl | rfl | rfl
  · go_enter Tryd.func68, Tryd.ntmps68
    go_wp2_with fail
    refine (HVR.out _).mono ?_
    rintro e w1 ⟨rfl, rfl⟩
    go_wp2_with fail
    go_step3
    go_wp2_with fail
    go_loopw [4, 9, 10, 11, 12] (fun _ a _ _ _ wr => a = .int .i64 1 ∧ wr = w1) (fun _ _ _ _ _ _ => 0)
    case atStart => exact ⟨rfl, rfl⟩
    case round =>
      obtain ⟨rfl, rfl⟩ := hrel
      go_wp2_with fail
      go_step3
      go_wp2_with fail
      go_quiet (fail)
      go_wp2_with fail
      obtain ⟨w5, hw5⟩ : ∃ W, wr.drewN nq = W := ⟨_, rfl⟩
      have hb5 : Below wr.heap.size wr w5 := by rw [← hw5]; exact below_drewN (Below.refl _ _) nq
      simp only [hw5]
      clear hw5
      go_quiet (first | (go_at_call 59; refine Calls.quiet_of_same (HIB.out _ _ hb (HNO.out _ ?_)); decide +kernel))
      go_wp2_with fail
      simp (config := { zetaDelta := true }) only [Exit.noGoto_ret, Exit.inBlock, Exit.then]
      go_ret
      exact ⟨rfl, below_drewN hb5 _⟩
  · go_enter Tryd.func68, Tryd.ntmps68
    go_wp2_with fail
    refine (HVR.out _).mono ?_
    rintro e w1 ⟨rfl, rfl⟩
    go_wp2_with fail
    go_step3
    go_wp2_with fail
    go_loopw [4, 9, 10, 11, 12] (fun _ a _ _ _ wr => a = .int .i64 2 ∧ wr = w1) (fun _ _ _ _ _ _ => 0)
    case atStart => exact ⟨rfl, rfl⟩
    case round =>
      obtain ⟨rfl, rfl⟩ := hrel
      go_wp2_with fail
      go_step3
      go_wp2_with fail
      go_quiet (fail)
      go_wp2_with fail
      obtain ⟨w5, hw5⟩ : ∃ W, wr.drewN nq = W := ⟨_, rfl⟩
      have hb5 : Below wr.heap.size wr w5 := by rw [← hw5]; exact below_drewN (Below.refl _ _) nq
      simp only [hw5]
      clear hw5
      go_quiet (first | (go_at_call 59; refine Calls.quiet_of_same (HIB.out _ _ hb (HNO.out _ ?_)); decide +kernel))
      go_wp2_with fail
      simp (config := { zetaDelta := true }) only [Exit.noGoto_ret, Exit.inBlock, Exit.then]
      go_ret
      exact ⟨rfl, below_drewN hb5 _⟩
  · go_enter Tryd.func68, Tryd.ntmps68
    go_wp2_with fail
    refine (HVR.out _).mono ?_
    rintro e w1 ⟨rfl, rfl⟩
    go_wp2_with fail
    go_step3
    go_wp2_with fail
    go_loopw [4, 9, 10, 11, 12] (fun _ a _ _ _ wr => a = .int .i64 3 ∧ wr = w1) (fun _ _ _ _ _ _ => 0)
    case atStart => exact ⟨rfl, rfl⟩
    case round =>
      obtain ⟨rfl, rfl⟩ := hrel
      go_wp2_with fail
      go_step3
      go_wp2_with fail
      go_quiet (fail)
      go_wp2_with fail
      obtain ⟨w5, hw5⟩ : ∃ W, wr.drewN nq = W := ⟨_, rfl⟩
      have hb5 : Below wr.heap.size wr w5 := by rw [← hw5]; exact below_drewN (Below.refl _ _) nq
      simp only [hw5]
      clear hw5
      go_quiet (first | (go_at_call 59; refine Calls.quiet_of_same (HIB.out _ _ hb (HNO.out _ ?_)); decide +kernel))
      go_wp2_with fail
      simp (config := { zetaDelta := true }) only [Exit.noGoto_ret, Exit.inBlock, Exit.then]
      go_ret
      exact ⟨rfl, below_drewN hb5 _⟩
set_option maxHeartbeats 2000000 in
set_option maxRecDepth 100000 in
theorem idxRune_bad (w : World) :
    Calls Tryd.prog 68 #[.string marksB, .int .i32 65533] w fun e w' => e = .returned (.int .i64 (-1)) ∧ Below w.heap.size w w' := by
  unfold marksB
  have y2 : IntKind.i64.wrap 2 = 2 := by decide
  go_enter Tryd.func68, Tryd.ntmps68
  go_wp2_with fail
  go_loopg [4, 5, 6] 4 (fun g _ _ _ wx => ∃ i : Nat, i + g = 4 ∧ wx = w.iter ⟨#[58, 47, 63, 35]⟩ i)
  case atStart => exact ⟨0, rfl, rfl⟩
  case round =>
    obtain ⟨i, hig, rfl⟩ := hrel
    cases gk with
    | zero =>
      obtain rfl : i = 4 := by omega
      have hnx := run_next_end (P := Tryd.prog) w ⟨#[58, 47, 63, 35]⟩ 4
      go_wp2
      go_ret
      exact ⟨rfl, (Below.refl _ w).alloc (Nat.le_refl _) _⟩
    | succ g =>
      have hi : i < (⟨#[58, 47, 63, 35]⟩ : ByteArray).size := by show i < 4; omega
      have h128 : ((⟨#[58, 47, 63, 35]⟩ : ByteArray)[i]'hi).toNat < 128 := by
        match i, hi with
        | 0, _ => show (58 : Nat) < 128; decide
        | 1, _ => show (47 : Nat) < 128; decide
        | 2, _ => show (63 : Nat) < 128; decide
        | 3, _ => show (35 : Nat) < 128; decide
        | k + 4, h => exact absurd h (by show ¬ k + 4 < 4; omega)
      have hnx := fun ty => run_next_ascii (P := Tryd.prog) w ⟨#[58, 47, 63, 35]⟩ i ty hi h128
      obtain ⟨x, hx⟩ : ∃ x : Nat, ((⟨#[58, 47, 63, 35]⟩ : ByteArray)[i]'hi).toNat = x := ⟨_, rfl⟩
      rw [hx] at hnx h128
      have q : ((x : Int) == 65533) = false := beq_eq_false_iff_ne.2 (by omega)
      clear hx
      go_wp2
      go_roundg g
      case measure => omega
      case rel => exact ⟨i + 1, by omega, rfl⟩
end Go.Proofs.YtndlihpjefobcaaDoor

/-
  strings.IndexAny at the four marks of a link, at every text: its walk.
-/
namespace Go.Proofs.YtndlihpjefobcaaDoor
open Go.RowKit Go.Lib Own

/-- where the first mark lies; -1: nowhere -/
def markN (L : List UInt8) : Nat := (L.takeWhile fun c => !markT.contains c).length
def markIx (L : List UInt8) : Int := if markN L < L.length then (markN L : Int) else -1
theorem markN_is {L : List UInt8} {k : Nat} (h : ∀ j c, j < k → L[j]? = some c → markT.contains c = false) (h2 : ∀ c, L[k]? = some c → markT.contains c = true) (hk : k ≤ L.length) : markN L = k := by
  induction L generalizing k with
  | nil => simp at hk; subst hk; rfl
  | cons c r ih =>
    unfold markN
    cases k with
    | zero =>
      have := h2 c rfl
      rw [List.takeWhile_cons, this]
      rfl
    | succ k =>
      have := h 0 c (by omega) rfl
      rw [List.takeWhile_cons, this]
      simp only [Bool.not_false, if_true, List.length_cons]
      have := ih (k := k) (fun j d hj hd => h (j + 1) d (by omega) (by rw [List.getElem?_cons_succ]; exact hd)) (fun d hd => h2 d (by rw [List.getElem?_cons_succ]; exact hd)) (by simpa using hk)
      unfold markN at this
      rw [this]
theorem markIx_hit {L : List UInt8} {k : Nat} {c : UInt8} (h : ∀ j c, j < k → L[j]? = some c → markT.contains c = false) (hc : L[k]? = some c) (h2 : markT.contains c = true) : markIx L = k := by
  have hl := (List.getElem?_eq_some_iff.1 hc).1
  have hn := markN_is h (fun d hd => by obtain rfl := Option.some.inj (hc.symm.trans hd); exact h2) (by omega)
  unfold markIx
  rw [hn, if_pos hl]
theorem markIx_none {L : List UInt8} (h : ∀ j c, j < L.length → L[j]? = some c → markT.contains c = false) : markIx L = -1 := by
  have hn := markN_is (k := L.length) h (fun d hd => by have := (List.getElem?_eq_some_iff.1 hd).1; omega) (Nat.le_refl _)
  unfold markIx
  rw [hn, if_neg (by omega)]
theorem markN_all (L : List UInt8) : ∀ j c, j < markN L → L[j]? = some c → markT.contains c = false := by
  induction L with
  | nil => intro j c _ h; simp at h
  | cons d r ih =>
    intro j c hj hc
    unfold markN at hj
    rw [List.takeWhile_cons] at hj
    cases hd : markT.contains d with
    | true => rw [hd] at hj; simp at hj
    | false =>
      rw [hd] at hj
      simp only [Bool.not_false, if_true, List.length_cons] at hj
      cases j with
      | zero =>
        simp only [List.getElem?_cons_zero, Option.some.injEq] at hc
        rw [← hc]; exact hd
      | succ j =>
        rw [List.getElem?_cons_succ] at hc
        exact ih j c (by unfold markN; omega) hc
theorem markN_at (L : List UInt8) (c : UInt8) (h : L[markN L]? = some c) : markT.contains c = true := by
  induction L with
  | nil => simp at h
  | cons d r ih =>
    unfold markN at h
    rw [List.takeWhile_cons] at h
    cases hd : markT.contains d with
    | true =>
      rw [hd] at h
      simp only [Bool.not_true, Bool.false_eq_true, if_false, List.length_nil, List.getElem?_cons_zero, Option.some.injEq] at h
      rw [← h]; exact hd
    | false =>
      rw [hd] at h
      simp only [Bool.not_false, if_true, List.length_cons, List.getElem?_cons_succ] at h
      exact ih h
theorem markN_le (L : List UInt8) : markN L ≤ L.length := (List.takeWhile_prefix (p := fun c => !markT.contains c) (l := L)).length_le
theorem indexAny_mark (L : List UInt8) : Lib.indexAny L marksB.data.toList = markIx L := by
  show Lib.indexAny L markT = _
  unfold markIx
  split
  · rename_i h
    obtain ⟨c, hc⟩ : ∃ c, L[markN L]? = some c := ⟨_, List.getElem?_eq_getElem h⟩
    exact Lib.indexAny_hit (fun j b hj hb => markN_all L j b hj hb) hc (markN_at L c hc)
  · rename_i h
    have hl := markN_le L
    refine Lib.indexAny_none (fun j b hj hb => markN_all L j b (by omega) hb)

theorem iterAt_at {W : World} {k : Nat} {o : Obj} (h : W.heap[k]? = some o) {s : ByteArray} (p : Nat) : (W.iterAt k s p).heap[k]? = some (.stringIter s p) := by
  have := block_lt h
  simp [World.iterAt, this]
theorem iterAt_below {w W : World} {k : Nat} (h : Below k w W) (s : ByteArray) (p : Nat) : Below k w (W.iterAt k s p) := by
  refine ⟨h.os, h.tape, h.output, by simpa [World.iterAt] using h.size, fun j hj => ?_⟩
  rw [← h.block j hj]
  have : k ≠ j := by omega
  simp [World.iterAt, this]

set_option maxHeartbeats 4000000 in
set_option maxRecDepth 100000 in
theorem idxAny_short (s : ByteArray) (w : World) (hs : s.size ≤ 8) :
    Calls Tryd.prog 53 #[.string s, .string marksB] w fun e w' => e = .returned (.int .i64 (markIx s.data.toList)) ∧ Below w.heap.size w w' := by
  have hz := size_eq s
  have h8z : ¬ ((s.size : Int) > 8) := by omega
  have hsu : ∀ W, Calls Tryd.prog 69 #[.int .i64 (s.size : Int)] W fun e w' => e = .returned (.bool false) ∧ w' = W := fun W => by
    have h8 : decide ((8 : Int) < (s.size : Int)) = false := decide_eq_false (by omega)
    clear hz
    go_enter Tryd.func69, Tryd.ntmps69
    go_wp2_with fail
    go_ret
    exact ⟨rfl, rfl⟩
  have HSU := hid hsu
  have HZ := hid hz
  clear hsu hz h8z
  have hB0 := (Below.refl w.heap.size w)
  unfold marksB
  go_enter Tryd.func53, Tryd.ntmps53
  go_wp2_with fail
  refine (HSU.out _).mono ?_
  rintro e w1 ⟨rfl, rfl⟩
  go_wp2_with fail
  go_loopg [4, 9, 10] s.size (fun g _ _ _ wx => ∃ i : Nat, i ≤ s.size ∧ s.size ≤ i + g ∧ Hid (Below w1.heap.size w1 wx ∧ wx.heap[w1.heap.size]? = some (.stringIter s i)) ∧ Hid (∀ j c, j < i → s.data.toList[j]? = some c → markT.contains c = false))
  case atStart => exact ⟨0, Nat.zero_le _, by omega, ⟨(Below.refl _ w1).alloc (Nat.le_refl _) _, heap_alloc_new w1 _⟩, fun j c h => absurd h (Nat.not_lt_zero _)⟩
  case round =>
    obtain ⟨i, hi, hg, HX, HK⟩ := hrel
    by_cases hil : i < s.size
    · obtain ⟨x, hx⟩ : ∃ x, s[i]'hil = x := ⟨_, rfl⟩
      have hxl := getElem_list hil hx
      by_cases h128 : x.toNat < 128
      · have hnx := fun ty => Lib.run_next_ascii_at (P := Tryd.prog) wr w1.heap.size s i ty HX.out.2 hil (by rw [hx]; exact h128)
        rw [hx] at hnx
        have hri := fun W => Tryd.strings_IndexRune_ascii marksB (x.toNat : Int) W (by omega) (by omega)
        have hback : ((x.toNat : Int)).toNat.toUInt8 = x := by simp
        rw [hback] at hri
        have hcon := Lib.contains_iff_indexByte markT x
        rw [show marksB.data.toList = markT from rfl] at hri
        have hit : (wr.iterAt w1.heap.size s (i + 1)).heap[w1.heap.size]? = some (.stringIter s (i + 1)) := iterAt_at HX.out.2 _
        have hbi : Below w1.heap.size w1 (wr.iterAt w1.heap.size s (i + 1)) := iterAt_below HX.out.1 s (i + 1)
        have HI := hid (And.intro hbi hit)
        have hmk : ∀ b, markT.contains x = b → (b = true → markIx s.data.toList = i) ∧ (b = false → ∀ j c, j < i + 1 → s.data.toList[j]? = some c → markT.contains c = false) := fun b hb => ⟨fun h => markIx_hit HK.out hxl (hb.trans h), fun h j c hj hc => by
          by_cases e : j = i
          · subst e
            obtain rfl := Option.some.inj (hxl.symm.trans hc)
            exact hb.trans h
          · exact HK.out j c (by omega) hc⟩
        have HMK := hid (hmk _ rfl)
        generalize markT.contains x = b at hcon HMK
        generalize Lib.indexByte markT x = z at hri hcon
        unfold marksB at hri
        have HRI := hid hri
        clear hri hback hmk hbi hit hxl HX HK
        cases b
        · have hz : ¬ (0 : Int) ≤ z := of_decide_eq_false hcon.symm
          have HN := hid (HMK.out.2 rfl)
          clear hcon HMK
          go_wp2_with (go_at_call 68; refine (HRI.out _).mono ?_; rintro e w' ⟨rfl, rfl⟩)
          go_roundg (gk - 1)
          case measure => omega
          case rel => exact ⟨i + 1, by omega, by omega, HI, HN⟩
        · have hz : (0 : Int) ≤ z := of_decide_eq_true hcon.symm
          have hR := HMK.out.1 rfl
          clear hcon HMK
          go_wp2_with (go_at_call 68; refine (HRI.out _).mono ?_; rintro e w' ⟨rfl, rfl⟩)
          go_ret
          exact ⟨ret_i64 hR.symm, HI.out.1⟩
      · obtain ⟨n, hn⟩ : ∃ n, (Utf8.decode s i).2 = n := ⟨_, rfl⟩
        obtain ⟨c, hc⟩ : ∃ c, (Utf8.decode s i).1 = c := ⟨_, rfl⟩
        have hnx := fun ty => Lib.run_next_any_at (P := Tryd.prog) wr w1.heap.size s i ty HX.out.2 hil
        have hd := decode_high s i hil (by rw [hx]; omega)
        have hdc := decode_cont s i hil (by rw [hx]; omega)
        have hle := Lib.rune_le s i
        have hvr : ¬ (55296 ≤ c ∧ c ≤ 57343) := by
          have h1 := Lib.rune_valid (s.extract i s.size)
          rw [Lib.tail_decode, Nat.add_zero, hc] at h1
          unfold Lib.validRune at h1
          have := of_decide_eq_true h1
          omega
        rw [hc] at hd hle
        rw [hn] at hd hdc
        rw [hn, hc] at hnx
        obtain ⟨hlast, _⟩ := hdc (n - 1) (by omega)
        have hno : ∀ j c, j < i + n → s.data.toList[j]? = some c → markT.contains c = false := fun j d hj hdd => by
          by_cases e : j < i
          · exact HK.out j d e hdd
          · obtain ⟨hk2, hge⟩ := hdc (j - i) (by omega)
            have hjs : j < s.size := by omega
            have h3 := getElem_list hjs rfl
            obtain rfl := Option.some.inj (h3.symm.trans hdd)
            have hge2 : 128 ≤ (s[j]'hjs).toNat := by
              have e2 : i + (j - i) = j := by omega
              simp only [e2] at hge
              exact hge
            rw [Bool.eq_false_iff]
            intro h4
            have h5 := List.contains_iff_mem.1 h4
            simp only [markT, List.mem_cons, List.not_mem_nil, or_false] at h5
            rcases h5 with h5 | h5 | h5 | h5 <;> rw [h5] at hge2 <;> exact absurd hge2 (by decide)
        have hit : (wr.iterAt w1.heap.size s (i + n)).heap[w1.heap.size]? = some (.stringIter s (i + n)) := iterAt_at HX.out.2 _
        have hbi : Below w1.heap.size w1 (wr.iterAt w1.heap.size s (i + n)) := iterAt_below HX.out.1 s (i + n)
        have HI := hid (And.intro hbi hit)
        have hri : ∀ W, Calls Tryd.prog 68 #[.string marksB, .int .i32 (c : Int)] W fun e w' => e = .returned (.int .i64 (-1)) ∧ Below W.heap.size W w' := fun W => by
          by_cases h3 : c = 65533
          · subst h3; exact idxRune_bad W
          · exact idxRune_high (c : Int) W (by omega) (by omega) (by omega) (by omega)
        unfold marksB at hri
        have HRI := hid hri
        have HN := hid hno
        clear hri hno hdc hbi hit hxl HX HK hvr hn hc
        go_wp2_with (go_at_call 68; refine (HRI.out _).mono ?_; rintro e w5 ⟨rfl, b5⟩)
        have HZ2 := hid (And.intro (HI.out.1.trans (b5.mono HI.out.1.size)) ((b5.block _ (block_lt HI.out.2)).trans HI.out.2))
        clear b5 HI HRI
        go_roundg (gk - 1)
        case measure => omega
        case rel => exact ⟨i + n, by omega, by omega, HZ2, HN⟩
    · have hR := markIx_none (L := s.data.toList) (fun j c hj hc => HK.out j c (by rw [← HZ.out] at hj; omega) hc)
      have hnx := fun ty => Lib.run_next_end_at (P := Tryd.prog) wr w1.heap.size s i ty HX.out.2 hil
      have HB := hid HX.out.1
      clear HX HK HZ
      go_wp2_with fail
      go_ret
      exact ⟨ret_i64 hR.symm, HB.out⟩
end Go.Proofs.YtndlihpjefobcaaDoor

/-
  sieve.CleanURL: its walk.
-/
namespace Go.Proofs.YtndlihpjefobcaaDoor
open Go.RowKit Go.Lib Own

set_option maxRecDepth 100000 in
theorem idxAny_any (s : ByteArray) (w : World) (hs : s.size ≤ 1000000000) :
    Calls Tryd.prog 53 #[.string s, .string marksB] w fun e w' => e = .returned (.int .i64 (markIx s.data.toList)) ∧ Below w.heap.size w w' := by
  by_cases h8 : s.size ≤ 8
  · exact idxAny_short s w h8
  · have h116 : (Tryd.prog.info? 82).map (fun i => (i.zero, i.size)) = some (some (.agg (Array.replicate 256 (.bool false))), 256) := by kernel_rfl
    refine (Tryd.strings_IndexAny_long (zero_of_info h116).1 s marksB w (by decide) (by omega) (by omega) (by decide) (fun j b hb => ?_)).mono ?_
    · have := List.mem_of_getElem? hb
      rw [show marksB.data.toList = [58, 47, 63, 35] from rfl] at this
      simp only [List.mem_cons, List.not_mem_nil, or_false] at this
      rcases this with rfl | rfl | rfl | rfl <;> decide
    · rintro e w' ⟨rfl, rfl⟩
      rw [indexAny_mark]
      exact ⟨rfl, ((Below.refl _ w).alloc (Nat.le_refl _) _).alloc (by simp) _⟩

/-! ## stripped -/

theorem rtrim_cons (c : UInt8) (r : List UInt8) : rtrim (c :: r) = if c = 32 ∧ rtrim r = [] then [] else c :: rtrim r := by
  unfold rtrim
  rw [List.reverse_cons, List.dropWhile_append]
  by_cases h : (r.reverse.dropWhile fun c => c == 32) = []
  · rw [h]
    simp only [List.isEmpty_nil, if_true, List.reverse_nil, and_true]
    by_cases hc : c = 32
    · subst hc; simp
    · rw [if_neg hc, List.dropWhile_cons, if_neg (by simpa using hc)]
      simp
  · rw [if_neg (by simpa using h), if_neg (by rintro ⟨_, h2⟩; exact h (by simpa using h2))]
    simp
theorem trim_comm : ∀ L : List UInt8, (rtrim L).dropWhile (fun c => c == 32) = rtrim (L.dropWhile fun c => c == 32)
  | [] => rfl
  | c :: r => by
    have ih := trim_comm r
    by_cases hc : c = 32
    · subst hc
      have e1 : (32 :: r).dropWhile (fun c => c == 32) = r.dropWhile (fun c => c == 32) := rfl
      have e2 : (32 :: rtrim r).dropWhile (fun c => c == 32) = (rtrim r).dropWhile (fun c => c == 32) := rfl
      rw [e1, ← ih, rtrim_cons]
      by_cases hr : rtrim r = []
      · rw [if_pos ⟨rfl, hr⟩, hr]
      · rw [if_neg (fun h => hr h.2), e2]
    · have e1 : (c == 32) = false := beq_eq_false_iff_ne.2 hc
      have e2 : ∀ l : List UInt8, (c :: l).dropWhile (fun c => c == 32) = c :: l := fun l => by
        rw [List.dropWhile_cons, e1]
        rfl
      rw [e2, rtrim_cons, if_neg (fun h => hc h.1), e2]
theorem drop_while : ∀ L : List UInt8, L.drop (L.takeWhile [32].contains).length = L.dropWhile fun c => c == 32
  | [] => rfl
  | c :: r => by
    have ih := drop_while r
    rw [List.takeWhile_cons, List.dropWhile_cons]
    have e : [32].contains c = (c == 32) := by
      rw [List.contains_cons, List.contains_nil, Bool.or_false]
    rw [e]
    cases h : (c == 32) with
    | true =>
      simp only [if_true, List.length_cons, List.drop_succ_cons]
      exact ih
    | false => simp
theorem strip_trim (v : List UInt8) : Lib.trimB (v.filter seenB) 32 = stripL v := by
  unfold Lib.trimB Lib.trimLeftB Lib.trimRightB stripL
  rw [drop_while]
  exact trim_comm _

set_option maxHeartbeats 2000000 in
set_option maxRecDepth 100000 in
theorem strip_any (v : ByteArray) (w : World) (hv : v.size ≤ 1000000000) :
    Calls Tryd.prog 42 #[.string v] w fun e w' => e = .returned (.string (bs (stripL v.data.toList))) ∧ Below w.heap.size w w' := by
  have hz := size_eq v
  have HZ := hid hz
  have H0 : Hid (Lib.IsBuilderF 72 5 w.heap.size w.heap.size (Lib.byteCells []) (w.alloc (.cells #[.pointer none, .slice none 0 0] 72)) ∧ Below w.heap.size w (w.alloc (.cells #[.pointer none, .slice none 0 0] 72)) ∧ w.heap.size < (w.alloc (.cells #[.pointer none, .slice none 0 0] 72)).heap.size) :=
    ⟨Lib.IsBuilderF.of (Or.inl ⟨Nat.le_refl _, .slice none 0 0, heap_alloc_new w _, World.ownsRow_nil _ _ _ _, by simp [Value.ownBlock]⟩), (Below.refl _ w).alloc (Nat.le_refl _) _, by simp⟩
  clear hz
  go_enter Tryd.func42, Tryd.ntmps42
  go_wp2_with fail
  go_loopw [4, 5, 8] (fun _ _ iv wr => ∃ k : Nat, iv = .int .i64 k ∧ k ≤ v.size ∧ Hid (Lib.IsBuilderF 72 5 w.heap.size w.heap.size (Lib.byteCells ((v.data.toList.take k).filter seenB)) wr ∧ Below w.heap.size w wr ∧ w.heap.size < wr.heap.size)) (fun _ _ iv _ => v.size - (RowKit.intOf iv).toNat)
  case atStart => exact ⟨0, rfl, Nat.zero_le _, H0⟩
  case round =>
    obtain ⟨k, rfl, hk, HX⟩ := hrel
    by_cases hkl : k < v.size
    · obtain ⟨c, hc⟩ : ∃ c, v[k]'hkl = c := ⟨_, rfl⟩
      have hcl := getElem_list hkl hc
      have hst := filter_step (p := seenB) hcl
      have hln : ((v.data.toList.take k).filter seenB).length ≤ k := Nat.le_trans (List.length_filter_le _ _) (by rw [List.length_take]; omega)
      have hu := UInt8.toNat_lt c
      have hsb : seenB c = (decide (32 ≤ (c.toNat : Int)) && ((c.toNat : Int) != 127)) := by
        unfold seenB
        rw [decide_eq_decide.2 (show (31 < (c.toNat : Int)) ↔ (32 ≤ (c.toNat : Int)) by omega)]
      rw [hsb] at hst
      have HST := hid (fun (_ : True) => hst)
      have HLN := hid hln
      clear hcl hst hsb hln
      by_cases z1 : (32 : Int) ≤ (c.toNat : Int)
      · by_cases z2 : (c.toNat : Int) = 127
        · have q2 : ((c.toNat : Int) != 127) = false := by rw [z2]; rfl
          have HE := hid (fun (_ : True) => (by have := HST.out trivial; rwa [q2, Bool.and_false, if_neg (by simp), List.append_nil] at this : (v.data.toList.take (k + 1)).filter seenB = (v.data.toList.take k).filter seenB))
          clear z2 HST
          go_wp2_with fail
          go_roundw
          case rel => exact ⟨k + 1, rfl, by omega, by rw [HE.out trivial]; exact HX⟩
          case measure => simp [RowKit.intOf]; omega
        · have q2 : ((c.toNat : Int) != 127) = true := bne_iff_ne.2 z2
          have HE := hid (fun (_ : True) => (by have := HST.out trivial; rwa [q2, decide_eq_true z1, Bool.and_self, if_pos rfl] at this : (v.data.toList.take (k + 1)).filter seenB = (v.data.toList.take k).filter seenB ++ [c]))
          clear z2 HST
          go_wp2_with fail
          refine (Tryd.Builder_WriteByte_k w.heap.size w.heap.size (Lib.byteCells ((v.data.toList.take k).filter seenB)) (c.toNat : Int) _ HX.out.1 (by rw [Lib.byteCells_length]; have := HLN.out; omega) (by have := HX.out.2.2; omega)).mono ?_
          rintro e w2 ⟨rfl, g1, g2, g3⟩
          have HZ2 : Hid (Lib.IsBuilderF 72 5 w.heap.size w.heap.size (Lib.byteCells ((v.data.toList.take (k + 1)).filter seenB)) w2 ∧ Below w.heap.size w w2 ∧ w.heap.size < w2.heap.size) :=
            ⟨by rw [HE.out trivial, Lib.byteCells_append]; exact Or.inr g1, HX.out.2.1.trans g2, by have := g2.size; have := HX.out.2.2; omega⟩
          clear g1 g2 g3 HX HE HLN
          go_wp2_with fail
          go_roundw
          case rel => exact ⟨k + 1, rfl, by omega, HZ2⟩
          case measure => simp [RowKit.intOf]; omega
      · have HE := hid (fun (_ : True) => (by have := HST.out trivial; rwa [decide_eq_false z1, Bool.false_and, if_neg (by simp), List.append_nil] at this : (v.data.toList.take (k + 1)).filter seenB = (v.data.toList.take k).filter seenB))
        clear HST
        go_wp2_with fail
        go_roundw
        case rel => exact ⟨k + 1, rfl, by omega, by rw [HE.out trivial]; exact HX⟩
        case measure => simp [RowKit.intOf]; omega
    · have hall : (v.data.toList.take k).filter seenB = v.data.toList.filter seenB := by rw [List.take_of_length_le (by rw [← HZ.out]; omega)]
      have HX2 := HX.out
      rw [hall] at HX2
      obtain ⟨F, hF⟩ : ∃ F, v.data.toList.filter seenB = F := ⟨_, rfl⟩
      have hFl : F.length ≤ 1000000000 := by rw [← hF]; exact Nat.le_trans (List.length_filter_le _ _) (by rw [← HZ.out]; omega)
      have hst := strip_trim v.data.toList
      rw [hF] at HX2 hst
      have hrw : bs (stripL v.data.toList) = bs (Lib.trimB F 32) := by rw [hst]
      have HRW := hid (fun (_ : True) => hrw)
      have HY := hid HX2
      have htr := fun W => Tryd.strings_Trim_one (bs F) 32 (by decide) W (by rw [bs_size]; omega)
      rw [bs_data] at htr
      unfold bs at htr
      have HTR := hid htr
      clear HX HX2 hall hF hst hrw HZ htr H0
      go_wp2_with fail
      refine (Tryd.Builder_String_any_k w.heap.size w.heap.size F _ HY.out.1 (by have := HY.out.2.2; omega)).mono ?_
      rintro e w2 ⟨rfl, _, g2, _⟩
      go_wp2_with fail
      refine (HTR.out _).mono ?_
      rintro e w3 ⟨rfl, h3⟩
      have hb3 : Below w.heap.size w w3 := by
        have := HY.out.2.1.trans g2
        rcases h3 with h3 | h3 <;> rw [h3]
        · exact this
        · exact this.drew
      clear g2 h3
      go_wp2_with fail
      go_ret
      exact ⟨by rw [HRW.out trivial]; rfl, hb3⟩
/-- the scheme of a link in lower case, if it has one -/
def schemeP (L : List UInt8) : List UInt8 × Bool := if L[markN L]? = some 58 then ((L.take (markN L)).map lowC, true) else ([], false)
theorem link_eq (schemes : List (List UInt8)) (v : List UInt8) : linkL schemes v = if (stripL v)[markN (stripL v)]? = some 58 ∧ schemes.contains (((stripL v).take (markN (stripL v))).map lowC) = false then ([], false) else (stripL v, true) := rfl
theorem link_scheme (schemes : List (List UInt8)) (v : List UInt8) : linkL schemes v = if (schemeP (stripL v)).2 = true ∧ schemes.contains (schemeP (stripL v)).1 = false then ([], false) else (stripL v, true) := by
  rw [link_eq]
  unfold schemeP
  by_cases h : (stripL v)[markN (stripL v)]? = some 58
  · rw [if_pos h]
    simp only [h, true_and]
  · rw [if_neg h, if_neg (fun h2 => h h2.1), if_neg (fun h2 => by simp at h2)]

set_option maxHeartbeats 2000000 in
set_option maxRecDepth 100000 in
theorem schemeOf_any (s : ByteArray) (w : World) (hs : s.size ≤ 10000000) :
    Calls Tryd.prog 43 #[.string s] w fun e w' => e = .returned (.tuple #[.string (bs (schemeP s.data.toList).1), .bool (schemeP s.data.toList).2]) ∧ Below w.heap.size w w' := by
  have hz := size_eq s
  have hix := idxAny_any s w (by omega)
  have hml := markN_le s.data.toList
  rw [← hz] at hml
  unfold marksB at hix
  unfold markIx at hix
  rw [← hz] at hix
  unfold schemeP
  by_cases hlt : markN s.data.toList < s.size
  · rw [if_pos hlt] at hix
    obtain ⟨n, hn⟩ : ∃ n, markN s.data.toList = n := ⟨_, rfl⟩
    rw [hn] at hix hlt ⊢
    obtain ⟨c, hc⟩ : ∃ c, s[n]'hlt = c := ⟨_, rfl⟩
    have hcl := getElem_list hlt hc
    have q0 : ¬ (n : Int) < 0 := by omega
    rw [hcl]
    have HIX := hid hix
    by_cases h58 : c = 58
    · subst h58
      rw [if_pos rfl]
      have q2 : (((58 : UInt8).toNat : Int) != 58) = false := rfl
      have hlo := fun W => lower_any (s.extract 0 n) W (by rw [size_eq, extract_list]; simp; omega)
      rw [show (s.extract 0 n).data.toList = s.data.toList.take n from by rw [extract_list]; simp] at hlo
      obtain ⟨X, hX⟩ : ∃ X, bs ((s.data.toList.take n).map lowC) = X := ⟨_, rfl⟩
      simp only
      rw [hX]
      have HLO : Hid (∀ W, Calls Tryd.prog 54 #[.string (s.extract 0 n)] W fun e w' => e = .returned (.string X) ∧ Below W.heap.size W w') := by rw [← hX]; exact hlo
      clear hix hcl hlo hml hn hz hX
      go_enter Tryd.func43, Tryd.ntmps43
      go_wp2_with (first | (go_at_call 53; refine HIX.out.mono ?_; rintro e w1 ⟨rfl, b1⟩) | (go_at_call 54; refine (HLO.out _).mono ?_; rintro e w2 ⟨rfl, b2⟩))
      go_ret2
      exact ⟨rfl, b1.trans (b2.mono b1.size)⟩
    · rw [if_neg (by simpa using h58)]
      have hne : c.toNat ≠ 58 := fun e => h58 (UInt8.toNat_inj.1 (e.trans rfl))
      have q2 : ((c.toNat : Int) != 58) = true := bne_iff_ne.2 (by omega)
      clear hix hcl hml hn hz h58 hne
      go_enter Tryd.func43, Tryd.ntmps43
      go_wp2_with (go_at_call 53; refine HIX.out.mono ?_; rintro e w1 ⟨rfl, b1⟩)
      go_ret2
      exact ⟨rfl, b1⟩
  · rw [if_neg hlt] at hix
    rw [if_neg (fun h => hlt (by have := (List.getElem?_eq_some_iff.1 h).1; rw [hz]; exact this))]
    have HIX := hid hix
    clear hix hml hz
    go_enter Tryd.func43, Tryd.ntmps43
    go_wp2_with (go_at_call 53; refine HIX.out.mono ?_; rintro e w1 ⟨rfl, b1⟩)
    go_ret2
    exact ⟨rfl, b1⟩

set_option maxHeartbeats 2000000 in
set_option maxRecDepth 100000 in
theorem cleanURL_any (sv : Value) (schemes : List (List UInt8)) (v : ByteArray) (w : World) (h : Words w sv schemes) (hv : v.size ≤ 10000000) :
    Calls Tryd.prog 26 #[sv, .string v] w fun e w' => e = .returned (.tuple #[.string (bs (linkL schemes v.data.toList).1), .bool (linkL schemes v.data.toList).2]) ∧ Below w.heap.size w w' := by
  have hsl : (stripL v.data.toList).length ≤ v.size := by
    rw [← strip_trim, size_eq]
    unfold Lib.trimB Lib.trimLeftB Lib.trimRightB
    have h1 : ∀ (p : UInt8 → Bool) (l : List UInt8), (l.dropWhile p).length ≤ l.length := fun p l => (List.dropWhile_suffix p).length_le
    have h2 := h1 (fun c => c == 32) ((List.filter seenB v.data.toList).reverse.dropWhile fun c => c == 32).reverse
    have h3 := h1 (fun c => c == 32) (List.filter seenB v.data.toList).reverse
    have h4 := List.length_filter_le seenB v.data.toList
    rw [List.length_reverse] at h2
    rw [List.length_reverse] at h3
    omega
  have hst := strip_any v w (by omega)
  have hsc := fun W => schemeOf_any (bs (stripL v.data.toList)) W (by rw [bs_size]; omega)
  rw [bs_data] at hsc
  rw [link_scheme]
  generalize stripL v.data.toList = L at hsl hst hsc ⊢
  obtain ⟨S, hS⟩ : ∃ S, bs L = S := ⟨_, rfl⟩
  have hz : L.length ≤ 10000000 := by omega
  obtain ⟨q, hq⟩ : ∃ q, schemeP L = q := ⟨_, rfl⟩
  obtain ⟨sch, fnd⟩ := q
  rw [hq] at hsc ⊢
  rw [hS] at hst hsc
  simp only at hsc ⊢
  obtain ⟨X, hX⟩ : ∃ X, bs sch = X := ⟨_, rfl⟩
  rw [hX] at hsc
  have hct := fun W hW => slContains_any sv schemes X W hW
  rw [← hX, bs_toList, hX] at hct
  have HW := hid h
  obtain ⟨sp, sc, rfl, _⟩ := h.len
  have HST := hid hst
  have HSC := hid hsc
  clear hst hsc hsl hq h hX
  cases fnd
  · rw [if_neg (fun h => by simp at h), hS]
    clear hct hS
    go_enter Tryd.func26, Tryd.ntmps26
    go_wp2_with (first | (go_at_call 42; refine HST.out.mono ?_; rintro e w1 ⟨rfl, b1⟩) | (go_at_call 43; refine (HSC.out _).mono ?_; rintro e w2 ⟨rfl, b2⟩))
    go_ret2
    exact ⟨rfl, b1.trans (b2.mono b1.size)⟩
  · obtain ⟨B, hB⟩ : ∃ B, schemes.contains sch = B := ⟨_, rfl⟩
    rw [hB] at hct ⊢
    have HCT := hid hct
    clear hct hB
    cases B
    · rw [if_pos ⟨rfl, rfl⟩]
      clear hS
      go_enter Tryd.func26, Tryd.ntmps26
      go_wp2_with (first | (go_at_call 42; refine HST.out.mono ?_; rintro e w1 ⟨rfl, b1⟩) | (go_at_call 43; refine (HSC.out _).mono ?_; rintro e w2 ⟨rfl, b2⟩; have HB := hid (b1.trans (b2.mono b1.size)); clear b1 b2) | (go_at_call 35; refine (HCT.out _ (HW.out.below HB.out)).mono ?_; rintro e w3 ⟨rfl, rfl⟩))
      go_ret2
      exact ⟨rfl, HB.out⟩
    · rw [if_neg (fun h => by simp at h), hS]
      clear hS
      go_enter Tryd.func26, Tryd.ntmps26
      go_wp2_with (first | (go_at_call 42; refine HST.out.mono ?_; rintro e w1 ⟨rfl, b1⟩) | (go_at_call 43; refine (HSC.out _).mono ?_; rintro e w2 ⟨rfl, b2⟩; have HB := hid (b1.trans (b2.mono b1.size)); clear b1 b2) | (go_at_call 35; refine (HCT.out _ (HW.out.below HB.out)).mono ?_; rintro e w3 ⟨rfl, rfl⟩))
      go_ret2
      exact ⟨rfl, HB.out⟩
theorem polClean_any (sv : Value) (schemes : List (List UInt8)) (v : ByteArray) (w : World) (h : Words w sv schemes) (hv : v.size ≤ 10000000) :
    Calls Tryd.prog 8 #[sv, .string v] w fun e w' => e = .returned (.tuple #[.string (bs (linkL schemes v.data.toList).1), .bool (linkL schemes v.data.toList).2]) ∧ Below w.heap.size w w' := by
  have hc := cleanURL_any sv schemes v w h hv
  obtain ⟨sp, sc, rfl, _⟩ := h.len
  generalize linkL schemes v.data.toList = q at hc ⊢
  obtain ⟨q1, q2⟩ := q
  simp only at hc ⊢
  obtain ⟨X, hX⟩ : ∃ X, bs q1 = X := ⟨_, rfl⟩
  rw [hX] at hc ⊢
  have HC := hid hc
  clear hc hX h
  go_enter Tryd.func8, Tryd.ntmps8
  go_wp2_with (go_at_call 26; refine HC.out.mono ?_; rintro e w1 ⟨rfl, b1⟩)
  go_ret2
  exact ⟨rfl, b1⟩
end Go.Proofs.YtndlihpjefobcaaDoor

/-
  The law LawCheck: its walk.
-/
namespace Go.Proofs.YtndlihpjefobcaaDoor
open Go.RowKit Go.Lib Own

theorem strip_len (v : List UInt8) : (stripL v).length ≤ v.length := by
  obtain ⟨t, ht⟩ := rtrim_front ((v.filter seenB).dropWhile [32].contains)
  rw [← strip_eq v] at ht
  have h1 := congrArg List.length ht
  rw [List.length_append] at h1
  have h2 := (List.dropWhile_sublist (p := [32].contains) (l := v.filter seenB)).length_le
  have h3 := List.length_filter_le seenB v
  omega
theorem link_len (schemes : List (List UInt8)) (v : List UInt8) : (linkL schemes v).1.length ≤ v.length := by
  unfold linkL
  split
  · simp
  · exact strip_len v

set_option maxHeartbeats 8000000 in
set_option maxRecDepth 100000 in
theorem lawCheck_walk (vr vs vd mv : Value) (P : PolP) (ms : List (List UInt8)) (v : ByteArray) (w : World) (h : PolR w vr vs vd P) (hF : P.Few) (hM : Words w mv ms) (hm : ms.length ≤ 2000000) (hv : v.size ≤ 4000000) (hT : AttrTab w) (hK : KindsTab w) (hV : VAttrTab w) :
    Calls Tryd.prog 3 #[.agg (polC vr vs vd P), .string v, mv] w fun e w' => e = .returned (.bool true) ∧ Below w.heap.size w w' := by
  obtain ⟨rp, rn, rc, rfl⟩ := h.rules.shape
  obtain ⟨sp, sn, sc, rfl⟩ := h.schemes.shape
  obtain ⟨dp, dn, dc, rfl⟩ := h.drop.shape
  obtain ⟨mp, mn, mc, rfl⟩ := hM.shape
  obtain ⟨W0, hW0⟩ : ∃ W0, (w.alloc (.cells (polC (.slice rp rn rc) (.slice sp sn sc) (.slice dp dn dc) P) 25)) = W0 := ⟨_, rfl⟩
  have hB : Below w.heap.size w W0 := by
    rw [← hW0]
    exact (Below.refl w.heap.size w).alloc (Nat.le_refl _) _
  have b0 : W0.heap[w.heap.size]? = some (.cells (polC (.slice rp rn rc) (.slice sp sn sc) (.slice dp dn dc) P) 25 (0, 0)) := by
    rw [← hW0]
    exact heap_alloc_new w _
  obtain ⟨l, ok, hlk⟩ : ∃ l ok, linkL P.schemes v.data.toList = (l, ok) := ⟨_, _, rfl⟩
  have hll : l.length ≤ v.size := by
    have := link_len P.schemes v.data.toList
    rw [hlk] at this
    rw [size_eq]
    exact this
  have hl2 : ok = true → linkL P.schemes l = (l, true) := fun e => by
    have := link_two P.schemes v.data.toList (by rw [hlk]; exact e)
    rw [hlk, e] at this
    exact this
  have hs8 := hF.schemes
  have hp0 := h.below hB
  have hr1 := fun W (hW : Below W0.heap.size W0 W) => refCheck_any _ _ _ P W (hp0.below hW) hF ((hT.below hB).below hW)
  have hr2 := fun W (hW : Below W0.heap.size W0 W) => refClean_any _ P.schemes v W (hp0.schemes.below hW) (by omega) hv
  have hr3 := fun W (hW : Below W0.heap.size W0 W) => lendPolicy_any _ _ _ _ P ms W (hp0.below hW) hF ((hM.below hB).below hW) hm
  have hr4 := fun W (hW : Below W0.heap.size W0 W) a b c (hq : PolR W a b c P) => check_any a b c P W hq hF ((hK.below hB).below hW) ((hV.below hB).below hW)
  have hr5 := fun W a (hq : Words W a P.schemes) => polClean_any a P.schemes v W hq (by omega)
  have hr6 := fun W (hW : Below W0.heap.size W0 W) q (hq : LentR W q P ms) => keptPolicy_any q _ _ _ _ P ms W hq (hp0.below hW) hF ((hM.below hB).below hW) hm
  have hr7 := fun W a (hq : Words W a P.schemes) => polClean_any a P.schemes (bs l) W hq (by rw [bs_size]; omega)
  rw [hlk] at hr2 hr5
  obtain ⟨l2, ok2, hlk2⟩ : ∃ l2 ok2, linkL P.schemes l = (l2, ok2) := ⟨_, _, rfl⟩
  rw [show (bs l).data.toList = l from rfl, hlk2] at hr7
  rw [hlk2] at hl2
  rw [check_same] at hr4
  have H1 := hid hr1
  have H2 := hid hr2
  have H3 := hid hr3
  have H4 := hid hr4
  have H5 := hid hr5
  have H6 := hid hr6
  have H7 := hid hr7
  have HB := hid (And.intro hB (And.intro b0 hp0))
  have HL := hid hl2
  obtain ⟨c0, c1, c2, c3, c4⟩ := polC_at (P := P) b0
  obtain ⟨cp, hcp⟩ : ∃ cp : Int, ((checkP P : Nat) : Int) = cp := ⟨_, rfl⟩
  simp only [hcp] at H1 H4
  obtain ⟨L, hL⟩ : ∃ L, bs l = L := ⟨_, rfl⟩
  simp only [hL] at H2 H5 H7
  clear h hF hM hm hv hT hK hV hB b0 hp0 hr1 hr2 hr3 hr4 hr5 hr6 hr7 hlk hll hl2 hs8 hcp
  unfold polC at hW0 H1 H3 H4 H6 ⊢
  go_enter Tryd.func3, Tryd.ntmps3
  go_wp2_with fail
  refine (H1.out _ (Below.refl _ _)).mono ?_
  rintro e w1 ⟨rfl, hb1⟩
  replace c0 := cell_kept c0 hb1
  replace c1 := cell_kept c1 hb1
  replace c2 := cell_kept c2 hb1
  replace c3 := cell_kept c3 hb1
  replace c4 := cell_kept c4 hb1
  have HK := hid hb1
  clear hb1
  go_wp2_with fail
  refine (H2.out _ HK.out).mono ?_
  rintro e w2 ⟨rfl, hb2⟩
  replace c0 := cell_kept c0 hb2
  replace c1 := cell_kept c1 hb2
  replace c2 := cell_kept c2 hb2
  replace c3 := cell_kept c3 hb2
  replace c4 := cell_kept c4 hb2
  have hk2 := HK.out.trans (hb2.mono HK.out.size)
  clear HK hb2
  have HK := hid hk2
  clear hk2
  go_wp2_with fail
  refine (H3.out _ HK.out).mono ?_
  rintro e w3 ⟨lv, rfl, hlent, hb3⟩
  replace c0 := cell_kept c0 hb3
  replace c1 := cell_kept c1 hb3
  replace c2 := cell_kept c2 hb3
  replace c3 := cell_kept c3 hb3
  replace c4 := cell_kept c4 hb3
  have hk3 := HK.out.trans (hb3.mono HK.out.size)
  have HE := hid hlent
  obtain ⟨br, bs_, bd, bR, bA, bS, bD, rfl, l1, l2, l3, l4, l5⟩ := hlent
  obtain ⟨aR1, aR2, aR3, rfl⟩ := l2.shape
  obtain ⟨aS1, aS2, aS3, rfl⟩ := l4.shape
  obtain ⟨aD1, aD2, aD3, rfl⟩ := l5.shape
  obtain ⟨b01, b02, b03, rfl⟩ := l1.rules.shape
  obtain ⟨b11, b12, b13, rfl⟩ := l1.schemes.shape
  obtain ⟨b21, b22, b23, rfl⟩ := l1.drop.shape
  obtain ⟨aA1, aA3, rfl, _⟩ := l3
  generalize (P.rules.map fun q => q.2 ++ ms).length = aA2 at HE ⊢
  have HP3 := hid l1
  clear HK hb3 l1 l2 l4 l5
  have HK := hid hk3
  clear hk3
  go_upto_region 4 with fail
  have hb4 : Below w3.heap.size w3 (w3.alloc (.cells #[.slice b01 b02 b03, .slice b11 b12 b13, .slice b21 b22 b23, .int .i64 P.depth, .int .i64 P.window, .slice aR1 aR2 aR3, .slice aA1 aA2 aA3, .slice aS1 aS2 aS3, .slice aD1 aD2 aD3] 31)) := (Below.refl _ _).alloc (Nat.le_refl _) _
  have ha4 := heap_alloc_new w3 (.cells #[.slice b01 b02 b03, .slice b11 b12 b13, .slice b21 b22 b23, .int .i64 P.depth, .int .i64 P.window, .slice aR1 aR2 aR3, .slice aA1 aA2 aA3, .slice aS1 aS2 aS3, .slice aD1 aD2 aD3] 31)
  obtain ⟨B4, hB4⟩ : ∃ B4, w3.heap.size = B4 := ⟨_, rfl⟩
  obtain ⟨W4, hW4⟩ : ∃ W4, w3.alloc (.cells #[.slice b01 b02 b03, .slice b11 b12 b13, .slice b21 b22 b23, .int .i64 P.depth, .int .i64 P.window, .slice aR1 aR2 aR3, .slice aA1 aA2 aA3, .slice aS1 aS2 aS3, .slice aD1 aD2 aD3] 31) = W4 := ⟨_, rfl⟩
  simp only [hW4] at hb4 ha4 ⊢
  have HE4 := hid (HE.out.below hb4)
  have HP4 := hid (HP3.out.below hb4)
  clear HE HP3 hW4
  replace c0 := cell_kept c0 hb4
  replace c1 := cell_kept c1 hb4
  replace c2 := cell_kept c2 hb4
  replace c3 := cell_kept c3 hb4
  replace c4 := cell_kept c4 hb4
  have hk4 := HK.out.trans (hb4.mono HK.out.size)
  clear HK
  have HK := hid hk4
  clear hk4
  clear hb4
  simp only [hB4] at ha4 ⊢
  clear hB4
  obtain ⟨z0, z1, z2, z3, z4, z5, z6, z7, z8, -⟩ := lp_cells ha4
  clear ha4
  go_wp2_with fail
  refine (H4.out _ HK.out _ _ _ HP4.out).mono ?_
  rintro e w5 ⟨rfl, hb5⟩
  replace c0 := cell_kept c0 hb5
  replace c1 := cell_kept c1 hb5
  replace c2 := cell_kept c2 hb5
  replace c3 := cell_kept c3 hb5
  replace c4 := cell_kept c4 hb5
  replace z0 := cell_kept z0 hb5
  replace z1 := cell_kept z1 hb5
  replace z2 := cell_kept z2 hb5
  replace z3 := cell_kept z3 hb5
  replace z4 := cell_kept z4 hb5
  replace z5 := cell_kept z5 hb5
  replace z6 := cell_kept z6 hb5
  replace z7 := cell_kept z7 hb5
  replace z8 := cell_kept z8 hb5
  have hk5 := HK.out.trans (hb5.mono HK.out.size)
  clear HK
  have HK := hid hk5
  clear hk5
  have HE5 := hid (HE4.out.below hb5)
  have HP5 := hid (HP4.out.below hb5)
  clear HE4 HP4 hb5
  go_wp2_with fail
  refine (H5.out _ _ HP5.out.schemes).mono ?_
  rintro e w6 ⟨rfl, hb6⟩
  replace c0 := cell_kept c0 hb6
  replace c1 := cell_kept c1 hb6
  replace c2 := cell_kept c2 hb6
  replace c3 := cell_kept c3 hb6
  replace c4 := cell_kept c4 hb6
  replace z0 := cell_kept z0 hb6
  replace z1 := cell_kept z1 hb6
  replace z2 := cell_kept z2 hb6
  replace z3 := cell_kept z3 hb6
  replace z4 := cell_kept z4 hb6
  replace z5 := cell_kept z5 hb6
  replace z6 := cell_kept z6 hb6
  replace z7 := cell_kept z7 hb6
  replace z8 := cell_kept z8 hb6
  have hk6 := HK.out.trans (hb6.mono HK.out.size)
  clear HK
  have HK := hid hk6
  clear hk6
  have HE6 := hid (HE5.out.below hb6)
  clear HE5 HP5 hb6
  have q1 : (cp != cp) = false := by simp
  have q3 : (ok != ok) = false := by simp
  go_wp2_with fail
  refine (H6.out _ HK.out _ HE6.out).mono ?_
  rintro e w7 ⟨rfl, hb7⟩
  replace c0 := cell_kept c0 hb7
  replace c1 := cell_kept c1 hb7
  replace c2 := cell_kept c2 hb7
  replace c3 := cell_kept c3 hb7
  replace c4 := cell_kept c4 hb7
  have hk7 := HK.out.trans (hb7.mono HK.out.size)
  clear HK
  have HK := hid hk7
  clear hk7
  clear HE6 z0 z1 z2 z3 z4 z5 z6 z7 z8 q1 q3
  have hS7 := HB.out.2.2.schemes.below HK.out
  go_wp2_with fail
  refine (H7.out _ _ hS7).mono ?_
  rintro e w8 ⟨rfl, hb8⟩
  replace c0 := cell_kept c0 hb8
  replace c1 := cell_kept c1 hb8
  replace c2 := cell_kept c2 hb8
  replace c3 := cell_kept c3 hb8
  replace c4 := cell_kept c4 hb8
  have hk8 := HK.out.trans (hb8.mono HK.out.size)
  clear HK
  have HK := hid hk8
  clear hk8
  clear hb7 hb8 hS7
  cases ok
  · clear HL
    go_wp2_with fail
    refine (H4.out _ HK.out _ _ _ (HB.out.2.2.below HK.out)).mono ?_
    rintro e w9 ⟨rfl, hb9⟩
    replace c0 := cell_kept c0 hb9
    replace c1 := cell_kept c1 hb9
    replace c2 := cell_kept c2 hb9
    replace c3 := cell_kept c3 hb9
    replace c4 := cell_kept c4 hb9
    have hk9 := HK.out.trans (hb9.mono HK.out.size)
    clear HK
    have HK := hid hk9
    clear hk9
    clear hb9
    have hS9 := HB.out.2.2.schemes.below HK.out
    go_wp2_with fail
    refine (H5.out _ _ hS9).mono ?_
    rintro e w10 ⟨rfl, hb10⟩
    have hk10 := HK.out.trans (hb10.mono HK.out.size)
    have HZ := hid (HB.out.1.trans (hk10.mono HB.out.1.size))
    clear hb10 hk10 hS9 HK
    have q4 : (cp == cp) = true := by simp
    go_wp2_with fail
    go_ret
    exact ⟨by simp, HZ.out⟩
  · obtain ⟨rfl, rfl⟩ := Prod.mk.inj (HL.out rfl)
    clear HL
    rw [hL]
    go_wp2_with fail
    refine (H4.out _ HK.out _ _ _ (HB.out.2.2.below HK.out)).mono ?_
    rintro e w9 ⟨rfl, hb9⟩
    replace c0 := cell_kept c0 hb9
    replace c1 := cell_kept c1 hb9
    replace c2 := cell_kept c2 hb9
    replace c3 := cell_kept c3 hb9
    replace c4 := cell_kept c4 hb9
    have hk9 := HK.out.trans (hb9.mono HK.out.size)
    clear HK
    have HK := hid hk9
    clear hk9
    clear hb9
    have hS9 := HB.out.2.2.schemes.below HK.out
    go_wp2_with fail
    refine (H5.out _ _ hS9).mono ?_
    rintro e w10 ⟨rfl, hb10⟩
    have hk10 := HK.out.trans (hb10.mono HK.out.size)
    have HZ := hid (HB.out.1.trans (hk10.mono HB.out.1.size))
    clear hb10 hk10 hS9 HK
    have q4 : (cp == cp) = true := by simp
    go_wp2_with fail
    go_ret
    exact ⟨by simp, HZ.out⟩
end Go.Proofs.YtndlihpjefobcaaDoor

/-
  From what a row says of the tables of words to what lies in memory.
-/
namespace Go.Proofs.YtndlihpjefobcaaDoor
open Go.RowKit Go.Lib Go.ChangeShapes Go.Deep

theorem range_ofK {P : Program} {w : World} {n : String} {g : Nat} {cs : Array Value} {L : List Value} (hg : P.globalNamed n = some g) (hvar : w.var? P n = some cs) (h : ∀ (j : Nat) (v : Value), L[j]? = some v → cs.toList[j]? = some v) : w.rangeAt g 0 L := by
  intro j v hv
  rw [Nat.zero_add, World.var?_cell hg hvar j, ← Array.getElem?_toList]
  exact h j v hv
theorem one_atK {α : Type} {l : List α} {j : Nat} {x : α} (h : (l.drop j).take 1 = [x]) : l[j]? = some x := by
  have := congrArg (·[0]?) h
  simpa using this
theorem strs_ofK {P : Program} {w : World} {n : String} {g t e m : Nat} {T : List (List UInt8)} (hg : P.globalNamed n = some g) (ht : (P.globals[g]?).map (·.type) = some t)
    (hu : P.underlying t = some (.array m e)) (he : P.underlying e = some .string) (hce : P.cellsOf e = 1) (hm : T.length = m) (h : VarReads P w n (.agg (T.map fun x => .lit (.string x)))) : w.rangeAt g 0 (T.map fun s => .string (bs s)) := by
  obtain ⟨g', t', cs, fuel, p, hg', hty, hvar, hd⟩ := h
  obtain rfl := Option.some.inj (hg.symm.trans hg')
  obtain rfl := Option.some.inj (ht.symm.trans hty)
  refine range_ofK hg hvar (fun j v hv => ?_)
  rw [List.getElem?_map] at hv
  obtain ⟨x, hx, rfl⟩ := Option.map_eq_some_iff.1 hv
  obtain ⟨fuel', d, q, hdi, hel⟩ := array_elem hu hd j (by rw [← hm]; exact (List.getElem?_eq_some_iff.1 hx).1)
  rw [List.getElem?_map, hx] at hdi
  simp only [Option.map_some, Option.some.injEq] at hdi
  subst hdi
  rw [hce, Nat.mul_one] at hel
  obtain ⟨s, hs, hx2, _⟩ := DataW.trod_string he hel
  simp only [Prod.mk.injEq, DataW.lit.injEq, Lit.string.injEq] at hx2
  rw [one_atK hs, hx2.1]
  rfl

theorem list3 {l : List Value} {a b c : Value} (hl : l.length = 3) (h0 : (l.drop 0).take 1 = [a]) (h1 : (l.drop 1).take 1 = [b]) (h2 : (l.drop 2).take 1 = [c]) : l = [a, b, c] := by
  match l, hl with
  | [x, y, z], _ =>
    simp only [List.drop_zero, List.take_succ_cons, List.take_zero, List.drop_succ_cons, List.cons.injEq, and_true] at h0 h1 h2
    rw [h0, h1, h2]
theorem add_noneK (b o : Nat) (n : Nat) : (⟨b, o, none⟩ : Addr).add n = ⟨b, o + n, none⟩ := by unfold Addr.add; split <;> simp_all
theorem kinds_of {w : World} (h : VarReads Tryd.prog w "scrub/vocabulary.kinds" (.agg (kindT.map fun x => .agg [.slice (x.1.map fun s => .lit (.string s)) [], .lit (.int .i64 x.2.1), .lit (.int .i64 x.2.2)]))) : KindsTab w := by
  obtain ⟨g', t', cs, fuel, p, hg', hty, hvar, hd⟩ := h
  obtain rfl := Option.some.inj ((show Tryd.prog.globalNamed "scrub/vocabulary.kinds" = some 0 by kernel_rfl).symm.trans hg')
  obtain rfl := Option.some.inj ((show (Tryd.prog.globals[0]?).map (·.type) = some 67 by kernel_rfl).symm.trans hty)
  obtain ⟨_, _, _, _, hlen, _⟩ := DataW.trod_array Tryd.underlying67 hd
  have k36 : Tryd.prog.cellsOf 67 = 36 := by kernel_rfl
  have k3 : Tryd.prog.cellsOf 66 = 3 := by kernel_rfl
  have k1 : Tryd.prog.cellsOf 23 = 1 := by kernel_rfl
  have ki : Tryd.prog.cellsOf 3 = 1 := by kernel_rfl
  refine ⟨cs.toList, by rw [← k36]; exact hlen, range_ofK (by kernel_rfl) hvar (fun j v hv => hv), fun k x hx => ?_⟩
  obtain ⟨fuel', d, q, hdi, hel⟩ := array_elem Tryd.underlying67 hd k (by have := (List.getElem?_eq_some_iff.1 hx).1; exact this)
  rw [List.getElem?_map, hx] at hdi
  simp only [Option.map_some, Option.some.injEq] at hdi
  subst hdi
  rw [k3] at hel
  obtain ⟨y0, y1, y2, n, hy, hl3, g0, g1, g2⟩ := trod_struct3 Tryd.underlying66 hel
  simp only [Prod.mk.injEq, DataW.agg.injEq, List.cons.injEq, and_true] at hy
  obtain ⟨⟨hy0, hy1, hy2⟩, _⟩ := hy
  have kc : Tryd.prog.cellsOf 54 = 1 := by kernel_rfl
  have km : Tryd.prog.cellsOf 55 = 1 := by kernel_rfl
  dsimp only at g0 g1 g2
  rw [k1] at g0
  rw [kc] at g1
  rw [km] at g2
  obtain ⟨n1, c1, e1, _⟩ := DataW.trod_int (k := .i64) (by kernel_rfl) g1
  obtain ⟨n2, c2, e2, _⟩ := DataW.trod_int (k := .i64) (by kernel_rfl) g2
  rw [e1] at hy1
  rw [e2] at hy2
  simp only [DataW.lit.injEq, Lit.int.injEq, true_and] at hy1 hy2
  rcases open_strings Tryd.underlying23 Tryd.underlying9 (by kernel_rfl) g0 with ⟨hcs, hx0⟩ | ⟨a, len, cap, ss, hcs, _, hl, hm9, hz, hx0, hcell, _⟩
  · rw [hx0] at hy0
    cases hy0
  · rw [hx0] at hy0
    simp only [DataW.slice.injEq] at hy0
    simp only [if_true] at hz
    refine ⟨.slice (some a) len cap, ?_, some a, cap, ?_, ?_, ?_, fun j s hj => ?_, fun h => by cases h⟩
    · rw [hy1, hy2]
      exact list3 (hl3.trans k3) hcs c1 c2
    all_goals have hxl := congrArg List.length hy0.1
    all_goals have hdl := congrArg List.length hy0.2
    all_goals unfold strs at hxl hdl
    all_goals simp only [List.length_map, List.length_take, List.length_drop, List.length_nil] at hxl hdl
    · rw [hxl]
      congr 1
      omega
    · omega
    · unfold maxLen at hm9
      omega
    · have hjl := (List.getElem?_eq_some_iff.1 hj).1
      have hc0 := hcell 0 (by omega)
      have hc := hcell j (by omega)
      obtain ⟨b, o, sp⟩ := a
      rw [show (⟨b, o, sp⟩ : Addr).add 0 = ⟨b, o, sp⟩ by simp [Addr.add]] at hc0
      obtain rfl := cell_spot hc0
      rw [add_noneK] at hc
      refine ⟨b, o, rfl, ?_⟩
      have he := congrArg (·[j]?) hy0.1
      unfold strs at he
      simp only [List.getElem?_map, hj, Option.map_some, List.getElem?_take_of_lt (show j < len by omega)] at he
      obtain ⟨s0, hs0, he0⟩ := Option.map_eq_some_iff.1 he.symm
      simp only [DataW.lit.injEq, Lit.string.injEq] at he0
      rw [hc, List.getD_eq_getElem?_getD, hs0, ← he0]
      rfl
end Go.Proofs.YtndlihpjefobcaaDoor

/-
  From what a row says of a policy and of words to what lies in memory.
-/
namespace Go.Proofs.YtndlihpjefobcaaDoor
open Go.RowKit Go.Lib Go.ChangeShapes Go.WideShapes Go.Joins Go.Deep Go.ChangeAt

section
variable {H : Type} {enc : TypeId × Value → H} {W : World}

theorem bulk_pos (d : DataW H) : 1 ≤ Rows.uptoBulk d := by
  cases d with
  | lit l => cases l <;> simp [Rows.uptoBulk]
  | _ => simp [Rows.uptoBulk]
theorem bulkAll_mem : ∀ (l : List (DataW H)) (d : DataW H), d ∈ l → Rows.uptoBulk d ≤ Rows.uptoBulkAll l
  | [], d, h => by simp at h
  | x :: r, d, h => by
    simp only [Rows.uptoBulkAll]
    rcases List.mem_cons.1 h with rfl | h1
    · omega
    · have := bulkAll_mem r d h1
      omega
theorem bulkAll_len : ∀ l : List (DataW H), l.length ≤ Rows.uptoBulkAll l
  | [] => by simp
  | x :: r => by
    have h1 := bulkAll_len r
    have h2 := bulk_pos x
    simp only [Rows.uptoBulkAll, List.length_cons]
    omega
theorem add_none (b o : Nat) (n : Nat) : (⟨b, o, none⟩ : Addr).add n = ⟨b, o + n, none⟩ := by unfold Addr.add; split <;> simp_all
theorem add_zero' (a : Addr) : a.add 0 = a := by simp [Addr.add]

/-- a []string that is read -/
theorem words_of {held : Bool} {fuel : Nat} {v : Value} {x : DataW H × List MemPlace} (h : DataW.trod enc Tryd.prog W 0 (fun _ => true) held fuel 23 [v] = some x) (hb : Rows.uptoBulk x.1 ≤ 1048576) :
    ∃ ss, Words W v ss ∧ ss.length ≤ 1048576 ∧ ∀ s ∈ ss, s.length ≤ 1048576 := by
  rcases open_strings Tryd.underlying23 Tryd.underlying9 (by kernel_rfl) h with ⟨hcs, hx⟩ | ⟨a, len, cap, ss, hcs, _, hl, hm9, hz, hx, hcell, hsz⟩
  · obtain rfl := (List.cons.inj hcs).1
    exact ⟨[], Words.nil W, by simp, fun s hs => by simp at hs⟩
  · obtain rfl := (List.cons.inj hcs).1
    subst hx
    simp only [if_true] at hz
    have hlen : ((ss.take len).map fun s => s.data.toList).length = len := by rw [List.length_map, List.length_take]; omega
    simp only [Rows.uptoBulk] at hb
    have hb1 := bulkAll_len (H := H) (strs (ss.take len))
    have hsl : (strs (H := H) (ss.take len)).length = len := by unfold strs; rw [List.length_map, List.length_take]; omega
    rw [hsl] at hb1
    refine ⟨(ss.take len).map fun s => s.data.toList, ⟨some a, cap, by rw [hlen], by rw [hlen]; exact hl, by unfold maxLen at hm9; omega, fun j s hj => ?_, fun h => by cases h⟩, by omega, fun s hs => ?_⟩
    · have hjl : j < len := by rw [← hlen]; exact (List.getElem?_eq_some_iff.1 hj).1
      rw [List.getElem?_map] at hj
      obtain ⟨s0, hs0, rfl⟩ := Option.map_eq_some_iff.1 hj
      rw [List.getElem?_take_of_lt hjl] at hs0
      have hc0 := hcell 0 (by omega)
      have hc := hcell j (by omega)
      obtain ⟨b, o, sp⟩ := a
      rw [add_zero'] at hc0
      obtain rfl := cell_spot hc0
      rw [add_none] at hc
      refine ⟨b, o, rfl, ?_⟩
      rw [hc, List.getD_eq_getElem?_getD, hs0]
      rfl
    · obtain ⟨s0, hs0, rfl⟩ := List.mem_map.1 hs
      have hm := bulkAll_mem (H := H) (strs (ss.take len)) (.lit (.string s0.data.toList)) (List.mem_map.2 ⟨s0, hs0, rfl⟩)
      simp only [Rows.uptoBulk] at hm
      omega
/-- a []Rule that is read -/
theorem rules_of {held : Bool} {fuel : Nat} {v : Value} {x : DataW H × List MemPlace} (h : DataW.trod enc Tryd.prog W 0 (fun _ => true) held fuel 22 [v] = some x) (hb : Rows.uptoBulk x.1 ≤ 1048576) :
    ∃ rs, RulesR W v rs ∧ rs.length ≤ 1048576 ∧ ∀ r ∈ rs, r.2.length ≤ 1048576 ∧ r.1.length ≤ 1048576 ∧ ∀ a ∈ r.2, a.length ≤ 1048576 := by
  rcases open_slice_pairs Tryd.underlying22 Tryd.underlying42 (by kernel_rfl) rfl rfl (by kernel_rfl) (by kernel_rfl) h with ⟨hcs, hx⟩ | ⟨a, len, cap, m, n, V0, V1, D0, D1, P0, P1, hcs, _, hl, hm9, hm, hx, hall⟩
  · obtain rfl := (List.cons.inj hcs).1
    exact ⟨[], ⟨none, 0, rfl, Nat.le_refl _, by omega, fun j r hj => by simp at hj⟩, by simp, fun r hr => by simp at hr⟩
  · obtain rfl := (List.cons.inj hcs).1
    subst hx
    simp only [if_true] at hm
    subst hm
    simp only [Rows.uptoBulk] at hb
    have hb1 := bulkAll_len (H := H) ((List.range len).map fun i => .agg [D0 i, D1 i])
    rw [List.length_map, List.length_range] at hb1
    have each : ∀ i, i < len → ∃ q : RuleP, V0 i = .string (bs q.1) ∧ Words W (V1 i) q.2 ∧ q.2.length ≤ 1048576 ∧ q.1.length ≤ 1048576 ∧ ∀ a ∈ q.2, a.length ≤ 1048576 := fun i hi => by
      obtain ⟨_, _, h0, h1⟩ := hall i (by omega)
      have hbi := bulkAll_mem (H := H) ((List.range len).map fun i => .agg [D0 i, D1 i]) (.agg [D0 i, D1 i]) (List.mem_map.2 ⟨i, by simpa using hi, rfl⟩)
      simp only [Rows.uptoBulk, Rows.uptoBulkAll] at hbi
      obtain ⟨s, e0, e1, _⟩ := DataW.trod_string Tryd.underlying9 h0
      obtain ⟨ss, w1, w2, w3⟩ := words_of h1 (by show Rows.uptoBulk (D1 i) ≤ _; omega)
      simp only [Prod.mk.injEq] at e1
      rw [e1.1] at hbi
      simp only [Rows.uptoBulk] at hbi
      exact ⟨(s.data.toList, ss), (List.cons.inj e0).1, w1, w2, by show s.data.toList.length ≤ _; omega, w3⟩
    obtain ⟨Q, hQ⟩ := choose_lt each
    have hlen : ((List.range len).map Q).length = len := by simp
    refine ⟨(List.range len).map Q, ⟨some a, m, by rw [hlen], by rw [hlen]; exact hl, by unfold maxLen at hm9; omega, fun j r hj => ?_⟩, by rw [hlen]; omega, fun r hr => ?_⟩
    · have hjl : j < len := by rw [← hlen]; exact (List.getElem?_eq_some_iff.1 hj).1
      rw [List.getElem?_map, List.getElem?_range hjl] at hj
      obtain rfl := Option.some.inj hj
      obtain ⟨hc0, _, _, _⟩ := hall 0 (by omega)
      obtain ⟨k0, k1, _, _⟩ := hall j (by omega)
      obtain ⟨q0, q1, _⟩ := hQ j hjl
      obtain ⟨b, o, sp⟩ := a
      rw [Nat.zero_mul, add_zero'] at hc0
      obtain rfl := cell_spot hc0
      rw [add_none] at k0 k1
      exact ⟨b, o, V1 j, rfl, by rw [k0, q0], by rw [Nat.add_assoc]; exact k1, q1⟩
    · obtain ⟨i, hi, rfl⟩ := List.mem_map.1 hr
      obtain ⟨_, _, q2, q3, q4⟩ := hQ i (by simpa using hi)
      exact ⟨q2, q3, q4⟩
theorem i64_wf {n : Int} (h : (Lit.int .i64 n).wf = true) : -9223372036854775808 ≤ n ∧ n ≤ 9223372036854775807 := by
  simp only [Lit.wf, Bool.and_eq_true, decide_eq_true_eq] at h
  first | exact h | simpa [IntKind.min, IntKind.max] using h
theorem array5 {α : Type} {cs : Array α} (h : cs.size = 5) : ∃ c0 c1 c2 c3 c4, cs = #[c0, c1, c2, c3, c4] := by
  obtain ⟨l⟩ := cs
  match l, h with
  | [c0, c1, c2, c3, c4], _ => exact ⟨c0, c1, c2, c3, c4, rfl⟩
/-- a policy that is read -/
theorem policy_of {r : Reach} {b0 : Nat} {held : Bool} {v : Value} {d : DataW H} {p : List MemPlace} (hv : Value.okWide Tryd.prog W r b0 25 v) (h : DataW.Trod enc Tryd.prog W 0 (fun _ => true) held 25 v d p) (hb : Rows.uptoBulk d ≤ 1048576) :
    ∃ (vr vs vd : Value) (P : PolP), v = .agg (polC vr vs vd P) ∧ PolR W vr vs vd P ∧ P.Few := by
  obtain ⟨cs, rfl, hsz⟩ := okWide_struct Tryd.underlying25 hv
  obtain ⟨c0, c1, c2, c3, c4, rfl⟩ := array5 (hsz.trans (by kernel_rfl))
  obtain ⟨fuel, hf⟩ := h
  obtain ⟨xs, n, _, hx, hl, hlen, hfs⟩ := DataW.trod_struct Tryd.underlying25 hf
  match xs, hlen with
  | [y0, y1, y2, y3, y4], _ =>
    have k22 : Tryd.prog.cellsOf 22 = 1 := by kernel_rfl
    have k23 : Tryd.prog.cellsOf 23 = 1 := by kernel_rfl
    have k3 : Tryd.prog.cellsOf 3 = 1 := by kernel_rfl
    have g0 : DataW.trod enc Tryd.prog W 0 (fun _ => true) held n 22 [c0] = some y0 := by
      have := hfs 0 _ rfl
      simpa [Value.cells, k22] using this
    have g1 : DataW.trod enc Tryd.prog W 0 (fun _ => true) held n 23 [c1] = some y1 := by
      have := hfs 1 _ rfl
      simpa [Value.cells, k23] using this
    have g2 : DataW.trod enc Tryd.prog W 0 (fun _ => true) held n 23 [c2] = some y2 := by
      have := hfs 2 _ rfl
      simpa [Value.cells, k23] using this
    have g3 : DataW.trod enc Tryd.prog W 0 (fun _ => true) held n 3 [c3] = some y3 := by
      have := hfs 3 _ rfl
      simpa [Value.cells, k3] using this
    have g4 : DataW.trod enc Tryd.prog W 0 (fun _ => true) held n 3 [c4] = some y4 := by
      have := hfs 4 _ rfl
      simpa [Value.cells, k3] using this
    simp only [Prod.mk.injEq, List.map_cons, List.map_nil] at hx
    rw [hx.1] at hb
    simp only [Rows.uptoBulk, Rows.uptoBulkAll] at hb
    obtain ⟨rs, r1, r2, r3⟩ := rules_of g0 (by omega)
    obtain ⟨ss, s1, s2, s3⟩ := words_of g1 (by omega)
    obtain ⟨ds, d1, d2, d3⟩ := words_of g2 (by omega)
    obtain ⟨z3, e3, _, h3⟩ := DataW.trod_int Tryd.underlying3 g3
    obtain ⟨z4, e4, _, h4⟩ := DataW.trod_int Tryd.underlying3 g4
    obtain rfl := (List.cons.inj e3).1
    obtain rfl := (List.cons.inj e4).1
    refine ⟨c0, c1, c2, ⟨rs, ss, ds, z3, z4⟩, rfl, ⟨r1, s1, d1⟩, ?_⟩
    exact ⟨Nat.le_trans r2 (by omega), Nat.le_trans s2 (by omega), Nat.le_trans d2 (by omega), fun r hr => Nat.le_trans (r3 r hr).1 (by omega), fun r hr => ⟨Nat.le_trans (r3 r hr).2.1 (by omega), fun a ha => Nat.le_trans ((r3 r hr).2.2 a ha) (by omega)⟩, fun x hx => Nat.le_trans (s3 x hx) (by omega), fun x hx => Nat.le_trans (d3 x hx) (by omega), (i64_wf h3).1, (i64_wf h3).2, (i64_wf h4).1, (i64_wf h4).2⟩
end
end Go.Proofs.YtndlihpjefobcaaDoor
