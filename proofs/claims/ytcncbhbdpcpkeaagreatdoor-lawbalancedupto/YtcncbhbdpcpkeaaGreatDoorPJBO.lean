/-
  Parts of the walk, joined: BalE.
-/
import Derived.Deep.RegionWith
import Derived.Test.YtcncbhbdpcpkeaaGreatDoorPJBH
/-
  The balancer's reach and end: their walks.
-/
namespace Go.Proofs.YtcncbhbdpcpkeaaGreatDoor
open Go.RowKit Go.Lib Own

theorem idxI_a (op : List (List UInt8)) : (0 ≤ idxI op aN → idxI op aN = (op.idxOf aN : Int)) ∧ (¬ 0 ≤ idxI op aN → op.idxOf aN = op.length) := by
  unfold idxI
  by_cases h : op.contains aN = true
  · rw [if_pos h]
    exact ⟨fun _ => rfl, fun h2 => absurd (Int.natCast_nonneg _) h2⟩
  · rw [if_neg h]
    refine ⟨fun h2 => absurd h2 (by decide), fun _ => ?_⟩
    exact List.idxOf_eq_length (fun h2 => h (List.contains_iff_mem.2 h2))

set_option maxHeartbeats 4000000 in
set_option maxRecDepth 100000 in
theorem reach_any (w0 : World) (ob b : Nat) (d : Int) (op : List (List UInt8)) (ov outv : Value) (J : List Ev) (xs : List Value) (x : List UInt8) (w : World) (h : BalS w0 w ob b d op ov outv J xs) (hop : op.length ≤ 900000) :
    Calls Tryz.prog 123 #[.pointer (some ⟨b, 0, none⟩), .agg #[.string (bs x), .int .i64 (clsX x : Nat), .int .i64 (modX x : Nat)]] w fun e w' => e = .returned (.int .i64 (reachP op x : Nat)) ∧ Below w.heap.size w w' := by
  obtain ⟨op', oc, rfl⟩ := row_shape h.at_.op
  obtain ⟨R, hR⟩ : ∃ R, reachP op x = R := ⟨_, rfl⟩
  rw [hR]
  obtain ⟨W1, hW1⟩ : ∃ W1, w.alloc (.cells #[.string (bs x), .int .i64 (clsX x : Nat), .int .i64 (modX x : Nat)] 172) = W1 := ⟨_, rfl⟩
  have hb1 : Below w.heap.size w W1 := by rw [← hW1]; exact (Below.refl _ _).alloc (Nat.le_refl _) _
  have n1 : W1.heap[w.heap.size]? = some (.cells #[.string (bs x), .int .i64 (clsX x : Nat), .int .i64 (modX x : Nat)] 172 (0, 0)) := by rw [← hW1]; exact heap_alloc_new _ _
  have h1 := h.below hb1
  have hix := fun W (hb : Below W1.heap.size W1 W) => idx_any w0.heap.size _ op x W (row_below h1.at_.op hb) hop
  have e0 := cell_at n1 (j := 0) rfl
  have e1 := cell_at n1 (j := 1) rfl
  have e2 := cell_at n1 (j := 2) rfl
  have c1 := cell_at h1.at_.bx (j := 1) rfl
  have hbb := block_lt h1.at_.bx
  have hnb := block_lt n1
  obtain ⟨I, hI⟩ : ∃ I, idxI op x = I := ⟨_, rfl⟩
  rw [hI] at hix
  have HI := hid hix
  have HB := hid hb1
  obtain ⟨BX, hBX⟩ : ∃ n, bs x = n := ⟨_, rfl⟩
  have hbx : BX.toList = x := by rw [← hBX]; exact bs_toList x
  rw [hBX] at hW1 e0 HI ⊢
  have HR := hid (And.intro hR (And.intro hI hbx))
  clear h hR hb1 n1 h1 hix hbx hBX hI
  go_enter Tryz.func123, Tryz.ntmps123
  go_upto_region 1 with fail
  clear hW1
  go_region_with (go_at_call 182; refine (HI.out _ (by first | exact Below.refl _ _ | exact below_drewN (Below.refl _ _) 1)).mono ?_; rintro e W2 ⟨rfl, hb2⟩)
  all_goals
    have hb3 : Below W1.heap.size W1 W2 := ⟨hb2.os, hb2.tape, hb2.output, hb2.size, hb2.block⟩
    replace e0 := cell_low e0 hb3 hnb
    replace c1 := cell_low c1 hb3 hbb
    have hz2 : Below w.heap.size w W2 := HB.out.trans (hb3.mono HB.out.size)
    have HZ := hid hz2
    clear hb2 hb3 hz2
    obtain ⟨hR, hI, hbx⟩ := HR.out
    by_cases ha : x = aN
    · have q : (BX.toList == [97]) = true := by rw [hbx, ha]; rfl
      subst ha
      obtain ⟨i1, i2⟩ := idxI_a op
      rw [hI] at i1 i2
      unfold reachP at hR
      rw [if_pos rfl] at hR
      by_cases hi : 0 ≤ I
      · have hd : decide (0 ≤ I) = true := decide_eq_true hi
        have hfin := (i1 hi).trans (congrArg Int.ofNat hR)
        clear i1 i2 hR hI hbx
        go_wp2_with fail
        go_ret
        exact ⟨rfl, HZ.out⟩
      · have hd : decide (0 ≤ I) = false := decide_eq_false hi
        have hfin := (i2 hi).symm.trans hR
        clear i1 i2 hR hI hbx
        go_wp2_with fail
        go_ret
        exact ⟨rfl, HZ.out⟩
    · have q : (BX.toList == [97]) = false := by rw [hbx, Bool.eq_false_iff]; intro e; rw [beq_iff_eq] at e; exact ha e
      unfold reachP at hR
      rw [if_neg ha] at hR
      clear hI hbx
      go_wp2_with fail
      go_ret
      exact ⟨rfl, HZ.out⟩

/-- the answer of an end tag, by what it closes -/
def endR (op : List (List UInt8)) : Option Nat → List (List UInt8) × List Ev
  | none => (op, [])
  | some k => (op.take k, closeE k op)
theorem endP_eq (op : List (List UInt8)) (x : List UInt8) (h : elemL x ≠ none) : endP op x = endR op (closesP op x op.length) := by
  unfold endP
  rw [if_neg h]
  cases closesP op x op.length <;> rfl
theorem closes_yes {op : List (List UInt8)} {x y : List UInt8} {k : Nat} (h : op[k]? = some y) (e : y = x) : closesP op x (k + 1) = some k := by
  unfold closesP
  rw [List.getD_eq_getElem?_getD, h]
  exact if_pos e
theorem closes_wall {op : List (List UInt8)} {x y : List UInt8} {k : Nat} (h : op[k]? = some y) (e : y ≠ x) (hw : wallX y x = true) : closesP op x (k + 1) = none := by
  unfold closesP
  rw [List.getD_eq_getElem?_getD, h]
  exact (if_neg e).trans (if_pos hw)
theorem closes_no {op : List (List UInt8)} {x y : List UInt8} {k : Nat} (h : op[k]? = some y) (e : y ≠ x) (hw : wallX y x = false) : closesP op x (k + 1) = closesP op x k := by
  show (if op.getD k [] = x then some k else if wallX (op.getD k []) x = true then none else closesP op x k) = _
  rw [List.getD_eq_getElem?_getD, h]
  exact (if_neg e).trans (if_neg (by rw [show (some y).getD [] = y from rfl, hw]; exact Bool.false_ne_true))
theorem closes_lt {op : List (List UInt8)} {x : List UInt8} : ∀ {m k : Nat}, closesP op x m = some k → k < m
  | 0, k, h => by cases h
  | m + 1, k, h => by
    unfold closesP at h
    split at h
    · cases h; omega
    · split at h
      · cases h
      · have := closes_lt h; omega

set_option maxHeartbeats 8000000 in
set_option maxRecDepth 100000 in
theorem endB_any (w0 : World) (ob b : Nat) (d : Int) (op : List (List UInt8)) (ov outv : Value) (J : List Ev) (xs : List Value) (x : ByteArray) (w : World) (h : BalS w0 w ob b d op ov outv J xs) (hl : J.length ≤ 420000000) (hop : op.length ≤ 900000) :
    Calls Tryz.prog 66 #[.pointer (some ⟨b, 0, none⟩), .string x] w fun e w' => e = .returned (.tuple #[]) ∧
      ∃ ov' outv' xs', BalS w0 w' ob b d (endP op x.toList).1 ov' outv' (J ++ (endP op x.toList).2) xs' ∧ BalF b ov outv ov' outv' w w' := by
  obtain ⟨op', oc, rfl⟩ := row_shape h.at_.op
  have hfd := find_any x w h.kinds
  have HF := hid hfd
  clear hfd
  by_cases hk : elemL x.toList = none
  · have hE : endP op x.toList = (op, []) := by unfold endP; rw [if_pos hk]
    rw [hE, List.append_nil]
    rw [hk] at HF
    have H0 := hid h
    clear h hE
    go_enter Tryz.func66, Tryz.ntmps66
    go_wp2_with fail
    refine HF.out.mono ?_
    rintro e W1 ⟨rfl, hb1⟩
    have HZ := hid (And.intro (H0.out.below (hb1.trans ((Below.refl W1.heap.size W1).alloc (Nat.le_refl _) (.cells zeroE 172) |>.mono hb1.size))) ((hb1.trans ((Below.refl W1.heap.size W1).alloc (Nat.le_refl _) (.cells zeroE 172) |>.mono hb1.size))))
    unfold foundV zeroE at *
    dsimp only
    clear hb1 HF
    go_wp2_with fail
    (try simp only [Exit.inBlock, Exit.then]); refine bodyPost_ret (results_none rfl _ _ _) rfl ?_
    exact ⟨rfl, _, _, xs, HZ.out.1, BalF.of_below HZ.out.2⟩
  · rw [endP_eq op _ hk]
    rw [elem_some hk] at HF
    obtain ⟨R, hR⟩ : ∃ R, closesP op x.toList op.length = R := ⟨_, rfl⟩
    rw [hR]
    have HR := hid hR
    have H0 := hid h
    have HK := hid (modX_lt x.toList)
    clear h hR hk
    go_enter Tryz.func66, Tryz.ntmps66
    go_wp2_with fail
    refine HF.out.mono ?_
    rintro e W1 ⟨rfl, hb1⟩
    unfold foundV elemC
    dsimp only
    go_upto_region 1 with fail
    obtain ⟨W2, hW2⟩ : ∃ W2, W1.alloc (.cells #[.string (bs x.toList), .int .i64 (clsX x.toList : Nat), .int .i64 (modX x.toList : Nat)] 172) = W2 := ⟨_, rfl⟩
    have hb2 : Below W1.heap.size W1 W2 := by rw [← hW2]; exact (Below.refl _ _).alloc (Nat.le_refl _) _
    have n2 : W2.heap[W1.heap.size]? = some (.cells #[.string (bs x.toList), .int .i64 (clsX x.toList : Nat), .int .i64 (modX x.toList : Nat)] 172 (0, 0)) := by rw [← hW2]; exact heap_alloc_new _ _
    simp only [hW2]
    clear hW2
    have hb12 : Below w.heap.size w W2 := hb1.trans (hb2.mono hb1.size)
    have h2 := H0.out.below hb12
    have H2 := hid (And.intro h2 (And.intro hb12 n2))
    have c1 := cell_at h2.at_.bx (j := 1) rfl
    have hw1 : IntKind.i64.wrap ((op.length : Int) - 1) = (op.length : Int) - 1 := by rw [IntKind.wrap_i64]; omega
    obtain ⟨EB, hEB⟩ : ∃ n, W1.heap.size = n := ⟨_, rfl⟩
    rw [hEB] at H2
    simp only [hEB]
    clear hb1 hb2 hb12 h2 n2 HF hEB
    go_wp2_with fail
    clear c1 hw1
    go_loopw [6] (fun iv wr => ∃ m : Nat, iv = .int .i64 ((m : Int) - 1) ∧ m ≤ op.length ∧ Hid (closesP op x.toList m = R) ∧ Hid (Below W2.heap.size W2 wr)) (fun iv _ => (RowKit.intOf iv + 1).toNat)
    case atStart => exact ⟨op.length, rfl, Nat.le_refl _, HR, hid (Below.refl _ _)⟩
    case round =>
      clear HR
      obtain ⟨m, rfl, hm, HM, HQ⟩ := hrel
      cases m with
      | zero =>
        have hfin : R = none := HM.out.symm
        subst hfin
        clear HM
        go_wp2_with fail
        go_end0
        have hz := H2.out.1.below HQ.out
        exact ⟨rfl, _, _, xs, by rw [show (endR op none).2 = [] from rfl, List.append_nil]; exact hz, BalF.of_below (H2.out.2.1.trans (HQ.out.mono H2.out.2.1.size))⟩
      | succ k =>
        have hv1 : (((k + 1 : Nat) : Int) - 1) = (k : Int) := by omega
        rw [hv1]
        obtain ⟨y, hy⟩ : ∃ y, op[k]? = some y := ⟨_, List.getElem?_eq_getElem (by omega)⟩
        have hs := H2.out.1.below HQ.out
        have hrow := hs.at_.op
        unfold OpenR at hrow
        obtain ⟨g, cap, e3, hg1, hg2, hcell⟩ := row_at hrow (by omega)
        cases e3
        obtain ⟨a0, a1, a2⟩ := elems_at op k y hy
        have d0 := (hcell (k * 3) (by omega)).trans a0
        have d1 := (hcell (k * 3 + 1) (by omega)).trans a1
        have d2 := (hcell (k * 3 + 2) (by omega)).trans a2
        have c1 := cell_at hs.at_.bx (j := 1) rfl
        have n3 := (HQ.out.block _ (block_lt H2.out.2.2)).trans H2.out.2.2
        have e0 := cell_at n3 (j := 0) rfl
        have e1 := cell_at n3 (j := 1) rfl
        have e2 := cell_at n3 (j := 2) rfl
        have hcap := (row_cap hrow).2
        have hen := block_lt n3
        have hbn := block_lt hs.at_.bx
        have HS := hid hs
        clear hs hrow hcell a0 a1 a2 n3
        by_cases q : y = x.toList
        · have hfin := closes_yes hy q
          rw [HM.out] at hfin
          subst hfin
          subst q
          have hct := fun nq => closeTo_any w0 ob b d op _ outv J xs k (wr.drewN nq) (HS.out.below (below_drewN (Below.refl _ _) nq)) (by omega) hl hop
          have HC := hid hct
          have HL := hid (H2.out.2.1.trans (HQ.out.mono H2.out.2.1.size))
          obtain ⟨BX, hBX⟩ : ∃ n, bs x.toList = n := ⟨_, rfl⟩
          rw [hBX] at d0 e0
          have hs1 : (BX.toList == BX.toList) = true := beq_self_eq_true _
          clear HM hy hct HQ H2 hBX
          go_wp2_with fail
          go_quiet (fail)
          go_wp2_with fail
          refine (HC.out _).mono ?_
          rintro e W4 ⟨rfl, ov4, outv4, xs4, hs4, hf4⟩
          have HZ := hid (And.intro hs4 ((BalF.of_below (below_drewN HL.out nq)).trans hf4))
          clear hs4 hf4 HC
          go_wp2_with fail
          (try simp only [Exit.inBlock, Exit.then]); refine bodyPost_ret (results_none rfl _ _ _) rfl ?_
          exact ⟨rfl, _, _, _, HZ.out.1, HZ.out.2⟩
        · have hby : (bs y).toList = y := bs_toList y
          have hbx : (bs x.toList).toList = x.toList := bs_toList x.toList
          have q1 : ((bs y).toList == (bs x.toList).toList) = false := by rw [hby, hbx, Bool.eq_false_iff]; intro e; rw [beq_iff_eq] at e; exact q e
          have hwl := fun W => wall_any y x.toList W (modX_lt y) HK.out
          obtain ⟨B, hB⟩ : ∃ v, wallX y x.toList = v := ⟨_, rfl⟩
          rw [hB] at hwl
          have HW := hid hwl
          have HYB := hid (And.intro hy (And.intro q hB))
          obtain ⟨BX, hBX⟩ : ∃ n, bs x.toList = n := ⟨_, rfl⟩
          obtain ⟨BY, hBY⟩ : ∃ n, bs y = n := ⟨_, rfl⟩
          rw [hBX] at e0 q1 HW
          rw [hBY] at d0 q1 HW
          clear hby hbx hwl hB hy q hBX hBY
          go_wp2_with fail
          go_quiet (fail)
          go_upto_region 7 with fail
          have HC2 := hid (And.intro c1 (And.intro d0 (And.intro d1 (And.intro d2 (And.intro e0 (And.intro e1 e2))))))
          go_region_with (go_at_call 127; refine (HW.out _).mono ?_; rintro e W4 ⟨rfl, hb4⟩)
          all_goals
            have hb5 : Below wr.heap.size wr W4 := ⟨hb4.os, hb4.tape, hb4.output, hb4.size, hb4.block⟩
            have hq5 := HQ.out.trans (hb5.mono HQ.out.size)
            have HQ5 := hid hq5
            have HS5 := hid (HS.out.below hb5)
            clear hb4 hb5 hq5
            cases B with
            | true =>
              have hfin := closes_wall HYB.out.1 HYB.out.2.1 HYB.out.2.2
              rw [HM.out] at hfin
              subst hfin
              clear HM HYB
              go_wp2_with fail
              (try simp only [Exit.inBlock, Exit.then]); refine bodyPost_ret (results_none rfl _ _ _) rfl ?_
              exact ⟨rfl, _, _, xs, by rw [show (endR op none).2 = [] from rfl, List.append_nil]; exact HS5.out, BalF.of_below (H2.out.2.1.trans (HQ5.out.mono H2.out.2.1.size))⟩
            | false =>
              have hnx := closes_no HYB.out.1 HYB.out.2.1 HYB.out.2.2
              rw [HM.out] at hnx
              have HN := hid hnx.symm
              clear HM HYB hnx
              go_wp2_with fail
              go_roundw
              case rel => exact ⟨k, rfl, by omega, HN, HQ5⟩
              case measure => simp [RowKit.intOf]
end Go.Proofs.YtcncbhbdpcpkeaaGreatDoor
