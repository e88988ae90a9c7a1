/-
  Parts of the walk, joined: FtA, FtB, FtC.
-/
import Derived.BigRegion
import Derived.Deep.RegionHeld3
import Derived.Test.YtcncbhbdpcpkeaaGreatDoorPJBO
import Derived.Test.YtcncbhbdpcpkeaaGreatDoorPJBS
import Derived.Test.YtcncbhbdpcpkeaaGreatDoorPJBK
import Derived.Test.YtcncbhbdpcpkeaaGreatDoorPJBD
/-
  slices.Equal of attributes, slices.Contains of elements: their walks.
-/
namespace Go.Proofs.YtcncbhbdpcpkeaaGreatDoor
open Go.RowKit Go.Lib Own

/-- are the two lists the same from here on -/
def eqF (a c : List AttrP) (k : Nat) : Bool := decide (a.drop k = c.drop k)
theorem eqF_zero (a c : List AttrP) : eqF a c 0 = decide (a = c) := rfl
theorem eqF_step {a c : List AttrP} {k : Nat} {x y : AttrP} (h : a[k]? = some x) (h2 : c[k]? = some y) : eqF a c k = (decide (x = y) && eqF a c (k + 1)) := by
  unfold eqF
  rw [drop_at h, drop_at h2, Bool.eq_iff_iff, Bool.and_eq_true, decide_eq_true_iff, decide_eq_true_iff, decide_eq_true_iff, List.cons.injEq]
theorem eqF_end {a c : List AttrP} {k : Nat} (h : a.length ≤ k) (h2 : c.length ≤ k) : eqF a c k = true := by
  unfold eqF
  rw [List.drop_of_length_le h, List.drop_of_length_le h2]
  exact decide_eq_true rfl
set_option maxHeartbeats 4000000 in
set_option maxRecDepth 100000 in
theorem attrsEq_any (v1 v2 : Value) (al cl : List AttrP) (w : World) (h1 : AttrsR w v1 al) (h2 : AttrsR w v2 cl) :
    Calls Tryz.prog 217 #[v1, v2] w fun e w' => e = .returned (.bool (decide (al = cl))) ∧ ∃ n, w' = w.drewN n := by
  obtain ⟨p1, c1, rfl, hc1, hm1, hcell1, _⟩ := h1
  obtain ⟨p2, c2, rfl, hc2, hm2, hcell2, _⟩ := h2
  by_cases hl : al.length = cl.length
  · obtain ⟨R, hR⟩ : ∃ R, decide (al = cl) = R := ⟨_, rfl⟩
    rw [hR]
    rw [← eqF_zero] at hR
    have HR := hid hR
    have H1 := hid hcell1
    have H2 := hid hcell2
    have HL := hid hl
    have z0 : ((al.length : Int) != (cl.length : Int)) = false := by rw [hl]; simp
    clear hR hcell1 hcell2 hl
    go_enter Tryz.func217, Tryz.ntmps217
    go_wp2_with fail
    go_loopw [13] (fun iv wr => ∃ k : Nat, iv = .int .i64 k ∧ k ≤ al.length ∧ Hid (∃ n, wr = w.drewN n) ∧ Hid (eqF al cl k = R)) (fun iv _ => al.length - (RowKit.intOf iv).toNat)
    case atStart => exact ⟨0, rfl, Nat.zero_le _, hid ⟨0, rfl⟩, HR⟩
    case round =>
      clear HR z0
      obtain ⟨k, rfl, hk, HQ, HK⟩ := hrel
      by_cases hkl : k < al.length
      · obtain ⟨x, hx⟩ : ∃ x, al[k]? = some x := ⟨_, List.getElem?_eq_getElem hkl⟩
        obtain ⟨y, hy⟩ : ∃ y, cl[k]? = some y := ⟨_, List.getElem?_eq_getElem (by have := HL.out; omega)⟩
        have hkc : k < cl.length := by have := HL.out; omega
        obtain ⟨b, o, rfl, x0, x1⟩ := H1.out k x hx
        obtain ⟨b', o', rfl, y0, y1⟩ := H2.out k y hy
        have hq := HQ.out
        have d0 := cell_drew hq x0
        have d1 := cell_drew hq x1
        have f0 := cell_drew hq y0
        have f1 := cell_drew hq y1
        have hst := eqF_step hx hy
        rw [HK.out] at hst
        obtain ⟨xn, xv⟩ := x
        obtain ⟨yn, yv⟩ := y
        simp only at d0 d1 f0 f1
        have q0 : ((bs xn).toList == (bs yn).toList) = decide (xn = yn) := by rw [bs_toList, bs_toList, Bool.eq_iff_iff, beq_iff_eq, decide_eq_true_iff]
        have q1 : ((bs xv).toList == (bs yv).toList) = decide (xv = yv) := by rw [bs_toList, bs_toList, Bool.eq_iff_iff, beq_iff_eq, decide_eq_true_iff]
        have hst2 : R = ((decide (xn = yn) && decide (xv = yv)) && eqF al cl (k + 1)) := by
          rw [hst]
          congr 1
          rw [Bool.eq_iff_iff]
          simp
        clear hst
        generalize bs xn = BX at d0 q0
        generalize bs xv = BV at d1 q1
        generalize bs yn = BY at f0 q0
        generalize bs yv = BU at f1 q1
        generalize decide (xn = yn) = A at q0 hst2
        generalize decide (xv = yv) = C at q1 hst2
        have HS := hid hst2
        clear hx hy hq x0 x1 y0 y1 hst2 HK H1 H2 HL
        cases A with
        | false =>
          have hr := HS.out
          rw [Bool.false_and, Bool.false_and] at hr
          subst hr
          go_wp2_with fail
          go_quiet (fail)
          go_wp2_with fail
          go_ret
          obtain ⟨n, rfl⟩ := HQ.out
          exact ⟨rfl, n + nq, by simp⟩
        | true =>
          cases C with
          | false =>
            have hr := HS.out
            rw [Bool.and_false, Bool.false_and] at hr
            subst hr
            go_wp2_with fail
            go_quiet (fail)
            go_wp2_with fail
            go_ret
            obtain ⟨n, rfl⟩ := HQ.out
            exact ⟨rfl, n + nq, by simp⟩
          | true =>
            have HN : Hid (eqF al cl (k + 1) = R) := hid (by rw [HS.out]; rfl)
            clear HS
            go_wp2_with fail
            go_quiet (fail)
            go_wp2_with fail
            go_roundw
            case rel =>
              obtain ⟨n, hn⟩ := HQ.out
              exact ⟨k + 1, rfl, by omega, hid ⟨n + nq, by rw [hn]; simp⟩, HN⟩
            case measure => simp [RowKit.intOf]; omega
      · have hr := HK.out
        rw [eqF_end (by omega) (by have := HL.out; omega)] at hr
        subst hr
        clear HK H1 H2 HL
        go_wp2_with fail
        go_ret
        exact ⟨rfl, HQ.out⟩
  · have e1 : decide (al = cl) = false := decide_eq_false (fun e => hl (by rw [e]))
    rw [e1]
    have z0 : ((al.length : Int) != (cl.length : Int)) = true := by rw [bne_iff_ne]; omega
    clear hcell1 hcell2 hl e1
    go_enter Tryz.func217, Tryz.ntmps217
    go_wp2_with fail
    go_ret
    exact ⟨rfl, 0, rfl⟩
theorem idxI_ge (op : List (List UInt8)) (x : List UInt8) : decide (idxI op x ≥ 0) = op.contains x := by
  unfold idxI
  split
  · rename_i h; rw [h]; exact decide_eq_true (by omega)
  · rename_i h; rw [Bool.eq_false_iff.2 h]; exact decide_eq_false (by omega)
set_option maxHeartbeats 4000000 in
set_option maxRecDepth 100000 in
theorem containsEl_any (base : Nat) (ov : Value) (op : List (List UInt8)) (x : List UInt8) (w : World) (h : OpenR w base ov op) (hop : op.length ≤ 900000) :
    Calls Tryz.prog 171 #[ov, .agg #[.string (bs x), .int .i64 (clsX x : Nat), .int .i64 (modX x : Nat)]] w fun e w' => e = .returned (.bool (op.contains x)) ∧ Below w.heap.size w w' := by
  obtain ⟨p, c, rfl⟩ := h.shape
  obtain ⟨W1, hW1⟩ : ∃ W1, w.alloc (.cells #[.string (bs x), .int .i64 (clsX x : Nat), .int .i64 (modX x : Nat)] 172) = W1 := ⟨_, rfl⟩
  have hb1 : Below w.heap.size w W1 := by rw [← hW1]; exact (Below.refl _ _).alloc (Nat.le_refl _) _
  have n1 : W1.heap[w.heap.size]? = some (.cells #[.string (bs x), .int .i64 (clsX x : Nat), .int .i64 (modX x : Nat)] 172 (0, 0)) := by rw [← hW1]; exact heap_alloc_new _ _
  have hi := idx_any base _ op x W1 (row_below h hb1) hop
  have hge := idxI_ge op x
  have e0 := cell_at n1 (j := 0) rfl
  have e1 := cell_at n1 (j := 1) rfl
  have e2 := cell_at n1 (j := 2) rfl
  generalize idxI op x = I at hi hge
  generalize op.contains x = R at hge ⊢
  subst hge
  have HI := hid hi
  have HB := hid hb1
  clear hi hb1 n1 h hop
  go_enter Tryz.func171, Tryz.ntmps171
  go_wp2_with fail
  refine HI.out.mono ?_
  rintro e W2 ⟨rfl, hb2⟩
  have HZ := hid (HB.out.trans (hb2.mono HB.out.size))
  clear hb2 HI HB hW1
  go_wp2_with fail
  go_ret
  exact ⟨ret_bool (by first | rfl | (rw [Bool.eq_iff_iff]; simp; done) | (simp; done)), HZ.out⟩
end Go.Proofs.YtcncbhbdpcpkeaaGreatDoor

/-
  The fitter in memory; mayHold, fitsText, isAllowed: their walks.
-/
namespace Go.Proofs.YtcncbhbdpcpkeaaGreatDoor
open Go.RowKit Go.Lib Own

/-- the fitter at work, since the world w0 -/
structure FtS (w0 W : World) (sb b : Nat) (vr vs vd : Value) (P : PolP) (m : Int) (op : List (List UInt8)) (ov : Value) (la : Int) : Prop where
  at_ : W.heap[b]? = some (.cells #[.int .i64 P.depth, .pointer (some ⟨sb, 0, none⟩), ov, .int .i64 la] 157 (0, 0))
  sv : W.heap[sb]? = some (.cells (sieveC vr vs vd P [] 0) 205 (0, 0))
  pol : PolR w0 vr vs vd P
  row : OpenR W w0.heap.size ov op
  be : Below w0.heap.size w0 W
  lo : w0.heap.size ≤ b
  ls : w0.heap.size ≤ sb
  few : op.length ≤ 300
  kt : KindsTab w0
  nt : NestTab w0
  mx : w0.cell? ⟨4, 0, none⟩ = some (.int .i64 m)
section
variable {w0 W W' : World} {sb b : Nat} {vr vs vd : Value} {P : PolP} {m : Int} {op : List (List UInt8)} {ov : Value} {la : Int}
theorem FtS.below (h : FtS w0 W sb b vr vs vd P m op ov la) (hb : Below W.heap.size W W') : FtS w0 W' sb b vr vs vd P m op ov la :=
  ⟨(hb.block _ (block_lt h.at_)).trans h.at_, (hb.block _ (block_lt h.sv)).trans h.sv, h.pol, row_below h.row hb, h.be.trans (hb.mono h.be.size), h.lo, h.ls, h.few, h.kt, h.nt, h.mx⟩
theorem FtS.ne (h : FtS w0 W sb b vr vs vd P m op ov la) : b ≠ sb := ev_ne h.at_ h.sv (by decide)
theorem FtS.grown (h : FtS w0 W sb b vr vs vd P m op ov la) (g : W.grownBy W' (some sb)) (s : W'.heap[sb]? = some (.cells (sieveC vr vs vd P [] 0) 205 (0, 0))) : FtS w0 W' sb b vr vs vd P m op ov la :=
  ⟨(g.block _ (block_lt h.at_) (by intro e; cases e; exact h.ne rfl)).trans h.at_, s, h.pol, h.row.kept g (.inr (row_ne h.row h.sv (by decide))), h.be.grown g h.be.size (fun k hk => by cases hk; exact h.ls), h.lo, h.ls, h.few, h.kt, h.nt, h.mx⟩
theorem FtS.lost (h : FtS w0 W sb b vr vs vd P m op ov la) (g : W.grownBy W' (some sb)) : Below w0.heap.size w0 W' := h.be.grown g h.be.size (fun k hk => by cases hk; exact h.ls)
theorem FtS.kinds (h : FtS w0 W sb b vr vs vd P m op ov la) : KindsTab W := h.kt.below h.be
theorem FtS.nest (h : FtS w0 W sb b vr vs vd P m op ov la) : NestTab W := h.nt.below h.be
theorem FtS.base (h : FtS w0 W sb b vr vs vd P m op ov la) : w0.heap.size ≤ W.heap.size := h.be.size
end
/-- a new list of what is open, with its text's depth -/
theorem two_int (n : Nat) : (((n : Nat) : Int) == 2) = (n == 2) := by
  rw [Bool.eq_iff_iff, beq_iff_eq, beq_iff_eq]
  omega
set_option maxHeartbeats 4000000 in
set_option maxRecDepth 100000 in
theorem mayHold_any (w0 : World) (sb b : Nat) (vr vs vd : Value) (P : PolP) (m : Int) (op : List (List UInt8)) (ov : Value) (la : Int) (c : Nat) (w : World) (h : FtS w0 w sb b vr vs vd P m op ov la) (hc : c ≤ 100) :
    Calls Tryz.prog 170 #[.pointer (some ⟨b, 0, none⟩), .int .i64 c] w fun e w' => e = .returned (.bool (nestP (modO op) c == 2)) ∧ w' = w := by
  have hmi := modIn_any _ ov op w h.row (by have := h.few; omega)
  have hne := fun W (hW : NestTab W) => nest_any (modO op) c W hW (by have := modO_lt op; omega) hc
  have c2 := cell_at h.at_ (j := 2) rfl
  have hN := h.nest
  obtain ⟨p, cc, rfl⟩ := h.row.shape
  have ht := two_int (nestP (modO op) c)
  generalize nestP (modO op) c = R at hne ht ⊢
  generalize modO op = M at hmi hne
  generalize (R == 2) = RB at ht ⊢
  have HM := hid hmi
  have HNE := hid (hne w hN)
  clear hmi hne h hN
  go_enter Tryz.func170, Tryz.ntmps170
  go_wp2_with fail
  refine HM.out.mono ?_
  rintro e W1 ⟨rfl, rfl⟩
  go_wp2_with fail
  refine HNE.out.mono ?_
  rintro e W2 ⟨rfl, rfl⟩
  go_wp2_with fail
  go_ret
  exact ⟨rfl, rfl⟩
set_option maxHeartbeats 4000000 in
set_option maxRecDepth 100000 in
theorem fitsText_any (w0 : World) (sb b : Nat) (vr vs vd : Value) (P : PolP) (m : Int) (op : List (List UInt8)) (ov : Value) (la : Int) (t : List UInt8) (w : World) (h : FtS w0 w sb b vr vs vd P m op ov la) (ht : t.length ≤ 8000000) :
    Calls Tryz.prog 110 #[.pointer (some ⟨b, 0, none⟩), .string (bs t)] w fun e w' => e = .returned (.bool (decide (t ≠ []) && (gt t && nestP (modO op) 3 == 2))) ∧ Below w.heap.size w w' := by
  have hg := fun W => isGood_any t W ht
  have hmh := fun W (hW : Below w.heap.size w W) => mayHold_any w0 sb b vr vs vd P m op ov la 3 W (h.below hW) (by omega)
  have e1 : ((bs t).toList == []) = decide (t = []) := by rw [bs_toList, Bool.eq_iff_iff, beq_iff_eq, decide_eq_true_iff]
  have e2 : ((bs t).toList != []) = decide (t ≠ []) := by rw [bs_toList, Bool.eq_iff_iff, bne_iff_ne, decide_eq_true_iff]
  generalize (nestP (modO op) 3 == 2) = NB at hmh ⊢
  generalize gt t = G at hg ⊢
  generalize bs t = B at hg e1 e2 ⊢
  have HG := hid hg
  have HM := hid hmh
  clear hg hmh h ht
  by_cases h0 : t = []
  · rw [decide_eq_true h0] at e1
    rw [decide_eq_false (fun e => e h0)] at e2 ⊢
    rw [Bool.false_and]
    clear HG HM h0
    go_enter Tryz.func110, Tryz.ntmps110
    go_wp2_with fail
    go_ret
    exact ⟨rfl, Below.refl _ _⟩
  · rw [decide_eq_false h0] at e1
    rw [decide_eq_true h0] at e2 ⊢
    rw [Bool.true_and]
    clear h0
    go_enter Tryz.func110, Tryz.ntmps110
    go_wp2_with fail
    refine (HG.out _).mono ?_
    rintro e W1 ⟨rfl, hb1⟩
    have HM1 := hid (HM.out _ hb1)
    have HB := hid hb1
    clear hb1 HG HM
    cases G with
    | false =>
      go_wp2_with fail
      go_ret
      exact ⟨rfl, HB.out⟩
    | true =>
      go_wp2_with fail
      refine HM1.out.mono ?_
      rintro e W2 ⟨rfl, rfl⟩
      go_wp2_with fail
      go_ret
      exact ⟨rfl, HB.out⟩
/-- what the sieve makes of a start tag -/
theorem take_start (P : PolP) (sk : List UInt8) (n : EvP) : (sieveL P (sk, 0) ⟨1, n.n, n.a, []⟩).2 = none ∨ ∃ K, (sieveL P (sk, 0) ⟨1, n.n, n.a, []⟩) = ((sk, 0), some (.start n.n K)) := by
  unfold sieveL
  rw [if_neg (Nat.lt_irrefl 0)]
  split
  · exact .inl rfl
  · have e1 : outL P ⟨1, n.n, n.a, []⟩ = ruledF P ⟨1, n.n, n.a, []⟩ := by unfold outL; rw [if_pos rfl]
    rw [e1]
    unfold ruledF
    split
    · exact .inl rfl
    · unfold startF
      split
      · exact .inr ⟨_, rfl⟩
      · exact .inl rfl
end Go.Proofs.YtcncbhbdpcpkeaaGreatDoor

/-
  The fitter's isAllowed: its walk.
-/
namespace Go.Proofs.YtcncbhbdpcpkeaaGreatDoor
open Go.RowKit Go.Lib Own

theorem keeps_state {P : PolP} {n : EvP} (h : keepsE n (sieveL P ([], 0) ⟨1, n.n, n.a, []⟩).2 = true) : (sieveL P ([], 0) ⟨1, n.n, n.a, []⟩).1 = ([], 0) := by
  rcases take_start P [] n with e | ⟨K, e⟩
  · rw [e] at h; exact absurd h (by simp [keepsE])
  · rw [e]
theorem grow_two {W1 W W5 : World} {r : Option Nat} (hb : Below W1.heap.size W1 W) (g : W.grownBy W5 r) : W1.grownBy W5 r :=
  ⟨g.os.trans hb.os, g.tape.trans hb.tape, g.output.trans hb.output, Nat.le_trans hb.size g.size, fun k hk hr => (g.block k (Nat.lt_of_lt_of_le hk hb.size) hr).trans (hb.block k hk)⟩
theorem grow_cell {W W' : World} {r : Option Nat} (g : W.grownBy W' r) {a o : Nat} {v : Value} (h : W.cell? ⟨a, o, none⟩ = some v) (ha : some a ≠ r) : W'.cell? ⟨a, o, none⟩ = some v :=
  (World.cell?_of_block (g.block a (cell_block h) ha)).trans h
theorem grow_new {W W' W2 : World} {r : Option Nat} (g : W.grownBy W' r) (hb : Below W.heap.size W' W2) : W.grownBy W2 r :=
  ⟨hb.os.trans g.os, hb.tape.trans g.tape, hb.output.trans g.output, Nat.le_trans g.size hb.size, fun k hk hr => (hb.block k hk).trans (g.block k hk hr)⟩
set_option maxHeartbeats 8000000 in
set_option maxRecDepth 100000 in
theorem isAllowed_any (w0 : World) (sb b : Nat) (vr vs vd : Value) (P : PolP) (m : Int) (op : List (List UInt8)) (ov : Value) (la : Int) (n : EvP) (u : Value) (w : World) (h : FtS w0 w sb b vr vs vd P m op ov la) (hF : P.Few) (hu : AttrsR w0 u n.a) (hs : n.n.length + n.t.length + bulkA n.a ≤ 4000000) :
    Calls Tryz.prog 169 #[.pointer (some ⟨b, 0, none⟩), .agg (evC n u)] w fun e w' => e = .returned (.bool (keepsE n (sieveL P ([], 0) ⟨1, n.n, n.a, []⟩).2)) ∧ w.grownBy w' (some sb) ∧ (keepsE n (sieveL P ([], 0) ⟨1, n.n, n.a, []⟩).2 = true → w'.heap[sb]? = some (.cells (sieveC vr vs vd P [] 0) 205 (0, 0))) := by
  obtain ⟨up, uc, rfl⟩ := hu.len
  obtain ⟨W1, hW1⟩ : ∃ W1, (w.alloc (.cells (evC n (.slice up n.a.length uc)) 38)).alloc (.cells (evC ⟨1, n.n, n.a, []⟩ (.slice up n.a.length uc)) 60) = W1 := ⟨_, rfl⟩
  have hb1 : Below w.heap.size w W1 := by rw [← hW1]; exact ((Below.refl w.heap.size w).alloc (Nat.le_refl _) _).alloc (by simp) _
  have n0 : W1.heap[w.heap.size]? = some (.cells (evC n (.slice up n.a.length uc)) 38 (0, 0)) := by rw [← hW1]; exact (Go.Lib.alloc_old _ _ _ (by simp)).trans (heap_alloc_new w _)
  have n1 : W1.heap[w.heap.size + 1]? = some (.cells (evC ⟨1, n.n, n.a, []⟩ (.slice up n.a.length uc)) 60 (0, 0)) := by rw [← hW1]; exact heap_two_new w _ _ _
  have h1 := h.below hb1
  have hlt := block_lt h.at_
  have hlts := block_lt h.sv
  have htk := fun W (hW : Below W1.heap.size W1 W) => take_any w0 sb vr vs vd P [] 0 ⟨1, n.n, n.a, []⟩ (.slice up n.a.length uc) m W ⟨(h1.below hW).sv, h.pol, (h1.below hW).be, h.ls⟩ hF ((hu.below (h1.below hW).be)) (by simp only [List.length_nil]; omega) (by omega) (cell_low h.mx (h1.below hW).be (cell_block h.mx))
  have hst := take_start P [] n
  have hks := @keeps_state P n
  generalize sieveL P ([], 0) ⟨1, n.n, n.a, []⟩ = q at htk hst hks ⊢
  obtain ⟨⟨sk2, cnt2⟩, o2⟩ := q
  simp only at htk hst hks ⊢
  have c1 : W1.cell? ⟨b, 1, none⟩ = some (.pointer (some ⟨sb, 0, none⟩)) := cell_at h1.at_ (j := 1) rfl
  have y0 := free_at n1 0
  have y1 := free_at n1 1
  have y2 := free_at n1 2
  have y3 := free_at n1 3
  obtain ⟨d0, d1, d2, d3⟩ := evC_at n1
  obtain ⟨z0, z1, z2, z3⟩ := evC_at n0
  have m0 : W1.heap.size ≠ b := by have := hb1.size; omega
  have m1 : W1.heap.size ≠ w.heap.size + 1 := by have := block_lt n1; omega
  have m2 : W1.heap.size ≠ w.heap.size := by have := block_lt n1; omega
  have HH := hid (And.intro hb1 (And.intro h1 (And.intro n0 n1)))
  have HU := hid hu
  have HTK := hid htk
  have hbA : b < W1.heap.size := by have := hb1.size; omega
  have m3 : sb < W1.heap.size := by have := hb1.size; omega
  have m4 : w.heap.size + 1 < W1.heap.size := block_lt n1
  have m5 : w.heap.size < W1.heap.size := by omega
  have HE := hid (And.intro (ev_ne n1 h1.sv (by decide)) (And.intro (ev_ne n0 h1.sv (by decide)) h1.ne))
  unfold evC at hW1 HTK ⊢
  simp only at d0 d1 d2 d3
  have hbn : bs ([] : List UInt8) = ⟨#[]⟩ := rfl
  simp only [hbn] at hW1 HTK d3
  have HW := hid hW1
  clear htk hb1 n0 n1 h1 h hu hF hs hbn hW1
  rcases hst with e2 | ⟨K, e2⟩
  · subst e2
    have hk : keepsE n none = false := rfl
    rw [hk]
    clear hks hk
    go_enter Tryz.func169, Tryz.ntmps169
    go_upto_region 2 with fail
    simp only [HW.out]
    clear HW y0 y1 y2 y3
    go_region_held3 (fun w' => w'.cell? ⟨b, 1, none⟩ = some (.pointer (some ⟨sb, 0, none⟩)) ∧ w'.cell? ⟨w.heap.size + 1, 0, none⟩ = some (.int .i64 1) ∧ w'.cell? ⟨w.heap.size + 1, 1, none⟩ = some (.string (bs n.n)) ∧ w'.cell? ⟨w.heap.size + 1, 2, none⟩ = some (.slice up n.a.length uc) ∧ w'.cell? ⟨w.heap.size + 1, 3, none⟩ = some (.string ⟨#[]⟩)) (go_keep)
      (first | (go_at_call 216; refine (HTK.out _ (by first | exact below_drewN (Below.refl _ _) 1 | exact (below_drewN (Below.refl _ _) 1).alloc (Nat.le_refl _) _)).mono ?_; rintro r W5 ⟨rv, rfl, hrv, s5, g5⟩; obtain rfl : rv = .tuple #[.agg #[.int .i64 0, .string ⟨#[]⟩, .slice none 0 0, .string ⟨#[]⟩], .bool false] := hrv; have hG := grow_two (by first | exact below_drewN (Below.refl W1.heap.size W1) 1 | exact (below_drewN (Below.refl W1.heap.size W1) 1).alloc (Nat.le_refl _) _) g5; have a1 := grow_cell hG c1 (by intro e; cases e; exact HE.out.2.2 rfl); have a2 := grow_cell hG d0 (by intro e; cases e; exact HE.out.1 rfl); have a3 := grow_cell hG d1 (by intro e; cases e; exact HE.out.1 rfl); have a4 := grow_cell hG d2 (by intro e; cases e; exact HE.out.1 rfl); have a5 := grow_cell hG d3 (by intro e; cases e; exact HE.out.1 rfl); have k0 : W5.heap.size ≠ b := (by have := hG.size; omega); have k1 : W5.heap.size ≠ w.heap.size + 1 := (by have := hG.size; omega); have HG := hid hG; first | (have HZ4 := hid ((g5.block W1.heap.size (by simp) (fun e => absurd (Option.some.inj e) (by omega))).trans (heap_alloc_new W1.drew _)); have e0 := cell_at HZ4.out (j := 0) rfl; have e1 := cell_at HZ4.out (j := 1) rfl; have e2 := cell_at HZ4.out (j := 2) rfl; have e3 := cell_at HZ4.out (j := 3) rfl; have y0 := free_at HZ4.out 0; have y1 := free_at HZ4.out 1; have y2 := free_at HZ4.out 2; have y3 := free_at HZ4.out 3; clear g5 s5 hG) | (clear g5 s5 hG)))
    all_goals
      have HG2 := hid (grow_two HH.out.1 HG.out)
      have hw1 : w.heap.size ≤ W1.heap.size := by omega
      have hw5 := HG.out.size
      first
        | (have hj := just4 HZ4.out (.int .i64 0) (.string ⟨#[]⟩) (.slice none 0 0) (.string ⟨#[]⟩); have HF := hid (grow_new HG2.out (just_low hj hw1)); clear hj)
        | (have HF := hid (grow_new HG2.out (((Below.refl W5.heap.size W5).alloc (Nat.le_refl _) (.cells #[.int .i64 0, .string ⟨#[]⟩, .slice none 0 0, .string ⟨#[]⟩] 60)).mono (by omega))))
      go_wp2_with fail
      go_ret
      exact ⟨rfl, HF.out, fun e => by cases e⟩
  · obtain ⟨⟨rfl, rfl⟩, rfl⟩ := Prod.mk.inj e2 |>.imp Prod.mk.inj id
    have hk : keepsE n (some (.start n.n K)) = decide (K = n.a) := rfl
    rw [hk]
    clear hks hk e2
    go_enter Tryz.func169, Tryz.ntmps169
    go_upto_region 2 with fail
    simp only [HW.out]
    clear HW y0 y1 y2 y3
    go_region_held3 (fun w' => w'.cell? ⟨b, 1, none⟩ = some (.pointer (some ⟨sb, 0, none⟩)) ∧ w'.cell? ⟨w.heap.size + 1, 0, none⟩ = some (.int .i64 1) ∧ w'.cell? ⟨w.heap.size + 1, 1, none⟩ = some (.string (bs n.n)) ∧ w'.cell? ⟨w.heap.size + 1, 2, none⟩ = some (.slice up n.a.length uc) ∧ w'.cell? ⟨w.heap.size + 1, 3, none⟩ = some (.string ⟨#[]⟩)) (go_keep)
      (first | (go_at_call 216; refine (HTK.out _ (by first | exact below_drewN (Below.refl _ _) 1 | exact (below_drewN (Below.refl _ _) 1).alloc (Nat.le_refl _) _)).mono ?_; rintro r W5 ⟨rv, rfl, ⟨ek, en, ap, am, ac, et, rfl, hev⟩, s5, g5⟩; have HRW := hid hev.1.2.2.1; have HS5 := hid s5; clear hev; have hG := grow_two (by first | exact below_drewN (Below.refl W1.heap.size W1) 1 | exact (below_drewN (Below.refl W1.heap.size W1) 1).alloc (Nat.le_refl _) _) g5; have a1 := grow_cell hG c1 (by intro e; cases e; exact HE.out.2.2 rfl); have a2 := grow_cell hG d0 (by intro e; cases e; exact HE.out.1 rfl); have a3 := grow_cell hG d1 (by intro e; cases e; exact HE.out.1 rfl); have a4 := grow_cell hG d2 (by intro e; cases e; exact HE.out.1 rfl); have a5 := grow_cell hG d3 (by intro e; cases e; exact HE.out.1 rfl); have k0 : W5.heap.size ≠ b := (by have := hG.size; omega); have k1 : W5.heap.size ≠ w.heap.size + 1 := (by have := hG.size; omega); have HG := hid hG; first | (have HZ4 := hid ((g5.block W1.heap.size (by simp) (fun e => absurd (Option.some.inj e) (by omega))).trans (heap_alloc_new W1.drew _)); have e0 := cell_at HZ4.out (j := 0) rfl; have e1 := cell_at HZ4.out (j := 1) rfl; have e2 := cell_at HZ4.out (j := 2) rfl; have e3 := cell_at HZ4.out (j := 3) rfl; have y0 := free_at HZ4.out 0; have y1 := free_at HZ4.out 1; have y2 := free_at HZ4.out 2; have y3 := free_at HZ4.out 3; clear g5 s5 hG) | (clear g5 s5 hG)))
    all_goals
      have HG2 := hid (grow_two HH.out.1 HG.out)
      have hw1 : w.heap.size ≤ W1.heap.size := by omega
      have hw5 := HG.out.size
      first
        | (have hj := just4 HZ4.out (.int .i64 ek) (.string en) (.slice ap am ac) (.string et); have hr6 := row_just HRW.out HZ4.out (by decide) hj.other; have hb6 := just_low hj (Nat.le_refl _); have x2 := cell_at hj.at_ (j := 2) rfl; obtain ⟨W6, hW6⟩ : ∃ W6, (((W5.setCell ⟨W1.heap.size, 0, none⟩ (.int .i64 ek)).setCell ⟨W1.heap.size, 1, none⟩ (.string en)).setCell ⟨W1.heap.size, 2, none⟩ (.slice ap am ac)).setCell ⟨W1.heap.size, 3, none⟩ (.string et) = W6 := ⟨_, rfl⟩; rw [hW6] at hr6 hb6 x2; simp only [hW6]; clear hW6 hj e0 e1 e2 e3 y0 y1 y2 y3 HZ4)
        | (have hb6 : Below W5.heap.size W5 (W5.alloc (.cells #[.int .i64 ek, .string en, .slice ap am ac, .string et] 60)) := (Below.refl W5.heap.size W5).alloc (Nat.le_refl _) _; have hr6 := row_below HRW.out hb6; have x2 := cell_at (heap_alloc_new W5 (.cells #[.int .i64 ek, .string en, .slice ap am ac, .string et] 60)) (j := 2) rfl; obtain ⟨W6, hW6⟩ : ∃ W6, (W5.alloc (.cells #[.int .i64 ek, .string en, .slice ap am ac, .string et] 60)) = W6 := ⟨_, rfl⟩; rw [hW6] at hr6 hb6 x2; simp only [hW6]; replace hb6 := hb6.mono hw5; clear hW6)
      have HR6 := hid hr6
      have HB6 := hid hb6
      have b2 := cell_low (grow_cell HG.out z2 (by intro e; cases e; exact HE.out.2.1 rfl)) hb6 m5
      clear hr6 hb6 a1 a2 a3 a4 a5 c1 d0 d1 d2 d3 z0 z1 z2 z3 k0 k1 m0 m1 m2 HTK
      have be6 := (HH.out.2.1.lost HG.out).trans (HB6.out.mono HH.out.2.1.base)
      have hUa := HU.out.below be6
      have hA := attrsR_row HR6.out
      have HEq := hid (attrsEq_any _ _ K n.a W6 hA hUa)
      have hs6 := (HB6.out.block sb m3).trans HS5.out
      have hg6 := grow_new HG2.out (HB6.out.mono hw1)
      have HZ := hid (And.intro hg6 hs6)
      clear be6 hUa hA hs6 hg6
      go_wp2_with fail
      refine HEq.out.mono ?_
      rintro e W7 ⟨rfl, q, rfl⟩
      go_wp2_with fail
      go_ret
      exact ⟨rfl, grown_drewN HZ.out.1 q, fun _ => HZ.out.2⟩
end Go.Proofs.YtcncbhbdpcpkeaaGreatDoor
